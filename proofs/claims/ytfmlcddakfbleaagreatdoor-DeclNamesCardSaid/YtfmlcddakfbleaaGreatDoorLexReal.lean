/- lex.Real and lex.Clean: the real tokens of a clean text, and where another one is bad. -/
import Derived.Test.YtfmlcddakfbleaaGreatDoorLexAll
import Derived.BigQuiet
import Derived.Deep.QuietTactic
import Derived.Test.YtfmlcddakfbleaaGreatDoorTextStore
import Derived.Deep.DeepCutAuto
import Derived.Deep.RegionHeld3
namespace Go.Proofs.YtfmlcddakfbleaaGreatDoor
open Go.RowKit Go.Shelf SignMath

attribute [local go_sem] Oper.semAt_some

theorem tk_kinds (l : List UInt8) : ∀ t ∈ tk l 0, 1 ≤ t.k ∧ t.k ≤ 7 := by
  have key : ∀ (n at_ : Nat), l.length - at_ ≤ n → ∀ t ∈ tk l at_, 1 ≤ t.k ∧ t.k ≤ 7 := by
    intro n
    induction n with
    | zero => intro at_ h t ht; rw [tk_end (by omega)] at ht; cases ht
    | succ n ih =>
      intro at_ h t ht
      by_cases hl : at_ < l.length
      · have hz := ft_size (l := l.drop at_) (by intro e; have := congrArg List.length e; simp at this; omega)
        rw [tk_step hl] at ht
        rcases List.mem_cons.1 ht with rfl | ht
        · exact ft_kind _
        · exact ih _ (by omega) t ht
      · rw [tk_end (by omega)] at ht; cases ht
  exact key _ 0 (Nat.le_refl _)

/-- the first bad token -/
def bad (l : List Tk) : Option Tk := l.find? fun t => decide (t.k = 7)
/-- the real ones -/
def rls (l : List Tk) : List Tk := l.filter fun t => decide (2 < t.k)
theorem rls_snoc (l : List Tk) (t : Tk) : rls (l ++ [t]) = if 2 < t.k then rls l ++ [t] else rls l := by
  unfold rls; rw [List.filter_append]; by_cases h : 2 < t.k <;> simp [h]
theorem rls_len (l : List Tk) : (rls l).length ≤ l.length := List.length_filter_le _ _
theorem bad_snoc {l : List Tk} {t : Tk} (h : bad l = none) (ht : t.k ≠ 7) : bad (l ++ [t]) = none := by
  unfold bad at h ⊢; rw [List.find?_append, h]; simp [ht]
theorem bad_first {l xs : List Tk} {t : Tk} (hp : l ++ [t] <+: xs) (h : bad l = none) (ht : t.k = 7) : bad xs = some t := by
  obtain ⟨r, rfl⟩ := hp
  unfold bad at h ⊢; rw [List.find?_append, List.find?_append, h]; simp [ht]

/-- a box through an append to a row of another type -/
theorem Has.grew {base : Nat} {e t : TypeId} {size : Nat} {v u : Value} {n : Nat} {cs : List Value} {X : Nat → Prop} {W w' : World} {b : Nat} {o : Obj} (hb : Has b (.cells #[u] t (0, 0)) X W) (h : W.ownsRow base e size v n cs) (hte : t ≠ e) (hg : (W.alloc o).grownBy w' v.ownBlock) : Has b (.cells #[u] t (0, 0)) X w' :=
  ⟨hb.1, (hg.block _ (hb.alloc o).lt (row_ne h hb hte)).trans (hb.alloc o).2⟩

/-- what is answered of a list of tokens -/
def rlT (l : List Tk) : List Tk := match bad l with | some _ => [] | none => rls l
def rlA (l : List Tk) : Nat := match bad l with | some t => t.a | none => 0
def rlE (l : List Tk) : Value := match bad l with | some _ => errn 2 | none => .nilIface
def rlB (l : List Tk) : Bool := match bad l with | some _ => false | none => true
def RlV (L : List Tk) (w : World) (e : Ending) (w' : World) : Prop := ∃ A c, e = .returned (.tuple #[.slice A (rlT L).length c, .int .i64 (rlA L : Nat), rlE L]) ∧ Rdc w' w'.heap.size A (tcells (rlT L)) ∧ (∀ a, A = some a → w.heap.size ≤ a.block) ∧ Below w.heap.size w w'

theorem cell_other {w : World} {b b' o o' : Nat} (h : b ≠ b') (v : Value) : (w.setCell ⟨b', o', none⟩ v).cell? ⟨b, o, none⟩ = w.cell? ⟨b, o, none⟩ := World.cell?_setCell_other _ _ _ _ (fun e => h (by injection e with e; exact e.symm))

structure RlH (s : ByteArray) (y : Nat) (X : Nat → Prop) (W : World) : Prop where
  h0 : Has y (.cells #[.slice none 0 0] 80 (0, 0)) X W
  h1 : Has (y + 1) (.cells #[.int .i64 0] 3 (0, 0)) X W
  h2 : Has (y + 2) (.cells #[.nilIface] 25 (0, 0)) X W
  g : Has (y + 4) (.cells #[.string s] 9 (0, 0)) X W
theorem RlH.frames (s : ByteArray) (y : Nat) : Frames (RlH s y) := fun X X' W W' h ho hx =>
  ⟨Has.frames _ _ X X' W W' h.h0 ho hx, Has.frames _ _ X X' W W' h.h1 ho hx, Has.frames _ _ X X' W W' h.h2 ho hx, Has.frames _ _ X X' W W' h.g ho hx⟩
def RlI (w : World) (s : ByteArray) (pre : List Tk) : As := fun X W => Low w.heap.size w X W ∧ RlH s w.heap.size X W ∧ (∃ v, Has (w.heap.size + 3) (.cells #[v] 80 (0, 0)) X W ∧ Row w.heap.size 109 3 v (rls pre).length (tcells (rls pre)) X W) ∧ bad pre = none
theorem RlI.frames (w : World) (s : ByteArray) (pre : List Tk) : Frames (RlI w s pre) := (Low.frames _ _).and ((RlH.frames _ _).and ((Frames.ex fun _ => (Has.frames _ _).and (Row.frames _ _ _ _ _ _)).and (Frames.pure _)))
def RlX (w : World) (L : List Tk) (c : Code) (_ : List Tk) : As := fun X W => c = .ret ∧ Low w.heap.size w X W ∧ ∃ t, bad L = some t ∧ Has w.heap.size (.cells #[.slice none 0 0] 80 (0, 0)) X W ∧ Has (w.heap.size + 1) (.cells #[.int .i64 (t.a : Nat)] 3 (0, 0)) X W ∧ Has (w.heap.size + 2) (.cells #[errn 2] 25 (0, 0)) X W
theorem RlX.frames (w : World) (L : List Tk) (c : Code) (pre : List Tk) : Frames (RlX w L c pre) := (Frames.pure _).and ((Low.frames _ _).and (Frames.ex fun _ => (Frames.pure _).and ((Has.frames _ _).and ((Has.frames _ _).and (Has.frames _ _)))))
abbrev rlFrm (s : ByteArray) (y bp : Nat) (x : Tk) : Act := { tmps := #[.string s, undef, .pointer (some ⟨y, 0, none⟩), .pointer (some ⟨y + 1, 0, none⟩), .pointer (some ⟨y + 2, 0, none⟩), .pointer (some ⟨y + 3, 0, none⟩), .pointer (some ⟨bp, 0, none⟩), .string s, .func (.func 91) #[] #[.pointer (some ⟨y + 4, 0, none⟩)], tkv x, undef, undef, undef, undef, undef, undef, undef, undef, undef, undef, undef, undef, undef, undef, undef], defers := [] }

theorem ret3 {w W : World} {D : Nat} {v0 v1 v2 : Value} {t0 t1 t2 : TypeId} (hlow : Low w.heap.size w (· = D) W) (h0 : Has w.heap.size (.cells #[v0] t0 (0, 0)) (· = D) W) (h1 : Has (w.heap.size + 1) (.cells #[v1] t1 (0, 0)) (· = D) W) (h2 : Has (w.heap.size + 2) (.cells #[v2] t2 (0, 0)) (· = D) W) :
    (W.putObj D (.deferred none)).cell? ⟨w.heap.size, 0, none⟩ = some v0 ∧ (W.putObj D (.deferred none)).cell? ⟨w.heap.size + 1, 0, none⟩ = some v1 ∧ (W.putObj D (.deferred none)).cell? ⟨w.heap.size + 2, 0, none⟩ = some v2 ∧ Below w.heap.size w (W.putObj D (.deferred none)) := by
  have ho : Off (· = D) W (W.putObj D (.deferred none)) := Off.putObj (X := (· = D)) rfl _ _
  exact ⟨((Has.frames _ _).off h0 ho).cell, ((Has.frames _ _).off h1 ho).cell, ((Has.frames _ _).off h2 ho).cell, ((Low.frames _ _).off hlow ho).1⟩

set_option maxRecDepth 100000 in
set_option maxHeartbeats 2000000 in
theorem real_any (s : ByteArray) (hs : s.size ≤ 10000) (w : World) (hL : LaidX w) :
    Calls Tryz.prog 47 #[.string s] w (RlV (tk (bs s) 0) w) := by
  have hLn := tk_size s
  have HK := Lib.hid (tk_kinds (bs s))
  have HIT := Lib.hid (all_iter s hs w hL (w.heap.size + 4))
  generalize tk (bs s) 0 = L at HIT hLn HK ⊢
  refine (callsIn_wide (n := 8)).1 ?_
  refine callsIn_of_wp_marks Tryz.func47 rfl trivial ?_ rfl
  simp only [Tryz.ntmps47, List.size_toArray, List.length_cons, List.length_nil, Nat.reduceAdd, Nat.reduceSub, Array.replicate_succ, Array.replicate_zero, List.push_toArray, List.append_toArray, List.nil_append, List.cons_append]
  gi_wp2_with (refine ⟨trivial, ?_⟩; gi_at_call 69; refine (callsIn_wide.2 (lexAll_any s _)).mono ?_; rintro e w' ⟨rfl, rfl⟩)
  refine range_out HIT.out rfl eg_all (fun _ => rfl) (RlI w s) (RlX w L) (fun pre x a' X W => ∃ bp, RlI w s pre X W ∧ Has bp (tkc x) X W ∧ a' = rlFrm s w.heap.size bp x) ?fI ?fX ?fA ?hC ?h0 ?assign ?body ?done ?stop
  case fI => exact fun pre => RlI.frames _ _ _
  case fX => exact fun c pre => RlX.frames _ _ _ _
  case fA => exact fun pre p a' => Frames.ex fun bp => (RlI.frames _ _ _).and ((Has.frames _ _).and (Frames.pure _))
  case hC => exact fun pre X W1 h => ⟨h.1, h.2.1.g⟩
  case h0 =>
    refine ⟨⟨?_, by simp; omega, fun _ h => h.elim⟩, ⟨?_, ?_, ?_, ?_⟩, ⟨.slice none 0 0, ?_, World.ownsRow_nil _ _ _ _, fun k hk => by cases hk⟩, rfl⟩
    · exact ((((lbelow1 w _).alloc (by simp) _).alloc (by simp; omega) _).alloc (by simp; omega) _).alloc (by simp; omega) _
    · exact ((((Has.newAt (fun h => h) rfl _).alloc _).alloc _).alloc _).alloc _
    · exact (((Has.newAt (fun h => h) (by simp) _).alloc _).alloc _).alloc _
    · exact ((Has.newAt (fun h => h) (by simp) _).alloc _).alloc _
    · exact Has.newAt (fun h => h) (by simp) _
    · exact (Has.newAt (fun h => h) (by simp) _).alloc _
  case assign =>
    rintro lq X pre x W1 K hX hXb hi hp hK
    gi_wp2
    exact hK _ _ (by simp) (Kept.alloc _ _ _) ⟨W1.heap.size, (RlI.frames _ _ _).off hi (Off.alloc _ _ _), Has.new hXb _, rfl⟩
  case body =>
    rintro lq X pre x a' W1 hX hXb hr2 ⟨bp, ⟨hlow, hh, ⟨v, hy, hrow⟩, hbd⟩, hbp, rfl⟩ hp
    obtain ⟨A0, c0, rfl⟩ := own_slice hrow.1
    have hlen : (rls pre).length < 20000 := by have h1 := hp.length_le; have h2 := rls_len pre; simp at h1; omega
    have p0 := hbp.cell (i := 0)
    have p1 := hbp.cell (i := 1)
    have p2 := hbp.cell (i := 2)
    have q3 := hy.cell (i := 0)
    simp only [List.getElem?_toArray, List.getElem?_cons_zero, List.getElem?_cons_succ] at p0 p1 p2 q3
    have HP := Lib.hid hp
    have HB := Lib.hid hbd
    clear hp hbd
    have b7 := beqd (x.k : Int) 7
    have b1 := beqd (x.k : Int) 1
    have b2 := beqd (x.k : Int) 2
    by_cases k7 : x.k = 7
    · rw [decide_eq_true (by omega)] at b7
      clear b1 b2
      gi_wp2
      refine wpIn_region_held (fun W' => W'.cell? ⟨bp, 1, none⟩ = some (.int .i64 (x.a : Nat))) (by kernel_rfl) (by kernel_rfl) ?hQ ?_
      case hQ => rintro ⟨_, _, h⟩; exact h
      have hh2 : RlH s w.heap.size X W1.drew := (RlH.frames _ _).off hh (Off.drew X W1)
      have hbp2 : Has bp (tkc x) X W1.drew := hbp
      have hlow2 : Low w.heap.size w X W1.drew := (Low.frames _ _).off hlow (Off.drew X W1)
      have hk2 : Kept X W1 W1.drew := fun _ _ _ => rfl
      have hs2 : W1.heap.size ≤ W1.drew.heap.size := Nat.le_refl _
      have hS : W1.drew.cell? ⟨bp, 1, none⟩ = some (.int .i64 (x.a : Nat)) := p1
      show wpAnyH _ _ _ _ _ _ _ _ W1.drew
      clear hh hlow p0 p1 p2 q3 hy hrow hbp
      generalize W1.drew = W2 at *
      refine wpAnyH_take_d (i := 0) (v := .pointer (some ⟨bp, 1, none⟩)) 18 rfl rfl (by kernel_rfl) (by kernel_rfl) (by kernel_rfl) (fun _ _ _ h => h) (Or.inl ⟨by kernel_rfl, fun w' hS' => ?y0⟩) hS ?_
      case y0 => go_simp
      simp only [Act.put, List.setIfInBounds_toArray, List.set_cons_zero, List.set_cons_succ]
      refine wpAnyH_take_d (i := 1) (v := .int .i64 (x.a : Nat)) 19 rfl rfl (by kernel_rfl) (by kernel_rfl) (by kernel_rfl) (fun _ _ _ h => h) (Or.inl ⟨by kernel_rfl, fun w' hS' => ?y1⟩) hS ?_
      case y1 => go_simp
      simp only [Act.put, List.setIfInBounds_toArray, List.set_cons_zero, List.set_cons_succ]
      refine wpAnyH_take_d (i := 2) (v := errn 2) 20 rfl rfl (by kernel_rfl) (by kernel_rfl) (by kernel_rfl) (fun _ _ _ h => h) (Or.inl ⟨by kernel_rfl, fun w' hS' => ?y2⟩) hS ?_
      case y2 => go_simp
      simp only [Act.put, List.setIfInBounds_toArray, List.set_cons_zero, List.set_cons_succ]
      have q0 := hh2.h0.cell (i := 0)
      have q1 := hh2.h1.cell (i := 0)
      have q2 := hh2.h2.cell (i := 0)
      have f0 := hh2.h0.frozen (i := 0)
      have f1 := hh2.h1.frozen (i := 0)
      have f2 := hh2.h2.frozen (i := 0)
      have n0 : bp ≠ w.heap.size := hbp2.ne hh2.h0 (by simp)
      have n1 : bp ≠ w.heap.size + 1 := hbp2.ne hh2.h1 (by simp)
      have n2 : bp ≠ w.heap.size + 2 := hbp2.ne hh2.h2 (by simp)
      simp only [List.getElem?_toArray, List.getElem?_cons_zero] at q0 q1 q2
      have q1' : (W2.setCell ⟨w.heap.size, 0, none⟩ (.slice none 0 0)).cell? ⟨w.heap.size + 1, 0, none⟩ = some (.int .i64 0) := (cell_other (by omega) _).trans q1
      have q2' : ((W2.setCell ⟨w.heap.size, 0, none⟩ (.slice none 0 0)).setCell ⟨w.heap.size + 1, 0, none⟩ (.int .i64 (x.a : Nat))).cell? ⟨w.heap.size + 2, 0, none⟩ = some .nilIface := (cell_other (by omega) _).trans ((cell_other (by omega) _).trans q2)
      refine wpAnyH_ready (rs := [3]) (by kernel_rfl) (by simp) ?_
      refine AllReadyH.cons rfl (fun K hK => ?_) AllReadyH.nil
      go_simp
      refine hK.out _ _ ((cell_other n0 _).trans hS) (fun _ => ?_)
      clear hK K
      refine wpAnyH_ready (rs := [4]) (by kernel_rfl) (by simp) ?_
      refine AllReadyH.cons rfl (fun K hK => ?_) AllReadyH.nil
      go_simp
      refine hK.out _ _ ((cell_other n1 _).trans ((cell_other n0 _).trans hS)) (fun _ => ?_)
      clear hK K
      refine wpAnyH_ready (rs := [5]) (by kernel_rfl) (by simp) ?_
      refine AllReadyH.cons rfl (fun K hK => ?_) AllReadyH.nil
      go_simp
      refine hK.out _ _ ((cell_other n2 _).trans ((cell_other n1 _).trans ((cell_other n0 _).trans hS))) (fun _ => ?_)
      clear hK K
      refine wpAnyH_done (by kernel_rfl) ?_ _
      gi_wp2
      refine ⟨?_, ?_, rfl, ?_, x, bad_first HP.out HB.out k7, ?_, ?_, ?_⟩
      · simp only [World.setCell, Array.size_modify]; exact hs2
      · exact Kept.trans hs2 hk2 (Kept.trans (by simp [World.setCell]) (Kept.set hh2.h0.1 _ _) (Kept.trans (by simp [World.setCell]) (Kept.set hh2.h1.1 _ _) (Kept.set hh2.h2.1 _ _)))
      · exact ⟨((hlow2.1.setCell (p := ⟨w.heap.size, 0, none⟩) (by simp) _).setCell (p := ⟨w.heap.size + 1, 0, none⟩) (by simp) _).setCell (p := ⟨w.heap.size + 2, 0, none⟩) (by simp) _, by have := hlow2.2.1; simp [World.setCell]; omega, hlow2.2.2⟩
      · exact ((hh2.h0.set).other (by omega)).other (by omega)
      · exact ((hh2.h1.other (by omega)).set).other (by omega)
      · exact ((hh2.h2.other (by omega)).other (by omega)).set
    · rw [decide_eq_false (by omega)] at b7
      by_cases k1 : x.k = 1
      · rw [decide_eq_true (by omega)] at b1
        clear b2
        gi_wp2
        exact ⟨Nat.le_refl _, Kept.refl _ _, hlow, hh, ⟨_, hy, by rw [rls_snoc, if_neg (by omega)]; exact hrow⟩, bad_snoc HB.out k7⟩
      · rw [decide_eq_false (by omega)] at b1
        by_cases k2 : x.k = 2
        · rw [decide_eq_true (by omega)] at b2
          gi_wp2
          exact ⟨Nat.le_refl _, Kept.refl _ _, hlow, hh, ⟨_, hy, by rw [rls_snoc, if_neg (by omega)]; exact hrow⟩, bad_snoc HB.out k7⟩
        · rw [decide_eq_false (by omega)] at b2
          have hk : 2 < x.k := by have := (HK.out x (HP.out.subset (by simp))).1; omega
          have hne := row_ne hrow.1 hy (by decide)
          gi_wp2_with (gi_at_builtin; refine wpListIn_append_at (W1.alloc _) rfl _ _ 80 rfl w.heap.size 109 _ 3 24 Tryz.underlying80 info_token rfl (by decide) _ (rls pre).length _ rfl (hrow.1.alloc _) W1.heap.size _ rfl (World.alloc_heap_new W1 _) rfl (by intro u hu; simp at hu; rcases hu with rfl | rfl | rfl <;> rfl) (by unfold maxLen; omega) (by omega) (by have := hlow.2.1; simp; omega) ?_; intro v' w1' hown' hgrow hat; obtain ⟨A1, c1, rfl⟩ := own_slice hown'; have hy1 : Has (w.heap.size + 3) (.cells #[.slice A0 (rls pre).length c0] 80 (0, 0)) X w1' := hy.grew hrow.1 (by decide) hgrow; have q1 := hy1.cell (i := 0); have f1 := hy1.frozen (i := 0); simp only [List.getElem?_toArray, List.getElem?_cons_zero] at q1)
          obtain ⟨hrow1, hk1⟩ := Row.appended ((Row.frames _ _ _ _ _ _).off hrow (Off.alloc _ W1 _)) hXb (by simp) hown' hgrow hat
          have hs1 : W1.heap.size ≤ w1'.heap.size := Nat.le_trans (by simp) hgrow.size
          have hk2 : Kept X W1 w1' := Kept.trans (by simp) (Kept.alloc _ _ _) hk1
          have hlow1 : Low w.heap.size w X w1' := ⟨(hlow.1.alloc hlow.2.1 _).grown hgrow (by have := hlow.2.1; simp; omega) (fun k hk => (World.ownsRow.lt hrow.1 k hk).1), Nat.le_trans hlow.2.1 hs1, hlow.2.2⟩
          refine ⟨?_, ?_, ?_, ⟨?_, ?_, ?_, ?_⟩, ⟨_, hy1.set, ?_⟩, bad_snoc HB.out k7⟩
          · simp only [World.setCell, Array.size_modify]; exact hs1
          · exact Kept.trans hs1 hk2 (Kept.set hy1.1 _ _)
          · exact ⟨hlow1.1.setCell (p := ⟨w.heap.size + 3, 0, none⟩) (by simp) _, by have := hlow1.2.1; simp only [World.setCell, Array.size_modify]; exact this, hlow1.2.2⟩
          · exact (hh.h0.grew hrow.1 (by decide) hgrow).other (by omega)
          · exact (hh.h1.grew hrow.1 (by decide) hgrow).other (by omega)
          · exact (hh.h2.grew hrow.1 (by decide) hgrow).other (by omega)
          · exact (hh.g.grew hrow.1 (by decide) hgrow).other (by omega)
          · rw [rls_snoc, if_pos hk, List.length_append, tcells_snoc]
            exact row_set hrow1 hy1 (by decide)
  case done =>
    rintro D W1 ⟨hlow, hh, ⟨v, hy, hrow⟩, hbd⟩ hD
    obtain ⟨A0, c0, rfl⟩ := own_slice hrow.1
    have q0 := hh.h0.cell (i := 0)
    have q1 := hh.h1.cell (i := 0)
    have f0 := hh.h0.frozen (i := 0)
    have f1 := hh.h1.frozen (i := 0)
    have f2 : W1.frozen? ⟨w.heap.size + 1 + 1, 0, none⟩ = false := hh.h2.frozen (i := 0)
    have q2 : W1.cell? ⟨w.heap.size + 1 + 1, 0, none⟩ = some .nilIface := hh.h2.cell (i := 0)
    have q3 : W1.cell? ⟨w.heap.size + 1 + 1 + 1, 0, none⟩ = some (.slice A0 (rls L).length c0) := hy.cell (i := 0)
    simp only [List.getElem?_toArray, List.getElem?_cons_zero] at q0 q1
    have q1' : (W1.setCell ⟨w.heap.size, 0, none⟩ (.slice A0 (rls L).length c0)).cell? ⟨w.heap.size + 1, 0, none⟩ = some (.int .i64 0) := (cell_other (by omega) _).trans q1
    have q2' : ((W1.setCell ⟨w.heap.size, 0, none⟩ (.slice A0 (rls L).length c0)).setCell ⟨w.heap.size + 1, 0, none⟩ (.int .i64 0)).cell? ⟨w.heap.size + 1 + 1, 0, none⟩ = some .nilIface := (cell_other (by omega) _).trans ((cell_other (by omega) _).trans q2)
    gi_wp2
    have g0 : Has w.heap.size (.cells #[.slice A0 (rls L).length c0] 80 (0, 0)) (· = D) (((W1.setCell ⟨w.heap.size, 0, none⟩ (.slice A0 (rls L).length c0)).setCell ⟨w.heap.size + 1, 0, none⟩ (.int .i64 0)).setCell ⟨w.heap.size + 2, 0, none⟩ .nilIface) := ((hh.h0.set).other (by omega)).other (by omega)
    have g1 : Has (w.heap.size + 1) (.cells #[.int .i64 0] 3 (0, 0)) (· = D) (((W1.setCell ⟨w.heap.size, 0, none⟩ (.slice A0 (rls L).length c0)).setCell ⟨w.heap.size + 1, 0, none⟩ (.int .i64 0)).setCell ⟨w.heap.size + 2, 0, none⟩ .nilIface) := ((hh.h1.other (by omega)).set).other (by omega)
    have g2 : Has (w.heap.size + 2) (.cells #[.nilIface] 25 (0, 0)) (· = D) (((W1.setCell ⟨w.heap.size, 0, none⟩ (.slice A0 (rls L).length c0)).setCell ⟨w.heap.size + 1, 0, none⟩ (.int .i64 0)).setCell ⟨w.heap.size + 2, 0, none⟩ .nilIface) := ((hh.h2.other (by omega)).other (by omega)).set
    have hrow3 : Row w.heap.size 109 3 (.slice A0 (rls L).length c0) (rls L).length (tcells (rls L)) (· = D) (((W1.setCell ⟨w.heap.size, 0, none⟩ (.slice A0 (rls L).length c0)).setCell ⟨w.heap.size + 1, 0, none⟩ (.int .i64 0)).setCell ⟨w.heap.size + 2, 0, none⟩ .nilIface) := row_set (row_set (row_set hrow hh.h0 (by decide)) (hh.h1.other (by omega)) (by decide)) ((hh.h2.other (by omega)).other (by omega)) (by decide)
    have hlow3 : Low w.heap.size w (· = D) (((W1.setCell ⟨w.heap.size, 0, none⟩ (.slice A0 (rls L).length c0)).setCell ⟨w.heap.size + 1, 0, none⟩ (.int .i64 0)).setCell ⟨w.heap.size + 2, 0, none⟩ .nilIface) := ⟨((hlow.1.setCell (p := ⟨w.heap.size, 0, none⟩) (by simp) _).setCell (p := ⟨w.heap.size + 1, 0, none⟩) (by simp) _).setCell (p := ⟨w.heap.size + 2, 0, none⟩) (by simp) _, by have := hlow.2.1; simp [World.setCell]; omega, hlow.2.2⟩
    have hD3 : (((W1.setCell ⟨w.heap.size, 0, none⟩ (.slice A0 (rls L).length c0)).setCell ⟨w.heap.size + 1, 0, none⟩ (.int .i64 0)).setCell ⟨w.heap.size + 2, 0, none⟩ .nilIface).heap[D]? = some (.deferred (some [])) := (Below.heap_setCell _ _ _ _ (fun e => hh.h2.1 e.symm)).trans ((Below.heap_setCell _ _ _ _ (fun e => hh.h1.1 e.symm)).trans ((Below.heap_setCell _ _ _ _ (fun e => hh.h0.1 e.symm)).trans hD))
    obtain ⟨r0, r1, r2, r4⟩ := ret3 hlow3 g0 g1 g2
    have hrow4 := (Row.frames _ _ _ _ _ _).off hrow3 (Off.putObj (X := (· = D)) rfl _ (.deferred none))
    refine ⟨by simp, .inl ⟨_, _, rfl, run_takeDeferred hD3, ?_⟩⟩
    refine ⟨.tuple #[.slice A0 (rls L).length c0, .int .i64 0, .nilIface], by simp [results, Tryz.results47, go_sem, r0, r1, r2], A0, c0, ?_, ?_, (fun a ha => (World.ownsRow.lt hrow4.1 a.block (by rw [ha]; rfl)).1), r4⟩
    · simp [rlT, rlA, rlE, hbd]
    · rw [show rlT L = rls L by simp [rlT, hbd]]; exact own_read hrow4.1
  case stop =>
    rintro D c pre W1 hp ⟨rfl, hlow, t, hf, g0, g1, g2⟩ hD
    gi_wp2
    obtain ⟨r0, r1, r2, r4⟩ := ret3 hlow g0 g1 g2
    refine ⟨by simp, .inl ⟨_, _, rfl, run_takeDeferred hD, ?_⟩⟩
    refine ⟨.tuple #[.slice none 0 0, .int .i64 (t.a : Nat), errn 2], by simp [results, Tryz.results47, go_sem, r0, r1, r2], none, 0, ?_, ?_, ?_, r4⟩
    · simp [rlT, rlA, rlE, hf]
    · simp [rlT, hf, tcells, Rdc]
    · intro a ha; cases ha
end Go.Proofs.YtfmlcddakfbleaaGreatDoor
