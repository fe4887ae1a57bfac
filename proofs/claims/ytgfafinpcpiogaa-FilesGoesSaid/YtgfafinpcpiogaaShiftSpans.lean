/- Spans, at all lists. -/
import Derived.Test.YtgfafinpcpiogaaShiftGoes
import Derived.Test.YtgfafinpcpiogaaShiftRow
namespace Go.Proofs.Ytgfafinpcpiogaa
open Go.RowKit Go.Shelf EditMath ShiftMath

attribute [local go_sem] Oper.semAt_some

abbrev spI (x : Ed × Int) : Int × Int := (x.1.f + x.2, x.1.f + x.2 + x.1.s.size)
def scells (l : List (Int × Int)) : List Value := l.flatMap fun p => [.int .i64 p.1, .int .i64 p.2]
theorem scells_length (l : List (Int × Int)) : (scells l).length = l.length * 2 := by
  unfold scells
  induction l with
  | nil => rfl
  | cons p ps ih => simp [List.flatMap_cons, ih]; omega
theorem scells_at : ∀ (l : List (Int × Int)) (i : Nat) (p : Int × Int), l[i]? = some p → (scells l)[i * 2]? = some (.int .i64 p.1) ∧ (scells l)[i * 2 + 1]? = some (.int .i64 p.2) := by
  intro l
  induction l with
  | nil => intro i p h; simp at h
  | cons q ps ih =>
    intro i p h
    have e : scells (q :: ps) = .int .i64 q.1 :: .int .i64 q.2 :: scells ps := by simp [scells, List.flatMap_cons]
    cases i with
    | zero => simp at h; subst h; rw [e]; exact ⟨rfl, rfl⟩
    | succ i =>
      simp at h
      obtain ⟨h1, h2⟩ := ih i p h
      rw [e]
      exact ⟨by rw [show (i + 1) * 2 = i * 2 + 1 + 1 from by omega]; simpa using h1, by rw [show (i + 1) * 2 + 1 = i * 2 + 1 + 1 + 1 from by omega]; simpa using h2⟩
theorem scells_snoc (l : List (Int × Int)) (p : Int × Int) : scells (l ++ [p]) = scells l ++ [.int .i64 p.1, .int .i64 p.2] := by simp [scells]

theorem info_span : (Try.prog.info? 39).map (fun i => (i.zero, i.size, i.bytes)) = some (some (.agg #[.int .i64 0, .int .i64 0]), 2, 16) := by kernel_rfl

def SpV (L : List (Int × Int)) (w : World) (e : Ending) (w' : World) : Prop := ∃ A c, e = .returned (.tuple #[.slice A L.length c, .nilIface]) ∧ Rdc w' w'.heap.size A (scells L) ∧ Below w.heap.size w w'

/-- a row's block is no box of another type -/
theorem row_ne {base : Nat} {e t : TypeId} {size : Nat} {v u : Value} {n : Nat} {cs : List Value} {X : Nat → Prop} {W : World} {b : Nat} (h : W.ownsRow base e size v n cs) (hb : Has b (.cells #[u] t (0, 0)) X W) (hte : t ≠ e) : some b ≠ v.ownBlock := by
  intro hh
  rcases h.2 with ⟨rfl, _⟩ | ⟨g, cap, cur, rfl, _, hg, _⟩
  · cases hh
  · injection hh with hh
    subst hh
    have := hb.2.symm.trans hg
    injection this with this
    injection this with _ h2 _
    exact hte h2

/-- a box of another type that is set leaves a row -/
theorem row_set {base : Nat} {e t : TypeId} {size : Nat} {v u u' : Value} {n : Nat} {cs : List Value} {X : Nat → Prop} {W : World} {b : Nat} (h : Row base e size v n cs X W) (hb : Has b (.cells #[u] t (0, 0)) X W) (hte : t ≠ e) : Row base e size v n cs X (W.setCell ⟨b, 0, none⟩ u') :=
  ⟨World.ownsRow.kept h.1 (grownBy_setCell' W b u') (.inr (fun hh => row_ne h.1 hb hte hh.symm)), h.2⟩

set_option maxRecDepth 100000 in
set_option maxHeartbeats 1000000 in
theorem spans_bad (A : Option Addr) (c : Nat) (l : List Ed) (size : Int) (w : World) (hl : l.length ≤ 10000) (hr : Eds w w.heap.size A l) (hR : rt l size = false) :
    Calls Try.prog 18 #[.slice A l.length c, .int .i64 size] w fun e w' => e = .returned (.tuple #[.slice none 0 0, errn 2]) ∧ Below w.heap.size w w' := by
  have HR := Lib.hid hR
  clear hR
  go_enter Try.func18, Try.ntmps18
  go_wp2_with (go_at_call 49; refine (right_any A c l size _ hl hr).mono ?_; rw [HR.out]; rintro e w1 ⟨rfl, hB1⟩)
  go_ret2
  exact ⟨rfl, hB1⟩

def SpI (w : World) (y : Nat) (u : Value) (pre : List (Ed × Int)) : As := fun X W => Low w.heap.size w X W ∧ Has (y + 1) (.cells #[u] 22 (0, 0)) X W ∧
  ∃ v, Has y (.cells #[v] 31 (0, 0)) X W ∧ Row w.heap.size 39 2 v pre.length (scells (pre.map spI)) X W
theorem SpI.frames (w : World) (y : Nat) (u : Value) (pre : List (Ed × Int)) : Frames (SpI w y u pre) := (Low.frames _ _).and ((Has.frames _ _).and (Frames.ex fun _ => (Has.frames _ _).and (Row.frames _ _ _ _ _ _)))
abbrev spFrm (y bs : Nat) (A : Option Addr) (n c : Nat) (size : Int) (x : Ed × Int) : Act := { tmps := #[.slice A n c, .int .i64 size, undef, undef, .slice none 0 0, .nilIface, .pointer (some ⟨y, 0, none⟩), undef, .pointer (some ⟨bs, 0, none⟩), .slice A n c, .int .i64 size, .bool true, .bool false, undef, .slice A n c, .func (.func 87) #[] #[.pointer (some ⟨y + 1, 0, none⟩)], edv x.1, spv x, undef, undef, undef, undef, undef], defers := [] }
def SpA (w : World) (y : Nat) (A : Option Addr) (n c : Nat) (size : Int) (pre : List (Ed × Int)) (x : Ed × Int) (a' : Act) : As := fun X W => ∃ bs,
  SpI w y (.slice A n c) pre X W ∧ Has bs (.cells #[.int .i64 (spI x).1, .int .i64 (spI x).2] 39 (0, 0)) X W ∧ a' = spFrm y bs A n c size x

set_option maxRecDepth 100000 in
set_option maxHeartbeats 1000000 in
theorem spans_ok (A : Option Addr) (c : Nat) (l : List Ed) (size : Int) (w : World) (hl : l.length ≤ 10000) (hr : Eds w w.heap.size A l) (hR : rt l size = true) (hs : Small l) :
    Calls Try.prog 18 #[.slice A l.length c, .int .i64 size] w (SpV ((pld l).map spI) w) := by
  have HR := Lib.hid hR
  clear hR
  refine (callsIn_wide (n := 8)).1 ?_
  refine callsIn_of_wp_marks Try.func18 rfl trivial ?_ rfl
  simp only [Try.ntmps18, List.size_toArray, List.length_cons, List.length_nil, Nat.reduceAdd, Nat.reduceSub, Array.replicate_succ, Array.replicate_zero, List.push_toArray, List.append_toArray, List.nil_append, List.cons_append]
  gi_wp2_with (first | (refine ⟨trivial, ?_⟩; gi_at_call 49; refine (callsIn_wide.2 (right_any A c l size _ hl hr)).mono ?_; rw [HR.out]; rintro e w1 ⟨rfl, hB1⟩) | (refine ⟨trivial, ?_⟩; gi_at_call 53; refine (callsIn_wide.2 (placed_any _ _ ⟨_, _, _, rfl⟩)).mono ?_; rintro e w' ⟨rfl, rfl⟩))
  refine range_out (placed_iter (w1.heap.size + 1) A c l (by omega) hs) rfl (enters_of Try.func87 (by kernel_rfl) rfl) (fun _ => rfl)
    (SpI w w1.heap.size (.slice A l.length c)) (fun _ _ _ _ => False) (SpA w w1.heap.size A l.length c size) ?fI ?fX ?fA ?hC ?h0 ?assign ?body ?done ?stop
  case fI => exact fun pre => SpI.frames _ _ _ _
  case fX => exact fun c pre => Frames.pure _
  case fA => exact fun pre p a' => Frames.ex fun bp => (SpI.frames _ _ _ _).and ((Has.frames _ _).and (Frames.pure _))
  case hC =>
    rintro pre X W1 ⟨hlow, hg, _⟩
    exact ⟨hg, _, hr.below hlow.1, hlow.2.1⟩
  case h0 =>
    exact ⟨⟨(hB1.alloc hB1.size _).alloc (by have := hB1.size; simp; omega) _, by have := hB1.size; simp; omega, fun _ h => h.elim⟩, Has.newAt (fun h => h) (by simp) _, .slice none 0 0, (Has.newAt (fun h => h) rfl _).alloc _, World.ownsRow_nil _ _ _ _, fun k hk => by cases hk⟩
  case assign =>
    rintro lq X pre x W1 K hX hXb hi hp hK
    gi_wp2
    exact hK _ _ (by simp) (Kept.alloc _ _ _) ⟨W1.heap.size, (SpI.frames _ _ _ _).off hi (Off.alloc _ _ _), Has.new hXb _, rfl⟩
  case body =>
    rintro lq X pre x a' W1 hX hXb hr2 ⟨bs, ⟨hlow, hg, v, hy, hrow⟩, hbs, rfl⟩ hp
    obtain ⟨hp1, hp2⟩ := pref_iff hp
    have hlen : pre.length < 10000 := by have := (List.getElem?_eq_some_iff.1 hp2).1; rw [pld_length] at this; omega
    clear hp1 hp2 hp
    obtain ⟨A0, c0, rfl⟩ := own_slice hrow.1
    have p0 := hbs.cell (i := 0)
    have p1 := hbs.cell (i := 1)
    have q0 := hy.cell (i := 0)
    simp only [List.getElem?_toArray, List.getElem?_cons_zero, List.getElem?_cons_succ] at p0 p1 q0
    have hne := row_ne hrow.1 hy (by decide)
    gi_wp2_with (gi_at_builtin; refine wpListIn_append_at (W1.alloc _) rfl _ _ 31 rfl w.heap.size 39 _ 2 16 Try.underlying31 info_span rfl (by decide) _ pre.length _ rfl (hrow.1.alloc _) W1.heap.size _ rfl (World.alloc_heap_new W1 _) rfl (by intro u hu; simp at hu; rcases hu with rfl | rfl <;> rfl) (by unfold maxLen; omega) (by omega) (by have := hlow.2.1; simp; omega) ?_; intro v' w1' hown' hgrow hat; obtain ⟨A1, c1, rfl⟩ := own_slice hown'; have hy1 : Has w1.heap.size (.cells #[.slice A0 pre.length c0] 31 (0, 0)) X w1' := ⟨hy.1, (hgrow.block _ (hy.alloc _).lt hne).trans (hy.alloc _).2⟩; have q1 := hy1.cell (i := 0); have f1 := hy1.frozen (i := 0); simp only [List.getElem?_toArray, List.getElem?_cons_zero] at q1)
    obtain ⟨hrow1, hk1⟩ := Row.appended ((Row.frames _ _ _ _ _ _).off hrow (Off.alloc _ W1 _)) hXb (by simp) hown' hgrow hat
    have hs1 : W1.heap.size ≤ w1'.heap.size := Nat.le_trans (by simp) hgrow.size
    have hk2 : Kept X W1 w1' := Kept.trans (by simp) (Kept.alloc _ _ _) hk1
    have hlow1 : Low w.heap.size w X w1' := ⟨(hlow.1.alloc hlow.2.1 _).grown hgrow (by have := hlow.2.1; simp; omega) (fun k hk => (World.ownsRow.lt hrow.1 k hk).1), Nat.le_trans hlow.2.1 hs1, hlow.2.2⟩
    have hg1 : Has (w1.heap.size + 1) (.cells #[.slice A l.length c] 22 (0, 0)) X w1' := ⟨hg.1, (hgrow.block _ (hg.alloc _).lt (row_ne hrow.1 hg (by decide))).trans (hg.alloc _).2⟩
    refine ⟨?_, ?_, ?_, ?_, _, hy1.set, ?_⟩
    · simp only [World.setCell, Array.size_modify]; exact hs1
    · exact Kept.trans hs1 hk2 (Kept.set hy1.1 _ _)
    · exact ⟨hlow1.1.setCell (p := ⟨w1.heap.size, 0, none⟩) hB1.size _, by have := hlow1.2.1; simp only [World.setCell, Array.size_modify]; exact this, hlow1.2.2⟩
    · exact hg1.other (by omega)
    · rw [List.length_append, List.map_append, List.map_cons, List.map_nil, scells_snoc]
      exact row_set hrow1 hy1 (by decide)
  case done =>
    rintro D W1 ⟨hlow, hg, v, hy, hrow⟩ hD
    obtain ⟨A0, c0, rfl⟩ := own_slice hrow.1
    have q0 := hy.cell (i := 0)
    simp only [List.getElem?_toArray, List.getElem?_cons_zero] at q0
    gi_wp2
    refine ⟨by simp, .inl ⟨_, _, rfl, run_takeDeferred hD, ?_⟩⟩
    have ho : Off (· = D) W1 (W1.putObj D (.deferred none)) := Off.putObj (X := (· = D)) rfl _ _
    have hrow2 := (Row.frames _ _ _ _ _ _).off hrow ho
    refine ⟨.tuple #[.slice A0 (pld l).length c0, .nilIface], by simp [results, Try.results18, go_sem], A0, c0, by rw [List.length_map], own_read hrow2.1, ((Low.frames _ _).off hlow ho).1⟩
  case stop =>
    rintro D c pre W1 hp h hD
    exact h.elim
end Go.Proofs.Ytgfafinpcpiogaa
