/- The iterator over the last of three texts, piece by piece, for every loop body. -/
import Derived.Test.YtgfafinpcpiogaaShiftWithin
namespace Go.Proofs.Ytgfafinpcpiogaa
open Go.RowKit Go.Shelf EditMath ShiftMath

attribute [local go_sem] Oper.semAt_some

/-- what the iterator reads -/
def BhC (b1 b2 : Nat) (g : Value) (A : Option Addr) (c : Nat) (P1 : List Pc) (C : As) : As := fun X W =>
  Has b1 (.cells #[g] 89 (0, 0)) X W ∧ Has b2 (.cells #[.slice A P1.length c] 103 (0, 0)) X W ∧ C X W ∧ ∃ B, Rdc W B A (pcells P1) ∧ B ≤ W.heap.size

def BhM (y : Nat) : Nat → Prop := fun j => j = y
def BhM2 (y bp : Nat) : Nat → Prop := fun j => j = y ∨ j = bp
abbrev yc (lp : Nat) : Obj := .cells #[.func (.yield lp) #[] #[]] 135 (0, 0)
def BhI (J : List Pc → As) (lp y : Nat) (P1 : List Pc) (pre : List Pc) : As := fun X W => J (bhd P1 pre) (fun j => X j ∨ BhM y j) W ∧ Has y (yc lp) X W
abbrev bhFrm (lp b1 b2 y bp : Nat) (g : Value) (p : Pc) : Act := { tmps := #[.func (.yield lp) #[] #[], .pointer (some ⟨b1, 0, none⟩), .pointer (some ⟨b2, 0, none⟩), .pointer (some ⟨y, 0, none⟩), .pointer (some ⟨bp, 0, none⟩), undef, g, pcv p, undef, undef, undef, undef, undef, undef, undef, undef, undef, undef, undef, undef, undef, undef, undef, undef, undef, undef], defers := [] }
def BhA (J : List Pc → As) (lp b1 b2 y : Nat) (g : Value) (P1 : List Pc) (pre : List Pc) (p : Pc) (a' : Act) : As := fun X W => ∃ bp,
  J (bhd P1 pre) (fun j => X j ∨ BhM2 y bp j) W ∧ Has y (yc lp) X W ∧ Has bp (pcc p) X W ∧ a' = bhFrm lp b1 b2 y bp g p
def BhX (Jx : List Pc → As) (y : Nat) (L : List Pc) (c : Code) (_ : List Pc) : As := fun X W => c = .ret ∧ ∃ q, q <+: L ∧ Jx q (fun j => X j ∨ BhM y j) W

/-- the blocks X are as they were in W1, and none of them is the inner iterator's -/
def KeptAs (X : Nat → Prop) (W1 : World) : As := fun X2 W => W1.heap.size ≤ W.heap.size ∧ Kept X W1 W ∧ XOk X W1 ∧ ∀ k, X k → ¬ X2 k
theorem KeptAs.frames (X : Nat → Prop) (W1 : World) : Frames (KeptAs X W1) := fun X2 X3 W W' h ho hx =>
  ⟨Nat.le_trans h.1 ho.size, Kept.trans h.1 h.2.1 (fun k hk hlt => ho.block k hlt (h.2.2.2 k hk)), h.2.2.1, fun k hk hk3 => (hx k hk3).elim (h.2.2.2 k hk) (fun hle => by have := h.2.2.1.lt hk; have := h.1; omega)⟩

def BhS (X : Nat → Prop) (y bp wb : Nat) : Nat → Prop := fun j => X j ∨ j = y ∨ j = bp ∨ j = wb ∨ j = wb + 1 ∨ j = wb + 1 + 1
structure BhH (lp y bp wb : Nat) (p : Pc) (v : Value) (X : Nat → Prop) (W : World) : Prop where
  h1 : Has y (yc lp) X W
  h2 : Has bp (pcc p) X W
  h3 : Has wb (.cells #[v] 103 (0, 0)) X W
  h4 : Has (wb + 1) (.cells #[.int .i64 p.f] 3 (0, 0)) X W
  h5 : Has (wb + 1 + 1) (.cells #[.int .i64 p.t] 3 (0, 0)) X W
theorem BhH.frames (lp y bp wb : Nat) (p : Pc) (v : Value) : Frames (BhH lp y bp wb p v) := fun X X' W W' h ho hx =>
  ⟨Has.frames _ _ X X' W W' h.h1 ho hx, Has.frames _ _ X X' W W' h.h2 ho hx, Has.frames _ _ X X' W W' h.h3 ho hx, Has.frames _ _ X X' W W' h.h4 ho hx, Has.frames _ _ X X' W W' h.h5 ho hx⟩
theorem BhH.kept {lp y bp wb : Nat} {p : Pc} {v : Value} {X X0 M : Nat → Prop} {W W' : World} (h : BhH lp y bp wb p v X W) (hk : Kept M W W') (hM : ∀ j, BhS X0 y bp wb j → M j) : BhH lp y bp wb p v X W' :=
  ⟨h.h1.kept hk (hM _ (.inr (.inl rfl))), h.h2.kept hk (hM _ (.inr (.inr (.inl rfl)))), h.h3.kept hk (hM _ (.inr (.inr (.inr (.inl rfl))))), h.h4.kept hk (hM _ (.inr (.inr (.inr (.inr (.inl rfl)))))), h.h5.kept hk (hM _ (.inr (.inr (.inr (.inr (.inr rfl))))))⟩
theorem BhH.ok {lp y bp wb : Nat} {p : Pc} {v : Value} {X X0 : Nat → Prop} {W W1 : World} (h : BhH lp y bp wb p v X W) (hk : KeptAs X0 W1 X W) : XOk (BhS X0 y bp wb) W := fun j hj => by
  rcases hj with h0 | rfl | rfl | rfl | rfl | rfl
  · exact (hk.2.2.1.kept hk.2.1) j h0
  · exact h.h1.ok
  · exact h.h2.ok
  · exact h.h3.ok
  · exact h.h4.ok
  · exact h.h5.ok

def BhI2 (J : List Pc → As) (X : Nat → Prop) (W1 : World) (lp y bp wb : Nat) (p : Pc) (v : Value) (done : List Pc) (pre : List Pc) : As := fun X2 W =>
  J (done ++ pre) (fun j => X2 j ∨ BhS X y bp wb j) W ∧ BhH lp y bp wb p v X2 W ∧ KeptAs X W1 X2 W
abbrev bhFrm2 (lp b1 b2 y bp bq wb : Nat) (g : Value) (A : Option Addr) (n c : Nat) (p q : Pc) : Act := { tmps := #[.func (.yield lp) #[] #[], .pointer (some ⟨b1, 0, none⟩), .pointer (some ⟨b2, 0, none⟩), .pointer (some ⟨y, 0, none⟩), .pointer (some ⟨bp, 0, none⟩), .pointer (some ⟨bq, 0, none⟩), g, pcv p, pcv p, .bool true, .bool false, undef, undef, undef, undef, .slice A n c, .pointer (some ⟨bp, 1, none⟩), .int .i64 p.f, .pointer (some ⟨bp, 2, none⟩), .int .i64 p.t, .func (.func 111) #[] #[.pointer (some ⟨wb, 0, none⟩), .pointer (some ⟨wb + 1, 0, none⟩), .pointer (some ⟨wb + 1 + 1, 0, none⟩)], pcv q, undef, undef, undef, undef], defers := [] }
def BhA2 (J : List Pc → As) (X : Nat → Prop) (W1 : World) (lp b1 b2 y bp wb : Nat) (g : Value) (A : Option Addr) (n c : Nat) (p : Pc) (done : List Pc) (pre : List Pc) (q : Pc) (a' : Act) : As := fun X2 W => ∃ bq,
  J (done ++ pre) (fun j => X2 j ∨ (BhS X y bp wb j ∨ j = bq)) W ∧ BhH lp y bp wb p (.slice A n c) X2 W ∧ KeptAs X W1 X2 W ∧ Has bq (pcc q) X2 W ∧ a' = bhFrm2 lp b1 b2 y bp bq wb g A n c p q
def BhX2 (Jx : List Pc → As) (X : Nat → Prop) (W1 : World) (y bp wb : Nat) (L : List Pc) (c : Code) (_ : List Pc) : As := fun X2 W => c = .ret ∧ (∃ q, q <+: L ∧ Jx q (fun j => X2 j ∨ BhS X y bp wb j) W) ∧ KeptAs X W1 X2 W

theorem bhd_snoc (P1 pre : List Pc) (p : Pc) : bhd P1 (pre ++ [p]) = bhd P1 pre ++ bhd1 P1 p := by simp [bhd]
theorem bhd_pref {P1 pre P2 : List Pc} {p : Pc} (h : (pre ++ [p]) <+: P2) : (bhd P1 pre ++ bhd1 P1 p) <+: bhd P1 P2 := by
  obtain ⟨r, rfl⟩ := h
  rw [← bhd_snoc]
  exact ⟨bhd P1 r, by simp [bhd]⟩

set_option maxRecDepth 100000 in
set_option maxHeartbeats 2000000 in
theorem behind_iter {gl : Nat} {lbl : Array Value} {P2 : List Pc} {C : As} (hit : Iter Try.prog gl lbl (fun p : Pc => #[pcv p]) P2 C) (eg : ∀ args w, (callFunc gl args).run Try.prog w = .ok (.enter gl args) w)
    (b1 b2 : Nat) (A : Option Addr) (c : Nat) (P1 : List Pc) (hG : Good P1) (hL : P1.length ≤ 20000) (hok : ∀ p ∈ P2, Wf p ∧ PcOk p) :
    Iter Try.prog 94 #[.pointer (some ⟨b1, 0, none⟩), .pointer (some ⟨b2, 0, none⟩)] (fun p : Pc => #[pcv p]) (bhd P1 P2) (BhC b1 b2 (.func (.func gl) #[] lbl) A c P1 C) := by
  intro n m lp J Jx W hJ hJx hC hY h0
  have HY := Lib.hid hY
  have HC := Lib.hid hC
  have HJ := Lib.hid hJ
  have HJx := Lib.hid hJx
  have HG := Lib.hid hG
  have HOK := Lib.hid hok
  clear hY hC hJ hJx hG hok
  obtain ⟨hx1, hx2, _, _⟩ := HC.out _ _ _ h0
  have hc1 := hx1.cell (i := 0)
  simp only [List.getElem?_toArray, List.getElem?_cons_zero] at hc1
  have hlt1 := hx1.lt
  clear hx1 hx2
  refine callsIn_wide.2 ((callsIn_wide (n := 8)).1 ?_)
  refine callsIn_of_wp_marks Try.func94 rfl trivial ?_ rfl
  simp only [Try.ntmps94, List.size_toArray, List.length_cons, List.length_nil, Nat.reduceAdd, Nat.reduceSub, Array.replicate_succ, Array.replicate_zero, List.push_toArray, List.append_toArray, List.nil_append, List.cons_append]
  gi_wp2
  refine range_out hit rfl eg (fun _ => rfl)
    (BhI J lp W.heap.size P1) (BhX Jx W.heap.size (bhd P1 P2)) (BhA J lp b1 b2 W.heap.size (.func (.func gl) #[] lbl) P1) ?fI ?fX ?fA ?hC ?h0 ?assign ?body ?done ?stop
  case fI => exact fun pre => ((HJ.out _).within _).and (Has.frames _ _)
  case fX => exact fun c pre => (Frames.pure _).and (Frames.ex fun q => (Frames.pure _).and ((HJx.out _).within _))
  case fA => exact fun pre x a' => Frames.ex fun bp => ((HJ.out _).within _).and ((Has.frames _ _).and ((Has.frames _ _).and (Frames.pure _)))
  case hC =>
    rintro pre X W1 ⟨hj, hh⟩
    exact (HC.out _ _ _ ((HJ.out _).less hj fun _ h => .inl h)).2.2.1
  case h0 =>
    exact ⟨(HJ.out _).more h0 (Off.alloc _ _ _) (fun j hj => hj.elim (fun h => h.elim) (fun h => .inr (by rw [BhM] at h; omega))), Has.newAt (fun h => h) rfl _⟩
  case assign =>
    rintro lq X pre x W1 K hX hXb ⟨hj, hh⟩ hp hK
    gi_wp2
    refine hK _ _ (by simp) (Kept.alloc _ _ _) ⟨W1.heap.size, ?_, hh.alloc _, Has.new hXb _, rfl⟩
    refine (HJ.out _).more hj (Off.alloc _ _ _) (fun j hj => ?_)
    rcases hj with h | h | h
    · exact .inl (.inl h)
    · exact .inl (.inr h)
    · exact .inr (by omega)
  case body =>
    rintro lq X pre p a' W1 hX hXb hr ⟨bp, hj, hh, h1, rfl⟩ hp
    have HP := Lib.hid (bhd_pref (P1 := P1) hp)
    obtain ⟨o1, o2⟩ := HOK.out p (pref_mem hp)
    have HSN := Lib.hid (bhd_snoc P1 pre p)
    clear hp
    have p0 := h1.cell (i := 0)
    have p1 := h1.cell (i := 1)
    have p2 := h1.cell (i := 2)
    have p3 := h1.cell (i := 3)
    simp only [List.getElem?_toArray, List.getElem?_cons_zero, List.getElem?_cons_succ] at p0 p1 p2 p3
    cases hw : went p with
    | false =>
      have HB1 : Hid (bhd1 P1 p = [p]) := Lib.hid (by simp [bhd1, hw])
      have HW := Lib.hid hw
      clear hw
      have HB : XOk (fun j => X j ∨ BhM2 W.heap.size bp j) W1 := fun j hj => by
        rcases hj with h | h | h
        · exact hXb j h
        · subst h; exact hh.ok
        · subst h; exact h1.ok
      gi_wp2_with (refine ⟨trivial, ?_⟩; gi_at_call 86; refine (CallsIn.inRound lq (callsIn_wide.2 (went_any p _))).mono ?_; rw [HW.out]; rintro r W2 ⟨rfl, hB2⟩; have hh2 := (Has.frames _ _).off hh (Off.of_below hB2); have h12 := (Has.frames _ _).off h1 (Off.of_below hB2); have hj2 := (HJ.out _).off hj (Off.of_below hB2); have r0 := hh2.cell (i := 0); have r1 := h12.cell (i := 0); have r2 := h12.cell (i := 1); have r3 := h12.cell (i := 2); have r4 := h12.cell (i := 3); simp only [List.getElem?_toArray, List.getElem?_cons_zero, List.getElem?_cons_succ] at r0 r1 r2 r3 r4; obtain ⟨fn, tmps, assign, body, hy, hR⟩ := HY.out _ p _ _ (HB.below hB2) hj2 (by have := HP.out; rwa [HB1.out] at this); dsimp only [pcv] at hy)
      refine round_at (hR.mono ?_)
      rintro r W3 ⟨hs3, hk3, (⟨rfl, hJ3⟩ | ⟨rfl, hJx3⟩)⟩
      · have hh3 := hh2.kept hk3 (.inr (.inl rfl))
        gi_wp2
        refine ⟨Nat.le_trans hB2.size hs3, Kept.trans hB2.size (Kept.below hB2) (hk3.mono fun _ h => .inl h), ?_, hh3⟩
        rw [HSN.out, HB1.out]
        exact (HJ.out _).less hJ3 (fun j h => h.elim .inl (fun h => .inr (.inl h)))
      · gi_wp2
        exact ⟨Nat.le_trans hB2.size hs3, Kept.trans hB2.size (Kept.below hB2) (hk3.mono fun _ h => .inl h), rfl, _, by have := HP.out; rwa [HB1.out] at this, (HJx.out _).less hJx3 (fun j h => h.elim .inl (fun h => .inr (.inl h)))⟩
    | true =>
      have HB1 : Hid (bhd1 P1 p = wth p.f p.t P1 (sn P1 p.f)) := Lib.hid (by simp [bhd1, hw])
      obtain ⟨o3, o4⟩ := o1.1 hw
      have HW := Lib.hid hw
      clear hw
      gi_wp2_with (refine ⟨trivial, ?_⟩; gi_at_call 86; refine (CallsIn.inRound lq (callsIn_wide.2 (went_any p _))).mono ?_; rw [HW.out]; rintro r W2 ⟨rfl, hB2⟩; have hh2 := (Has.frames _ _).off hh (Off.of_below hB2); have h12 := (Has.frames _ _).off h1 (Off.of_below hB2); have hj2 := (HJ.out _).off hj (Off.of_below hB2); obtain ⟨_, hbx, _, _⟩ := HC.out _ _ _ hj2; have r1 := h12.cell (i := 0); have r2 := h12.cell (i := 1); have r3 := h12.cell (i := 2); have r4 := h12.cell (i := 3); have r5 := hbx.cell (i := 0); simp only [List.getElem?_toArray, List.getElem?_cons_zero, List.getElem?_cons_succ] at r1 r2 r3 r4 r5)
      refine ⟨trivial, ?_⟩
      refine (CallsIn.inRound lq (callsIn_wide.2 (wthin_any A P1.length c p.f p.t _))).mono ?_
      rintro r V ⟨rfl, hV⟩
      have hBV : Below W2.heap.size W2 V := by rw [← hV]; exact (below2 W2 _ _).trans ((below1 _ _).mono (by simp; omega))
      have b3 : V.heap[W2.heap.size]? = some (.cells #[.slice A P1.length c] 103 (0, 0)) := by
        rw [← hV]; exact (Below.heap_alloc _ _ _ (by simp; omega)).trans ((Below.heap_alloc _ _ _ (by simp)).trans (World.alloc_heap_new W2 _))
      have b4 : V.heap[W2.heap.size + 1]? = some (.cells #[.int .i64 p.f] 3 (0, 0)) := by
        rw [← hV]; refine (Below.heap_alloc _ _ _ (by simp)).trans ?_
        have := World.alloc_heap_new (W2.alloc (.cells #[.slice A P1.length c] 103)) (.cells #[.int .i64 p.f] 3); rwa [World.size_alloc] at this
      have b5 : V.heap[W2.heap.size + 1 + 1]? = some (.cells #[.int .i64 p.t] 3 (0, 0)) := by
        rw [← hV]
        have := World.alloc_heap_new ((W2.alloc (.cells #[.slice A P1.length c] 103)).alloc (.cells #[.int .i64 p.f] 3)) (.cells #[.int .i64 p.t] 3); rwa [World.size_alloc, World.size_alloc] at this
      obtain ⟨rr, hrr⟩ := hr
      have hlq : lq < W1.heap.size := hXb.lt hX
      have hrV : V.heap[lq]? = some (.loop rr) := (hBV.block _ (Nat.lt_of_lt_of_le hlq hB2.size)).trans ((hB2.block _ hlq).trans hrr)
      have hK1 : Kept X W1 V := Kept.trans hB2.size (Kept.below hB2) (Kept.below hBV)
      have hsV : W1.heap.size ≤ V.heap.size := Nat.le_trans hB2.size hBV.size
      have hyX := hh.1
      have hI0 : BhI2 J X W1 lp W.heap.size bp W2.heap.size p (.slice A P1.length c) (bhd P1 pre) [] no V := by
        refine ⟨?_, ⟨(Has.frames _ _).more hh2 (Off.of_below hBV) (fun k hk => hk.elim), (Has.frames _ _).more h12 (Off.of_below hBV) (fun k hk => hk.elim), ⟨fun h => h, b3⟩, ⟨fun h => h, b4⟩, ⟨fun h => h, b5⟩⟩, hsV, hK1, hXb, fun _ _ h => h⟩
        rw [List.append_nil]
        refine (HJ.out _).more hj2 (Off.of_below hBV) (fun k hk => ?_)
        rcases hk with h | h | h | h | h | h | h
        · exact h.elim
        · exact .inl (.inl h)
        · exact .inl (.inr (.inl h))
        · exact .inl (.inr (.inr h))
        · exact .inr (by omega)
        · exact .inr (by omega)
        · exact .inr (by omega)
      have HI0 := Lib.hid hI0
      have HWI := Lib.hid (within_iter W2.heap.size (W2.heap.size + 1) (W2.heap.size + 1 + 1) A c P1 p.f p.t HG.out hL (by omega) (by obtain ⟨_, _, _, _, _, _, _⟩ := o2; omega) o4)
      have HXb := Lib.hid hXb
      clear hI0 hV hBV b3 b4 b5 hB2 hh2 h12 hj2 hbx r1 r2 r3 r4 r5 p0 p1 p2 p3 hj hh h1 hrr hlq hK1 hsV hXb
      gi_wp2
      refine range_in hrV HWI.out rfl (enters_of Try.func111 (by kernel_rfl) rfl) (fun _ => rfl)
        (BhI2 J X W1 lp W.heap.size bp W2.heap.size p (.slice A P1.length c) (bhd P1 pre)) (BhX2 Jx X W1 W.heap.size bp W2.heap.size (bhd P1 P2)) (BhA2 J X W1 lp b1 b2 W.heap.size bp W2.heap.size (.func (.func gl) #[] lbl) A P1.length c p (bhd P1 pre)) ?fI2 ?fX2 ?fA2 ?hC2 ?h02 ?assign2 ?body2 ?done2 ?stop2
      case fI2 => exact fun pre => ((HJ.out _).within _).and ((BhH.frames _ _ _ _ _ _).and (KeptAs.frames _ _))
      case fX2 => exact fun c pre => (Frames.pure _).and ((Frames.ex fun q => (Frames.pure _).and ((HJx.out _).within _)).and (KeptAs.frames _ _))
      case fA2 => exact fun pre x a' => Frames.ex fun bq => ((HJ.out _).within _).and ((BhH.frames _ _ _ _ _ _).and ((KeptAs.frames _ _).and ((Has.frames _ _).and (Frames.pure _))))
      case hC2 =>
        rintro pre2 X2 W3 ⟨hj, hH, hk⟩
        exact ⟨hH.h3, hH.h4, hH.h5, (HC.out _ _ _ hj).2.2.2⟩
      case h02 => exact HI0.out
      case assign2 =>
        rintro lr X2 pre2 q W3 K hX2 hXb2 ⟨hj, hH, hk⟩ hp2 hK
        gi_wp2
        refine hK _ _ (by simp) (Kept.alloc _ _ _) ⟨W3.heap.size, ?_, (BhH.frames _ _ _ _ _ _).off hH (Off.alloc _ _ _), (KeptAs.frames _ _).off hk (Off.alloc _ _ _), Has.new hXb2 _, rfl⟩
        refine (HJ.out _).more hj (Off.alloc _ _ _) (fun j hj => ?_)
        rcases hj with h | h | h
        · exact .inl (.inl h)
        · exact .inl (.inr h)
        · exact .inr (by omega)
      case body2 =>
        rintro lr X2 pre2 q a' W3 hX2 hXb2 hr2 ⟨bq, hj, hH, hk, hq, rfl⟩ hp2
        have HPQ : Hid ((bhd P1 pre ++ pre2 ++ [q]) <+: bhd P1 P2) := Lib.hid (by
          rw [List.append_assoc]
          exact ((List.prefix_append_right_inj _).2 hp2).trans (by have := HP.out; rwa [HB1.out] at this))
        have r0 := hH.h1.cell (i := 0)
        have r1 := hq.cell (i := 0)
        have r2 := hq.cell (i := 1)
        have r3 := hq.cell (i := 2)
        have r4 := hq.cell (i := 3)
        simp only [List.getElem?_toArray, List.getElem?_cons_zero, List.getElem?_cons_succ] at r0 r1 r2 r3 r4
        obtain ⟨fn, tmps, assign, body, hy, hR⟩ := HY.out _ q _ _ (by
          intro j hj
          rcases hj with h | h | h
          · exact hXb2 j h
          · exact hH.ok hk j h
          · subst h; exact hq.ok) hj HPQ.out
        dsimp only [pcv] at hy
        gi_wp2
        refine round_at (hR.mono ?_)
        rintro r W4 ⟨hs4, hk4, hJ4⟩
        have hkp : KeptAs X W1 X2 W4 := ⟨Nat.le_trans hk.1 hs4, Kept.trans hk.1 hk.2.1 (hk4.mono fun _ h => .inr (.inl (.inl h))), hk.2.2⟩
        rcases hJ4 with ⟨rfl, hJ4⟩ | ⟨rfl, hJx4⟩
        · have hH4 := hH.kept (X0 := X) hk4 (fun _ h => .inr (.inl h))
          gi_wp2
          refine ⟨hs4, hk4.mono fun _ h => .inl h, ?_, hH4, hkp⟩
          rw [← List.append_assoc]
          exact (HJ.out _).less hJ4 (fun j h => h.elim .inl (fun h => .inr (.inl h)))
        · gi_wp2
          exact ⟨hs4, hk4.mono fun _ h => .inl h, rfl, ⟨_, HPQ.out, (HJx.out _).less hJx4 (fun j h => h.elim .inl (fun h => .inr (.inl h)))⟩, hkp⟩
      case done2 =>
        rintro W4 ⟨hj, hH, hk⟩
        gi_wp2
        refine ⟨hk.1, hk.2.1, ?_, hyX, hH.h1.2⟩
        rw [HSN.out, HB1.out]
        exact (HJ.out _).less hj (fun j h => .inr (h.elim .inl (fun h => .inr (.inl h))))
      case stop2 =>
        rintro c2 pre2 W4 hp2 ⟨rfl, ⟨q, hq, hj⟩, hk⟩
        gi_wp2
        exact ⟨hk.1, hk.2.1, rfl, _, hq, (HJx.out _).less hj (fun j h => .inr (h.elim .inl (fun h => .inr (.inl h))))⟩
  case done =>
    rintro D W1 ⟨hj, hh⟩ hD
    gi_wp2
    refine ⟨by simp, .inl ⟨_, _, rfl, run_takeDeferred hD, ?_⟩⟩
    exact ⟨_, results_none rfl _ _ _, ⟨_, rfl⟩, .inl ((HJ.out _).less ((HJ.out _).off hj (Off.putObj (l := D) (.inl rfl) W1 (.deferred none))) (fun _ h => h.elim))⟩
  case stop =>
    rintro D c pre W1 hp ⟨rfl, q, hq, hj⟩ hD
    gi_wp2
    refine ⟨by simp, .inl ⟨_, _, rfl, run_takeDeferred hD, ?_⟩⟩
    exact ⟨_, results_none rfl _ _ _, ⟨_, rfl⟩, .inr ⟨_, hq, (HJx.out _).less ((HJx.out _).off hj (Off.putObj (l := D) (.inl rfl) W1 (.deferred none))) (fun _ h => h.elim)⟩⟩
end Go.Proofs.Ytgfafinpcpiogaa
