/- The iterator over the pieces whose bytes went, for every loop body. -/
import Derived.Test.YtgfafinpcpiogaaShiftPieces
namespace Go.Proofs.Ytgfafinpcpiogaa
open Go.RowKit Go.Shelf EditMath ShiftMath

attribute [local go_sem] Oper.semAt_some

def GoM (y : Nat) : Nat → Prop := fun j => y ≤ j ∧ j ≤ y + 2
def GoM2 (y bp : Nat) : Nat → Prop := fun j => GoM y j ∨ j = bp

structure GoH (lp y : Nat) (v : Value) (size : Int) (X : Nat → Prop) (W : World) : Prop where
  hy : Has y (.cells #[.func (.yield lp) #[] #[]] 135 (0, 0)) X W
  hl : Has (y + 1) (.cells #[v] 22 (0, 0)) X W
  hz : Has (y + 1 + 1) (.cells #[.int .i64 size] 3 (0, 0)) X W

theorem GoH.frames (lp y : Nat) (v : Value) (size : Int) : Frames (GoH lp y v size) := fun X X' W W' h ho hx =>
  ⟨Has.frames _ _ X X' W W' h.hy ho hx, Has.frames _ _ X X' W W' h.hl ho hx, Has.frames _ _ X X' W W' h.hz ho hx⟩
theorem GoH.ok {lp y : Nat} {v : Value} {size : Int} {X : Nat → Prop} {W : World} (h : GoH lp y v size X W) {j : Nat} (hj : GoM y j) : ∃ o, W.heap[j]? = some o ∧ byteRow o = false := by
  obtain ⟨h1, h2⟩ := hj
  rcases (show j = y ∨ j = y + 1 ∨ j = y + 1 + 1 by omega) with rfl | rfl | rfl
  · exact h.hy.ok
  · exact h.hl.ok
  · exact h.hz.ok
theorem GoH.kept {lp y : Nat} {v : Value} {size : Int} {X M : Nat → Prop} {W W' : World} (h : GoH lp y v size X W) (hk : Kept M W W') (hM : ∀ j, GoM y j → M j) : GoH lp y v size X W' :=
  ⟨h.hy.kept hk (hM _ ⟨by omega, by omega⟩), h.hl.kept hk (hM _ ⟨by omega, by omega⟩), h.hz.kept hk (hM _ ⟨by omega, by omega⟩)⟩

def GoI (J : List Pc → As) (lp y : Nat) (v : Value) (size : Int) (pre : List Pc) : As := fun X W => J (pre.filter went) (fun j => X j ∨ GoM y j) W ∧ GoH lp y v size X W

abbrev goFrm (lp b1 b2 y bp : Nat) (A : Option Addr) (n c : Nat) (size : Int) (x : Pc) : Act :=
  { tmps := #[.func (.yield lp) #[] #[], .pointer (some ⟨b1, 0, none⟩), .pointer (some ⟨b2, 0, none⟩), .pointer (some ⟨y, 0, none⟩), .pointer (some ⟨bp, 0, none⟩), .slice A n c, .int .i64 size, .func (.func 90) #[] #[.pointer (some ⟨y + 1, 0, none⟩), .pointer (some ⟨y + 1 + 1, 0, none⟩)], pcv x, undef, undef, undef, undef, undef, undef, undef, undef], defers := [] }

abbrev pcc (x : Pc) : Obj := .cells #[.int .i64 x.a, .int .i64 x.f, .int .i64 x.t, .string x.s] 92 (0, 0)

def GoA (J : List Pc → As) (lp b1 b2 y : Nat) (A : Option Addr) (n c : Nat) (size : Int) (pre : List Pc) (x : Pc) (a' : Act) : As := fun X W => ∃ bp,
  J (pre.filter went) (fun j => X j ∨ GoM2 y bp j) W ∧ GoH lp y (.slice A n c) size X W ∧ Has bp (pcc x) X W ∧ a' = goFrm lp b1 b2 y bp A n c size x

def GoX (Jx : List Pc → As) (y : Nat) (L : List Pc) (c : Code) (_ : List Pc) : As := fun X W => c = .ret ∧ ∃ q, q <+: L ∧ Jx q (fun j => X j ∨ GoM y j) W

theorem pref_filter {p : Pc → Bool} {pre L : List Pc} {x : Pc} (h : (pre ++ [x]) <+: L) (hx : p x = true) : (pre.filter p ++ [x]) <+: L.filter p := by
  obtain ⟨q, rfl⟩ := h
  exact ⟨q.filter p, by simp [List.filter_append, hx]⟩

set_option maxRecDepth 100000 in
set_option maxHeartbeats 1000000 in
theorem going_iter (b1 b2 : Nat) (A : Option Addr) (c : Nat) (l : List Ed) (size : Int) (hl : l.length ≤ 20000) (hs : Small l) (hz0 : 0 ≤ size) (hz1 : size ≤ 1000000) :
    Iter Try.prog 85 #[.pointer (some ⟨b1, 0, none⟩), .pointer (some ⟨b2, 0, none⟩)] (fun p : Pc => #[pcv p]) ((pcs l size).filter went) (PcC b1 b2 A c l size) := by
  intro n m lp J Jx W hJ hJx hC hY h0
  have HY := Lib.hid hY
  have HC := Lib.hid hC
  have HJ := Lib.hid hJ
  have HJx := Lib.hid hJx
  clear hY hC hJ hJx
  obtain ⟨hx1, hx2, B, hE, hBs⟩ := HC.out _ _ _ h0
  have hc1 := hx1.cell (i := 0)
  have hc2 := hx2.cell (i := 0)
  simp only [List.getElem?_toArray, List.getElem?_cons_zero] at hc1 hc2
  have hlt1 := hx1.lt
  have hlt2 := hx2.lt
  clear hE hx1 hx2
  refine callsIn_wide.2 ((callsIn_wide (n := 8)).1 ?_)
  refine callsIn_of_wp_marks Try.func85 rfl trivial ?_ rfl
  simp only [Try.ntmps85, List.size_toArray, List.length_cons, List.length_nil, Nat.reduceAdd, Nat.reduceSub, Array.replicate_succ, Array.replicate_zero, List.push_toArray, List.append_toArray, List.nil_append, List.cons_append]
  gi_wp2_with (refine ⟨trivial, ?_⟩; gi_at_call 59; refine (callsIn_wide.2 (pieces_any _ _ _ _ _)).mono ?_; rintro e w' ⟨rfl, rfl⟩)
  refine range_out (pieces_iter (W.heap.size + 1) (W.heap.size + 1 + 1) A c l size hl hs hz0 hz1) rfl (enters_of Try.func90 (by kernel_rfl) rfl) (fun _ => rfl)
    (GoI J lp W.heap.size (.slice A l.length c) size) (GoX Jx W.heap.size ((pcs l size).filter went)) (GoA J lp b1 b2 W.heap.size A l.length c size) ?fI ?fX ?fA ?hC ?h0 ?assign ?body ?done ?stop
  case fI => exact fun pre => ((HJ.out _).within _).and (GoH.frames _ _ _ _)
  case fX => exact fun c pre => (Frames.pure _).and (Frames.ex fun q => (Frames.pure _).and ((HJx.out _).within _))
  case fA => exact fun pre x a' => Frames.ex fun bp => ((HJ.out _).within _).and ((GoH.frames _ _ _ _).and ((Has.frames _ _).and (Frames.pure _)))
  case hC =>
    rintro pre X W1 ⟨hj, hh⟩
    exact ⟨hh.hl, hh.hz, (HC.out _ _ _ hj).2.2⟩
  case h0 =>
    refine ⟨(HJ.out _).more h0 (((Off.alloc _ _ _).trans (Off.alloc _ _ _)).trans (Off.alloc _ _ _)) (fun j hj => hj.elim (fun h => h.elim) (fun h => .inr h.1)), ?_⟩
    exact ⟨((Has.newAt (fun h => h) rfl _).alloc _).alloc _, (Has.newAt (fun h => h) (by simp) _).alloc _, Has.newAt (fun h => h) (by simp) _⟩
  case assign =>
    rintro lq X pre x W1 K hX hXb ⟨hj, hh⟩ hp hK
    gi_wp2
    refine hK _ _ (by simp) (Kept.alloc _ _ _) ⟨W1.heap.size, ?_, ?_, ?_, rfl⟩
    · refine (HJ.out _).more hj (Off.alloc _ _ _) (fun j hj => ?_)
      rcases hj with h | h | h
      · exact .inl (.inl h)
      · exact .inl (.inr h)
      · exact .inr (by omega)
    · exact (GoH.frames _ _ _ _).off hh (Off.alloc _ _ _)
    · exact Has.new hXb _
  case body =>
    rintro lq X pre x a' W1 hX hXb hr ⟨bp, hj, hh, h1, rfl⟩ hp
    have HP := Lib.hid hp
    clear hp
    have HB : XOk (fun j => X j ∨ GoM2 W.heap.size bp j) W1 := fun j hj => by
      rcases hj with h | h | h
      · exact hXb j h
      · exact hh.ok h
      · subst h; exact h1.ok
    have p0 := h1.cell (i := 0)
    have p1 := h1.cell (i := 1)
    have p2 := h1.cell (i := 2)
    have p3 := h1.cell (i := 3)
    simp only [List.getElem?_toArray, List.getElem?_cons_zero, List.getElem?_cons_succ] at p0 p1 p2 p3
    cases hw : went x with
    | true =>
      have HW := Lib.hid hw
      clear hw
      gi_wp2_with (refine ⟨trivial, ?_⟩; gi_at_call 86; refine (CallsIn.inRound lq (callsIn_wide.2 (went_any x _))).mono ?_; rw [HW.out]; rintro r W2 ⟨rfl, hB2⟩; have hh2 := (GoH.frames _ _ _ _).off hh (Off.of_below hB2); have h12 := (Has.frames _ _).off h1 (Off.of_below hB2); have hj2 := (HJ.out _).off hj (Off.of_below hB2); have r0 := hh2.hy.cell (i := 0); have r1 := h12.cell (i := 0); have r2 := h12.cell (i := 1); have r3 := h12.cell (i := 2); have r4 := h12.cell (i := 3); simp only [List.getElem?_toArray, List.getElem?_cons_zero, List.getElem?_cons_succ] at r0 r1 r2 r3 r4; obtain ⟨fn, tmps, assign, body, hy, hR⟩ := HY.out _ x _ _ (HB.below hB2) hj2 (pref_filter HP.out HW.out); dsimp only [pcv] at hy)
      refine round_at (hR.mono ?_)
      rintro r W3 ⟨hs3, hk3, (⟨rfl, hJ3⟩ | ⟨rfl, hJx3⟩)⟩
      · have hh3 := hh2.kept hk3 (fun j h => .inr (.inl h))
        gi_wp2
        refine ⟨Nat.le_trans hB2.size hs3, Kept.trans hB2.size (Kept.below hB2) (hk3.mono fun _ h => .inl h), ?_, hh3⟩
        rw [List.filter_append, List.filter_cons_of_pos HW.out]
        exact (HJ.out _).less hJ3 (fun j h => h.elim .inl (fun h => .inr (.inl h)))
      · gi_wp2
        exact ⟨Nat.le_trans hB2.size hs3, Kept.trans hB2.size (Kept.below hB2) (hk3.mono fun _ h => .inl h), rfl, _, pref_filter HP.out HW.out, (HJx.out _).less hJx3 (fun j h => h.elim .inl (fun h => .inr (.inl h)))⟩
    | false =>
      have HW := Lib.hid hw
      clear hw
      gi_wp2_with (refine ⟨trivial, ?_⟩; gi_at_call 86; refine (CallsIn.inRound lq (callsIn_wide.2 (went_any x _))).mono ?_; rw [HW.out]; rintro r W2 ⟨rfl, hB2⟩; have hh2 := (GoH.frames _ _ _ _).off hh (Off.of_below hB2); have h12 := (Has.frames _ _).off h1 (Off.of_below hB2); have hj2 := (HJ.out _).off hj (Off.of_below hB2))
      try refine ⟨fun _ h => (by cases h), ?_⟩
      gi_wp2
      refine ⟨hB2.size, Kept.below hB2, ?_, hh2⟩
      rw [List.filter_append, List.filter_cons_of_neg (by rw [HW.out]; simp), List.filter_nil, List.append_nil]
      exact (HJ.out _).less hj2 (fun j h => h.elim .inl (fun h => .inr (.inl h)))
  case done =>
    rintro D W1 ⟨hj, hh⟩ hD
    gi_wp2
    refine ⟨by simp, .inl ⟨_, _, rfl, run_takeDeferred hD, ?_⟩⟩
    exact ⟨_, results_none rfl _ _ _, ⟨_, rfl⟩, .inl ((HJ.out _).less ((HJ.out _).off hj (Off.putObj (l := D) (.inl rfl) W1 (.deferred none))) (fun _ h => h.elim))⟩
  case stop =>
    rintro D c pre W1 hp ⟨rfl, q, hq, hj⟩ hD
    gi_wp2
    refine ⟨by simp, .inl ⟨_, _, rfl, run_takeDeferred hD, ?_⟩⟩
    exact ⟨_, results_none rfl _ _ _, ⟨_, rfl⟩, .inr ⟨_, hq, (HJx.out _).less ((HJx.out _).off hj (Off.putObj (l := D) (.inl rfl) W1 (.deferred none))) (fun _ h => h.elim)⟩⟩
end Go.Proofs.Ytgfafinpcpiogaa
