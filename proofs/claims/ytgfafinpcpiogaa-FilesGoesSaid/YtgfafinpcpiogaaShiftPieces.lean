/- The iterator over the pieces of a text behind edits, for every loop body. -/
import Derived.Test.YtgfafinpcpiogaaShiftPlaced
import Derived.Test.YtgfafinpcpiogaaTextBridge
import Derived.Deep.RegionHeld
import Derived.Laws.NewBlocks
namespace Go.Proofs.Ytgfafinpcpiogaa
open Go.RowKit Go.Shelf EditMath ShiftMath

attribute [local go_sem] Oper.semAt_some

/-- what the iterator reads: its boxes, the list -/
def PcC (b1 b2 : Nat) (A : Option Addr) (c : Nat) (l : List Ed) (size : Int) : As := fun X W =>
  Has b1 (.cells #[.slice A l.length c] 22 (0, 0)) X W ∧ Has b2 (.cells #[.int .i64 size] 3 (0, 0)) X W ∧ ∃ B, Eds W B A l ∧ B ≤ W.heap.size

def PcM (y : Nat) : Nat → Prop := fun j => y ≤ j ∧ j ≤ y + 3

/-- the iterator's own boxes -/
structure PcH (lp y : Nat) (fr a : Int) (v : Value) (X : Nat → Prop) (W : World) : Prop where
  hy : Has y (.cells #[.func (.yield lp) #[] #[]] 135 (0, 0)) X W
  hf : Has (y + 1) (.cells #[.int .i64 fr] 3 (0, 0)) X W
  ha : Has (y + 1 + 1) (.cells #[.int .i64 a] 3 (0, 0)) X W
  hl : Has (y + 1 + 1 + 1) (.cells #[v] 22 (0, 0)) X W

theorem PcH.frames (lp y : Nat) (fr a : Int) (v : Value) : Frames (PcH lp y fr a v) := fun X X' W W' h ho hx =>
  ⟨Has.frames _ _ X X' W W' h.hy ho hx, Has.frames _ _ X X' W W' h.hf ho hx, Has.frames _ _ X X' W W' h.ha ho hx, Has.frames _ _ X X' W W' h.hl ho hx⟩
theorem PcH.ok {lp y : Nat} {fr a : Int} {v : Value} {X : Nat → Prop} {W : World} (h : PcH lp y fr a v X W) {j : Nat} (hj : PcM y j) : ∃ o, W.heap[j]? = some o ∧ byteRow o = false := by
  obtain ⟨h1, h2⟩ := hj
  rcases (show j = y ∨ j = y + 1 ∨ j = y + 1 + 1 ∨ j = y + 1 + 1 + 1 by omega) with rfl | rfl | rfl | rfl
  · exact h.hy.ok
  · exact h.hf.ok
  · exact h.ha.ok
  · exact h.hl.ok
theorem PcH.kept {lp y : Nat} {fr a : Int} {v : Value} {X M : Nat → Prop} {W W' : World} (h : PcH lp y fr a v X W) (hk : Kept M W W') (hM : ∀ j, PcM y j → M j) : PcH lp y fr a v X W' :=
  ⟨h.hy.kept hk (hM _ ⟨by omega, by omega⟩), h.hf.kept hk (hM _ ⟨by omega, by omega⟩), h.ha.kept hk (hM _ ⟨by omega, by omega⟩), h.hl.kept hk (hM _ ⟨by omega, by omega⟩)⟩

/-- between two edits -/
def PcI (J : List Pc → As) (lp y : Nat) (v : Value) (l : List Ed) (pre : List (Ed × Int)) : As := fun X W =>
  J (stOf (l.take pre.length)).out (fun j => X j ∨ PcM y j) W ∧ PcH lp y (stOf (l.take pre.length)).fr ((stOf (l.take pre.length)).fr + (stOf (l.take pre.length)).sh) v X W

def PcM2 (y be bs : Nat) : Nat → Prop := fun j => PcM y j ∨ j = be ∨ j = bs
abbrev pcFrm (lp b1 b2 y be bs : Nat) (A : Option Addr) (n c : Nat) (x : Ed × Int) : Act :=
  { tmps := #[.func (.yield lp) #[] #[], .pointer (some ⟨b1, 0, none⟩), .pointer (some ⟨b2, 0, none⟩), .pointer (some ⟨y, 0, none⟩), .pointer (some ⟨y + 1, 0, none⟩), .pointer (some ⟨y + 1 + 1, 0, none⟩), .pointer (some ⟨be, 0, none⟩), .pointer (some ⟨bs, 0, none⟩), .slice A n c, .func (.func 87) #[] #[.pointer (some ⟨y + 1 + 1 + 1, 0, none⟩)], edv x.1, spv x, undef, undef, undef, undef, undef, undef, undef, undef, undef, undef, undef, undef, undef, undef, undef, undef, undef, undef, undef, undef, undef, undef, undef, undef, undef, undef, undef, undef, undef, undef, undef, undef, undef, undef, undef, undef, undef, undef, undef, undef], defers := [] }

/-- in a round -/
def PcA (J : List Pc → As) (lp b1 b2 y : Nat) (A : Option Addr) (c : Nat) (l : List Ed) (pre : List (Ed × Int)) (x : Ed × Int) (a' : Act) : As := fun X W => ∃ be bs,
  J (stOf (l.take pre.length)).out (fun j => X j ∨ PcM2 y be bs j) W ∧ PcH lp y (stOf (l.take pre.length)).fr ((stOf (l.take pre.length)).fr + (stOf (l.take pre.length)).sh) (.slice A l.length c) X W ∧
  Has be (.cells #[.int .i64 x.1.f, .int .i64 x.1.t, .string x.1.s] 87 (0, 0)) X W ∧ Has bs (.cells #[.int .i64 (x.1.f + x.2), .int .i64 (x.1.f + x.2 + x.1.s.size)] 39 (0, 0)) X W ∧
  a' = pcFrm lp b1 b2 y be bs A l.length c x

def PcX (Jx : List Pc → As) (y : Nat) (L : List Pc) (c : Code) (_ : List (Ed × Int)) : As := fun X W => c = .ret ∧ ∃ q, q <+: L ∧ Jx q (fun j => X j ∨ PcM y j) W

theorem cell_set_other {W : World} {b b' o o' : Nat} (h : b ≠ b') (v : Value) : (W.setCell ⟨b', o', none⟩ v).cell? ⟨b, o, none⟩ = W.cell? ⟨b, o, none⟩ := World.cell?_of_block (a := ⟨b, o, none⟩) (Below.heap_setCell W _ _ _ h)

theorem PcEnd {J : List Pc → As} {lp y be bs : Nat} {v : Value} {l : List Ed} {pre : List (Ed × Int)} {x : Ed × Int} {e : Ed} {st : St} {X : Nat → Prop} {W1 V : World} {out : List Pc}
    (hst : stOf (l.take (pre.length + 1)) = stp st e) (hsh : st.sh = gr (l.take pre.length)) (hJ : ∀ pre, Frames (J pre)) (ho : out = st.out ++ em st.fr st.sh e)
    (hj : J out (fun j => X j ∨ PcM2 y be bs j) V) (hh : PcH lp y st.fr (st.fr + st.sh) v X V) (hs : W1.heap.size ≤ V.heap.size) (hk : Kept (fun j => X j ∨ PcM2 y be bs j) W1 V) :
    W1.heap.size ≤ ((V.drew.setCell ⟨y + 1, 0, none⟩ (.int .i64 e.t)).setCell ⟨y + 1 + 1, 0, none⟩ (.int .i64 (e.f + gr (l.take pre.length) + e.s.size))).heap.size ∧
    Kept X W1 ((V.drew.setCell ⟨y + 1, 0, none⟩ (.int .i64 e.t)).setCell ⟨y + 1 + 1, 0, none⟩ (.int .i64 (e.f + gr (l.take pre.length) + e.s.size))) ∧
    PcI J lp y v l (pre ++ [x]) X ((V.drew.setCell ⟨y + 1, 0, none⟩ (.int .i64 e.t)).setCell ⟨y + 1 + 1, 0, none⟩ (.int .i64 (e.f + gr (l.take pre.length) + e.s.size))) := by
  have hoff : Off (fun j => X j ∨ PcM2 y be bs j) V ((V.drew.setCell ⟨y + 1, 0, none⟩ (.int .i64 e.t)).setCell ⟨y + 1 + 1, 0, none⟩ (.int .i64 (e.f + gr (l.take pre.length) + e.s.size))) :=
    ((Off.drew _ V).trans (Off.setCell (p := ⟨y + 1, 0, none⟩) (.inr (.inl ⟨by simp, by simp⟩)) _ _)).trans (Off.setCell (p := ⟨y + 1 + 1, 0, none⟩) (.inr (.inl ⟨by simp; omega, by simp⟩)) _ _)
  refine ⟨Nat.le_trans hs hoff.size, ?_, ?_, ?_⟩
  · refine Kept.trans hs (hk.mono fun _ h => .inl h) (Kept.trans (by simp [World.setCell]) (Kept.trans (by simp) (fun _ _ _ => rfl) (Kept.set hh.hf.1 _ _)) (Kept.set hh.ha.1 _ _))
  · rw [show (pre ++ [x]).length = pre.length + 1 from by simp, hst]
    have h := (hJ out).off hj hoff
    rw [ho] at h
    exact (hJ _).less h (fun j h => h.elim .inl (fun h => .inr (.inl h)))
  · rw [show (pre ++ [x]).length = pre.length + 1 from by simp, hst]
    have e1 : (stp st e).fr = e.t := rfl
    have e2 : (stp st e).fr + (stp st e).sh = e.f + gr (l.take pre.length) + e.s.size := by simp only [stp, gr1]; omega
    rw [e1, e2] at *
    refine ⟨(hh.hy.drew.other (by omega)).other (by omega), (hh.hf.drew.set).other (by omega), (hh.ha.drew.other (by omega)).set, (hh.hl.drew.other (by omega)).other (by omega)⟩

set_option maxRecDepth 100000 in
set_option maxHeartbeats 1000000 in
theorem pieces_iter (b1 b2 : Nat) (A : Option Addr) (c : Nat) (l : List Ed) (size : Int) (hl : l.length ≤ 20000) (hs : Small l) (_hz0 : 0 ≤ size) (_hz1 : size ≤ 1000000) :
    Iter Try.prog 90 #[.pointer (some ⟨b1, 0, none⟩), .pointer (some ⟨b2, 0, none⟩)] (fun p : Pc => #[pcv p]) (pcs l size) (PcC b1 b2 A c l size) := by
  intro n m lp J Jx W hJ hJx hC hY h0
  have HS := Lib.hid hs
  have HY := Lib.hid hY
  have HC := Lib.hid hC
  have HJ := Lib.hid hJ
  have HJx := Lib.hid hJx
  clear hY hC hJ hJx
  obtain ⟨hx1, hx2, B, hE, hBs⟩ := HC.out _ _ _ h0
  have hc1 : W.cell? ⟨b1, 0, none⟩ = some (.slice A l.length c) := Boxed.cell hx1.2
  have hlt1 := hx1.lt
  have hlt2 : b1 < W.heap.size + 1 := by omega
  have hlt3 : b1 < W.heap.size + 1 + 1 := by omega
  clear hE hx1 hx2
  refine callsIn_wide.2 ((callsIn_wide (n := 8)).1 ?_)
  refine callsIn_of_wp_marks Try.func90 rfl trivial ?_ rfl
  simp only [Try.ntmps90, List.size_toArray, List.length_cons, List.length_nil, Nat.reduceAdd, Nat.reduceSub, Array.replicate_succ, Array.replicate_zero, List.push_toArray, List.append_toArray, List.nil_append, List.cons_append]
  gi_wp2_with (refine ⟨trivial, ?_⟩; gi_at_call 53; refine (callsIn_wide.2 (placed_any _ _ ⟨_, _, _, rfl⟩)).mono ?_; rintro e w' ⟨rfl, rfl⟩)
  clear hc1 hlt1 hlt2 hlt3
  refine range_out (placed_iter (W.heap.size + 1 + 1 + 1) A c l hl hs) rfl (enters_of Try.func87 (by kernel_rfl) rfl) (fun _ => rfl)
    (PcI J lp W.heap.size (.slice A l.length c) l) (PcX Jx W.heap.size (pcs l size)) (PcA J lp b1 b2 W.heap.size A c l) ?fI ?fX ?fA ?hC ?h0 ?assign ?body ?done ?stop
  case fI => exact fun pre => ((HJ.out _).within _).and (PcH.frames _ _ _ _ _)
  case fX => exact fun c pre => (Frames.pure _).and (Frames.ex fun q => (Frames.pure _).and ((HJx.out _).within _))
  case fA => exact fun pre x a' => Frames.ex fun be => Frames.ex fun bs => ((HJ.out _).within _).and ((PcH.frames _ _ _ _ _).and ((Has.frames _ _).and ((Has.frames _ _).and (Frames.pure _))))
  case hC =>
    rintro pre X W1 ⟨hj, hh⟩
    exact ⟨hh.hl, (HC.out _ _ _ hj).2.2⟩
  case h0 =>
    have hb : XOk no W := fun _ h => h.elim
    refine ⟨(HJ.out _).more h0 ((((Off.alloc _ _ _).trans (Off.alloc _ _ _)).trans (Off.alloc _ _ _)).trans (Off.alloc _ _ _)) (fun j hj => hj.elim (fun h => h.elim) (fun h => .inr h.1)), ?_⟩
    exact ⟨(((Has.new hb _).alloc _).alloc _).alloc _, ((Has.new1 hb _ _).alloc _).alloc _, (Has.newAt (fun h => h) (by simp) _).alloc _, Has.newAt (fun h => h) (by simp) _⟩
  case assign =>
    rintro lq X pre x W1 K hX hXb ⟨hj, hh⟩ hp hK
    gi_wp2
    refine hK _ _ (by simp; omega) ?_ ⟨W1.heap.size, W1.heap.size + 1, ?_, ?_, ?_, ?_, rfl⟩
    · exact Kept.trans (by simp) (Kept.alloc _ _ _) (Kept.alloc _ _ _)
    · refine (HJ.out _).more hj ((Off.alloc _ _ _).trans (Off.alloc _ _ _)) (fun j hj => ?_)
      rcases hj with h | h | h | h
      · exact .inl (.inl h)
      · exact .inl (.inr h)
      · exact .inr (by omega)
      · exact .inr (by omega)
    · exact (PcH.frames _ _ _ _ _).off hh ((Off.alloc _ _ _).trans (Off.alloc _ _ _))
    · exact (Has.new hXb _).alloc _
    · exact Has.new1 hXb _ _
  case body =>
    rintro lq X pre x a' W1 hX hXb hr ⟨be, bs, hj, hh, h1, h2, rfl⟩ hp
    obtain ⟨e1, e2⟩ := pref_iff hp
    obtain ⟨e, he, rfl⟩ := pld_at e2
    obtain ⟨st, hst⟩ : ∃ st, stOf (l.take pre.length) = st := ⟨_, rfl⟩
    have hst2 := stOf_take he
    have hsh := stOf_sh (l.take pre.length)
    rw [hst] at hj hh hst2 hsh
    have n1 : be ≠ W.heap.size + 1 := h1.ne hh.hf (by simp)
    have n2 : be ≠ W.heap.size + 1 + 1 := h1.ne hh.ha (by simp)
    have n3 : bs ≠ W.heap.size + 1 := h2.ne hh.hf (by simp)
    have n4 : bs ≠ W.heap.size + 1 + 1 := h2.ne hh.ha (by simp)
    have HST := Lib.hid hst
    have HST2 := Lib.hid hst2
    have HSH := Lib.hid hsh
    have HP := Lib.hid (stOf_pref l (pre.length + 1) size)
    clear hst hst2 hsh e1 e2 he
    dsimp only at h1 h2
    have HB : XOk (fun j => X j ∨ PcM2 W.heap.size be bs j) W1 := fun j hj => by
      rcases hj with h | h | h | h
      · exact hXb j h
      · exact hh.ok h
      · subst h; exact h1.ok
      · subst h; exact h2.ok
    have q1 := hh.hy.cell (i := 0)
    have q2 := hh.hf.cell (i := 0)
    have q3 := hh.ha.cell (i := 0)
    have q4 := h1.cell (i := 0)
    have q5 := h1.cell (i := 1)
    have q6 := h1.cell (i := 2)
    have q7 := h2.cell (i := 0)
    have q8 := h2.cell (i := 1)
    simp only [List.getElem?_toArray, List.getElem?_cons_zero, List.getElem?_cons_succ] at q1 q2 q3 q4 q5 q6 q7 q8
    by_cases t1 : st.fr < e.f
    · have T1 := Lib.hid t1
      have HP1 : st.out ++ [⟨st.fr + st.sh, st.fr, e.f, bnil⟩] <+: pcs l size := by
        have h := HP.out
        rw [HST2.out] at h
        refine List.IsPrefix.trans ?_ h
        simp [stp, em, t1]
      obtain ⟨fn, tmps, assign, body, hy, hR⟩ := HY.out st.out ⟨st.fr + st.sh, st.fr, e.f, bnil⟩ _ _ HB hj HP1
      have HP1' := Lib.hid HP1
      clear HP1
      dsimp only [pcv, bnil] at hy
      gi_wp2
      refine round_at (hR.mono ?_)
      rintro r W3 ⟨hs3, hk3, (⟨rfl, hJ3⟩ | ⟨rfl, hJx3⟩)⟩
      · have hh3 := hh.kept hk3 (fun j h => .inr (.inl h))
        have h13 := h1.kept hk3 (.inr (.inr (.inl rfl)))
        have h23 := h2.kept hk3 (.inr (.inr (.inr rfl)))
        clear q1 q2 q3 q4 q5 q6 q7 q8 hy hR
        have q1 := hh3.hy.cell (i := 0)
        have q2 := hh3.hf.cell (i := 0)
        have q3 := hh3.ha.cell (i := 0)
        have q4 := h13.cell (i := 0)
        have q5 := h13.cell (i := 1)
        have q6 := h13.cell (i := 2)
        have q7 := h23.cell (i := 0)
        have q8 := h23.cell (i := 1)
        simp only [List.getElem?_toArray, List.getElem?_cons_zero, List.getElem?_cons_succ] at q1 q2 q3 q4 q5 q6 q7 q8
        by_cases t2 : e.s.size = 0
        · have u1 : e.s.toList.isEmpty = true := by rw [bytes_none]; simpa using t2
          have u2 : e.s.toList = [] := List.isEmpty_iff.1 u1
          have T2 := Lib.hid t2
          clear t2
          gi_wp2
          try refine ⟨fun _ h => (by cases h), ?_⟩
          have f1 := hh3.hf.frozen (i := 0)
          have f2 := hh3.ha.frozen (i := 0)
          gi_wp2
          refine wpIn_region_held (fun W' => W'.cell? ⟨be, 1, none⟩ = some (.int .i64 e.t) ∧ W'.cell? ⟨bs, 1, none⟩ = some (.int .i64 (e.f + gr (l.take pre.length) + e.s.size))) (by kernel_rfl) (by kernel_rfl) ?hQW3a ?_
          case hQW3a => rintro ⟨_, _, h⟩; exact h
          have hS : W3.drew.cell? ⟨be, 1, none⟩ = some (.int .i64 e.t) ∧ W3.drew.cell? ⟨bs, 1, none⟩ = some (.int .i64 (e.f + gr (l.take pre.length) + e.s.size)) := ⟨q5, q8⟩
          refine wpAnyH_take (i := 0) (v := .pointer (some ⟨be, 1, none⟩)) rfl (by kernel_rfl) (by kernel_rfl) (by kernel_rfl) (fun _ _ _ h => h) (Or.inl ⟨by rfl, fun w' hS' => ?y0W3a⟩) hS ?_
          case y0W3a => go_simp
          refine wpAnyH_take (i := 1) (v := .int .i64 e.t) rfl (by kernel_rfl) (by kernel_rfl) (by kernel_rfl) (fun _ _ _ h => h) (Or.inl ⟨by rfl, fun w' hS' => ?y1W3a⟩) hS ?_
          case y1W3a => obtain ⟨s1, s2⟩ := hS'; go_simp
          refine wpAnyH_take (i := 2) (v := .pointer (some ⟨bs, 1, none⟩)) rfl (by kernel_rfl) (by kernel_rfl) (by kernel_rfl) (fun _ _ _ h => h) (Or.inl ⟨by rfl, fun w' hS' => ?y2W3a⟩) hS ?_
          case y2W3a => go_simp
          refine wpAnyH_take (i := 3) (v := .int .i64 (e.f + gr (l.take pre.length) + e.s.size)) rfl (by kernel_rfl) (by kernel_rfl) (by kernel_rfl) (fun _ _ _ h => h) (Or.inl ⟨by rfl, fun w' hS' => ?y3W3a⟩) hS ?_
          case y3W3a => obtain ⟨s1, s2⟩ := hS'; go_simp
          simp only [Act.put, List.setIfInBounds_toArray]
          have hS4 : (W3.drew.setCell ⟨W.heap.size + 1, 0, none⟩ (.int .i64 e.t)).cell? ⟨be, 1, none⟩ = some (.int .i64 e.t) ∧ (W3.drew.setCell ⟨W.heap.size + 1, 0, none⟩ (.int .i64 e.t)).cell? ⟨bs, 1, none⟩ = some (.int .i64 (e.f + gr (l.take pre.length) + e.s.size)) :=
            ⟨(cell_set_other n1 _).trans q5, (cell_set_other n3 _).trans q8⟩
          have hq3 : (W3.drew.setCell ⟨W.heap.size + 1, 0, none⟩ (.int .i64 e.t)).cell? ⟨W.heap.size + 1 + 1, 0, none⟩ = some (.int .i64 (st.fr + st.sh)) := (cell_set_other (by omega) _).trans q3
          have hq2 : W3.drew.cell? ⟨W.heap.size + 1, 0, none⟩ = some (.int .i64 st.fr) := q2
          refine wpAnyH_ready (rs := [4]) (by kernel_rfl) (by simp) ?_
          refine AllReadyH.cons rfl (fun K hK => ?_) AllReadyH.nil
          go_simp
          refine hK.out _ _ hS4 (fun _ => ?_)
          clear hK K
          refine wpAnyH_ready (rs := [5]) (by kernel_rfl) (by simp) ?_
          refine AllReadyH.cons rfl (fun K hK => ?_) AllReadyH.nil
          go_simp
          refine hK.out _ _ ⟨(cell_set_other n2 _).trans hS4.1, (cell_set_other n4 _).trans hS4.2⟩ (fun _ => ?_)
          clear hK K
          refine wpAnyH_done (by kernel_rfl) ?_ _
          exact PcEnd HST2.out HSH.out HJ.out (by simp [em, if_pos T1.out, T2.out]) hJ3 hh3 hs3 hk3
        · have u1 : e.s.toList.isEmpty = false := by rw [bytes_none]; simpa using t2
          have u2 : ¬ e.s.toList = [] := fun h => by rw [h] at u1; cases u1
          have T2 := Lib.hid t2
          clear t2
          have HP2 : (st.out ++ [⟨st.fr + st.sh, st.fr, e.f, bnil⟩]) ++ [⟨e.f + st.sh, 0, 0, e.s⟩] <+: pcs l size := by
            have h := HP.out; rw [HST2.out] at h; simpa [stp, em, if_pos T1.out, T2.out] using h
          obtain ⟨fn2, tmps2, assign2, body2, hy2, hR2⟩ := HY.out (st.out ++ [⟨st.fr + st.sh, st.fr, e.f, bnil⟩]) ⟨e.f + st.sh, 0, 0, e.s⟩ _ _ (HB.kept hk3) hJ3 HP2
          have HP2' := Lib.hid HP2
          clear HP2
          dsimp only [pcv] at hy2
          rw [HSH.out] at hy2
          gi_wp2
          refine round_at (hR2.mono ?_)
          rintro r W4 ⟨hs4, hk4, (⟨rfl, hJ4⟩ | ⟨rfl, hJx4⟩)⟩
          · have hh4 := hh3.kept hk4 (fun j h => .inr (.inl h))
            have h14 := h13.kept hk4 (.inr (.inr (.inl rfl)))
            have h24 := h23.kept hk4 (.inr (.inr (.inr rfl)))
            clear q1 q2 q3 q4 q5 q6 q7 q8 hy2 hR2
            have q1 := hh4.hy.cell (i := 0)
            have q2 := hh4.hf.cell (i := 0)
            have q3 := hh4.ha.cell (i := 0)
            have q4 := h14.cell (i := 0)
            have q5 := h14.cell (i := 1)
            have q6 := h14.cell (i := 2)
            have q7 := h24.cell (i := 0)
            have q8 := h24.cell (i := 1)
            simp only [List.getElem?_toArray, List.getElem?_cons_zero, List.getElem?_cons_succ] at q1 q2 q3 q4 q5 q6 q7 q8
            have f1 := hh4.hf.frozen (i := 0)
            have f2 := hh4.ha.frozen (i := 0)
            gi_wp2
            refine wpIn_region_held (fun W' => W'.cell? ⟨be, 1, none⟩ = some (.int .i64 e.t) ∧ W'.cell? ⟨bs, 1, none⟩ = some (.int .i64 (e.f + gr (l.take pre.length) + e.s.size))) (by kernel_rfl) (by kernel_rfl) ?hQW3b ?_
            case hQW3b => rintro ⟨_, _, h⟩; exact h
            have hS : W4.drew.cell? ⟨be, 1, none⟩ = some (.int .i64 e.t) ∧ W4.drew.cell? ⟨bs, 1, none⟩ = some (.int .i64 (e.f + gr (l.take pre.length) + e.s.size)) := ⟨q5, q8⟩
            refine wpAnyH_take (i := 0) (v := .pointer (some ⟨be, 1, none⟩)) rfl (by kernel_rfl) (by kernel_rfl) (by kernel_rfl) (fun _ _ _ h => h) (Or.inl ⟨by rfl, fun w' hS' => ?y0W3b⟩) hS ?_
            case y0W3b => go_simp
            refine wpAnyH_take (i := 1) (v := .int .i64 e.t) rfl (by kernel_rfl) (by kernel_rfl) (by kernel_rfl) (fun _ _ _ h => h) (Or.inl ⟨by rfl, fun w' hS' => ?y1W3b⟩) hS ?_
            case y1W3b => obtain ⟨s1, s2⟩ := hS'; go_simp
            refine wpAnyH_take (i := 2) (v := .pointer (some ⟨bs, 1, none⟩)) rfl (by kernel_rfl) (by kernel_rfl) (by kernel_rfl) (fun _ _ _ h => h) (Or.inl ⟨by rfl, fun w' hS' => ?y2W3b⟩) hS ?_
            case y2W3b => go_simp
            refine wpAnyH_take (i := 3) (v := .int .i64 (e.f + gr (l.take pre.length) + e.s.size)) rfl (by kernel_rfl) (by kernel_rfl) (by kernel_rfl) (fun _ _ _ h => h) (Or.inl ⟨by rfl, fun w' hS' => ?y3W3b⟩) hS ?_
            case y3W3b => obtain ⟨s1, s2⟩ := hS'; go_simp
            simp only [Act.put, List.setIfInBounds_toArray]
            have hS4 : (W4.drew.setCell ⟨W.heap.size + 1, 0, none⟩ (.int .i64 e.t)).cell? ⟨be, 1, none⟩ = some (.int .i64 e.t) ∧ (W4.drew.setCell ⟨W.heap.size + 1, 0, none⟩ (.int .i64 e.t)).cell? ⟨bs, 1, none⟩ = some (.int .i64 (e.f + gr (l.take pre.length) + e.s.size)) :=
              ⟨(cell_set_other n1 _).trans q5, (cell_set_other n3 _).trans q8⟩
            have hq3 : (W4.drew.setCell ⟨W.heap.size + 1, 0, none⟩ (.int .i64 e.t)).cell? ⟨W.heap.size + 1 + 1, 0, none⟩ = some (.int .i64 (st.fr + st.sh)) := (cell_set_other (by omega) _).trans q3
            have hq2 : W4.drew.cell? ⟨W.heap.size + 1, 0, none⟩ = some (.int .i64 st.fr) := q2
            refine wpAnyH_ready (rs := [4]) (by kernel_rfl) (by simp) ?_
            refine AllReadyH.cons rfl (fun K hK => ?_) AllReadyH.nil
            go_simp
            refine hK.out _ _ hS4 (fun _ => ?_)
            clear hK K
            refine wpAnyH_ready (rs := [5]) (by kernel_rfl) (by simp) ?_
            refine AllReadyH.cons rfl (fun K hK => ?_) AllReadyH.nil
            go_simp
            refine hK.out _ _ ⟨(cell_set_other n2 _).trans hS4.1, (cell_set_other n4 _).trans hS4.2⟩ (fun _ => ?_)
            clear hK K
            refine wpAnyH_done (by kernel_rfl) ?_ _
            exact PcEnd HST2.out HSH.out HJ.out (by simp [em, if_pos T1.out, T2.out]) hJ4 hh4 (Nat.le_trans hs3 hs4) (Kept.trans hs3 hk3 hk4)
          · gi_wp2
            exact ⟨(Nat.le_trans hs3 hs4), (Kept.trans hs3 hk3 hk4).mono (fun _ h => .inl h), rfl, _, HP2'.out, (HJx.out _).less hJx4 (fun j h => h.elim .inl (fun h => .inr (.inl h)))⟩
      · gi_wp2
        exact ⟨hs3, hk3.mono (fun _ h => .inl h), rfl, _, HP1'.out, (HJx.out _).less hJx3 (fun j h => h.elim .inl (fun h => .inr (.inl h)))⟩
    · have T1 := Lib.hid t1
      gi_wp2
      try refine ⟨fun _ h => (by cases h), ?_⟩
      by_cases t2 : e.s.size = 0
      · have u1 : e.s.toList.isEmpty = true := by rw [bytes_none]; simpa using t2
        have u2 : e.s.toList = [] := List.isEmpty_iff.1 u1
        have T2 := Lib.hid t2
        clear t2
        gi_wp2
        try refine ⟨fun _ h => (by cases h), ?_⟩
        have f1 := hh.hf.frozen (i := 0)
        have f2 := hh.ha.frozen (i := 0)
        gi_wp2
        refine wpIn_region_held (fun W' => W'.cell? ⟨be, 1, none⟩ = some (.int .i64 e.t) ∧ W'.cell? ⟨bs, 1, none⟩ = some (.int .i64 (e.f + gr (l.take pre.length) + e.s.size))) (by kernel_rfl) (by kernel_rfl) ?hQW1a ?_
        case hQW1a => rintro ⟨_, _, h⟩; exact h
        have hS : W1.drew.cell? ⟨be, 1, none⟩ = some (.int .i64 e.t) ∧ W1.drew.cell? ⟨bs, 1, none⟩ = some (.int .i64 (e.f + gr (l.take pre.length) + e.s.size)) := ⟨q5, q8⟩
        refine wpAnyH_take (i := 0) (v := .pointer (some ⟨be, 1, none⟩)) rfl (by kernel_rfl) (by kernel_rfl) (by kernel_rfl) (fun _ _ _ h => h) (Or.inl ⟨by rfl, fun w' hS' => ?y0W1a⟩) hS ?_
        case y0W1a => go_simp
        refine wpAnyH_take (i := 1) (v := .int .i64 e.t) rfl (by kernel_rfl) (by kernel_rfl) (by kernel_rfl) (fun _ _ _ h => h) (Or.inl ⟨by rfl, fun w' hS' => ?y1W1a⟩) hS ?_
        case y1W1a => obtain ⟨s1, s2⟩ := hS'; go_simp
        refine wpAnyH_take (i := 2) (v := .pointer (some ⟨bs, 1, none⟩)) rfl (by kernel_rfl) (by kernel_rfl) (by kernel_rfl) (fun _ _ _ h => h) (Or.inl ⟨by rfl, fun w' hS' => ?y2W1a⟩) hS ?_
        case y2W1a => go_simp
        refine wpAnyH_take (i := 3) (v := .int .i64 (e.f + gr (l.take pre.length) + e.s.size)) rfl (by kernel_rfl) (by kernel_rfl) (by kernel_rfl) (fun _ _ _ h => h) (Or.inl ⟨by rfl, fun w' hS' => ?y3W1a⟩) hS ?_
        case y3W1a => obtain ⟨s1, s2⟩ := hS'; go_simp
        simp only [Act.put, List.setIfInBounds_toArray]
        have hS4 : (W1.drew.setCell ⟨W.heap.size + 1, 0, none⟩ (.int .i64 e.t)).cell? ⟨be, 1, none⟩ = some (.int .i64 e.t) ∧ (W1.drew.setCell ⟨W.heap.size + 1, 0, none⟩ (.int .i64 e.t)).cell? ⟨bs, 1, none⟩ = some (.int .i64 (e.f + gr (l.take pre.length) + e.s.size)) :=
          ⟨(cell_set_other n1 _).trans q5, (cell_set_other n3 _).trans q8⟩
        have hq3 : (W1.drew.setCell ⟨W.heap.size + 1, 0, none⟩ (.int .i64 e.t)).cell? ⟨W.heap.size + 1 + 1, 0, none⟩ = some (.int .i64 (st.fr + st.sh)) := (cell_set_other (by omega) _).trans q3
        have hq2 : W1.drew.cell? ⟨W.heap.size + 1, 0, none⟩ = some (.int .i64 st.fr) := q2
        refine wpAnyH_ready (rs := [4]) (by kernel_rfl) (by simp) ?_
        refine AllReadyH.cons rfl (fun K hK => ?_) AllReadyH.nil
        go_simp
        refine hK.out _ _ hS4 (fun _ => ?_)
        clear hK K
        refine wpAnyH_ready (rs := [5]) (by kernel_rfl) (by simp) ?_
        refine AllReadyH.cons rfl (fun K hK => ?_) AllReadyH.nil
        go_simp
        refine hK.out _ _ ⟨(cell_set_other n2 _).trans hS4.1, (cell_set_other n4 _).trans hS4.2⟩ (fun _ => ?_)
        clear hK K
        refine wpAnyH_done (by kernel_rfl) ?_ _
        exact PcEnd HST2.out HSH.out HJ.out (by simp [em, if_neg (Int.not_lt.2 T1.out), T2.out]) hj hh (Nat.le_refl _) (Kept.refl _ _)
      · have u1 : e.s.toList.isEmpty = false := by rw [bytes_none]; simpa using t2
        have u2 : ¬ e.s.toList = [] := fun h => by rw [h] at u1; cases u1
        have T2 := Lib.hid t2
        clear t2
        have HP2 : (st.out) ++ [⟨e.f + st.sh, 0, 0, e.s⟩] <+: pcs l size := by
          have h := HP.out; rw [HST2.out] at h; simpa [stp, em, if_neg (Int.not_lt.2 T1.out), T2.out] using h
        obtain ⟨fn2, tmps2, assign2, body2, hy2, hR2⟩ := HY.out (st.out) ⟨e.f + st.sh, 0, 0, e.s⟩ _ _ HB hj HP2
        have HP2' := Lib.hid HP2
        clear HP2
        dsimp only [pcv] at hy2
        rw [HSH.out] at hy2
        gi_wp2
        refine round_at (hR2.mono ?_)
        rintro r W4 ⟨hs4, hk4, (⟨rfl, hJ4⟩ | ⟨rfl, hJx4⟩)⟩
        · have hh4 := hh.kept hk4 (fun j h => .inr (.inl h))
          have h14 := h1.kept hk4 (.inr (.inr (.inl rfl)))
          have h24 := h2.kept hk4 (.inr (.inr (.inr rfl)))
          clear q1 q2 q3 q4 q5 q6 q7 q8 hy2 hR2
          have q1 := hh4.hy.cell (i := 0)
          have q2 := hh4.hf.cell (i := 0)
          have q3 := hh4.ha.cell (i := 0)
          have q4 := h14.cell (i := 0)
          have q5 := h14.cell (i := 1)
          have q6 := h14.cell (i := 2)
          have q7 := h24.cell (i := 0)
          have q8 := h24.cell (i := 1)
          simp only [List.getElem?_toArray, List.getElem?_cons_zero, List.getElem?_cons_succ] at q1 q2 q3 q4 q5 q6 q7 q8
          have f1 := hh4.hf.frozen (i := 0)
          have f2 := hh4.ha.frozen (i := 0)
          gi_wp2
          refine wpIn_region_held (fun W' => W'.cell? ⟨be, 1, none⟩ = some (.int .i64 e.t) ∧ W'.cell? ⟨bs, 1, none⟩ = some (.int .i64 (e.f + gr (l.take pre.length) + e.s.size))) (by kernel_rfl) (by kernel_rfl) ?hQW1b ?_
          case hQW1b => rintro ⟨_, _, h⟩; exact h
          have hS : W4.drew.cell? ⟨be, 1, none⟩ = some (.int .i64 e.t) ∧ W4.drew.cell? ⟨bs, 1, none⟩ = some (.int .i64 (e.f + gr (l.take pre.length) + e.s.size)) := ⟨q5, q8⟩
          refine wpAnyH_take (i := 0) (v := .pointer (some ⟨be, 1, none⟩)) rfl (by kernel_rfl) (by kernel_rfl) (by kernel_rfl) (fun _ _ _ h => h) (Or.inl ⟨by rfl, fun w' hS' => ?y0W1b⟩) hS ?_
          case y0W1b => go_simp
          refine wpAnyH_take (i := 1) (v := .int .i64 e.t) rfl (by kernel_rfl) (by kernel_rfl) (by kernel_rfl) (fun _ _ _ h => h) (Or.inl ⟨by rfl, fun w' hS' => ?y1W1b⟩) hS ?_
          case y1W1b => obtain ⟨s1, s2⟩ := hS'; go_simp
          refine wpAnyH_take (i := 2) (v := .pointer (some ⟨bs, 1, none⟩)) rfl (by kernel_rfl) (by kernel_rfl) (by kernel_rfl) (fun _ _ _ h => h) (Or.inl ⟨by rfl, fun w' hS' => ?y2W1b⟩) hS ?_
          case y2W1b => go_simp
          refine wpAnyH_take (i := 3) (v := .int .i64 (e.f + gr (l.take pre.length) + e.s.size)) rfl (by kernel_rfl) (by kernel_rfl) (by kernel_rfl) (fun _ _ _ h => h) (Or.inl ⟨by rfl, fun w' hS' => ?y3W1b⟩) hS ?_
          case y3W1b => obtain ⟨s1, s2⟩ := hS'; go_simp
          simp only [Act.put, List.setIfInBounds_toArray]
          have hS4 : (W4.drew.setCell ⟨W.heap.size + 1, 0, none⟩ (.int .i64 e.t)).cell? ⟨be, 1, none⟩ = some (.int .i64 e.t) ∧ (W4.drew.setCell ⟨W.heap.size + 1, 0, none⟩ (.int .i64 e.t)).cell? ⟨bs, 1, none⟩ = some (.int .i64 (e.f + gr (l.take pre.length) + e.s.size)) :=
            ⟨(cell_set_other n1 _).trans q5, (cell_set_other n3 _).trans q8⟩
          have hq3 : (W4.drew.setCell ⟨W.heap.size + 1, 0, none⟩ (.int .i64 e.t)).cell? ⟨W.heap.size + 1 + 1, 0, none⟩ = some (.int .i64 (st.fr + st.sh)) := (cell_set_other (by omega) _).trans q3
          have hq2 : W4.drew.cell? ⟨W.heap.size + 1, 0, none⟩ = some (.int .i64 st.fr) := q2
          refine wpAnyH_ready (rs := [4]) (by kernel_rfl) (by simp) ?_
          refine AllReadyH.cons rfl (fun K hK => ?_) AllReadyH.nil
          go_simp
          refine hK.out _ _ hS4 (fun _ => ?_)
          clear hK K
          refine wpAnyH_ready (rs := [5]) (by kernel_rfl) (by simp) ?_
          refine AllReadyH.cons rfl (fun K hK => ?_) AllReadyH.nil
          go_simp
          refine hK.out _ _ ⟨(cell_set_other n2 _).trans hS4.1, (cell_set_other n4 _).trans hS4.2⟩ (fun _ => ?_)
          clear hK K
          refine wpAnyH_done (by kernel_rfl) ?_ _
          exact PcEnd HST2.out HSH.out HJ.out (by simp [em, if_neg (Int.not_lt.2 T1.out), T2.out]) hJ4 hh4 (Nat.le_trans (Nat.le_refl _) hs4) (Kept.trans (Nat.le_refl _) (Kept.refl _ _) hk4)
        · gi_wp2
          exact ⟨(Nat.le_trans (Nat.le_refl _) hs4), (Kept.trans (Nat.le_refl _) (Kept.refl _ _) hk4).mono (fun _ h => .inl h), rfl, _, HP2'.out, (HJx.out _).less hJx4 (fun j h => h.elim .inl (fun h => .inr (.inl h)))⟩
  case done =>
    rintro D W1 ⟨hj, hh⟩ hD
    rw [show l.take (pld l).length = l from by rw [pld_length]; exact List.take_length] at hj hh
    obtain ⟨st, hst⟩ : ∃ st, stOf l = st := ⟨_, rfl⟩
    rw [hst] at hj hh
    have HST := Lib.hid hst
    clear hst
    have q2 := hh.hf.cell (i := 0)
    have q0 := (HC.out _ _ _ hj).2.1.cell (i := 0)
    simp only [List.getElem?_toArray, List.getElem?_cons_zero] at q0 q2
    by_cases t1 : st.fr < size
    · have q1 := hh.hy.cell (i := 0)
      have q3 := hh.ha.cell (i := 0)
      simp only [List.getElem?_toArray, List.getElem?_cons_zero] at q1 q3
      have hP : st.out ++ [⟨st.fr + st.sh, st.fr, size, bnil⟩] = pcs l size := by simp [pcs, HST.out, tailP, t1]
      obtain ⟨fn, tmps, assign, body, hy, hR⟩ := HY.out st.out ⟨st.fr + st.sh, st.fr, size, bnil⟩ _ _ (fun j hj => hj.elim (fun h => ⟨_, h ▸ hD, rfl⟩) hh.ok) hj (by rw [hP]; exact List.prefix_rfl)
      have HP := Lib.hid hP
      clear hP
      dsimp only [pcv, bnil] at hy
      gi_wp2
      refine round_out (hR.mono ?_)
      rintro r W3 ⟨hs3, hk3, (⟨rfl, hJ3⟩ | ⟨rfl, hJx3⟩)⟩
      all_goals have hD3 := (hk3 D (.inl rfl) (Array.getElem?_eq_some_iff.1 hD).1).trans hD
      · gi_wp2
        refine ⟨by simp, .inl ⟨_, _, rfl, run_takeDeferred hD3, ?_⟩⟩
        refine ⟨_, results_none rfl _ _ _, ⟨_, rfl⟩, .inl ?_⟩
        have h := (HJ.out _).off hJ3 (Off.putObj (l := D) (.inl rfl) W3 (.deferred none))
        rw [HP.out] at h
        exact (HJ.out _).less h (fun _ h => h.elim)
      · gi_wp2
        refine ⟨by simp, .inl ⟨_, _, rfl, run_takeDeferred hD3, ?_⟩⟩
        refine ⟨_, results_none rfl _ _ _, ⟨_, rfl⟩, .inr ⟨_, ?_, (HJx.out _).less ((HJx.out _).off hJx3 (Off.putObj (l := D) (.inl rfl) W3 (.deferred none))) (fun _ h => h.elim)⟩⟩
        rw [HP.out]; exact List.prefix_rfl
    · have hP : st.out = pcs l size := by simp [pcs, HST.out, tailP, if_neg t1]
      have HP := Lib.hid hP
      clear hP
      gi_wp2
      refine ⟨by simp, .inl ⟨_, _, rfl, run_takeDeferred hD, ?_⟩⟩
      refine ⟨_, results_none rfl _ _ _, ⟨_, rfl⟩, .inl ?_⟩
      have h := (HJ.out _).off hj (Off.putObj (l := D) (.inl rfl) W1 (.deferred none))
      rw [HP.out] at h
      exact (HJ.out _).less h (fun _ h => h.elim)
  case stop =>
    rintro D c pre W1 hp ⟨rfl, q, hq, hj⟩ hD
    gi_wp2
    refine ⟨by simp, .inl ⟨_, _, rfl, run_takeDeferred hD, ?_⟩⟩
    exact ⟨_, results_none rfl _ _ _, ⟨_, rfl⟩, .inr ⟨_, hq, (HJx.out _).less ((HJx.out _).off hj (Off.putObj (l := D) (.inl rfl) W1 (.deferred none))) (fun _ h => h.elim)⟩⟩
end Go.Proofs.Ytgfafinpcpiogaa
