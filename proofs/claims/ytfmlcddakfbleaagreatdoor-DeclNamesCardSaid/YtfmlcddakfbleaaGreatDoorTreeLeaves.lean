/- The iterator over a tree's leaves, for any loop body. -/
import Derived.Test.YtfmlcddakfbleaaGreatDoorTreeIter
import Derived.Test.YtfmlcddakfbleaaGreatDoorTreeHeld
namespace Go.Proofs.YtfmlcddakfbleaaGreatDoor
open Go.RowKit Go.Shelf TreeMath

attribute [local go_sem] Oper.semAt_some

abbrev ybx (lp : Nat) : Obj := .cells #[.func (.yield lp) #[] #[]] 66 (0, 0)
abbrev nbx (T : Tr) : Obj := .cells (ncc T) 30 (0, 0)
def LvM (y : Nat) : Nat → Prop := fun j => y ≤ j ∧ j ≤ y + 1
def lvp (pre : List (Nat × Tr)) : List Tr := (pre.map (·.2)).filter lfb
theorem lvp_snoc (pre : List (Nat × Tr)) (x : Nat × Tr) : lvp (pre ++ [x]) = lvp pre ++ (if x.2.k = 1 then [x.2] else []) := by
  unfold lvp
  rw [List.map_append, List.filter_append]
  by_cases h : x.2.k = 1 <;> simp [lfb, h]
theorem lvp_pre {pre : List (Nat × Tr)} {T : Tr} (h : pre <+: wk 0 T) : lvp pre <+: lf T := by
  obtain ⟨q, hq⟩ := h
  refine ⟨lvp q, ?_⟩
  unfold lvp lf ns
  rw [← List.filter_append, ← List.map_append, hq]

structure LvH (lp y : Nat) (T : Tr) (X : Nat → Prop) (W : World) : Prop where
  hy : Has y (ybx lp) X W
  hn : Has (y + 1) (nbx T) X W
theorem LvH.frames (lp y : Nat) (T : Tr) : Frames (LvH lp y T) := fun X X' W W' h ho hx => ⟨Has.frames _ _ X X' W W' h.hy ho hx, Has.frames _ _ X X' W W' h.hn ho hx⟩
theorem LvH.ok {lp y : Nat} {T : Tr} {X : Nat → Prop} {W : World} (h : LvH lp y T X W) {j : Nat} (hj : LvM y j) : ∃ o, W.heap[j]? = some o ∧ byteRow o = false := by
  obtain ⟨h1, h2⟩ := hj
  rcases (show j = y ∨ j = y + 1 by omega) with rfl | rfl
  · exact h.hy.ok
  · exact h.hn.ok
theorem LvH.kept {lp y : Nat} {T : Tr} {X M : Nat → Prop} {W W' : World} (h : LvH lp y T X W) (hk : Kept M W W') (hM : ∀ j, LvM y j → M j) : LvH lp y T X W' :=
  ⟨h.hy.kept hk (hM _ ⟨by omega, by omega⟩), h.hn.kept hk (hM _ ⟨by omega, by omega⟩)⟩

def LvI (J : List Tr → As) (lp y : Nat) (T : Tr) (pre : List (Nat × Tr)) : As := fun X W => J (lvp pre) (fun j => X j ∨ LvM y j) W ∧ LvH lp y T X W
abbrev lvFrm (lp b y bp : Nat) (T : Tr) (x : Nat × Tr) : Act :=
  { tmps := #[.func (.yield lp) #[] #[], .pointer (some ⟨b, 0, none⟩), .pointer (some ⟨y, 0, none⟩), undef, .pointer (some ⟨bp, 0, none⟩), nv T, .func (.func 74) #[] #[.pointer (some ⟨y + 1, 0, none⟩)], .int .i64 (x.1 : Nat), nv x.2, undef, undef, undef, undef, undef, undef, undef, undef, undef, undef, undef, undef, undef, undef, undef], defers := [] }
def LvA (J : List Tr → As) (lp b y : Nat) (T : Tr) (pre : List (Nat × Tr)) (x : Nat × Tr) (a' : Act) : As := fun X W => ∃ bp,
  J (lvp pre) (fun j => X j ∨ LvM y j ∨ j = bp) W ∧ LvH lp y T X W ∧ Has bp (nbx x.2) X W ∧ a' = lvFrm lp b y bp T x
def LvX (Jx : List Tr → As) (y : Nat) (L : List Tr) (c : Code) (_ : List (Nat × Tr)) : As := fun X W => c = .ret ∧ ∃ q, q <+: L ∧ Jx q (fun j => X j ∨ LvM y j) W

set_option maxRecDepth 100000 in
set_option maxHeartbeats 2000000 in
theorem leaves_iter (T : Tr) (w₀ : World) (b : Nat) (hT : Tn (lo w₀.heap.size) w₀ T) (hw : wt T ≤ 9000) :
    Iter Tryz.prog 56 #[.pointer (some ⟨b, 0, none⟩)] (fun x : Tr => #[nv (tok x)]) (lf T) (fun X W => Low w₀.heap.size w₀ X W ∧ Has b (nbx T) X W) := by
  intro n m lp J Jx W hJ hJx hC hY h0
  have HY := Lib.hid hY
  have HC := Lib.hid hC
  have HJ := Lib.hid hJ
  have HJx := Lib.hid hJx
  have hb1 := (hC _ _ _ h0).2.2
  have q0 : W.cell? ⟨b, 0, none⟩ = some (.int .i64 T.k) := by simp [World.cell?, hb1]
  have q1 : W.cell? ⟨b, 1, none⟩ = some (.string T.g) := by simp [World.cell?, hb1]
  have q2 : W.cell? ⟨b, 2, none⟩ = some (.string T.t) := by simp [World.cell?, hb1]
  have q3 : W.cell? ⟨b, 3, none⟩ = some (.int .i64 T.a) := by simp [World.cell?, hb1]
  have q4 : W.cell? ⟨b, 4, none⟩ = some (.slice T.A T.kids.length T.c) := by simp [World.cell?, hb1]
  have hlt : b < W.heap.size := (Array.getElem?_eq_some_iff.1 hb1).1
  clear hY hC hJ hJx hb1
  refine callsIn_wide.2 ((callsIn_wide (n := 8)).1 ?_)
  refine callsIn_of_wp_marks Tryz.func56 rfl trivial ?_ rfl
  simp only [Tryz.ntmps56, List.size_toArray, List.length_cons, List.length_nil, Nat.reduceAdd, Nat.reduceSub, Array.replicate_succ, Array.replicate_zero, List.push_toArray, List.append_toArray, List.nil_append, List.cons_append]
  gi_wp2_with (refine ⟨trivial, ?_⟩; gi_at_call 54; refine (callsIn_wide.2 (nodes_any T _)).mono ?_; rintro e w' ⟨rfl, rfl⟩)
  refine range_out (nodes_iter T w₀ (W.heap.size + 1) hT hw) rfl eg_nodes (fun _ => rfl)
    (LvI J lp W.heap.size T) (LvX Jx W.heap.size (lf T)) (LvA J lp b W.heap.size T) ?fI ?fX ?fA ?hC ?h0 ?assign ?body ?done ?stop
  case fI => exact fun pre => ((HJ.out _).within _).and (LvH.frames _ _ _)
  case fX => exact fun c pre => (Frames.pure _).and (Frames.ex fun q => (Frames.pure _).and ((HJx.out _).within _))
  case fA => exact fun pre x a' => Frames.ex fun bp => ((HJ.out _).within _).and ((LvH.frames _ _ _).and ((Has.frames _ _).and (Frames.pure _)))
  case hC =>
    rintro pre X W1 ⟨hj, hh⟩
    have h := (HC.out _ _ _ hj).1
    exact ⟨⟨h.1, h.2.1, fun k hk => h.2.2 k (.inl hk)⟩, hh.hn⟩
  case h0 =>
    refine ⟨(HJ.out _).more h0 ((Off.alloc _ _ _).trans (Off.alloc _ _ _)) (fun j hj => hj.elim (fun h => h.elim) (fun h => .inr h.1)), ?_⟩
    exact ⟨(Has.newAt (fun h => h) rfl _).alloc _, Has.newAt (fun h => h) (by simp) _⟩
  case assign =>
    rintro lq X pre x W1 K hX hXb ⟨hj, hh⟩ hp hK
    gi_wp2
    refine hK _ _ (by simp) (Kept.alloc _ _ _) ⟨W1.heap.size, ?_, ?_, ?_, rfl⟩
    · refine (HJ.out _).more hj (Off.alloc _ _ _) (fun j hj => ?_)
      rcases hj with h | h | h
      · exact .inl (.inl h)
      · exact .inl (.inr h)
      · exact .inr (by omega)
    · exact (LvH.frames _ _ _).off hh (Off.alloc _ _ _)
    · exact Has.new hXb _
  case body =>
    rintro lq X pre x a' W1 hX hXb hr ⟨bp, hj, hh, h1, rfl⟩ hp
    have HP := Lib.hid hp
    clear hp q0 q1 q2 q3 q4 hT hlt h0
    obtain ⟨d, x⟩ := x
    have p0 := h1.cell (i := 0)
    have p1 := h1.cell (i := 1)
    have p2 := h1.cell (i := 2)
    have p3 := h1.cell (i := 3)
    have r0 := hh.hy.cell (i := 0)
    simp only [List.getElem?_toArray, List.getElem?_cons_zero, List.getElem?_cons_succ] at p0 p1 p2 p3 r0
    have HB : Hid (∀ W2, Below W1.heap.size W1 W2 → XOk (fun j => X j ∨ LvM W.heap.size j ∨ j = bp) W2) := Lib.hid fun W2 hB => XOk.below (fun j hj => by
      rcases hj with h | h | h
      · exact hXb j h
      · exact hh.ok h
      · subst h; exact h1.ok) hB
    have HSN := Lib.hid (lvp_snoc pre (d, x))
    have HPP := Lib.hid (lvp_pre HP.out)
    by_cases hk : x.k = 1
    · have HLP : Hid (lvp (pre ++ [(d, x)]) = lvp pre ++ [x]) := Lib.hid (by rw [HSN.out, if_pos hk])
      have HPX : Hid (lvp pre ++ [x] <+: lf T) := Lib.hid (by rw [← HLP.out]; exact HPP.out)
      rw [hk] at p0
      have hcs : ∀ W' : World, LvH lp W.heap.size T X W' → Has bp (nbx x) X W' → W'.cell? ⟨W.heap.size, 0, none⟩ = some (.func (.yield lp) #[] #[]) ∧ W'.cell? ⟨bp, 0, none⟩ = some (.int .i64 1) ∧ W'.cell? ⟨bp, 1, none⟩ = some (.string x.g) ∧ W'.cell? ⟨bp, 2, none⟩ = some (.string x.t) ∧ W'.cell? ⟨bp, 3, none⟩ = some (.int .i64 x.a) := fun W' g1 g2 => by
        have p0 := g2.cell (i := 0)
        have p1 := g2.cell (i := 1)
        have p2 := g2.cell (i := 2)
        have p3 := g2.cell (i := 3)
        have r0 := g1.hy.cell (i := 0)
        simp only [List.getElem?_toArray, List.getElem?_cons_zero, List.getElem?_cons_succ, hk] at p0 p1 p2 p3 r0
        exact ⟨r0, p0, p1, p2, p3⟩
      have hS : W1.drew.cell? ⟨W.heap.size, 0, none⟩ = some (.func (.yield lp) #[] #[]) ∧ W1.drew.cell? ⟨bp, 0, none⟩ = some (.int .i64 1) ∧ W1.drew.cell? ⟨bp, 1, none⟩ = some (.string x.g) ∧ W1.drew.cell? ⟨bp, 2, none⟩ = some (.string x.t) ∧ W1.drew.cell? ⟨bp, 3, none⟩ = some (.int .i64 x.a) := ⟨r0, p0, p1, p2, p3⟩
      clear hk
      gi_wp2
      refine wpIn_region_heldI (fun W' => W'.cell? ⟨W.heap.size, 0, none⟩ = some (.func (.yield lp) #[] #[]) ∧ W'.cell? ⟨bp, 0, none⟩ = some (.int .i64 1) ∧ W'.cell? ⟨bp, 1, none⟩ = some (.string x.g) ∧ W'.cell? ⟨bp, 2, none⟩ = some (.string x.t) ∧ W'.cell? ⟨bp, 3, none⟩ = some (.int .i64 x.a)) (by kernel_rfl) ?_
      refine wpAnyHI_take (i := 0) (v := .pointer (some ⟨bp, 0, none⟩)) 9 (by kernel_rfl) rfl rfl (by kernel_rfl) (by kernel_rfl) (by kernel_rfl) (fun _ _ _ h => h) (Or.inl ⟨by kernel_rfl, fun w' hS' => ?y0⟩) hS ?_
      case y0 => (obtain ⟨s0, s1, s2, s3, s4⟩ := hS'; go_simp)
      simp only [Act.put, List.setIfInBounds_toArray, List.set_cons_zero, List.set_cons_succ]
      refine wpAnyHI_take (i := 1) (v := .int .i64 1) 10 (by kernel_rfl) rfl rfl (by kernel_rfl) (by kernel_rfl) (by kernel_rfl) (fun _ _ _ h => h) (Or.inl ⟨by kernel_rfl, fun w' hS' => ?y1⟩) hS ?_
      case y1 => (obtain ⟨s0, s1, s2, s3, s4⟩ := hS'; go_simp)
      simp only [Act.put, List.setIfInBounds_toArray, List.set_cons_zero, List.set_cons_succ]
      refine wpAnyHI_take (i := 2) (v := .bool true) 11 (by kernel_rfl) rfl rfl (by kernel_rfl) (by kernel_rfl) (by kernel_rfl) (fun _ _ _ h => h) (Or.inl ⟨by kernel_rfl, fun w' hS' => ?y2⟩) hS ?_
      case y2 => (obtain ⟨s0, s1, s2, s3, s4⟩ := hS'; go_simp)
      simp only [Act.put, List.setIfInBounds_toArray, List.set_cons_zero, List.set_cons_succ]
      refine wpAnyHI_take (i := 3) (v := .bool true) 12 (by kernel_rfl) rfl rfl (by kernel_rfl) (by kernel_rfl) (by kernel_rfl) (fun _ _ _ h => h) (Or.inl ⟨by kernel_rfl, fun w' hS' => ?y3⟩) hS ?_
      case y3 => (obtain ⟨s0, s1, s2, s3, s4⟩ := hS'; go_simp)
      simp only [Act.put, List.setIfInBounds_toArray, List.set_cons_zero, List.set_cons_succ]
      refine wpAnyHI_take (i := 4) (v := .func (.yield lp) #[] #[]) 13 (by kernel_rfl) rfl rfl (by kernel_rfl) (by kernel_rfl) (by kernel_rfl) (fun _ _ _ h => h) (Or.inl ⟨by kernel_rfl, fun w' hS' => ?y4⟩) hS ?_
      case y4 => (obtain ⟨s0, s1, s2, s3, s4⟩ := hS'; go_simp)
      simp only [Act.put, List.setIfInBounds_toArray, List.set_cons_zero, List.set_cons_succ]
      refine wpAnyHI_take (i := 5) (v := .pointer (some ⟨bp, 1, none⟩)) 14 (by kernel_rfl) rfl rfl (by kernel_rfl) (by kernel_rfl) (by kernel_rfl) (fun _ _ _ h => h) (Or.inl ⟨by kernel_rfl, fun w' hS' => ?y5⟩) hS ?_
      case y5 => (obtain ⟨s0, s1, s2, s3, s4⟩ := hS'; go_simp)
      simp only [Act.put, List.setIfInBounds_toArray, List.set_cons_zero, List.set_cons_succ]
      refine wpAnyHI_take (i := 6) (v := .string x.g) 15 (by kernel_rfl) rfl rfl (by kernel_rfl) (by kernel_rfl) (by kernel_rfl) (fun _ _ _ h => h) (Or.inl ⟨by kernel_rfl, fun w' hS' => ?y6⟩) hS ?_
      case y6 => (obtain ⟨s0, s1, s2, s3, s4⟩ := hS'; go_simp)
      simp only [Act.put, List.setIfInBounds_toArray, List.set_cons_zero, List.set_cons_succ]
      refine wpAnyHI_take (i := 7) (v := .pointer (some ⟨bp, 2, none⟩)) 16 (by kernel_rfl) rfl rfl (by kernel_rfl) (by kernel_rfl) (by kernel_rfl) (fun _ _ _ h => h) (Or.inl ⟨by kernel_rfl, fun w' hS' => ?y7⟩) hS ?_
      case y7 => (obtain ⟨s0, s1, s2, s3, s4⟩ := hS'; go_simp)
      simp only [Act.put, List.setIfInBounds_toArray, List.set_cons_zero, List.set_cons_succ]
      refine wpAnyHI_take (i := 8) (v := .string x.t) 17 (by kernel_rfl) rfl rfl (by kernel_rfl) (by kernel_rfl) (by kernel_rfl) (fun _ _ _ h => h) (Or.inl ⟨by kernel_rfl, fun w' hS' => ?y8⟩) hS ?_
      case y8 => (obtain ⟨s0, s1, s2, s3, s4⟩ := hS'; go_simp)
      simp only [Act.put, List.setIfInBounds_toArray, List.set_cons_zero, List.set_cons_succ]
      refine wpAnyHI_take (i := 9) (v := .pointer (some ⟨bp, 3, none⟩)) 18 (by kernel_rfl) rfl rfl (by kernel_rfl) (by kernel_rfl) (by kernel_rfl) (fun _ _ _ h => h) (Or.inl ⟨by kernel_rfl, fun w' hS' => ?y9⟩) hS ?_
      case y9 => (obtain ⟨s0, s1, s2, s3, s4⟩ := hS'; go_simp)
      simp only [Act.put, List.setIfInBounds_toArray, List.set_cons_zero, List.set_cons_succ]
      refine wpAnyHI_take (i := 10) (v := .int .i64 x.a) 19 (by kernel_rfl) rfl rfl (by kernel_rfl) (by kernel_rfl) (by kernel_rfl) (fun _ _ _ h => h) (Or.inl ⟨by kernel_rfl, fun w' hS' => ?y10⟩) hS ?_
      case y10 => (obtain ⟨s0, s1, s2, s3, s4⟩ := hS'; go_simp)
      simp only [Act.put, List.setIfInBounds_toArray, List.set_cons_zero, List.set_cons_succ]
      refine wpAnyHI_one (i := 11) (by kernel_rfl) rfl (fun K hK => ?_)
      go_simp
      refine ⟨trivial, (CallsIn.inRound lq (callsIn_wide.2 (token_any _ _ _ _))).mono ?_⟩
      rintro r W2 ⟨rfl, hB⟩
      have hB2 : Below W1.heap.size W1 W2 := ⟨hB.os, hB.tape, hB.output, hB.size, hB.block⟩
      clear hB
      have hh2 := (LvH.frames _ _ _).off hh (Off.of_below hB2)
      have h12 := (Has.frames _ _).off h1 (Off.of_below hB2)
      have hS2 := hcs W2 hh2 h12
      refine hK.out _ _ hS2 (fun _ => ?_)
      clear hK K
      try simp only [Act.put, List.setIfInBounds_toArray, List.set_cons_zero, List.set_cons_succ]
      obtain ⟨fn, tmps, assign, body, hy, hR⟩ := HY.out (lvp pre) x _ W2 (HB.out W2 hB2) ((HJ.out _).off hj (Off.of_below hB2)) HPX.out
      dsimp only [tok] at hy
      refine wpAnyHI_one (i := 12) (by kernel_rfl) rfl (fun K hK => ?_)
      go_simp
      refine round_at (hR.mono ?_)
      clear hy hR hS hS2
      rintro r W3 ⟨hs3, hk3, (⟨rfl, hJ3⟩ | ⟨rfl, hJx3⟩)⟩
      · have hh3 := hh2.kept hk3 (fun j h => .inr (.inl h))
        have h13 := h12.kept hk3 (.inr (.inr rfl))
        have hS3 := hcs W3 hh3 h13
        refine hK.out _ _ hS3 (fun _ => ?_)
        clear hK K
        try simp only [Act.put, List.setIfInBounds_toArray, List.set_cons_zero, List.set_cons_succ]
        refine wpAnyHI_take (i := 13) (v := .bool false) 22 (by kernel_rfl) rfl rfl (by kernel_rfl) (by kernel_rfl) (by kernel_rfl) (fun _ _ _ h => h) (Or.inl ⟨by kernel_rfl, fun w' hS' => ?y13⟩) hS3 ?_
        case y13 => (obtain ⟨s0, s1, s2, s3, s4⟩ := hS'; go_simp)
        simp only [Act.put, List.setIfInBounds_toArray, List.set_cons_zero, List.set_cons_succ]
        refine wpAnyHI_take (i := 14) (v := .bool false) 23 (by kernel_rfl) rfl rfl (by kernel_rfl) (by kernel_rfl) (by kernel_rfl) (fun _ _ _ h => h) (Or.inl ⟨by kernel_rfl, fun w' hS' => ?y14⟩) hS3 ?_
        case y14 => (obtain ⟨s0, s1, s2, s3, s4⟩ := hS'; go_simp)
        simp only [Act.put, List.setIfInBounds_toArray, List.set_cons_zero, List.set_cons_succ]
        refine wpAnyHI_done (by kernel_rfl) ?_ _
        gi_wp2
        refine ⟨Nat.le_trans hB2.size hs3, Kept.trans hB2.size (Kept.below hB2) (hk3.mono fun _ h => .inl h), ?_, hh3⟩
        rw [HLP.out]
        exact (HJ.out _).less hJ3 (fun j h => h.elim .inl (fun h => .inr (.inl h)))
      · have hh3 := hh2.kept hk3 (fun j h => .inr (.inl h))
        have h13 := h12.kept hk3 (.inr (.inr rfl))
        have hS3 := hcs W3 hh3 h13
        refine hK.out _ _ hS3 (fun _ => ?_)
        clear hK K
        try simp only [Act.put, List.setIfInBounds_toArray, List.set_cons_zero, List.set_cons_succ]
        refine wpAnyHI_take (i := 13) (v := .bool true) 22 (by kernel_rfl) rfl rfl (by kernel_rfl) (by kernel_rfl) (by kernel_rfl) (fun _ _ _ h => h) (Or.inl ⟨by kernel_rfl, fun w' hS' => ?y13⟩) hS3 ?_
        case y13 => (obtain ⟨s0, s1, s2, s3, s4⟩ := hS'; go_simp)
        simp only [Act.put, List.setIfInBounds_toArray, List.set_cons_zero, List.set_cons_succ]
        refine wpAnyHI_take (i := 14) (v := .bool true) 23 (by kernel_rfl) rfl rfl (by kernel_rfl) (by kernel_rfl) (by kernel_rfl) (fun _ _ _ h => h) (Or.inl ⟨by kernel_rfl, fun w' hS' => ?y14⟩) hS3 ?_
        case y14 => (obtain ⟨s0, s1, s2, s3, s4⟩ := hS'; go_simp)
        simp only [Act.put, List.setIfInBounds_toArray, List.set_cons_zero, List.set_cons_succ]
        refine wpAnyHI_done (by kernel_rfl) ?_ _
        gi_wp2
        exact ⟨Nat.le_trans hB2.size hs3, Kept.trans hB2.size (Kept.below hB2) (hk3.mono fun _ h => .inl h), rfl, _, HPX.out, (HJx.out _).less hJx3 (fun j h => h.elim .inl (fun h => .inr (.inl h)))⟩
    · have HLP : Hid (lvp (pre ++ [(d, x)]) = lvp pre) := Lib.hid (by rw [HSN.out, if_neg hk, List.append_nil])
      have hd : (x.k == 1) = false := by simp [hk]
      have hS : W1.drew.cell? ⟨bp, 0, none⟩ = some (.int .i64 x.k) := p0
      clear hk
      gi_wp2
      refine wpIn_region_heldI (fun W' => W'.cell? ⟨bp, 0, none⟩ = some (.int .i64 x.k)) (by kernel_rfl) ?_
      refine wpAnyHI_take (i := 0) (v := .pointer (some ⟨bp, 0, none⟩)) 9 (by kernel_rfl) rfl rfl (by kernel_rfl) (by kernel_rfl) (by kernel_rfl) (fun _ _ _ h => h) (Or.inl ⟨by kernel_rfl, fun w' hS' => ?y0⟩) hS ?_
      case y0 => (have s1 := hS'; go_simp)
      simp only [Act.put, List.setIfInBounds_toArray, List.set_cons_zero, List.set_cons_succ]
      refine wpAnyHI_take (i := 1) (v := .int .i64 x.k) 10 (by kernel_rfl) rfl rfl (by kernel_rfl) (by kernel_rfl) (by kernel_rfl) (fun _ _ _ h => h) (Or.inl ⟨by kernel_rfl, fun w' hS' => ?y1⟩) hS ?_
      case y1 => (have s1 := hS'; go_simp)
      simp only [Act.put, List.setIfInBounds_toArray, List.set_cons_zero, List.set_cons_succ]
      refine wpAnyHI_take (i := 2) (v := .bool false) 11 (by kernel_rfl) rfl rfl (by kernel_rfl) (by kernel_rfl) (by kernel_rfl) (fun _ _ _ h => h) (Or.inl ⟨by kernel_rfl, fun w' hS' => ?y2⟩) hS ?_
      case y2 => (have s1 := hS'; go_simp)
      simp only [Act.put, List.setIfInBounds_toArray, List.set_cons_zero, List.set_cons_succ]
      refine wpAnyHI_take (i := 3) (v := .bool false) 12 (by kernel_rfl) rfl rfl (by kernel_rfl) (by kernel_rfl) (by kernel_rfl) (fun _ _ _ h => h) (Or.inl ⟨by kernel_rfl, fun w' hS' => ?y3⟩) hS ?_
      case y3 => (have s1 := hS'; go_simp)
      simp only [Act.put, List.setIfInBounds_toArray, List.set_cons_zero, List.set_cons_succ]
      refine wpAnyHI_take (i := 4) (v := undef) 13 (by kernel_rfl) rfl rfl (by kernel_rfl) (by kernel_rfl) (by kernel_rfl) (fun _ _ _ h => h) (Or.inr ⟨by kernel_rfl, rfl⟩) hS ?_
      simp only [Act.put, List.setIfInBounds_toArray, List.set_cons_zero, List.set_cons_succ]
      refine wpAnyHI_take (i := 5) (v := undef) 14 (by kernel_rfl) rfl rfl (by kernel_rfl) (by kernel_rfl) (by kernel_rfl) (fun _ _ _ h => h) (Or.inr ⟨by kernel_rfl, rfl⟩) hS ?_
      simp only [Act.put, List.setIfInBounds_toArray, List.set_cons_zero, List.set_cons_succ]
      refine wpAnyHI_take (i := 6) (v := undef) 15 (by kernel_rfl) rfl rfl (by kernel_rfl) (by kernel_rfl) (by kernel_rfl) (fun _ _ _ h => h) (Or.inr ⟨by kernel_rfl, rfl⟩) hS ?_
      simp only [Act.put, List.setIfInBounds_toArray, List.set_cons_zero, List.set_cons_succ]
      refine wpAnyHI_take (i := 7) (v := undef) 16 (by kernel_rfl) rfl rfl (by kernel_rfl) (by kernel_rfl) (by kernel_rfl) (fun _ _ _ h => h) (Or.inr ⟨by kernel_rfl, rfl⟩) hS ?_
      simp only [Act.put, List.setIfInBounds_toArray, List.set_cons_zero, List.set_cons_succ]
      refine wpAnyHI_take (i := 8) (v := undef) 17 (by kernel_rfl) rfl rfl (by kernel_rfl) (by kernel_rfl) (by kernel_rfl) (fun _ _ _ h => h) (Or.inr ⟨by kernel_rfl, rfl⟩) hS ?_
      simp only [Act.put, List.setIfInBounds_toArray, List.set_cons_zero, List.set_cons_succ]
      refine wpAnyHI_take (i := 9) (v := undef) 18 (by kernel_rfl) rfl rfl (by kernel_rfl) (by kernel_rfl) (by kernel_rfl) (fun _ _ _ h => h) (Or.inr ⟨by kernel_rfl, rfl⟩) hS ?_
      simp only [Act.put, List.setIfInBounds_toArray, List.set_cons_zero, List.set_cons_succ]
      refine wpAnyHI_take (i := 10) (v := undef) 19 (by kernel_rfl) rfl rfl (by kernel_rfl) (by kernel_rfl) (by kernel_rfl) (fun _ _ _ h => h) (Or.inr ⟨by kernel_rfl, rfl⟩) hS ?_
      simp only [Act.put, List.setIfInBounds_toArray, List.set_cons_zero, List.set_cons_succ]
      refine wpAnyHI_take (i := 11) (v := undef) 20 (by kernel_rfl) rfl rfl (by kernel_rfl) (by kernel_rfl) (by kernel_rfl) (fun _ _ _ h => h) (Or.inr ⟨by kernel_rfl, rfl⟩) hS ?_
      simp only [Act.put, List.setIfInBounds_toArray, List.set_cons_zero, List.set_cons_succ]
      refine wpAnyHI_take (i := 12) (v := undef) 21 (by kernel_rfl) rfl rfl (by kernel_rfl) (by kernel_rfl) (by kernel_rfl) (fun _ _ _ h => h) (Or.inr ⟨by kernel_rfl, rfl⟩) hS ?_
      simp only [Act.put, List.setIfInBounds_toArray, List.set_cons_zero, List.set_cons_succ]
      refine wpAnyHI_take (i := 13) (v := undef) 22 (by kernel_rfl) rfl rfl (by kernel_rfl) (by kernel_rfl) (by kernel_rfl) (fun _ _ _ h => h) (Or.inr ⟨by kernel_rfl, rfl⟩) hS ?_
      simp only [Act.put, List.setIfInBounds_toArray, List.set_cons_zero, List.set_cons_succ]
      refine wpAnyHI_take (i := 14) (v := .bool false) 23 (by kernel_rfl) rfl rfl (by kernel_rfl) (by kernel_rfl) (by kernel_rfl) (fun _ _ _ h => h) (Or.inl ⟨by kernel_rfl, fun w' hS' => ?y14⟩) hS ?_
      case y14 => (have s1 := hS'; go_simp)
      simp only [Act.put, List.setIfInBounds_toArray, List.set_cons_zero, List.set_cons_succ]
      refine wpAnyHI_done (by kernel_rfl) ?_ _
      gi_wp2
      refine ⟨Nat.le_refl _, Kept.refl _ _, ?_, ⟨hh.hy, hh.hn⟩⟩
      rw [HLP.out]
      exact (HJ.out _).less ((HJ.out _).off hj (Off.drew _ _)) (fun j h => h.elim .inl (fun h => .inr (.inl h)))
  case done =>
    rintro D W1 ⟨hj, hh⟩ hD
    gi_wp2
    refine ⟨by simp, .inl ⟨_, _, rfl, run_takeDeferred hD, ?_⟩⟩
    exact ⟨_, results_none rfl _ _ _, ⟨_, rfl⟩, .inl ((HJ.out _).less ((HJ.out _).off hj (Off.putObj (l := D) (.inl rfl) W1 (.deferred none))) (fun _ h => h.elim))⟩
  case stop =>
    rintro D c pre W1 hp ⟨rfl, q, hq, hj⟩ hD
    gi_wp2
    refine ⟨by simp, .inl ⟨_, _, rfl, run_takeDeferred hD, ?_⟩⟩
    exact ⟨_, results_none rfl _ _ _, ⟨_, rfl⟩, .inr ⟨_, hq, (HJx.out _).less ((HJx.out _).off hj (Off.putObj (l := D) (.inl rfl) W1 (.deferred none))) (fun _ h => h.elim)⟩⟩
end Go.Proofs.YtfmlcddakfbleaaGreatDoor
