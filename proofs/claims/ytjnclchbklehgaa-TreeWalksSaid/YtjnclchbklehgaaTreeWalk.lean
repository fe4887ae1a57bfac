/- tree.Walk: its iterator hands on each node with its depth, copied. -/
import Derived.Test.YtjnclchbklehgaaTreeColl
import Derived.Test.YtjnclchbklehgaaTreeRange
import Derived.Test.YtjnclchbklehgaaTreeVisitX
import Derived.Test.YtjnclchbklehgaaTreeMake
import Derived.Test.YtjnclchbklehgaaTreeSameMath
import Derived.Test.YtjnclchbklehgaaTreeDoc
namespace Go.Proofs.Ytjnclchbklehgaa
open Go.RowKit Go.Shelf TreeMath

attribute [local go_sem] Oper.semAt_some

theorem eg_walk : ∀ args w, (callFunc 42 args).run Try.prog w = .ok (.enter 42 args) w := by
  intro args w; simp [go_sem]
theorem eg_walk0 : ∀ args w, (callFunc 40 args).run Try.prog w = .ok (.enter 40 args) w := by
  intro args w; simp [go_sem]

/-- a node with its depth, plainly -/
def plp (p : Nat × Tr) : Nat × Tr := (p.1, pl p.2)
abbrev wbx (lp : Nat) : Obj := .cells #[.func (.yield lp) #[] #[]] 79 (0, 0)
structure WkH (lp y : Nat) (T : Tr) (X : Nat → Prop) (W : World) : Prop where
  hy : Has y (wbx lp) X W
  hn : Has (y + 1) (nbx T) X W
theorem WkH.frames (lp y : Nat) (T : Tr) : Frames (WkH lp y T) := fun X X' W W' h ho hx => ⟨Has.frames _ _ X X' W W' h.hy ho hx, Has.frames _ _ X X' W W' h.hn ho hx⟩
theorem WkH.ok {lp y : Nat} {T : Tr} {X : Nat → Prop} {W : World} (h : WkH lp y T X W) {j : Nat} (hj : LvM y j) : ∃ o, W.heap[j]? = some o ∧ byteRow o = false := by
  obtain ⟨h1, h2⟩ := hj
  rcases (show j = y ∨ j = y + 1 by omega) with rfl | rfl
  · exact h.hy.ok
  · exact h.hn.ok
theorem WkH.kept {lp y : Nat} {T : Tr} {X M : Nat → Prop} {W W' : World} (h : WkH lp y T X W) (hk : Kept M W W') (hM : ∀ j, LvM y j → M j) : WkH lp y T X W' :=
  ⟨h.hy.kept hk (hM _ ⟨by omega, by omega⟩), h.hn.kept hk (hM _ ⟨by omega, by omega⟩)⟩
def WkI (J : List (Nat × Tr) → As) (lp y : Nat) (T : Tr) (pre' : List (Nat × Tr)) : As := fun X W => ∃ pre : List (Nat × Tr), pre.map plp = pre'.map plp ∧ J pre (fun j => X j ∨ LvM y j) W ∧ WkH lp y T X W ∧ TnX T X W
def WkX (Jx : List (Nat × Tr) → As) (y : Nat) (c : Code) (_ : List (Nat × Tr)) : As := fun X W => c = .ret ∧ ∃ q, Jx q (fun j => X j ∨ LvM y j) W

set_option maxRecDepth 100000 in
set_option maxHeartbeats 4000000 in
theorem walk_iter (T : Tr) (b : Nat) (hr : rgt T = true) (hw : wt T ≤ 5000) :
    IterG Try.prog 42 #[.pointer (some ⟨b, 0, none⟩)] wv (fun l => l.map plp <+: (wk 0 T).map plp) (fun l => l.map plp = (wk 0 T).map plp) (fun p => TnX p.2) (fun X W => TnX T X W ∧ Has b (nbx T) X W) := by
  intro n m lp J Jx W hJ hJx hC hY h0
  have HY := Lib.hid hY
  have HC := Lib.hid hC
  have HJ := Lib.hid hJ
  have HJx := Lib.hid hJx
  have hb1 := (hC _ _ _ h0).2.2
  have q0 : W.cell? ⟨b, 0, none⟩ = some (.int .i64 T.k) := by simp [World.cell?, hb1]
  have q1 : W.cell? ⟨b, 1, none⟩ = some (.string T.g) := by simp [World.cell?, hb1]
  have q2 : W.cell? ⟨b, 2, none⟩ = some (.string T.t) := by simp [World.cell?, hb1]
  have q3 : W.cell? ⟨b, 3, none⟩ = some (.int .i64 T.a) := by simp [World.cell?, hb1]
  have q4 : W.cell? ⟨b, 4, none⟩ = some (.slice T.A T.kids.length T.c) := by simp [World.cell?, hb1]
  have hlt : b < W.heap.size := (Array.getElem?_eq_some_iff.1 hb1).1
  have HCP : Hid (∀ (p : Nat × Tr) (W1 : World), p ∈ wk 0 T → Tn (lo W1.heap.size) W1 p.2 → Calls Try.prog 41 #[nv p.2] W1 (CpV (pl p.2) W1)) := Lib.hid fun p W1 hp hl => by
    have hm : p.2 ∈ ns T := wk_mem (d := p.1) hp
    exact copied_any p.2 W1 (fun x hx hk => (snd_leaf (rgt_node hr (ns_trans hm hx)) hk).2.2) (Nat.le_trans (wt_nodes p.2 hm) hw) hl
  clear hY hC hJ hJx hb1
  refine callsIn_wide.2 ((callsIn_wide (n := 8)).1 ?_)
  refine callsIn_of_wp_marks Try.func42 rfl trivial ?_ rfl
  simp only [Try.ntmps42, List.size_toArray, List.length_cons, List.length_nil, Nat.reduceAdd, Nat.reduceSub, Array.replicate_succ, Array.replicate_zero, List.push_toArray, List.append_toArray, List.nil_append, List.cons_append]
  gi_wp2_with (refine ⟨trivial, ?_⟩; gi_at_call 34; refine (callsIn_wide.2 (nodes_any T _)).mono ?_; rintro e w' ⟨rfl, rfl⟩)
  refine range_outG (nodesX_iter T (W.heap.size + 1) hw).g gT (fun _ => Frames.pure _) rfl eg_nodes (fun _ => rfl)
    (fun (t : Array Value) (x : Nat × Tr) (bp : Nat) => { tmps := (((t.setIfInBounds 7 (.int .i64 (x.1 : Nat))).setIfInBounds 8 (nv x.2)).setIfInBounds 3 (.int .i64 (x.1 : Nat))).setIfInBounds 4 (.pointer (some ⟨bp, 0, none⟩)), defers := [] })
    (WkI J lp W.heap.size T) (WkX Jx W.heap.size) (fun pre x bp X W1 => (∃ pre0 : List (Nat × Tr), pre0.map plp = pre.map plp ∧ J pre0 (fun j => X j ∨ LvM W.heap.size j ∨ j = bp) W1) ∧ WkH lp W.heap.size T X W1 ∧ Has bp (nbx x.2) X W1 ∧ TnX T X W1) ?fI ?fX ?fA ?hC ?h0 ?assign ?body ?done ?stop
  case fI => exact fun pre => Frames.ex fun p0 => (Frames.pure _).and (((HJ.out _).within _).and ((WkH.frames _ _ _).and (TnX.frames _)))
  case fX => exact fun c pre => (Frames.pure _).and (Frames.ex fun q => (HJx.out _).within _)
  case fA => exact fun pre x bp => (Frames.ex fun p0 => (Frames.pure _).and ((HJ.out _).within _)).and ((WkH.frames _ _ _).and ((Has.frames _ _).and (TnX.frames _)))
  case hC => exact fun pre X W1 ⟨p0, _, _, hh, hl⟩ => ⟨hl, hh.hn⟩
  case h0 =>
    refine ⟨[], rfl, (HJ.out _).more h0 ((Off.alloc _ _ _).trans (Off.alloc _ _ _)) (fun j hj => hj.elim (fun h => h.elim) (fun h => .inr h.1)), ⟨(Has.newAt (fun h => h) rfl _).alloc _, Has.newAt (fun h => h) (by simp) _⟩, ?_⟩
    exact (TnX.frames _).off (HC.out _ _ _ h0).1 ((Off.alloc _ _ _).trans (Off.alloc _ _ _))
  case assign =>
    rintro lq X pre x W1 K hX hXb ⟨p0, hp0, hj, hh, hl⟩ - hp hK
    have hb1 := hK W1.heap.size (W1.alloc (nbx x.2)) (by simp) (Kept.alloc _ _ _) ⟨⟨p0, hp0, (HJ.out _).more hj (Off.alloc _ _ _) (fun j hj => by
      rcases hj with h | h | h
      · exact .inl (.inl h)
      · exact .inl (.inr h)
      · exact .inr (by omega))⟩, (WkH.frames _ _ _).off hh (Off.alloc _ _ _), Has.new hXb _, (TnX.frames _).off hl (Off.alloc _ _ _)⟩
    clear hK h0 q0 q1 q2 q3 q4
    gi_wp2
    simpa only [List.setIfInBounds_toArray, List.set_cons_zero, List.set_cons_succ] using hb1
  case done =>
    rintro D xs W1 rfl ⟨p0, hp0, hj, -, -⟩ hD
    gi_wp2
    refine ⟨by simp, .inl ⟨_, _, rfl, run_takeDeferred hD, ?_⟩⟩
    exact ⟨_, results_none rfl _ _ _, ⟨_, rfl⟩, .inl ⟨p0, hp0, (HJ.out _).less ((HJ.out _).off hj (Off.putObj (l := D) (.inl rfl) W1 (.deferred none))) (fun _ h => h.elim)⟩⟩
  case stop =>
    rintro D c pre W1 ⟨rfl, q, hq⟩ hD
    gi_wp2
    refine ⟨by simp, .inl ⟨_, _, rfl, run_takeDeferred hD, ?_⟩⟩
    exact ⟨_, results_none rfl _ _ _, ⟨_, rfl⟩, .inr ⟨q, (HJx.out _).less ((HJx.out _).off hq (Off.putObj (l := D) (.inl rfl) W1 (.deferred none))) (fun _ h => h.elim)⟩⟩
  case body =>
    rintro lq X pre x bp W1 hX hXb hr2 ⟨⟨p0_, hp0, hj⟩, hh, h1, hl⟩ hp
    simp only [List.setIfInBounds_toArray, List.set_cons_zero, List.set_cons_succ]
    have HP := Lib.hid hp
    clear hp q0 q1 q2 q3 q4 hlt h0
    obtain ⟨d, x⟩ := x
    have p0 := h1.cell (i := 0)
    have p1 := h1.cell (i := 1)
    have p2 := h1.cell (i := 2)
    have p3 := h1.cell (i := 3)
    have p4 := h1.cell (i := 4)
    have r0 := hh.hy.cell (i := 0)
    simp only [List.getElem?_toArray, List.getElem?_cons_zero, List.getElem?_cons_succ] at p0 p1 p2 p3 p4 r0
    have HB : Hid (∀ W2, Below W1.heap.size W1 W2 → XOk (fun j => X j ∨ LvM W.heap.size j ∨ j = bp) W2) := Lib.hid fun W2 hB => XOk.below (fun j hj => by
      rcases hj with h | h | h
      · exact hXb j h
      · exact hh.ok h
      · subst h; exact h1.ok) hB
    have HX : Hid (∀ j, X j ∨ LvM W.heap.size j ∨ j = bp → j < W1.heap.size) := Lib.hid fun j hj => by
      obtain ⟨o, ho, -⟩ := HB.out W1 (Below.refl _ _) j hj
      exact (Array.getElem?_eq_some_iff.1 ho).1
    have HM : Hid ((d, x) ∈ wk 0 T) := Lib.hid (HP.out.subset (by simp))
    have HPM : Hid (∀ U, pl U = pl x → (p0_ ++ [(d, U)]).map plp = (pre ++ [(d, x)]).map plp) := Lib.hid fun U hU => by
      rw [List.map_append, List.map_append, hp0]
      simp [plp, hU]
    have hcs : ∀ W' : World, WkH lp W.heap.size T X W' → Has bp (nbx x) X W' → W'.cell? ⟨W.heap.size, 0, none⟩ = some (.func (.yield lp) #[] #[]) ∧ W'.cell? ⟨bp, 0, none⟩ = some (.int .i64 x.k) ∧ W'.cell? ⟨bp, 1, none⟩ = some (.string x.g) ∧ W'.cell? ⟨bp, 2, none⟩ = some (.string x.t) ∧ W'.cell? ⟨bp, 3, none⟩ = some (.int .i64 x.a) ∧ W'.cell? ⟨bp, 4, none⟩ = some (.slice x.A x.kids.length x.c) := fun W' g1 g2 => by
      have p0 := g2.cell (i := 0)
      have p1 := g2.cell (i := 1)
      have p2 := g2.cell (i := 2)
      have p3 := g2.cell (i := 3)
      have p4 := g2.cell (i := 4)
      have r0 := g1.hy.cell (i := 0)
      simp only [List.getElem?_toArray, List.getElem?_cons_zero, List.getElem?_cons_succ] at p0 p1 p2 p3 p4 r0
      exact ⟨r0, p0, p1, p2, p3, p4⟩
    have hS : W1.drew.cell? ⟨W.heap.size, 0, none⟩ = some (.func (.yield lp) #[] #[]) ∧ W1.drew.cell? ⟨bp, 0, none⟩ = some (.int .i64 x.k) ∧ W1.drew.cell? ⟨bp, 1, none⟩ = some (.string x.g) ∧ W1.drew.cell? ⟨bp, 2, none⟩ = some (.string x.t) ∧ W1.drew.cell? ⟨bp, 3, none⟩ = some (.int .i64 x.a) ∧ W1.drew.cell? ⟨bp, 4, none⟩ = some (.slice x.A x.kids.length x.c) := ⟨r0, p0, p1, p2, p3, p4⟩
    clear p0 p1 p2 p3 p4 r0 hp0
    gi_wp2
    refine wpIn_region_heldI (fun W' => W'.cell? ⟨W.heap.size, 0, none⟩ = some (.func (.yield lp) #[] #[]) ∧ W'.cell? ⟨bp, 0, none⟩ = some (.int .i64 x.k) ∧ W'.cell? ⟨bp, 1, none⟩ = some (.string x.g) ∧ W'.cell? ⟨bp, 2, none⟩ = some (.string x.t) ∧ W'.cell? ⟨bp, 3, none⟩ = some (.int .i64 x.a) ∧ W'.cell? ⟨bp, 4, none⟩ = some (.slice x.A x.kids.length x.c)) (by kernel_rfl) ?_
    refine wpAnyHI_take (i := 0) (v := .func (.yield lp) #[] #[]) 9 (by kernel_rfl) rfl rfl (by kernel_rfl) (by kernel_rfl) (by kernel_rfl) (fun _ _ _ h => h) (Or.inl ⟨by kernel_rfl, fun w' hS' => ?y0⟩) hS ?_
    case y0 => (obtain ⟨s0, s1, s2, s3, s4, s5⟩ := hS'; go_simp)
    simp only [Act.put, List.setIfInBounds_toArray, List.set_cons_zero, List.set_cons_succ]
    refine wpAnyHI_take (i := 1) (v := .int .i64 (d : Nat)) 10 (by kernel_rfl) rfl rfl (by kernel_rfl) (by kernel_rfl) (by kernel_rfl) (fun _ _ _ h => h) (Or.inl ⟨by kernel_rfl, fun w' hS' => ?y1⟩) hS ?_
    case y1 => (obtain ⟨s0, s1, s2, s3, s4, s5⟩ := hS'; go_simp)
    simp only [Act.put, List.setIfInBounds_toArray, List.set_cons_zero, List.set_cons_succ]
    refine wpAnyHI_take (i := 2) (v := nv x) 11 (by kernel_rfl) rfl rfl (by kernel_rfl) (by kernel_rfl) (by kernel_rfl) (fun _ _ _ h => h) (Or.inl ⟨by kernel_rfl, fun w' hS' => ?y2⟩) hS ?_
    case y2 => (obtain ⟨s0, s1, s2, s3, s4, s5⟩ := hS'; go_simp)
    simp only [Act.put, List.setIfInBounds_toArray, List.set_cons_zero, List.set_cons_succ]
    refine wpAnyHI_one (i := 3) (by kernel_rfl) rfl (fun K hK => ?_)
    go_simp
    refine ⟨trivial, (CallsIn.inRound lq (callsIn_wide.2 (HCP.out (d, x) _ HM.out (TnX.node ((TnX.frames _).off hl (Off.drew _ _)) (wk_mem (d := d) HM.out)).all))).mono ?_⟩
    rintro r W2 ⟨U, rfl, hU, hTU, hB⟩
    have hB2 : Below W1.heap.size W1 W2 := ⟨hB.os, hB.tape, hB.output, hB.size, hB.block⟩
    clear hB
    have hh2 := (WkH.frames _ _ _).off hh (Off.of_below hB2)
    have h12 := (Has.frames _ _).off h1 (Off.of_below hB2)
    have hS2 := hcs W2 hh2 h12
    refine hK.out _ _ hS2 (fun _ => ?_)
    clear hK K
    try simp only [Act.put, List.setIfInBounds_toArray, List.set_cons_zero, List.set_cons_succ]
    obtain ⟨fn, tmps, assign, body, hy, hR⟩ := HY.out p0_ (d, U) _ W2 (HB.out W2 hB2) ((HJ.out _).off hj (Off.of_below hB2)) (Tn.keep (fun _ _ _ => rfl) (fun k hk => ⟨fun hX => by have := HX.out k hX; have := hk.1; simp at this; omega, hk.2⟩) hTU) (by rw [HPM.out U hU]; exact HP.out.map plp)
    dsimp only [wv] at hy
    refine wpAnyHI_one (i := 4) (by kernel_rfl) rfl (fun K hK => ?_)
    go_simp
    refine round_at (hR.mono ?_)
    clear hy hR hS hS2
    rintro r W3 ⟨hs3, hk3, (⟨rfl, hJ3⟩ | ⟨rfl, hJx3⟩)⟩
    · have hh3 := hh2.kept hk3 (fun j h => .inr (.inl h))
      have h13 := h12.kept hk3 (.inr (.inr rfl))
      have hS3 := hcs W3 hh3 h13
      refine hK.out _ _ hS3 (fun _ => ?_)
      clear hK K
      try simp only [Act.put, List.setIfInBounds_toArray, List.set_cons_zero, List.set_cons_succ]
      refine wpAnyHI_take (i := 5) (v := .bool false) 14 (by kernel_rfl) rfl rfl (by kernel_rfl) (by kernel_rfl) (by kernel_rfl) (fun _ _ _ h => h) (Or.inl ⟨by kernel_rfl, fun w' hS' => ?y5⟩) hS3 ?_
      case y5 => (obtain ⟨s0, s1, s2, s3, s4, s5⟩ := hS'; go_simp)
      simp only [Act.put, List.setIfInBounds_toArray, List.set_cons_zero, List.set_cons_succ]
      refine wpAnyHI_done (by kernel_rfl) ?_ _
      gi_wp2
      refine ⟨Nat.le_trans hB2.size hs3, Kept.trans hB2.size (Kept.below hB2) (hk3.mono fun _ h => .inl h), _, HPM.out U hU, (HJ.out _).less hJ3 (fun j h => h.elim .inl (fun h => .inr (.inl h))), hh3, ?_⟩
      exact (TnX.frames _).less (HC.out _ _ _ hJ3).1 (fun j h => .inl h)
    · have hh3 := hh2.kept hk3 (fun j h => .inr (.inl h))
      have h13 := h12.kept hk3 (.inr (.inr rfl))
      have hS3 := hcs W3 hh3 h13
      refine hK.out _ _ hS3 (fun _ => ?_)
      clear hK K
      try simp only [Act.put, List.setIfInBounds_toArray, List.set_cons_zero, List.set_cons_succ]
      refine wpAnyHI_take (i := 5) (v := .bool true) 14 (by kernel_rfl) rfl rfl (by kernel_rfl) (by kernel_rfl) (by kernel_rfl) (fun _ _ _ h => h) (Or.inl ⟨by kernel_rfl, fun w' hS' => ?y5⟩) hS3 ?_
      case y5 => (obtain ⟨s0, s1, s2, s3, s4, s5⟩ := hS'; go_simp)
      simp only [Act.put, List.setIfInBounds_toArray, List.set_cons_zero, List.set_cons_succ]
      refine wpAnyHI_done (by kernel_rfl) ?_ _
      gi_wp2
      exact ⟨Nat.le_trans hB2.size hs3, Kept.trans hB2.size (Kept.below hB2) (hk3.mono fun _ h => .inl h), rfl, _, (HJx.out _).less hJx3 (fun j h => h.elim .inl (fun h => .inr (.inl h)))⟩
end Go.Proofs.Ytjnclchbklehgaa
