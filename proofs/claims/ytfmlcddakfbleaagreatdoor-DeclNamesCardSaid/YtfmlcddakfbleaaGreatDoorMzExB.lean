/- expr's inside and not; Up as it is deferred. -/
import Derived.Test.YtfmlcddakfbleaaGreatDoorMzExA
import Derived.Defers
namespace Go.Proofs.YtfmlcddakfbleaaGreatDoor
open Go.RowKit SignMath TreeMath

theorem bodyPostD_ret {P : Program} {fn : Func} {R : Ending → World → Prop} {a : Act} {w : World} {v : Value} (hr : (results fn a.tmps).run P w = .ok v w) (hd : a.defers = []) (hR : R (.returned v) w) : bodyPostD P fn R .ret a w := by
  show Leaves P fn a.tmps R a.defers .returning w
  rw [hd]
  exact ⟨v, hr, hR⟩
set_option maxHeartbeats 2000000 in
theorem up_def {b : Nat} {A : Option Addr} {c : Nat} {C : Cu} {W : World} (h : CuM b A c C W) (hk : C.Ok) : CallsD Tryz.prog 102 #[.pointer (some ⟨b, 0, none⟩)] .returning W fun e u' w' => u' = .returning ∧ CuV b A c C.up W (fun e => ∃ v, e = .returned v) e w' := by
  obtain ⟨c0, c1, c2, c3, c4, c5⟩ := h.cells
  have fr := h.frz
  have hd := hk.d
  have HM := Lib.hid h
  unfold Cu.up CuV
  by_cases h2 : C.d = 0
  · rw [h2] at c3
    have HE : Hid (({ C with d := C.d - 1 } : Cu) = C) := Lib.hid (by rw [h2]; cases C; simp only at h2; subst h2; rfl)
    clear h hk h2 hd
    go_enter_d Tryz.func102, Tryz.ntmps102
    go_wp2
    refine bodyPost_end (results_none rfl _ _ _) rfl ?_
    rw [HE.out]
    exact ⟨⟨_, rfl⟩, HM.out, Off.refl _ _⟩
  · have z1 : (0 : Int) < (C.d : Nat) := by omega
    have z2 : ((C.d : Nat) : Int) ≤ 1000 := by omega
    have h1 := h.set (C' := { C with d := C.d - 1 }) 3 (.int .i64 ((C.d - 1 : Nat))) rfl rfl
    have HH := Lib.hid (And.intro h1 (of_set b 3 W (.int .i64 ((C.d - 1 : Nat)))))
    rw [show ((C.d - 1 : Nat) : Int) = (C.d : Nat) - 1 by omega] at HH
    clear h hk h1 h2 hd
    go_enter_d Tryz.func102, Tryz.ntmps102
    go_wp2
    refine bodyPost_end (results_none rfl _ _ _) rfl ?_
    exact ⟨⟨_, rfl⟩, HH.out⟩
theorem bodyPostD_up {b : Nat} {A : Option Addr} {c : Nat} {C : Cu} {w : World} {fn : Func} {R : Ending → World → Prop} {a : Act} (hm : CuM b A c C w) (hk : C.Ok) (hd : a.defers = [{ target := .fn (.func 102) #[], args := #[.pointer (some ⟨b, 0, none⟩)] }])
    (h : ∀ w', CuM b A c C.up w' → Of b w w' → ∃ v, (results fn a.tmps).run Tryz.prog w' = .ok v w' ∧ R (.returned v) w') : bodyPostD Tryz.prog fn R .ret a w := by
  show Leaves Tryz.prog fn a.tmps R a.defers .returning w
  rw [hd]
  refine leaves_cons (f := 102) (args := #[.pointer (some ⟨b, 0, none⟩)]) (by simp) (by simp [go_sem]) ?_
  refine (up_def hm hk).mono ?_
  rintro e u' w' ⟨rfl, ⟨v, rfl⟩, h1, h2⟩
  exact h w' h1 h2

section
variable {b : Nat} {A : Option Addr} {c : Nat}
set_option maxRecDepth 100000 in
set_option maxHeartbeats 4000000 in
theorem inside_any {ex : Cu → Cu × Tr} {D : Nat} (hE : PartF 128 b A c ex D) (hG : GX ex D) : WhatF 175 b A c (ins ex) D := by
  intro w C h hk hd hD
  have ek1 := (EK.begin h hk).alloc (rdb b)
  have HC := Lib.hid (hE _ C ek1.cu hk hd hD)
  have hGG := hG C hk hd hD
  have p0 := cell_heap (ek1.box (z := w.heap.size) (o := rdb b) (by simp)) (i := 0)
  simp only [List.getElem?_toArray, List.getElem?_cons_zero] at p0
  have E1 := Lib.hid ek1
  have HG := Lib.hid hGG
  clear ek1 hGG hE hG h hk
  go_enter Tryz.func175, Tryz.ntmps175
  go_wp2_with fail
  refine HC.out.mono ?_
  rintro e w2 ⟨T, rfl, hp, hT, hm, ho⟩
  have ek2 := E1.out.got hT hm ⟨HG.out.ok, HG.out.L⟩ ho
  have ek3 := ek2.below (below1 w2 (.cells #[.int .i64 T.k, .string T.g, .string T.t, .int .i64 T.a, .slice T.A T.kids.length T.c] 30 (0, 0)))
  have hrow : RowN (w2.alloc (.cells #[.int .i64 T.k, .string T.g, .string T.t, .int .i64 T.a, .slice T.A T.kids.length T.c] 30 (0, 0))) (.slice (some ⟨w2.heap.size, 0, none⟩) [T].length 1) [T] := RowN.lit 1 rfl (by omega) _ rfl
  have hsz := ek2.size
  have HV := Lib.hid (ek3.list (r := ins ex C) (m := [T]) hrow (fun k hk => by have hk : some w2.heap.size = some k := hk; injection hk with hk; omega) (by simp) (by simp) rfl (by show [pl T] = [(ex C).2]; rw [hp]))
  clear ek2 ek3 hrow hT hm ho hp E1 HC
  go_wp2
  refine bodyPost_ret (v := .slice (some ⟨w2.heap.size, 0, none⟩) 1 1) (by simp [results, Tryz.results175, go_sem]) rfl HV.out

set_option maxRecDepth 100000 in
set_option maxHeartbeats 4000000 in
theorem not_any {fc : Cu → Cu × Tr} {D : Nat} (hF : PartF 164 b A c fc (D + 1)) (hG : GX fc (D + 1)) : PartF 172 b A c (ntt fc) D := by
  intro w C h hk hd hD
  have ek2 := EK.start h hk
  have HD := Lib.hid (down_any ek2.cu hk)
  have p0 := cell_heap (ek2.box (z := w.heap.size) (o := rdb b) (by simp)) (i := 0)
  simp only [List.getElem?_toArray, List.getElem?_cons_zero] at p0
  have E2 := Lib.hid ek2
  unfold CuV at HD
  unfold ntt
  cases hdn : C.down.2 with
  | false =>
    have hGD := Got.down hk hdn [] 0
    have HG := Lib.hid (And.intro hGD.ok hGD.L)
    rw [hdn] at HD
    simp only [Bool.false_eq_true, if_false]
    clear ek2 hGD hdn hF hG h hk
    go_enter_defers Tryz.func172, Tryz.ntmps172
    go_wp2_with fail
    refine HD.out.mono ?_
    rintro e w3 ⟨rfl, hm, ho⟩
    have ek3 := (E2.out.call hm HG.out ho).leaf (T := zn1) rfl ⟨by show (-9223372036854775808 : Int) ≤ 0; omega, by show (0 : Int) ≤ 9223372036854775807; omega⟩
    have hz := ek3.box (z := w.heap.size + 1) (o := zb5) (by simp)
    have hfin := ek3.result (r := (C.down.1, zn1)) (T := zn1) (z := w.heap.size + 1) (by simp) (by simp) hz rfl pl_leaf
    clear ek3 hm ho p0 HD E2
    go_wp2_with (with_reducible refine stay_store 30 (.tmp 2) (.tmp 8) (by rfl) ?_)
    refine Stay.mk ?_
    refine wpList_store_node (by rfl) 30 (.tmp 2) (.tmp 8) (by rfl) size_tnode (w.heap.size + 1) zn1 (by rfl) (by rfl) hz ?_
    generalize set5 w3 (w.heap.size + 1) zn1 = w9 at hfin ⊢
    clear hz
    obtain ⟨hs, hv⟩ := hfin
    have HV := Lib.hid hv
    clear hv
    go_wp2
    have g0 := cell_heap hs (i := 0)
    have g1 := cell_heap hs (i := 1)
    have g2 := cell_heap hs (i := 2)
    have g3 := cell_heap hs (i := 3)
    have g4 := cell_heap hs (i := 4)
    simp only [List.getElem?_toArray, List.getElem?_cons_zero, List.getElem?_cons_succ] at g0 g1 g2 g3 g4
    refine bodyPostD_ret (v := nv zn1) (by simp [results, Tryz.results172, go_sem, g0, g1, g2, g3, g4]) rfl HV.out
  | true =>
    obtain ⟨hf0, hd2, hdd⟩ := Cu.down_true hdn
    have hkd := hk.down
    have hLd : C.down.1.L = C.L := by rw [hdd]
    have hGW := Got.wnt hkd sNot
    have hd1 : (wnt sNot C.down.1).1.d = C.d + 1 := by rw [hGW.d, hdd]
    have hGF := hG _ hGW.ok (by rw [hd1]; omega) (by rw [hd1]; omega)
    have HGD := Lib.hid (And.intro hkd hLd)
    have HGW := Lib.hid hGW
    have HGF := Lib.hid hGF
    have HFF := Lib.hid (fun (W : World) (hm : CuM b A c (wnt sNot C.down.1).1 W) => hF W _ hm hGW.ok (by rw [hd1]; omega) (by rw [hd1]; omega))
    rw [hdn] at HD
    simp only [if_true]
    clear ek2 hkd hLd hGW hd1 hGF hdn hF hG h hk hf0 hd2 hdd
    go_enter_defers Tryz.func172, Tryz.ntmps172
    go_wp2_with fail
    refine HD.out.mono ?_
    rintro e w3 ⟨rfl, hm, ho⟩
    have ek3 := E2.out.call hm HGD.out ho
    have HW := Lib.hid (wnt_any sNot ek3.cu ek3.ok)
    clear p0
    have p0 := cell_heap (ek3.box (z := w.heap.size) (o := rdb b) (by simp)) (i := 0)
    simp only [List.getElem?_toArray, List.getElem?_cons_zero] at p0
    have E3 := Lib.hid ek3
    clear ek3 hm ho HD E2
    go_wp2_with fail
    refine HW.out.mono ?_
    rintro e w4 ⟨SG, rfl, hp1, hT1, hm1, ho1⟩
    have ek4 := E3.out.got hT1 hm1 ⟨HGW.out.ok, HGW.out.L⟩ ho1
    have ek5 := ek4.local_ SG
    have hz1 := heap_alloc_new w4 zb5
    have hwx : w.heap.size + 1 < w4.heap.size := ek4.lt (z := w.heap.size + 1) (o := zb5) (by simp)
    clear ek4 hT1 hm1 ho1 p0 HW E3
    go_wp2_with (with_reducible refine stay_store 30 (.tmp 3) (.tmp 13) (by rfl) ?_)
    refine Stay.mk ?_
    refine wpList_store_node (by rfl) 30 (.tmp 3) (.tmp 13) (by rfl) size_tnode (w4.heap.size) SG (by rfl) (by rfl) hz1 ?_
    generalize set5 (w4.alloc zb5) w4.heap.size SG = w5 at ek5 ⊢
    generalize w4.heap.size = x3 at ek5 hwx ⊢
    clear hz1 w4
    have ek6 := ek5.drew
    have HC := Lib.hid (HFF.out w5.drew ek6.cu)
    have E6 := Lib.hid ek6
    clear ek5 ek6
    go_wp2
    rename_i K0 hK0
    refine wp_region_noPanic (wp_region_held (S := fun W' : World => W'.heap[x3]? = some (.cells (ncc SG) 30 (0, 0)) ∧ W'.heap[w.heap.size]? = some (rdb b) ∧ True) (by kernel_rfl) ?_)
    show wpAnyH _ _ _ _ _ _ _ _ w5.drew
    generalize w5.drew = w6 at HC E6 ⊢
    have hS0 : w6.heap[x3]? = some (.cells (ncc SG) 30 (0, 0)) ∧ w6.heap[w.heap.size]? = some (rdb b) ∧ True := ⟨E6.out.box (z := x3) (o := .cells (ncc SG) 30 (0, 0)) (by simp), E6.out.box (z := w.heap.size) (o := rdb b) (by simp), trivial⟩
    refine wpAnyH_take_d (i := 0) (v := nv SG) 14 rfl rfl (by kernel_rfl) (by kernel_rfl) (by kernel_rfl) (fun _ _ _ h => h) (Or.inl ⟨by kernel_rfl, fun w' hS' => ?y0⟩) hS0 ?_
    case y0 => (obtain ⟨s0, s1, s2, s3, s4⟩ := heap5 (hS'.1); clear hS'; go_simp)
    simp only [Act.put, List.setIfInBounds_toArray, List.set_cons_zero, List.set_cons_succ]
    refine wpAnyH_take_d (i := 1) (v := rcv b) 15 rfl rfl (by kernel_rfl) (by kernel_rfl) (by kernel_rfl) (fun _ _ _ h => h) (Or.inl ⟨by kernel_rfl, fun w' hS' => ?y1⟩) hS0 ?_
    case y1 => (have s0 := cell_heap hS'.2.1 (i := 0); simp only [List.getElem?_toArray, List.getElem?_cons_zero] at s0; clear hS'; go_simp)
    simp only [Act.put, List.setIfInBounds_toArray, List.set_cons_zero, List.set_cons_succ]
    refine wpAnyH_ready (rs := [2]) (by kernel_rfl) (by simp) ?_
    refine AllReadyH.cons rfl (fun K hK => ?_) AllReadyH.nil
    go_simp
    refine (HC.out).mono ?_
    rintro e w7 ⟨U, rfl, hp2, hT2, hm2, ho2⟩
    have ek_ := E6.out.got hT2 hm2 ⟨HGF.out.ok, HGF.out.L⟩ ho2
    have hS2 : w7.heap[x3]? = some (.cells (ncc SG) 30 (0, 0)) ∧ w7.heap[w.heap.size]? = some (rdb b) ∧ True := ⟨ek_.box (z := x3) (o := .cells (ncc SG) 30 (0, 0)) (by simp), ek_.box (z := w.heap.size) (o := rdb b) (by simp), trivial⟩
    have E7 := Lib.hid ek_
    clear ek_
    clear hT2 hm2 ho2 E6 HC
    refine hK.out _ _ hS2 (fun _ => ?_)
    clear hK K
    try simp only [Act.put, List.setIfInBounds_toArray, List.set_cons_zero, List.set_cons_succ]
    refine wpAnyH_ready (rs := [3]) (by kernel_rfl) (by simp) ?_
    refine AllReadyH.cons rfl (fun K hK => ?_) AllReadyH.nil
    have ek_ := E7.out.rowOf 21 2 (l := [SG, U]) rfl (by simp) (.cells #[.int .i64 SG.k, .string SG.g, .string SG.t, .int .i64 SG.a, .slice SG.A SG.kids.length SG.c, .int .i64 U.k, .string U.g, .string U.t, .int .i64 U.a, .slice U.A U.kids.length U.c] 30 (0, 0)) 30 rfl
    go_simp
    generalize w7.alloc (.cells #[.int .i64 SG.k, .string SG.g, .string SG.t, .int .i64 SG.a, .slice SG.A SG.kids.length SG.c, .int .i64 U.k, .string U.g, .string U.t, .int .i64 U.a, .slice U.A U.kids.length U.c] 30 (0, 0)) = w8 at ek_ ⊢
    generalize w7.heap.size = y at ek_ ⊢
    have hS3 : w8.heap[x3]? = some (.cells (ncc SG) 30 (0, 0)) ∧ w8.heap[w.heap.size]? = some (rdb b) ∧ True := ⟨ek_.box (z := x3) (o := .cells (ncc SG) 30 (0, 0)) (by simp), ek_.box (z := w.heap.size) (o := rdb b) (by simp), trivial⟩
    have E8 := Lib.hid ek_
    clear ek_
    refine hK.out _ _ hS3 (fun _ => ?_)
    clear hK K
    try simp only [Act.put, List.setIfInBounds_toArray, List.set_cons_zero, List.set_cons_succ]
    refine wpAnyH_ready (rs := [4]) (by kernel_rfl) (by simp) ?_
    refine AllReadyH.cons rfl (fun K hK => ?_) AllReadyH.nil
    go_simp
    refine (node_any 21 (some ⟨y, 0, none⟩) 2 [SG, U] w8).mono ?_
    rintro e w9 ⟨rfl, hb9⟩
    have ek_ := E8.out.below hb9
    have hS4 : w9.heap[x3]? = some (.cells (ncc SG) 30 (0, 0)) ∧ w9.heap[w.heap.size]? = some (rdb b) ∧ True := ⟨ek_.box (z := x3) (o := .cells (ncc SG) 30 (0, 0)) (by simp), ek_.box (z := w.heap.size) (o := rdb b) (by simp), trivial⟩
    have E9 := Lib.hid ek_
    clear ek_
    clear hb9 E8
    refine hK.out _ _ hS4 (fun _ => ?_)
    clear hK K
    try simp only [Act.put, List.setIfInBounds_toArray, List.set_cons_zero, List.set_cons_succ]
    refine wpAnyH_ready (rs := [5]) (by kernel_rfl) (by simp) ?_
    refine AllReadyH.cons rfl (fun K hK => ?_) AllReadyH.nil
    refine step_store_node (by rfl) 30 (.tmp 2) (.tmp 18) (by rfl) size_tnode (w.heap.size + 1) ⟨21, ⟨#[]⟩, ⟨#[]⟩, 0, some ⟨y, 0, none⟩, 2, [SG, U]⟩ (by rfl) (by rfl) (E9.out.box (z := w.heap.size + 1) (o := zb5) (by simp)) ?_
    have ek_ := E9.out.store (bs' := [(w.heap.size + 1, .cells (ncc ⟨21, ⟨#[]⟩, ⟨#[]⟩, 0, some ⟨y, 0, none⟩, 2, [SG, U]⟩) 30 (0, 0)), (x3, .cells (ncc SG) 30 (0, 0)), (w.heap.size, rdb b)]) ⟨21, ⟨#[]⟩, ⟨#[]⟩, 0, some ⟨y, 0, none⟩, 2, [SG, U]⟩ (z := w.heap.size + 1) (by simp) (E9.out.box (z := w.heap.size + 1) (o := zb5) (by simp)) (by
      intro q hq
      simp only [List.mem_cons, List.not_mem_nil, or_false] at hq
      rcases hq with rfl | rfl | rfl
      · exact .inl rfl
      all_goals exact .inr ⟨by simp, by dsimp only; omega⟩)
    generalize set5 w9 (w.heap.size + 1) ⟨21, ⟨#[]⟩, ⟨#[]⟩, 0, some ⟨y, 0, none⟩, 2, [SG, U]⟩ = w10 at ek_ ⊢
    have hS5 : w10.heap[x3]? = some (.cells (ncc SG) 30 (0, 0)) ∧ w10.heap[w.heap.size]? = some (rdb b) ∧ True := ⟨ek_.box (z := x3) (o := .cells (ncc SG) 30 (0, 0)) (by simp), ek_.box (z := w.heap.size) (o := rdb b) (by simp), trivial⟩
    have hpl : pl ⟨21, ⟨#[]⟩, ⟨#[]⟩, 0, some ⟨y, 0, none⟩, 2, [SG, U]⟩ = nod 21 [(wnt sNot C.down.1).2, (fc (wnt sNot C.down.1).1).2] := by rw [pl_nod, ← hp1, ← hp2]; rfl
    generalize (⟨21, ⟨#[]⟩, ⟨#[]⟩, 0, some ⟨y, 0, none⟩, 2, [SG, U]⟩ : Tr) = N at ek_ hpl ⊢
    have E10 := Lib.hid ek_
    clear ek_
    refine hK.out _ _ hS5 (fun _ => ?_)
    clear hK K
    try simp only [Act.put, List.setIfInBounds_toArray]
    refine wpAnyH_done (by kernel_rfl) ?_ _
    refine hK0 _ _ ?_
    clear hS0 hS2 hS3 hS4 hS5 hK0 E9 hp1 hp2
    have hpl' := Lib.hid hpl
    clear hpl
    go_wp2
    refine bodyPostD_up E10.out.cu E10.out.ok rfl fun w' hm ho => ?_
    have ek11 := E10.out.call hm ⟨E10.out.ok.up, rfl⟩ ho
    have hs := ek11.box (z := w.heap.size + 1) (o := .cells (ncc N) 30 (0, 0)) (by simp)
    have g0 := cell_heap hs (i := 0)
    have g1 := cell_heap hs (i := 1)
    have g2 := cell_heap hs (i := 2)
    have g3 := cell_heap hs (i := 3)
    have g4 := cell_heap hs (i := 4)
    simp only [List.getElem?_toArray, List.getElem?_cons_zero, List.getElem?_cons_succ] at g0 g1 g2 g3 g4
    exact ⟨nv N, by simp [results, Tryz.results172, go_sem, g0, g1, g2, g3, g4], ek11.fin (by simp) rfl hpl'.out⟩
end
end Go.Proofs.YtfmlcddakfbleaaGreatDoor

namespace Go.Proofs.YtfmlcddakfbleaaGreatDoor
open Go.RowKit SignMath TreeMath

/-- what within answers: the node may lie in the blocks S, in the row that was handed in, or in new ones -/
def TwV (b : Nat) (A : Option Addr) (c : Nat) (S : Nat → Prop) (v : Value) (r : Cu × Tr) (w : World) (e : Ending) (W' : World) : Prop :=
  ∃ T, e = .returned (nv T) ∧ pl T = r.2 ∧ Tn (fun k => S k ∨ v.ownBlock = some k ∨ (w.heap.size ≤ k ∧ k < W'.heap.size)) W' T ∧ CuM b A c r.1 W' ∧ Off (fun k => k = b ∨ v.ownBlock = some k) w W'
theorem EK.finw {b : Nat} {A : Option Addr} {c : Nat} {S : Nat → Prop} {v : Value} {w W : World} {C : Cu} {bs : List (Nat × Obj)} {zs : List Nat} {ts : List Tr} {r : Cu × Tr} (h : EK b A c S (fun k => k = b ∨ v.ownBlock = some k) w C bs zs ts W) {T : Tr} (hT : Tn (fun k => S k ∨ v.ownBlock = some k ∨ (w.heap.size ≤ k ∧ k < W.heap.size)) W T) (h1 : r.1 = C) (h2 : pl T = r.2) : TwV b A c S v r w (.returned (nv T)) W :=
  ⟨T, rfl, h2, hT, by rw [h1]; exact h.cu, h.off⟩
theorem EK.tw {b : Nat} {A : Option Addr} {c : Nat} {S X : Nat → Prop} {v : Value} {w W : World} {C : Cu} {bs : List (Nat × Obj)} {zs : List Nat} {ts : List Tr} (h : EK b A c S X w C bs zs ts W) {T : Tr} (hT : T ∈ ts) : Tn (fun k => S k ∨ v.ownBlock = some k ∨ (w.heap.size ≤ k ∧ k < W.heap.size)) W T :=
  (h.tn T hT).keep (fun _ _ _ => rfl) fun _ hk => hk.1.imp id fun h => .inr h

section
variable {b : Nat} {A : Option Addr} {c : Nat}
set_option maxRecDepth 100000 in
set_option maxHeartbeats 8000000 in
theorem within_any (gf : Nat) (eg : ∀ args w, (callFunc gf args).run Tryz.prog w = .ok (.enter gf args) w) {what : Cu → Cu × List Tr} {D : Nat} (HW : WhatF gf b A c what (D + 1)) (HG : GXs what (D + 1)) (k : Int) (os : ByteArray) (hos : os.size = 2)
    (S : Nat → Prop) (va : Value) (ahead : List Tr) (w : World) (C : Cu) (hrow : RowN w va ahead) (hal : ahead.length ≤ 5) (hS : ∀ q, S q → q < w.heap.size ∧ q ≠ b ∧ va.ownBlock ≠ some q) (hT : ∀ x ∈ ahead, Tn S w x) (hob : va.ownBlock ≠ some b)
    (hoc : 0 < (tcells C.L).length → ∀ a, A = some a → va.ownBlock ≠ some a.block) (h : CuM b A c C w) (hk : C.Ok) (hd : C.d ≤ 200) (hD : D ≤ C.d) :
    Calls Tryz.prog 174 #[rcv b, .int .i64 k, .string os, .func (.func gf) #[rcv b] #[], va] w (TwV b A c S va (win k (os.extract 0 1) (os.extract 1 os.size) what (ahead.map pl) C) w) := by
  have hrlt := hrow.lt
  have ek0 : EK b A c S (fun q => q = b ∨ va.ownBlock = some q) w C [] [] ahead w := ⟨h, hk, Off.refl _ _, fun hn a ha => by
      have h1 := h.ne hn a ha
      have h2 := hoc hn a ha
      obtain ⟨g, off, e, hg, -⟩ := h.row hn
      rw [ha] at e; injection e with e
      exact ⟨by rw [e]; exact hg, fun hh => hh.elim h1 h2⟩, .inl rfl, fun q hq => hq.elim (fun e => by rw [e]; exact h.lt) (fun e => hrlt q e), fun q hq => ⟨(hS q hq).1, fun hh => hh.elim (hS q hq).2.1 (hS q hq).2.2⟩, by simp, by simp, fun T hT' => (hT T hT').keep (fun _ _ _ => rfl) fun q hq => ⟨.inl hq, by simp⟩⟩
  have ek2 := (ek0.alloc (rdb b)).alloc zb5
  rw [World.size_alloc] at ek2
  have hrow2 : RowN ((w.alloc (rdb b)).alloc zb5) va ahead := (hrow.below (below1 w (rdb b))).below (below1 _ zb5)
  have ek3 := ek2.drew
  have hrow3 : RowN ((w.alloc (rdb b)).alloc zb5).drew va ahead := hrow2
  have z1 : (1 : Int) ≤ (os.size : Nat) := by omega
  have z2 : ((os.size : Nat) : Int) ≤ 4000 := by omega
  obtain ⟨Aa, ca, rfl, hnil⟩ := hrow.form
  have HR3 := Lib.hid hrow3
  have E3 := Lib.hid ek3
  have HWW := Lib.hid HW
  have HGG := Lib.hid HG
  have HK := Lib.hid (And.intro hk (And.intro hd hD))
  have HOB := Lib.hid hob
  have HRL := Lib.hid hrlt
  have HAL := Lib.hid hal
  generalize hal' : ahead.length = na at HR3 E3 hob hrlt HOB HRL ⊢
  have HNA := Lib.hid hal'
  clear ek0 ek2 ek3 hrow hrow2 hrow3 hS hT hob hoc h hk hd hD hrlt hnil HW HG hos hal hal'
  generalize hwin : win k (os.extract 0 1) (os.extract 1 os.size) what (ahead.map pl) C = res
  have HRES := Lib.hid hwin
  clear hwin
  go_enter_defers Tryz.func174, Tryz.ntmps174
  go_wp2
  rename_i K0 hK0
  refine wp_region_noPanic (wp_region_held (S := fun _ => True) (by kernel_rfl) ?_)
  show wpAnyH _ _ _ _ _ _ _ _ ((w.alloc (rdb b)).alloc zb5).drew
  generalize ((w.alloc (rdb b)).alloc zb5).drew = w3 at E3 HR3 ⊢
  refine wpAnyH_take_d (i := 0) (v := .string (os)) 14 rfl rfl (by kernel_rfl) (by kernel_rfl) (by kernel_rfl) (fun _ _ _ h => h) (Or.inl ⟨by kernel_rfl, fun w' hS' => ?y0⟩) trivial ?_
  case y0 => go_simp
  simp only [Act.put, List.setIfInBounds_toArray, List.set_cons_zero, List.set_cons_succ]
  refine wpAnyH_take_d (i := 1) (v := .string (os.extract 0 1)) 15 rfl rfl (by kernel_rfl) (by kernel_rfl) (by kernel_rfl) (fun _ _ _ h => h) (Or.inl ⟨by kernel_rfl, fun w' hS' => ?y1⟩) trivial ?_
  case y1 => go_simp
  simp only [Act.put, List.setIfInBounds_toArray, List.set_cons_zero, List.set_cons_succ]
  refine wpAnyH_take_d (i := 2) (v := .string (os)) 16 rfl rfl (by kernel_rfl) (by kernel_rfl) (by kernel_rfl) (fun _ _ _ h => h) (Or.inl ⟨by kernel_rfl, fun w' hS' => ?y2⟩) trivial ?_
  case y2 => go_simp
  simp only [Act.put, List.setIfInBounds_toArray, List.set_cons_zero, List.set_cons_succ]
  refine wpAnyH_take_d (i := 3) (v := .string (os.extract 1 os.size)) 17 rfl rfl (by kernel_rfl) (by kernel_rfl) (by kernel_rfl) (fun _ _ _ h => h) (Or.inl ⟨by kernel_rfl, fun w' hS' => ?y3⟩) trivial ?_
  case y3 => go_simp
  simp only [Act.put, List.setIfInBounds_toArray, List.set_cons_zero, List.set_cons_succ]
  refine wpAnyH_take_d (i := 4) (v := .string (os.extract 0 1)) 11 rfl rfl (by kernel_rfl) (by kernel_rfl) (by kernel_rfl) (fun _ _ _ h => h) (Or.inl ⟨by kernel_rfl, fun w' hS' => ?y4⟩) trivial ?_
  case y4 => go_simp
  simp only [Act.put, List.setIfInBounds_toArray, List.set_cons_zero, List.set_cons_succ]
  refine wpAnyH_take_d (i := 5) (v := .string (os.extract 1 os.size)) 12 rfl rfl (by kernel_rfl) (by kernel_rfl) (by kernel_rfl) (fun _ _ _ h => h) (Or.inl ⟨by kernel_rfl, fun w' hS' => ?y5⟩) trivial ?_
  case y5 => go_simp
  simp only [Act.put, List.setIfInBounds_toArray, List.set_cons_zero, List.set_cons_succ]
  refine wpAnyH_done (by kernel_rfl) ?_ _
  refine hK0 _ _ ?_
  clear hK0 z1 z2
  generalize os.extract 0 1 = o1 at HRES ⊢
  generalize os.extract 1 os.size = o2 at HRES ⊢
  have HI := Lib.hid (is_any 0 o1 ⟨by omega, by omega⟩ E3.out.cu E3.out.ok)
  unfold Rd at HI
  have p0 := cell_heap (E3.out.box (z := w.heap.size) (o := rdb b) (by simp)) (i := 0)
  simp only [List.getElem?_toArray, List.getElem?_cons_zero] at p0
  unfold win at HRES
  cases hb : C.isb 0 o1 with
  | false =>
    rw [hb] at HI HRES
    simp only [Bool.false_eq_true, if_false] at HRES
    go_wp2_with fail
    refine HI.out.mono ?_
    rintro e w4 ⟨rfl, hb4⟩
    have ek4 := E3.out.below hb4
    have HW := Lib.hid (wnt_any o1 ek4.cu ek4.ok)
    have hGW := Got.wnt ek4.ok o1
    clear p0
    have p0 := cell_heap (ek4.box (z := w.heap.size) (o := rdb b) (by simp)) (i := 0)
    simp only [List.getElem?_toArray, List.getElem?_cons_zero] at p0
    have E4 := Lib.hid ek4
    have HGW := Lib.hid hGW
    clear ek4 hb4 HI hGW HR3 E3
    go_wp2_with fail
    refine HW.out.mono ?_
    rintro e w5 ⟨T, rfl, hp, hT, hm, ho⟩
    have ek5 := E4.out.got hT hm ⟨HGW.out.ok, HGW.out.L⟩ ho
    have hz := ek5.box (z := w.heap.size + 1) (o := zb5) (by simp)
    have ek6 := ek5.store (bs' := []) T (z := w.heap.size + 1) (by simp) hz (by simp)
    have hs := set5_self hz T
    clear ek5 hT hm ho p0 HW E4
    go_wp2_with (with_reducible refine stay_store 30 (.tmp 10) (.tmp 26) (by rfl) ?_)
    refine Stay.mk ?_
    refine wpList_store_node (by rfl) 30 (.tmp 10) (.tmp 26) (by rfl) size_tnode (w.heap.size + 1) T (by rfl) (by rfl) hz ?_
    have HV := Lib.hid (ek6.finw (r := res) (ek6.tw (T := T) (by simp)) (by rw [← HRES.out]) (by rw [← HRES.out, hp]))
    generalize set5 w5 (w.heap.size + 1) T = w9 at hs HV ⊢
    clear hz ek6 hp
    go_wp2
    have g0 := cell_heap hs (i := 0)
    have g1 := cell_heap hs (i := 1)
    have g2 := cell_heap hs (i := 2)
    have g3 := cell_heap hs (i := 3)
    have g4 := cell_heap hs (i := 4)
    simp only [List.getElem?_toArray, List.getElem?_cons_zero, List.getElem?_cons_succ] at g0 g1 g2 g3 g4
    refine bodyPostD_ret (v := nv T) (by simp [results, Tryz.results174, go_sem, g0, g1, g2, g3, g4]) rfl HV.out
  | true =>
    rw [hb] at HI HRES
    simp only [if_true] at HRES
    go_wp2_with fail
    refine HI.out.mono ?_
    rintro e w4 ⟨rfl, hb4⟩
    have ek4 := E3.out.below hb4
    have hrow4 := HR3.out.below hb4
    have HD := Lib.hid (down_any ek4.cu ek4.ok)
    unfold CuV at HD
    clear p0
    have p0 := cell_heap (ek4.box (z := w.heap.size) (o := rdb b) (by simp)) (i := 0)
    simp only [List.getElem?_toArray, List.getElem?_cons_zero] at p0
    have E4 := Lib.hid ek4
    have HR4 := Lib.hid hrow4
    clear ek4 hrow4 hb4 HI HR3 E3
    cases hdn : C.down.2 with
    | false =>
      have hGD := Got.down HK.out.1 hdn [] 0
      have HG := Lib.hid (And.intro hGD.ok hGD.L)
      rw [hdn] at HD HRES
      simp only [Bool.false_eq_true, if_false] at HRES
      clear hGD hdn HR4
      go_wp2_with fail
      refine HD.out.mono ?_
      rintro e w5 ⟨rfl, hm, ho⟩
      have ek5 := (E4.out.call hm HG.out ho).leaf (T := zn1) rfl ⟨by show (-9223372036854775808 : Int) ≤ 0; omega, by show (0 : Int) ≤ 9223372036854775807; omega⟩
      have hz := ek5.box (z := w.heap.size + 1) (o := zb5) (by simp)
      have ek6 := ek5.store (bs' := []) zn1 (z := w.heap.size + 1) (by simp) hz (by simp)
      have hs := set5_self hz zn1
      clear ek5 hm ho p0 HD E4
      go_wp2_with (with_reducible refine stay_store 30 (.tmp 10) (.tmp 31) (by rfl) ?_)
      refine Stay.mk ?_
      refine wpList_store_node (by rfl) 30 (.tmp 10) (.tmp 31) (by rfl) size_tnode (w.heap.size + 1) zn1 (by rfl) (by rfl) hz ?_
      have HV := Lib.hid (ek6.finw (r := res) (ek6.tw (T := zn1) (by simp)) (by rw [← HRES.out]) (by rw [← HRES.out]; exact pl_leaf))
      generalize set5 w5 (w.heap.size + 1) zn1 = w9 at hs HV ⊢
      clear hz ek6
      go_wp2
      have g0 := cell_heap hs (i := 0)
      have g1 := cell_heap hs (i := 1)
      have g2 := cell_heap hs (i := 2)
      have g3 := cell_heap hs (i := 3)
      have g4 := cell_heap hs (i := 4)
      simp only [List.getElem?_toArray, List.getElem?_cons_zero, List.getElem?_cons_succ] at g0 g1 g2 g3 g4
      refine bodyPostD_ret (v := nv zn1) (by simp [results, Tryz.results174, go_sem, g0, g1, g2, g3, g4]) rfl HV.out
    | true =>
      obtain ⟨hf0, hd2, hdd⟩ := Cu.down_true hdn
      have hkd := HK.out.1.down
      have hLd : C.down.1.L = C.L := by rw [hdd]
      have hGW := Got.wnt hkd o1
      have hd1 : (wnt o1 C.down.1).1.d = C.d + 1 := by rw [hGW.d, hdd]
      have hGF := HGG.out _ hGW.ok (by rw [hd1]; omega) (by rw [hd1]; have := HK.out.2.2; omega)
      have HGD := Lib.hid (And.intro hkd hLd)
      have HGW := Lib.hid hGW
      have HGF := Lib.hid hGF
      have HFF := Lib.hid (fun (W : World) (hm : CuM b A c (wnt o1 C.down.1).1 W) => HWW.out W _ hm hGW.ok (by rw [hd1]; omega) (by rw [hd1]; have := HK.out.2.2; omega))
      rw [hdn] at HD HRES
      simp only [if_true] at HRES
      clear hkd hLd hGW hd1 hGF hdn hf0 hd2 hdd
      go_wp2_with fail
      refine HD.out.mono ?_
      rintro e w5 ⟨rfl, hm, ho⟩
      have ek5 := E4.out.call hm HGD.out ho
      have hrow5 := HR4.out.of ho HOB.out
      have HW := Lib.hid (wnt_any o1 ek5.cu ek5.ok)
      clear p0
      have p0 := cell_heap (ek5.box (z := w.heap.size) (o := rdb b) (by simp)) (i := 0)
      simp only [List.getElem?_toArray, List.getElem?_cons_zero] at p0
      have E5 := Lib.hid ek5
      have HR5 := Lib.hid hrow5
      clear ek5 hrow5 hm ho HD E4 HR4
      go_wp2_with fail
      refine HW.out.mono ?_
      rintro e w6 ⟨SG, rfl, hp1, hT1, hm1, ho1⟩
      have ek6 := E5.out.got hT1 hm1 ⟨HGW.out.ok, HGW.out.L⟩ ho1
      have hrow6 := HR5.out.of ho1 HOB.out
      have ek7 := ek6.rowOf 0 1 (l := [SG]) rfl (by simp) (.cells #[.int .i64 SG.k, .string SG.g, .string SG.t, .int .i64 SG.a, .slice SG.A SG.kids.length SG.c] 30 (0, 0)) 30 rfl
      have hrow7 := hrow6.below (below1 w6 (.cells #[.int .i64 SG.k, .string SG.g, .string SG.t, .int .i64 SG.a, .slice SG.A SG.kids.length SG.c] 30 (0, 0)))
      have hlies := (tn_iff.1 (ek7.tn ⟨0, ⟨#[]⟩, ⟨#[]⟩, 0, some ⟨w6.heap.size, 0, none⟩, 1, [SG]⟩ (by simp))).2.1
      have hwx : w.heap.size + 1 < w6.heap.size := ek6.lt (z := w.heap.size + 1) (o := zb5) (by simp)
      have E7 := Lib.hid (ek7.sub (bs' := [(w.heap.size + 1, zb5), (w.heap.size, rdb b)]) (ts' := SG :: ahead) (by simp) (by simp only [List.mem_cons]; rintro T (h | h) <;> simp [h]))
      have HR7 := Lib.hid hrow7
      have HLI := Lib.hid hlies
      clear ek6 hrow6 ek7 hrow7 hlies hT1 hm1 ho1 p0 HW E5 HR5
      go_wp2_with (at_builtin; refine Stay.out ?_)
      refine Stay.mk ?_
      refine wpList_append_n (by rfl) (.tmp 34) (.tmp 39) (by rfl) (w6.alloc (.cells #[.int .i64 SG.k, .string SG.g, .string SG.t, .int .i64 SG.a, .slice SG.A SG.kids.length SG.c] 30 (0, 0))) (.slice Aa na ca) ahead [SG] (some ⟨w6.heap.size, 0, none⟩) 1 1 _ rfl (by rfl) (by rfl) HLI.out (by simp) HR7.out (by have := HAL.out; simp; omega) ?_
      intro A1 c1 w8 hrow8 hg8 hat8
      obtain ⟨zs8, ek8, hz8, ho8, hn8⟩ := E7.out.grows hg8 (own' := (Value.slice A1 (ahead ++ [SG]).length c1).ownBlock) (fun q hq => .inr ⟨.inr hq, fun e => HOB.out (e ▸ hq)⟩) (by
        simp only [List.mem_cons, List.not_mem_nil, or_false]
        rintro q (rfl | rfl) e
        · have := HRL.out _ e; simp at this; omega
        · have := HRL.out _ e; simp at this) hat8 hrow8.lt
      have hz8' : w.heap.size + 1 ∈ zs8 := hz8 _ (by simp)
      generalize hM1 : ahead ++ [SG] = M1 at hrow8 hat8 ho8 hn8 ⊢
      have hwb : b < w.heap.size := ek8.hX b ek8.bX
      have hob8 : (Value.slice A1 M1.length c1).ownBlock ≠ some b := fun e => by
        rcases ho8 b e with hz | hz
        · have := (ek8.zn b hz).1; omega
        · exact hz.2 rfl
      have ek8' : EK b A c S (fun q => q = b ∨ (Value.slice Aa na ca).ownBlock = some q) w (wnt o1 C.down.1).1 [(w.heap.size + 1, zb5), (w.heap.size, rdb b)] zs8 M1 w8 := ek8.sub (by simp) (by rw [← hM1]; simp only [List.mem_append, List.mem_cons, List.not_mem_nil, or_false]; rintro T (h | h) <;> simp [h])
      have E8 := Lib.hid ek8'
      have HR8 := Lib.hid hrow8
      have HO8 := Lib.hid (And.intro ho8 (And.intro hn8 (And.intro hob8 hz8')))
      have HC := Lib.hid (HFF.out w8 ek8.cu)
      have HM1 := Lib.hid hM1
      have HL1 : Hid (M1.length = na + 1) := Lib.hid (by rw [← hM1, List.length_append, HNA.out]; rfl)
      clear ek8 ek8' hrow8 hg8 hat8 ho8 hn8 hz8 hz8' hob8 hM1 E7 HR7 HLI hwb
      generalize hn1 : M1.length = n1 at HR8 HO8 ⊢
      have HN1 := Lib.hid hn1
      clear hn1
      go_wp2_with (go_at_fn gf; refine Stay.out ?_)
      refine Stay.mk ?_
      refine HC.out.mono ?_
      rintro e w9 ⟨A2, c2, L2, rfl, hp2, hnil2, htk2, hT2, hl2, hm2, ho2⟩
      have ek9 := E8.out.call hm2 ⟨HGF.out.ok, HGF.out.L⟩ ho2
      have hrow9 := HR8.out.of ho2 HO8.out.2.2.1
      have hsz8 := E8.out.size
      have ek9' : EK b A c S (fun q => q = b ∨ (Value.slice Aa na ca).ownBlock = some q) w (what (wnt o1 C.down.1).1).1 [(w.heap.size + 1, zb5), (w.heap.size, rdb b)] zs8 (M1 ++ L2) w9 := ⟨ek9.cu, ek9.ok, ek9.off, ek9.rl, ek9.bX, ek9.hX, ek9.hS, ek9.has, ek9.zn, fun T hT => by
        rcases List.mem_append.1 hT with hT | hT
        · exact ek9.tn T hT
        · exact (hT2 T hT).keep (fun _ _ _ => rfl) fun q hq => ⟨.inr ⟨Nat.le_trans hsz8 hq.1, hq.2⟩, fun hz => by have := (E8.out.zn q hz).2; have := hq.1; omega⟩⟩
      have E9 := Lib.hid ek9'
      have HR9 := Lib.hid hrow9
      have HT2 := Lib.hid htk2
      have HH2 := Lib.hid (And.intro hnil2 (And.intro hl2 hp2))
      generalize hn2 : L2.length = n2 at HH2 ⊢
      have HN2 := Lib.hid hn2
      clear ek9 ek9' hrow9 htk2 hT2 hm2 ho2 hnil2 hl2 hp2 E8 HR8 HC hsz8 hn2
      go_wp2_with (at_builtin; refine Stay.out ?_)
      refine Stay.mk ?_
      refine wpList_append_n (by rfl) (.tmp 41) (.tmp 43) (by rfl) w9 (.slice A1 n1 c1) M1 L2 A2 n2 c2 _ HN2.out (by rfl) (by rfl) HT2.out HH2.out.1 HR9.out (by have := HAL.out; have := HH2.out.2.1; have := HN2.out; have := HL1.out; have := HNA.out; omega) ?_
      intro A3 c3 w10 hrow10 hg10 hat10
      obtain ⟨zs10, ek10, hz10, ho10, hn10⟩ := E9.out.grows hg10 (own' := (Value.slice A3 (M1 ++ L2).length c3).ownBlock) HO8.out.1 HO8.out.2.1 hat10 hrow10.lt
      have hz10' : w.heap.size + 1 ∈ zs10 := hz10 _ HO8.out.2.2.2
      generalize hM2 : M1 ++ L2 = M2 at hrow10 hat10 ho10 hn10 ek10 ⊢
      have hwb : b < w.heap.size := ek10.hX b ek10.bX
      have hob10 : (Value.slice A3 M2.length c3).ownBlock ≠ some b := fun e => by
        rcases ho10 b e with hz | hz
        · have := (ek10.zn b hz).1; omega
        · exact hz.2 rfl
      have HWS := Lib.hid (wnt_any o2 ek10.cu ek10.ok)
      have hGS := Got.wnt ek10.ok o2
      have p0 := cell_heap (ek10.box (z := w.heap.size) (o := rdb b) (by simp)) (i := 0)
      simp only [List.getElem?_toArray, List.getElem?_cons_zero] at p0
      have E10 := Lib.hid ek10
      have HR10 := Lib.hid hrow10
      have HO10 := Lib.hid (And.intro ho10 (And.intro hn10 (And.intro hob10 hz10')))
      have HGS := Lib.hid hGS
      have HM2 := Lib.hid hM2
      have HL2 : Hid (M2.length = n1 + n2) := Lib.hid (by rw [← hM2, List.length_append, HN1.out, HN2.out])
      clear ek10 hrow10 hg10 hat10 ho10 hn10 hz10 hz10' hob10 hM2 E9 HR9 HT2 hwb hGS
      generalize hn3 : M2.length = n3 at HR10 HO10 ⊢
      have HN3 := Lib.hid hn3
      clear hn3
      go_wp2_with fail
      refine HWS.out.mono ?_
      rintro e w11 ⟨SH, rfl, hp3, hT3, hm3, ho3⟩
      have ek11 := E10.out.got hT3 hm3 ⟨HGS.out.ok, HGS.out.L⟩ ho3
      have hrow11 := HR10.out.of ho3 HO10.out.2.2.1
      have ek12 := ek11.rowOf 0 1 (l := [SH]) rfl (by simp) (.cells #[.int .i64 SH.k, .string SH.g, .string SH.t, .int .i64 SH.a, .slice SH.A SH.kids.length SH.c] 30 (0, 0)) 30 rfl
      have hrow12 := hrow11.below (below1 w11 (.cells #[.int .i64 SH.k, .string SH.g, .string SH.t, .int .i64 SH.a, .slice SH.A SH.kids.length SH.c] 30 (0, 0)))
      have hlies := (tn_iff.1 (ek12.tn ⟨0, ⟨#[]⟩, ⟨#[]⟩, 0, some ⟨w11.heap.size, 0, none⟩, 1, [SH]⟩ (by simp))).2.1
      have E12 := Lib.hid (ek12.sub (bs' := [(w.heap.size + 1, zb5), (w.heap.size, rdb b)]) (ts' := SH :: M2) (by simp) (by simp only [List.mem_cons]; rintro T (h | h) <;> simp [h]))
      have HR12 := Lib.hid hrow12
      have HLI := Lib.hid hlies
      clear ek11 hrow11 ek12 hrow12 hlies hT3 hm3 ho3 p0 HWS E10 HR10
      go_wp2_with (at_builtin; refine Stay.out ?_)
      refine Stay.mk ?_
      refine wpList_append_n (by rfl) (.tmp 46) (.tmp 51) (by rfl) (w11.alloc (.cells #[.int .i64 SH.k, .string SH.g, .string SH.t, .int .i64 SH.a, .slice SH.A SH.kids.length SH.c] 30 (0, 0))) (.slice A3 n3 c3) M2 [SH] (some ⟨w11.heap.size, 0, none⟩) 1 1 _ rfl (by rfl) (by rfl) HLI.out (by simp) HR12.out (by have := HAL.out; have := HH2.out.2.1; have := HN2.out; have := HL1.out; have := HNA.out; have := HL2.out; have := HN1.out; have := HN3.out; simp; omega) ?_
      intro A4 c4 w13 hrow13 hg13 hat13
      obtain ⟨zs13, ek13, hz13, ho13, hn13⟩ := E12.out.grows hg13 (own' := (Value.slice A4 (M2 ++ [SH]).length c4).ownBlock) HO10.out.1 HO10.out.2.1 hat13 hrow13.lt
      have hz13' : w.heap.size + 1 ∈ zs13 := hz13 _ HO10.out.2.2.2
      generalize hM3 : M2 ++ [SH] = M3 at hrow13 hat13 ho13 hn13 ⊢
      have HNC := Lib.hid (node_any k A4 c4 M3 w13)
      have E13 := Lib.hid (ek13.sub (bs' := [(w.heap.size + 1, zb5), (w.heap.size, rdb b)]) (ts' := M3) (by simp) (by rw [← hM3]; simp only [List.mem_append, List.mem_cons, List.not_mem_nil, or_false]; rintro T (h | h) <;> simp [h]))
      have HR13 := Lib.hid hrow13
      have HO13 := Lib.hid (And.intro ho13 (And.intro hn13 hz13'))
      have HM3 := Lib.hid hM3
      clear ek13 hrow13 hg13 hat13 ho13 hn13 hz13 hz13' hM3 E12 HR12 HLI
      go_wp2_with fail
      refine HNC.out.mono ?_
      rintro e w14 ⟨rfl, hb14⟩
      have ek14 := E13.out.below hb14
      have hrow14 := HR13.out.below hb14
      have hz := ek14.box (z := w.heap.size + 1) (o := zb5) (by simp)
      have hpl : pl ⟨k, ⟨#[]⟩, ⟨#[]⟩, 0, A4, c4, M3⟩ = res.2 := by
        rw [pl_nod, ← HM3.out, ← HM2.out, ← HM1.out, ← HRES.out]
        simp only [List.map_append, List.map_cons, List.map_nil, hp1, hp3, HH2.out.2.2]
      have HTN : Hid (∀ (W : World) (C' : Cu) (zs : List Nat), EK b A c S (fun q => q = b ∨ (Value.slice Aa na ca).ownBlock = some q) w C' [(w.heap.size + 1, .cells (ncc ⟨k, ⟨#[]⟩, ⟨#[]⟩, 0, A4, c4, M3⟩) 30 (0, 0))] zs13 M3 W → RowN W (.slice A4 M3.length c4) M3 → Tn (fun q => S q ∨ (Value.slice Aa na ca).ownBlock = some q ∨ (w.heap.size ≤ q ∧ q < W.heap.size)) W ⟨k, ⟨#[]⟩, ⟨#[]⟩, 0, A4, c4, M3⟩) := Lib.hid fun W C' zs he hr => by
        refine tn_iff.2 ⟨⟨by show (-9223372036854775808 : Int) ≤ 0; omega, by show (0 : Int) ≤ 9223372036854775807; omega⟩, hr.tks.keep (fun _ _ _ => rfl) (fun q hq => ?_), fun x hx => he.tw hx⟩
        rcases HO13.out.1 q hq with h1 | ⟨h1, h2⟩
        · exact .inr (.inr (he.zn q h1))
        · exact h1.elim (fun e => absurd e h2) (fun e => .inr (.inl e))
      have hzz := HO13.out.2.2
      have ek15 := ek14.store (bs' := [(w.heap.size + 1, .cells (ncc ⟨k, ⟨#[]⟩, ⟨#[]⟩, 0, A4, c4, M3⟩) 30 (0, 0))]) ⟨k, ⟨#[]⟩, ⟨#[]⟩, 0, A4, c4, M3⟩ (z := w.heap.size + 1) hzz hz (by simp)
      have hrow15 : RowN (set5 w14 (w.heap.size + 1) ⟨k, ⟨#[]⟩, ⟨#[]⟩, 0, A4, c4, M3⟩) (.slice A4 M3.length c4) M3 := hrow14.keep fun q hq => set5_other (fun e => HO13.out.2.1 (w.heap.size + 1, zb5) (by simp) (by rw [hq, e])) _
      have HPL := Lib.hid hpl
      clear ek14 hrow14 hb14 HNC E13 HR13 hpl hzz
      go_wp2_with (with_reducible refine stay_store 30 (.tmp 10) (.tmp 53) (by rfl) ?_)
      refine Stay.mk ?_
      refine wpList_store_node (by rfl) 30 (.tmp 10) (.tmp 53) (by rfl) size_tnode (w.heap.size + 1) ⟨k, ⟨#[]⟩, ⟨#[]⟩, 0, A4, c4, M3⟩ (by rfl) (by rfl) hz ?_
      generalize set5 w14 (w.heap.size + 1) ⟨k, ⟨#[]⟩, ⟨#[]⟩, 0, A4, c4, M3⟩ = w15 at ek15 hrow15 ⊢
      have E15 := Lib.hid ek15
      have HR15 := Lib.hid hrow15
      clear hz ek15 hrow15
      go_wp2
      refine bodyPostD_up E15.out.cu E15.out.ok rfl fun w' hm ho => ?_
      have ek16 := E15.out.call hm ⟨E15.out.ok.up, rfl⟩ ho
      have hob15 : (Value.slice A4 M3.length c4).ownBlock ≠ some b := fun e => by
        rcases HO13.out.1 b e with hz | hz
        · have := (E15.out.zn b hz).1; have := E15.out.hX b E15.out.bX; omega
        · exact hz.2 rfl
      have hrow16 := HR15.out.of ho hob15
      have hs := ek16.box (z := w.heap.size + 1) (o := .cells (ncc ⟨k, ⟨#[]⟩, ⟨#[]⟩, 0, A4, c4, M3⟩) 30 (0, 0)) (by simp)
      have g0 := cell_heap hs (i := 0)
      have g1 := cell_heap hs (i := 1)
      have g2 := cell_heap hs (i := 2)
      have g3 := cell_heap hs (i := 3)
      have g4 := cell_heap hs (i := 4)
      simp only [List.getElem?_toArray, List.getElem?_cons_zero, List.getElem?_cons_succ] at g0 g1 g2 g3 g4
      exact ⟨nv ⟨k, ⟨#[]⟩, ⟨#[]⟩, 0, A4, c4, M3⟩, by simp [results, Tryz.results174, go_sem, g0, g1, g2, g3, g4], ek16.finw (HTN.out _ _ [] ek16 hrow16) (by rw [← HRES.out]) HPL.out⟩
end
end Go.Proofs.YtfmlcddakfbleaaGreatDoor

namespace Go.Proofs.YtfmlcddakfbleaaGreatDoor
open Go.RowKit SignMath TreeMath

section
variable {b : Nat} {A : Option Addr} {c : Nat} {S X : Nat → Prop} {w W : World} {C : Cu} {bs : List (Nat × Obj)} {zs : List Nat} {ts : List Tr}
/-- a call that made a tree out of those that are there -/
theorem EK.gotw {W' : World} {C' : Cu} (h : EK b A c S X w C bs zs ts W) {T : Tr} (hT : Tn (fun k => ((S k ∨ w.heap.size ≤ k ∧ k < W.heap.size) ∧ k ∉ zs) ∨ (W.heap.size ≤ k ∧ k < W'.heap.size)) W' T) (hm : CuM b A c C' W') (hk : C'.Ok ∧ C'.L = C.L) (ho : Of b W W') : EK b A c S X w C' bs zs (T :: ts) W' := by
  have h' := h.call hm hk ho
  refine ⟨h'.cu, h'.ok, h'.off, h'.rl, h'.bX, h'.hX, h'.hS, h'.has, h'.zn, fun Y hY => ?_⟩
  rcases List.mem_cons.1 hY with rfl | hY
  · refine hT.keep (fun _ _ _ => rfl) fun k hk => ?_
    rcases hk with ⟨h1, h2⟩ | hk
    · exact ⟨h1.imp id fun hh => ⟨hh.1, Nat.lt_of_lt_of_le hh.2 ho.size⟩, h2⟩
    · exact ⟨.inr ⟨Nat.le_trans h.size hk.1, hk.2⟩, fun hz => by have := (h.zn k hz).2; have := hk.1; omega⟩
  · exact h'.tn Y hY
theorem EK.within (h : EK b A c S X w C bs zs ts W) (gf : Nat) (eg : ∀ args w, (callFunc gf args).run Tryz.prog w = .ok (.enter gf args) w) {what : Cu → Cu × List Tr} {D : Nat} (HW : WhatF gf b A c what (D + 1)) (HG : GXs what (D + 1)) (k : Int) (os o1 o2 : ByteArray) (hos : os.size = 2) (ho1 : os.extract 0 1 = o1) (ho2 : os.extract 1 os.size = o2)
    (hd : C.d ≤ 200) (hD : D ≤ C.d) (l : List Tr) (m : Nat) (hm : l.length = m) (hl : ∀ x ∈ l, x ∈ ts) (h5 : m ≤ 5) (o : Obj) (ho : o = .cells (ncells l).toArray 30 (0, 0)) (hgot : (win k o1 o2 what (l.map pl) C).1.Ok ∧ (win k o1 o2 what (l.map pl) C).1.L = C.L) :
    Calls Tryz.prog 174 #[rcv b, .int .i64 k, .string os, .func (.func gf) #[rcv b] #[], .slice (some ⟨W.heap.size, 0, none⟩) m m] (W.alloc o) fun e W' => ∃ T, e = .returned (nv T) ∧ pl T = (win k o1 o2 what (l.map pl) C).2 ∧ EK b A c S X w (win k o1 o2 what (l.map pl) C).1 bs zs (T :: ts) W' ∧ W.heap.size ≤ W'.heap.size := by
  have hb := h.cu.lt
  have h1 := h.below (below1 W o)
  have hw := within_any gf eg HW HG k os hos (fun q => (S q ∨ w.heap.size ≤ q ∧ q < W.heap.size) ∧ q ∉ zs) (.slice (some ⟨W.heap.size, 0, none⟩) m m) l (W.alloc o) C (RowN.lit m hm (by omega) o ho) (by omega)
    (fun q hq => ⟨by have := (h.inS hq.1).1; simp; omega, (h.inS hq.1).2, fun e => by have e' : some W.heap.size = some q := e; injection e' with e'; have := (h.inS hq.1).1; omega⟩)
    (fun x hx => (h.tn x (hl x hx)).keep (fun q _ hq => cell_of (Below.heap_alloc W o q (h.inS hq.1).1)) fun _ hq => hq)
    (fun e => by have e' : some W.heap.size = some b := e; injection e' with e'; omega)
    (fun hn a ha e => by
      have e' : some W.heap.size = some a.block := e
      injection e' with e'
      have := (h.rl hn a ha).1
      have := h.size
      omega) h1.cu h1.ok hd hD
  rw [ho1, ho2] at hw
  refine hw.mono ?_
  rintro e W' ⟨T, rfl, hp, hT, hm', hoff⟩
  have hsz := hoff.size
  rw [World.size_alloc] at hsz
  have hob : Of b W W' := ⟨hoff.os, hoff.tape, hoff.output, by omega, fun q hq hn => (hoff.block q (by simp; omega) (fun hh => hh.elim hn fun e => by have e' : some W.heap.size = some q := e; injection e' with e'; omega)).trans (Below.heap_alloc W o q hq)⟩
  refine ⟨T, rfl, hp, h.gotw (hT.keep (fun _ _ _ => rfl) fun q hq => ?_) hm' hgot hob, by omega⟩
  rcases hq with hq | hq | hq
  · exact .inl hq
  · have e' : some W.heap.size = some q := hq
    injection e' with e'
    exact .inr ⟨by omega, by omega⟩
  · exact .inr ⟨by have := hq.1; simp at this; omega, hq.2⟩
theorem EK.within0 (h : EK b A c S X w C bs zs ts W) (gf : Nat) (eg : ∀ args w, (callFunc gf args).run Tryz.prog w = .ok (.enter gf args) w) {what : Cu → Cu × List Tr} {D : Nat} (HW : WhatF gf b A c what (D + 1)) (HG : GXs what (D + 1)) (k : Int) (os o1 o2 : ByteArray) (hos : os.size = 2) (ho1 : os.extract 0 1 = o1) (ho2 : os.extract 1 os.size = o2)
    (hd : C.d ≤ 200) (hD : D ≤ C.d) (hgot : (win k o1 o2 what [] C).1.Ok ∧ (win k o1 o2 what [] C).1.L = C.L) :
    Calls Tryz.prog 174 #[rcv b, .int .i64 k, .string os, .func (.func gf) #[rcv b] #[], .slice none 0 0] W fun e W' => ∃ T, e = .returned (nv T) ∧ pl T = (win k o1 o2 what [] C).2 ∧ EK b A c S X w (win k o1 o2 what [] C).1 bs zs (T :: ts) W' ∧ W.heap.size ≤ W'.heap.size := by
  have hw := within_any gf eg HW HG k os hos (fun q => (S q ∨ w.heap.size ≤ q ∧ q < W.heap.size) ∧ q ∉ zs) (.slice none 0 0) [] W C (RowN.nil W) (by simp)
    (fun q hq => ⟨(h.inS hq.1).1, (h.inS hq.1).2, fun e => by cases e⟩) (fun x hx => by cases hx) (fun e => by cases e) (fun hn a ha e => by cases e) h.cu h.ok hd hD
  rw [ho1, ho2] at hw
  refine hw.mono ?_
  rintro e W' ⟨T, rfl, hp, hT, hm', hoff⟩
  have hob : Of b W W' := ⟨hoff.os, hoff.tape, hoff.output, hoff.size, fun q hq hn => hoff.block q hq (fun hh => hh.elim hn fun e => by cases e)⟩
  refine ⟨T, rfl, hp, h.gotw (hT.keep (fun _ _ _ => rfl) fun q hq => ?_) hm' hgot hob, hoff.size⟩
  rcases hq with hq | hq | hq
  · exact .inl hq
  · cases hq
  · exact .inr hq
end

section
variable {b : Nat} {A : Option Addr} {c : Nat}
theorem agl_len {ex : Cu → Cu × Tr} {D : Nat} (hG : GX ex D) : ∀ (q : Nat) (x : Cu × List Tr), x.1.Ok → x.1.d ≤ 200 → D ≤ x.1.d → (agl ex q x).2.length + 2 * (agl ex q x).1.left ≤ x.2.length + 2 * x.1.left
  | 0, _, _, _, _ => Nat.le_refl _
  | q + 1, x, hk, h2, h1 => by
    unfold agl
    split
    · rename_i hc
      have g1 := Got.wnt hk sComma
      have g2 := hG _ g1.ok (by rw [g1.d]; exact h2) (by rw [g1.d]; exact h1)
      have := agl_len hG q ((ex (wnt sComma x.1).1).1, x.2 ++ [(wnt sComma x.1).2, (ex (wnt sComma x.1).1).2]) g2.ok (by simp only; rw [g2.d, g1.d]; exact h2) (by simp only; rw [g2.d, g1.d]; exact h1)
      have hl := (Cu.isb_left hc).2.1
      have hl0 := (Cu.isb_left hc).1
      have hl2 := g2.left
      simp only [List.length_append, List.length_cons, List.length_nil] at this
      omega
    · exact Nat.le_refl _
/-- ahead of each round of arguments -/
structure ArI (b : Nat) (A : Option Addr) (c : Nat) (w : World) (ex : Cu → Cu × Tr) (C : Cu) (res : Cu × List Tr) (q : Nat) (C' : Cu) (m : List Tr) (n : Nat) (Al : Option Addr) (cl : Nat) (zs : List Nat) (W : World) : Prop where
  ek : EK b A c no (· = b) w C' [(w.heap.size, rdb b)] zs m W
  row : RowN W (.slice Al n cl) m
  own : ∀ k, (Value.slice Al n cl).ownBlock = some k → k ∈ zs
  ne : (Value.slice Al n cl).ownBlock ≠ some w.heap.size
  hn : m.length = n
  lf : C'.left ≤ q
  res : agl ex q (C', m.map pl) = res
  len : n + 2 * C'.left ≤ 8001
  d : C'.d = C.d
  L : C'.L = C.L

set_option maxRecDepth 100000 in
set_option maxHeartbeats 8000000 in
theorem arguments_any {ex : Cu → Cu × Tr} {D : Nat} (hE : PartF 128 b A c ex D) (hG : GX ex D) : WhatF 181 b A c (arg ex) D := by
  intro w C h hk hd hD
  have ek1 := (EK.begin h hk).alloc (rdb b)
  have HI := Lib.hid (is_any 0 sRo2 ⟨by omega, by omega⟩ ek1.cu hk)
  unfold Rd at HI
  have hlen := hk.len
  have p0 := cell_heap (ek1.box (z := w.heap.size) (o := rdb b) (by simp)) (i := 0)
  simp only [List.getElem?_toArray, List.getElem?_cons_zero] at p0
  have E1 := Lib.hid ek1
  have HE := Lib.hid hE
  have HG := Lib.hid hG
  have HK := Lib.hid (And.intro hk (And.intro hd hD))
  unfold arg
  cases hb : C.isb 0 sRo2 with
  | true =>
    rw [hb] at HI
    simp only [if_true]
    clear ek1 hE hG h hk hd hD hlen hb
    go_enter Tryz.func181, Tryz.ntmps181
    go_wp2_with fail
    refine HI.out.mono ?_
    rintro e w2 ⟨rfl, hb2⟩
    have ek2 := E1.out.below hb2
    have HV := Lib.hid (ek2.list (r := (C, [])) (m := []) (RowN.nil w2) (fun k hk => by cases hk) (by simp) (by simp) rfl rfl)
    clear ek2 hb2
    go_wp2
    refine bodyPost_ret (v := .slice none 0 0) (by simp [results, Tryz.results181, go_sem]) rfl HV.out
  | false =>
    rw [hb] at HI
    simp only [Bool.false_eq_true, if_false]
    have hGG := hG C hk hd hD
    have HGG := Lib.hid hGG
    have hll : (ex C).1.left ≤ 4000 := by have := hGG.left; have : C.left ≤ C.L.length := by { unfold Cu.left; split <;> omega }; omega
    have HLL := Lib.hid hll
    generalize hres : agl ex (ex C).1.left ((ex C).1, [(ex C).2]) = res
    have HRES := Lib.hid hres
    clear ek1 hE hG h hk hd hD hlen hb hGG hll hres
    go_enter Tryz.func181, Tryz.ntmps181
    go_wp2_with fail
    refine HI.out.mono ?_
    rintro e w2 ⟨rfl, hb2⟩
    have ek2 := E1.out.below hb2
    have HC := Lib.hid (HE.out _ C ek2.cu HK.out.1 HK.out.2.1 HK.out.2.2)
    clear p0
    have p0 := cell_heap (ek2.box (z := w.heap.size) (o := rdb b) (by simp)) (i := 0)
    simp only [List.getElem?_toArray, List.getElem?_cons_zero] at p0
    have E2 := Lib.hid ek2
    clear ek2 hb2 E1 HI
    go_wp2_with fail
    refine HC.out.mono ?_
    rintro e w3 ⟨T, rfl, hp, hT, hm, ho⟩
    have ek3 := E2.out.got hT hm ⟨HGG.out.ok, HGG.out.L⟩ ho
    have ek4 := (ek3.alloc (.cells #[.int .i64 T.k, .string T.g, .string T.t, .int .i64 T.a, .slice T.A T.kids.length T.c] 30 (0, 0)))
    have hrow : RowN (w3.alloc (.cells #[.int .i64 T.k, .string T.g, .string T.t, .int .i64 T.a, .slice T.A T.kids.length T.c] 30 (0, 0))) (.slice (some ⟨w3.heap.size, 0, none⟩) 1 1) [T] := RowN.lit 1 rfl (by omega) _ rfl
    have hwx : w.heap.size < w3.heap.size := ek3.lt (z := w.heap.size) (o := rdb b) (by simp)
    have HI0 : Hid (ArI b A c w ex C res (ex C).1.left (ex C).1 [T] 1 (some ⟨w3.heap.size, 0, none⟩) 1 (w3.heap.size :: [w.heap.size]) (w3.alloc (.cells #[.int .i64 T.k, .string T.g, .string T.t, .int .i64 T.a, .slice T.A T.kids.length T.c] 30 (0, 0)))) := Lib.hid ⟨ek4.sub (by simp) (by simp), hrow, fun k hk => by have hk : some w3.heap.size = some k := hk; injection hk with hk; simp [hk], fun hk => by have hk : some w3.heap.size = some w.heap.size := hk; injection hk with hk; omega, rfl, Nat.le_refl _, by rw [← HRES.out]; simp only [List.map_cons, List.map_nil, hp], by have := HLL.out; omega, HGG.out.d, HGG.out.L⟩
    clear ek3 ek4 hrow hwx hT hm ho p0 HC E2 hp
    go_wp2
    go_loopw [3] (fun v wr => ∃ (q : Nat) (C' : Cu) (m : List Tr) (n : Nat) (Al : Option Addr) (cl : Nat) (zs : List Nat), v = .slice Al n cl ∧ Hid (ArI b A c w ex C res q C' m n Al cl zs wr)) (fun _ wr => lft b C.L.length wr)
    case atStart => exact ⟨_, _, _, _, _, _, _, rfl, HI0⟩
    case round =>
      obtain ⟨q, C', m, n, Al, cl, zs, rfl, HD⟩ := hrel
      clear HI0
      have ek := HD.out.ek
      have HI := Lib.hid (is_any 0 sComma ⟨by omega, by omega⟩ ek.cu ek.ok)
      unfold Rd at HI
      have p0 := cell_heap (ek.box (z := w.heap.size) (o := rdb b) (by simp)) (i := 0)
      simp only [List.getElem?_toArray, List.getElem?_cons_zero] at p0
      have HCU := Lib.hid ek.cu
      have E5 := Lib.hid ek
      have HR5 := Lib.hid HD.out.row
      clear ek
      have HN := Lib.hid HD.out.hn
      cases hb : C'.isb 0 sComma with
      | false =>
        rw [hb] at HI
        have hres : (C', m.map pl) = res := by
          rw [← HD.out.res]
          cases q with
          | zero => rfl
          | succ q => unfold agl; simp only; rw [hb]; rfl
        clear hb
        go_wp2_with fail
        refine HI.out.mono ?_
        rintro e w6 ⟨rfl, hb6⟩
        have ek6 := E5.out.below hb6
        have hrow6 := HR5.out.below hb6
        have hlo : ∀ k, (Value.slice Al n cl).ownBlock = some k → w.heap.size ≤ k := fun k hk => (ek6.zn k (HD.out.own k hk)).1
        have hmn := HN.out
        subst hmn
        have HV := Lib.hid (ek6.list (r := res) (m := m) hrow6 hlo (fun x hx => hx) (by have := HD.out.len; omega) (by rw [← hres]) (by rw [← hres]))
        clear ek6 hrow6 hlo hres hb6 E5 HR5 HD HI
        go_wp2
        refine bodyPost_ret (v := .slice Al m.length cl) (by simp [results, Tryz.results181, go_sem]) rfl HV.out
      | true =>
        rw [hb] at HI
        obtain ⟨hl1, hl2, hl3⟩ := Cu.isb_left hb
        obtain ⟨q, rfl⟩ : ∃ q', q = q' + 1 := ⟨q - 1, by have := HD.out.lf; omega⟩
        have hres := HD.out.res
        unfold agl at hres
        simp only [hb, if_true] at hres
        have HRES := Lib.hid hres
        have hGW := Got.wnt E5.out.ok sComma
        have hdd : (wnt sComma C').1.d = C.d := hGW.d.trans HD.out.d
        have hGE := HG.out _ hGW.ok (by rw [hdd]; exact HK.out.2.1) (by rw [hdd]; exact HK.out.2.2)
        have HFE := Lib.hid (fun (W : World) (hm : CuM b A c (wnt sComma C').1 W) => HE.out W _ hm hGW.ok (by rw [hdd]; exact HK.out.2.1) (by rw [hdd]; exact HK.out.2.2))
        have hgl := hGE.left
        have hlf := HD.out.lf
        have hln := HD.out.len
        have hgn := hGE.n
        have HNM : Hid ((ex (wnt sComma C').1).1.left ≤ q ∧ n + 2 + 2 * (ex (wnt sComma C').1).1.left ≤ 8001 ∧ C'.n < C.L.length ∧ C'.n + 1 ≤ (ex (wnt sComma C').1).1.n ∧ (ex (wnt sComma C').1).1.d = C.d ∧ (ex (wnt sComma C').1).1.L = C.L ∧ n ≤ 8001) := Lib.hid ⟨by omega, by omega, by
            have h0 : 0 < C'.left := hl1
            unfold Cu.left at h0
            rw [HD.out.L] at h0
            split at h0 <;> omega, by omega, by rw [hGE.d, hdd], by rw [hGE.L, hGW.L, HD.out.L], by omega⟩
        have HGW := Lib.hid hGW
        have HGE := Lib.hid hGE
        have HOWN := Lib.hid (And.intro HD.out.own HD.out.ne)
        clear hb hl1 hl2 hl3 hres hGW hdd hGE hgl hlf hln hgn HD
        go_wp2_with fail
        refine HI.out.mono ?_
        rintro e w6 ⟨rfl, hb6⟩
        have ek6 := E5.out.below hb6
        have hrow6 := HR5.out.below hb6
        have HW := Lib.hid (wnt_any sComma ek6.cu ek6.ok)
        clear p0
        have p0 := cell_heap (ek6.box (z := w.heap.size) (o := rdb b) (by simp)) (i := 0)
        simp only [List.getElem?_toArray, List.getElem?_cons_zero] at p0
        have E6 := Lib.hid ek6
        have HR6 := Lib.hid hrow6
        clear ek6 hrow6 hb6 HI E5 HR5
        go_wp2_with fail
        refine HW.out.mono ?_
        rintro e w7 ⟨SG, rfl, hp1, hT1, hm1, ho1⟩
        have ek7 := E6.out.got hT1 hm1 ⟨HGW.out.ok, HGW.out.L⟩ ho1
        have hob : (Value.slice Al n cl).ownBlock ≠ some b := fun e => by
          have := (E6.out.zn b (HOWN.out.1 b e)).1
          have := E6.out.hX b rfl
          omega
        have HOB := Lib.hid hob
        have hrow7 := HR6.out.of ho1 hob
        have ek8 := ek7.local_ SG
        have hz7 := heap_alloc_new w7 zb5
        have hrow8 : RowN (set5 (w7.alloc zb5) w7.heap.size SG) (.slice Al n cl) m := (hrow7.below (below1 w7 zb5)).keep fun k hk => set5_other (fun e => by have := hrow7.lt k hk; omega) SG
        have hne8 : (Value.slice Al n cl).ownBlock ≠ some w7.heap.size := fun e => by have := hrow7.lt _ e; omega
        clear ek7 hrow7 hT1 hm1 ho1 p0 HW E6 HR6 hob
        go_wp2_with (with_reducible refine stay_store 30 (.tmp 4) (.tmp 16) (by rfl) ?_)
        refine Stay.mk ?_
        refine wpList_store_node (by rfl) 30 (.tmp 4) (.tmp 16) (by rfl) size_tnode (w7.heap.size) SG (by rfl) (by rfl) hz7 ?_
        generalize set5 (w7.alloc zb5) w7.heap.size SG = w8 at ek8 hrow8 ⊢
        generalize w7.heap.size = x4 at ek8 hne8 ⊢
        clear hz7 w7
        have ek9 := ek8.drew
        have hrow9 : RowN w8.drew (.slice Al n cl) m := hrow8
        have HC := Lib.hid (HFE.out w8.drew ek9.cu)
        have E9 := Lib.hid ek9
        have HR9 := Lib.hid hrow9
        have HNE := Lib.hid hne8
        clear ek8 ek9 hrow8 hrow9 hne8
        go_wp2
        refine wp_region_noPanic (wp_region_held (S := fun W' : World => W'.heap[x4]? = some (.cells (ncc SG) 30 (0, 0)) ∧ W'.heap[w.heap.size]? = some (rdb b) ∧ True) (by kernel_rfl) ?_)
        show wpAnyH _ _ _ _ _ _ _ _ w8.drew
        generalize w8.drew = w9 at HC E9 HR9 ⊢
        have hS0 : w9.heap[x4]? = some (.cells (ncc SG) 30 (0, 0)) ∧ w9.heap[w.heap.size]? = some (rdb b) ∧ True := ⟨E9.out.box (z := x4) (o := .cells (ncc SG) 30 (0, 0)) (by simp), E9.out.box (z := w.heap.size) (o := rdb b) (by simp), trivial⟩
        refine wpAnyH_take_d (i := 0) (v := .slice Al n cl) 17 rfl rfl (by kernel_rfl) (by kernel_rfl) (by kernel_rfl) (fun _ _ _ h => h) (Or.inl ⟨by kernel_rfl, fun w' hS' => ?y0⟩) hS0 ?_
        case y0 => (skip; clear hS'; go_simp)
        simp only [Act.put, List.setIfInBounds_toArray, List.set_cons_zero, List.set_cons_succ]
        refine wpAnyH_take_d (i := 1) (v := nv SG) 18 rfl rfl (by kernel_rfl) (by kernel_rfl) (by kernel_rfl) (fun _ _ _ h => h) (Or.inl ⟨by kernel_rfl, fun w' hS' => ?y1⟩) hS0 ?_
        case y1 => (obtain ⟨s0, s1, s2, s3, s4⟩ := heap5 (hS'.1); clear hS'; go_simp)
        simp only [Act.put, List.setIfInBounds_toArray, List.set_cons_zero, List.set_cons_succ]
        refine wpAnyH_take_d (i := 2) (v := rcv b) 19 rfl rfl (by kernel_rfl) (by kernel_rfl) (by kernel_rfl) (fun _ _ _ h => h) (Or.inl ⟨by kernel_rfl, fun w' hS' => ?y2⟩) hS0 ?_
        case y2 => (have s0 := cell_heap hS'.2.1 (i := 0); simp only [List.getElem?_toArray, List.getElem?_cons_zero] at s0; clear hS'; go_simp)
        simp only [Act.put, List.setIfInBounds_toArray, List.set_cons_zero, List.set_cons_succ]
        refine wpAnyH_ready (rs := [3]) (by kernel_rfl) (by simp) ?_
        refine AllReadyH.cons rfl (fun K hK => ?_) AllReadyH.nil
        go_simp
        refine (HC.out).mono ?_
        rintro e w10 ⟨U, rfl, hp2, hT2, hm2, ho2⟩
        have ek_ := E9.out.got hT2 hm2 ⟨HGE.out.ok, HGE.out.L⟩ ho2
        have hS3 : w10.heap[x4]? = some (.cells (ncc SG) 30 (0, 0)) ∧ w10.heap[w.heap.size]? = some (rdb b) ∧ True := ⟨ek_.box (z := x4) (o := .cells (ncc SG) 30 (0, 0)) (by simp), ek_.box (z := w.heap.size) (o := rdb b) (by simp), trivial⟩
        have E10 := Lib.hid ek_
        clear ek_
        have hrow10 := HR9.out.of ho2 HOB.out
        have HR10 := Lib.hid hrow10
        clear hT2 hm2 ho2 hrow10 E9 HR9 HC
        refine hK.out _ _ hS3 (fun _ => ?_)
        clear hK K
        try simp only [Act.put, List.setIfInBounds_toArray, List.set_cons_zero, List.set_cons_succ]
        refine wpAnyH_ready (rs := [4]) (by kernel_rfl) (by simp) ?_
        refine AllReadyH.cons rfl (fun K hK => ?_) AllReadyH.nil
        have ek_ := E10.out.rowOf 0 2 (l := [SG, U]) rfl (by simp) (.cells #[.int .i64 SG.k, .string SG.g, .string SG.t, .int .i64 SG.a, .slice SG.A SG.kids.length SG.c, .int .i64 U.k, .string U.g, .string U.t, .int .i64 U.a, .slice U.A U.kids.length U.c] 30 (0, 0)) 30 rfl
        have hrow11 := HR10.out.below (below1 w10 (.cells #[.int .i64 SG.k, .string SG.g, .string SG.t, .int .i64 SG.a, .slice SG.A SG.kids.length SG.c, .int .i64 U.k, .string U.g, .string U.t, .int .i64 U.a, .slice U.A U.kids.length U.c] 30 (0, 0)))
        go_simp
        have hlies := (tn_iff.1 (ek_.tn ⟨0, ⟨#[]⟩, ⟨#[]⟩, 0, some ⟨w10.heap.size, 0, none⟩, 2, [SG, U]⟩ (by simp))).2.1
        generalize w10.alloc (.cells #[.int .i64 SG.k, .string SG.g, .string SG.t, .int .i64 SG.a, .slice SG.A SG.kids.length SG.c, .int .i64 U.k, .string U.g, .string U.t, .int .i64 U.a, .slice U.A U.kids.length U.c] 30 (0, 0)) = w11 at ek_ hrow11 hlies ⊢
        generalize w10.heap.size = y at ek_ hlies ⊢
        have hS4 : w11.heap[x4]? = some (.cells (ncc SG) 30 (0, 0)) ∧ w11.heap[w.heap.size]? = some (rdb b) ∧ True := ⟨ek_.box (z := x4) (o := .cells (ncc SG) 30 (0, 0)) (by simp), ek_.box (z := w.heap.size) (o := rdb b) (by simp), trivial⟩
        have E11 := Lib.hid ek_
        have HR11 := Lib.hid hrow11
        have HL11 : Hid (∀ (i : Nat) (e : Tr), [SG, U][i]? = some e → At5 w11 y (0 + i * 5) e) := Lib.hid (by
          obtain ⟨b', off', e, -, hc⟩ := hlies (by simp)
          injection e with e
          injection e with e1 e2
          subst e1 e2
          exact hc)
        clear ek_ hrow11 hlies E10 HR10
        refine hK.out _ _ hS4 (fun _ => ?_)
        clear hK K
        try simp only [Act.put, List.setIfInBounds_toArray, List.set_cons_zero, List.set_cons_succ]
        refine wpAnyH_ready (rs := [5]) (by kernel_rfl) (by simp) ?_
        refine AllReadyH.cons rfl (fun K hK => ?_) AllReadyH.nil
        refine step_append_n (by rfl) (.tmp 17) (.tmp 21) (by rfl) w11 (.slice Al n cl) m [SG, U] 2 y 0 2 rfl (by rfl) (by rfl) HL11.out HR11.out (by have := HNM.out.2.2.2.2.2.2; have := HN.out; simp; omega) ?_
        intro A3 c3 w12 hrow12 hg12 hat12
        show K (Act.put _ (some 22) (.slice A3 (m ++ [SG, U]).length c3)) _
        have ek11 := E11.out.sub (bs' := [(x4, .cells (ncc SG) 30 (0, 0)), (w.heap.size, rdb b)]) (ts' := m ++ [SG, U]) (by simp) (by simp only [List.mem_append, List.mem_cons, List.not_mem_nil, or_false]; rintro T (h | h | h) <;> simp [h])
        obtain ⟨zs12, ek12, hz12, ho12, hn12⟩ := ek11.grows hg12 (own' := (Value.slice A3 (m ++ [SG, U]).length c3).ownBlock) (fun k hk => .inl (by simp [HOWN.out.1 k hk])) (by
          simp only [List.mem_cons, List.not_mem_nil, or_false]
          rintro q (rfl | rfl)
          · exact HNE.out
          · exact HOWN.out.2) hat12 hrow12.lt
        have hS5 : w12.heap[x4]? = some (.cells (ncc SG) 30 (0, 0)) ∧ w12.heap[w.heap.size]? = some (rdb b) ∧ True := ⟨ek12.box (z := x4) (o := .cells (ncc SG) 30 (0, 0)) (by simp), ek12.box (z := w.heap.size) (o := rdb b) (by simp), trivial⟩
        have hl12 : (m ++ [SG, U]).length = n + 2 := by rw [List.length_append, HN.out]; rfl
        have hp12 : (m ++ [SG, U]).map pl = m.map pl ++ [(wnt sComma C').2, (ex (wnt sComma C').1).2] := by simp only [List.map_append, List.map_cons, List.map_nil, hp1, hp2]
        rw [hl12] at hrow12 ho12 hn12
        rw [hl12]
        generalize m ++ [SG, U] = m12 at ek12 hrow12 hl12 hp12 ho12 hn12 ⊢
        have E12 := Lib.hid ek12
        have HR12 := Lib.hid hrow12
        have HO12 := Lib.hid (And.intro ho12 (And.intro hn12 (And.intro hl12 hp12)))
        clear ek11 ek12 hrow12 hg12 hat12 hz12 ho12 hn12 hl12 hp12 E11 HR11 HL11
        refine hK.out _ _ hS5 (fun _ => ?_)
        clear hK K
        try simp only [Act.put, List.setIfInBounds_toArray, List.set_cons_zero, List.set_cons_succ]
        refine wpAnyH_take_d (i := 6) (v := .slice A3 (n + 2) c3) 3 rfl rfl (by kernel_rfl) (by kernel_rfl) (by kernel_rfl) (fun _ _ _ h => h) (Or.inl ⟨by kernel_rfl, fun w' hS' => ?y6⟩) hS5 ?_
        case y6 => (skip; clear hS'; go_simp)
        simp only [Act.put, List.setIfInBounds_toArray, List.set_cons_zero, List.set_cons_succ]
        refine wpAnyH_done (by kernel_rfl) ?_ _
        refine NoPanic.normal ?_
        clear hS0 hS3 hS4 hS5
        go_wp2
        go_roundw
        case rel =>
          refine ⟨q, (ex (wnt sComma C').1).1, m12, n + 2, A3, c3, zs12, rfl, Lib.hid ⟨E12.out.sub (by simp) (by simp), HR12.out, fun k hk => ?_, HO12.out.2.1 (w.heap.size, rdb b) (by simp), HO12.out.2.2.1, HNM.out.1, by rw [HO12.out.2.2.2]; exact HRES.out, HNM.out.2.1, HNM.out.2.2.2.2.1, HNM.out.2.2.2.2.2.1⟩⟩
          rcases HO12.out.1 k hk with h1 | ⟨h1, h2⟩
          · exact h1
          · exact absurd h1 h2
        case measure =>
          show lft b _ _ < lft b _ _
          rw [lft_eq E12.out.cu, lft_eq HCU.out]
          have := HNM.out
          omega
end
end Go.Proofs.YtfmlcddakfbleaaGreatDoor
