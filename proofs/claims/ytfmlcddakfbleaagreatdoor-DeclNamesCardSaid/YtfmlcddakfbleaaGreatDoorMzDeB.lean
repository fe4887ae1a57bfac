/- stmt.Type. -/
import Derived.Test.YtfmlcddakfbleaaGreatDoorMzDeA
import Derived.Test.YtfmlcddakfbleaaGreatDoorMzStB
namespace Go.Proofs.YtfmlcddakfbleaaGreatDoor
open Go.RowKit SignMath TreeMath

section
variable {b : Nat} {A : Option Addr} {c : Nat}
set_option maxRecDepth 100000 in
set_option maxHeartbeats 4000000 in
theorem unlessT_any {w : World} {C : Cu} (h : CuM b A c C w) (T : Tr) : Calls Tryz.prog 129 #[rcv b, nv T] w fun e w' => e = .returned (nv (if C.f = 0 then T else zn1)) ∧ Below w.heap.size w w' := by
  have hB := ((below1 w (sdb b)).alloc (by simp) (.cells (ncc T) 30 (0, 0))).alloc (by simp <;> omega) zb5
  have r0 : (((w.alloc (sdb b)).alloc (.cells (ncc T) 30 (0, 0))).alloc zb5).heap[w.heap.size]? = some (sdb b) := (Below.heap_alloc _ _ _ (by simp <;> omega)).trans ((Below.heap_alloc _ _ _ (by simp)).trans (heap_alloc_new w (sdb b)))
  have r1 : (((w.alloc (sdb b)).alloc (.cells (ncc T) 30 (0, 0))).alloc zb5).heap[w.heap.size + 1]? = some (.cells (ncc T) 30 (0, 0)) := (Below.heap_alloc _ _ _ (by simp)).trans (by have := heap_alloc_new (w.alloc (sdb b)) (.cells (ncc T) 30 (0, 0)); rwa [World.size_alloc] at this)
  have r2 : (((w.alloc (sdb b)).alloc (.cells (ncc T) 30 (0, 0))).alloc zb5).heap[w.heap.size + 1 + 1]? = some zb5 := by have := heap_alloc_new ((w.alloc (sdb b)).alloc (.cells (ncc T) 30 (0, 0))) zb5; rwa [World.size_alloc, World.size_alloc] at this
  have HF := Lib.hid (failed_any (h.below hB))
  have p0 := cell_heap r0 (i := 0)
  simp only [List.getElem?_toArray, List.getElem?_cons_zero] at p0
  have HB := Lib.hid (And.intro hB (And.intro r1 r2))
  unfold Rd Cu.fl at HF
  clear h hB r0 r1 r2
  by_cases hf : C.f = 0
  · rw [if_pos hf] at HF ⊢
    clear hf
    go_enter Tryz.func129, Tryz.ntmps129
    go_wp2_with fail
    refine HF.out.mono ?_
    rintro e w4 ⟨rfl, hb⟩
    obtain ⟨t0, t1, t2, t3, t4⟩ := heap5 ((hb.block (w.heap.size + 1) (by simp <;> omega)).trans HB.out.2.1)
    have hz := (hb.block (w.heap.size + 1 + 1) (by simp <;> omega)).trans HB.out.2.2
    have hs := set5_self hz T
    have HB4 := Lib.hid (below_set5 (HB.out.1.trans (hb.mono (by simp <;> omega))) (by omega : w.heap.size ≤ w.heap.size + 1 + 1) T)
    clear hb HF HB p0
    go_wp2_with (with_reducible refine stay_store 30 (.tmp 4) (.tmp 17) (by rfl) ?_)
    refine Stay.mk ?_
    refine wpList_store_node (by rfl) 30 (.tmp 4) (.tmp 17) (by rfl) size_tnode (w.heap.size + 1 + 1) T (by rfl) (by rfl) hz ?_
    generalize set5 w4 (w.heap.size + 1 + 1) T = w9 at hs HB4 ⊢
    clear hz t0 t1 t2 t3 t4
    go_wp2
    have g0 := cell_heap hs (i := 0)
    have g1 := cell_heap hs (i := 1)
    have g2 := cell_heap hs (i := 2)
    have g3 := cell_heap hs (i := 3)
    have g4 := cell_heap hs (i := 4)
    simp only [List.getElem?_toArray, List.getElem?_cons_zero, List.getElem?_cons_succ] at g0 g1 g2 g3 g4
    refine bodyPost_ret (v := nv T) (by simp [results, Tryz.results129, go_sem, g0, g1, g2, g3, g4]) rfl ⟨rfl, HB4.out⟩
  · rw [if_neg hf] at HF ⊢
    clear hf
    generalize C.p = pp at HF
    generalize C.f = ff at HF
    unfold errn at HF
    go_enter Tryz.func129, Tryz.ntmps129
    go_wp2_with fail
    refine HF.out.mono ?_
    rintro e w4 ⟨rfl, hb⟩
    have hz := (hb.block (w.heap.size + 1 + 1) (by simp <;> omega)).trans HB.out.2.2
    have hlz : w.heap.size + 1 + 1 < w4.heap.size := (Array.getElem?_eq_some_iff.1 hz).1
    have hz2 := (Below.heap_alloc w4 zb5 _ hlz).trans hz
    obtain ⟨t0, t1, t2, t3, t4⟩ := heap5 (show (w4.alloc zb5).heap[w4.heap.size]? = some (.cells (ncc zn1) 30 (0, 0)) from heap_alloc_new w4 zb5)
    have hs := set5_self hz2 zn1
    have hb4 := HB.out.1.trans (hb.mono (by simp <;> omega))
    have HB4 := Lib.hid (below_set5 (hb4.trans ((below1 w4 zb5).mono hb4.size)) (by omega : w.heap.size ≤ w.heap.size + 1 + 1) zn1)
    clear hb HF HB p0 hb4 hz
    go_wp2_with (with_reducible refine stay_store 30 (.tmp 4) (.tmp 16) (by rfl) ?_)
    refine Stay.mk ?_
    refine wpList_store_node (by rfl) 30 (.tmp 4) (.tmp 16) (by rfl) size_tnode (w.heap.size + 1 + 1) zn1 (by rfl) (by rfl) hz2 ?_
    generalize set5 (w4.alloc zb5) (w.heap.size + 1 + 1) zn1 = w9 at hs HB4 ⊢
    clear hz2 t0 t1 t2 t3 t4
    go_wp2
    have g0 := cell_heap hs (i := 0)
    have g1 := cell_heap hs (i := 1)
    have g2 := cell_heap hs (i := 2)
    have g3 := cell_heap hs (i := 3)
    have g4 := cell_heap hs (i := 4)
    simp only [List.getElem?_toArray, List.getElem?_cons_zero, List.getElem?_cons_succ] at g0 g1 g2 g3 g4
    refine bodyPost_ret (v := nv zn1) (by simp [results, Tryz.results129, go_sem, g0, g1, g2, g3, g4]) rfl ⟨rfl, HB4.out⟩
set_option maxRecDepth 100000 in
set_option maxHeartbeats 4000000 in
theorem stype_any {w : World} {C : Cu} (h : CuM b A c C w) (hk : C.Ok) (hd : C.d ≤ 200) : Calls Tryz.prog 120 #[.pointer (some ⟨b, 0, none⟩)] w (TrV b A c (unt typ C) w) := by
  have ek2 := ((EK.begin h hk).alloc zb5).alloc (sdb b)
  rw [World.size_alloc] at ek2
  have E1 := Lib.hid ek2.drew
  have HC := Lib.hid (typed_any _ C ek2.drew.cu hk hd (Nat.zero_le _))
  have HGG := Lib.hid (Got.typ 0 C hk hd (Nat.zero_le _))
  clear ek2 h hk hd
  generalize hres : unt typ C = res
  have HRES := Lib.hid hres
  clear hres
  go_enter Tryz.func120, Tryz.ntmps120
  go_wp2
  rename_i K0 hK0
  refine wp_region_noPanic (wp_region_held (S := fun W' : World => W'.heap[w.heap.size + 1]? = some (sdb b) ∧ True) (by kernel_rfl) ?_)
  show wpAnyH _ _ _ _ _ _ _ _ ((w.alloc zb5).alloc (sdb b)).drew
  have hS0 : ((w.alloc zb5).alloc (sdb b)).drew.heap[w.heap.size + 1]? = some (sdb b) ∧ True := ⟨E1.out.box (z := w.heap.size + 1) (o := sdb b) (by simp), trivial⟩
  generalize ((w.alloc zb5).alloc (sdb b)).drew = w1 at HC E1 hS0 ⊢
  refine wpAnyH_take_d (i := 0) (v := rcv b) 6 rfl rfl (by kernel_rfl) (by kernel_rfl) (by kernel_rfl) (fun _ _ _ h => h) (Or.inl ⟨by kernel_rfl, fun w' hS' => ?y0⟩) hS0 ?_
  case y0 => (have s0 := cell_heap hS'.1 (i := 0); simp only [List.getElem?_toArray, List.getElem?_cons_zero] at s0; clear hS'; go_simp)
  simp only [Act.put, List.setIfInBounds_toArray, List.set_cons_zero, List.set_cons_succ]
  refine wpAnyH_take_d (i := 1) (v := rcv b) 7 rfl rfl (by kernel_rfl) (by kernel_rfl) (by kernel_rfl) (fun _ _ _ h => h) (Or.inl ⟨by kernel_rfl, fun w' hS' => ?y1⟩) hS0 ?_
  case y1 => (have s0 := cell_heap hS'.1 (i := 0); simp only [List.getElem?_toArray, List.getElem?_cons_zero] at s0; clear hS'; go_simp)
  simp only [Act.put, List.setIfInBounds_toArray, List.set_cons_zero, List.set_cons_succ]
  refine wpAnyH_ready (rs := [2]) (by kernel_rfl) (by simp) ?_
  refine AllReadyH.cons rfl (fun K hK => ?_) AllReadyH.nil
  go_simp
  refine (HC.out).mono ?_
  rintro e w2 ⟨T, rfl, hp, hT, hm, ho⟩
  have ek_ := E1.out.got hT hm ⟨HGG.out.ok, HGG.out.L⟩ ho
  have hS2 : w2.heap[w.heap.size + 1]? = some (sdb b) ∧ True := ⟨ek_.box (z := w.heap.size + 1) (o := sdb b) (by simp), trivial⟩
  have E2 := Lib.hid ek_
  clear ek_
  have HP := Lib.hid hp
  clear hT hm ho HC E1 hp
  refine hK.out _ _ hS2 (fun _ => ?_)
  clear hK K
  try simp only [Act.put, List.setIfInBounds_toArray, List.set_cons_zero, List.set_cons_succ]
  have HF := Lib.hid (unlessT_any E2.out.cu T)
  obtain ⟨X, hX⟩ : ∃ X, (if (typ C).1.f = 0 then T else zn1) = X := ⟨_, rfl⟩
  have hXp : pl X = res.2 := by
    rw [← HRES.out, ← hX]
    unfold unt
    simp only
    split
    · exact HP.out
    · exact pl_leaf
  have hXe : ∀ (W : World) (bs : List (Nat × Obj)) (zs : List Nat), EK b A c no (· = b) w (typ C).1 bs zs [T] W → EK b A c no (· = b) w (typ C).1 bs zs [X] W := fun W bs zs h => by
    rw [← hX]
    split
    · exact h
    · exact (h.leaf (T := zn1) rfl ⟨by show (-9223372036854775808 : Int) ≤ 0; omega, by show (0 : Int) ≤ 9223372036854775807; omega⟩).sub (fun _ h => h) (by simp)
  rw [hX] at HF
  have HX := Lib.hid (And.intro hXp hXe)
  have HR1 := Lib.hid (show res.1 = (typ C).1 by rw [← HRES.out]; rfl)
  clear hX hXp hXe HP HRES HGG
  refine wpAnyH_ready (rs := [3]) (by kernel_rfl) (by simp) ?_
  refine AllReadyH.cons rfl (fun K hK => ?_) AllReadyH.nil
  go_simp
  refine (HF.out).mono ?_
  rintro e w3 ⟨rfl, hb⟩
  have ek_ := HX.out.2 _ _ _ (E2.out.below hb)
  have hS3 : w3.heap[w.heap.size + 1]? = some (sdb b) ∧ True := ⟨ek_.box (z := w.heap.size + 1) (o := sdb b) (by simp), trivial⟩
  have E3 := Lib.hid ek_
  clear ek_
  clear hb HF E2
  refine hK.out _ _ hS3 (fun _ => ?_)
  clear hK K
  try simp only [Act.put, List.setIfInBounds_toArray, List.set_cons_zero, List.set_cons_succ]
  refine wpAnyH_ready (rs := [4]) (by kernel_rfl) (by simp) ?_
  refine AllReadyH.cons rfl (fun K hK => ?_) AllReadyH.nil
  refine step_store_node (by rfl) 30 (.tmp 2) (.tmp 9) (by rfl) size_tnode w.heap.size X (by rfl) (by rfl) (E3.out.box (z := w.heap.size) (o := zb5) (by simp)) ?_
  have hz := E3.out.box (z := w.heap.size) (o := zb5) (by simp)
  have hS4 : (set5 w3 w.heap.size X).heap[w.heap.size + 1]? = some (sdb b) ∧ True := ⟨(set5_other (by omega) X).trans (E3.out.box (z := w.heap.size + 1) (o := sdb b) (by simp)), trivial⟩
  obtain ⟨hs, hv⟩ := E3.out.result (r := res) (T := X) (z := w.heap.size) (by simp) (by simp) hz HR1.out HX.out.1
  generalize set5 w3 w.heap.size X = w9 at hs hS4 hv ⊢
  have HV := Lib.hid hv
  clear hv hz E3
  refine hK.out _ _ hS4 (fun _ => ?_)
  clear hK K
  try simp only [Act.put, List.setIfInBounds_toArray]
  refine wpAnyH_done (by kernel_rfl) ?_ _
  refine hK0 _ _ ?_
  clear hK0 hS0 hS2 hS3 hS4
  go_wp2
  have g0 := cell_heap hs (i := 0)
  have g1 := cell_heap hs (i := 1)
  have g2 := cell_heap hs (i := 2)
  have g3 := cell_heap hs (i := 3)
  have g4 := cell_heap hs (i := 4)
  simp only [List.getElem?_toArray, List.getElem?_cons_zero, List.getElem?_cons_succ] at g0 g1 g2 g3 g4
  refine bodyPost_ret (v := nv X) (by simp [results, Tryz.results120, go_sem, g0, g1, g2, g3, g4]) rfl HV.out
end
end Go.Proofs.YtfmlcddakfbleaaGreatDoor

namespace Go.Proofs.YtfmlcddakfbleaaGreatDoor
namespace Dc
open Go.RowKit SignMath TreeMath

theorem ent_name : Ent 86 := ent_of Tryz.func86 (by kernel_rfl) (by kernel_rfl)
theorem ent_typed : Ent 109 := ent_of Tryz.func109 (by kernel_rfl) (by kernel_rfl)
section
variable {b : Nat} {A : Option Addr} {c : Nat}
set_option maxRecDepth 100000 in
set_option maxHeartbeats 4000000 in
theorem dtyped_any : WhatF 109 b A c tyq 0 := by
  intro w C h hk hd _
  have ek1 := (EK.begin h hk).alloc (sdb b)
  have HC := Lib.hid (stype_any ek1.cu ek1.ok hd)
  have hG := Got.unt (Got.typ 0) C hk hd (Nat.zero_le _)
  have p0 := cell_heap (ek1.box (z := w.heap.size) (o := sdb b) (by simp)) (i := 0)
  simp only [List.getElem?_toArray, List.getElem?_cons_zero] at p0
  have E1 := Lib.hid ek1
  have HG := Lib.hid hG
  clear ek1 hG h hk hd
  go_enter Tryz.func109, Tryz.ntmps109
  go_wp2_with fail
  refine HC.out.mono ?_
  rintro e w2 ⟨T, rfl, hp, hT, hm, ho⟩
  have ek2 := E1.out.got hT hm ⟨HG.out.ok, HG.out.L⟩ ho
  have E2 := Lib.hid ek2
  clear ek2 hT hm ho HC E1 p0
  go_wp2_with fail
  refine (one_any T w2).mono ?_
  rintro e w3 ⟨rfl, rfl⟩
  have HV := Lib.hid ((E2.out.oned (T := T) (by simp)).listb (r := tyq C) (Al := some ⟨w2.heap.size + 1, 0, none⟩) (cl := 1) (m := [T]) (by simp) (by simp) (by simp) rfl (by show [pl T] = _; rw [hp]; rfl))
  clear E2 hp
  go_wp2
  refine bodyPost_ret (v := .slice (some ⟨w2.heap.size + 1, 0, none⟩) 1 1) (by simp [results, Tryz.results109, go_sem]) rfl HV.out
theorem con_name (x : Nat) : Con b A c 0 (.list 86 nam 1 x) := ⟨ent_name, dname_any, (Got.nam 0).zero, .inr fun _ _ => Nat.le_refl _⟩
theorem con_typed (x : Nat) : Con b A c 0 (.list 109 tyq 1 x) := ⟨ent_typed, dtyped_any, Got.tyq 0, .inr fun _ _ => Nat.le_refl _⟩
theorem prm_cu (C : Cu) (y0 : Part) (y1 : Part) : cuA [.load, .list 109 y0 1 0, .load, .list 86 y1 1 2, .bund [1, 3], .node 7 4, .store 5] C 7 = (sq [y0, y1] C).1 := by kernel_rfl
theorem prm_nv (C : Cu) (y0 : Part) (y1 : Part) : nvl [.load, .list 109 y0 1 0, .load, .list 86 y1 1 2, .bund [1, 3], .node 7 4, .store 5] C 5 = [nod 7 (sq [y0, y1] C).2] := by kernel_rfl
set_option maxRecDepth 100000 in
set_option maxHeartbeats 4000000 in
theorem param_any : PartF 130 b A c prm 0 := by
  intro w C h hk hd _
  have E2 := Lib.hid (EK.starts h hk)
  clear h hk
  go_enter Tryz.func130, Tryz.ntmps130
  go_wp2
  rename_i K0 hK0
  refine region_any (D := [.load, .list 109 tyq 1 0, .load, .list 86 nam 1 2, .bund [1, 3], .node 7 4, .store 5]) (base := 3) (nt := 9) (Dp := 0) (z1 := w.heap.size) (z2 := w.heap.size + 1) (by omega) (Nat.le_of_ble_eq_true rfl) hd (Nat.zero_le _)
    ⟨⟨rfl, ⟨rfl, rfl⟩, by kernel_rfl, by kernel_rfl, by kernel_rfl, trivial, trivial⟩, ⟨rfl, ⟨⟨_, rfl⟩, rfl⟩, by kernel_rfl, by kernel_rfl, by kernel_rfl, rfl, (con_typed 0)⟩, ⟨rfl, ⟨rfl, rfl⟩, by kernel_rfl, by kernel_rfl, by kernel_rfl, trivial, trivial⟩, ⟨rfl, ⟨⟨_, rfl⟩, rfl⟩, by kernel_rfl, by kernel_rfl, by kernel_rfl, rfl, (con_name 2)⟩, ⟨rfl, ⟨⟨_, rfl, rfl⟩, by decide, rfl⟩, by kernel_rfl, by kernel_rfl, by kernel_rfl, ⟨by decide, by kernel_rfl, Nat.le_of_ble_eq_true (by kernel_rfl)⟩, trivial⟩, ⟨rfl, ⟨⟨_, rfl⟩, rfl⟩, by kernel_rfl, by kernel_rfl, by kernel_rfl, ⟨_, rfl⟩, trivial⟩, ⟨rfl, ⟨rfl, rfl⟩, by kernel_rfl, by kernel_rfl, by kernel_rfl, ⟨_, _, rfl⟩, trivial⟩, trivial⟩ (Nat.succ_pos _) rfl rfl rfl E2.out (by simp) (by simp) (by simp) ?_
  intro a' W' T zs' x g1 g2 g3 g4 g5 ek hp
  have g5 : some (Kd.store 5) = some (Kd.store x) := g5
  injection g5 with g5
  injection g5 with g5
  subst g5
  have hp := hp.trans (prm_nv C tyq nam)
  injection hp with hp
  have hp : pl T = (prm C).2 := hp
  have hc := prm_cu C tyq nam
  have ek : EK b A c no (· = b) w (cuA [.load, .list 109 tyq 1 0, .load, .list 86 nam 1 2, .bund [1, 3], .node 7 4, .store 5] C 7) [(w.heap.size + 1, .cells (ncc T) 30 (0, 0))] zs' [T] W' := ek
  rw [hc] at ek
  clear hc
  have hs := ek.box (z := w.heap.size + 1) (o := .cells (ncc T) 30 (0, 0)) (by simp)
  have HV := Lib.hid (ek.fin (r := prm C) (T := T) (by simp) rfl hp)
  clear ek hp
  show K0 a' W'
  refine hK0 _ _ ?_
  go_wp2
  refine bodyPost_ret (v := nv T) (results_cell rfl g4 hs) g1 HV.out
end
end Dc
end Go.Proofs.YtfmlcddakfbleaaGreatDoor

namespace Go.Proofs.YtfmlcddakfbleaaGreatDoor
namespace Dc
open Go.RowKit SignMath TreeMath

/-- ahead of each round of parameters -/
structure PrI (b : Nat) (A : Option Addr) (c : Nat) (w : World) (C : Cu) (res : Cu × List Tr) (q : Nat) (C' : Cu) (m : List Tr) (n : Nat) (Al : Option Addr) (cl : Nat) (zs : List Nat) (W : World) : Prop where
  ek : EK b A c no (· = b) w C' [(w.heap.size, sdb b)] zs m W
  row : RowN W (.slice Al n cl) m
  own : ∀ k, (Value.slice Al n cl).ownBlock = some k → k ∈ zs
  ne : (Value.slice Al n cl).ownBlock ≠ some w.heap.size
  hn : m.length = n
  lf : C'.left ≤ q
  res : agl prm q (C', m.map pl) = res
  len : n + 2 * C'.left ≤ 8001
  d : C'.d = C.d
section
variable {b : Nat} {A : Option Addr} {c : Nat}
set_option maxRecDepth 100000 in
set_option maxHeartbeats 8000000 in
theorem params_any : WhatF 121 b A c prms 0 := by
  intro w C h hk hd hD
  have ek1 := (EK.begin h hk).alloc (sdb b)
  have HI := Lib.hid (is_any 0 sRo2 ⟨by omega, by omega⟩ ek1.cu hk)
  unfold Rd at HI
  have p0 := cell_heap (ek1.box (z := w.heap.size) (o := sdb b) (by simp)) (i := 0)
  simp only [List.getElem?_toArray, List.getElem?_cons_zero] at p0
  have E1 := Lib.hid ek1
  have HK := Lib.hid (And.intro hk (And.intro hd hD))
  unfold prms arg
  cases hb : C.isb 0 sRo2 with
  | true =>
    rw [hb] at HI
    simp only [if_true]
    clear ek1 h hk hd hD hb
    go_enter Tryz.func121, Tryz.ntmps121
    go_wp2_with fail
    refine HI.out.mono ?_
    rintro e w2 ⟨rfl, hb2⟩
    have ek2 := E1.out.below hb2
    have HV := Lib.hid (ek2.list (r := (C, [])) (m := []) (RowN.nil w2) (fun k hk => by cases hk) (by simp) (by simp) rfl rfl)
    clear ek2 hb2
    go_wp2
    refine bodyPost_ret (v := .slice none 0 0) (by simp [results, Tryz.results121, go_sem]) rfl HV.out
  | false =>
    rw [hb] at HI
    simp only [Bool.false_eq_true, if_false]
    have hGG := Got.prm 0 C hk hd hD
    have HGG := Lib.hid hGG
    have hll : (prm C).1.left ≤ 4000 := by have := hGG.left; have := left_len hk; omega
    have HLL := Lib.hid hll
    generalize hres : agl prm (prm C).1.left ((prm C).1, [(prm C).2]) = res
    have HRES := Lib.hid hres
    clear ek1 h hk hd hD hb hGG hll hres
    go_enter Tryz.func121, Tryz.ntmps121
    go_wp2_with fail
    refine HI.out.mono ?_
    rintro e w2 ⟨rfl, hb2⟩
    have ek2 := E1.out.below hb2
    have HC := Lib.hid (param_any _ C ek2.cu HK.out.1 HK.out.2.1 HK.out.2.2)
    clear p0
    have p0 := cell_heap (ek2.box (z := w.heap.size) (o := sdb b) (by simp)) (i := 0)
    simp only [List.getElem?_toArray, List.getElem?_cons_zero] at p0
    have E2 := Lib.hid ek2
    clear ek2 hb2 E1 HI
    go_wp2_with fail
    refine HC.out.mono ?_
    rintro e w3 ⟨T, rfl, hp, hT, hm, ho⟩
    have ek3 := E2.out.got hT hm ⟨HGG.out.ok, HGG.out.L⟩ ho
    have ek4 := (ek3.alloc (.cells #[.int .i64 T.k, .string T.g, .string T.t, .int .i64 T.a, .slice T.A T.kids.length T.c] 30 (0, 0)))
    have hrow : RowN (w3.alloc (.cells #[.int .i64 T.k, .string T.g, .string T.t, .int .i64 T.a, .slice T.A T.kids.length T.c] 30 (0, 0))) (.slice (some ⟨w3.heap.size, 0, none⟩) 1 1) [T] := RowN.lit 1 rfl (by omega) _ rfl
    have hwx : w.heap.size < w3.heap.size := ek3.lt (z := w.heap.size) (o := sdb b) (by simp)
    have HI0 : Hid (PrI b A c w C res (prm C).1.left (prm C).1 [T] 1 (some ⟨w3.heap.size, 0, none⟩) 1 (w3.heap.size :: [w.heap.size]) (w3.alloc (.cells #[.int .i64 T.k, .string T.g, .string T.t, .int .i64 T.a, .slice T.A T.kids.length T.c] 30 (0, 0)))) := Lib.hid ⟨ek4.sub (by simp) (by simp), hrow, fun k hk => by have hk : some w3.heap.size = some k := hk; injection hk with hk; simp [hk], fun hk => by have hk : some w3.heap.size = some w.heap.size := hk; injection hk with hk; omega, rfl, Nat.le_refl _, by rw [← HRES.out]; simp only [List.map_cons, List.map_nil, hp], by have := HLL.out; omega, HGG.out.d⟩
    clear ek3 ek4 hrow hwx hT hm ho p0 HC E2 hp
    go_wp2
    go_loopw [3] (fun v wr => ∃ (q : Nat) (C' : Cu) (m : List Tr) (n : Nat) (Al : Option Addr) (cl : Nat) (zs : List Nat), v = .slice Al n cl ∧ Hid (PrI b A c w C res q C' m n Al cl zs wr)) (fun v _ => 8002 - vlen v)
    case atStart => exact ⟨_, _, _, _, _, _, _, rfl, HI0⟩
    case round =>
      obtain ⟨q, C', m, n, Al, cl, zs, rfl, HD⟩ := hrel
      clear HI0
      have ek := HD.out.ek
      have HI := Lib.hid (is_any 0 sComma ⟨by omega, by omega⟩ ek.cu ek.ok)
      unfold Rd at HI
      have p0 := cell_heap (ek.box (z := w.heap.size) (o := sdb b) (by simp)) (i := 0)
      simp only [List.getElem?_toArray, List.getElem?_cons_zero] at p0
      have E5 := Lib.hid ek
      have HR5 := Lib.hid HD.out.row
      clear ek
      have HN := Lib.hid HD.out.hn
      cases hb : C'.isb 0 sComma with
      | false =>
        rw [hb] at HI
        have hres : (C', m.map pl) = res := by
          rw [← HD.out.res]
          cases q with
          | zero => rfl
          | succ q => unfold agl; simp only; rw [hb]; rfl
        clear hb
        go_wp2_with fail
        refine HI.out.mono ?_
        rintro e w6 ⟨rfl, hb6⟩
        have ek6 := E5.out.below hb6
        have hrow6 := HR5.out.below hb6
        have hlo : ∀ k, (Value.slice Al n cl).ownBlock = some k → w.heap.size ≤ k := fun k hk => (ek6.zn k (HD.out.own k hk)).1
        have hmn := HN.out
        subst hmn
        have HV := Lib.hid (ek6.list (r := res) (m := m) hrow6 hlo (fun x hx => hx) (by have := HD.out.len; omega) (by rw [← hres]) (by rw [← hres]))
        clear ek6 hrow6 hlo hres hb6 E5 HR5 HD HI
        go_wp2
        refine bodyPost_ret (v := .slice Al m.length cl) (by simp [results, Tryz.results121, go_sem]) rfl HV.out
      | true =>
        rw [hb] at HI
        obtain ⟨hl1, hl2, hl3⟩ := Cu.isb_left hb
        obtain ⟨q, rfl⟩ : ∃ q', q = q' + 1 := ⟨q - 1, by have := HD.out.lf; omega⟩
        have hres := HD.out.res
        unfold agl at hres
        simp only [hb, if_true] at hres
        have HRES := Lib.hid hres
        have hGW := Got.wnt E5.out.ok sComma
        have hdd : (wnt sComma C').1.d = C.d := hGW.d.trans HD.out.d
        have hGE := Got.prm 0 _ hGW.ok (by rw [hdd]; exact HK.out.2.1) (Nat.zero_le _)
        have HFE := Lib.hid (fun (W : World) (hm : CuM b A c (wnt sComma C').1 W) => param_any W _ hm hGW.ok (by rw [hdd]; exact HK.out.2.1) (Nat.zero_le _))
        have hgl := hGE.left
        have hlf := HD.out.lf
        have hln := HD.out.len
        have HNM : Hid ((prm (wnt sComma C').1).1.left ≤ q ∧ n + 2 + 2 * (prm (wnt sComma C').1).1.left ≤ 8001 ∧ (prm (wnt sComma C').1).1.d = C.d ∧ n + 2 ≤ 8001) := Lib.hid ⟨by omega, by omega, by rw [hGE.d, hdd], by omega⟩
        have HGW := Lib.hid hGW
        have HGE := Lib.hid hGE
        have HOWN := Lib.hid (And.intro HD.out.own HD.out.ne)
        have hob : (Value.slice Al n cl).ownBlock ≠ some b := fun e => by
          have := (E5.out.zn b (HD.out.own b e)).1
          have := E5.out.hX b rfl
          omega
        have HOB := Lib.hid hob
        clear hb hl1 hl2 hl3 hres hGW hdd hGE hgl hlf hln HD hob
        go_wp2_with fail
        refine HI.out.mono ?_
        rintro e w6 ⟨rfl, hb6⟩
        have ek6 := (E5.out.below hb6).drew
        have hrow6 : RowN w6.drew (.slice Al n cl) m := show RowN w6 (.slice Al n cl) m from HR5.out.below hb6
        have HW := Lib.hid (wnt_any sComma ek6.cu ek6.ok)
        have E6 := Lib.hid ek6
        have HR6 := Lib.hid hrow6
        clear p0 ek6 hrow6 hb6 HI E5 HR5
        go_wp2
        refine wp_region_noPanic (wp_region_held (S := fun W' : World => W'.heap[w.heap.size]? = some (sdb b) ∧ True) (by kernel_rfl) ?_)
        show wpAnyH _ _ _ _ _ _ _ _ w6.drew
        generalize w6.drew = w7 at HW E6 HR6 ⊢
        have hS0 : w7.heap[w.heap.size]? = some (sdb b) ∧ True := ⟨E6.out.box (z := w.heap.size) (o := sdb b) (by simp), trivial⟩
        refine wpAnyH_take_d (i := 0) (v := .slice Al n cl) 13 rfl rfl (by kernel_rfl) (by kernel_rfl) (by kernel_rfl) (fun _ _ _ h => h) (Or.inl ⟨by kernel_rfl, fun w' hS' => ?y0⟩) hS0 ?_
        case y0 => (skip; clear hS'; go_simp)
        simp only [Act.put, List.setIfInBounds_toArray, List.set_cons_zero, List.set_cons_succ]
        refine wpAnyH_take_d (i := 1) (v := .pointer (some ⟨w.heap.size, 0, none⟩)) 14 rfl rfl (by kernel_rfl) (by kernel_rfl) (by kernel_rfl) (fun _ _ _ h => h) (Or.inl ⟨by kernel_rfl, fun w' hS' => ?y1⟩) hS0 ?_
        case y1 => (skip; clear hS'; go_simp)
        simp only [Act.put, List.setIfInBounds_toArray, List.set_cons_zero, List.set_cons_succ]
        refine wpAnyH_take_d (i := 2) (v := .pointer (some ⟨b, 0, none⟩)) 15 rfl rfl (by kernel_rfl) (by kernel_rfl) (by kernel_rfl) (fun _ _ _ h => h) (Or.inl ⟨by kernel_rfl, fun w' hS' => ?y2⟩) hS0 ?_
        case y2 => (have s0 := cell_heap hS'.1 (i := 0); simp only [List.getElem?_toArray, List.getElem?_cons_zero] at s0; clear hS'; go_simp)
        simp only [Act.put, List.setIfInBounds_toArray, List.set_cons_zero, List.set_cons_succ]
        refine wpAnyH_take_d (i := 4) (v := rcv b) 17 rfl rfl (by kernel_rfl) (by kernel_rfl) (by kernel_rfl) (fun _ _ _ h => h) (Or.inl ⟨by kernel_rfl, fun w' hS' => ?y4⟩) hS0 ?_
        case y4 => (have s0 := cell_heap hS'.1 (i := 0); simp only [List.getElem?_toArray, List.getElem?_cons_zero] at s0; clear hS'; go_simp)
        simp only [Act.put, List.setIfInBounds_toArray, List.set_cons_zero, List.set_cons_succ]
        refine wpAnyH_ready (rs := [3]) (by kernel_rfl) (by simp) ?_
        refine AllReadyH.cons rfl (fun K hK => ?_) AllReadyH.nil
        go_simp
        refine (HW.out).mono ?_
        rintro e w8 ⟨SG, rfl, hp1, hT1, hm1, ho1⟩
        have ek_ := E6.out.got hT1 hm1 ⟨HGW.out.ok, HGW.out.L⟩ ho1
        have hS3 : w8.heap[w.heap.size]? = some (sdb b) ∧ True := ⟨ek_.box (z := w.heap.size) (o := sdb b) (by simp), trivial⟩
        have E8 := Lib.hid ek_
        clear ek_
        have hrow8 := HR6.out.of ho1 HOB.out
        have HR8 := Lib.hid hrow8
        have HC := Lib.hid (HFE.out _ E8.out.cu)
        clear hT1 hm1 ho1 hrow8 E6 HR6 HW HFE
        refine hK.out _ _ hS3 (fun _ => ?_)
        clear hK K
        try simp only [Act.put, List.setIfInBounds_toArray, List.set_cons_zero, List.set_cons_succ]
        refine wpAnyH_ready (rs := [5]) (by kernel_rfl) (by simp) ?_
        refine AllReadyH.cons rfl (fun K hK => ?_) AllReadyH.nil
        go_simp
        refine (HC.out).mono ?_
        rintro e w10 ⟨U, rfl, hp2, hT2, hm2, ho2⟩
        have ek_ := E8.out.got hT2 hm2 ⟨HGE.out.ok, HGE.out.L⟩ ho2
        have hS5 : w10.heap[w.heap.size]? = some (sdb b) ∧ True := ⟨ek_.box (z := w.heap.size) (o := sdb b) (by simp), trivial⟩
        have E10 := Lib.hid ek_
        clear ek_
        have hrow10 := HR8.out.of ho2 HOB.out
        have HR10 := Lib.hid hrow10
        clear hT2 hm2 ho2 hrow10 E8 HR8 HC
        refine hK.out _ _ hS5 (fun _ => ?_)
        clear hK K
        try simp only [Act.put, List.setIfInBounds_toArray, List.set_cons_zero, List.set_cons_succ]
        refine wpAnyH_ready (rs := [6]) (by kernel_rfl) (by simp) ?_
        refine AllReadyH.cons rfl (fun K hK => ?_) AllReadyH.nil
        have ek_ := E10.out.rowOf 0 2 (l := [SG, U]) rfl (by simp) (.cells #[.int .i64 SG.k, .string SG.g, .string SG.t, .int .i64 SG.a, .slice SG.A SG.kids.length SG.c, .int .i64 U.k, .string U.g, .string U.t, .int .i64 U.a, .slice U.A U.kids.length U.c] 30 (0, 0)) 30 rfl
        have hrow11 := HR10.out.below (below1 w10 (.cells #[.int .i64 SG.k, .string SG.g, .string SG.t, .int .i64 SG.a, .slice SG.A SG.kids.length SG.c, .int .i64 U.k, .string U.g, .string U.t, .int .i64 U.a, .slice U.A U.kids.length U.c] 30 (0, 0)))
        go_simp
        have hlies := (tn_iff.1 (ek_.tn ⟨0, ⟨#[]⟩, ⟨#[]⟩, 0, some ⟨w10.heap.size, 0, none⟩, 2, [SG, U]⟩ (by simp))).2.1
        generalize w10.alloc (.cells #[.int .i64 SG.k, .string SG.g, .string SG.t, .int .i64 SG.a, .slice SG.A SG.kids.length SG.c, .int .i64 U.k, .string U.g, .string U.t, .int .i64 U.a, .slice U.A U.kids.length U.c] 30 (0, 0)) = w11 at ek_ hrow11 hlies ⊢
        generalize w10.heap.size = y at ek_ hlies ⊢
        have hS6 : w11.heap[w.heap.size]? = some (sdb b) ∧ True := ⟨ek_.box (z := w.heap.size) (o := sdb b) (by simp), trivial⟩
        have E11 := Lib.hid ek_
        have HR11 := Lib.hid hrow11
        have HL11 : Hid (∀ (i : Nat) (e : Tr), [SG, U][i]? = some e → At5 w11 y (0 + i * 5) e) := Lib.hid (by
          obtain ⟨b', off', e, -, hc⟩ := hlies (by simp)
          injection e with e
          injection e with e1 e2
          subst e1 e2
          exact hc)
        clear ek_ hrow11 hlies E10 HR10
        refine hK.out _ _ hS6 (fun _ => ?_)
        clear hK K
        try simp only [Act.put, List.setIfInBounds_toArray, List.set_cons_zero, List.set_cons_succ]
        refine wpAnyH_ready (rs := [7]) (by kernel_rfl) (by simp) ?_
        refine AllReadyH.cons rfl (fun K hK => ?_) AllReadyH.nil
        refine step_append_n (by rfl) (.tmp 13) (.tmp 19) (by rfl) w11 (.slice Al n cl) m [SG, U] 2 y 0 2 rfl (by rfl) (by rfl) HL11.out HR11.out (by have := HNM.out.2.2.2; have := HN.out; simp; omega) ?_
        intro A3 c3 w12 hrow12 hg12 hat12
        show K (Act.put _ (some 20) (.slice A3 (m ++ [SG, U]).length c3)) _
        have ek11 := E11.out.sub (bs' := [(w.heap.size, sdb b)]) (ts' := m ++ [SG, U]) (by simp) (by simp only [List.mem_append, List.mem_cons, List.not_mem_nil, or_false]; rintro T (h | h | h) <;> simp [h])
        obtain ⟨zs12, ek12, hz12, ho12, hn12⟩ := ek11.grows hg12 (own' := (Value.slice A3 (m ++ [SG, U]).length c3).ownBlock) (fun k hk => .inl (by simp [HOWN.out.1 k hk])) (by
          simp only [List.mem_cons, List.not_mem_nil, or_false]
          rintro q rfl
          exact HOWN.out.2) hat12 hrow12.lt
        have hS7 : w12.heap[w.heap.size]? = some (sdb b) ∧ True := ⟨ek12.box (z := w.heap.size) (o := sdb b) (by simp), trivial⟩
        have hl12 : (m ++ [SG, U]).length = n + 2 := by rw [List.length_append, HN.out]; rfl
        have hp12 : (m ++ [SG, U]).map pl = m.map pl ++ [(wnt sComma C').2, (prm (wnt sComma C').1).2] := by simp only [List.map_append, List.map_cons, List.map_nil, hp1, hp2]
        rw [hl12] at hrow12 ho12 hn12
        rw [hl12]
        generalize m ++ [SG, U] = m12 at ek12 hrow12 hl12 hp12 ho12 hn12 ⊢
        have E12 := Lib.hid ek12
        have HR12 := Lib.hid hrow12
        have HO12 := Lib.hid (And.intro ho12 (And.intro hn12 (And.intro hl12 hp12)))
        clear ek11 ek12 hrow12 hg12 hat12 hz12 ho12 hn12 hl12 hp12 E11 HR11 HL11
        refine hK.out _ _ hS7 (fun _ => ?_)
        clear hK K
        try simp only [Act.put, List.setIfInBounds_toArray, List.set_cons_zero, List.set_cons_succ]
        refine wpAnyH_take_d (i := 8) (v := .slice A3 (n + 2) c3) 3 rfl rfl (by kernel_rfl) (by kernel_rfl) (by kernel_rfl) (fun _ _ _ h => h) (Or.inl ⟨by kernel_rfl, fun w' hS' => ?y8⟩) hS7 ?_
        case y8 => (skip; clear hS'; go_simp)
        simp only [Act.put, List.setIfInBounds_toArray, List.set_cons_zero, List.set_cons_succ]
        refine wpAnyH_done (by kernel_rfl) ?_ _
        refine NoPanic.normal ?_
        clear hS0 hS3 hS5 hS6 hS7
        go_wp2
        go_roundw
        case rel =>
          refine ⟨q, (prm (wnt sComma C').1).1, m12, n + 2, A3, c3, zs12, rfl, Lib.hid ⟨E12.out.sub (by simp) (by simp), HR12.out, fun k hk => ?_, HO12.out.2.1 (w.heap.size, sdb b) (by simp), HO12.out.2.2.1, HNM.out.1, by rw [HO12.out.2.2.2]; exact HRES.out, HNM.out.2.1, HNM.out.2.2.1⟩⟩
          rcases HO12.out.1 k hk with h1 | ⟨h1, h2⟩
          · exact h1
          · exact absurd h1 h2
        case measure =>
          have := HNM.out.2.2.2
          simp [vlen]
          omega
set_option maxRecDepth 100000 in
set_option maxHeartbeats 8000000 in
theorem super_any : WhatF 87 b A c sup 0 := by
  intro w C h hk hd hD
  have ek1 := (EK.begin h hk).alloc (sdb b)
  have HI := Lib.hid (is_any 0 sExt ⟨by omega, by omega⟩ ek1.cu hk)
  unfold Rd at HI
  have p0 := cell_heap (ek1.box (z := w.heap.size) (o := sdb b) (by simp)) (i := 0)
  simp only [List.getElem?_toArray, List.getElem?_cons_zero] at p0
  have E1 := Lib.hid ek1
  have HK := Lib.hid (And.intro hk hd)
  unfold sup
  cases hb : C.isb 0 sExt with
  | false =>
    rw [hb] at HI
    simp only [Bool.false_eq_true, if_false]
    clear ek1 h hk hd hD hb
    go_enter Tryz.func87, Tryz.ntmps87
    go_wp2_with fail
    refine HI.out.mono ?_
    rintro e w2 ⟨rfl, hb2⟩
    have ek2 := E1.out.below hb2
    have HV := Lib.hid (ek2.list (r := (C, [])) (m := []) (RowN.nil w2) (fun k hk => by cases hk) (by simp) (by simp) rfl rfl)
    clear ek2 hb2
    go_wp2
    refine bodyPost_ret (v := .slice none 0 0) (by simp [results, Tryz.results87, go_sem]) rfl HV.out
  | true =>
    rw [hb] at HI
    simp only [if_true]
    obtain ⟨R1, hR1⟩ : ∃ R1, tkq [sExt] C = R1 := ⟨_, rfl⟩
    obtain ⟨R2, hR2⟩ : ∃ R2, nam R1.1 = R2 := ⟨_, rfl⟩
    have hres : sq [tkq [sExt], nam] C = (R2.1, R1.2 ++ R2.2) := by simp only [sq, hR1, hR2, List.append_nil]
    rw [hres]
    have hG1 : Got C R1.1 R1.2 1 := by rw [← hR1]; exact Got.tkq [sExt] 0 C hk hd (Nat.zero_le _)
    have hG2 : Got R1.1 R2.1 R2.2 1 := by rw [← hR2]; exact Got.nam 0 R1.1 hG1.ok (by rw [hG1.d]; exact hd) (Nat.zero_le _)
    have hln : R2.2.length = 1 := by rw [← hR2]; rfl
    have HNA := Lib.hid (fun (W : World) (hm : CuM b A c R1.1 W) => by have := dname_any W R1.1 hm hG1.ok (by rw [hG1.d]; exact hd) (Nat.zero_le _); rwa [hR2] at this)
    have HTK := Lib.hid (fun (W : World) (hm : CuM b A c C W) (hgb : W.heap.size ≠ b) => by have := tokensW_any (b := b) (A := A) (c := c) [sExt] 1 rfl (by omega) W.heap.size 0 (rowO [sExt]) (W.alloc (rowO [sExt])) C hgb (heap_alloc_new W (rowO [sExt])) (fun W' h' => ss_row W' _ [sExt] 9 _ rfl h') (hm.below (below1 W (rowO [sExt]))) hk; rwa [hR1] at this)
    have HG := Lib.hid (And.intro hG1 (And.intro hG2 hln))
    have HTL : Hid (R1.2.length ≤ 1) := Lib.hid (by rw [← hR1]; exact Nat.le_refl 1)
    clear ek1 h hk hd hD hb hres hG1 hG2 hln hR1 hR2
    obtain ⟨C1, L1⟩ := R1
    obtain ⟨C2, L2⟩ := R2
    simp only at HNA HTK HG HTL ⊢
    go_enter Tryz.func87, Tryz.ntmps87
    go_wp2_with fail
    refine HI.out.mono ?_
    rintro e w2 ⟨rfl, hb2⟩
    have E2 := Lib.hid (E1.out.below hb2).drew
    clear hb2 p0 HI E1
    go_wp2
    rename_i K0 hK0
    refine wp_region_noPanic (wp_region_held (S := fun W' : World => W'.heap[w.heap.size]? = some (sdb b) ∧ True) (by kernel_rfl) ?_)
    show wpAnyH _ _ _ _ _ _ _ _ w2.drew
    generalize w2.drew = w3 at E2 ⊢
    have hS0 : w3.heap[w.heap.size]? = some (sdb b) ∧ True := ⟨E2.out.box (z := w.heap.size) (o := sdb b) (by simp), trivial⟩
    refine wpAnyH_take_d (i := 0) (v := rcv b) 7 rfl rfl (by kernel_rfl) (by kernel_rfl) (by kernel_rfl) (fun _ _ _ h => h) (Or.inl ⟨by kernel_rfl, fun w' hS' => ?y0⟩) hS0 ?_
    case y0 => (have s0 := cell_heap hS'.1 (i := 0); simp only [List.getElem?_toArray, List.getElem?_cons_zero] at s0; clear hS'; go_simp)
    simp only [Act.put, List.setIfInBounds_toArray, List.set_cons_zero, List.set_cons_succ]
    refine wpAnyH_take_d (i := 3) (v := rcv b) 10 rfl rfl (by kernel_rfl) (by kernel_rfl) (by kernel_rfl) (fun _ _ _ h => h) (Or.inl ⟨by kernel_rfl, fun w' hS' => ?y3⟩) hS0 ?_
    case y3 => (have s0 := cell_heap hS'.1 (i := 0); simp only [List.getElem?_toArray, List.getElem?_cons_zero] at s0; clear hS'; go_simp)
    simp only [Act.put, List.setIfInBounds_toArray, List.set_cons_zero, List.set_cons_succ]
    refine wpAnyH_ready (rs := [1]) (by kernel_rfl) (by simp) ?_
    refine AllReadyH.cons rfl (fun K hK => ?_) AllReadyH.nil
    have ek_ := E2.out.below (below1 w3 (rowO [sExt]))
    have HT := Lib.hid (HTK.out w3 E2.out.cu (by have := E2.out.cu.lt; omega))
    go_simp
    have hS1 : (w3.alloc (rowO [sExt])).heap[w.heap.size]? = some (sdb b) ∧ True := ⟨ek_.box (z := w.heap.size) (o := sdb b) (by simp), trivial⟩
    have E3 := Lib.hid ek_
    clear ek_ E2 HTK
    refine hK.out _ _ hS1 (fun _ => ?_)
    clear hK K
    try simp only [Act.put, List.setIfInBounds_toArray, List.set_cons_zero, List.set_cons_succ]
    refine wpAnyH_ready (rs := [2]) (by kernel_rfl) (by simp) ?_
    refine AllReadyH.cons rfl (fun K hK => ?_) AllReadyH.nil
    go_simp
    refine HT.out.mono ?_
    rintro e w4 ⟨Al, cl, m, rfl, hp, hnil, hTk, hT, h9, hm, ho, hrow, hown, hout⟩
    obtain ⟨zs4, ek_, -, hoz⟩ := E3.out.gotw2 hrow hown hout hm ⟨HG.out.1.ok, HG.out.1.L⟩ ho
    have hS2 : w4.heap[w.heap.size]? = some (sdb b) ∧ True := ⟨ek_.box (z := w.heap.size) (o := sdb b) (by simp), trivial⟩
    have E4 := Lib.hid ek_
    have HR4 := Lib.hid (And.intro hrow hoz)
    have HML : Hid (m.length ≤ 1) := Lib.hid (by rw [← List.length_map (f := pl), hp]; exact HTL.out)
    have HNB : Hid ((Value.slice Al m.length cl).ownBlock ≠ some w.heap.size) := Lib.hid fun e => by have := hown _ e; have := E3.out.lt (z := w.heap.size) (o := sdb b) (by simp); omega
    have HP := Lib.hid (And.intro hp h9)
    have HN := Lib.hid (HNA.out w4 E4.out.cu)
    clear ek_ hrow hown hout hm ho hoz hp hnil hTk hT h9 HT E3 HNA
    refine hK.out _ _ hS2 (fun _ => ?_)
    clear hK K
    try simp only [Act.put, List.setIfInBounds_toArray, List.set_cons_zero, List.set_cons_succ]
    refine wpAnyH_ready (rs := [4]) (by kernel_rfl) (by simp) ?_
    refine AllReadyH.cons rfl (fun K hK => ?_) AllReadyH.nil
    go_simp
    refine HN.out.mono ?_
    rintro e w5 ⟨Al2, cl2, m2, rfl, hp2, hnil2, hTk2, hT2, h92, hm2, ho2⟩
    have hob : (Value.slice Al m.length cl).ownBlock ≠ some b := fun e => by
      have := (E4.out.zn b (HR4.out.2 b e)).1
      have := E4.out.hX b rfl
      omega
    have hl2 : m2.length = 1 := by rw [← List.length_map (f := pl), hp2]; exact HG.out.2.2
    obtain ⟨g2, off2, rfl, hg2, hc2⟩ := hTk2 (by omega)
    have ek_ := (E4.out.gotl (cl := cl2) hTk2 hT2 hm2 ⟨HG.out.2.1.ok, HG.out.2.1.L⟩ ho2).bkid (Al := some ⟨g2, off2, none⟩) (cl := cl2) (m := m2) (by simp)
    have hS4 : w5.heap[w.heap.size]? = some (sdb b) ∧ True := ⟨ek_.box (z := w.heap.size) (o := sdb b) (by simp), trivial⟩
    have E5 := Lib.hid ek_
    have HR5 := Lib.hid (And.intro (HR4.out.1.of ho2 hob) hc2)
    have HP2 := Lib.hid (And.intro hp2 hl2)
    clear ek_ hob hl2 hTk2 hT2 hm2 ho2 hp2 hnil2 h92 hg2 hc2 HN E4
    refine hK.out _ _ hS4 (fun _ => ?_)
    clear hK K
    try simp only [Act.put, List.setIfInBounds_toArray, List.set_cons_zero, List.set_cons_succ]
    refine wpAnyH_ready (rs := [5]) (by kernel_rfl) (by simp) ?_
    refine AllReadyH.cons rfl (fun K hK => ?_) AllReadyH.nil
    refine step_append_n (by rfl) (.tmp 9) (.tmp 11) (by rfl) w5 (.slice Al m.length cl) m m2 m2.length g2 off2 cl2 rfl (by rfl) (by rfl) HR5.out.2 HR5.out.1 (by have := HP.out.2; have := HP2.out.2; omega) ?_
    intro A3 c3 w6 hrow6 hg6 hat6
    show K (Act.put _ (some 12) (.slice A3 (m ++ m2).length c3)) _
    have ek5 := E5.out.sub (bs' := [(w.heap.size, sdb b)]) (ts' := m ++ m2) (by simp) (by simp only [List.mem_append, List.mem_cons, List.not_mem_nil, or_false]; rintro T (h | h) <;> simp [h])
    have hnb : ∀ q ∈ [(w.heap.size, sdb b)], (Value.slice Al m.length cl).ownBlock ≠ some q.1 := by
      simp only [List.mem_cons, List.not_mem_nil, or_false]
      rintro q rfl e
      exact HNB.out e
    obtain ⟨zs6, ek6, hz6, ho6, hn6⟩ := ek5.grows hg6 (own' := (Value.slice A3 (m ++ m2).length c3).ownBlock) (fun k hk => .inl (HR4.out.2 k hk)) hnb hat6 hrow6.lt
    have hS5 : w6.heap[w.heap.size]? = some (sdb b) ∧ True := ⟨ek6.box (z := w.heap.size) (o := sdb b) (by simp), trivial⟩
    have hmm : (m ++ m2).map pl = L1 ++ L2 := by rw [List.map_append, HP.out.1, HP2.out.1]
    have hlen : (m ++ m2).length ≤ 9000 := by rw [List.length_append]; have := HP2.out.2; have := HML.out; omega
    have HV := Lib.hid (ek6.list (r := (C2, L1 ++ L2)) (m := m ++ m2) hrow6 (fun k hk => (ek6.zn k ((ho6 k hk).resolve_right fun hh => hh.2 hh.1)).1) (fun x hx => hx) hlen rfl hmm)
    clear ek5 ek6 hrow6 hg6 hat6 hnb hz6 ho6 hn6 hmm hlen E5 HR5
    refine hK.out _ _ hS5 (fun _ => ?_)
    clear hK K
    try simp only [Act.put, List.setIfInBounds_toArray, List.set_cons_zero, List.set_cons_succ]
    refine wpAnyH_take_d (i := 6) (v := .slice A3 (m ++ m2).length c3) 2 rfl rfl (by kernel_rfl) (by kernel_rfl) (by kernel_rfl) (fun _ _ _ h => h) (Or.inl ⟨by kernel_rfl, fun w' hS' => ?y6⟩) hS5 ?_
    case y6 => (skip; clear hS'; go_simp)
    simp only [Act.put, List.setIfInBounds_toArray, List.set_cons_zero, List.set_cons_succ]
    refine wpAnyH_done (by kernel_rfl) ?_ _
    refine hK0 _ _ ?_
    clear hK0 hS0 hS1 hS2 hS4 hS5
    go_wp2
    refine bodyPost_ret (v := .slice A3 (m ++ m2).length c3) (by simp [results, Tryz.results87, go_sem]) rfl HV.out
end
end Dc
end Go.Proofs.YtfmlcddakfbleaaGreatDoor

namespace Go.Proofs.YtfmlcddakfbleaaGreatDoor
namespace Dc
open Go.RowKit SignMath TreeMath

/-- ahead of each round -/
structure LsI (b : Nat) (A : Option Addr) (c : Nat) (w : World) (bg : Cu → Bool) (f : Cu → Cu × Tr) (C : Cu) (res : Cu × List Tr) (q : Nat) (C' : Cu) (m : List Tr) (n : Nat) (Al : Option Addr) (cl : Nat) (zs : List Nat) (W : World) : Prop where
  ek : EK b A c no (· = b) w C' [(w.heap.size, sdb b)] zs m W
  row : RowN W (.slice Al n cl) m
  own : ∀ k, (Value.slice Al n cl).ownBlock = some k → k ∈ zs
  ne : ∀ k ∈ [(w.heap.size, sdb b)], (Value.slice Al n cl).ownBlock ≠ some k.1
  hn : m.length = n
  lf : C'.left ≤ q
  res : lst bg f q (C', m.map pl) = res
  len : n + C'.left ≤ 4000
  d : C'.d = C.d
section
variable {b : Nat} {A : Option Addr} {c : Nat}
set_option maxRecDepth 100000 in
set_option maxHeartbeats 16000000 in
theorem fields_any : WhatF 88 b A c flds 0 := by
  intro w C h hk hd hD
  have ek1 := (EK.begin h hk).alloc (sdb b)
  have hll := left_len hk
  generalize hres : flds C = res
  have HI0 : Hid (LsI b A c w fbg fld C res C.left C [] 0 none 0 [w.heap.size] (w.alloc (sdb b))) := Lib.hid ⟨ek1.sub (by simp) (by simp), RowN.nil _, fun q hq => (by cases hq), fun q _ e => (by cases e), rfl, Nat.le_refl _, hres, by omega, rfl⟩
  have HK := Lib.hid (And.intro hd hD)
  clear ek1 h hk hd hD hll hres
  go_enter Tryz.func88, Tryz.ntmps88
  go_wp2
  go_loopw [3] (fun v wr => ∃ (q : Nat) (C' : Cu) (m : List Tr) (n : Nat) (Al : Option Addr) (cl : Nat) (zs : List Nat), v = .slice Al n cl ∧ Hid (LsI b A c w fbg fld C res q C' m n Al cl zs wr)) (fun v _ => 4001 - vlen v)
  case atStart => exact ⟨_, _, _, _, _, _, _, rfl, HI0⟩
  case round =>
    obtain ⟨q, C', m, n, Al, cl, zs, rfl, HD⟩ := hrel
    clear HI0
    have E := Lib.hid HD.out.ek
    have HR := Lib.hid HD.out.row
    have HL := Lib.hid (left_any E.out.cu E.out.ok)
    unfold Rd at HL
    have hlc := left_len HD.out.ek.ok
    by_cases hlf : C'.left = 0
    · rw [hlf] at HL
      have hbg : fbg C' = false := by unfold fbg; rw [hlf]; rfl
      have hres := HD.out.res
      rw [lst_no (by exact hbg)] at hres
      have HRES := Lib.hid hres
      clear hbg hres
      have p0 := cell_heap (E.out.box (z := w.heap.size) (o := sdb b) (by simp)) (i := 0)
      simp only [List.getElem?_toArray, List.getElem?_cons_zero] at p0
      go_wp2_with fail
      refine HL.out.mono ?_
      rintro e v1 ⟨rfl, hb⟩
      have E1 := Lib.hid (E.out.below hb)
      have HR1 := Lib.hid (HR.out.below hb)
      clear hb HL E HR p0
      clear hlf hlc
      have hmn := HD.out.hn
      subst hmn
      have HV := Lib.hid (E1.out.listw (r := res) (m := m) HR1.out HD.out.own (fun x hx => hx) (by have := HD.out.len; omega) (by rw [← HRES.out]) (by rw [← HRES.out]))
      clear E1 HR1 HD HRES
      go_wp2
      refine bodyPost_ret (v := .slice Al m.length cl) (by simp [results, Tryz.results88, go_sem]) rfl HV.out.v
    · have z1 : (0 : Int) < (C'.left : Nat) := by omega
      have z2 : ((C'.left : Nat) : Int) ≤ 4000 := by omega
      obtain ⟨lf, hl2⟩ : ∃ lf, C'.left = lf := ⟨_, rfl⟩
      rw [hl2] at HL z1 z2
      have HLL := Lib.hid hlf
      clear hl2 hlc hlf
      cases h1 : C'.isb 0 sPub with
      | true =>
        have hbg : fbg C' = false := by unfold fbg; rw [h1]; simp
        have hres := HD.out.res
        rw [lst_no (by exact hbg)] at hres
        have HRES := Lib.hid hres
        clear hbg hres
        have p0 := cell_heap (E.out.box (z := w.heap.size) (o := sdb b) (by simp)) (i := 0)
        simp only [List.getElem?_toArray, List.getElem?_cons_zero] at p0
        go_wp2_with fail
        refine HL.out.mono ?_
        rintro e v1 ⟨rfl, hb⟩
        have E1 := Lib.hid (E.out.below hb)
        have HR1 := Lib.hid (HR.out.below hb)
        clear hb HL E HR p0
        have p0 := cell_heap (E1.out.box (z := w.heap.size) (o := sdb b) (by simp)) (i := 0)
        simp only [List.getElem?_toArray, List.getElem?_cons_zero] at p0
        have HC := Lib.hid (is_any 0 sPub ⟨by omega, by omega⟩ E1.out.cu E1.out.ok)
        rw [h1] at HC
        unfold Rd at HC
        go_wp2_with fail
        refine HC.out.mono ?_
        rintro e v2 ⟨rfl, hb⟩
        have E2 := Lib.hid (E1.out.below hb)
        have HR2 := Lib.hid (HR1.out.below hb)
        clear hb HC E1 HR1 p0
        clear h1
        have hmn := HD.out.hn
        subst hmn
        have HV := Lib.hid (E2.out.listw (r := res) (m := m) HR2.out HD.out.own (fun x hx => hx) (by have := HD.out.len; omega) (by rw [← HRES.out]) (by rw [← HRES.out]))
        clear E2 HR2 HD HRES
        go_wp2
        refine bodyPost_ret (v := .slice Al m.length cl) (by simp [results, Tryz.results88, go_sem]) rfl HV.out.v
      | false =>
        cases h2 : C'.isb 0 sBrC with
        | true =>
          have hbg : fbg C' = false := by unfold fbg; rw [h1, h2]; simp
          have hres := HD.out.res
          rw [lst_no (by exact hbg)] at hres
          have HRES := Lib.hid hres
          clear hbg hres
          have p0 := cell_heap (E.out.box (z := w.heap.size) (o := sdb b) (by simp)) (i := 0)
          simp only [List.getElem?_toArray, List.getElem?_cons_zero] at p0
          go_wp2_with fail
          refine HL.out.mono ?_
          rintro e v1 ⟨rfl, hb⟩
          have E1 := Lib.hid (E.out.below hb)
          have HR1 := Lib.hid (HR.out.below hb)
          clear hb HL E HR p0
          have p0 := cell_heap (E1.out.box (z := w.heap.size) (o := sdb b) (by simp)) (i := 0)
          simp only [List.getElem?_toArray, List.getElem?_cons_zero] at p0
          have HC := Lib.hid (is_any 0 sPub ⟨by omega, by omega⟩ E1.out.cu E1.out.ok)
          rw [h1] at HC
          unfold Rd at HC
          go_wp2_with fail
          refine HC.out.mono ?_
          rintro e v2 ⟨rfl, hb⟩
          have E2 := Lib.hid (E1.out.below hb)
          have HR2 := Lib.hid (HR1.out.below hb)
          clear hb HC E1 HR1 p0
          have p0 := cell_heap (E2.out.box (z := w.heap.size) (o := sdb b) (by simp)) (i := 0)
          simp only [List.getElem?_toArray, List.getElem?_cons_zero] at p0
          have HC := Lib.hid (is_any 0 sBrC ⟨by omega, by omega⟩ E2.out.cu E2.out.ok)
          rw [h2] at HC
          unfold Rd at HC
          go_wp2_with fail
          refine HC.out.mono ?_
          rintro e v3 ⟨rfl, hb⟩
          have E3 := Lib.hid (E2.out.below hb)
          have HR3 := Lib.hid (HR2.out.below hb)
          clear hb HC E2 HR2 p0
          clear h1 h2
          have hmn := HD.out.hn
          subst hmn
          have HV := Lib.hid (E3.out.listw (r := res) (m := m) HR3.out HD.out.own (fun x hx => hx) (by have := HD.out.len; omega) (by rw [← HRES.out]) (by rw [← HRES.out]))
          clear E3 HR3 HD HRES
          go_wp2
          refine bodyPost_ret (v := .slice Al m.length cl) (by simp [results, Tryz.results88, go_sem]) rfl HV.out.v
        | false =>
          have hbg : fbg C' = true := by unfold fbg; rw [h1, h2, decide_eq_true (show 0 < C'.left from Nat.pos_of_ne_zero HLL.out)]; rfl
          have hko := HD.out.ek.ok
          have hd2 : C'.d ≤ 200 := by rw [HD.out.d]; exact HK.out.1
          have hlt := fld_left hko hd2 hbg
          have hgf := Got.fld 0 C' hko hd2 (Nat.zero_le _)
          obtain ⟨q, rfl⟩ : ∃ q', q = q' + 1 := ⟨q - 1, by have := HD.out.lf; omega⟩
          have hres := HD.out.res
          rw [lst_go (by exact hbg)] at hres
          have hq := HD.out.lf
          have hl := HD.out.len
          obtain ⟨R1, hR1⟩ : ∃ R1, tyq C' = R1 := ⟨_, rfl⟩
          obtain ⟨R2, hR2⟩ : ∃ R2, nam R1.1 = R2 := ⟨_, rfl⟩
          obtain ⟨R3, hR3⟩ : ∃ R3, tkq [sSemi] R2.1 = R3 := ⟨_, rfl⟩
          have hfl : fld C' = (R3.1, nod 5 (R1.2 ++ (R2.2 ++ (R3.2 ++ [])))) := by unfold fld ndq; simp only [sq, hR1, hR2, hR3]
          rw [hfl] at hres
          have hlt : R3.1.left < C'.left := by rw [hfl] at hlt; exact hlt
          have hgfd : R3.1.d = C'.d := by rw [hfl] at hgf; exact hgf.d
          have hG1 : Got C' R1.1 R1.2 0 := by rw [← hR1]; exact Got.tyq 0 C' hko hd2 (Nat.zero_le _)
          have hd3 : R1.1.d ≤ 200 := by rw [hG1.d]; exact hd2
          have hG2 : Got R1.1 R2.1 R2.2 1 := by rw [← hR2]; exact Got.nam 0 R1.1 hG1.ok hd3 (Nat.zero_le _)
          have hd4 : R2.1.d ≤ 200 := by rw [hG2.d]; exact hd3
          have hG3 : Got R2.1 R3.1 R3.2 1 := by rw [← hR3]; exact Got.tkq [sSemi] 0 R2.1 hG2.ok hd4 (Nat.zero_le _)
          have hl1 : R1.2.length = 1 := by rw [← hR1]; rfl
          have hl2 : R2.2.length = 1 := by rw [← hR2]; rfl
          have hl3 : R3.2.length = 1 := by rw [← hR3]; rfl
          have HTY := Lib.hid (fun (W : World) (hm : CuM b A c C' W) => by have := dtyped_any W C' hm hko hd2 (Nat.zero_le _); rwa [hR1] at this)
          have HNA := Lib.hid (fun (W : World) (hm : CuM b A c R1.1 W) => by have := dname_any W R1.1 hm hG1.ok hd3 (Nat.zero_le _); rwa [hR2] at this)
          have HTK := Lib.hid (fun (W : World) (g : Nat) (hm : CuM b A c R2.1 W) (hgb : g ≠ b) (hg : W.heap[g]? = some (rowO [sSemi])) => by have := tokens_any (b := b) (A := A) (c := c) [sSemi] 1 rfl (by omega) g 0 (rowO [sSemi]) W R2.1 hgb hg (fun W' h' => ss_row W' _ [sSemi] 9 _ rfl h') hm hG2.ok; rwa [hR3] at this)
          have HRES := Lib.hid hres
          have HNM : Hid (R3.1.left ≤ q ∧ n + 1 + R3.1.left ≤ 4000 ∧ n ≤ 3999) := Lib.hid ⟨by omega, by omega, by omega⟩
          have HG := Lib.hid (And.intro hG1 (And.intro hG2 (And.intro hG3 (And.intro hl1 (And.intro hl2 (And.intro hl3 hgfd))))))
          have hob : (Value.slice Al n cl).ownBlock ≠ some b := fun e => by
            have := (HD.out.ek.zn b (HD.out.own b e)).1
            have := HD.out.ek.hX b rfl
            omega
          have HOB := Lib.hid hob
          have HO := Lib.hid (And.intro HD.out.own (And.intro HD.out.ne (And.intro HD.out.hn HD.out.d)))
          clear hbg hko hd2 hlt hgf hgfd hres hq hl hR1 hR2 hR3 hfl hG1 hd3 hG2 hd4 hG3 hl1 hl2 hl3 hob HD HLL
          obtain ⟨C1, L1⟩ := R1
          obtain ⟨C2, L2⟩ := R2
          obtain ⟨C3, L3⟩ := R3
          simp only at HTY HNA HTK HRES HNM HG
          have p0 := cell_heap (E.out.box (z := w.heap.size) (o := sdb b) (by simp)) (i := 0)
          simp only [List.getElem?_toArray, List.getElem?_cons_zero] at p0
          go_wp2_with fail
          refine HL.out.mono ?_
          rintro e v1 ⟨rfl, hb⟩
          have E1 := Lib.hid (E.out.below hb)
          have HR1 := Lib.hid (HR.out.below hb)
          clear hb HL E HR p0
          have p0 := cell_heap (E1.out.box (z := w.heap.size) (o := sdb b) (by simp)) (i := 0)
          simp only [List.getElem?_toArray, List.getElem?_cons_zero] at p0
          have HC := Lib.hid (is_any 0 sPub ⟨by omega, by omega⟩ E1.out.cu E1.out.ok)
          rw [h1] at HC
          unfold Rd at HC
          go_wp2_with fail
          refine HC.out.mono ?_
          rintro e v2 ⟨rfl, hb⟩
          have E2 := Lib.hid (E1.out.below hb)
          have HR2 := Lib.hid (HR1.out.below hb)
          clear hb HC E1 HR1 p0
          have p0 := cell_heap (E2.out.box (z := w.heap.size) (o := sdb b) (by simp)) (i := 0)
          simp only [List.getElem?_toArray, List.getElem?_cons_zero] at p0
          have HC := Lib.hid (is_any 0 sBrC ⟨by omega, by omega⟩ E2.out.cu E2.out.ok)
          rw [h2] at HC
          unfold Rd at HC
          go_wp2_with fail
          refine HC.out.mono ?_
          rintro e v3 ⟨rfl, hb⟩
          have E3 := Lib.hid (E2.out.below hb)
          have HR3 := Lib.hid (HR2.out.below hb)
          clear hb HC E2 HR2 p0
          have E4 := Lib.hid E3.out.drew
          have HR4 : Hid (RowN v3.drew (.slice Al n cl) m) := Lib.hid HR3.out
          clear E3 HR3 h1 h2 z1 z2
          go_wp2
          refine wp_region_noPanic (wp_region_held (S := fun W' : World => W'.heap[w.heap.size]? = some (sdb b) ∧ True) (by kernel_rfl) ?_)
          show wpAnyH _ _ _ _ _ _ _ _ v3.drew
          generalize v3.drew = w3 at E4 HR4 ⊢
          have hS0 : w3.heap[w.heap.size]? = some (sdb b) ∧ True := ⟨E4.out.box (z := w.heap.size) (o := sdb b) (by simp), trivial⟩
          refine wpAnyH_take_d (i := 0) (v := .slice Al n cl) 20 rfl rfl (by kernel_rfl) (by kernel_rfl) (by kernel_rfl) (fun _ _ _ h => h) (Or.inl ⟨by kernel_rfl, fun w' hS' => ?y0⟩) hS0 ?_
          case y0 => (skip; clear hS'; go_simp)
          simp only [Act.put, List.setIfInBounds_toArray, List.set_cons_zero, List.set_cons_succ]
          refine wpAnyH_take_d (i := 1) (v := rcv b) 21 rfl rfl (by kernel_rfl) (by kernel_rfl) (by kernel_rfl) (fun _ _ _ h => h) (Or.inl ⟨by kernel_rfl, fun w' hS' => ?y1⟩) hS0 ?_
          case y1 => (have s0 := cell_heap hS'.1 (i := 0); simp only [List.getElem?_toArray, List.getElem?_cons_zero] at s0; clear hS'; go_simp)
          simp only [Act.put, List.setIfInBounds_toArray, List.set_cons_zero, List.set_cons_succ]
          refine wpAnyH_take_d (i := 3) (v := rcv b) 23 rfl rfl (by kernel_rfl) (by kernel_rfl) (by kernel_rfl) (fun _ _ _ h => h) (Or.inl ⟨by kernel_rfl, fun w' hS' => ?y3⟩) hS0 ?_
          case y3 => (have s0 := cell_heap hS'.1 (i := 0); simp only [List.getElem?_toArray, List.getElem?_cons_zero] at s0; clear hS'; go_simp)
          simp only [Act.put, List.setIfInBounds_toArray, List.set_cons_zero, List.set_cons_succ]
          refine wpAnyH_take_d (i := 5) (v := rcv b) 25 rfl rfl (by kernel_rfl) (by kernel_rfl) (by kernel_rfl) (fun _ _ _ h => h) (Or.inl ⟨by kernel_rfl, fun w' hS' => ?y5⟩) hS0 ?_
          case y5 => (have s0 := cell_heap hS'.1 (i := 0); simp only [List.getElem?_toArray, List.getElem?_cons_zero] at s0; clear hS'; go_simp)
          simp only [Act.put, List.setIfInBounds_toArray, List.set_cons_zero, List.set_cons_succ]
          refine wpAnyH_ready (rs := [2, 6]) (by kernel_rfl) (by simp) ?_
          refine AllReadyH.cons rfl (fun K hK => ?_) (AllReadyH.cons rfl (fun K hK => ?_) AllReadyH.nil)
          · go_simp
            refine (HTY.out _ E4.out.cu).mono ?_
            rintro e x2 ⟨A1, c1, m1, rfl, hp1, hn1, hTk1, hT1, -, hm1, ho1⟩
            have ek_ := E4.out.gotl (cl := c1) hTk1 hT1 hm1 ⟨HG.out.1.ok, HG.out.1.L⟩ ho1
            have hS2 : x2.heap[w.heap.size]? = some (sdb b) ∧ True := ⟨ek_.box (z := w.heap.size) (o := sdb b) (by simp), trivial⟩
            have Ea := Lib.hid ek_
            have HRa := Lib.hid (HR4.out.of ho1 HOB.out)
            have HM1 := Lib.hid (And.intro hp1 hn1)
            clear ek_ hp1 hn1 hTk1 hT1 hm1 ho1 E4 HR4 HTY
            refine hK.out _ _ hS2 (fun _ => ?_)
            clear hK K
            try simp only [Act.put, List.setIfInBounds_toArray, List.set_cons_zero, List.set_cons_succ]
            refine wpAnyH_ready (rs := [4, 6]) (by kernel_rfl) (by simp) ?_
            refine AllReadyH.cons rfl (fun K hK => ?_) (AllReadyH.cons rfl (fun K hK => ?_) AllReadyH.nil)
            · go_simp
              refine (HNA.out _ Ea.out.cu).mono ?_
              rintro e x4 ⟨A2, c2, m2, rfl, hp2, hn2, hTk2, hT2, -, hm2, ho2⟩
              have ek_ := Ea.out.gotl (cl := c2) hTk2 hT2 hm2 ⟨HG.out.2.1.ok, HG.out.2.1.L⟩ ho2
              have hS4 : x4.heap[w.heap.size]? = some (sdb b) ∧ True := ⟨ek_.box (z := w.heap.size) (o := sdb b) (by simp), trivial⟩
              have Eb := Lib.hid ek_
              have HRb := Lib.hid (HRa.out.of ho2 HOB.out)
              have HM2 := Lib.hid (And.intro hp2 hn2)
              clear ek_ hp2 hn2 hTk2 hT2 hm2 ho2 Ea HRa HNA
              refine hK.out _ _ hS4 (fun _ => ?_)
              clear hK K
              try simp only [Act.put, List.setIfInBounds_toArray, List.set_cons_zero, List.set_cons_succ]
              refine wpAnyH_ready (rs := [6]) (by kernel_rfl) (by simp) ?_
              refine AllReadyH.cons rfl (fun K hK => ?_) AllReadyH.nil
              go_simp
              have ek_ := Eb.out.alloc (rowO [sSemi])
              have hrow_ := HRb.out.below (below1 x4 (rowO [sSemi]))
              have hS6 : (x4.alloc (rowO [sSemi])).heap[w.heap.size]? = some (sdb b) ∧ True := ⟨ek_.box (z := w.heap.size) (o := sdb b) (by simp), trivial⟩
              have Ec := Lib.hid ek_
              have HRc := Lib.hid hrow_
              clear ek_ hrow_ Eb HRb
              refine hK.out _ _ hS6 (fun _ => ?_)
              clear hK K
              try simp only [Act.put, List.setIfInBounds_toArray, List.set_cons_zero, List.set_cons_succ]
              refine wpAnyH_ready (rs := [7]) (by kernel_rfl) (by simp) ?_
              refine AllReadyH.cons rfl (fun K hK => ?_) AllReadyH.nil
              go_simp
              refine (HTK.out _ (x4.heap.size) Ec.out.cu (fun e => by have := (Ec.out.zn (x4.heap.size) (by simp)).1; have := Ec.out.hX b rfl; omega) (Ec.out.box (z := x4.heap.size) (o := rowO [sSemi]) (by simp))).mono ?_
              rintro e x7 ⟨A3, c3, m3, rfl, hp3, hn3, hTk3, hT3, -, hm3, ho3⟩
              have ek_ := Ec.out.gotl (cl := c3) hTk3 hT3 hm3 ⟨HG.out.2.2.1.ok, HG.out.2.2.1.L⟩ ho3
              have hS7 : x7.heap[w.heap.size]? = some (sdb b) ∧ True := ⟨ek_.box (z := w.heap.size) (o := sdb b) (by simp), trivial⟩
              have E7 := Lib.hid ek_
              have HR7 := Lib.hid (HRc.out.of ho3 HOB.out)
              have HM3 := Lib.hid (And.intro hp3 hn3)
              clear ek_ hp3 hn3 hTk3 hT3 hm3 ho3 Ec HRc HTK
              refine hK.out _ _ hS7 (fun _ => ?_)
              clear hK K
              try simp only [Act.put, List.setIfInBounds_toArray, List.set_cons_zero, List.set_cons_succ]
              have hq1 : m1.length = 1 := by rw [← List.length_map (f := pl), HM1.out.1]; exact HG.out.2.2.2.1
              have hq2 : m2.length = 1 := by rw [← List.length_map (f := pl), HM2.out.1]; exact HG.out.2.2.2.2.1
              have hq3 : m3.length = 1 := by rw [← List.length_map (f := pl), HM3.out.1]; exact HG.out.2.2.2.2.2.1
              have HN := Lib.hid (EK.nodedB E7.out 5 [⟨A1, c1, m1⟩, ⟨A2, c2, m2⟩, ⟨A3, c3, m3⟩] 3 rfl (by omega) (by
                intro p hp
                simp only [List.mem_cons, List.not_mem_nil, or_false] at hp
                rcases hp with rfl | rfl | rfl <;> simp) (by
                intro p hp
                simp only [List.mem_cons, List.not_mem_nil, or_false] at hp
                rcases hp with rfl | rfl | rfl
                · exact HM1.out.2
                · exact HM2.out.2
                · exact HM3.out.2) (by show (([⟨A1, c1, m1⟩, ⟨A2, c2, m2⟩, ⟨A3, c3, m3⟩] : List Pp).flatMap Pp.m).length ≤ 20000; simp [hq1, hq2, hq3]) (ppO [⟨A1, c1, m1⟩, ⟨A2, c2, m2⟩, ⟨A3, c3, m3⟩]) 23 rfl)
              have hMM : (([⟨A1, c1, m1⟩, ⟨A2, c2, m2⟩, ⟨A3, c3, m3⟩] : List Pp).flatMap Pp.m).map pl = L1 ++ (L2 ++ (L3 ++ [])) := by simp only [List.flatMap_cons, List.flatMap_nil, List.map_append, List.map_nil, HM1.out.1, HM2.out.1, HM3.out.1]
              have HMM := Lib.hid hMM
              clear hq1 hq2 hq3 hMM
              refine wpAnyH_ready (rs := [8]) (by kernel_rfl) (by simp) ?_
              refine AllReadyH.cons rfl (fun K hK => ?_) AllReadyH.nil
              go_simp
              have ek_ := E7.out.below (below1 x7 (ppO [⟨A1, c1, m1⟩, ⟨A2, c2, m2⟩, ⟨A3, c3, m3⟩]))
              have hS8 : (x7.alloc (ppO [⟨A1, c1, m1⟩, ⟨A2, c2, m2⟩, ⟨A3, c3, m3⟩])).heap[w.heap.size]? = some (sdb b) ∧ True := ⟨ek_.box (z := w.heap.size) (o := sdb b) (by simp), trivial⟩
              clear ek_
              refine hK.out _ _ hS8 (fun _ => ?_)
              clear hK K
              try simp only [Act.put, List.setIfInBounds_toArray, List.set_cons_zero, List.set_cons_succ]
              refine wpAnyH_ready (rs := [9]) (by kernel_rfl) (by simp) ?_
              refine AllReadyH.cons rfl (fun K hK => ?_) AllReadyH.nil
              go_simp
              refine HN.out.mono ?_
              rintro e x9 ⟨A', c', rfl, ek_, hb9⟩
              have hrow9 := HR7.out.below hb9
              have hMM := HMM.out
              generalize ([⟨A1, c1, m1⟩, ⟨A2, c2, m2⟩, ⟨A3, c3, m3⟩] : List Pp).flatMap Pp.m = M at ek_ hMM ⊢
              have hS9 : x9.heap[w.heap.size]? = some (sdb b) ∧ True := ⟨ek_.box (z := w.heap.size) (o := sdb b) (by simp), trivial⟩
              have E9 := Lib.hid ek_
              have HR9 := Lib.hid hrow9
              have HMM := Lib.hid hMM
              clear ek_ hrow9 hMM hb9 HN E7 HR7 HM1 HM2 HM3
              refine hK.out _ _ hS9 (fun _ => ?_)
              clear hK K
              try simp only [Act.put, List.setIfInBounds_toArray, List.set_cons_zero, List.set_cons_succ]
              refine wpAnyH_ready (rs := [10]) (by kernel_rfl) (by simp) ?_
              refine AllReadyH.cons rfl (fun K hK => ?_) AllReadyH.nil
              have ek_ := E9.out.rowOf 0 1 (l := [(⟨5, ⟨#[]⟩, ⟨#[]⟩, 0, A', c', M⟩ : Tr)]) rfl (by simp) (.cells #[.int .i64 5, .string ⟨#[]⟩, .string ⟨#[]⟩, .int .i64 0, .slice A' M.length c'] 30 (0, 0)) 30 rfl
              have hrow11 := HR9.out.below (below1 x9 (.cells #[.int .i64 5, .string ⟨#[]⟩, .string ⟨#[]⟩, .int .i64 0, .slice A' M.length c'] 30 (0, 0)))
              go_simp
              have hlies := (tn_iff.1 (ek_.tn ⟨0, ⟨#[]⟩, ⟨#[]⟩, 0, some ⟨x9.heap.size, 0, none⟩, 1, [(⟨5, ⟨#[]⟩, ⟨#[]⟩, 0, A', c', M⟩ : Tr)]⟩ (by simp))).2.1
              generalize x9.alloc (.cells #[.int .i64 5, .string ⟨#[]⟩, .string ⟨#[]⟩, .int .i64 0, .slice A' M.length c'] 30 (0, 0)) = x10 at ek_ hrow11 hlies ⊢
              generalize x9.heap.size = y at ek_ hlies ⊢
              have hS10 : x10.heap[w.heap.size]? = some (sdb b) ∧ True := ⟨ek_.box (z := w.heap.size) (o := sdb b) (by simp), trivial⟩
              have E11 := Lib.hid ek_
              have HR11 := Lib.hid hrow11
              have HL11 : Hid (∀ (i : Nat) (e : Tr), ([(⟨5, ⟨#[]⟩, ⟨#[]⟩, 0, A', c', M⟩ : Tr)] : List Tr)[i]? = some e → At5 x10 y (0 + i * 5) e) := Lib.hid (by
                obtain ⟨b', off', e, -, hc⟩ := hlies (by simp)
                injection e with e
                injection e with e1 e2
                subst e1 e2
                exact hc)
              clear ek_ hrow11 hlies E9 HR9
              refine hK.out _ _ hS10 (fun _ => ?_)
              clear hK K
              try simp only [Act.put, List.setIfInBounds_toArray, List.set_cons_zero, List.set_cons_succ]
              refine wpAnyH_ready (rs := [11]) (by kernel_rfl) (by simp) ?_
              refine AllReadyH.cons rfl (fun K hK => ?_) AllReadyH.nil
              refine step_append_n (by rfl) (.tmp 20) (.tmp 30) (by rfl) x10 (.slice Al n cl) m [(⟨5, ⟨#[]⟩, ⟨#[]⟩, 0, A', c', M⟩ : Tr)] 1 y 0 1 rfl (by rfl) (by rfl) HL11.out HR11.out (by have := HNM.out.2.2; have := HO.out.2.2.1; simp; omega) ?_
              intro A9 c9 x12 hrow12 hg12 hat12
              show K (Act.put _ (some 31) (.slice A9 (m ++ [(⟨5, ⟨#[]⟩, ⟨#[]⟩, 0, A', c', M⟩ : Tr)]).length c9)) _
              have ek11 := E11.out.sub (bs' := [(w.heap.size, sdb b)]) (ts' := m ++ [(⟨5, ⟨#[]⟩, ⟨#[]⟩, 0, A', c', M⟩ : Tr)]) (by simp) (by simp only [List.mem_append, List.mem_cons, List.not_mem_nil, or_false]; rintro T (h | h) <;> simp [h])
              obtain ⟨zs12, ek12, hz12, ho12, hn12⟩ := ek11.grows hg12 (own' := (Value.slice A9 (m ++ [(⟨5, ⟨#[]⟩, ⟨#[]⟩, 0, A', c', M⟩ : Tr)]).length c9).ownBlock) (fun k hk => .inl (by simp [HO.out.1 k hk])) HO.out.2.1 hat12 hrow12.lt
              have hS11 : x12.heap[w.heap.size]? = some (sdb b) ∧ True := ⟨ek12.box (z := w.heap.size) (o := sdb b) (by simp), trivial⟩
              have hl12 : (m ++ [(⟨5, ⟨#[]⟩, ⟨#[]⟩, 0, A', c', M⟩ : Tr)]).length = n + 1 := by rw [List.length_append, HO.out.2.2.1]; rfl
              have hp12 : (m ++ [(⟨5, ⟨#[]⟩, ⟨#[]⟩, 0, A', c', M⟩ : Tr)]).map pl = m.map pl ++ [nod 5 (L1 ++ (L2 ++ (L3 ++ [])))] := by rw [List.map_append, List.map_cons, List.map_nil, pl_nod, HMM.out]
              rw [hl12] at hrow12 ho12 hn12
              rw [hl12]
              generalize m ++ [(⟨5, ⟨#[]⟩, ⟨#[]⟩, 0, A', c', M⟩ : Tr)] = m12 at ek12 hrow12 hl12 hp12 ho12 hn12 ⊢
              have E12 := Lib.hid ek12
              have HR12 := Lib.hid hrow12
              have HO12 := Lib.hid (And.intro ho12 (And.intro hn12 (And.intro hl12 hp12)))
              clear ek11 ek12 hrow12 hg12 hat12 hz12 ho12 hn12 hl12 hp12 E11 HR11 HL11
              refine hK.out _ _ hS11 (fun _ => ?_)
              clear hK K
              try simp only [Act.put, List.setIfInBounds_toArray, List.set_cons_zero, List.set_cons_succ]
              refine wpAnyH_take_d (i := 12) (v := .slice A9 (n + 1) c9) 3 rfl rfl (by kernel_rfl) (by kernel_rfl) (by kernel_rfl) (fun _ _ _ h => h) (Or.inl ⟨by kernel_rfl, fun w' hS' => ?y12⟩) hS11 ?_
              case y12 => (skip; clear hS'; go_simp)
              simp only [Act.put, List.setIfInBounds_toArray, List.set_cons_zero, List.set_cons_succ]
              refine wpAnyH_done (by kernel_rfl) ?_ _
              refine NoPanic.normal ?_
              clear hS0 hS2 hS4 hS6 hS7 hS8 hS9 hS10 hS11
              have hn9 := HNM.out.2.2
              go_wp2
              go_roundw
              case rel => exact ⟨q, C3, m12, n + 1, A9, c9, zs12, rfl, Lib.hid ⟨E12.out.sub (by simp) (by simp), HR12.out, fun k hk => (HO12.out.1 k hk).resolve_right (fun hh => hh.2 hh.1), HO12.out.2.1, HO12.out.2.2.1, HNM.out.1, by rw [HO12.out.2.2.2]; exact HRES.out, HNM.out.2.1, HG.out.2.2.2.2.2.2.trans HO.out.2.2.2⟩⟩
              case measure => simp [vlen]; omega
            · go_simp
              have ek_ := Ea.out.alloc (rowO [sSemi])
              have hrow_ := HRa.out.below (below1 x2 (rowO [sSemi]))
              have hS6 : (x2.alloc (rowO [sSemi])).heap[w.heap.size]? = some (sdb b) ∧ True := ⟨ek_.box (z := w.heap.size) (o := sdb b) (by simp), trivial⟩
              have Ec := Lib.hid ek_
              have HRc := Lib.hid hrow_
              clear ek_ hrow_ Ea HRa
              refine hK.out _ _ hS6 (fun _ => ?_)
              clear hK K
              try simp only [Act.put, List.setIfInBounds_toArray, List.set_cons_zero, List.set_cons_succ]
              refine wpAnyH_ready (rs := [4]) (by kernel_rfl) (by simp) ?_
              refine AllReadyH.cons rfl (fun K hK => ?_) AllReadyH.nil
              go_simp
              refine (HNA.out _ Ec.out.cu).mono ?_
              rintro e x4 ⟨A2, c2, m2, rfl, hp2, hn2, hTk2, hT2, -, hm2, ho2⟩
              have ek_ := Ec.out.gotl (cl := c2) hTk2 hT2 hm2 ⟨HG.out.2.1.ok, HG.out.2.1.L⟩ ho2
              have hS4 : x4.heap[w.heap.size]? = some (sdb b) ∧ True := ⟨ek_.box (z := w.heap.size) (o := sdb b) (by simp), trivial⟩
              have Eb := Lib.hid ek_
              have HRb := Lib.hid (HRc.out.of ho2 HOB.out)
              have HM2 := Lib.hid (And.intro hp2 hn2)
              clear ek_ hp2 hn2 hTk2 hT2 hm2 ho2 Ec HRc HNA
              refine hK.out _ _ hS4 (fun _ => ?_)
              clear hK K
              try simp only [Act.put, List.setIfInBounds_toArray, List.set_cons_zero, List.set_cons_succ]
              refine wpAnyH_ready (rs := [7]) (by kernel_rfl) (by simp) ?_
              refine AllReadyH.cons rfl (fun K hK => ?_) AllReadyH.nil
              go_simp
              refine (HTK.out _ (x2.heap.size) Eb.out.cu (fun e => by have := (Eb.out.zn (x2.heap.size) (by simp)).1; have := Eb.out.hX b rfl; omega) (Eb.out.box (z := x2.heap.size) (o := rowO [sSemi]) (by simp))).mono ?_
              rintro e x7 ⟨A3, c3, m3, rfl, hp3, hn3, hTk3, hT3, -, hm3, ho3⟩
              have ek_ := Eb.out.gotl (cl := c3) hTk3 hT3 hm3 ⟨HG.out.2.2.1.ok, HG.out.2.2.1.L⟩ ho3
              have hS7 : x7.heap[w.heap.size]? = some (sdb b) ∧ True := ⟨ek_.box (z := w.heap.size) (o := sdb b) (by simp), trivial⟩
              have E7 := Lib.hid ek_
              have HR7 := Lib.hid (HRb.out.of ho3 HOB.out)
              have HM3 := Lib.hid (And.intro hp3 hn3)
              clear ek_ hp3 hn3 hTk3 hT3 hm3 ho3 Eb HRb HTK
              refine hK.out _ _ hS7 (fun _ => ?_)
              clear hK K
              try simp only [Act.put, List.setIfInBounds_toArray, List.set_cons_zero, List.set_cons_succ]
              have hq1 : m1.length = 1 := by rw [← List.length_map (f := pl), HM1.out.1]; exact HG.out.2.2.2.1
              have hq2 : m2.length = 1 := by rw [← List.length_map (f := pl), HM2.out.1]; exact HG.out.2.2.2.2.1
              have hq3 : m3.length = 1 := by rw [← List.length_map (f := pl), HM3.out.1]; exact HG.out.2.2.2.2.2.1
              have HN := Lib.hid (EK.nodedB E7.out 5 [⟨A1, c1, m1⟩, ⟨A2, c2, m2⟩, ⟨A3, c3, m3⟩] 3 rfl (by omega) (by
                intro p hp
                simp only [List.mem_cons, List.not_mem_nil, or_false] at hp
                rcases hp with rfl | rfl | rfl <;> simp) (by
                intro p hp
                simp only [List.mem_cons, List.not_mem_nil, or_false] at hp
                rcases hp with rfl | rfl | rfl
                · exact HM1.out.2
                · exact HM2.out.2
                · exact HM3.out.2) (by show (([⟨A1, c1, m1⟩, ⟨A2, c2, m2⟩, ⟨A3, c3, m3⟩] : List Pp).flatMap Pp.m).length ≤ 20000; simp [hq1, hq2, hq3]) (ppO [⟨A1, c1, m1⟩, ⟨A2, c2, m2⟩, ⟨A3, c3, m3⟩]) 23 rfl)
              have hMM : (([⟨A1, c1, m1⟩, ⟨A2, c2, m2⟩, ⟨A3, c3, m3⟩] : List Pp).flatMap Pp.m).map pl = L1 ++ (L2 ++ (L3 ++ [])) := by simp only [List.flatMap_cons, List.flatMap_nil, List.map_append, List.map_nil, HM1.out.1, HM2.out.1, HM3.out.1]
              have HMM := Lib.hid hMM
              clear hq1 hq2 hq3 hMM
              refine wpAnyH_ready (rs := [8]) (by kernel_rfl) (by simp) ?_
              refine AllReadyH.cons rfl (fun K hK => ?_) AllReadyH.nil
              go_simp
              have ek_ := E7.out.below (below1 x7 (ppO [⟨A1, c1, m1⟩, ⟨A2, c2, m2⟩, ⟨A3, c3, m3⟩]))
              have hS8 : (x7.alloc (ppO [⟨A1, c1, m1⟩, ⟨A2, c2, m2⟩, ⟨A3, c3, m3⟩])).heap[w.heap.size]? = some (sdb b) ∧ True := ⟨ek_.box (z := w.heap.size) (o := sdb b) (by simp), trivial⟩
              clear ek_
              refine hK.out _ _ hS8 (fun _ => ?_)
              clear hK K
              try simp only [Act.put, List.setIfInBounds_toArray, List.set_cons_zero, List.set_cons_succ]
              refine wpAnyH_ready (rs := [9]) (by kernel_rfl) (by simp) ?_
              refine AllReadyH.cons rfl (fun K hK => ?_) AllReadyH.nil
              go_simp
              refine HN.out.mono ?_
              rintro e x9 ⟨A', c', rfl, ek_, hb9⟩
              have hrow9 := HR7.out.below hb9
              have hMM := HMM.out
              generalize ([⟨A1, c1, m1⟩, ⟨A2, c2, m2⟩, ⟨A3, c3, m3⟩] : List Pp).flatMap Pp.m = M at ek_ hMM ⊢
              have hS9 : x9.heap[w.heap.size]? = some (sdb b) ∧ True := ⟨ek_.box (z := w.heap.size) (o := sdb b) (by simp), trivial⟩
              have E9 := Lib.hid ek_
              have HR9 := Lib.hid hrow9
              have HMM := Lib.hid hMM
              clear ek_ hrow9 hMM hb9 HN E7 HR7 HM1 HM2 HM3
              refine hK.out _ _ hS9 (fun _ => ?_)
              clear hK K
              try simp only [Act.put, List.setIfInBounds_toArray, List.set_cons_zero, List.set_cons_succ]
              refine wpAnyH_ready (rs := [10]) (by kernel_rfl) (by simp) ?_
              refine AllReadyH.cons rfl (fun K hK => ?_) AllReadyH.nil
              have ek_ := E9.out.rowOf 0 1 (l := [(⟨5, ⟨#[]⟩, ⟨#[]⟩, 0, A', c', M⟩ : Tr)]) rfl (by simp) (.cells #[.int .i64 5, .string ⟨#[]⟩, .string ⟨#[]⟩, .int .i64 0, .slice A' M.length c'] 30 (0, 0)) 30 rfl
              have hrow11 := HR9.out.below (below1 x9 (.cells #[.int .i64 5, .string ⟨#[]⟩, .string ⟨#[]⟩, .int .i64 0, .slice A' M.length c'] 30 (0, 0)))
              go_simp
              have hlies := (tn_iff.1 (ek_.tn ⟨0, ⟨#[]⟩, ⟨#[]⟩, 0, some ⟨x9.heap.size, 0, none⟩, 1, [(⟨5, ⟨#[]⟩, ⟨#[]⟩, 0, A', c', M⟩ : Tr)]⟩ (by simp))).2.1
              generalize x9.alloc (.cells #[.int .i64 5, .string ⟨#[]⟩, .string ⟨#[]⟩, .int .i64 0, .slice A' M.length c'] 30 (0, 0)) = x10 at ek_ hrow11 hlies ⊢
              generalize x9.heap.size = y at ek_ hlies ⊢
              have hS10 : x10.heap[w.heap.size]? = some (sdb b) ∧ True := ⟨ek_.box (z := w.heap.size) (o := sdb b) (by simp), trivial⟩
              have E11 := Lib.hid ek_
              have HR11 := Lib.hid hrow11
              have HL11 : Hid (∀ (i : Nat) (e : Tr), ([(⟨5, ⟨#[]⟩, ⟨#[]⟩, 0, A', c', M⟩ : Tr)] : List Tr)[i]? = some e → At5 x10 y (0 + i * 5) e) := Lib.hid (by
                obtain ⟨b', off', e, -, hc⟩ := hlies (by simp)
                injection e with e
                injection e with e1 e2
                subst e1 e2
                exact hc)
              clear ek_ hrow11 hlies E9 HR9
              refine hK.out _ _ hS10 (fun _ => ?_)
              clear hK K
              try simp only [Act.put, List.setIfInBounds_toArray, List.set_cons_zero, List.set_cons_succ]
              refine wpAnyH_ready (rs := [11]) (by kernel_rfl) (by simp) ?_
              refine AllReadyH.cons rfl (fun K hK => ?_) AllReadyH.nil
              refine step_append_n (by rfl) (.tmp 20) (.tmp 30) (by rfl) x10 (.slice Al n cl) m [(⟨5, ⟨#[]⟩, ⟨#[]⟩, 0, A', c', M⟩ : Tr)] 1 y 0 1 rfl (by rfl) (by rfl) HL11.out HR11.out (by have := HNM.out.2.2; have := HO.out.2.2.1; simp; omega) ?_
              intro A9 c9 x12 hrow12 hg12 hat12
              show K (Act.put _ (some 31) (.slice A9 (m ++ [(⟨5, ⟨#[]⟩, ⟨#[]⟩, 0, A', c', M⟩ : Tr)]).length c9)) _
              have ek11 := E11.out.sub (bs' := [(w.heap.size, sdb b)]) (ts' := m ++ [(⟨5, ⟨#[]⟩, ⟨#[]⟩, 0, A', c', M⟩ : Tr)]) (by simp) (by simp only [List.mem_append, List.mem_cons, List.not_mem_nil, or_false]; rintro T (h | h) <;> simp [h])
              obtain ⟨zs12, ek12, hz12, ho12, hn12⟩ := ek11.grows hg12 (own' := (Value.slice A9 (m ++ [(⟨5, ⟨#[]⟩, ⟨#[]⟩, 0, A', c', M⟩ : Tr)]).length c9).ownBlock) (fun k hk => .inl (by simp [HO.out.1 k hk])) HO.out.2.1 hat12 hrow12.lt
              have hS11 : x12.heap[w.heap.size]? = some (sdb b) ∧ True := ⟨ek12.box (z := w.heap.size) (o := sdb b) (by simp), trivial⟩
              have hl12 : (m ++ [(⟨5, ⟨#[]⟩, ⟨#[]⟩, 0, A', c', M⟩ : Tr)]).length = n + 1 := by rw [List.length_append, HO.out.2.2.1]; rfl
              have hp12 : (m ++ [(⟨5, ⟨#[]⟩, ⟨#[]⟩, 0, A', c', M⟩ : Tr)]).map pl = m.map pl ++ [nod 5 (L1 ++ (L2 ++ (L3 ++ [])))] := by rw [List.map_append, List.map_cons, List.map_nil, pl_nod, HMM.out]
              rw [hl12] at hrow12 ho12 hn12
              rw [hl12]
              generalize m ++ [(⟨5, ⟨#[]⟩, ⟨#[]⟩, 0, A', c', M⟩ : Tr)] = m12 at ek12 hrow12 hl12 hp12 ho12 hn12 ⊢
              have E12 := Lib.hid ek12
              have HR12 := Lib.hid hrow12
              have HO12 := Lib.hid (And.intro ho12 (And.intro hn12 (And.intro hl12 hp12)))
              clear ek11 ek12 hrow12 hg12 hat12 hz12 ho12 hn12 hl12 hp12 E11 HR11 HL11
              refine hK.out _ _ hS11 (fun _ => ?_)
              clear hK K
              try simp only [Act.put, List.setIfInBounds_toArray, List.set_cons_zero, List.set_cons_succ]
              refine wpAnyH_take_d (i := 12) (v := .slice A9 (n + 1) c9) 3 rfl rfl (by kernel_rfl) (by kernel_rfl) (by kernel_rfl) (fun _ _ _ h => h) (Or.inl ⟨by kernel_rfl, fun w' hS' => ?y12⟩) hS11 ?_
              case y12 => (skip; clear hS'; go_simp)
              simp only [Act.put, List.setIfInBounds_toArray, List.set_cons_zero, List.set_cons_succ]
              refine wpAnyH_done (by kernel_rfl) ?_ _
              refine NoPanic.normal ?_
              clear hS0 hS2 hS6 hS4 hS7 hS8 hS9 hS10 hS11
              have hn9 := HNM.out.2.2
              go_wp2
              go_roundw
              case rel => exact ⟨q, C3, m12, n + 1, A9, c9, zs12, rfl, Lib.hid ⟨E12.out.sub (by simp) (by simp), HR12.out, fun k hk => (HO12.out.1 k hk).resolve_right (fun hh => hh.2 hh.1), HO12.out.2.1, HO12.out.2.2.1, HNM.out.1, by rw [HO12.out.2.2.2]; exact HRES.out, HNM.out.2.1, HG.out.2.2.2.2.2.2.trans HO.out.2.2.2⟩⟩
              case measure => simp [vlen]; omega
          · go_simp
            have ek_ := E4.out.alloc (rowO [sSemi])
            have hrow_ := HR4.out.below (below1 w3 (rowO [sSemi]))
            have hS6 : (w3.alloc (rowO [sSemi])).heap[w.heap.size]? = some (sdb b) ∧ True := ⟨ek_.box (z := w.heap.size) (o := sdb b) (by simp), trivial⟩
            have Ec := Lib.hid ek_
            have HRc := Lib.hid hrow_
            clear ek_ hrow_ E4 HR4
            refine hK.out _ _ hS6 (fun _ => ?_)
            clear hK K
            try simp only [Act.put, List.setIfInBounds_toArray, List.set_cons_zero, List.set_cons_succ]
            refine wpAnyH_ready (rs := [2]) (by kernel_rfl) (by simp) ?_
            refine AllReadyH.cons rfl (fun K hK => ?_) AllReadyH.nil
            go_simp
            refine (HTY.out _ Ec.out.cu).mono ?_
            rintro e x2 ⟨A1, c1, m1, rfl, hp1, hn1, hTk1, hT1, -, hm1, ho1⟩
            have ek_ := Ec.out.gotl (cl := c1) hTk1 hT1 hm1 ⟨HG.out.1.ok, HG.out.1.L⟩ ho1
            have hS2 : x2.heap[w.heap.size]? = some (sdb b) ∧ True := ⟨ek_.box (z := w.heap.size) (o := sdb b) (by simp), trivial⟩
            have Ea := Lib.hid ek_
            have HRa := Lib.hid (HRc.out.of ho1 HOB.out)
            have HM1 := Lib.hid (And.intro hp1 hn1)
            clear ek_ hp1 hn1 hTk1 hT1 hm1 ho1 Ec HRc HTY
            refine hK.out _ _ hS2 (fun _ => ?_)
            clear hK K
            try simp only [Act.put, List.setIfInBounds_toArray, List.set_cons_zero, List.set_cons_succ]
            refine wpAnyH_ready (rs := [4]) (by kernel_rfl) (by simp) ?_
            refine AllReadyH.cons rfl (fun K hK => ?_) AllReadyH.nil
            go_simp
            refine (HNA.out _ Ea.out.cu).mono ?_
            rintro e x4 ⟨A2, c2, m2, rfl, hp2, hn2, hTk2, hT2, -, hm2, ho2⟩
            have ek_ := Ea.out.gotl (cl := c2) hTk2 hT2 hm2 ⟨HG.out.2.1.ok, HG.out.2.1.L⟩ ho2
            have hS4 : x4.heap[w.heap.size]? = some (sdb b) ∧ True := ⟨ek_.box (z := w.heap.size) (o := sdb b) (by simp), trivial⟩
            have Eb := Lib.hid ek_
            have HRb := Lib.hid (HRa.out.of ho2 HOB.out)
            have HM2 := Lib.hid (And.intro hp2 hn2)
            clear ek_ hp2 hn2 hTk2 hT2 hm2 ho2 Ea HRa HNA
            refine hK.out _ _ hS4 (fun _ => ?_)
            clear hK K
            try simp only [Act.put, List.setIfInBounds_toArray, List.set_cons_zero, List.set_cons_succ]
            refine wpAnyH_ready (rs := [7]) (by kernel_rfl) (by simp) ?_
            refine AllReadyH.cons rfl (fun K hK => ?_) AllReadyH.nil
            go_simp
            refine (HTK.out _ (w3.heap.size) Eb.out.cu (fun e => by have := (Eb.out.zn (w3.heap.size) (by simp)).1; have := Eb.out.hX b rfl; omega) (Eb.out.box (z := w3.heap.size) (o := rowO [sSemi]) (by simp))).mono ?_
            rintro e x7 ⟨A3, c3, m3, rfl, hp3, hn3, hTk3, hT3, -, hm3, ho3⟩
            have ek_ := Eb.out.gotl (cl := c3) hTk3 hT3 hm3 ⟨HG.out.2.2.1.ok, HG.out.2.2.1.L⟩ ho3
            have hS7 : x7.heap[w.heap.size]? = some (sdb b) ∧ True := ⟨ek_.box (z := w.heap.size) (o := sdb b) (by simp), trivial⟩
            have E7 := Lib.hid ek_
            have HR7 := Lib.hid (HRb.out.of ho3 HOB.out)
            have HM3 := Lib.hid (And.intro hp3 hn3)
            clear ek_ hp3 hn3 hTk3 hT3 hm3 ho3 Eb HRb HTK
            refine hK.out _ _ hS7 (fun _ => ?_)
            clear hK K
            try simp only [Act.put, List.setIfInBounds_toArray, List.set_cons_zero, List.set_cons_succ]
            have hq1 : m1.length = 1 := by rw [← List.length_map (f := pl), HM1.out.1]; exact HG.out.2.2.2.1
            have hq2 : m2.length = 1 := by rw [← List.length_map (f := pl), HM2.out.1]; exact HG.out.2.2.2.2.1
            have hq3 : m3.length = 1 := by rw [← List.length_map (f := pl), HM3.out.1]; exact HG.out.2.2.2.2.2.1
            have HN := Lib.hid (EK.nodedB E7.out 5 [⟨A1, c1, m1⟩, ⟨A2, c2, m2⟩, ⟨A3, c3, m3⟩] 3 rfl (by omega) (by
              intro p hp
              simp only [List.mem_cons, List.not_mem_nil, or_false] at hp
              rcases hp with rfl | rfl | rfl <;> simp) (by
              intro p hp
              simp only [List.mem_cons, List.not_mem_nil, or_false] at hp
              rcases hp with rfl | rfl | rfl
              · exact HM1.out.2
              · exact HM2.out.2
              · exact HM3.out.2) (by show (([⟨A1, c1, m1⟩, ⟨A2, c2, m2⟩, ⟨A3, c3, m3⟩] : List Pp).flatMap Pp.m).length ≤ 20000; simp [hq1, hq2, hq3]) (ppO [⟨A1, c1, m1⟩, ⟨A2, c2, m2⟩, ⟨A3, c3, m3⟩]) 23 rfl)
            have hMM : (([⟨A1, c1, m1⟩, ⟨A2, c2, m2⟩, ⟨A3, c3, m3⟩] : List Pp).flatMap Pp.m).map pl = L1 ++ (L2 ++ (L3 ++ [])) := by simp only [List.flatMap_cons, List.flatMap_nil, List.map_append, List.map_nil, HM1.out.1, HM2.out.1, HM3.out.1]
            have HMM := Lib.hid hMM
            clear hq1 hq2 hq3 hMM
            refine wpAnyH_ready (rs := [8]) (by kernel_rfl) (by simp) ?_
            refine AllReadyH.cons rfl (fun K hK => ?_) AllReadyH.nil
            go_simp
            have ek_ := E7.out.below (below1 x7 (ppO [⟨A1, c1, m1⟩, ⟨A2, c2, m2⟩, ⟨A3, c3, m3⟩]))
            have hS8 : (x7.alloc (ppO [⟨A1, c1, m1⟩, ⟨A2, c2, m2⟩, ⟨A3, c3, m3⟩])).heap[w.heap.size]? = some (sdb b) ∧ True := ⟨ek_.box (z := w.heap.size) (o := sdb b) (by simp), trivial⟩
            clear ek_
            refine hK.out _ _ hS8 (fun _ => ?_)
            clear hK K
            try simp only [Act.put, List.setIfInBounds_toArray, List.set_cons_zero, List.set_cons_succ]
            refine wpAnyH_ready (rs := [9]) (by kernel_rfl) (by simp) ?_
            refine AllReadyH.cons rfl (fun K hK => ?_) AllReadyH.nil
            go_simp
            refine HN.out.mono ?_
            rintro e x9 ⟨A', c', rfl, ek_, hb9⟩
            have hrow9 := HR7.out.below hb9
            have hMM := HMM.out
            generalize ([⟨A1, c1, m1⟩, ⟨A2, c2, m2⟩, ⟨A3, c3, m3⟩] : List Pp).flatMap Pp.m = M at ek_ hMM ⊢
            have hS9 : x9.heap[w.heap.size]? = some (sdb b) ∧ True := ⟨ek_.box (z := w.heap.size) (o := sdb b) (by simp), trivial⟩
            have E9 := Lib.hid ek_
            have HR9 := Lib.hid hrow9
            have HMM := Lib.hid hMM
            clear ek_ hrow9 hMM hb9 HN E7 HR7 HM1 HM2 HM3
            refine hK.out _ _ hS9 (fun _ => ?_)
            clear hK K
            try simp only [Act.put, List.setIfInBounds_toArray, List.set_cons_zero, List.set_cons_succ]
            refine wpAnyH_ready (rs := [10]) (by kernel_rfl) (by simp) ?_
            refine AllReadyH.cons rfl (fun K hK => ?_) AllReadyH.nil
            have ek_ := E9.out.rowOf 0 1 (l := [(⟨5, ⟨#[]⟩, ⟨#[]⟩, 0, A', c', M⟩ : Tr)]) rfl (by simp) (.cells #[.int .i64 5, .string ⟨#[]⟩, .string ⟨#[]⟩, .int .i64 0, .slice A' M.length c'] 30 (0, 0)) 30 rfl
            have hrow11 := HR9.out.below (below1 x9 (.cells #[.int .i64 5, .string ⟨#[]⟩, .string ⟨#[]⟩, .int .i64 0, .slice A' M.length c'] 30 (0, 0)))
            go_simp
            have hlies := (tn_iff.1 (ek_.tn ⟨0, ⟨#[]⟩, ⟨#[]⟩, 0, some ⟨x9.heap.size, 0, none⟩, 1, [(⟨5, ⟨#[]⟩, ⟨#[]⟩, 0, A', c', M⟩ : Tr)]⟩ (by simp))).2.1
            generalize x9.alloc (.cells #[.int .i64 5, .string ⟨#[]⟩, .string ⟨#[]⟩, .int .i64 0, .slice A' M.length c'] 30 (0, 0)) = x10 at ek_ hrow11 hlies ⊢
            generalize x9.heap.size = y at ek_ hlies ⊢
            have hS10 : x10.heap[w.heap.size]? = some (sdb b) ∧ True := ⟨ek_.box (z := w.heap.size) (o := sdb b) (by simp), trivial⟩
            have E11 := Lib.hid ek_
            have HR11 := Lib.hid hrow11
            have HL11 : Hid (∀ (i : Nat) (e : Tr), ([(⟨5, ⟨#[]⟩, ⟨#[]⟩, 0, A', c', M⟩ : Tr)] : List Tr)[i]? = some e → At5 x10 y (0 + i * 5) e) := Lib.hid (by
              obtain ⟨b', off', e, -, hc⟩ := hlies (by simp)
              injection e with e
              injection e with e1 e2
              subst e1 e2
              exact hc)
            clear ek_ hrow11 hlies E9 HR9
            refine hK.out _ _ hS10 (fun _ => ?_)
            clear hK K
            try simp only [Act.put, List.setIfInBounds_toArray, List.set_cons_zero, List.set_cons_succ]
            refine wpAnyH_ready (rs := [11]) (by kernel_rfl) (by simp) ?_
            refine AllReadyH.cons rfl (fun K hK => ?_) AllReadyH.nil
            refine step_append_n (by rfl) (.tmp 20) (.tmp 30) (by rfl) x10 (.slice Al n cl) m [(⟨5, ⟨#[]⟩, ⟨#[]⟩, 0, A', c', M⟩ : Tr)] 1 y 0 1 rfl (by rfl) (by rfl) HL11.out HR11.out (by have := HNM.out.2.2; have := HO.out.2.2.1; simp; omega) ?_
            intro A9 c9 x12 hrow12 hg12 hat12
            show K (Act.put _ (some 31) (.slice A9 (m ++ [(⟨5, ⟨#[]⟩, ⟨#[]⟩, 0, A', c', M⟩ : Tr)]).length c9)) _
            have ek11 := E11.out.sub (bs' := [(w.heap.size, sdb b)]) (ts' := m ++ [(⟨5, ⟨#[]⟩, ⟨#[]⟩, 0, A', c', M⟩ : Tr)]) (by simp) (by simp only [List.mem_append, List.mem_cons, List.not_mem_nil, or_false]; rintro T (h | h) <;> simp [h])
            obtain ⟨zs12, ek12, hz12, ho12, hn12⟩ := ek11.grows hg12 (own' := (Value.slice A9 (m ++ [(⟨5, ⟨#[]⟩, ⟨#[]⟩, 0, A', c', M⟩ : Tr)]).length c9).ownBlock) (fun k hk => .inl (by simp [HO.out.1 k hk])) HO.out.2.1 hat12 hrow12.lt
            have hS11 : x12.heap[w.heap.size]? = some (sdb b) ∧ True := ⟨ek12.box (z := w.heap.size) (o := sdb b) (by simp), trivial⟩
            have hl12 : (m ++ [(⟨5, ⟨#[]⟩, ⟨#[]⟩, 0, A', c', M⟩ : Tr)]).length = n + 1 := by rw [List.length_append, HO.out.2.2.1]; rfl
            have hp12 : (m ++ [(⟨5, ⟨#[]⟩, ⟨#[]⟩, 0, A', c', M⟩ : Tr)]).map pl = m.map pl ++ [nod 5 (L1 ++ (L2 ++ (L3 ++ [])))] := by rw [List.map_append, List.map_cons, List.map_nil, pl_nod, HMM.out]
            rw [hl12] at hrow12 ho12 hn12
            rw [hl12]
            generalize m ++ [(⟨5, ⟨#[]⟩, ⟨#[]⟩, 0, A', c', M⟩ : Tr)] = m12 at ek12 hrow12 hl12 hp12 ho12 hn12 ⊢
            have E12 := Lib.hid ek12
            have HR12 := Lib.hid hrow12
            have HO12 := Lib.hid (And.intro ho12 (And.intro hn12 (And.intro hl12 hp12)))
            clear ek11 ek12 hrow12 hg12 hat12 hz12 ho12 hn12 hl12 hp12 E11 HR11 HL11
            refine hK.out _ _ hS11 (fun _ => ?_)
            clear hK K
            try simp only [Act.put, List.setIfInBounds_toArray, List.set_cons_zero, List.set_cons_succ]
            refine wpAnyH_take_d (i := 12) (v := .slice A9 (n + 1) c9) 3 rfl rfl (by kernel_rfl) (by kernel_rfl) (by kernel_rfl) (fun _ _ _ h => h) (Or.inl ⟨by kernel_rfl, fun w' hS' => ?y12⟩) hS11 ?_
            case y12 => (skip; clear hS'; go_simp)
            simp only [Act.put, List.setIfInBounds_toArray, List.set_cons_zero, List.set_cons_succ]
            refine wpAnyH_done (by kernel_rfl) ?_ _
            refine NoPanic.normal ?_
            clear hS0 hS6 hS2 hS4 hS7 hS8 hS9 hS10 hS11
            have hn9 := HNM.out.2.2
            go_wp2
            go_roundw
            case rel => exact ⟨q, C3, m12, n + 1, A9, c9, zs12, rfl, Lib.hid ⟨E12.out.sub (by simp) (by simp), HR12.out, fun k hk => (HO12.out.1 k hk).resolve_right (fun hh => hh.2 hh.1), HO12.out.2.1, HO12.out.2.2.1, HNM.out.1, by rw [HO12.out.2.2.2]; exact HRES.out, HNM.out.2.1, HG.out.2.2.2.2.2.2.trans HO.out.2.2.2⟩⟩
            case measure => simp [vlen]; omega
end
end Dc
end Go.Proofs.YtfmlcddakfbleaaGreatDoor
