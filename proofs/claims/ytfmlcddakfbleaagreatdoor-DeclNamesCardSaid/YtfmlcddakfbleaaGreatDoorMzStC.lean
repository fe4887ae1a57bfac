/- stmt's statement. -/
import Derived.Test.YtfmlcddakfbleaaGreatDoorMzStB
namespace Go.Proofs.YtfmlcddakfbleaaGreatDoor
open Go.RowKit SignMath TreeMath

theorem WhatF.more {g b : Nat} {A : Option Addr} {c : Nat} {f : Cu → Cu × List Tr} {D E : Nat} (h : WhatF g b A c f D) (hD : D ≤ E) : WhatF g b A c f E := fun W C hm hk h2 h1 => h W C hm hk h2 (Nat.le_trans hD h1)
theorem ent_sexpr : Ent 103 := ent_of Tryz.func103 (by kernel_rfl) (by kernel_rfl)
theorem ent_stmts : Ent 50 := ent_of Tryz.func50 (by kernel_rfl) (by kernel_rfl)
theorem ent_stmt : Ent 73 := ent_of Tryz.func73 (by kernel_rfl) (by kernel_rfl)
section
variable {b : Nat} {A : Option Addr} {c : Nat}
theorem con_name2 {D : Nat} (x : Nat) : Con b A c D (.list 99 nam 1 x) := ⟨ent_sname, sname_any.more (Nat.zero_le _), (Got.nam D).zero, .inr fun _ _ => Nat.le_refl _⟩
theorem con_expr {D : Nat} (x : Nat) : Con b A c D (.list 103 exq 1 x) := ⟨ent_sexpr, sexpression_any.more (Nat.zero_le _), (Got.exq D), .inr fun _ _ => Nat.le_refl _⟩
set_option maxRecDepth 100000 in
set_option maxHeartbeats 16000000 in
theorem statement_any {st : Cu → Cu × Tr} {D : Nat} (hS : PartF 73 b A c st (D + 1)) (hG : GX st (D + 1)) (hL : ∀ C : Cu, C.Ok → C.d ≤ 200 → D + 1 ≤ C.d → sbg C = true → (st C).1.left < C.left) : PartF 73 b A c (stt st) D := by
  intro w C h hk hd hD
  have HS : Hid ((∀ x, Con b A c (D + 1) (.list 50 (sts st) 9000 x)) ∧ ∀ x, Con b A c (D + 1) (.tree 73 st x)) := Lib.hid ⟨fun _ => ⟨ent_stmts, statements_any hS hG hL, Got.sts hG, .inl (Nat.le_refl _)⟩, fun _ => ⟨ent_stmt, hS, hG⟩⟩
  have ek2 := EK.starts h hk
  have HD := Lib.hid (down_any ek2.cu hk)
  have p0 := cell_heap (ek2.box (z := w.heap.size) (o := sdb b) (by simp)) (i := 0)
  simp only [List.getElem?_toArray, List.getElem?_cons_zero] at p0
  have E2 := Lib.hid ek2
  unfold CuV at HD
  cases hdn : C.down.2 with
  | false =>
    have hst : stt st C = (C.down.1, zn1) := by unfold stt; rw [if_neg (by rw [hdn]; decide)]
    rw [hst]
    have hGD := Got.down hk hdn [] 0
    have HG := Lib.hid (And.intro hGD.ok hGD.L)
    rw [hdn] at HD
    clear ek2 hGD hdn hS hG hL h hk hst HS
    go_enter_defers Tryz.func73, Tryz.ntmps73
    go_wp2_with fail
    refine HD.out.mono ?_
    rintro e w3 ⟨rfl, hm, ho⟩
    have ek3 := (E2.out.call hm HG.out ho).leaf (T := zn1) rfl ⟨by show (-9223372036854775808 : Int) ≤ 0; omega, by show (0 : Int) ≤ 9223372036854775807; omega⟩
    have hz := ek3.box (z := w.heap.size + 1) (o := zb5) (by simp)
    have hfin := ek3.result (r := (C.down.1, zn1)) (T := zn1) (z := w.heap.size + 1) (by simp) (by simp) hz rfl pl_leaf
    clear ek3 hm ho p0 HD E2
    go_wp2_with (with_reducible refine stay_store 30 (.tmp 2) (.tmp 7) (by rfl) ?_)
    refine Stay.mk ?_
    refine wpList_store_node (by rfl) 30 (.tmp 2) (.tmp 7) (by rfl) size_tnode (w.heap.size + 1) zn1 (by rfl) (by rfl) hz ?_
    generalize set5 w3 (w.heap.size + 1) zn1 = w9 at hfin ⊢
    clear hz
    obtain ⟨hs, hv⟩ := hfin
    have HV := Lib.hid hv
    clear hv
    go_wp2
    have g0 := cell_heap hs (i := 0)
    have g1 := cell_heap hs (i := 1)
    have g2 := cell_heap hs (i := 2)
    have g3 := cell_heap hs (i := 3)
    have g4 := cell_heap hs (i := 4)
    simp only [List.getElem?_toArray, List.getElem?_cons_zero, List.getElem?_cons_succ] at g0 g1 g2 g3 g4
    refine bodyPostD_ret (v := nv zn1) (by simp [results, Tryz.results73, go_sem, g0, g1, g2, g3, g4]) rfl HV.out
  | true =>
    obtain ⟨hf0, hd2, hdd⟩ := Cu.down_true hdn
    have hkd := hk.down
    have hLd : C.down.1.L = C.L := by rw [hdd]
    have hd1 : C.down.1.d = C.d + 1 := by rw [hdd]
    have hst : stt st C = ((bdy st C.down.1).1.up, (bdy st C.down.1).2) := by unfold stt; rw [if_pos hdn]
    have HB : Hid (C.down.1.d ≤ 200 ∧ D + 1 ≤ C.down.1.d ∧ C.down.1.Ok ∧ C.down.1.L = C.L) := Lib.hid ⟨by omega, by omega, hkd, hLd⟩
    rw [hdn] at HD
    rw [hst]
    clear ek2 hkd hLd hd1 hdn hS hG hL h hk hf0 hd2 hdd hst
    generalize C.down.1 = C1 at HB HD ⊢
    cases h1 : C1.isb 0 sBrO with
    | true =>
      have HT : Hid (bdy st C1 = ndq 10 [tkq [sBrO], sts st, tkq [sBrC]] C1) := Lib.hid (by unfold bdy; simp only [h1, if_true])
      rw [HT.out]
      go_enter_defers Tryz.func73, Tryz.ntmps73
      go_wp2_with fail
      refine HD.out.mono ?_
      rintro e w3 ⟨rfl, hm, ho⟩
      have E3 := Lib.hid (E2.out.call hm ⟨HB.out.2.2.1, HB.out.2.2.2⟩ ho)
      clear hm ho HD E2 p0
      have p0 := cell_heap (E3.out.box (z := w.heap.size) (o := sdb b) (by simp)) (i := 0)
      simp only [List.getElem?_toArray, List.getElem?_cons_zero] at p0
      have HC := Lib.hid (E3.out.isq 0 sBrO ⟨by omega, by omega⟩)
      rw [h1] at HC
      go_wp2_with fail
      refine HC.out.mono ?_
      rintro e v1 ⟨rfl, ek_⟩
      have E4 := Lib.hid ek_
      clear ek_ HC E3 p0
      clear h1
      go_wp2
      rename_i K0 hK0
      refine region_any (D := [.load, .row [sBrO], .toks [sBrO] 0 1, .load, .list 50 (sts st) 9000 3, .load, .row [sBrC], .toks [sBrC] 5 6, .bund [2, 4, 7], .node 10 8, .store 9]) (base := 14) (nt := 111) (Dp := D + 1) (z1 := w.heap.size) (z2 := w.heap.size + 1) (by omega) (Nat.le_of_ble_eq_true rfl) HB.out.1 HB.out.2.1
        ⟨⟨rfl, ⟨rfl, rfl⟩, by kernel_rfl, by kernel_rfl, by kernel_rfl, trivial, trivial⟩, ⟨rfl, ⟨⟨_, rfl, rfl⟩, by decide, rfl⟩, by kernel_rfl, by kernel_rfl, by kernel_rfl, (by show _ ≤ 9; decide), trivial⟩, ⟨rfl, ⟨⟨_, rfl⟩, rfl⟩, by kernel_rfl, by kernel_rfl, by kernel_rfl, ⟨rfl, rfl, by decide⟩, trivial⟩, ⟨rfl, ⟨rfl, rfl⟩, by kernel_rfl, by kernel_rfl, by kernel_rfl, trivial, trivial⟩, ⟨rfl, ⟨⟨_, rfl⟩, rfl⟩, by kernel_rfl, by kernel_rfl, by kernel_rfl, rfl, (HS.out.1 3)⟩, ⟨rfl, ⟨rfl, rfl⟩, by kernel_rfl, by kernel_rfl, by kernel_rfl, trivial, trivial⟩, ⟨rfl, ⟨⟨_, rfl, rfl⟩, by decide, rfl⟩, by kernel_rfl, by kernel_rfl, by kernel_rfl, (by show _ ≤ 9; decide), trivial⟩, ⟨rfl, ⟨⟨_, rfl⟩, rfl⟩, by kernel_rfl, by kernel_rfl, by kernel_rfl, ⟨rfl, rfl, by decide⟩, trivial⟩, ⟨rfl, ⟨⟨_, rfl, rfl⟩, by decide, rfl⟩, by kernel_rfl, by kernel_rfl, by kernel_rfl, ⟨by decide, by kernel_rfl, Nat.le_of_ble_eq_true (by kernel_rfl)⟩, trivial⟩, ⟨rfl, ⟨⟨_, rfl⟩, rfl⟩, by kernel_rfl, by kernel_rfl, by kernel_rfl, ⟨_, rfl⟩, trivial⟩, ⟨rfl, ⟨rfl, rfl⟩, by kernel_rfl, by kernel_rfl, by kernel_rfl, ⟨_, _, rfl⟩, trivial⟩, trivial⟩ (Nat.succ_pos _) rfl rfl rfl E4.out (by simp) (by simp) (by simp) ?_
      intro a' W' T zs' x g1 g2 g3 g4 g5 ek hp
      have g5 : some (Kd.store 9) = some (Kd.store x) := g5
      injection g5 with g5
      injection g5 with g5
      subst g5
      have hp : pl T = (ndq 10 [tkq [sBrO], sts st, tkq [sBrC]] C1).2 := by simpa [nvl, bv, pv, tv, cuA, Kd.go, ndq, sq, on1] using hp
      have hc : cuA [.load, .row [sBrO], .toks [sBrO] 0 1, .load, .list 50 (sts st) 9000 3, .load, .row [sBrC], .toks [sBrC] 5 6, .bund [2, 4, 7], .node 10 8, .store 9] C1 11 = (ndq 10 [tkq [sBrO], sts st, tkq [sBrC]] C1).1 := by simp [cuA, Kd.go, ndq, sq]
      have ek : EK b A c no (· = b) w (cuA [.load, .row [sBrO], .toks [sBrO] 0 1, .load, .list 50 (sts st) 9000 3, .load, .row [sBrC], .toks [sBrC] 5 6, .bund [2, 4, 7], .node 10 8, .store 9] C1 11) [(w.heap.size + 1, .cells (ncc T) 30 (0, 0))] zs' [T] W' := ek
      rw [hc] at ek
      clear hc
      have E9 := Lib.hid ek
      have HP := Lib.hid hp
      show K0 a' W'
      refine hK0 _ _ ?_
      clear hK0 ek hp HS HT
      go_wp2
      generalize (ndq 10 [tkq [sBrO], sts st, tkq [sBrC]] C1).1 = C9 at E9 ⊢
      generalize (ndq 10 [tkq [sBrO], sts st, tkq [sBrC]] C1).2 = T9 at HP ⊢
      refine bodyPostD_up E9.out.cu E9.out.ok g1 fun w' hm ho => ?_
      have ek11 := E9.out.call hm ⟨E9.out.ok.up, rfl⟩ ho
      have hs := ek11.box (z := w.heap.size + 1) (o := .cells (ncc T) 30 (0, 0)) (by simp)
      exact ⟨nv T, results_cell rfl g4 hs, ek11.fin (by simp) rfl HP.out⟩
    | false =>
      cases h2 : C1.isb 0 sIf with
      | true =>
        have HT : Hid (bdy st C1 = ndq 11 [tkq [sIf, sRo], exq, tkq [sRo2], on1 st, tkq [sElse], on1 st] C1) := Lib.hid (by unfold bdy; simp only [h1, h2, Bool.false_eq_true, if_false, if_true])
        rw [HT.out]
        go_enter_defers Tryz.func73, Tryz.ntmps73
        go_wp2_with fail
        refine HD.out.mono ?_
        rintro e w3 ⟨rfl, hm, ho⟩
        have E3 := Lib.hid (E2.out.call hm ⟨HB.out.2.2.1, HB.out.2.2.2⟩ ho)
        clear hm ho HD E2 p0
        have p0 := cell_heap (E3.out.box (z := w.heap.size) (o := sdb b) (by simp)) (i := 0)
        simp only [List.getElem?_toArray, List.getElem?_cons_zero] at p0
        have HC := Lib.hid (E3.out.isq 0 sBrO ⟨by omega, by omega⟩)
        rw [h1] at HC
        go_wp2_with fail
        refine HC.out.mono ?_
        rintro e v1 ⟨rfl, ek_⟩
        have E4 := Lib.hid ek_
        clear ek_ HC E3 p0
        have p0 := cell_heap (E4.out.box (z := w.heap.size) (o := sdb b) (by simp)) (i := 0)
        simp only [List.getElem?_toArray, List.getElem?_cons_zero] at p0
        have HC := Lib.hid (E4.out.isq 0 sIf ⟨by omega, by omega⟩)
        rw [h2] at HC
        go_wp2_with fail
        refine HC.out.mono ?_
        rintro e v2 ⟨rfl, ek_⟩
        have E5 := Lib.hid ek_
        clear ek_ HC E4 p0
        clear h1 h2
        go_wp2
        rename_i K0 hK0
        refine region_any (D := [.load, .row [sIf, sRo], .toks [sIf, sRo] 0 1, .load, .list 103 exq 1 3, .load, .row [sRo2], .toks [sRo2] 5 6, .load, .tree 73 st 8, .one 9, .load, .row [sElse], .toks [sElse] 11 12, .load, .tree 73 st 14, .one 15, .bund [2, 4, 7, 10, 13, 16], .node 11 17, .store 18]) (base := 28) (nt := 111) (Dp := D + 1) (z1 := w.heap.size) (z2 := w.heap.size + 1) (by omega) (Nat.le_of_ble_eq_true rfl) HB.out.1 HB.out.2.1
          ⟨⟨rfl, ⟨rfl, rfl⟩, by kernel_rfl, by kernel_rfl, by kernel_rfl, trivial, trivial⟩, ⟨rfl, ⟨⟨_, rfl, rfl⟩, by decide, rfl⟩, by kernel_rfl, by kernel_rfl, by kernel_rfl, (by show _ ≤ 9; decide), trivial⟩, ⟨rfl, ⟨⟨_, rfl⟩, rfl⟩, by kernel_rfl, by kernel_rfl, by kernel_rfl, ⟨rfl, rfl, by decide⟩, trivial⟩, ⟨rfl, ⟨rfl, rfl⟩, by kernel_rfl, by kernel_rfl, by kernel_rfl, trivial, trivial⟩, ⟨rfl, ⟨⟨_, rfl⟩, rfl⟩, by kernel_rfl, by kernel_rfl, by kernel_rfl, rfl, (con_expr 3)⟩, ⟨rfl, ⟨rfl, rfl⟩, by kernel_rfl, by kernel_rfl, by kernel_rfl, trivial, trivial⟩, ⟨rfl, ⟨⟨_, rfl, rfl⟩, by decide, rfl⟩, by kernel_rfl, by kernel_rfl, by kernel_rfl, (by show _ ≤ 9; decide), trivial⟩, ⟨rfl, ⟨⟨_, rfl⟩, rfl⟩, by kernel_rfl, by kernel_rfl, by kernel_rfl, ⟨rfl, rfl, by decide⟩, trivial⟩, ⟨rfl, ⟨rfl, rfl⟩, by kernel_rfl, by kernel_rfl, by kernel_rfl, trivial, trivial⟩, ⟨rfl, ⟨⟨_, rfl⟩, rfl⟩, by kernel_rfl, by kernel_rfl, by kernel_rfl, rfl, (HS.out.2 8)⟩, ⟨rfl, ⟨⟨_, rfl⟩, rfl⟩, by kernel_rfl, by kernel_rfl, by kernel_rfl, ⟨_, _, _, rfl⟩, trivial⟩, ⟨rfl, ⟨rfl, rfl⟩, by kernel_rfl, by kernel_rfl, by kernel_rfl, trivial, trivial⟩, ⟨rfl, ⟨⟨_, rfl, rfl⟩, by decide, rfl⟩, by kernel_rfl, by kernel_rfl, by kernel_rfl, (by show _ ≤ 9; decide), trivial⟩, ⟨rfl, ⟨⟨_, rfl⟩, rfl⟩, by kernel_rfl, by kernel_rfl, by kernel_rfl, ⟨rfl, rfl, by decide⟩, trivial⟩, ⟨rfl, ⟨rfl, rfl⟩, by kernel_rfl, by kernel_rfl, by kernel_rfl, trivial, trivial⟩, ⟨rfl, ⟨⟨_, rfl⟩, rfl⟩, by kernel_rfl, by kernel_rfl, by kernel_rfl, rfl, (HS.out.2 14)⟩, ⟨rfl, ⟨⟨_, rfl⟩, rfl⟩, by kernel_rfl, by kernel_rfl, by kernel_rfl, ⟨_, _, _, rfl⟩, trivial⟩, ⟨rfl, ⟨⟨_, rfl, rfl⟩, by decide, rfl⟩, by kernel_rfl, by kernel_rfl, by kernel_rfl, ⟨by decide, by kernel_rfl, Nat.le_of_ble_eq_true (by kernel_rfl)⟩, trivial⟩, ⟨rfl, ⟨⟨_, rfl⟩, rfl⟩, by kernel_rfl, by kernel_rfl, by kernel_rfl, ⟨_, rfl⟩, trivial⟩, ⟨rfl, ⟨rfl, rfl⟩, by kernel_rfl, by kernel_rfl, by kernel_rfl, ⟨_, _, rfl⟩, trivial⟩, trivial⟩ (Nat.succ_pos _) rfl rfl rfl E5.out (by simp) (by simp) (by simp) ?_
        intro a' W' T zs' x g1 g2 g3 g4 g5 ek hp
        have g5 : some (Kd.store 18) = some (Kd.store x) := g5
        injection g5 with g5
        injection g5 with g5
        subst g5
        have hp : pl T = (ndq 11 [tkq [sIf, sRo], exq, tkq [sRo2], on1 st, tkq [sElse], on1 st] C1).2 := by simpa [nvl, bv, pv, tv, cuA, Kd.go, ndq, sq, on1] using hp
        have hc : cuA [.load, .row [sIf, sRo], .toks [sIf, sRo] 0 1, .load, .list 103 exq 1 3, .load, .row [sRo2], .toks [sRo2] 5 6, .load, .tree 73 st 8, .one 9, .load, .row [sElse], .toks [sElse] 11 12, .load, .tree 73 st 14, .one 15, .bund [2, 4, 7, 10, 13, 16], .node 11 17, .store 18] C1 20 = (ndq 11 [tkq [sIf, sRo], exq, tkq [sRo2], on1 st, tkq [sElse], on1 st] C1).1 := by simp [cuA, Kd.go, ndq, sq, on1]
        have ek : EK b A c no (· = b) w (cuA [.load, .row [sIf, sRo], .toks [sIf, sRo] 0 1, .load, .list 103 exq 1 3, .load, .row [sRo2], .toks [sRo2] 5 6, .load, .tree 73 st 8, .one 9, .load, .row [sElse], .toks [sElse] 11 12, .load, .tree 73 st 14, .one 15, .bund [2, 4, 7, 10, 13, 16], .node 11 17, .store 18] C1 20) [(w.heap.size + 1, .cells (ncc T) 30 (0, 0))] zs' [T] W' := ek
        rw [hc] at ek
        clear hc
        have E9 := Lib.hid ek
        have HP := Lib.hid hp
        show K0 a' W'
        refine hK0 _ _ ?_
        clear hK0 ek hp HS HT
        go_wp2
        generalize (ndq 11 [tkq [sIf, sRo], exq, tkq [sRo2], on1 st, tkq [sElse], on1 st] C1).1 = C9 at E9 ⊢
        generalize (ndq 11 [tkq [sIf, sRo], exq, tkq [sRo2], on1 st, tkq [sElse], on1 st] C1).2 = T9 at HP ⊢
        refine bodyPostD_up E9.out.cu E9.out.ok g1 fun w' hm ho => ?_
        have ek11 := E9.out.call hm ⟨E9.out.ok.up, rfl⟩ ho
        have hs := ek11.box (z := w.heap.size + 1) (o := .cells (ncc T) 30 (0, 0)) (by simp)
        exact ⟨nv T, results_cell rfl g4 hs, ek11.fin (by simp) rfl HP.out⟩
      | false =>
        cases h3 : C1.isb 0 sWhile with
        | true =>
          have HT : Hid (bdy st C1 = ndq 12 [tkq [sWhile, sRo], exq, tkq [sRo2], on1 st] C1) := Lib.hid (by unfold bdy; simp only [h1, h2, h3, Bool.false_eq_true, if_false, if_true])
          rw [HT.out]
          go_enter_defers Tryz.func73, Tryz.ntmps73
          go_wp2_with fail
          refine HD.out.mono ?_
          rintro e w3 ⟨rfl, hm, ho⟩
          have E3 := Lib.hid (E2.out.call hm ⟨HB.out.2.2.1, HB.out.2.2.2⟩ ho)
          clear hm ho HD E2 p0
          have p0 := cell_heap (E3.out.box (z := w.heap.size) (o := sdb b) (by simp)) (i := 0)
          simp only [List.getElem?_toArray, List.getElem?_cons_zero] at p0
          have HC := Lib.hid (E3.out.isq 0 sBrO ⟨by omega, by omega⟩)
          rw [h1] at HC
          go_wp2_with fail
          refine HC.out.mono ?_
          rintro e v1 ⟨rfl, ek_⟩
          have E4 := Lib.hid ek_
          clear ek_ HC E3 p0
          have p0 := cell_heap (E4.out.box (z := w.heap.size) (o := sdb b) (by simp)) (i := 0)
          simp only [List.getElem?_toArray, List.getElem?_cons_zero] at p0
          have HC := Lib.hid (E4.out.isq 0 sIf ⟨by omega, by omega⟩)
          rw [h2] at HC
          go_wp2_with fail
          refine HC.out.mono ?_
          rintro e v2 ⟨rfl, ek_⟩
          have E5 := Lib.hid ek_
          clear ek_ HC E4 p0
          have p0 := cell_heap (E5.out.box (z := w.heap.size) (o := sdb b) (by simp)) (i := 0)
          simp only [List.getElem?_toArray, List.getElem?_cons_zero] at p0
          have HC := Lib.hid (E5.out.isq 0 sWhile ⟨by omega, by omega⟩)
          rw [h3] at HC
          go_wp2_with fail
          refine HC.out.mono ?_
          rintro e v3 ⟨rfl, ek_⟩
          have E6 := Lib.hid ek_
          clear ek_ HC E5 p0
          clear h1 h2 h3
          go_wp2
          rename_i K0 hK0
          refine region_any (D := [.load, .row [sWhile, sRo], .toks [sWhile, sRo] 0 1, .load, .list 103 exq 1 3, .load, .row [sRo2], .toks [sRo2] 5 6, .load, .tree 73 st 8, .one 9, .bund [2, 4, 7, 10], .node 12 11, .store 12]) (base := 51) (nt := 111) (Dp := D + 1) (z1 := w.heap.size) (z2 := w.heap.size + 1) (by omega) (Nat.le_of_ble_eq_true rfl) HB.out.1 HB.out.2.1
            ⟨⟨rfl, ⟨rfl, rfl⟩, by kernel_rfl, by kernel_rfl, by kernel_rfl, trivial, trivial⟩, ⟨rfl, ⟨⟨_, rfl, rfl⟩, by decide, rfl⟩, by kernel_rfl, by kernel_rfl, by kernel_rfl, (by show _ ≤ 9; decide), trivial⟩, ⟨rfl, ⟨⟨_, rfl⟩, rfl⟩, by kernel_rfl, by kernel_rfl, by kernel_rfl, ⟨rfl, rfl, by decide⟩, trivial⟩, ⟨rfl, ⟨rfl, rfl⟩, by kernel_rfl, by kernel_rfl, by kernel_rfl, trivial, trivial⟩, ⟨rfl, ⟨⟨_, rfl⟩, rfl⟩, by kernel_rfl, by kernel_rfl, by kernel_rfl, rfl, (con_expr 3)⟩, ⟨rfl, ⟨rfl, rfl⟩, by kernel_rfl, by kernel_rfl, by kernel_rfl, trivial, trivial⟩, ⟨rfl, ⟨⟨_, rfl, rfl⟩, by decide, rfl⟩, by kernel_rfl, by kernel_rfl, by kernel_rfl, (by show _ ≤ 9; decide), trivial⟩, ⟨rfl, ⟨⟨_, rfl⟩, rfl⟩, by kernel_rfl, by kernel_rfl, by kernel_rfl, ⟨rfl, rfl, by decide⟩, trivial⟩, ⟨rfl, ⟨rfl, rfl⟩, by kernel_rfl, by kernel_rfl, by kernel_rfl, trivial, trivial⟩, ⟨rfl, ⟨⟨_, rfl⟩, rfl⟩, by kernel_rfl, by kernel_rfl, by kernel_rfl, rfl, (HS.out.2 8)⟩, ⟨rfl, ⟨⟨_, rfl⟩, rfl⟩, by kernel_rfl, by kernel_rfl, by kernel_rfl, ⟨_, _, _, rfl⟩, trivial⟩, ⟨rfl, ⟨⟨_, rfl, rfl⟩, by decide, rfl⟩, by kernel_rfl, by kernel_rfl, by kernel_rfl, ⟨by decide, by kernel_rfl, Nat.le_of_ble_eq_true (by kernel_rfl)⟩, trivial⟩, ⟨rfl, ⟨⟨_, rfl⟩, rfl⟩, by kernel_rfl, by kernel_rfl, by kernel_rfl, ⟨_, rfl⟩, trivial⟩, ⟨rfl, ⟨rfl, rfl⟩, by kernel_rfl, by kernel_rfl, by kernel_rfl, ⟨_, _, rfl⟩, trivial⟩, trivial⟩ (Nat.succ_pos _) rfl rfl rfl E6.out (by simp) (by simp) (by simp) ?_
          intro a' W' T zs' x g1 g2 g3 g4 g5 ek hp
          have g5 : some (Kd.store 12) = some (Kd.store x) := g5
          injection g5 with g5
          injection g5 with g5
          subst g5
          have hp : pl T = (ndq 12 [tkq [sWhile, sRo], exq, tkq [sRo2], on1 st] C1).2 := by simpa [nvl, bv, pv, tv, cuA, Kd.go, ndq, sq, on1] using hp
          have hc : cuA [.load, .row [sWhile, sRo], .toks [sWhile, sRo] 0 1, .load, .list 103 exq 1 3, .load, .row [sRo2], .toks [sRo2] 5 6, .load, .tree 73 st 8, .one 9, .bund [2, 4, 7, 10], .node 12 11, .store 12] C1 14 = (ndq 12 [tkq [sWhile, sRo], exq, tkq [sRo2], on1 st] C1).1 := by simp [cuA, Kd.go, ndq, sq, on1]
          have ek : EK b A c no (· = b) w (cuA [.load, .row [sWhile, sRo], .toks [sWhile, sRo] 0 1, .load, .list 103 exq 1 3, .load, .row [sRo2], .toks [sRo2] 5 6, .load, .tree 73 st 8, .one 9, .bund [2, 4, 7, 10], .node 12 11, .store 12] C1 14) [(w.heap.size + 1, .cells (ncc T) 30 (0, 0))] zs' [T] W' := ek
          rw [hc] at ek
          clear hc
          have E9 := Lib.hid ek
          have HP := Lib.hid hp
          show K0 a' W'
          refine hK0 _ _ ?_
          clear hK0 ek hp HS HT
          go_wp2
          generalize (ndq 12 [tkq [sWhile, sRo], exq, tkq [sRo2], on1 st] C1).1 = C9 at E9 ⊢
          generalize (ndq 12 [tkq [sWhile, sRo], exq, tkq [sRo2], on1 st] C1).2 = T9 at HP ⊢
          refine bodyPostD_up E9.out.cu E9.out.ok g1 fun w' hm ho => ?_
          have ek11 := E9.out.call hm ⟨E9.out.ok.up, rfl⟩ ho
          have hs := ek11.box (z := w.heap.size + 1) (o := .cells (ncc T) 30 (0, 0)) (by simp)
          exact ⟨nv T, results_cell rfl g4 hs, ek11.fin (by simp) rfl HP.out⟩
        | false =>
          cases h4 : C1.isb 0 sPrint with
          | true =>
            have HT : Hid (bdy st C1 = ndq 13 [tkq [sPrint, sRo], exq, tkq [sRo2, sSemi]] C1) := Lib.hid (by unfold bdy; simp only [h1, h2, h3, h4, Bool.false_eq_true, if_false, if_true])
            rw [HT.out]
            go_enter_defers Tryz.func73, Tryz.ntmps73
            go_wp2_with fail
            refine HD.out.mono ?_
            rintro e w3 ⟨rfl, hm, ho⟩
            have E3 := Lib.hid (E2.out.call hm ⟨HB.out.2.2.1, HB.out.2.2.2⟩ ho)
            clear hm ho HD E2 p0
            have p0 := cell_heap (E3.out.box (z := w.heap.size) (o := sdb b) (by simp)) (i := 0)
            simp only [List.getElem?_toArray, List.getElem?_cons_zero] at p0
            have HC := Lib.hid (E3.out.isq 0 sBrO ⟨by omega, by omega⟩)
            rw [h1] at HC
            go_wp2_with fail
            refine HC.out.mono ?_
            rintro e v1 ⟨rfl, ek_⟩
            have E4 := Lib.hid ek_
            clear ek_ HC E3 p0
            have p0 := cell_heap (E4.out.box (z := w.heap.size) (o := sdb b) (by simp)) (i := 0)
            simp only [List.getElem?_toArray, List.getElem?_cons_zero] at p0
            have HC := Lib.hid (E4.out.isq 0 sIf ⟨by omega, by omega⟩)
            rw [h2] at HC
            go_wp2_with fail
            refine HC.out.mono ?_
            rintro e v2 ⟨rfl, ek_⟩
            have E5 := Lib.hid ek_
            clear ek_ HC E4 p0
            have p0 := cell_heap (E5.out.box (z := w.heap.size) (o := sdb b) (by simp)) (i := 0)
            simp only [List.getElem?_toArray, List.getElem?_cons_zero] at p0
            have HC := Lib.hid (E5.out.isq 0 sWhile ⟨by omega, by omega⟩)
            rw [h3] at HC
            go_wp2_with fail
            refine HC.out.mono ?_
            rintro e v3 ⟨rfl, ek_⟩
            have E6 := Lib.hid ek_
            clear ek_ HC E5 p0
            have p0 := cell_heap (E6.out.box (z := w.heap.size) (o := sdb b) (by simp)) (i := 0)
            simp only [List.getElem?_toArray, List.getElem?_cons_zero] at p0
            have HC := Lib.hid (E6.out.isq 0 sPrint ⟨by omega, by omega⟩)
            rw [h4] at HC
            go_wp2_with fail
            refine HC.out.mono ?_
            rintro e v4 ⟨rfl, ek_⟩
            have E7 := Lib.hid ek_
            clear ek_ HC E6 p0
            clear h1 h2 h3 h4
            go_wp2
            rename_i K0 hK0
            refine region_any (D := [.load, .row [sPrint, sRo], .toks [sPrint, sRo] 0 1, .load, .list 103 exq 1 3, .load, .row [sRo2, sSemi], .toks [sRo2, sSemi] 5 6, .bund [2, 4, 7], .node 13 8, .store 9]) (base := 68) (nt := 111) (Dp := D + 1) (z1 := w.heap.size) (z2 := w.heap.size + 1) (by omega) (Nat.le_of_ble_eq_true rfl) HB.out.1 HB.out.2.1
              ⟨⟨rfl, ⟨rfl, rfl⟩, by kernel_rfl, by kernel_rfl, by kernel_rfl, trivial, trivial⟩, ⟨rfl, ⟨⟨_, rfl, rfl⟩, by decide, rfl⟩, by kernel_rfl, by kernel_rfl, by kernel_rfl, (by show _ ≤ 9; decide), trivial⟩, ⟨rfl, ⟨⟨_, rfl⟩, rfl⟩, by kernel_rfl, by kernel_rfl, by kernel_rfl, ⟨rfl, rfl, by decide⟩, trivial⟩, ⟨rfl, ⟨rfl, rfl⟩, by kernel_rfl, by kernel_rfl, by kernel_rfl, trivial, trivial⟩, ⟨rfl, ⟨⟨_, rfl⟩, rfl⟩, by kernel_rfl, by kernel_rfl, by kernel_rfl, rfl, (con_expr 3)⟩, ⟨rfl, ⟨rfl, rfl⟩, by kernel_rfl, by kernel_rfl, by kernel_rfl, trivial, trivial⟩, ⟨rfl, ⟨⟨_, rfl, rfl⟩, by decide, rfl⟩, by kernel_rfl, by kernel_rfl, by kernel_rfl, (by show _ ≤ 9; decide), trivial⟩, ⟨rfl, ⟨⟨_, rfl⟩, rfl⟩, by kernel_rfl, by kernel_rfl, by kernel_rfl, ⟨rfl, rfl, by decide⟩, trivial⟩, ⟨rfl, ⟨⟨_, rfl, rfl⟩, by decide, rfl⟩, by kernel_rfl, by kernel_rfl, by kernel_rfl, ⟨by decide, by kernel_rfl, Nat.le_of_ble_eq_true (by kernel_rfl)⟩, trivial⟩, ⟨rfl, ⟨⟨_, rfl⟩, rfl⟩, by kernel_rfl, by kernel_rfl, by kernel_rfl, ⟨_, rfl⟩, trivial⟩, ⟨rfl, ⟨rfl, rfl⟩, by kernel_rfl, by kernel_rfl, by kernel_rfl, ⟨_, _, rfl⟩, trivial⟩, trivial⟩ (Nat.succ_pos _) rfl rfl rfl E7.out (by simp) (by simp) (by simp) ?_
            intro a' W' T zs' x g1 g2 g3 g4 g5 ek hp
            have g5 : some (Kd.store 9) = some (Kd.store x) := g5
            injection g5 with g5
            injection g5 with g5
            subst g5
            have hp : pl T = (ndq 13 [tkq [sPrint, sRo], exq, tkq [sRo2, sSemi]] C1).2 := by simpa [nvl, bv, pv, tv, cuA, Kd.go, ndq, sq, on1] using hp
            have hc : cuA [.load, .row [sPrint, sRo], .toks [sPrint, sRo] 0 1, .load, .list 103 exq 1 3, .load, .row [sRo2, sSemi], .toks [sRo2, sSemi] 5 6, .bund [2, 4, 7], .node 13 8, .store 9] C1 11 = (ndq 13 [tkq [sPrint, sRo], exq, tkq [sRo2, sSemi]] C1).1 := by simp [cuA, Kd.go, ndq, sq]
            have ek : EK b A c no (· = b) w (cuA [.load, .row [sPrint, sRo], .toks [sPrint, sRo] 0 1, .load, .list 103 exq 1 3, .load, .row [sRo2, sSemi], .toks [sRo2, sSemi] 5 6, .bund [2, 4, 7], .node 13 8, .store 9] C1 11) [(w.heap.size + 1, .cells (ncc T) 30 (0, 0))] zs' [T] W' := ek
            rw [hc] at ek
            clear hc
            have E9 := Lib.hid ek
            have HP := Lib.hid hp
            show K0 a' W'
            refine hK0 _ _ ?_
            clear hK0 ek hp HS HT
            go_wp2
            generalize (ndq 13 [tkq [sPrint, sRo], exq, tkq [sRo2, sSemi]] C1).1 = C9 at E9 ⊢
            generalize (ndq 13 [tkq [sPrint, sRo], exq, tkq [sRo2, sSemi]] C1).2 = T9 at HP ⊢
            refine bodyPostD_up E9.out.cu E9.out.ok g1 fun w' hm ho => ?_
            have ek11 := E9.out.call hm ⟨E9.out.ok.up, rfl⟩ ho
            have hs := ek11.box (z := w.heap.size + 1) (o := .cells (ncc T) 30 (0, 0)) (by simp)
            exact ⟨nv T, results_cell rfl g4 hs, ek11.fin (by simp) rfl HP.out⟩
          | false =>
            cases h5 : C1.isb 1 sSq with
            | true =>
              have HT : Hid (bdy st C1 = ndq 15 [nam, tkq [sSq], exq, tkq [sSq2, sEq], exq, tkq [sSemi]] C1) := Lib.hid (by unfold bdy; simp only [h1, h2, h3, h4, h5, Bool.false_eq_true, if_false, if_true])
              rw [HT.out]
              go_enter_defers Tryz.func73, Tryz.ntmps73
              go_wp2_with fail
              refine HD.out.mono ?_
              rintro e w3 ⟨rfl, hm, ho⟩
              have E3 := Lib.hid (E2.out.call hm ⟨HB.out.2.2.1, HB.out.2.2.2⟩ ho)
              clear hm ho HD E2 p0
              have p0 := cell_heap (E3.out.box (z := w.heap.size) (o := sdb b) (by simp)) (i := 0)
              simp only [List.getElem?_toArray, List.getElem?_cons_zero] at p0
              have HC := Lib.hid (E3.out.isq 0 sBrO ⟨by omega, by omega⟩)
              rw [h1] at HC
              go_wp2_with fail
              refine HC.out.mono ?_
              rintro e v1 ⟨rfl, ek_⟩
              have E4 := Lib.hid ek_
              clear ek_ HC E3 p0
              have p0 := cell_heap (E4.out.box (z := w.heap.size) (o := sdb b) (by simp)) (i := 0)
              simp only [List.getElem?_toArray, List.getElem?_cons_zero] at p0
              have HC := Lib.hid (E4.out.isq 0 sIf ⟨by omega, by omega⟩)
              rw [h2] at HC
              go_wp2_with fail
              refine HC.out.mono ?_
              rintro e v2 ⟨rfl, ek_⟩
              have E5 := Lib.hid ek_
              clear ek_ HC E4 p0
              have p0 := cell_heap (E5.out.box (z := w.heap.size) (o := sdb b) (by simp)) (i := 0)
              simp only [List.getElem?_toArray, List.getElem?_cons_zero] at p0
              have HC := Lib.hid (E5.out.isq 0 sWhile ⟨by omega, by omega⟩)
              rw [h3] at HC
              go_wp2_with fail
              refine HC.out.mono ?_
              rintro e v3 ⟨rfl, ek_⟩
              have E6 := Lib.hid ek_
              clear ek_ HC E5 p0
              have p0 := cell_heap (E6.out.box (z := w.heap.size) (o := sdb b) (by simp)) (i := 0)
              simp only [List.getElem?_toArray, List.getElem?_cons_zero] at p0
              have HC := Lib.hid (E6.out.isq 0 sPrint ⟨by omega, by omega⟩)
              rw [h4] at HC
              go_wp2_with fail
              refine HC.out.mono ?_
              rintro e v4 ⟨rfl, ek_⟩
              have E7 := Lib.hid ek_
              clear ek_ HC E6 p0
              have p0 := cell_heap (E7.out.box (z := w.heap.size) (o := sdb b) (by simp)) (i := 0)
              simp only [List.getElem?_toArray, List.getElem?_cons_zero] at p0
              have HC := Lib.hid (E7.out.isq 1 sSq ⟨by omega, by omega⟩)
              rw [h5] at HC
              go_wp2_with fail
              refine HC.out.mono ?_
              rintro e v5 ⟨rfl, ek_⟩
              have E8 := Lib.hid ek_
              clear ek_ HC E7 p0
              clear h1 h2 h3 h4 h5
              go_wp2
              rename_i K0 hK0
              refine region_any (D := [.load, .list 99 nam 1 0, .load, .row [sSq], .toks [sSq] 2 3, .load, .list 103 exq 1 5, .load, .row [sSq2, sEq], .toks [sSq2, sEq] 7 8, .load, .list 103 exq 1 10, .load, .row [sSemi], .toks [sSemi] 12 13, .bund [1, 4, 6, 9, 11, 14], .node 15 15, .store 16]) (base := 82) (nt := 111) (Dp := D + 1) (z1 := w.heap.size) (z2 := w.heap.size + 1) (by omega) (Nat.le_of_ble_eq_true rfl) HB.out.1 HB.out.2.1
                ⟨⟨rfl, ⟨rfl, rfl⟩, by kernel_rfl, by kernel_rfl, by kernel_rfl, trivial, trivial⟩, ⟨rfl, ⟨⟨_, rfl⟩, rfl⟩, by kernel_rfl, by kernel_rfl, by kernel_rfl, rfl, (con_name2 0)⟩, ⟨rfl, ⟨rfl, rfl⟩, by kernel_rfl, by kernel_rfl, by kernel_rfl, trivial, trivial⟩, ⟨rfl, ⟨⟨_, rfl, rfl⟩, by decide, rfl⟩, by kernel_rfl, by kernel_rfl, by kernel_rfl, (by show _ ≤ 9; decide), trivial⟩, ⟨rfl, ⟨⟨_, rfl⟩, rfl⟩, by kernel_rfl, by kernel_rfl, by kernel_rfl, ⟨rfl, rfl, by decide⟩, trivial⟩, ⟨rfl, ⟨rfl, rfl⟩, by kernel_rfl, by kernel_rfl, by kernel_rfl, trivial, trivial⟩, ⟨rfl, ⟨⟨_, rfl⟩, rfl⟩, by kernel_rfl, by kernel_rfl, by kernel_rfl, rfl, (con_expr 5)⟩, ⟨rfl, ⟨rfl, rfl⟩, by kernel_rfl, by kernel_rfl, by kernel_rfl, trivial, trivial⟩, ⟨rfl, ⟨⟨_, rfl, rfl⟩, by decide, rfl⟩, by kernel_rfl, by kernel_rfl, by kernel_rfl, (by show _ ≤ 9; decide), trivial⟩, ⟨rfl, ⟨⟨_, rfl⟩, rfl⟩, by kernel_rfl, by kernel_rfl, by kernel_rfl, ⟨rfl, rfl, by decide⟩, trivial⟩, ⟨rfl, ⟨rfl, rfl⟩, by kernel_rfl, by kernel_rfl, by kernel_rfl, trivial, trivial⟩, ⟨rfl, ⟨⟨_, rfl⟩, rfl⟩, by kernel_rfl, by kernel_rfl, by kernel_rfl, rfl, (con_expr 10)⟩, ⟨rfl, ⟨rfl, rfl⟩, by kernel_rfl, by kernel_rfl, by kernel_rfl, trivial, trivial⟩, ⟨rfl, ⟨⟨_, rfl, rfl⟩, by decide, rfl⟩, by kernel_rfl, by kernel_rfl, by kernel_rfl, (by show _ ≤ 9; decide), trivial⟩, ⟨rfl, ⟨⟨_, rfl⟩, rfl⟩, by kernel_rfl, by kernel_rfl, by kernel_rfl, ⟨rfl, rfl, by decide⟩, trivial⟩, ⟨rfl, ⟨⟨_, rfl, rfl⟩, by decide, rfl⟩, by kernel_rfl, by kernel_rfl, by kernel_rfl, ⟨by decide, by kernel_rfl, Nat.le_of_ble_eq_true (by kernel_rfl)⟩, trivial⟩, ⟨rfl, ⟨⟨_, rfl⟩, rfl⟩, by kernel_rfl, by kernel_rfl, by kernel_rfl, ⟨_, rfl⟩, trivial⟩, ⟨rfl, ⟨rfl, rfl⟩, by kernel_rfl, by kernel_rfl, by kernel_rfl, ⟨_, _, rfl⟩, trivial⟩, trivial⟩ (Nat.succ_pos _) rfl rfl rfl E8.out (by simp) (by simp) (by simp) ?_
              intro a' W' T zs' x g1 g2 g3 g4 g5 ek hp
              have g5 : some (Kd.store 16) = some (Kd.store x) := g5
              injection g5 with g5
              injection g5 with g5
              subst g5
              have hp : pl T = (ndq 15 [nam, tkq [sSq], exq, tkq [sSq2, sEq], exq, tkq [sSemi]] C1).2 := by simpa [nvl, bv, pv, tv, cuA, Kd.go, ndq, sq, on1] using hp
              have hc : cuA [.load, .list 99 nam 1 0, .load, .row [sSq], .toks [sSq] 2 3, .load, .list 103 exq 1 5, .load, .row [sSq2, sEq], .toks [sSq2, sEq] 7 8, .load, .list 103 exq 1 10, .load, .row [sSemi], .toks [sSemi] 12 13, .bund [1, 4, 6, 9, 11, 14], .node 15 15, .store 16] C1 18 = (ndq 15 [nam, tkq [sSq], exq, tkq [sSq2, sEq], exq, tkq [sSemi]] C1).1 := by simp [cuA, Kd.go, ndq, sq]
              have ek : EK b A c no (· = b) w (cuA [.load, .list 99 nam 1 0, .load, .row [sSq], .toks [sSq] 2 3, .load, .list 103 exq 1 5, .load, .row [sSq2, sEq], .toks [sSq2, sEq] 7 8, .load, .list 103 exq 1 10, .load, .row [sSemi], .toks [sSemi] 12 13, .bund [1, 4, 6, 9, 11, 14], .node 15 15, .store 16] C1 18) [(w.heap.size + 1, .cells (ncc T) 30 (0, 0))] zs' [T] W' := ek
              rw [hc] at ek
              clear hc
              have E9 := Lib.hid ek
              have HP := Lib.hid hp
              show K0 a' W'
              refine hK0 _ _ ?_
              clear hK0 ek hp HS HT
              go_wp2
              generalize (ndq 15 [nam, tkq [sSq], exq, tkq [sSq2, sEq], exq, tkq [sSemi]] C1).1 = C9 at E9 ⊢
              generalize (ndq 15 [nam, tkq [sSq], exq, tkq [sSq2, sEq], exq, tkq [sSemi]] C1).2 = T9 at HP ⊢
              refine bodyPostD_up E9.out.cu E9.out.ok g1 fun w' hm ho => ?_
              have ek11 := E9.out.call hm ⟨E9.out.ok.up, rfl⟩ ho
              have hs := ek11.box (z := w.heap.size + 1) (o := .cells (ncc T) 30 (0, 0)) (by simp)
              exact ⟨nv T, results_cell rfl g4 hs, ek11.fin (by simp) rfl HP.out⟩
            | false =>
              have HT : Hid (bdy st C1 = ndq 14 [nam, tkq [sEq], exq, tkq [sSemi]] C1) := Lib.hid (by unfold bdy; simp only [h1, h2, h3, h4, h5, Bool.false_eq_true, if_false])
              rw [HT.out]
              go_enter_defers Tryz.func73, Tryz.ntmps73
              go_wp2_with fail
              refine HD.out.mono ?_
              rintro e w3 ⟨rfl, hm, ho⟩
              have E3 := Lib.hid (E2.out.call hm ⟨HB.out.2.2.1, HB.out.2.2.2⟩ ho)
              clear hm ho HD E2 p0
              have p0 := cell_heap (E3.out.box (z := w.heap.size) (o := sdb b) (by simp)) (i := 0)
              simp only [List.getElem?_toArray, List.getElem?_cons_zero] at p0
              have HC := Lib.hid (E3.out.isq 0 sBrO ⟨by omega, by omega⟩)
              rw [h1] at HC
              go_wp2_with fail
              refine HC.out.mono ?_
              rintro e v1 ⟨rfl, ek_⟩
              have E4 := Lib.hid ek_
              clear ek_ HC E3 p0
              have p0 := cell_heap (E4.out.box (z := w.heap.size) (o := sdb b) (by simp)) (i := 0)
              simp only [List.getElem?_toArray, List.getElem?_cons_zero] at p0
              have HC := Lib.hid (E4.out.isq 0 sIf ⟨by omega, by omega⟩)
              rw [h2] at HC
              go_wp2_with fail
              refine HC.out.mono ?_
              rintro e v2 ⟨rfl, ek_⟩
              have E5 := Lib.hid ek_
              clear ek_ HC E4 p0
              have p0 := cell_heap (E5.out.box (z := w.heap.size) (o := sdb b) (by simp)) (i := 0)
              simp only [List.getElem?_toArray, List.getElem?_cons_zero] at p0
              have HC := Lib.hid (E5.out.isq 0 sWhile ⟨by omega, by omega⟩)
              rw [h3] at HC
              go_wp2_with fail
              refine HC.out.mono ?_
              rintro e v3 ⟨rfl, ek_⟩
              have E6 := Lib.hid ek_
              clear ek_ HC E5 p0
              have p0 := cell_heap (E6.out.box (z := w.heap.size) (o := sdb b) (by simp)) (i := 0)
              simp only [List.getElem?_toArray, List.getElem?_cons_zero] at p0
              have HC := Lib.hid (E6.out.isq 0 sPrint ⟨by omega, by omega⟩)
              rw [h4] at HC
              go_wp2_with fail
              refine HC.out.mono ?_
              rintro e v4 ⟨rfl, ek_⟩
              have E7 := Lib.hid ek_
              clear ek_ HC E6 p0
              have p0 := cell_heap (E7.out.box (z := w.heap.size) (o := sdb b) (by simp)) (i := 0)
              simp only [List.getElem?_toArray, List.getElem?_cons_zero] at p0
              have HC := Lib.hid (E7.out.isq 1 sSq ⟨by omega, by omega⟩)
              rw [h5] at HC
              go_wp2_with fail
              refine HC.out.mono ?_
              rintro e v5 ⟨rfl, ek_⟩
              have E8 := Lib.hid ek_
              clear ek_ HC E7 p0
              clear h1 h2 h3 h4 h5
              go_wp2
              rename_i K0 hK0
              refine region_any (D := [.load, .list 99 nam 1 0, .load, .row [sEq], .toks [sEq] 2 3, .load, .list 103 exq 1 5, .load, .row [sSemi], .toks [sSemi] 7 8, .bund [1, 4, 6, 9], .node 14 10, .store 11]) (base := 99) (nt := 111) (Dp := D + 1) (z1 := w.heap.size) (z2 := w.heap.size + 1) (by omega) (Nat.le_of_ble_eq_true rfl) HB.out.1 HB.out.2.1
                ⟨⟨rfl, ⟨rfl, rfl⟩, by kernel_rfl, by kernel_rfl, by kernel_rfl, trivial, trivial⟩, ⟨rfl, ⟨⟨_, rfl⟩, rfl⟩, by kernel_rfl, by kernel_rfl, by kernel_rfl, rfl, (con_name2 0)⟩, ⟨rfl, ⟨rfl, rfl⟩, by kernel_rfl, by kernel_rfl, by kernel_rfl, trivial, trivial⟩, ⟨rfl, ⟨⟨_, rfl, rfl⟩, by decide, rfl⟩, by kernel_rfl, by kernel_rfl, by kernel_rfl, (by show _ ≤ 9; decide), trivial⟩, ⟨rfl, ⟨⟨_, rfl⟩, rfl⟩, by kernel_rfl, by kernel_rfl, by kernel_rfl, ⟨rfl, rfl, by decide⟩, trivial⟩, ⟨rfl, ⟨rfl, rfl⟩, by kernel_rfl, by kernel_rfl, by kernel_rfl, trivial, trivial⟩, ⟨rfl, ⟨⟨_, rfl⟩, rfl⟩, by kernel_rfl, by kernel_rfl, by kernel_rfl, rfl, (con_expr 5)⟩, ⟨rfl, ⟨rfl, rfl⟩, by kernel_rfl, by kernel_rfl, by kernel_rfl, trivial, trivial⟩, ⟨rfl, ⟨⟨_, rfl, rfl⟩, by decide, rfl⟩, by kernel_rfl, by kernel_rfl, by kernel_rfl, (by show _ ≤ 9; decide), trivial⟩, ⟨rfl, ⟨⟨_, rfl⟩, rfl⟩, by kernel_rfl, by kernel_rfl, by kernel_rfl, ⟨rfl, rfl, by decide⟩, trivial⟩, ⟨rfl, ⟨⟨_, rfl, rfl⟩, by decide, rfl⟩, by kernel_rfl, by kernel_rfl, by kernel_rfl, ⟨by decide, by kernel_rfl, Nat.le_of_ble_eq_true (by kernel_rfl)⟩, trivial⟩, ⟨rfl, ⟨⟨_, rfl⟩, rfl⟩, by kernel_rfl, by kernel_rfl, by kernel_rfl, ⟨_, rfl⟩, trivial⟩, ⟨rfl, ⟨rfl, rfl⟩, by kernel_rfl, by kernel_rfl, by kernel_rfl, ⟨_, _, rfl⟩, trivial⟩, trivial⟩ (Nat.succ_pos _) rfl rfl rfl E8.out (by simp) (by simp) (by simp) ?_
              intro a' W' T zs' x g1 g2 g3 g4 g5 ek hp
              have g5 : some (Kd.store 11) = some (Kd.store x) := g5
              injection g5 with g5
              injection g5 with g5
              subst g5
              have hp : pl T = (ndq 14 [nam, tkq [sEq], exq, tkq [sSemi]] C1).2 := by simpa [nvl, bv, pv, tv, cuA, Kd.go, ndq, sq, on1] using hp
              have hc : cuA [.load, .list 99 nam 1 0, .load, .row [sEq], .toks [sEq] 2 3, .load, .list 103 exq 1 5, .load, .row [sSemi], .toks [sSemi] 7 8, .bund [1, 4, 6, 9], .node 14 10, .store 11] C1 13 = (ndq 14 [nam, tkq [sEq], exq, tkq [sSemi]] C1).1 := by simp [cuA, Kd.go, ndq, sq]
              have ek : EK b A c no (· = b) w (cuA [.load, .list 99 nam 1 0, .load, .row [sEq], .toks [sEq] 2 3, .load, .list 103 exq 1 5, .load, .row [sSemi], .toks [sSemi] 7 8, .bund [1, 4, 6, 9], .node 14 10, .store 11] C1 13) [(w.heap.size + 1, .cells (ncc T) 30 (0, 0))] zs' [T] W' := ek
              rw [hc] at ek
              clear hc
              have E9 := Lib.hid ek
              have HP := Lib.hid hp
              show K0 a' W'
              refine hK0 _ _ ?_
              clear hK0 ek hp HS HT
              go_wp2
              generalize (ndq 14 [nam, tkq [sEq], exq, tkq [sSemi]] C1).1 = C9 at E9 ⊢
              generalize (ndq 14 [nam, tkq [sEq], exq, tkq [sSemi]] C1).2 = T9 at HP ⊢
              refine bodyPostD_up E9.out.cu E9.out.ok g1 fun w' hm ho => ?_
              have ek11 := E9.out.call hm ⟨E9.out.ok.up, rfl⟩ ho
              have hs := ek11.box (z := w.heap.size + 1) (o := .cells (ncc T) 30 (0, 0)) (by simp)
              exact ⟨nv T, results_cell rfl g4 hs, ek11.fin (by simp) rfl HP.out⟩
/-- a statement, so many constructs left -/
theorem stN_left : ∀ k, k ≤ 201 → ∀ C : Cu, C.Ok → C.d ≤ 200 → 201 - k ≤ C.d → sbg C = true → (stN k C).1.left < C.left
  | 0, _ => fun C _ h2 h1 _ => absurd h1 (by omega)
  | k + 1, h => fun C hk h2 h1 hb => by
    have ig := Got.stN k (by omega)
    rw [show 201 - k = (201 - (k + 1)) + 1 from by omega] at ig
    exact stt_left ig hk h2 h1 hb (sbg_left hk hb)
theorem stN_any (b : Nat) (A : Option Addr) (c : Nat) : ∀ k, k ≤ 201 → PartF 73 b A c (stN k) (201 - k)
  | 0, _ => fun W C _ _ h2 h1 => absurd h1 (by omega)
  | k + 1, h => by
    have ih := stN_any b A c k (by omega)
    have ig := Got.stN k (by omega)
    have il := stN_left k (by omega)
    rw [show 201 - k = (201 - (k + 1)) + 1 from by omega] at ih ig il
    exact statement_any ih ig il
theorem stX_any (b : Nat) (A : Option Addr) (c : Nat) : PartF 73 b A c stX 0 := stN_any b A c 201 (Nat.le_refl _)
/-- all statements, all variables -/
def stl : Part := sts stX
theorem stlW_any (b : Nat) (A : Option Addr) (c : Nat) : WhatW 50 b A c stl 0 := statementsW_any (stX_any b A c) Got.stX (stN_left 201 (Nat.le_refl _))
theorem stl_any (b : Nat) (A : Option Addr) (c : Nat) : WhatF 50 b A c stl 0 := statements_any (stX_any b A c) Got.stX (stN_left 201 (Nat.le_refl _))
end
end Go.Proofs.YtfmlcddakfbleaaGreatDoor

namespace Go.Proofs.YtfmlcddakfbleaaGreatDoor
open Go.RowKit SignMath TreeMath

/-- what was read, and nothing if the cursor has failed -/
def unf (f : Part) : Part := fun C => if (f C).1.f = 0 then f C else ((f C).1, [])
section
variable {b : Nat} {A : Option Addr} {c : Nat}
set_option maxRecDepth 100000 in
set_option maxHeartbeats 4000000 in
theorem unlessL_any {w : World} {C : Cu} (h : CuM b A c C w) (Al : Option Addr) (n cl : Nat) : Calls Tryz.prog 48 #[rcv b, .slice Al n cl] w (Rd w (if C.f = 0 then .slice Al n cl else .slice none 0 0)) := by
  have hb0 := below1 w (sdb b)
  have HF := Lib.hid (failed_any (h.below hb0))
  have p0 := cell_heap (heap_alloc_new w (sdb b)) (i := 0)
  simp only [List.getElem?_toArray, List.getElem?_cons_zero] at p0
  have HB := Lib.hid hb0
  unfold Rd Cu.fl at HF
  unfold Rd
  clear h hb0
  by_cases hf : C.f = 0
  · rw [if_pos hf] at HF ⊢
    clear hf
    go_enter Tryz.func48, Tryz.ntmps48
    go_wp2_with fail
    refine HF.out.mono ?_
    rintro e w1 ⟨rfl, hb⟩
    have HB1 := Lib.hid (HB.out.trans (hb.mono (by simp)))
    clear hb
    go_wp2
    go_ret
    exact ⟨rfl, HB1.out⟩
  · rw [if_neg hf] at HF ⊢
    clear hf
    go_enter Tryz.func48, Tryz.ntmps48
    go_wp2_with fail
    refine HF.out.mono ?_
    rintro e w1 ⟨rfl, hb⟩
    have HB1 := Lib.hid (HB.out.trans (hb.mono (by simp)))
    clear hb
    unfold errn
    go_wp2
    go_ret
    exact ⟨rfl, HB1.out⟩
set_option maxRecDepth 100000 in
set_option maxHeartbeats 4000000 in
theorem vars_any {w : World} {C : Cu} (h : CuM b A c C w) (hk : C.Ok) (hd : C.d ≤ 200) : Calls Tryz.prog 23 #[.pointer (some ⟨b, 0, none⟩)] w (TlW b A c (unf vbs C) w) := by
  have ek1 := (EK.begin h hk).alloc (sdb b)
  have E1 := Lib.hid ek1.drew
  have HC := Lib.hid (variablesW_any _ C ek1.drew.cu hk hd (Nat.zero_le _))
  have HGG := Lib.hid ((Got.vbs 0) C hk hd (Nat.zero_le _))
  clear ek1 h hk hd
  go_enter Tryz.func23, Tryz.ntmps23
  go_wp2
  rename_i K0 hK0
  refine wp_region_noPanic (wp_region_held (S := fun W' : World => W'.heap[w.heap.size]? = some (sdb b) ∧ True) (by kernel_rfl) ?_)
  show wpAnyH _ _ _ _ _ _ _ _ (w.alloc (sdb b)).drew
  have hS0 : (w.alloc (sdb b)).drew.heap[w.heap.size]? = some (sdb b) ∧ True := ⟨E1.out.box (z := w.heap.size) (o := sdb b) (by simp), trivial⟩
  generalize (w.alloc (sdb b)).drew = w1 at HC E1 hS0 ⊢
  refine wpAnyH_take_d (i := 0) (v := rcv b) 6 rfl rfl (by kernel_rfl) (by kernel_rfl) (by kernel_rfl) (fun _ _ _ h => h) (Or.inl ⟨by kernel_rfl, fun w' hS' => ?y0⟩) hS0 ?_
  case y0 => (have s0 := cell_heap hS'.1 (i := 0); simp only [List.getElem?_toArray, List.getElem?_cons_zero] at s0; clear hS'; go_simp)
  simp only [Act.put, List.setIfInBounds_toArray, List.set_cons_zero, List.set_cons_succ]
  refine wpAnyH_take_d (i := 1) (v := rcv b) 7 rfl rfl (by kernel_rfl) (by kernel_rfl) (by kernel_rfl) (fun _ _ _ h => h) (Or.inl ⟨by kernel_rfl, fun w' hS' => ?y1⟩) hS0 ?_
  case y1 => (have s0 := cell_heap hS'.1 (i := 0); simp only [List.getElem?_toArray, List.getElem?_cons_zero] at s0; clear hS'; go_simp)
  simp only [Act.put, List.setIfInBounds_toArray, List.set_cons_zero, List.set_cons_succ]
  refine wpAnyH_ready (rs := [2]) (by kernel_rfl) (by simp) ?_
  refine AllReadyH.cons rfl (fun K hK => ?_) AllReadyH.nil
  go_simp
  refine HC.out.mono ?_
  rintro e w2 ⟨Al, cl, m, rfl, hp, hnil, hTk, hT, h9, hm, ho, hrow, hown, hout⟩
  obtain ⟨zs2, ek_, -, hoz⟩ := E1.out.gotw2 hrow hown hout hm ⟨HGG.out.ok, HGG.out.L⟩ ho
  have hS2 : w2.heap[w.heap.size]? = some (sdb b) ∧ True := ⟨ek_.box (z := w.heap.size) (o := sdb b) (by simp), trivial⟩
  have E2 := Lib.hid ek_
  have HM := Lib.hid (And.intro hp (And.intro hnil h9))
  have HRW := Lib.hid (And.intro hrow hoz)
  clear hrow hown hout hoz
  clear ek_ hTk hT hm ho HC E1 hp hnil h9
  refine hK.out _ _ hS2 (fun _ => ?_)
  clear hK K
  try simp only [Act.put, List.setIfInBounds_toArray, List.set_cons_zero, List.set_cons_succ]
  have HF := Lib.hid (unlessL_any E2.out.cu Al m.length cl)
  unfold Rd at HF
  by_cases hf : (vbs C).1.f = 0
  · rw [if_pos hf] at HF
    refine wpAnyH_ready (rs := [3]) (by kernel_rfl) (by simp) ?_
    refine AllReadyH.cons rfl (fun K hK => ?_) AllReadyH.nil
    go_simp
    refine HF.out.mono ?_
    rintro e w3 ⟨rfl, hb⟩
    have ek_ := E2.out.below hb
    have hS3 : w3.heap[w.heap.size]? = some (sdb b) ∧ True := ⟨ek_.box (z := w.heap.size) (o := sdb b) (by simp), trivial⟩
    have HV := Lib.hid (ek_.listw (r := unf vbs C) (Al := Al) (cl := cl) (m := m) (HRW.out.1.below hb) HRW.out.2 (fun x hx => List.mem_append_left _ hx) HM.out.2.2 (by unfold unf; rw [if_pos hf]) (by unfold unf; rw [if_pos hf]; exact HM.out.1))
    clear ek_ hb HF E2 hf
    refine hK.out _ _ hS3 (fun _ => ?_)
    clear hK K
    try simp only [Act.put, List.setIfInBounds_toArray, List.set_cons_zero, List.set_cons_succ]
    refine wpAnyH_take_d (i := 4) (v := (.slice Al m.length cl)) 2 rfl rfl (by kernel_rfl) (by kernel_rfl) (by kernel_rfl) (fun _ _ _ h => h) (Or.inl ⟨by kernel_rfl, fun w' hS' => ?y4⟩) hS3 ?_
    case y4 => (clear hS'; go_simp)
    try simp only [Act.put, List.setIfInBounds_toArray, List.set_cons_zero, List.set_cons_succ]
    refine wpAnyH_done (by kernel_rfl) ?_ _
    refine hK0 _ _ ?_
    clear hK0 hS0 hS2 hS3
    go_wp2
    refine bodyPost_ret (v := (.slice Al m.length cl)) (by simp [results, Tryz.results23, go_sem]) rfl HV.out
  · rw [if_neg hf] at HF
    refine wpAnyH_ready (rs := [3]) (by kernel_rfl) (by simp) ?_
    refine AllReadyH.cons rfl (fun K hK => ?_) AllReadyH.nil
    go_simp
    refine HF.out.mono ?_
    rintro e w3 ⟨rfl, hb⟩
    have ek_ := E2.out.below hb
    have hS3 : w3.heap[w.heap.size]? = some (sdb b) ∧ True := ⟨ek_.box (z := w.heap.size) (o := sdb b) (by simp), trivial⟩
    have HV := Lib.hid (ek_.listw (r := unf vbs C) (m := []) (RowN.nil w3) (fun k hk => by cases hk) (by simp) (by simp) (by unfold unf; rw [if_neg hf]) (by unfold unf; rw [if_neg hf]; rfl))
    clear ek_ hb HF E2 hf
    refine hK.out _ _ hS3 (fun _ => ?_)
    clear hK K
    try simp only [Act.put, List.setIfInBounds_toArray, List.set_cons_zero, List.set_cons_succ]
    refine wpAnyH_take_d (i := 4) (v := (.slice none 0 0)) 2 rfl rfl (by kernel_rfl) (by kernel_rfl) (by kernel_rfl) (fun _ _ _ h => h) (Or.inl ⟨by kernel_rfl, fun w' hS' => ?y4⟩) hS3 ?_
    case y4 => (clear hS'; go_simp)
    try simp only [Act.put, List.setIfInBounds_toArray, List.set_cons_zero, List.set_cons_succ]
    refine wpAnyH_done (by kernel_rfl) ?_ _
    refine hK0 _ _ ?_
    clear hK0 hS0 hS2 hS3
    go_wp2
    refine bodyPost_ret (v := (.slice none 0 0)) (by simp [results, Tryz.results23, go_sem]) rfl HV.out
set_option maxRecDepth 100000 in
set_option maxHeartbeats 4000000 in
theorem stmts_any {w : World} {C : Cu} (h : CuM b A c C w) (hk : C.Ok) (hd : C.d ≤ 200) : Calls Tryz.prog 24 #[.pointer (some ⟨b, 0, none⟩)] w (TlW b A c (unf stl C) w) := by
  have ek1 := (EK.begin h hk).alloc (sdb b)
  have E1 := Lib.hid ek1.drew
  have HC := Lib.hid ((stlW_any b A c) _ C ek1.drew.cu hk hd (Nat.zero_le _))
  have HGG := Lib.hid ((Got.sts Got.stX) C hk hd (Nat.zero_le _))
  clear ek1 h hk hd
  go_enter Tryz.func24, Tryz.ntmps24
  go_wp2
  rename_i K0 hK0
  refine wp_region_noPanic (wp_region_held (S := fun W' : World => W'.heap[w.heap.size]? = some (sdb b) ∧ True) (by kernel_rfl) ?_)
  show wpAnyH _ _ _ _ _ _ _ _ (w.alloc (sdb b)).drew
  have hS0 : (w.alloc (sdb b)).drew.heap[w.heap.size]? = some (sdb b) ∧ True := ⟨E1.out.box (z := w.heap.size) (o := sdb b) (by simp), trivial⟩
  generalize (w.alloc (sdb b)).drew = w1 at HC E1 hS0 ⊢
  refine wpAnyH_take_d (i := 0) (v := rcv b) 6 rfl rfl (by kernel_rfl) (by kernel_rfl) (by kernel_rfl) (fun _ _ _ h => h) (Or.inl ⟨by kernel_rfl, fun w' hS' => ?y0⟩) hS0 ?_
  case y0 => (have s0 := cell_heap hS'.1 (i := 0); simp only [List.getElem?_toArray, List.getElem?_cons_zero] at s0; clear hS'; go_simp)
  simp only [Act.put, List.setIfInBounds_toArray, List.set_cons_zero, List.set_cons_succ]
  refine wpAnyH_take_d (i := 1) (v := rcv b) 7 rfl rfl (by kernel_rfl) (by kernel_rfl) (by kernel_rfl) (fun _ _ _ h => h) (Or.inl ⟨by kernel_rfl, fun w' hS' => ?y1⟩) hS0 ?_
  case y1 => (have s0 := cell_heap hS'.1 (i := 0); simp only [List.getElem?_toArray, List.getElem?_cons_zero] at s0; clear hS'; go_simp)
  simp only [Act.put, List.setIfInBounds_toArray, List.set_cons_zero, List.set_cons_succ]
  refine wpAnyH_ready (rs := [2]) (by kernel_rfl) (by simp) ?_
  refine AllReadyH.cons rfl (fun K hK => ?_) AllReadyH.nil
  go_simp
  refine HC.out.mono ?_
  rintro e w2 ⟨Al, cl, m, rfl, hp, hnil, hTk, hT, h9, hm, ho, hrow, hown, hout⟩
  obtain ⟨zs2, ek_, -, hoz⟩ := E1.out.gotw2 hrow hown hout hm ⟨HGG.out.ok, HGG.out.L⟩ ho
  have hS2 : w2.heap[w.heap.size]? = some (sdb b) ∧ True := ⟨ek_.box (z := w.heap.size) (o := sdb b) (by simp), trivial⟩
  have E2 := Lib.hid ek_
  have HM := Lib.hid (And.intro hp (And.intro hnil h9))
  have HRW := Lib.hid (And.intro hrow hoz)
  clear hrow hown hout hoz
  clear ek_ hTk hT hm ho HC E1 hp hnil h9
  refine hK.out _ _ hS2 (fun _ => ?_)
  clear hK K
  try simp only [Act.put, List.setIfInBounds_toArray, List.set_cons_zero, List.set_cons_succ]
  have HF := Lib.hid (unlessL_any E2.out.cu Al m.length cl)
  unfold Rd at HF
  by_cases hf : (stl C).1.f = 0
  · rw [if_pos hf] at HF
    refine wpAnyH_ready (rs := [3]) (by kernel_rfl) (by simp) ?_
    refine AllReadyH.cons rfl (fun K hK => ?_) AllReadyH.nil
    go_simp
    refine HF.out.mono ?_
    rintro e w3 ⟨rfl, hb⟩
    have ek_ := E2.out.below hb
    have hS3 : w3.heap[w.heap.size]? = some (sdb b) ∧ True := ⟨ek_.box (z := w.heap.size) (o := sdb b) (by simp), trivial⟩
    have HV := Lib.hid (ek_.listw (r := unf stl C) (Al := Al) (cl := cl) (m := m) (HRW.out.1.below hb) HRW.out.2 (fun x hx => List.mem_append_left _ hx) HM.out.2.2 (by unfold unf; rw [if_pos hf]) (by unfold unf; rw [if_pos hf]; exact HM.out.1))
    clear ek_ hb HF E2 hf
    refine hK.out _ _ hS3 (fun _ => ?_)
    clear hK K
    try simp only [Act.put, List.setIfInBounds_toArray, List.set_cons_zero, List.set_cons_succ]
    refine wpAnyH_take_d (i := 4) (v := (.slice Al m.length cl)) 2 rfl rfl (by kernel_rfl) (by kernel_rfl) (by kernel_rfl) (fun _ _ _ h => h) (Or.inl ⟨by kernel_rfl, fun w' hS' => ?y4⟩) hS3 ?_
    case y4 => (clear hS'; go_simp)
    try simp only [Act.put, List.setIfInBounds_toArray, List.set_cons_zero, List.set_cons_succ]
    refine wpAnyH_done (by kernel_rfl) ?_ _
    refine hK0 _ _ ?_
    clear hK0 hS0 hS2 hS3
    go_wp2
    refine bodyPost_ret (v := (.slice Al m.length cl)) (by simp [results, Tryz.results24, go_sem]) rfl HV.out
  · rw [if_neg hf] at HF
    refine wpAnyH_ready (rs := [3]) (by kernel_rfl) (by simp) ?_
    refine AllReadyH.cons rfl (fun K hK => ?_) AllReadyH.nil
    go_simp
    refine HF.out.mono ?_
    rintro e w3 ⟨rfl, hb⟩
    have ek_ := E2.out.below hb
    have hS3 : w3.heap[w.heap.size]? = some (sdb b) ∧ True := ⟨ek_.box (z := w.heap.size) (o := sdb b) (by simp), trivial⟩
    have HV := Lib.hid (ek_.listw (r := unf stl C) (m := []) (RowN.nil w3) (fun k hk => by cases hk) (by simp) (by simp) (by unfold unf; rw [if_neg hf]) (by unfold unf; rw [if_neg hf]; rfl))
    clear ek_ hb HF E2 hf
    refine hK.out _ _ hS3 (fun _ => ?_)
    clear hK K
    try simp only [Act.put, List.setIfInBounds_toArray, List.set_cons_zero, List.set_cons_succ]
    refine wpAnyH_take_d (i := 4) (v := (.slice none 0 0)) 2 rfl rfl (by kernel_rfl) (by kernel_rfl) (by kernel_rfl) (fun _ _ _ h => h) (Or.inl ⟨by kernel_rfl, fun w' hS' => ?y4⟩) hS3 ?_
    case y4 => (clear hS'; go_simp)
    try simp only [Act.put, List.setIfInBounds_toArray, List.set_cons_zero, List.set_cons_succ]
    refine wpAnyH_done (by kernel_rfl) ?_ _
    refine hK0 _ _ ?_
    clear hK0 hS0 hS2 hS3
    go_wp2
    refine bodyPost_ret (v := (.slice none 0 0)) (by simp [results, Tryz.results24, go_sem]) rfl HV.out
end
end Go.Proofs.YtfmlcddakfbleaaGreatDoor

namespace Go.Proofs.YtfmlcddakfbleaaGreatDoor
open Go.RowKit SignMath TreeMath

/-- a list is no longer than the tokens -/
theorem lst_len {bg : Cu → Bool} {f : Cu → Cu × Tr} : ∀ (q : Nat) (x : Cu × List Tr), (lst bg f q x).2.length ≤ x.2.length + q
  | 0, _ => Nat.le_refl _
  | q + 1, x => by
    unfold lst
    split
    · have := lst_len (bg := bg) (f := f) q ((f x.1).1, x.2 ++ [(f x.1).2])
      rw [List.length_append] at this
      simp only [List.length_cons, List.length_nil] at this
      omega
    · omega
theorem left_len {C : Cu} (hk : C.Ok) : C.left ≤ 4000 := by
  have := hk.len
  unfold Cu.left
  split <;> omega
theorem unf_len {f : Part} {C : Cu} {n : Nat} (h : (f C).2.length ≤ n) : (unf f C).2.length ≤ n := by
  unfold unf
  split
  · exact h
  · exact Nat.zero_le _
theorem vbs_len {C : Cu} (hk : C.Ok) : (unf vbs C).2.length ≤ 4000 := unf_len (by have := lst_len (bg := vbg) (f := vrb) C.left (C, []); have h2 := left_len hk; simp only [List.length_nil] at this; show (lst vbg vrb C.left (C, [])).2.length ≤ 4000; omega)
theorem stl_len {C : Cu} (hk : C.Ok) : (unf stl C).2.length ≤ 4000 := unf_len (by have := lst_len (bg := sbg) (f := stX) C.left (C, []); have h2 := left_len hk; simp only [List.length_nil] at this; show (lst sbg stX C.left (C, [])).2.length ≤ 4000; omega)
theorem Got.unf {f : Part} {D : Nat} (h : GP f D 0) : GP (unf f) D 0 := fun C hk h2 h1 => by
  have g := h C hk h2 h1
  unfold Go.Proofs.YtfmlcddakfbleaaGreatDoor.unf
  by_cases hf : (f C).1.f = 0
  · rw [if_pos hf]; exact g
  · rw [if_neg hf]; exact g.junk hf _ _
theorem Got.uvb : GP (Go.Proofs.YtfmlcddakfbleaaGreatDoor.unf Go.Proofs.YtfmlcddakfbleaaGreatDoor.vbs) 0 0 := Got.unf (Got.vbs 0)
theorem Got.ust : GP (Go.Proofs.YtfmlcddakfbleaaGreatDoor.unf stl) 0 0 := Got.unf (Got.sts Got.stX)

/-- variables, and statements behind them -/
def rdl (C : Cu) : Cu × List Tr := ((unf stl (unf vbs C).1).1, (unf vbs C).2 ++ (unf stl (unf vbs C).1).2)
/-- what stands behind makes it fail -/
def ovr (C : Cu) : Cu := if C.left = 0 then C else C.fail 2
theorem Got.rdl : GP rdl 0 0 := fun C hk h2 h1 => by
  have g := Got.uvb C hk h2 h1
  exact g.trans (Got.ust _ g.ok (by rw [g.d]; exact h2) (Nat.zero_le _))
def lok (s : ByteArray) : Bool := decide (s.size ≤ 4000) && (bad (tk (bs s) 0)).isNone && decide ((ovr (rdl (cu0 s)).1).f = 0)
def ltr (s : ByteArray) : List Tr := (rdl (cu0 s)).2
def ltl (s : ByteArray) : ByteArray := (rdl (cu0 s)).1.en
def lpl (s : ByteArray) : Int := if 4000 < s.size then 4000 else match bad (tk (bs s) 0) with
  | some t => (t.a : Nat)
  | none => (ovr (rdl (cu0 s)).1).p
/-- what stmt.Read answers -/
def LrdV (ok : Bool) (P : List Tr) (tl : ByteArray) (pp : Int) (w : World) (e : Ending) (w' : World) : Prop :=
  Below w.heap.size w w' ∧ match ok with
    | true => ∃ (Al : Option Addr) (cl : Nat) (m : List Tr), e = .returned (.tuple #[.slice Al m.length cl, .string tl, .int .i64 0, .nilIface]) ∧ m.map pl = P ∧ (Al = none → cl = 0) ∧ m.length ≤ 8000 ∧ Tks (nw w.heap.size w') w' Al m ∧ ∀ x ∈ m, Tn (nw w.heap.size w') w' x
    | false => ∃ k : Int, e = .returned (.tuple #[.slice none 0 0, .string ⟨#[]⟩, .int .i64 pp, errn k])
theorem LrdV.good {P : List Tr} {tl : ByteArray} {pp : Int} {w w' : World} {e : Ending} (hB : Below w.heap.size w w') (Al : Option Addr) (cl : Nat) (m : List Tr) (he : e = .returned (.tuple #[.slice Al m.length cl, .string tl, .int .i64 0, .nilIface])) (h1 : m.map pl = P) (h2 : Al = none → cl = 0) (h3 : m.length ≤ 8000) (h4 : Tks (nw w.heap.size w') w' Al m) (h5 : ∀ x ∈ m, Tn (nw w.heap.size w') w' x) : LrdV true P tl pp w e w' := ⟨hB, Al, cl, m, he, h1, h2, h3, h4, h5⟩
theorem LrdV.err {P : List Tr} {tl : ByteArray} {pp : Int} {w w' : World} {e : Ending} (hB : Below w.heap.size w w') (k : Int) (he : e = .returned (.tuple #[.slice none 0 0, .string ⟨#[]⟩, .int .i64 pp, errn k])) : LrdV false P tl pp w e w' := ⟨hB, k, he⟩

set_option maxRecDepth 100000 in
set_option maxHeartbeats 8000000 in
theorem lread_bad (s : ByteArray) (w : World) (a n : Int) (hN : Calls Tryz.prog 22 #[.string s] w fun e w' => e = .returned (.tuple #[.pointer none, .int .i64 a, errn n]) ∧ Below w.heap.size w w') (P : List Tr) (tl : ByteArray) :
    Calls Tryz.prog 7 #[.string s] w (LrdV false P tl a w) := by
  have HN := Lib.hid hN
  clear hN
  go_enter Tryz.func7, Tryz.ntmps7
  go_wp2_with fail
  refine HN.out.mono ?_
  rintro e w2 ⟨rfl, hb2⟩
  have HB := Lib.hid hb2
  clear hb2 HN
  unfold errn
  go_wp2
  refine bodyPost_ret (v := .tuple #[.slice none 0 0, .string ⟨#[]⟩, .int .i64 a, errn n]) (by simp [results, Tryz.results7, go_sem, errn]) rfl (LrdV.err HB.out n rfl)

set_option maxRecDepth 100000 in
set_option maxHeartbeats 8000000 in
theorem lread_good (s : ByteArray) (hs : s.size ≤ 4000) (w : World) (R1 R2 : Cu × List Tr) (h1 : unf vbs (cu0 s) = R1) (h2 : unf stl R1.1 = R2)
    (hN : Calls Tryz.prog 22 #[.string s] w fun e w' => ∃ b A c, e = .returned (.tuple #[.pointer (some ⟨b, 0, none⟩), .int .i64 0, .nilIface]) ∧ w.heap.size ≤ b ∧ CuM b A c (cu0 s) w' ∧ Below w.heap.size w w') :
    Calls Tryz.prog 7 #[.string s] w (LrdV (decide ((ovr R2.1).f = 0)) (R1.2 ++ R2.2) R2.1.en (ovr R2.1).p w) := by
  have HN := Lib.hid hN
  have hk := cu0_ok s hs
  have hG1 : Got (cu0 s) R1.1 R1.2 0 := by rw [← h1]; exact Got.uvb (cu0 s) hk (Nat.zero_le _) (Nat.zero_le _)
  have hd1 : R1.1.d ≤ 200 := by rw [hG1.d]; exact Nat.zero_le _
  have hG2 : Got R1.1 R2.1 R2.2 0 := by rw [← h2]; exact Got.ust R1.1 hG1.ok hd1 (Nat.zero_le _)
  have hl1 : R1.2.length ≤ 4000 := by rw [← h1]; exact vbs_len hk
  have hl2 : R2.2.length ≤ 4000 := by rw [← h2]; exact stl_len hG1.ok
  have HV : Hid (∀ (b : Nat) (A : Option Addr) (c : Nat) (W : World), CuM b A c (cu0 s) W → Calls Tryz.prog 23 #[.pointer (some ⟨b, 0, none⟩)] W (TlW b A c R1 W)) := Lib.hid fun b A c W h => by rw [← h1]; exact vars_any h hk (Nat.zero_le _)
  have HS : Hid (∀ (b : Nat) (A : Option Addr) (c : Nat) (W : World), CuM b A c R1.1 W → Calls Tryz.prog 24 #[.pointer (some ⟨b, 0, none⟩)] W (TlW b A c R2 W)) := Lib.hid fun b A c W h => by rw [← h2]; exact stmts_any h hG1.ok hd1
  have HG := Lib.hid (And.intro hk (And.intro hG1 (And.intro hG2 (And.intro hl1 hl2))))
  have hleft : R2.1.left ≤ 4000 := left_len hG2.ok
  clear hk hG1 hG2 hd1 hl1 hl2 h1 h2 hN hs
  obtain ⟨C1, L1⟩ := R1
  obtain ⟨C2, L2⟩ := R2
  simp only at HV HS HG hleft ⊢
  obtain ⟨ok, hok⟩ : ∃ ok, decide ((ovr C2).f = 0) = ok := ⟨_, rfl⟩
  obtain ⟨pq, hpq⟩ : ∃ pq, (ovr C2).p = pq := ⟨_, rfl⟩
  rw [hok, hpq]
  have HOK := Lib.hid (And.intro hok hpq)
  clear hok hpq
  go_enter Tryz.func7, Tryz.ntmps7
  go_wp2_with fail
  refine HN.out.mono ?_
  rintro e w2 ⟨b, A, c, rfl, hwb, hm2, hb2⟩
  have HWB := Lib.hid (And.intro hwb hb2)
  have HP := Lib.hid (HV.out b A c w2 hm2)
  have E2 := Lib.hid (EK.begin hm2 HG.out.1)
  have hsb := HS.out b A c
  have HS := Lib.hid hsb
  clear hm2 hb2 hwb HN HV hsb
  go_wp2_with fail
  refine HP.out.mono ?_
  rintro e w3 ⟨Al, cl, m, rfl, hp, hnil, hTk, hT, h9, hm, ho, hrow, hown, hout⟩
  obtain ⟨zs3, ek3, -, hoz⟩ := E2.out.gotw2 hrow hown hout hm ⟨HG.out.2.1.ok, HG.out.2.1.L⟩ ho
  have HP2 := Lib.hid (HS.out w3 ek3.cu)
  have E3 := Lib.hid ek3
  have HR3 := Lib.hid (And.intro hrow hoz)
  have HML := Lib.hid (show m.length ≤ 4000 by rw [← List.length_map (f := pl), hp]; exact HG.out.2.2.2.1)
  have HMP := Lib.hid hp
  clear ek3 hrow hown hout hm ho hoz hp hnil hTk hT h9 HP HS E2
  go_wp2_with fail
  refine HP2.out.mono ?_
  rintro e w4 ⟨Al2, cl2, m2, rfl, hp2, hnil2, hTk2, hT2, h92, hm2, ho2, -⟩
  have hob : (Value.slice Al m.length cl).ownBlock ≠ some b := fun e => by
    have := (E3.out.zn b (HR3.out.2 b e)).1
    have := E3.out.hX b rfl
    omega
  have hrow4 := HR3.out.1.of ho2 hob
  have ek4 := E3.out.gotl (cl := cl2) hTk2 hT2 hm2 ⟨HG.out.2.2.1.ok, HG.out.2.2.1.L⟩ ho2
  have hml2 : m2.length ≤ 4000 := by rw [← List.length_map (f := pl), hp2]; exact HG.out.2.2.2.2
  have hmm : (m ++ m2).map pl = L1 ++ L2 := by rw [List.map_append, HMP.out, hp2]
  have HR4 := Lib.hid (And.intro hrow4 (And.intro hTk2 hnil2))
  have E4 := Lib.hid ek4
  have HL4 := Lib.hid (show m.length + m2.length ≤ 8000 by have := HML.out; omega)
  have HMM := Lib.hid hmm
  clear hob hrow4 ek4 hml2 hmm hm2 ho2 hp2 hnil2 hTk2 hT2 h92 HP2 E3 HML HMP
  go_wp2_with (at_builtin; refine Stay.out ?_)
  refine Stay.mk ?_
  refine wpList_append_n (by rfl) (.tmp 23) (.tmp 25) (by rfl) w4 (.slice Al m.length cl) m m2 Al2 m2.length cl2 _ rfl (by rfl) (by rfl) HR4.out.2.1 HR4.out.2.2 HR4.out.1 (Nat.le_trans HL4.out (by omega)) ?_
  intro A5 c5 w5 hrow5 hg5 hat5
  obtain ⟨zs5, ek5, -, hown5, -⟩ := E4.out.grows hg5 (own' := (Value.slice A5 (m ++ m2).length c5).ownBlock) (fun q hq => .inl (HR3.out.2 q hq)) (fun q hq => by cases hq) hat5 hrow5.lt
  have ek5' := (ek5.bkid (Al := Al2) (cl := cl2) (m := m2) (by simp)).sub (bs' := []) (ts' := m ++ m2) (by simp) (by simp only [List.mem_append, List.mem_cons, List.not_mem_nil, or_false]; rintro T (h | h) <;> simp [h])
  have hlen5 : (m ++ m2).length ≤ 8000 := by rw [List.length_append]; exact HL4.out
  obtain ⟨M, hM⟩ : ∃ M, m ++ m2 = M := ⟨_, rfl⟩
  have hmm := HMM.out
  rw [hM] at hmm hlen5 ek5' hrow5 hown5 ⊢
  have E5 := Lib.hid ek5'
  have HR5 := Lib.hid (And.intro hrow5 (And.intro (show ∀ q, (Value.slice A5 M.length c5).ownBlock = some q → q ∈ zs5 from fun q hq => (hown5 q hq).resolve_right fun hh => hh.2 hh.1) (And.intro hmm hlen5)))
  have HL := Lib.hid (left_any ek5'.cu ek5'.ok)
  unfold Rd at HL
  clear ek5 ek5' hrow5 hown5 hmm hlen5 hM hg5 hat5 HR4 HR3 HL4 HMM E4
  by_cases hlf : C2.left = 0
  · rw [hlf] at HL
    clear hleft
    by_cases hf : C2.f = 0
    · have hok : ok = true := by rw [← HOK.out.1]; unfold ovr; rw [if_pos hlf]; exact decide_eq_true hf
      have HOV := Lib.hid hok
      clear hlf hok
      go_wp2_with fail
      refine HL.out.mono ?_
      rintro e w6 ⟨rfl, hb6⟩
      have ek6 := E5.out.below hb6
      have HR6 := Lib.hid (HR5.out.1.below hb6)
      have HF := Lib.hid (failed_any ek6.cu)
      unfold Rd Cu.fl at HF
      rw [if_pos hf] at HF
      have E6 := Lib.hid ek6
      clear ek6 hb6 hf HL E5
      go_wp2_with fail
      refine HF.out.mono ?_
      rintro e w7 ⟨rfl, hb7⟩
      have ek7 := E6.out.below hb7
      have HR7 := Lib.hid (HR6.out.below hb7)
      have HEN := Lib.hid (end_any ek7.cu ek7.ok)
      unfold Rd at HEN
      have E7 := Lib.hid ek7
      clear ek7 hb7 HF E6 HR6
      go_wp2_with fail
      refine HEN.out.mono ?_
      rintro e w8 ⟨rfl, hb8⟩
      have ek8 := E7.out.below hb8
      have hrow8 := HR7.out.below hb8
      obtain ⟨Al9, cl9, m9, e9, g1, g2, g3, g4, g5, g6, g7⟩ := ek8.list (r := (C2, L1 ++ L2)) (m := M) hrow8 (fun q hq => (ek8.zn q (HR5.out.2.1 q hq)).1) (fun x hx => hx) (Nat.le_trans HR5.out.2.2.2 (by omega)) rfl HR5.out.2.2.1
      have hsz := HWB.out.2.size
      have hB8 : Below w.heap.size w w8 := HWB.out.2.trans (of_low2 g7 HWB.out.1 hsz)
      have hTk8 := hrow8.tks
      have hnil9 : A5 = none → c5 = 0 := by
        obtain ⟨A', c', e, hn⟩ := hrow8.form
        injection e with e1 e2 e3
        subst e1 e3
        exact hn
      have hTk9 : Tks (nw w.heap.size w8) w8 A5 M := hrow8.tks.keep (fun _ _ _ => rfl) fun k hk => ⟨Nat.le_trans hsz (ek8.zn k (HR5.out.2.1 k hk)).1, hrow8.lt k hk⟩
      have hT9 : ∀ x ∈ M, Tn (nw w.heap.size w8) w8 x := fun x hx => (ek8.tn x hx).keep (fun _ _ _ => rfl) fun k hk => by have := hk.1.resolve_left (fun h => h); exact ⟨by omega, this.2⟩
      have hv : LrdV true (L1 ++ L2) C2.en pq w (.returned (.tuple #[.slice A5 M.length c5, .string C2.en, .int .i64 0, .nilIface])) w8 := LrdV.good hB8 A5 c5 M rfl HR5.out.2.2.1 hnil9 HR5.out.2.2.2 hTk9 hT9
      rw [← HOV.out] at hv
      have HV := Lib.hid hv
      clear hnil9 hTk9 hT9 hv
      clear ek8 hrow8 e9 g1 g2 g3 g4 g5 g6 g7 hB8 hTk8 hb8 HEN HR7 E7
      go_wp2
      refine bodyPost_ret (v := .tuple #[.slice A5 M.length c5, .string C2.en, .int .i64 0, .nilIface]) (by simp [results, Tryz.results7, go_sem]) rfl HV.out
    · have hok : ok = false := by rw [← HOK.out.1]; unfold ovr; rw [if_pos hlf]; exact decide_eq_false hf
      have hpq : pq = C2.p := by rw [← HOK.out.2]; unfold ovr; rw [if_pos hlf]
      have HOV := Lib.hid (And.intro hok hpq)
      clear hlf hok hpq
      go_wp2_with fail
      refine HL.out.mono ?_
      rintro e w6 ⟨rfl, hb6⟩
      have ek6 := E5.out.below hb6
      have HF := Lib.hid (failed_any ek6.cu)
      unfold Rd Cu.fl at HF
      rw [if_neg hf] at HF
      have E6 := Lib.hid ek6
      clear ek6 hb6 hf HL E5
      generalize C2.p = pp at HF HOV
      generalize C2.f = ff at HF
      unfold errn at HF
      go_wp2_with fail
      refine HF.out.mono ?_
      rintro e w7 ⟨rfl, hb7⟩
      have hsz := HWB.out.2.size
      have HB := Lib.hid (HWB.out.2.trans (of_low2 (E6.out.below hb7).off HWB.out.1 hsz))
      clear hb7 hsz HF E6
      go_wp2
      refine bodyPost_ret (v := .tuple #[.slice none 0 0, .string ⟨#[]⟩, .int .i64 pp, errn ff]) (by simp [results, Tryz.results7, go_sem, errn]) rfl (by rw [HOV.out.1, HOV.out.2]; exact LrdV.err HB.out ff rfl)
  · have hok : ok = false := by rw [← HOK.out.1]; unfold ovr; rw [if_neg hlf]; exact decide_eq_false (Cu.fail_f C2 2)
    have hpq : pq = (C2.fail 2).p := by rw [← HOK.out.2]; unfold ovr; rw [if_neg hlf]
    have HOV := Lib.hid (And.intro hok hpq)
    clear hok hpq
    have z1 : (0 : Int) < (C2.left : Nat) := by omega
    have z2 : ((C2.left : Nat) : Int) ≤ 4000 := by omega
    generalize C2.left = lf at HL z1 z2
    clear hlf hleft
    go_wp2_with fail
    refine HL.out.mono ?_
    rintro e w6 ⟨rfl, hb6⟩
    have ek6 := E5.out.below hb6
    have HFA := Lib.hid (fail_any 2 ⟨by omega, by omega⟩ ek6.cu ek6.ok)
    unfold CuV at HFA
    have E6 := Lib.hid ek6
    clear ek6 hb6 HL E5
    go_wp2_with fail
    refine HFA.out.mono ?_
    rintro e w7 ⟨⟨v, rfl⟩, hm7, ho7⟩
    have ek7 := E6.out.call hm7 ⟨E6.out.ok.fail 2, Cu.fail_L _ 2⟩ ho7
    have HF := Lib.hid (failed_any ek7.cu)
    unfold Rd Cu.fl at HF
    rw [if_neg (Cu.fail_f _ 2)] at HF
    have E7 := Lib.hid ek7
    clear ek7 hm7 ho7 HFA E6
    generalize (C2.fail 2).p = pp at HF HOV
    generalize (C2.fail 2).f = ff at HF
    unfold errn at HF
    go_wp2_with fail
    refine HF.out.mono ?_
    rintro e w8 ⟨rfl, hb8⟩
    have hsz := HWB.out.2.size
    have HB := Lib.hid (HWB.out.2.trans (of_low2 (E7.out.below hb8).off HWB.out.1 hsz))
    clear hb8 hsz HF E7
    go_wp2
    refine bodyPost_ret (v := .tuple #[.slice none 0 0, .string ⟨#[]⟩, .int .i64 pp, errn ff]) (by simp [results, Tryz.results7, go_sem, errn]) rfl (by rw [HOV.out.1, HOV.out.2]; exact LrdV.err HB.out ff rfl)

theorem lread_any (s : ByteArray) (w : World) (hL : LaidX w) : Calls Tryz.prog 7 #[.string s] w (LrdV (lok s) (ltr s) (ltl s) (lpl s) w) := by
  have h := new_any s w hL
  unfold NewV at h
  unfold lok lpl
  by_cases hs : 4000 < s.size
  · simp only [if_pos hs] at h ⊢
    rw [decide_eq_false (show ¬ s.size ≤ 4000 by omega)]
    simp only [Bool.false_and]
    exact lread_bad s w _ _ h _ _
  · simp only [if_neg hs] at h ⊢
    rw [decide_eq_true (show s.size ≤ 4000 by omega), Bool.true_and]
    cases hb : bad (tk (bs s) 0) with
    | some t =>
      simp only [hb] at h ⊢
      simp only [Option.isNone_some, Bool.false_and]
      exact lread_bad s w _ _ h _ _
    | none =>
      simp only [hb] at h ⊢
      simp only [Option.isNone_none, Bool.true_and]
      exact lread_good s (by omega) w _ _ rfl rfl h

/-- what was read whole -/
theorem got_facts {s : ByteArray} (hs : s.size ≤ 4000) {C' : Cu} {l : List Tr} (hG : Got (cu0 s) C' l 0) (hf : C'.f = 0) (hl : C'.left = 0) {k : Int} (hk2 : 1 < k ∧ k ≤ 32) :
    rgt (nod k l) = true ∧ TreeMath.lf (nod k l) = lvl s 0 (cu0 s).L ∧ wt (nod k l) ≤ 9000 ∧ tx (TreeMath.lf (nod k l)) ++ C'.en = s := by
  have hk := cu0_ok s hs
  have hn : C'.n = (cu0 s).L.length := by
    have h1 := hG.ok.n
    rw [hG.L] at h1
    unfold Cu.left at hl
    rw [if_pos hf, hG.L] at hl
    omega
  have hlv := hG.lv hf
  rw [hn, List.take_length] at hlv
  have h0 : (cu0 s).L.take (cu0 s).n = [] := rfl
  rw [h0] at hlv
  have e1 : TreeMath.lf (nod k l) = l.flatMap TreeMath.lf := by
    rw [lf_eq, if_neg (show ¬ (nod k l).k = 1 from by show ¬ k = 1; omega), List.nil_append]
    rfl
  have e2 : TreeMath.cn (nod k l) = 1 + (l.map TreeMath.cn).sum := cn_eq _
  have hlf : TreeMath.lf (nod k l) = lvl s 0 (cu0 s).L := by
    rw [e1]
    have : lvl (cu0 s).s 0 (cu0 s).L = lvl (cu0 s).s 0 [] ++ l.flatMap TreeMath.lf := hlv
    exact this.symm
  have hr : rgt (nod k l) = true := by
    rw [rgt_eq, Bool.and_eq_true]
    refine ⟨?_, List.all_eq_true.2 (hG.rg hf)⟩
    unfold snd
    rw [if_neg (show ¬ (nod k l).k = 1 from by show ¬ k = 1; omega)]
    simp only [Bool.and_eq_true, decide_eq_true_eq]
    exact ⟨⟨⟨⟨hk2.1, hk2.2⟩, rfl⟩, rfl⟩, rfl⟩
  have hen : C'.en = (cuk s (cu0 s).L.length).en := by
    unfold Cu.en
    rw [if_pos ⟨hf, hl⟩, if_pos ⟨rfl, by rw [cuk_left, Nat.sub_self]⟩]
    have e1 : C'.s = s := hG.s
    have e2 : C'.beh = (cuk s (cu0 s).L.length).beh := by
      unfold Cu.beh
      rw [hn, hG.L]
      rfl
    rw [e1, e2]
    rfl
  have htx : tx (TreeMath.lf (nod k l)) ++ C'.en = s := by rw [hlf, hen]; exact cu0_all s
  refine ⟨hr, hlf, ?_, htx⟩
  have h1 := wt_le hr
  have h2 : (tx (TreeMath.lf (nod k l))).size ≤ s.size := by
    have := congrArg ByteArray.size htx
    rw [ByteArray.size_append] at this
    omega
  have h3 := hG.cn hf
  have h4 : (TreeMath.lf (nod k l)).length ≤ 4000 := by
    rw [hlf, lvl_len]
    exact hk.len
  rw [e1] at h4
  omega
theorem lok_facts {s : ByteArray} (h : lok s = true) : s.size ≤ 4000 ∧ rgt (nod 2 (ltr s)) = true ∧ TreeMath.lf (nod 2 (ltr s)) = lvl s 0 (cu0 s).L ∧ wt (nod 2 (ltr s)) ≤ 9000 ∧ tx (TreeMath.lf (nod 2 (ltr s))) ++ ltl s = s := by
  unfold lok at h
  simp only [Bool.and_eq_true, decide_eq_true_eq] at h
  obtain ⟨⟨hs, hb⟩, hf⟩ := h
  have hG := Got.rdl (cu0 s) (cu0_ok s hs) (Nat.zero_le _) (Nat.zero_le _)
  unfold ovr at hf
  split at hf
  · rename_i hl
    exact ⟨hs, got_facts hs hG hf hl ⟨by omega, by omega⟩⟩
  · exact absurd hf (Cu.fail_f _ _)
end Go.Proofs.YtfmlcddakfbleaaGreatDoor
