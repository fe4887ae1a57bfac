/- A cursor's Any and Want. -/
import Derived.Test.YtfmlcddakfbleaaGreatDoorCurTake
namespace Go.Proofs.YtfmlcddakfbleaaGreatDoor
open Go.RowKit SignMath TreeMath

/-- is the next token of that kind? -/
def Cu.anyb (C : Cu) (k : Int) : Bool := match C.nxt 0 with
  | some t => decide (((t.k : Nat) : Int) = k)
  | none => false
theorem Cu.isb_some {C : Cu} {s : ByteArray} (h : C.isb 0 s = true) : ∃ t, C.nxt 0 = some t := by
  cases hx : C.nxt 0 with
  | some t => exact ⟨t, rfl⟩
  | none =>
    unfold Cu.isb Cu.pk at h
    rw [if_neg (by omega)] at h
    simp [hx] at h

section
variable {b : Nat} {A : Option Addr} {c : Nat} {C : Cu} {W : World}

set_option maxRecDepth 100000 in
set_option maxHeartbeats 4000000 in
theorem any_any (k : Int) (h : CuM b A c C W) (hk : C.Ok) : Calls Tryz.prog 108 #[.pointer (some ⟨b, 0, none⟩), .int .i64 k] W (CuV b A c (C.take (C.anyb k)).1 W fun e => e = .returned (nv (C.take (C.anyb k)).2)) := by
  have h0 := h.below (below1 W zb5)
  have HP := Lib.hid (peek_any 0 ⟨by omega, by omega⟩ h0 hk)
  have HL : Hid (∀ w1, Below (W.alloc zb5).heap.size (W.alloc zb5) w1 → Calls Tryz.prog 25 #[.pointer (some ⟨b, 0, none⟩)] w1 (Rd w1 (.int .i64 (C.left : Nat)))) := Lib.hid fun w1 hb => left_any (h0.below hb) hk
  have HN : Hid (∀ w1, Below (W.alloc zb5).heap.size (W.alloc zb5) w1 → Calls Tryz.prog 119 #[.pointer (some ⟨b, 0, none⟩), .bool false] w1 (CuV b A c (C.fail 2) w1 fun e => e = .returned (nv zn1))) := Lib.hid fun w1 hb => takeIf_no (h0.below hb) hk
  have HY : Hid (∀ t, C.nxt 0 = some t → ∀ w1, Below (W.alloc zb5).heap.size (W.alloc zb5) w1 → Calls Tryz.prog 119 #[.pointer (some ⟨b, 0, none⟩), .bool true] w1 (CuV b A c { C with n := C.n + 1 } w1 fun e => e = .returned (nv (C.leaf t)))) := Lib.hid fun t ht w1 hb => takeIf_yes ht (h0.below hb) hk
  have HM := Lib.hid h
  have hnn := hk.n
  unfold Rd at HP HL
  unfold Cu.pk at HP
  rw [if_neg (by omega)] at HP
  unfold Cu.anyb
  cases hx : C.nxt 0 with
  | none =>
    have hl : C.left = 0 := by have := Cu.nxt_none hx hnn; omega
    rw [Int.toNat_zero, hx] at HP
    rw [hl] at HL
    simp only [Cu.take_false]
    clear h hk h0 hx hl HY hnn
    go_enter Tryz.func108, Tryz.ntmps108
    go_wp2_with fail
    refine HP.out.mono ?_
    rintro e w1 ⟨rfl, hb1⟩
    have HB1 := Lib.hid hb1
    clear hb1
    go_wp2_with fail
    refine (HL.out w1 HB1.out).mono ?_
    rintro e w2 ⟨rfl, hb2⟩
    have HB2 := Lib.hid (HB1.out.trans (hb2.mono HB1.out.size))
    clear hb2
    go_wp2_with fail
    refine (HN.out w2 HB2.out).mono ?_
    intro e w3 hv
    have hv' : CuV b A c (C.fail 2) (W.alloc zb5) (fun e => e = .returned (nv zn1)) e w3 := ⟨hv.1, hv.2.1, (of_below HB2.out).trans hv.2.2⟩
    obtain ⟨hz, hm, ho, hs⟩ := res_set HM.out (C.fail_L 2) hv' zn1
    obtain ⟨rfl, -, -⟩ := hv
    have HH := Lib.hid (And.intro hm ho)
    clear hm ho hv'
    go_wp2_with (refine wpList_store_node (by rfl) 30 (.tmp 4) (.tmp 21) (by rfl) size_tnode W.heap.size zn1 (by rfl) (by rfl) hz ?_; generalize set5 w3 W.heap.size zn1 = w4 at hs HH ⊢)
    have g0 := cell_heap hs (i := 0)
    have g1 := cell_heap hs (i := 1)
    have g2 := cell_heap hs (i := 2)
    have g3 := cell_heap hs (i := 3)
    have g4 := cell_heap hs (i := 4)
    simp only [List.getElem?_toArray, List.getElem?_cons_zero, List.getElem?_cons_succ] at g0 g1 g2 g3 g4
    refine bodyPost_ret (v := nv zn1) (by simp [results, Tryz.results108, go_sem, g0, g1, g2, g3, g4]) rfl ⟨rfl, HH.out⟩
  | some t =>
    have hl := Cu.nxt_left hx
    have z1 : (0 : Int) < (C.left : Nat) := by omega
    rw [Int.toNat_zero, hx] at HP
    generalize C.left = q at HL z1
    simp only
    by_cases hkk : ((t.k : Nat) : Int) = k
    · subst hkk
      simp only [decide_true, Cu.take_true hx]
      have HT := Lib.hid (HY.out t hx)
      clear h hk h0 hl hnn HN HY hx
      go_enter Tryz.func108, Tryz.ntmps108
      go_wp2_with fail
      refine HP.out.mono ?_
      rintro e w1 ⟨rfl, hb1⟩
      have HB1 := Lib.hid hb1
      clear hb1
      go_wp2_with fail
      refine (HL.out w1 HB1.out).mono ?_
      rintro e w2 ⟨rfl, hb2⟩
      have HB2 := Lib.hid (HB1.out.trans (hb2.mono HB1.out.size))
      have hbe : (((t.k : Nat) : Int) == ((t.k : Nat) : Int)) = true := by simp
      clear hb2
      go_wp2_with fail
      refine (HT.out w2 HB2.out).mono ?_
      intro e w3 hv
      have hv' : CuV b A c { C with n := C.n + 1 } (W.alloc zb5) (fun e => e = .returned (nv (C.leaf t))) e w3 := ⟨hv.1, hv.2.1, (of_below HB2.out).trans hv.2.2⟩
      obtain ⟨hz, hm, ho, hs⟩ := res_set HM.out (C' := { C with n := C.n + 1 }) rfl hv' (C.leaf t)
      obtain ⟨rfl, -, -⟩ := hv
      have HH := Lib.hid (And.intro hm ho)
      generalize hLF : C.leaf t = LF at hs HH ⊢
      clear hm ho hv'
      go_wp2_with (refine wpList_store_node (by rfl) 30 (.tmp 4) (.tmp 21) (by rfl) size_tnode W.heap.size LF (by rfl) (by rfl) hz ?_; generalize set5 w3 W.heap.size LF = w4 at hs HH ⊢)
      have g0 := cell_heap hs (i := 0)
      have g1 := cell_heap hs (i := 1)
      have g2 := cell_heap hs (i := 2)
      have g3 := cell_heap hs (i := 3)
      have g4 := cell_heap hs (i := 4)
      simp only [List.getElem?_toArray, List.getElem?_cons_zero, List.getElem?_cons_succ] at g0 g1 g2 g3 g4
      refine bodyPost_ret (v := nv LF) (by simp [results, Tryz.results108, go_sem, g0, g1, g2, g3, g4]) rfl ⟨by show Ending.returned _ = Ending.returned _; rw [hLF], HH.out⟩
    · rw [decide_eq_false hkk]
      simp only [Cu.take_false]
      have hbe : (((t.k : Nat) : Int) == k) = false := by rw [beq_eq_false_iff_ne]; exact hkk
      clear h hk h0 hl hnn HY hx hkk
      go_enter Tryz.func108, Tryz.ntmps108
      go_wp2_with fail
      refine HP.out.mono ?_
      rintro e w1 ⟨rfl, hb1⟩
      have HB1 := Lib.hid hb1
      clear hb1
      go_wp2_with fail
      refine (HL.out w1 HB1.out).mono ?_
      rintro e w2 ⟨rfl, hb2⟩
      have HB2 := Lib.hid (HB1.out.trans (hb2.mono HB1.out.size))
      clear hb2
      go_wp2_with fail
      refine (HN.out w2 HB2.out).mono ?_
      intro e w3 hv
      have hv' : CuV b A c (C.fail 2) (W.alloc zb5) (fun e => e = .returned (nv zn1)) e w3 := ⟨hv.1, hv.2.1, (of_below HB2.out).trans hv.2.2⟩
      obtain ⟨hz, hm, ho, hs⟩ := res_set HM.out (C.fail_L 2) hv' zn1
      obtain ⟨rfl, -, -⟩ := hv
      have HH := Lib.hid (And.intro hm ho)
      clear hm ho hv'
      go_wp2_with (refine wpList_store_node (by rfl) 30 (.tmp 4) (.tmp 21) (by rfl) size_tnode W.heap.size zn1 (by rfl) (by rfl) hz ?_; generalize set5 w3 W.heap.size zn1 = w4 at hs HH ⊢)
      have g0 := cell_heap hs (i := 0)
      have g1 := cell_heap hs (i := 1)
      have g2 := cell_heap hs (i := 2)
      have g3 := cell_heap hs (i := 3)
      have g4 := cell_heap hs (i := 4)
      simp only [List.getElem?_toArray, List.getElem?_cons_zero, List.getElem?_cons_succ] at g0 g1 g2 g3 g4
      refine bodyPost_ret (v := nv zn1) (by simp [results, Tryz.results108, go_sem, g0, g1, g2, g3, g4]) rfl ⟨rfl, HH.out⟩

set_option maxRecDepth 100000 in
set_option maxHeartbeats 4000000 in
theorem want_any (s : ByteArray) (h : CuM b A c C W) (hk : C.Ok) : Calls Tryz.prog 106 #[.pointer (some ⟨b, 0, none⟩), .string s] W (CuV b A c (C.take (C.isb 0 s)).1 W fun e => e = .returned (nv (C.take (C.isb 0 s)).2)) := by
  have h0 := h.below (below1 W zb5)
  have HI := Lib.hid (is_any 0 s ⟨by omega, by omega⟩ h0 hk)
  have HM := Lib.hid h
  unfold Rd at HI
  cases hq : C.isb 0 s with
  | false =>
    rw [hq] at HI
    have HN : Hid (∀ w1, Below (W.alloc zb5).heap.size (W.alloc zb5) w1 → Calls Tryz.prog 119 #[.pointer (some ⟨b, 0, none⟩), .bool false] w1 (CuV b A c (C.fail 2) w1 fun e => e = .returned (nv zn1))) := Lib.hid fun w1 hb => takeIf_no (h0.below hb) hk
    simp only [Cu.take_false]
    clear h hk h0 hq
    go_enter Tryz.func106, Tryz.ntmps106
    go_wp2_with fail
    refine HI.out.mono ?_
    rintro e w2 ⟨rfl, hb2⟩
    have HB2 := Lib.hid hb2
    clear hb2
    go_wp2_with fail
    refine (HN.out w2 HB2.out).mono ?_
    intro e w3 hv
    have hv' : CuV b A c (C.fail 2) (W.alloc zb5) (fun e => e = .returned (nv zn1)) e w3 := ⟨hv.1, hv.2.1, (of_below HB2.out).trans hv.2.2⟩
    obtain ⟨hz, hm, ho, hs⟩ := res_set HM.out (C.fail_L 2) hv' zn1
    obtain ⟨rfl, -, -⟩ := hv
    have HH := Lib.hid (And.intro hm ho)
    clear hm ho hv'
    go_wp2_with (refine wpList_store_node (by rfl) 30 (.tmp 4) (.tmp 9) (by rfl) size_tnode W.heap.size zn1 (by rfl) (by rfl) hz ?_; generalize set5 w3 W.heap.size zn1 = w4 at hs HH ⊢)
    have g0 := cell_heap hs (i := 0)
    have g1 := cell_heap hs (i := 1)
    have g2 := cell_heap hs (i := 2)
    have g3 := cell_heap hs (i := 3)
    have g4 := cell_heap hs (i := 4)
    simp only [List.getElem?_toArray, List.getElem?_cons_zero, List.getElem?_cons_succ] at g0 g1 g2 g3 g4
    refine bodyPost_ret (v := nv zn1) (by simp [results, Tryz.results106, go_sem, g0, g1, g2, g3, g4]) rfl ⟨rfl, HH.out⟩
  | true =>
    rw [hq] at HI
    obtain ⟨t, ht⟩ := Cu.isb_some hq
    have HY : Hid (∀ w1, Below (W.alloc zb5).heap.size (W.alloc zb5) w1 → Calls Tryz.prog 119 #[.pointer (some ⟨b, 0, none⟩), .bool true] w1 (CuV b A c { C with n := C.n + 1 } w1 fun e => e = .returned (nv (C.leaf t)))) := Lib.hid fun w1 hb => takeIf_yes ht (h0.below hb) hk
    simp only [Cu.take_true ht]
    clear h hk h0 hq ht
    go_enter Tryz.func106, Tryz.ntmps106
    go_wp2_with fail
    refine HI.out.mono ?_
    rintro e w2 ⟨rfl, hb2⟩
    have HB2 := Lib.hid hb2
    clear hb2
    go_wp2_with fail
    refine (HY.out w2 HB2.out).mono ?_
    intro e w3 hv
    have hv' : CuV b A c { C with n := C.n + 1 } (W.alloc zb5) (fun e => e = .returned (nv (C.leaf t))) e w3 := ⟨hv.1, hv.2.1, (of_below HB2.out).trans hv.2.2⟩
    obtain ⟨hz, hm, ho, hs⟩ := res_set HM.out (C' := { C with n := C.n + 1 }) rfl hv' (C.leaf t)
    obtain ⟨rfl, -, -⟩ := hv
    have HH := Lib.hid (And.intro hm ho)
    generalize hLF : C.leaf t = LF at hs HH ⊢
    clear hm ho hv'
    go_wp2_with (refine wpList_store_node (by rfl) 30 (.tmp 4) (.tmp 9) (by rfl) size_tnode W.heap.size LF (by rfl) (by rfl) hz ?_; generalize set5 w3 W.heap.size LF = w4 at hs HH ⊢)
    have g0 := cell_heap hs (i := 0)
    have g1 := cell_heap hs (i := 1)
    have g2 := cell_heap hs (i := 2)
    have g3 := cell_heap hs (i := 3)
    have g4 := cell_heap hs (i := 4)
    simp only [List.getElem?_toArray, List.getElem?_cons_zero, List.getElem?_cons_succ] at g0 g1 g2 g3 g4
    refine bodyPost_ret (v := nv LF) (by simp [results, Tryz.results106, go_sem, g0, g1, g2, g3, g4]) rfl ⟨by show Ending.returned _ = Ending.returned _; rw [hLF], HH.out⟩
end
end Go.Proofs.YtfmlcddakfbleaaGreatDoor
