/- What a nil cursor answers. -/
import Derived.Test.YtfmlcddakfbleaaGreatDoorCurAny
namespace Go.Proofs.YtfmlcddakfbleaaGreatDoor
open Go.RowKit SignMath TreeMath

variable (W : World)





theorem at_nil : Calls Tryz.prog 51 #[.pointer none] W (Rd W (.int .i64 0)) := by
  go_enter Tryz.func51, Tryz.ntmps51
  go_wp2
  go_ret
  exact ⟨rfl, Below.refl _ _⟩
theorem end_nil : Calls Tryz.prog 28 #[.pointer none] W (Rd W (.string ⟨#[]⟩)) := by
  go_enter Tryz.func28, Tryz.ntmps28
  go_wp2
  go_ret
  exact ⟨rfl, Below.refl _ _⟩
theorem down_nil : Calls Tryz.prog 101 #[.pointer none] W (Rd W (.bool false)) := by
  go_enter Tryz.func101, Tryz.ntmps101
  go_wp2
  go_ret
  exact ⟨rfl, Below.refl _ _⟩
theorem failed_nil : Calls Tryz.prog 27 #[.pointer none] W (Rd W (.tuple #[.int .i64 0, errn 2])) := by
  go_enter Tryz.func27, Tryz.ntmps27
  go_wp2
  refine bodyPost_ret (v := .tuple #[.int .i64 0, errn 2]) (by simp [results, Tryz.results27, go_sem]) rfl ⟨rfl, Below.refl _ _⟩
theorem up_nil : Calls Tryz.prog 102 #[.pointer none] W fun e w' => (∃ v, e = .returned v) ∧ Below W.heap.size W w' := by
  go_enter Tryz.func102, Tryz.ntmps102
  go_wp2
  refine bodyPost_end (results_none rfl _ _ _) rfl ?_
  exact ⟨⟨_, rfl⟩, Below.refl _ _⟩
theorem fail_nil (n : Int) : Calls Tryz.prog 26 #[.pointer none, .int .i64 n] W fun e w' => (∃ v, e = .returned v) ∧ Below W.heap.size W w' := by
  go_enter Tryz.func26, Tryz.ntmps26
  go_wp2
  refine bodyPost_ret (results_none rfl _ _ _) rfl ?_
  exact ⟨⟨_, rfl⟩, Below.refl _ _⟩
theorem peek_nil : Calls Tryz.prog 95 #[.pointer none, .int .i64 0] W (Rd W (.tuple #[.int .i64 0, .string ⟨#[]⟩])) := by
  have HL := Lib.hid (left_nil W)
  unfold Rd at HL
  go_enter Tryz.func95, Tryz.ntmps95
  go_wp2_with fail
  refine HL.out.mono ?_
  rintro e w1 ⟨rfl, hb⟩
  go_wp2
  refine bodyPost_ret (v := .tuple #[.int .i64 0, .string ⟨#[]⟩]) (by simp [results, Tryz.results95, go_sem]) rfl ⟨rfl, hb⟩
theorem is_nil (s : ByteArray) : Calls Tryz.prog 83 #[.pointer none, .int .i64 0, .string s] W (Rd W (.bool false)) := by
  have HP := Lib.hid (peek_nil W)
  unfold Rd at HP
  go_enter Tryz.func83, Tryz.ntmps83
  go_wp2_with fail
  refine HP.out.mono ?_
  rintro e w1 ⟨rfl, hb⟩
  go_wp2
  go_ret
  exact ⟨rfl, hb⟩
set_option maxRecDepth 100000 in
set_option maxHeartbeats 2000000 in
theorem takeIf_nil : Calls Tryz.prog 119 #[.pointer none, .bool false] W fun e w' => e = .returned (nv zn1) ∧ Below W.heap.size W w' := by
  have HF := Lib.hid (fail_nil (W.alloc zb5) 2)
  go_enter Tryz.func119, Tryz.ntmps119
  go_wp2_with fail
  refine HF.out.mono ?_
  rintro e w1 ⟨⟨v, rfl⟩, hb⟩
  have hz := (hb.block W.heap.size (by simp)).trans (heap_alloc_new W zb5)
  have hs := set5_self hz zn1
  have hB := below_set5 ((below1 W zb5).trans (hb.mono (by simp))) (Nat.le_refl _) zn1
  have HH := Lib.hid hB
  clear hb hB
  go_wp2_with (refine wpList_store_node (by rfl) 30 (.tmp 4) (.tmp 11) (by rfl) size_tnode W.heap.size zn1 (by rfl) (by rfl) hz ?_; generalize set5 w1 W.heap.size zn1 = w2 at hs HH ⊢)
  have g0 := cell_heap hs (i := 0)
  have g1 := cell_heap hs (i := 1)
  have g2 := cell_heap hs (i := 2)
  have g3 := cell_heap hs (i := 3)
  have g4 := cell_heap hs (i := 4)
  simp only [List.getElem?_toArray, List.getElem?_cons_zero, List.getElem?_cons_succ] at g0 g1 g2 g3 g4
  refine bodyPost_ret (v := nv zn1) (by simp [results, Tryz.results119, go_sem, g0, g1, g2, g3, g4]) rfl ⟨rfl, HH.out⟩
set_option maxRecDepth 100000 in
set_option maxHeartbeats 2000000 in
theorem any_nil (k : Int) : Calls Tryz.prog 108 #[.pointer none, .int .i64 k] W fun e w' => e = .returned (nv zn1) ∧ Below W.heap.size W w' := by
  have HP := Lib.hid (peek_nil (W.alloc zb5))
  unfold Rd at HP
  go_enter Tryz.func108, Tryz.ntmps108
  go_wp2_with fail
  refine HP.out.mono ?_
  rintro e w1 ⟨rfl, hb1⟩
  have HB1 := Lib.hid hb1
  have HL := Lib.hid (left_nil w1)
  unfold Rd at HL
  clear hb1
  go_wp2_with fail
  refine HL.out.mono ?_
  rintro e w2 ⟨rfl, hb2⟩
  have HB2 := Lib.hid (HB1.out.trans (hb2.mono HB1.out.size))
  have HT := Lib.hid (takeIf_nil w2)
  clear hb2
  go_wp2_with fail
  refine HT.out.mono ?_
  rintro e w3 ⟨rfl, hb3⟩
  have hb := HB2.out.trans (hb3.mono HB2.out.size)
  have hz := (hb.block W.heap.size (by simp)).trans (heap_alloc_new W zb5)
  have hs := set5_self hz zn1
  have hB := below_set5 ((below1 W zb5).trans (hb.mono (by simp))) (Nat.le_refl _) zn1
  have HH := Lib.hid hB
  clear hb hB hb3
  go_wp2_with (refine wpList_store_node (by rfl) 30 (.tmp 4) (.tmp 21) (by rfl) size_tnode W.heap.size zn1 (by rfl) (by rfl) hz ?_; generalize set5 w3 W.heap.size zn1 = w4 at hs HH ⊢)
  have g0 := cell_heap hs (i := 0)
  have g1 := cell_heap hs (i := 1)
  have g2 := cell_heap hs (i := 2)
  have g3 := cell_heap hs (i := 3)
  have g4 := cell_heap hs (i := 4)
  simp only [List.getElem?_toArray, List.getElem?_cons_zero, List.getElem?_cons_succ] at g0 g1 g2 g3 g4
  refine bodyPost_ret (v := nv zn1) (by simp [results, Tryz.results108, go_sem, g0, g1, g2, g3, g4]) rfl ⟨rfl, HH.out⟩
set_option maxRecDepth 100000 in
set_option maxHeartbeats 2000000 in
theorem want_nil (s : ByteArray) : Calls Tryz.prog 106 #[.pointer none, .string s] W fun e w' => e = .returned (nv zn1) ∧ Below W.heap.size W w' := by
  have HP := Lib.hid (is_nil (W.alloc zb5) s)
  unfold Rd at HP
  go_enter Tryz.func106, Tryz.ntmps106
  go_wp2_with fail
  refine HP.out.mono ?_
  rintro e w2 ⟨rfl, hb1⟩
  have HB2 := Lib.hid hb1
  have HT := Lib.hid (takeIf_nil w2)
  clear hb1
  go_wp2_with fail
  refine HT.out.mono ?_
  rintro e w3 ⟨rfl, hb3⟩
  have hb := HB2.out.trans (hb3.mono HB2.out.size)
  have hz := (hb.block W.heap.size (by simp)).trans (heap_alloc_new W zb5)
  have hs := set5_self hz zn1
  have hB := below_set5 ((below1 W zb5).trans (hb.mono (by simp))) (Nat.le_refl _) zn1
  have HH := Lib.hid hB
  clear hb hB hb3
  go_wp2_with (refine wpList_store_node (by rfl) 30 (.tmp 4) (.tmp 9) (by rfl) size_tnode W.heap.size zn1 (by rfl) (by rfl) hz ?_; generalize set5 w3 W.heap.size zn1 = w4 at hs HH ⊢)
  have g0 := cell_heap hs (i := 0)
  have g1 := cell_heap hs (i := 1)
  have g2 := cell_heap hs (i := 2)
  have g3 := cell_heap hs (i := 3)
  have g4 := cell_heap hs (i := 4)
  simp only [List.getElem?_toArray, List.getElem?_cons_zero, List.getElem?_cons_succ] at g0 g1 g2 g3 g4
  refine bodyPost_ret (v := nv zn1) (by simp [results, Tryz.results106, go_sem, g0, g1, g2, g3, g4]) rfl ⟨rfl, HH.out⟩
end Go.Proofs.YtfmlcddakfbleaaGreatDoor
