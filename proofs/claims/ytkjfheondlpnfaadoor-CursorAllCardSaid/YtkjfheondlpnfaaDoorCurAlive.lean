/- The chapter's example: the cursor through a = 1. -/
import Derived.Test.YtkjfheondlpnfaaDoorCurNil
import Derived.Test.YtkjfheondlpnfaaDoorCurNew
namespace Go.Proofs.YtkjfheondlpnfaaDoor
open Go.RowKit SignMath TreeMath

theorem of_low {n b : Nat} {W W' : World} (h : Of b W W') (hn : n ≤ b) (hs : n ≤ W.heap.size) : Below n W W' :=
  ⟨h.os, h.tape, h.output, h.size, fun k hk => h.block k (by omega) (by show ¬ k = b; omega)⟩

def ca0 : Cu := ⟨⟨#[97, 32, 61, 32, 49]⟩, [⟨4, 0, 1⟩, ⟨6, 2, 3⟩, ⟨5, 4, 5⟩], 0, 0, 0, 0⟩
def xa1 : Tr := ⟨1, ⟨#[]⟩, ⟨#[97]⟩, 0, none, 0, []⟩
def xa2 : Tr := ⟨1, ⟨#[32]⟩, ⟨#[61]⟩, 2, none, 0, []⟩
def xa3 : Tr := ⟨1, ⟨#[32]⟩, ⟨#[49]⟩, 4, none, 0, []⟩
theorem ca0_toks : tk [97, 32, 61, 32, 49] 0 = [⟨4, 0, 1⟩, ⟨1, 1, 2⟩, ⟨6, 2, 3⟩, ⟨1, 3, 4⟩, ⟨5, 4, 5⟩] := by decide +kernel
theorem ca0_is : cu0 ⟨#[97, 32, 61, 32, 49]⟩ = ca0 := by
  unfold cu0
  rw [show tk (bs ⟨#[97, 32, 61, 32, 49]⟩) 0 = _ from ca0_toks]
  rfl
theorem ca1_is : ca0.take (ca0.anyb 4) = ({ ca0 with n := 1 }, xa1) := by kernel_rfl
theorem ca2_is : ({ ca0 with n := 1 } : Cu).take (({ ca0 with n := 1 } : Cu).isb 0 ⟨#[61]⟩) = ({ ca0 with n := 2 }, xa2) := by kernel_rfl
theorem ca3_is : ({ ca0 with n := 2 } : Cu).take (({ ca0 with n := 2 } : Cu).anyb 5) = ({ ca0 with n := 3 }, xa3) := by kernel_rfl

/-- New of a small clean text -/
theorem new_small (s : ByteArray) (C : Cu) (hs : s.size ≤ 4000) (hb : bad (tk (bs s) 0) = none) (hC : cu0 s = C) (w : World) (hL : LaidX w) :
    Calls Tryd.prog 6 #[.string s] w fun e w' => ∃ b A c, e = .returned (.tuple #[.pointer (some ⟨b, 0, none⟩), .int .i64 0, .nilIface]) ∧ w.heap.size ≤ b ∧ CuM b A c C w' ∧ Below w.heap.size w w' := by
  have h := new_any s w hL
  unfold NewV at h
  simp only [if_neg (show ¬ 4000 < s.size by omega), hb, hC] at h
  exact h

set_option maxRecDepth 100000 in
set_option maxHeartbeats 4000000 in
theorem curAlive_any (w : World) (hL : LaidX w) : Calls Tryd.prog 5 #[] w fun e w' => e = .returned (.bool true) ∧ Below w.heap.size w w' := by
  have HN := Lib.hid (new_small ⟨#[97, 32, 61, 32, 49]⟩ ca0 (by decide) (by rw [show tk (bs ⟨#[97, 32, 61, 32, 49]⟩) 0 = _ from ca0_toks]; decide) ca0_is w hL)
  have hk0 : ca0.Ok := by rw [← ca0_is]; exact cu0_ok _ (by decide)
  have hk1 : ({ ca0 with n := 1 } : Cu).Ok := by have := hk0.take (ca0.anyb 4); rwa [ca1_is] at this
  have hk2 : ({ ca0 with n := 2 } : Cu).Ok := by have := hk1.take (({ ca0 with n := 1 } : Cu).isb 0 ⟨#[61]⟩); rwa [ca2_is] at this
  have hk3 : ({ ca0 with n := 3 } : Cu).Ok := by have := hk2.take (({ ca0 with n := 2 } : Cu).anyb 5); rwa [ca3_is] at this
  have H1 : Hid (∀ b A c W, CuM b A c ca0 W → Calls Tryd.prog 9 #[.pointer (some ⟨b, 0, none⟩), .int .i64 4] W (CuV b A c { ca0 with n := 1 } W fun e => e = .returned (nv xa1))) := Lib.hid fun b A c W h => by have := any_any 4 h hk0; rwa [ca1_is] at this
  have H2 : Hid (∀ b A c W, CuM b A c { ca0 with n := 1 } W → Calls Tryd.prog 22 #[.pointer (some ⟨b, 0, none⟩), .string ⟨#[61]⟩] W (CuV b A c { ca0 with n := 2 } W fun e => e = .returned (nv xa2))) := Lib.hid fun b A c W h => by have := want_any ⟨#[61]⟩ h hk1; rwa [ca2_is] at this
  have H3 : Hid (∀ b A c W, CuM b A c { ca0 with n := 2 } W → Calls Tryd.prog 9 #[.pointer (some ⟨b, 0, none⟩), .int .i64 5] W (CuV b A c { ca0 with n := 3 } W fun e => e = .returned (nv xa3))) := Lib.hid fun b A c W h => by have := any_any 5 h hk2; rwa [ca3_is] at this
  have H4 : Hid (∀ b A c W, CuM b A c { ca0 with n := 3 } W → Calls Tryd.prog 7 #[.pointer (some ⟨b, 0, none⟩)] W fun e w' => e = .returned (.int .i64 0) ∧ Below W.heap.size W w') := Lib.hid fun b A c W h => left_any h hk3
  clear hk0 hk1 hk2 hk3 hL
  go_enter Tryd.func5, Tryd.ntmps5
  go_wp2_with fail
  refine HN.out.mono ?_
  rintro e w1 ⟨b, A, c, rfl, hwb, hm1, hb1⟩
  have HB1 := Lib.hid hb1
  have C1 := Lib.hid (H1.out b A c w1 hm1)
  clear hb1 hm1
  go_wp2_with fail
  refine C1.out.mono ?_
  rintro e w2 ⟨rfl, hm2, ho2⟩
  have HB2 := Lib.hid (HB1.out.trans (of_low ho2 hwb HB1.out.size))
  have C2 := Lib.hid (H2.out b A c w2 hm2)
  clear ho2 hm2
  go_wp2_with fail
  refine C2.out.mono ?_
  rintro e w3 ⟨rfl, hm3, ho3⟩
  have HB3 := Lib.hid (HB2.out.trans (of_low ho3 hwb HB2.out.size))
  have C3 := Lib.hid (H3.out b A c w3 hm3)
  clear ho3 hm3
  go_wp2_with fail
  refine C3.out.mono ?_
  rintro e w4 ⟨rfl, hm4, ho4⟩
  have hb4 := HB3.out.trans (of_low ho4 hwb HB3.out.size)
  have e0 : (((w4.alloc zb5).alloc zb5).alloc zb5).heap[w4.heap.size]? = some zb5 := (Below.heap_alloc _ _ _ (by simp; omega)).trans ((Below.heap_alloc _ _ _ (by simp)).trans (heap_alloc_new w4 zb5))
  have e1 : (((w4.alloc zb5).alloc zb5).alloc zb5).heap[w4.heap.size + 1]? = some zb5 := (Below.heap_alloc _ _ _ (by simp)).trans (by have := heap_alloc_new (w4.alloc zb5) zb5; rwa [World.size_alloc] at this)
  have e2 : (((w4.alloc zb5).alloc zb5).alloc zb5).heap[w4.heap.size + 1 + 1]? = some zb5 := by have := heap_alloc_new ((w4.alloc zb5).alloc zb5) zb5; rwa [World.size_alloc, World.size_alloc] at this
  have hB7 : Below w4.heap.size w4 (((w4.alloc zb5).alloc zb5).alloc zb5) := ((below1 w4 zb5).alloc (by simp) zb5).alloc (by simp; omega) zb5
  have E0 := Lib.hid e0
  have E1 := Lib.hid e1
  have E2 := Lib.hid e2
  have HB7 := Lib.hid hB7
  have HM4 := Lib.hid hm4
  have HB4 := Lib.hid hb4
  clear e0 e1 e2 hB7 hm4 ho4 hb4
  go_wp2_with (refine wpList_store_node (by rfl) 35 (.tmp 4) (.tmp 19) (by rfl) size_tnode w4.heap.size xa1 (by rfl) (by rfl) E0.out ?_; refine LStay.out ?_)
  refine LStay.in_ ?_
  have f1 := (set5_other (T := xa1) (b := w4.heap.size) (k := w4.heap.size + 1) (by omega)).trans E1.out
  have f2 := (set5_other (T := xa1) (b := w4.heap.size) (k := w4.heap.size + 1 + 1) (by omega)).trans E2.out
  have f0 := set5_self E0.out xa1
  have hB8 := below_set5 HB7.out (Nat.le_refl _) xa1
  generalize set5 (((w4.alloc zb5).alloc zb5).alloc zb5) w4.heap.size xa1 = w5 at f0 f1 f2 hB8 ⊢
  have F1 := Lib.hid f1
  go_wp2_with (refine wpList_store_node (by rfl) 35 (.tmp 5) (.tmp 21) (by rfl) size_tnode (w4.heap.size + 1) xa2 (by rfl) (by rfl) F1.out ?_; refine LStay.out ?_)
  refine LStay.in_ ?_
  have g1 := set5_self f1 xa2
  have g0 := (set5_other (T := xa2) (b := w4.heap.size + 1) (k := w4.heap.size) (by omega)).trans f0
  have g2 := (set5_other (T := xa2) (b := w4.heap.size + 1) (k := w4.heap.size + 1 + 1) (by omega)).trans f2
  have hB9 := below_set5 hB8 (Nat.le_succ _) xa2
  generalize set5 w5 (w4.heap.size + 1) xa2 = w6 at g0 g1 g2 hB9 ⊢
  have G2 := Lib.hid g2
  go_wp2_with (refine wpList_store_node (by rfl) 35 (.tmp 6) (.tmp 23) (by rfl) size_tnode (w4.heap.size + 1 + 1) xa3 (by rfl) (by rfl) G2.out ?_; refine LStay.out ?_)
  refine LStay.in_ ?_
  have k2 := set5_self g2 xa3
  have k0 := (set5_other (T := xa3) (b := w4.heap.size + 1 + 1) (k := w4.heap.size) (by omega)).trans g0
  have k1 := (set5_other (T := xa3) (b := w4.heap.size + 1 + 1) (k := w4.heap.size + 1) (by omega)).trans g1
  have hB10 := below_set5 hB9 (by omega : w4.heap.size ≤ w4.heap.size + 1 + 1) xa3
  generalize set5 w6 (w4.heap.size + 1 + 1) xa3 = w7 at k0 k1 k2 hB10 ⊢
  have C4 := Lib.hid (H4.out b A c w7 (HM4.out.below hB10))
  have a1 : w7.cell? ⟨w4.heap.size, 1, none⟩ = some (.string ⟨#[]⟩) := cell_heap k0
  have a2 : w7.cell? ⟨w4.heap.size, 2, none⟩ = some (.string ⟨#[97]⟩) := cell_heap k0
  have a3 : w7.cell? ⟨w4.heap.size + 1, 1, none⟩ = some (.string ⟨#[32]⟩) := cell_heap k1
  have a4 : w7.cell? ⟨w4.heap.size + 1 + 1, 1, none⟩ = some (.string ⟨#[32]⟩) := cell_heap k2
  have a5 : w7.cell? ⟨w4.heap.size + 1 + 1, 3, none⟩ = some (.int .i64 4) := cell_heap k2
  have HB10 := Lib.hid (HB4.out.trans (hB10.mono HB4.out.size))
  clear f0 f1 f2 g0 g1 g2 k0 k1 k2 hB8 hB9 hB10 E0 E1 E2 F1 G2
  go_wp2_with fail
  refine C4.out.mono ?_
  rintro e w8 ⟨rfl, hb8⟩
  go_wp2
  go_ret
  exact ⟨rfl, HB10.out.trans (hb8.mono HB10.out.size)⟩
end Go.Proofs.YtkjfheondlpnfaaDoor
