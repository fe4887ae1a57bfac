/- Without, and the law EditMerges, walked. -/
import Derived.Test.YtgecifinefpfoaaEditDelete
namespace Go.Proofs.Ytgecifinefpfoaa
open Go.RowKit EditMath

set_option maxHeartbeats 800000 in
theorem without_bad (s : ByteArray) (A : Option Addr) (c : Nat) (l : List Ed) (hb : rt l s.size = false) (hs : (s.size : Int) ≤ 70000) (w : World) (hl : l.length ≤ 100) (hr : Eds w w.heap.size A l) :
    Calls Try.prog 22 #[.string s, .slice A l.length c] w (ListV [] (errn 2) w) := by
  have HC := Lib.hid (right_any A c l s.size (w.alloc (.cells #[.string s] 9)) hl ((hr.alloc (Nat.le_refl _) _).more (by simp)))
  rw [hb] at HC
  clear hb hr
  go_enter Try.func22, Try.ntmps22
  go_wp2_with fail
  refine HC.out.mono ?_
  rintro e w1 ⟨rfl, hb1⟩
  go_wp2
  go_ret2
  exact ⟨none, 0, rfl, Eds.none_, (below1 w _).trans (hb1.mono (by simp))⟩

set_option maxHeartbeats 800000 in
theorem without_ok (s : ByteArray) (A : Option Addr) (c : Nat) (l : List Ed) (hb : rt l s.size = true) (hs : (s.size : Int) ≤ 70000) (hnil : A = none → c = 0) (w : World) (hl : l.length ≤ 100) (hr : Eds w w.heap.size A l) :
    Calls Try.prog 22 #[.string s, .slice A l.length c] w (ListV (wo s l) .nilIface w) := by
  have HC := Lib.hid (right_any A c l s.size (w.alloc (.cells #[.string s] 9)) hl ((hr.alloc (Nat.le_refl _) _).more (by simp)))
  rw [hb] at HC
  have HT := Lib.hid hb
  have HNIL := Lib.hid hnil
  have HR := Lib.hid hr
  clear hb hr hnil
  go_enter Try.func22, Try.ntmps22
  go_wp2_with fail
  refine HC.out.mono ?_
  rintro e w1 ⟨rfl, hb1⟩
  have hB1 : Below w.heap.size w w1 := (below1 w _).trans (hb1.mono (by simp))
  have hs1 : w.heap.size < w1.heap.size := by have := hb1.size; simp at this; omega
  have hx1 : w1.cell? ⟨w.heap.size, 0, none⟩ = some (.string s) := by rw [hb1.cell (p := ⟨w.heap.size, 0, none⟩) (by simp)]; simp
  have HX1 := Lib.hid hx1
  clear HC hx1 hb1
  go_wp2_with fail
  refine (clone_any A c l HNIL.out w1 (by omega) (HR.out.after hB1)).mono ?_
  rintro e w2 ⟨A2, c2, rfl, hown2, hb2⟩
  have hB2 := hB1.trans (hb2.mono hB1.size)
  have hx2 : w2.cell? ⟨w.heap.size, 0, none⟩ = some (.string s) := by rw [hb2.cell (p := ⟨w.heap.size, 0, none⟩) hs1]; exact HX1.out
  have HX2 := Lib.hid hx2
  have HO2 := Lib.hid hown2
  have hs2 := hb2.size
  clear hown2 hx2 hb2
  go_wp2_with fail
  refine (deleteFunc_any s w1.heap.size w.heap.size A2 c2 l HT.out hs w2 hl HO2.out hs1 hs2 HX2.out).mono ?_
  rintro e w3 ⟨A3, c3, rfl, he3, hb3⟩
  have HE3 := Lib.hid he3
  have hB3 := hB2.trans (hb3.mono (Nat.le_of_lt hs1))
  clear he3 hb3
  generalize wo s l = m at *
  go_wp2
  go_ret2
  exact ⟨A3, c3, rfl, HE3.out, hB3⟩

set_option maxRecDepth 100000 in
set_option maxHeartbeats 3200000 in
theorem editMerges_walk (s : ByteArray) (hs : (s.size : Int) ≤ 140737488355328) (A : Option Addr) (c : Nat) (l : List Ed) (hes : ∀ (i : Nat) (e : Ed), l[i]? = some e → (e.s.size : Int) ≤ 140737488355328) (hl : (l.length : Int) ≤ 9223372036854775807) (hnil : A = none → c = 0) (w : World) (hr : Eds w w.heap.size A l) :
    Calls Try.prog 5 #[.string s, .slice A l.length c] w fun e w' => e = .returned (.bool true) ∧ Below w.heap.size w w' := by
  have HS := Lib.hid hes
  have HNIL := Lib.hid hnil
  clear hes hnil
  go_enter Try.func5, Try.ntmps5
  go_wp2_with fail
  refine (alive_any _).mono ?_
  rintro e w1 ⟨rfl, hb1⟩
  go_wp2_with fail
  refine (large_any s hs A c l HS.out hl _ (hr.after hb1)).mono ?_
  rintro e w2 ⟨hv, hb2⟩
  have hB2 := hb1.trans (hb2.mono hb1.size)
  clear hb1 hb2
  rcases hv with rfl | ⟨rfl, hl41, htx⟩
  · go_wp2
    go_ret
    exact ⟨rfl, hB2⟩
  · clear hl
    have h0 := tx_nonneg l
    have htx2 : tx l ≤ 70000 := by omega
    have hs7 : (s.size : Int) ≤ 70000 := by omega
    have HR2 := Lib.hid (hr.after hB2)
    have HR := Lib.hid hr
    clear hr hs
    go_wp2_with (at_builtin; refine wpList_append_eds (by rfl) _ _ (by rfl) _ w2.heap.size (some ⟨w2.heap.size, 0, none⟩) 0 w2.heap.size A c l (by rfl) (by rfl) (empty_own w2 _ (Nat.le_refl _)) (HR2.out.alloc (Nat.le_refl _) _) HNIL.out (by omega) (by simp) ?_; intro A3 c3 w3 hown3 hgrow3)
    have hb3 : Below w2.heap.size w2 w3 := below_append (m := []) ((Below.refl _ w2).alloc (Nat.le_refl _) _) hgrow3 (empty_own w2 _ (Nat.le_refl _)) (Nat.le_refl _) (by simp)
    have hB3 := hB2.trans (hb3.mono hB2.size)
    have HO3 := Lib.hid hown3.eds
    have hcap3 := hown3.cap
    have HN3 := Lib.hid hown3.nilcap
    clear hb3 hgrow3 hown3 HR2
    cases hq : rt l s.size with
    | false =>
      have HQ := Lib.hid hq
      have R0 := Lib.hid (refRight_any A c l s.size)
      rw [hq] at R0
      clear hq
      go_wp2_with fail
      refine (merge_bad A3 c3 l s.size HQ.out w3 (by omega) HO3.out).mono ?_
      rintro e w4 ⟨A4, c4, rfl, _, hb4⟩
      have hB4 := hB3.trans (hb4.mono hB3.size)
      have HO4 := Lib.hid (HO3.out.after hb4)
      go_wp2_with fail
      refine (without_bad s A3 c3 l HQ.out hs7 w4 (by omega) HO4.out).mono ?_
      rintro e w5 ⟨A5, c5, rfl, _, hb5⟩
      have hB5 := hB4.trans (hb5.mono hB4.size)
      have HO5 := Lib.hid (HO4.out.after hb5)
      go_wp2_with fail
      refine (edits_same A3 A c3 c l w5 (by omega) HO5.out (HR.out.after hB5)).mono ?_
      rintro e w6 ⟨rfl, hb6⟩
      have hB6 := hB5.trans (hb6.mono hB5.size)
      go_wp2_with fail
      refine (R0.out w6 (by omega) (HR.out.after hB6)).mono ?_
      rintro e w7 ⟨rfl, hb7⟩
      have hB7 := hB6.trans (hb7.mono hB6.size)
      clear hb4 hb5 hb6 hb7
      go_wp2_with fail
      refine (is_errno 2 2 (by omega) _).mono ?_
      rintro e w8 ⟨rfl, rfl⟩
      go_wp2_with fail
      refine (is_errno 2 2 (by omega) _).mono ?_
      rintro e w8 ⟨rfl, rfl⟩
      go_wp2
      go_ret
      exact ⟨rfl, hB7⟩
    | true =>
      have HQ := Lib.hid hq
      have R0 := Lib.hid (refRight_any A c l s.size)
      rw [hq] at R0
      have hmp := mg_plain hq
      have hml := mg_length l
      have hwl := wo_length s l
      have R1 := Lib.hid (merge_ok A3 c3 l s.size hq htx2)
      have R2 := Lib.hid (without_ok s A3 c3 l hq hs7 HN3.out)
      have R3 := Lib.hid (refMerge_any A c l s.size hq htx2)
      have R4 := Lib.hid (refWithout_any s A c l hq hs7)
      have R5 := Lib.hid (fun A' c' => plain_any A' c' (mg l) s.size)
      rw [hmp] at R5
      clear hq hmp
      generalize mg l = m at *
      generalize wo s l = o at *
      go_wp2_with fail
      refine (R1.out w3 (by omega) hcap3 HO3.out).mono ?_
      rintro e w4 ⟨A4, c4, rfl, he4, hb4⟩
      have hB4 := hB3.trans (hb4.mono hB3.size)
      have HO4 := Lib.hid (HO3.out.after hb4)
      have HM4 := Lib.hid he4
      go_wp2_with fail
      refine (R2.out w4 (by omega) HO4.out).mono ?_
      rintro e w5 ⟨A5, c5, rfl, he5, hb5⟩
      have hB5 := hB4.trans (hb5.mono hB4.size)
      have HO5 := Lib.hid (HO4.out.after hb5)
      have HM5 := Lib.hid (HM4.out.after hb5)
      have HW5 := Lib.hid he5
      go_wp2_with fail
      refine (edits_same A3 A c3 c l w5 (by omega) HO5.out (HR.out.after hB5)).mono ?_
      rintro e w6 ⟨rfl, hb6⟩
      have hB6 := hB5.trans (hb6.mono hB5.size)
      have HM6 := Lib.hid (HM5.out.after hb6)
      have HW6 := Lib.hid (HW5.out.after hb6)
      go_wp2_with fail
      refine (R0.out w6 (by omega) (HR.out.after hB6)).mono ?_
      rintro e w7 ⟨rfl, hb7⟩
      have hB7 := hB6.trans (hb7.mono hB6.size)
      have HM7 := Lib.hid (HM6.out.after hb7)
      have HW7 := Lib.hid (HW6.out.after hb7)
      clear hb4 hb5 hb6 hb7 he4 he5 HO3 HO4 HO5 HM4 HM5 HM6 HW5 HW6 R0 R1 R2
      go_wp2_with fail
      refine (R3.out w7 (by omega) (HR.out.after hB7)).mono ?_
      rintro e w8 ⟨A8, c8, rfl, he8, hb8⟩
      have hB8 := hB7.trans (hb8.mono hB7.size)
      have HM8 := Lib.hid (HM7.out.after hb8)
      have HW8 := Lib.hid (HW7.out.after hb8)
      have HE8 := Lib.hid he8
      clear he8 hb8
      go_wp2_with fail
      refine (edits_same A4 A8 c4 c8 m w8 (by omega) HM8.out HE8.out).mono ?_
      rintro e w9 ⟨rfl, hb9⟩
      have hB9 := hB8.trans (hb9.mono hB8.size)
      have HM9 := Lib.hid (HM8.out.after hb9)
      have HW9 := Lib.hid (HW8.out.after hb9)
      clear hb9
      go_wp2_with fail
      refine (R4.out w9 (by omega) (HR.out.after hB9)).mono ?_
      rintro e w10 ⟨A10, c10, rfl, he10, hb10⟩
      have hB10 := hB9.trans (hb10.mono hB9.size)
      have HM10 := Lib.hid (HM9.out.after hb10)
      have HW10 := Lib.hid (HW9.out.after hb10)
      have HE10 := Lib.hid he10
      clear he10 hb10
      go_wp2_with fail
      refine (edits_same A5 A10 c5 c10 o w10 (by omega) HW10.out HE10.out).mono ?_
      rintro e w11 ⟨rfl, hb11⟩
      have hB11 := hB10.trans (hb11.mono hB10.size)
      have HM11 := Lib.hid (HM10.out.after hb11)
      clear hb11
      go_wp2_with fail
      refine (R5.out A4 c4 w11 (by omega) HM11.out).mono ?_
      rintro e w12 ⟨rfl, hb12⟩
      go_wp2
      go_ret
      exact ⟨rfl, hB11.trans (hb12.mono hB11.size)⟩

end Go.Proofs.Ytgecifinefpfoaa
