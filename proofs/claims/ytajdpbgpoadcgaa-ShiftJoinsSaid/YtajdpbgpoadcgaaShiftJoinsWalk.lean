/- The law ShiftJoins, walked. -/
import Derived.Test.YtajdpbgpoadcgaaShiftJoinsPair
namespace Go.Proofs.Ytajdpbgpoadcgaa
open Go.RowKit Go.Shelf EditMath ShiftMath

/-- what the walk leaves alone -/
def Stay (p : Prop) : Prop := p
theorem Stay.out {p : Prop} (h : Stay p) : p := h
theorem stay {p : Prop} (h : p) : Stay p := h

set_option maxRecDepth 100000 in
set_option maxHeartbeats 800000 in
theorem shiftJoins_walk (A0 A1 : Option Addr) (c0 c1 : Nat) (a b : List Ed) (size : Int) (hes0 : ∀ (i : Nat) (e : Ed), a[i]? = some e → (e.s.size : Int) ≤ 140737488355328) (hes1 : ∀ (i : Nat) (e : Ed), b[i]? = some e → (e.s.size : Int) ≤ 140737488355328)
    (hl0 : (a.length : Int) ≤ 9223372036854775807) (hl1 : (b.length : Int) ≤ 9223372036854775807) (hnil0 : A0 = none → c0 = 0) (hnil1 : A1 = none → c1 = 0) (w : World) (hr0 : Eds w w.heap.size A0 a) (hr1 : Eds w w.heap.size A1 b) :
    Calls Try.prog 5 #[.slice A0 a.length c0, .slice A1 b.length c1, .int .i64 size] w fun e w' => e = .returned (.bool true) ∧ Below w.heap.size w w' := by
  have HS0 := Lib.hid hes0
  have HS1 := Lib.hid hes1
  have HN0 := Lib.hid hnil0
  have HN1 := Lib.hid hnil1
  have HR0 := Lib.hid hr0
  have HR1 := Lib.hid hr1
  clear hes0 hes1 hnil0 hnil1 hr0 hr1
  go_enter Try.func5, Try.ntmps5
  go_wp2_with fail
  refine (alive_any _).mono ?_
  rintro e w1 ⟨rfl, hb1⟩
  go_wp2_with fail
  refine (large3_any size A0 c0 a HS0.out hl0 _ (HR0.out.after hb1)).mono ?_
  rintro e w2 ⟨hv, hb2⟩
  have hB2 := hb1.trans (hb2.mono hb1.size)
  clear hb1 hb2
  rcases hv with rfl | ⟨rfl, hla, htx, hsz⟩
  · go_wp2
    go_ret
    exact ⟨rfl, hB2⟩
  · go_wp2_with fail
    refine (large3_any 0 A1 c1 b HS1.out hl1 _ (HR1.out.after hB2)).mono ?_
    rintro e w3 ⟨hv, hb3⟩
    have hB3 := hB2.trans (hb3.mono hB2.size)
    clear hb3 hB2
    rcases hv with rfl | ⟨rfl, hlb, htx1, _⟩
    · go_wp2
      go_ret
      exact ⟨rfl, hB3⟩
    · obtain ⟨L, n, hn, hL, J1, J2⟩ := joins_pair a b size hla hlb hsz htx htx1
      have HJ1 := Lib.hid J1
      have HJ2 := Lib.hid J2
      clear J1 J2 HS0 HS1 hl0 hl1
      have hnn : (n == n) = true := by simp
      have HE0 := Lib.hid (HR0.out.after hB3)
      go_wp2_with (at_builtin; refine Stay.out ?_)
      refine stay ?_
      refine wpList_append_eds (by rfl) _ _ (by rfl) _ w3.heap.size (some ⟨w3.heap.size, 0, none⟩) 0 w3.heap.size A0 c0 a (by rfl) (by rfl) (empty_own3 w3 _ (Nat.le_refl _)) (HE0.out.alloc (Nat.le_refl _) _) HN0.out (by omega) (by simp) ?_
      intro A4 c4 w4 hown4 hgrow4
      have hb4 : Below w3.heap.size w3 w4 := below_append (m := []) ((Below.refl _ w3).alloc (Nat.le_refl _) _) hgrow4 (empty_own3 w3 _ (Nat.le_refl _)) (Nat.le_refl _) (by simp)
      have hB4 := hB3.trans (hb4.mono hB3.size)
      have HE1 := Lib.hid (HR1.out.after hB4)
      have HO3 := Lib.hid hown4.eds
      clear hown4 hgrow4 hb4
      go_wp2_with (at_builtin; refine Stay.out ?_)
      refine stay ?_
      refine wpList_append_eds (by rfl) _ _ (by rfl) _ w4.heap.size (some ⟨w4.heap.size, 0, none⟩) 0 w4.heap.size A1 c1 b (by rfl) (by rfl) (empty_own3 w4 _ (Nat.le_refl _)) (HE1.out.alloc (Nat.le_refl _) _) HN1.out (by omega) (by simp) ?_
      intro A5 c5 w5 hown5 hgrow5
      have hb5 : Below w4.heap.size w4 w5 := below_append (m := []) ((Below.refl _ w4).alloc (Nat.le_refl _) _) hgrow5 (empty_own3 w4 _ (Nat.le_refl _)) (Nat.le_refl _) (by simp)
      have hB5 := hB4.trans (hb5.mono hB4.size)
      have HO4 := Lib.hid (HO3.out.after hb5)
      have HO5 := Lib.hid hown5.eds
      clear hown5 hgrow5 hb5
      go_wp2_with fail
      refine (HJ1.out A4 A5 c4 c5 w5 HO4.out HO5.out).mono ?_
      rintro e w6 ⟨A6, c6, rfl, he6, hb6⟩
      have hB6 := hB5.trans (hb6.mono hB5.size)
      have HL6 := Lib.hid he6
      go_wp2_with fail
      refine (HJ2.out A0 A1 c0 c1 w6 (HR0.out.after hB6) (HR1.out.after hB6)).mono ?_
      rintro e w7 ⟨A7, c7, rfl, he7, hb7⟩
      have hB7 := hB6.trans (hb7.mono hB6.size)
      have HL7 := Lib.hid he7
      have HM7 := Lib.hid (HL6.out.after hb7)
      have HO7 := Lib.hid ((HO4.out.after hb6).after hb7)
      have HQ7 := Lib.hid ((HO5.out.after hb6).after hb7)
      clear he6 he7 hb6 hb7 HL6 HO4 HO5 HE0 HE1
      go_wp2_with fail
      refine (num_errV n hn _).mono ?_
      rintro e w8 ⟨rfl, rfl⟩
      go_wp2_with fail
      refine (edits_same2 A6 A7 c6 c7 L w7 hL HM7.out HL7.out).mono ?_
      rintro e w9 ⟨rfl, hb9⟩
      have hB9 := hB7.trans (hb9.mono hB7.size)
      go_wp2_with fail
      refine (edits_same2 A4 A0 c4 c0 a w9 (by omega) (HO7.out.after hb9) (HR0.out.after hB9)).mono ?_
      rintro e w10 ⟨rfl, hb10⟩
      have hB10 := hB9.trans (hb10.mono hB9.size)
      go_wp2_with fail
      refine (edits_same2 A5 A1 c5 c1 b w10 (by omega) ((HQ7.out.after hb9).after hb10) (HR1.out.after hB10)).mono ?_
      rintro e w11 ⟨rfl, hb11⟩
      go_wp2
      go_ret
      exact ⟨rfl, hB10.trans (hb11.mono hB10.size)⟩
end Go.Proofs.Ytajdpbgpoadcgaa
