/- The law EditApplies, walked. -/
import Derived.Test.YtgecifinefpfoaaEditRightWalk
import Derived.Test.YtgecifinefpfoaaEditRefInvert
import Derived.Test.YtgecifinefpfoaaEditSame
namespace Go.Proofs.Ytgecifinefpfoaa
open Go.RowKit EditMath

theorem empty_own (w : World) (base : Nat) (h : base ≤ w.heap.size) : Own (w.alloc (.cells #[] 47)) base (some ⟨w.heap.size, 0, none⟩) 0 [] :=
  World.ownsRow_made w #[] 0 h (by unfold maxLen; omega) rfl

/-- an error by its number -/
def errV (n : Int) : Value := if n = 0 then .nilIface else errn n
/-- the text behind edits -/
def apT (s : ByteArray) (l : List Ed) : ByteArray := if bad s l = 0 then ⟨(ap s.data.toList 0 l).toArray⟩ else ⟨#[]⟩

theorem bad_pos (s : ByteArray) (l : List Ed) : 0 ≤ bad s l := by
  rcases bad_cases s l with h | ⟨h, _⟩ | ⟨h, _⟩ <;> omega

theorem worse_pos (s : ByteArray) (l : List Ed) : 0 ≤ worse s l := by
  have := bad_pos s l
  unfold worse
  split
  · split <;> omega
  · exact this

theorem num_any (n : Int) (hn : 0 ≤ n) (w : World) : Calls Try.prog 19 #[errV n] w fun e w' => e = .returned (.int .i64 n) ∧ w = w' := by
  unfold errV
  by_cases h : n = 0
  · subst h; exact num_nil w
  · rw [if_neg h]; exact num_errno n (by omega) w

theorem apply_any (s : ByteArray) (A : Option Addr) (c : Nat) (l : List Ed) (htx : (s.size : Int) + tx l ≤ 70000) (w : World) (hl : l.length ≤ 100) (hr : Eds w w.heap.size A l) :
    Calls Try.prog 15 #[.string s, .slice A l.length c] w fun e w' => e = .returned (.tuple #[.string (apT s l), errV (bad s l)]) ∧ Below w.heap.size w w' := by
  by_cases h : bad s l = 0
  · have := apply_ok s A c l h htx w hl hr
    unfold apT errV
    rw [if_pos h, if_pos h]
    exact this
  · have := apply_bad s A c l h htx w hl hr
    unfold apT errV
    rw [if_neg h, if_neg h]
    exact this

theorem refApply_any (s : ByteArray) (A : Option Addr) (c : Nat) (l : List Ed) (htx : (s.size : Int) + tx l ≤ 70000) (w : World) (hl : l.length ≤ 100) (hr : Eds w w.heap.size A l) :
    Calls Try.prog 16 #[.string s, .slice A l.length c] w fun e w' => e = .returned (.tuple #[.string (apT s l), .int .i64 (bad s l)]) ∧ Below w.heap.size w w' := by
  by_cases h : bad s l = 0
  · have := refApply_ok s A c l h htx w hl hr
    unfold apT
    rw [if_pos h, h]
    exact this
  · have := refApply_bad s A c l h htx w hl hr
    unfold apT
    rw [if_neg h]
    exact this

theorem invert_any (s : ByteArray) (A : Option Addr) (c : Nat) (l : List Ed) (htx : (s.size : Int) + tx l ≤ 70000) (w : World) (hl : l.length ≤ 100) (hr : Eds w w.heap.size A l) :
    Calls Try.prog 17 #[.string s, .slice A l.length c] w (ListV (backL s l) (errV (worse s l)) w) := by
  unfold backL errV worse
  by_cases h : bad s l = 0
  · have := invert_ok s A c l h htx w hl hr
    simp only [h, if_true]
    by_cases k : nodup (iv s 0 l) = true
    · simp only [k, if_true] at this ⊢; exact this
    · simp only [k, if_false, Bool.false_eq_true] at this ⊢; exact this
  · have := invert_bad s A c l h htx w hl hr
    simp only [h, if_false]
    exact this

theorem refInvert_any (s : ByteArray) (A : Option Addr) (c : Nat) (l : List Ed) (htx : (s.size : Int) + tx l ≤ 70000) (w : World) (hl : l.length ≤ 100) (hc : l.length ≤ c) (hr : Eds w w.heap.size A l) :
    Calls Try.prog 18 #[.string s, .slice A l.length c] w (ListV (backL s l) (.int .i64 (worse s l)) w) := by
  unfold backL worse
  by_cases h : bad s l = 0
  · have := refInvert_ok s A c l h htx w hl hc hr
    simp only [h, if_true]
    by_cases k : nodup (iv s 0 l) = true
    · simp only [k, if_true] at this ⊢; exact this
    · simp only [k, if_false, Bool.false_eq_true] at this ⊢; exact this
  · have := refInvert_bad s A c l h htx w hl hr
    simp only [h, if_false]
    exact this

theorem backL_length (s : ByteArray) (l : List Ed) : (backL s l).length ≤ l.length := by
  unfold backL
  split
  · rw [iv_length]; exact Nat.le_refl _
  · simp

set_option maxRecDepth 100000 in
set_option maxHeartbeats 3200000 in
theorem editApplies_walk (s : ByteArray) (hs : (s.size : Int) ≤ 140737488355328) (A : Option Addr) (c : Nat) (l : List Ed) (hes : ∀ (i : Nat) (e : Ed), l[i]? = some e → (e.s.size : Int) ≤ 140737488355328) (hl : (l.length : Int) ≤ 9223372036854775807) (hcap : l.length ≤ c) (hnil : A = none → c = 0) (w : World) (hr : Eds w w.heap.size A l) :
    Calls Try.prog 4 #[.string s, .slice A l.length c] w fun e w' => e = .returned (.bool true) ∧ Below w.heap.size w w' := by
  have HS := Lib.hid hes
  have HNIL := Lib.hid hnil
  clear hes hnil
  go_enter Try.func4, Try.ntmps4
  go_wp2_with fail
  refine (alive_any _).mono ?_
  rintro e w1 ⟨rfl, hb1⟩
  go_wp2_with fail
  refine (large_any s hs A c l HS.out hl _ (hr.after hb1)).mono ?_
  rintro e w2 ⟨hv, hb2⟩
  have hB2 := hb1.trans (hb2.mono hb1.size)
  clear hb1 hb2
  rcases hv with rfl | ⟨rfl, hl41, htx⟩
  · go_wp2
    go_ret
    exact ⟨rfl, hB2⟩
  · clear hl
    have HR2 := Lib.hid (hr.after hB2)
    have HR := Lib.hid hr
    have n1 := bad_pos s l
    have n2 := worse_pos s l
    have n3 := backL_length s l
    have R1 := Lib.hid (fun A' c' => apply_any s A' c' l htx)
    have R2 := Lib.hid (refApply_any s A c l htx)
    have R3 := Lib.hid (fun A' c' => invert_any s A' c' l htx)
    have R4 := Lib.hid (refInvert_any s A c l htx)
    clear hr hs
    generalize apT s l = T at *
    generalize bad s l = n at *
    generalize worse s l = n' at *
    generalize backL s l = m at *
    go_wp2_with (at_builtin; refine wpList_append_eds (by rfl) _ _ (by rfl) _ w2.heap.size (some ⟨w2.heap.size, 0, none⟩) 0 w2.heap.size A c l (by rfl) (by rfl) (empty_own w2 _ (Nat.le_refl _)) (HR2.out.alloc (Nat.le_refl _) _) HNIL.out (by omega) (by simp) ?_; intro A3 c3 w3 hown3 hgrow3)
    have hb3 : Below w2.heap.size w2 w3 := below_append (m := []) ((Below.refl _ w2).alloc (Nat.le_refl _) _) hgrow3 (empty_own w2 _ (Nat.le_refl _)) (Nat.le_refl _) (by simp)
    have hB3 := hB2.trans (hb3.mono hB2.size)
    have HO3 := Lib.hid hown3.eds
    clear hb3 hgrow3 hown3 HR2
    go_wp2_with fail
    refine (R1.out A3 c3 w3 (by omega) HO3.out).mono ?_
    rintro e w4 ⟨rfl, hb4⟩
    have hB4 := hB3.trans (hb4.mono hB3.size)
    have HO4 := Lib.hid (HO3.out.after hb4)
    go_wp2_with fail
    refine (R2.out w4 (by omega) (HR.out.after hB4)).mono ?_
    rintro e w5 ⟨rfl, hb5⟩
    have hB5 := hB4.trans (hb5.mono hB4.size)
    have HO5 := Lib.hid (HO4.out.after hb5)
    go_wp2_with fail
    refine (R3.out A3 c3 w5 (by omega) HO5.out).mono ?_
    rintro e w6 ⟨A6, c6, rfl, he6, hb6⟩
    have hB6 := hB5.trans (hb6.mono hB5.size)
    have HO6 := Lib.hid (HO5.out.after hb6)
    have HA6 := Lib.hid he6
    go_wp2_with fail
    refine (R4.out w6 (by omega) hcap (HR.out.after hB6)).mono ?_
    rintro e w7 ⟨A7, c7, rfl, he7, hb7⟩
    have hB7 := hB6.trans (hb7.mono hB6.size)
    have HO7 := Lib.hid (HO6.out.after hb7)
    have HA7 := Lib.hid (HA6.out.after hb7)
    have HE7 := Lib.hid he7
    clear hb4 hb5 hb6 hb7 he6 he7 HO3 HO4 HO5 HO6 HA6 R1 R2 R3 R4
    have hTT : (T.toList == T.toList) = true := by simp
    have hnn : (n == n) = true := by simp
    have hnn' : (n' == n') = true := by simp
    go_wp2_with fail
    refine (num_any n n1 _).mono ?_
    rintro e w8 ⟨rfl, rfl⟩
    go_wp2_with fail
    refine (num_any n' n2 _).mono ?_
    rintro e w8 ⟨rfl, rfl⟩
    go_wp2_with fail
    refine (edits_same A6 A7 c6 c7 m w7 (by omega) HA7.out HE7.out).mono ?_
    rintro e w8 ⟨rfl, hb8⟩
    have hB8 := hB7.trans (hb8.mono hB7.size)
    have HO8 := Lib.hid (HO7.out.after hb8)
    go_wp2_with fail
    refine (edits_same A3 A c3 c l w8 (by omega) HO8.out (HR.out.after hB8)).mono ?_
    rintro e w9 ⟨rfl, hb9⟩
    go_wp2
    go_ret
    exact ⟨rfl, hB8.trans (hb9.mono hB8.size)⟩

end Go.Proofs.Ytgecifinefpfoaa
