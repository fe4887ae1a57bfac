/- Words, keywords and names: the program's and the document's. -/
import Derived.Test.YthggchkpejhaiaaGreatDoorSignLaid
import Derived.RangeFuncRecord
namespace Go.Proofs.YthggchkpejhaiaaGreatDoor
open Go.RowKit SignMath




























































/-- a text's bytes -/
abbrev bs (s : ByteArray) : List UInt8 := s.data.toList
theorem bs_size (s : ByteArray) : (bs s).length = s.size := by simp [bs]
theorem bs_at (s : ByteArray) (k : Nat) (h : k < s.size) : nb ((bs s)[k]'(by rw [bs_size]; exact h)) = (s[k].toNat : Int) := rfl
theorem bs_none (s : ByteArray) : s.toList.isEmpty = decide (s.size = 0) := by
  rw [ByteArray.toList_eq, Bool.eq_iff_iff, List.isEmpty_iff_length_eq_zero, decide_eq_true_eq]
  exact Iff.rfl
theorem eg_lf : ∀ args w, (callFunc 105 args).run Tryz.prog w = .ok (.enter 105 args) w := by
  intro args w; simp [go_sem]

set_option maxRecDepth 100000 in
set_option maxHeartbeats 1000000 in
theorem word_any (s : ByteArray) (hs : s.size ≤ 10000) (w : World) :
    Calls Tryz.prog 98 #[.string s] w fun e w' => e = .returned (.bool (wd (bs s))) ∧ w = w' := by
  have hn := bs_none s
  by_cases h0 : s.size = 0
  · rw [decide_eq_true h0] at hn
    have H0 : Hid (wd (bs s) = false) := Lib.hid (by rw [List.length_eq_zero_iff.1 ((bs_size s).trans h0)]; exact wd_nil)
    clear h0
    go_enter Tryz.func98, Tryz.ntmps98
    go_wp2
    go_ret
    exact ⟨sret_bool H0.out.symm, rfl⟩
  · rw [decide_eq_false h0] at hn
    have hp : 0 < s.size := by omega
    clear h0
    by_cases h1 : 64 < s.size
    · have H0 : Hid (wd (bs s) = false) := Lib.hid (wd_long (by rw [bs_size]; exact h1))
      go_enter Tryz.func98, Tryz.ntmps98
      go_wp2
      go_ret
      exact ⟨sret_bool H0.out.symm, rfl⟩
    · have hd : ∃ r, bs s = s[0] :: r := by
        cases hb : bs s with
        | nil => have := bs_size s; rw [hb] at this; simp at this; omega
        | cons c r => exact ⟨r, by have : (bs s)[0]? = some c := by rw [hb]; rfl
                                   have h2 : (bs s)[0]? = some s[0] := by rw [List.getElem?_eq_getElem (by rw [bs_size]; exact hp)]; rfl
                                   rw [h2] at this; injection this with this; rw [this]⟩
      obtain ⟨r, hr⟩ := hd
      cases hq : lt (s[0].toNat : Int) with
      | false =>
        have H0 : Hid (wd (bs s) = false) := Lib.hid (by rw [hr]; exact wd_head hq)
        have HQ := Lib.hid hq
        clear hq hr
        go_enter Tryz.func98, Tryz.ntmps98
        go_wp2_with (go_at_call 81; refine (letter_any _ _).mono ?_; rw [HQ.out]; rintro e w' ⟨rfl, rfl⟩)
        go_ret
        exact ⟨sret_bool H0.out.symm, rfl⟩
      | true =>
        have H0 : Hid (wd (bs s) = decide (rn lf (bs s) 0 = s.size)) := Lib.hid (by
          have hl := bs_size s
          have := wd_run (r := r) hq (by rw [← hr, bs_size]; omega)
          rw [← hr, bs_size] at this; exact this)
        have hc0 : cl 0 s.size = 0 := by unfold cl; omega
        have HR := Lib.hid (run_any _ lf lf_any eg_lf s hs 0 w)
        rw [hc0] at HR
        have HQ := Lib.hid hq
        clear hq hr hc0
        generalize rn lf (bs s) 0 = m at H0 HR
        go_enter Tryz.func98, Tryz.ntmps98
        go_wp2_with (first | (go_at_call 81; refine (letter_any _ _).mono ?_; rw [HQ.out]; rintro e w' ⟨rfl, rfl⟩) | (go_at_call 79; refine HR.out.mono ?_; rintro e w' ⟨rfl, rfl⟩))
        go_ret
        exact ⟨sret_bool (by rw [H0.out, beqd, decide_eq_decide]; omega), rfl⟩
































































































abbrev errn (n : Int) : Value := .iface 48 (.int .i64 n)















end Go.Proofs.YthggchkpejhaiaaGreatDoor
