/- Words, keywords and names: the program's and the document's. -/
import Derived.Test.YtfmlcddakfbleaaGreatDoorSignLaid
import Derived.RangeFuncRecord
namespace Go.Proofs.YtfmlcddakfbleaaGreatDoor
open Go.RowKit SignMath

set_option maxRecDepth 100000 in
set_option maxHeartbeats 1000000 in
theorem refWords_any (w : World) :
    Calls Tryz.prog 79 #[] w fun e w' => e = .returned (.slice (some ⟨w.heap.size, 0, none⟩) 18 18) ∧ w' = w.alloc (.cells kwc.toArray 9) := by
  go_enter Tryz.func79, Tryz.ntmps79
  go_wp2
  go_ret
  exact ⟨rfl, rfl⟩

set_option maxRecDepth 100000 in
set_option maxHeartbeats 1000000 in
theorem refKeyword_any (s : ByteArray) (w : World) :
    Calls Tryz.prog 61 #[.string s] w fun e w' => e = .returned (.bool (kw s)) ∧ Below w.heap.size w w' := by
  go_enter Tryz.func61, Tryz.ntmps61
  go_wp2_with (go_at_call 79; refine (refWords_any _).mono ?_; rintro e w' ⟨rfl, rfl⟩)
  have hB : Below w.heap.size w (w.alloc (.cells kwc.toArray 9)) := (Below.refl _ w).alloc (Nat.le_refl _) _
  have hcell : ∀ k x, kws[k]? = some x → (w.alloc (.cells kwc.toArray 9)).cell? ⟨w.heap.size, k, none⟩ = some (.string x) := fun k x h => by
    have hc : kwc[k]? = some (.string x) := by unfold kwc; rw [List.getElem?_map, h]; rfl
    have := World.alloc_heap_new w (.cells kwc.toArray 9)
    unfold World.cell?
    rw [this]
    simpa using hc
  have HC := Lib.hid hcell
  clear hcell
  generalize w.alloc (.cells kwc.toArray 9) = W at HC hB ⊢
  go_loop [4] (fun i => ∃ k : Nat, k ≤ 18 ∧ i = .int .i64 (k : Int) ∧ Hid (∀ (j : Nat) (x : ByteArray), j < k → kws[j]? = some x → x ≠ s)) (fun i => 18 - (intOf i).toNat)
  case atStart => exact ⟨0, by omega, rfl, Lib.hid (fun j x hj _ => absurd hj (Nat.not_lt_zero _))⟩
  case round =>
    obtain ⟨k, hk, rfl, HN⟩ := hrel
    by_cases hlt : k < 18
    · have hx : kws[k]? = some kws[k] := List.getElem?_eq_getElem hlt
      generalize kws[k] = x at hx
      have HX := Lib.hid hx
      have hs := str_beq x s
      have hi := HC.out k x hx
      clear hx
      by_cases hq : x = s
      · rw [decide_eq_true hq] at hs
        have HQ := Lib.hid hq
        clear hq
        go_wp2
        go_ret
        exact ⟨sret_bool (kw_hit HX.out HQ.out).symm, hB⟩
      · rw [decide_eq_false hq] at hs
        have HQ := Lib.hid hq
        clear hq
        go_wp2
        go_round
        case rel =>
          refine ⟨k + 1, by omega, by go_num, Lib.hid (fun j y hj hy => ?_)⟩
          by_cases e : j = k
          · subst e; rw [HX.out] at hy; injection hy with hy; subst hy; exact HQ.out
          · exact HN.out j y (by omega) hy
        case measure => simp [intOf]; omega
    · obtain rfl : k = 18 := by omega
      go_wp2
      go_ret
      exact ⟨sret_bool (kw_miss fun j y hy => HN.out j y (by have := (List.getElem?_eq_some_iff.1 hy).1; rwa [kws_length] at this) hy).symm, hB⟩

/-- a text's bytes -/
abbrev bs (s : ByteArray) : List UInt8 := s.data.toList
theorem bs_size (s : ByteArray) : (bs s).length = s.size := by simp [bs]
theorem bs_at (s : ByteArray) (k : Nat) (h : k < s.size) : nb ((bs s)[k]'(by rw [bs_size]; exact h)) = (s[k].toNat : Int) := rfl
theorem bs_none (s : ByteArray) : s.toList.isEmpty = decide (s.size = 0) := by
  rw [ByteArray.toList_eq, Bool.eq_iff_iff, List.isEmpty_iff_length_eq_zero, decide_eq_true_eq]
  exact Iff.rfl
theorem eg_lf : ∀ args w, (callFunc 82 args).run Tryz.prog w = .ok (.enter 82 args) w := by
  intro args w; simp [go_sem]

set_option maxRecDepth 100000 in
set_option maxHeartbeats 1000000 in
theorem word_big (s : ByteArray) (hs : s.size ≤ 1000000) (w : World) :
    Calls Tryz.prog 62 #[.string s] w fun e w' => e = .returned (.bool (wd (bs s))) ∧ w = w' := by
  have hn := bs_none s
  by_cases h0 : s.size = 0
  · rw [decide_eq_true h0] at hn
    have H0 : Hid (wd (bs s) = false) := Lib.hid (by rw [List.length_eq_zero_iff.1 ((bs_size s).trans h0)]; exact wd_nil)
    clear h0
    go_enter Tryz.func62, Tryz.ntmps62
    go_wp2
    go_ret
    exact ⟨sret_bool H0.out.symm, rfl⟩
  · rw [decide_eq_false h0] at hn
    have hp : 0 < s.size := by omega
    clear h0
    by_cases h1 : 64 < s.size
    · have H0 : Hid (wd (bs s) = false) := Lib.hid (wd_long (by rw [bs_size]; exact h1))
      go_enter Tryz.func62, Tryz.ntmps62
      go_wp2
      go_ret
      exact ⟨sret_bool H0.out.symm, rfl⟩
    · have hd : ∃ r, bs s = s[0] :: r := by
        cases hb : bs s with
        | nil => have := bs_size s; rw [hb] at this; simp at this; omega
        | cons c r => exact ⟨r, by have : (bs s)[0]? = some c := by rw [hb]; rfl
                                   have h2 : (bs s)[0]? = some s[0] := by rw [List.getElem?_eq_getElem (by rw [bs_size]; exact hp)]; rfl
                                   rw [h2] at this; injection this with this; rw [this]⟩
      obtain ⟨r, hr⟩ := hd
      cases hq : lt (s[0].toNat : Int) with
      | false =>
        have H0 : Hid (wd (bs s) = false) := Lib.hid (by rw [hr]; exact wd_head hq)
        have HQ := Lib.hid hq
        clear hq hr
        go_enter Tryz.func62, Tryz.ntmps62
        go_wp2_with (go_at_call 80; refine (letter_any _ _).mono ?_; rw [HQ.out]; rintro e w' ⟨rfl, rfl⟩)
        go_ret
        exact ⟨sret_bool H0.out.symm, rfl⟩
      | true =>
        have H0 : Hid (wd (bs s) = decide (rn lf (bs s) 0 = s.size)) := Lib.hid (by
          have hl := bs_size s
          have := wd_run (r := r) hq (by rw [← hr, bs_size]; omega)
          rw [← hr, bs_size] at this; exact this)
        have hc0 : cl 0 s.size = 0 := by unfold cl; omega
        have HR := Lib.hid (run_any _ lf lf_any eg_lf s (by omega) 0 w)
        rw [hc0] at HR
        have HQ := Lib.hid hq
        clear hq hr hc0
        generalize rn lf (bs s) 0 = m at H0 HR
        go_enter Tryz.func62, Tryz.ntmps62
        go_wp2_with (first | (go_at_call 80; refine (letter_any _ _).mono ?_; rw [HQ.out]; rintro e w' ⟨rfl, rfl⟩) | (go_at_call 81; refine HR.out.mono ?_; rintro e w' ⟨rfl, rfl⟩))
        go_ret
        exact ⟨sret_bool (by rw [H0.out, beqd, decide_eq_decide]; omega), rfl⟩
theorem word_any (s : ByteArray) (hs : s.size ≤ 10000) (w : World) :
    Calls Tryz.prog 62 #[.string s] w fun e w' => e = .returned (.bool (wd (bs s))) ∧ w = w' := word_big s (by omega) w

set_option maxRecDepth 100000 in
set_option maxHeartbeats 1000000 in
theorem rword_big (s : ByteArray) (hs : s.size ≤ 1000000) (w : World) :
    Calls Tryz.prog 60 #[.string s] w fun e w' => e = .returned (.bool (wd (bs s))) ∧ w = w' := by
  have HZ := Lib.hid (bs_size s)
  go_enter Tryz.func60, Tryz.ntmps60
  go_wp2
  go_loop [3] (fun i => ∃ k : Nat, k ≤ s.size ∧ i = .int .i64 (k : Int) ∧ Hid (∀ (j : Nat) (h : j < (bs s).length), j < k → wb (nb (bs s)[j]) j = true)) (fun i => s.size - (intOf i).toNat)
  case atStart => exact ⟨0, by omega, rfl, Lib.hid (fun j _ hj => absurd hj (Nat.not_lt_zero _))⟩
  case round =>
    obtain ⟨k, hk, rfl, HN⟩ := hrel
    by_cases hlt : k < s.size
    · have HW : Hid (wb (nb ((bs s)[k]'(by rw [bs_size]; exact hlt))) k = (lt (s[k].toNat : Int) || (fg (s[k].toNat : Int) && decide (0 < k)))) := Lib.hid rfl
      cases ha : lt (s[k].toNat : Int) with
      | true =>
        rw [ha] at HW
        have HA := Lib.hid ha
        clear ha
        go_wp2_with (go_at_call 77; refine (refLetter_any _ _).mono ?_; rw [HA.out]; rintro e w' ⟨rfl, rfl⟩)
        go_round
        case rel =>
          refine ⟨k + 1, by omega, by go_num, Lib.hid (fun j h hj => ?_)⟩
          by_cases e : j = k
          · subst e; exact HW.out
          · exact HN.out j h (by omega)
        case measure => simp [intOf]; omega
      | false =>
        rw [ha] at HW
        have HA := Lib.hid ha
        clear ha
        cases hf : fg (s[k].toNat : Int) with
        | false =>
          rw [hf] at HW
          have HF := Lib.hid hf
          clear hf
          go_wp2_with (first | (go_at_call 77; refine (refLetter_any _ _).mono ?_; rw [HA.out]; rintro e w' ⟨rfl, rfl⟩) | (go_at_call 78; refine (refFigure_any _ _).mono ?_; rw [HF.out]; rintro e w' ⟨rfl, rfl⟩))
          go_ret
          refine ⟨sret_bool ?_, rfl⟩
          rw [wd_all, eq_comm, Bool.and_eq_false_iff]
          right
          rw [decide_eq_false_iff_not]
          intro h
          have h1 := h k (by rw [HZ.out]; exact hlt)
          rw [HW.out] at h1
          cases h1
        | true =>
          rw [hf] at HW
          have HF := Lib.hid hf
          clear hf
          by_cases hz : 0 < k
          · rw [decide_eq_true hz] at HW
            go_wp2_with (first | (go_at_call 77; refine (refLetter_any _ _).mono ?_; rw [HA.out]; rintro e w' ⟨rfl, rfl⟩) | (go_at_call 78; refine (refFigure_any _ _).mono ?_; rw [HF.out]; rintro e w' ⟨rfl, rfl⟩))
            go_round
            case rel =>
              refine ⟨k + 1, by omega, by go_num, Lib.hid (fun j h hj => ?_)⟩
              by_cases e : j = k
              · subst e; exact HW.out
              · exact HN.out j h (by omega)
            case measure => simp [intOf]; omega
          · rw [decide_eq_false hz] at HW
            obtain rfl : k = 0 := by omega
            go_wp2_with (first | (go_at_call 77; refine (refLetter_any _ _).mono ?_; rw [HA.out]; rintro e w' ⟨rfl, rfl⟩) | (go_at_call 78; refine (refFigure_any _ _).mono ?_; rw [HF.out]; rintro e w' ⟨rfl, rfl⟩))
            go_ret
            refine ⟨sret_bool ?_, rfl⟩
            rw [wd_all, eq_comm, Bool.and_eq_false_iff]
            right
            rw [decide_eq_false_iff_not]
            intro h
            have h1 := h 0 (by rw [HZ.out]; exact hlt)
            rw [HW.out] at h1
            cases h1
    · obtain rfl : k = s.size := by omega
      have HE : Hid (wd (bs s) = decide (0 < s.size ∧ s.size ≤ 64)) := Lib.hid (by
        have e1 : decide (0 < (bs s).length ∧ (bs s).length ≤ 64) = decide (0 < s.size ∧ s.size ≤ 64) := by rw [HZ.out]
        rw [wd_all, e1, decide_eq_true (p := ∀ (i : Nat) (h : i < (bs s).length), wb (nb (bs s)[i]) i = true) (fun i h => HN.out i h (by rw [← HZ.out]; exact h)), Bool.and_true])
      go_wp2
      all_goals
        go_ret
        refine ⟨sret_bool ?_, rfl⟩
        rw [HE.out]
        first | (rw [decide_eq_decide]; omega) | (rw [eq_comm, decide_eq_false_iff_not]; omega)
theorem refWord_any (s : ByteArray) (hs : s.size ≤ 10000) (w : World) :
    Calls Tryz.prog 60 #[.string s] w fun e w' => e = .returned (.bool (wd (bs s))) ∧ w = w' := rword_big s (by omega) w

set_option maxRecDepth 100000 in
set_option maxHeartbeats 1000000 in
theorem rname_big (s : ByteArray) (hs : s.size ≤ 1000000) (w : World) :
    Calls Tryz.prog 36 #[.string s] w fun e w' => e = .returned (.bool (wd (bs s) && !kw s)) ∧ Below w.heap.size w w' := by
  cases hq : wd (bs s)
  all_goals
    have HQ := Lib.hid hq
    clear hq
    go_enter Tryz.func36, Tryz.ntmps36
    go_wp2_with (first | (go_at_call 60; refine (rword_big _ hs _).mono ?_; rw [HQ.out]; rintro e w' ⟨rfl, rfl⟩) | (go_at_call 61; refine (refKeyword_any _ _).mono ?_; rintro e w' ⟨rfl, hb⟩))
    go_ret
    first | exact ⟨rfl, hb⟩ | exact ⟨rfl, Below.refl _ _⟩
theorem refName_any (s : ByteArray) (hs : s.size ≤ 10000) (w : World) :
    Calls Tryz.prog 36 #[.string s] w fun e w' => e = .returned (.bool (wd (bs s) && !kw s)) ∧ Below w.heap.size w w' := rname_big s (by omega) w

abbrev errn (n : Int) : Value := .iface 62 (.int .i64 n)

set_option maxRecDepth 100000 in
set_option maxHeartbeats 1000000 in
theorem name_big (s : ByteArray) (hs : s.size ≤ 1000000) (w : World) (hL : Laid w) :
    Calls Tryz.prog 38 #[.string s] w fun e w' => e = .returned (if (wd (bs s) && !kw s) = true then .nilIface else errn 8) ∧ w = w' := by
  cases hq : wd (bs s) <;> cases hk : kw s
  all_goals
    have HQ := Lib.hid hq
    have HK := Lib.hid hk
    clear hq hk
    simp only [Bool.not_true, Bool.not_false, Bool.and_true, Bool.and_false, if_true, Bool.false_eq_true, if_false]
    go_enter Tryz.func38, Tryz.ntmps38
    go_wp2_with (first | (go_at_call 62; refine (word_big _ hs _).mono ?_; rw [HQ.out]; rintro e w' ⟨rfl, rfl⟩) | (go_at_call 63; refine (keyword_big _ _ hL).mono ?_; rw [HK.out]; rintro e w' ⟨rfl, rfl⟩))
    go_ret
    exact ⟨rfl, rfl⟩
theorem name_any (s : ByteArray) (hs : s.size ≤ 10000) (w : World) (hL : Laid w) :
    Calls Tryz.prog 38 #[.string s] w fun e w' => e = .returned (if (wd (bs s) && !kw s) = true then .nilIface else errn 8) ∧ w = w' := name_big s (by omega) w hL
end Go.Proofs.YtfmlcddakfbleaaGreatDoor
