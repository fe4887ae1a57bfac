/- The law LexNames: its first tests; which tokens are names. -/
import Derived.Test.YtjmdnjflcifpmaaDoorLexNamed
namespace Go.Proofs.YtjmdnjflcifpmaaDoor
open Go.RowKit Go.Shelf SignMath

attribute [local go_sem] Oper.semAt_some

set_option maxRecDepth 100000 in
set_option maxHeartbeats 1000000 in
theorem refWord_big (s : ByteArray) (hs : s.size ≤ 140737488355328) (w : World) :
    Calls Tryd.prog 28 #[.string s] w fun e w' => e = .returned (.bool (wd (bs s))) ∧ w = w' := by
  have HZ := Lib.hid (bs_size s)
  go_enter Tryd.func28, Tryd.ntmps28
  go_wp2
  go_loop [3] (fun i => ∃ k : Nat, k ≤ s.size ∧ i = .int .i64 (k : Int) ∧ Hid (∀ (j : Nat) (h : j < (bs s).length), j < k → wb (nb (bs s)[j]) j = true)) (fun i => s.size - (intOf i).toNat)
  case atStart => exact ⟨0, by omega, rfl, Lib.hid (fun j _ hj => absurd hj (Nat.not_lt_zero _))⟩
  case round =>
    obtain ⟨k, hk, rfl, HN⟩ := hrel
    by_cases hlt : k < s.size
    · have HW : Hid (wb (nb ((bs s)[k]'(by rw [bs_size]; exact hlt))) k = (lt (s[k].toNat : Int) || (fg (s[k].toNat : Int) && decide (0 < k)))) := Lib.hid rfl
      cases ha : lt (s[k].toNat : Int) with
      | true =>
        rw [ha] at HW
        have HA := Lib.hid ha
        clear ha
        go_wp2_with (go_at_call 46; refine (refLetter_any _ _).mono ?_; rw [HA.out]; rintro e w' ⟨rfl, rfl⟩)
        go_round
        case rel =>
          refine ⟨k + 1, by omega, by go_num, Lib.hid (fun j h hj => ?_)⟩
          by_cases e : j = k
          · subst e; exact HW.out
          · exact HN.out j h (by omega)
        case measure => simp [intOf]; omega
      | false =>
        rw [ha] at HW
        have HA := Lib.hid ha
        clear ha
        cases hf : fg (s[k].toNat : Int) with
        | false =>
          rw [hf] at HW
          have HF := Lib.hid hf
          clear hf
          go_wp2_with (first | (go_at_call 46; refine (refLetter_any _ _).mono ?_; rw [HA.out]; rintro e w' ⟨rfl, rfl⟩) | (go_at_call 47; refine (refFigure_any _ _).mono ?_; rw [HF.out]; rintro e w' ⟨rfl, rfl⟩))
          go_ret
          refine ⟨ret_bool ?_, rfl⟩
          rw [wd_all, eq_comm, Bool.and_eq_false_iff]
          right
          rw [decide_eq_false_iff_not]
          intro h
          have h1 := h k (by rw [HZ.out]; exact hlt)
          rw [HW.out] at h1
          cases h1
        | true =>
          rw [hf] at HW
          have HF := Lib.hid hf
          clear hf
          by_cases hz : 0 < k
          · rw [decide_eq_true hz] at HW
            go_wp2_with (first | (go_at_call 46; refine (refLetter_any _ _).mono ?_; rw [HA.out]; rintro e w' ⟨rfl, rfl⟩) | (go_at_call 47; refine (refFigure_any _ _).mono ?_; rw [HF.out]; rintro e w' ⟨rfl, rfl⟩))
            go_round
            case rel =>
              refine ⟨k + 1, by omega, by go_num, Lib.hid (fun j h hj => ?_)⟩
              by_cases e : j = k
              · subst e; exact HW.out
              · exact HN.out j h (by omega)
            case measure => simp [intOf]; omega
          · rw [decide_eq_false hz] at HW
            obtain rfl : k = 0 := by omega
            go_wp2_with (first | (go_at_call 46; refine (refLetter_any _ _).mono ?_; rw [HA.out]; rintro e w' ⟨rfl, rfl⟩) | (go_at_call 47; refine (refFigure_any _ _).mono ?_; rw [HF.out]; rintro e w' ⟨rfl, rfl⟩))
            go_ret
            refine ⟨ret_bool ?_, rfl⟩
            rw [wd_all, eq_comm, Bool.and_eq_false_iff]
            right
            rw [decide_eq_false_iff_not]
            intro h
            have h1 := h 0 (by rw [HZ.out]; exact hlt)
            rw [HW.out] at h1
            cases h1
    · obtain rfl : k = s.size := by omega
      have HE : Hid (wd (bs s) = decide (0 < s.size ∧ s.size ≤ 64)) := Lib.hid (by
        have e1 : decide (0 < (bs s).length ∧ (bs s).length ≤ 64) = decide (0 < s.size ∧ s.size ≤ 64) := by rw [HZ.out]
        rw [wd_all, e1, decide_eq_true (p := ∀ (i : Nat) (h : i < (bs s).length), wb (nb (bs s)[i]) i = true) (fun i h => HN.out i h (by rw [← HZ.out]; exact h)), Bool.and_true])
      go_wp2
      all_goals
        go_ret
        refine ⟨ret_bool ?_, rfl⟩
        rw [HE.out]
        first | (rw [decide_eq_decide]; omega) | (rw [eq_comm, decide_eq_false_iff_not]; omega)

set_option maxRecDepth 100000 in
set_option maxHeartbeats 1000000 in
theorem refName_big (s : ByteArray) (hs : s.size ≤ 140737488355328) (w : World) :
    Calls Tryd.prog 19 #[.string s] w fun e w' => e = .returned (.bool (wd (bs s) && !kw s)) ∧ Below w.heap.size w w' := by
  cases hq : wd (bs s)
  all_goals
    have HQ := Lib.hid hq
    clear hq
    go_enter Tryd.func19, Tryd.ntmps19
    go_wp2_with (first | (go_at_call 28; refine (refWord_big _ hs _).mono ?_; rw [HQ.out]; rintro e w' ⟨rfl, rfl⟩) | (go_at_call 29; refine (refKeyword_any _ _).mono ?_; rintro e w' ⟨rfl, hb⟩))
    go_ret
    first | exact ⟨rfl, hb⟩ | exact ⟨rfl, Below.refl _ _⟩


theorem str_dec (a b : ByteArray) : (a.toList == b.toList) = decide (a = b) := by
  rw [Bool.eq_iff_iff, decide_eq_true_iff, beq_iff_eq]
  constructor
  · intro h
    refine WideShapes.bytes_inj ?_
    rwa [Lib.toList_data, Lib.toList_data] at h
  · rintro rfl; rfl

abbrev bSys : ByteArray := ⟨#[83, 121, 115, 116, 101, 109]⟩
abbrev bOut : ByteArray := ⟨#[111, 117, 116]⟩
abbrev bPri : ByteArray := ⟨#[112, 114, 105, 110, 116, 108, 110]⟩

set_option maxRecDepth 100000 in
set_option maxHeartbeats 1000000 in
theorem names_long (s n : ByteArray) (st : Int) (hs : 2000 < s.size) (w : World) (hL : LaidX w) :
    Calls Tryd.prog 7 #[.string s, .string n, .int .i64 st] w fun e w' => e = .returned (.bool true) ∧ Below w.heap.size w w' := by
  go_enter Tryd.func7, Tryd.ntmps7
  go_wp2_with (go_at_call 8; refine (alive_any _ hL).mono ?_; rintro e w1 ⟨rfl, hB1⟩)
  go_ret
  exact ⟨rfl, hB1⟩

set_option maxRecDepth 100000 in
set_option maxHeartbeats 1000000 in
theorem names_none (s n : ByteArray) (st : Int) (hs : ¬ 2000 < s.size) (hn : n.size ≤ 140737488355328) (hw : (wd (bs n) && !kw n) = false) (w : World) (hL : LaidX w) :
    Calls Tryd.prog 7 #[.string s, .string n, .int .i64 st] w fun e w' => e = .returned (.bool true) ∧ Below w.heap.size w w' := by
  have HN := Lib.hid (refName_big n hn)
  rw [hw] at HN
  go_enter Tryd.func7, Tryd.ntmps7
  go_wp2_with (first | (go_at_call 8; refine (alive_any _ hL).mono ?_; rintro e w1 ⟨rfl, hB1⟩) | (go_at_call 19; refine (HN.out _).mono ?_; rintro e w2 ⟨rfl, hB2⟩))
  go_ret
  exact ⟨rfl, hB1.trans (hB2.mono hB1.size)⟩

set_option maxRecDepth 100000 in
set_option maxHeartbeats 1000000 in
theorem names_kept (s n : ByteArray) (st : Int) (hs : ¬ 2000 < s.size) (hw : (wd (bs n) && !kw n) = true) (hn : n.size ≤ 64) (he : n = bSys ∨ n = bOut ∨ n = bPri) (w : World) (hL : LaidX w) :
    Calls Tryd.prog 7 #[.string s, .string n, .int .i64 st] w fun e w' => e = .returned (.bool true) ∧ Below w.heap.size w w' := by
  have HN := Lib.hid (refName_big n (by omega))
  have HS := Lib.hid (name_any n (by omega))
  rw [hw] at HN
  simp only [hw, if_true] at HS
  clear hw
  obtain rfl | rfl | rfl := he
  · have d1 : (bSys.toList == bSys.toList) = true := by rw [str_dec]; decide
    go_enter Tryd.func7, Tryd.ntmps7
    go_wp2_with (first | (go_at_call 8; refine (alive_any _ hL).mono ?_; rintro e w1 ⟨rfl, hB1⟩) | (go_at_call 19; refine (HN.out _).mono ?_; rintro e w2 ⟨rfl, hB2⟩) | (go_at_call 20; refine (HS.out _ ((hL.below (hB1.trans (hB2.mono hB1.size))).laid)).mono ?_; rintro e w3 ⟨rfl, rfl⟩))
    go_ret
    exact ⟨rfl, hB1.trans (hB2.mono hB1.size)⟩
  · have d1 : (bOut.toList == bSys.toList) = false := by rw [str_dec]; decide
    have d2 : (bOut.toList == bOut.toList) = true := by rw [str_dec]; decide
    go_enter Tryd.func7, Tryd.ntmps7
    go_wp2_with (first | (go_at_call 8; refine (alive_any _ hL).mono ?_; rintro e w1 ⟨rfl, hB1⟩) | (go_at_call 19; refine (HN.out _).mono ?_; rintro e w2 ⟨rfl, hB2⟩) | (go_at_call 20; refine (HS.out _ ((hL.below (hB1.trans (hB2.mono hB1.size))).laid)).mono ?_; rintro e w3 ⟨rfl, rfl⟩))
    go_ret
    exact ⟨rfl, hB1.trans (hB2.mono hB1.size)⟩
  · have d1 : (bPri.toList == bSys.toList) = false := by rw [str_dec]; decide
    have d2 : (bPri.toList == bOut.toList) = false := by rw [str_dec]; decide
    have d3 : (bPri.toList == bPri.toList) = true := by rw [str_dec]; decide
    go_enter Tryd.func7, Tryd.ntmps7
    go_wp2_with (first | (go_at_call 8; refine (alive_any _ hL).mono ?_; rintro e w1 ⟨rfl, hB1⟩) | (go_at_call 19; refine (HN.out _).mono ?_; rintro e w2 ⟨rfl, hB2⟩) | (go_at_call 20; refine (HS.out _ ((hL.below (hB1.trans (hB2.mono hB1.size))).laid)).mono ?_; rintro e w3 ⟨rfl, rfl⟩))
    go_ret
    exact ⟨rfl, hB1.trans (hB2.mono hB1.size)⟩
/-- the places of names -/
def ixs (L : List Tk) (k : Nat) : List Nat := (List.range k).filter fun i => decide (L[i]?.map (·.k) = some 4)
theorem ixs_next {L : List Tk} {k : Nat} {t : Tk} (h : L[k]? = some t) : ixs L (k + 1) = if t.k = 4 then ixs L k ++ [k] else ixs L k := by
  unfold ixs
  rw [List.range_succ, List.filter_append]
  by_cases h4 : t.k = 4 <;> simp [h, h4]
theorem ixs_len (L : List Tk) (k : Nat) : (ixs L k).length ≤ k := by
  unfold ixs
  have := List.length_filter_le (fun i => decide (L[i]?.map (·.k) = some 4)) (List.range k)
  simpa using this
theorem ixs_mem {L : List Tk} {k i : Nat} (h : i ∈ ixs L k) : ∃ t, L[i]? = some t ∧ t.k = 4 := by
  have := (List.mem_filter.1 h).2
  simp only [decide_eq_true_eq, Option.map_eq_some_iff] at this
  exact this
def ncells (l : List Nat) : List Value := l.map fun i => .int .i64 (i : Nat)
theorem ncells_length (l : List Nat) : (ncells l).length = l.length * 1 := by simp [ncells]
theorem ncells_snoc (l : List Nat) (i : Nat) : ncells (l ++ [i]) = ncells l ++ [.int .i64 (i : Nat)] := by simp [ncells]
theorem info_int : (Tryd.prog.info? 3).map (fun i => (i.zero, i.size, i.bytes)) = some (some (.int .i64 0), 1, 8) := by kernel_rfl
end Go.Proofs.YtjmdnjflcifpmaaDoor
