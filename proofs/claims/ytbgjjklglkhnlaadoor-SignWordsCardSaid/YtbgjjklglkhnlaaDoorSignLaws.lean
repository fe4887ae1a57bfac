/- The laws SignBytes and SignWords, walked. -/
import Derived.Test.YtbgjjklglkhnlaaDoorSignNumber
import Derived.BigQuiet
import Derived.Deep.QuietTactic
import Derived.Test.YtbgjjklglkhnlaaDoorTextStore
namespace Go.Proofs.YtbgjjklglkhnlaaDoor
open Go.RowKit SignMath

theorem num007 : numV ⟨#[48, 48, 55]⟩ = .tuple #[.int .i64 0, errn 2] := by
  have : num (bs ⟨#[48, 48, 55]⟩) = none := by decide
  simp only [numV, this]
theorem wd_a1 : (wd (bs ⟨#[95, 97, 49]⟩) && !kw ⟨#[95, 97, 49]⟩) = true := by decide
theorem wd_1a : wd (bs ⟨#[49, 97]⟩) = false := by decide
theorem kw_class : kw ⟨#[99, 108, 97, 115, 115]⟩ = true := by decide

set_option maxHeartbeats 1000000 in
theorem alive_any (w : World) (hL : Laid w) :
    Calls Tryd.prog 6 #[] w fun e w' => e = .returned (.bool true) ∧ Below w.heap.size w w' := by
  go_enter Tryd.func6, Tryd.ntmps6
  go_wp2_with (first
    | (go_at_call 14; refine (number_any _ (by decide) _ hL).mono ?_; rw [num007]; rintro e w1 ⟨rfl, hb1⟩)
    | (go_at_call 16; refine (name_any _ (by decide) _ (hL.below hb1)).mono ?_; rw [if_pos wd_a1]; rintro e w2 ⟨rfl, rfl⟩)
    | (go_at_call 19; refine (word_any _ (by decide) _).mono ?_; rw [wd_1a]; rintro e w3 ⟨rfl, rfl⟩)
    | (go_at_call 21; refine (keyword_any _ (by decide) _ (hL.below hb1)).mono ?_; rw [kw_class]; rintro e w4 ⟨rfl, rfl⟩))
  go_ret
  exact ⟨rfl, hb1⟩

theorem eg_letter : ∀ args w, (callFunc 9 args).run Tryd.prog w = .ok (.enter 9 args) w := by
  intro args w; simp [go_sem]
theorem eg_blank : ∀ args w, (callFunc 12 args).run Tryd.prog w = .ok (.enter 12 args) w := by
  intro args w; simp [go_sem]

set_option maxHeartbeats 4000000 in
theorem signBytes_walk (c : Int) (s : ByteArray) (k0 : Int) (w : World) (hL : Laid w) :
    Calls Tryd.prog 3 #[.int .u8 c, .string s, .int .i64 k0] w fun e w' => e = .returned (.bool true) ∧ Below w.heap.size w w' := by
  by_cases hbig : 1000 < s.size
  · go_enter Tryd.func3, Tryd.ntmps3
    go_wp2_with (go_at_call 6; refine (alive_any _ hL).mono ?_; rintro e w1 ⟨rfl, hb1⟩)
    go_ret
    exact ⟨rfl, hb1⟩
  have HZ := Lib.hid (bs_size s)
  obtain ⟨m, hm⟩ : ∃ m : Nat, m = cl k0 s.size := ⟨_, rfl⟩
  have hmz : m ≤ s.size := by rw [hm]; exact cl_le _ _
  have HM : Hid ((m : Int) = min (max k0 0) s.size) := Lib.hid (by rw [hm]; exact cl_eq _ _)
  have H1 := Lib.hid (run_any _ lt letter_any eg_letter s (by omega) k0)
  have H2 := Lib.hid (run_any _ bk blank_any eg_blank s (by omega) k0)
  rw [← hm] at H1 H2
  clear hm
  have hme : max 0 (min k0 (s.size : Int)) = (m : Int) := by have := HM.out; omega
  go_enter Tryd.func3, Tryd.ntmps3
  go_wp2_with (go_at_call 6; refine (alive_any _ hL).mono ?_; rintro e w1 ⟨rfl, hb1⟩)
  clear hme
  go_loop [8] (fun i => ∃ k : Nat, k ≤ s.size ∧ i = .int .i64 (k : Int) ∧ Hid (rn lt (bs s) k = rn lt (bs s) m)) (fun i => s.size - (intOf i).toNat)
  case atStart => exact ⟨m, hmz, rfl, Lib.hid rfl⟩
  case round =>
    obtain ⟨k1, hkk1, rfl, HR⟩ := hrel
    have hcase : (∃ h : k1 < s.size, lt (s[k1].toNat : Int) = true) ∨ (∃ h : k1 < s.size, lt (s[k1].toNat : Int) = false) ∨ k1 = s.size := by
      by_cases h : k1 < s.size
      · cases hq : lt (s[k1].toNat : Int)
        · exact .inr (.inl ⟨h, hq⟩)
        · exact .inl ⟨h, hq⟩
      · exact .inr (.inr (by omega))
    rcases hcase with ⟨hlt, hq⟩ | hcase
    · have HN := Lib.hid (rn_step lt (bs s) k1 (by rw [HZ.out]; exact hlt) hq)
      have HQ := Lib.hid hq
      clear hq
      go_wp2_with (go_at_call 7; refine (refLetter_any _ _).mono ?_; rw [HQ.out]; rintro e w' ⟨rfl, rfl⟩)
      go_round
      case rel => exact ⟨k1 + 1, by omega, by go_num, Lib.hid (HN.out.symm.trans HR.out)⟩
      case measure => simp [intOf]; omega
    · have HK : Hid (k1 = rn lt (bs s) m) := by
        rcases hcase with ⟨hlt, hq⟩ | he
        · exact Lib.hid ((rn_stop lt (bs s) k1 (by rw [HZ.out]; exact hlt) hq).symm.trans HR.out)
        · exact Lib.hid ((rn_end lt (bs s) k1 (by rw [HZ.out]; omega)).symm.trans HR.out)
      clear HR
      rw [← HK.out] at H1
      clear HK
      rcases hcase with ⟨hlt, hq⟩ | rfl
      all_goals
        first
          | (have HQ := Lib.hid hq
             clear hq
             go_wp2_with (go_at_call 7; refine (refLetter_any _ _).mono ?_; rw [HQ.out]; rintro e w' ⟨rfl, rfl⟩))
          | go_wp2_with fail
        go_loop [9] (fun i => ∃ k : Nat, k ≤ s.size ∧ i = .int .i64 (k : Int) ∧ Hid (rn bk (bs s) k = rn bk (bs s) m)) (fun i => s.size - (intOf i).toNat)
        case atStart => exact ⟨m, hmz, rfl, Lib.hid rfl⟩
        case round =>
          obtain ⟨k2, hkk2, rfl, HR⟩ := hrel
          have hcase : (∃ h : k2 < s.size, bk (s[k2].toNat : Int) = true) ∨ (∃ h : k2 < s.size, bk (s[k2].toNat : Int) = false) ∨ k2 = s.size := by
            by_cases h : k2 < s.size
            · cases hq : bk (s[k2].toNat : Int)
              · exact .inr (.inl ⟨h, hq⟩)
              · exact .inl ⟨h, hq⟩
            · exact .inr (.inr (by omega))
          rcases hcase with ⟨hlt, hq⟩ | hcase
          · have HN := Lib.hid (rn_step bk (bs s) k2 (by rw [HZ.out]; exact hlt) hq)
            have HQ := Lib.hid hq
            clear hq
            go_wp2_with (go_at_call 8; refine (refBlank_any _ _).mono ?_; rw [HQ.out]; rintro e w' ⟨rfl, rfl⟩)
            go_round
            case rel => exact ⟨k2 + 1, by omega, by go_num, Lib.hid (HN.out.symm.trans HR.out)⟩
            case measure => simp [intOf]; omega
          · have HK : Hid (k2 = rn bk (bs s) m) := by
              rcases hcase with ⟨hlt, hq⟩ | he
              · exact Lib.hid ((rn_stop bk (bs s) k2 (by rw [HZ.out]; exact hlt) hq).symm.trans HR.out)
              · exact Lib.hid ((rn_end bk (bs s) k2 (by rw [HZ.out]; omega)).symm.trans HR.out)
            clear HR
            rw [← HK.out] at H2
            clear HK
            rcases hcase with ⟨hlt, hq⟩ | rfl
            all_goals
              first
                | (have HQ := Lib.hid hq
                   clear hq
                   go_wp2_with (go_at_call 8; refine (refBlank_any _ _).mono ?_; rw [HQ.out]; rintro e w' ⟨rfl, rfl⟩))
                | go_wp2_with fail
              go_wp2_with (first
                | (go_at_call 9; refine (letter_any _ _).mono ?_; rintro e w' ⟨rfl, rfl⟩)
                | (go_at_call 7; refine (refLetter_any _ _).mono ?_; rintro e w' ⟨rfl, rfl⟩)
                | (go_at_call 10; refine (figure_any _ _).mono ?_; rintro e w' ⟨rfl, rfl⟩)
                | (go_at_call 11; refine (refFigure_any _ _).mono ?_; rintro e w' ⟨rfl, rfl⟩)
                | (go_at_call 12; refine (blank_any _ _).mono ?_; rintro e w' ⟨rfl, rfl⟩)
                | (go_at_call 8; refine (refBlank_any _ _).mono ?_; rintro e w' ⟨rfl, rfl⟩)
                | (go_at_call 13; (with_reducible refine (H1.out _).mono ?_); rintro e w' ⟨rfl, rfl⟩)
                | (go_at_call 13; (with_reducible refine (H2.out _).mono ?_); rintro e w' ⟨rfl, rfl⟩))
              go_ret
              exact ⟨rfl, hb1⟩

theorem assert_errno (w : World) (v : Value) : (Instr.typeAssert (.iface 34 v) 27 34 true).run Tryd.prog w = .ok (.tuple #[v, .bool true]) w := by kernel_rfl

set_option maxRecDepth 100000 in
set_option maxHeartbeats 400000 in
theorem num_errno (n : Int) (hn : 0 < n) (w : World) :
    Calls Tryd.prog 28 #[errn n] w fun e w' => e = .returned (.int .i64 n) ∧ w = w' := by
  have h1 : (n != 0) = true := by rw [bne_iff_ne]; omega
  have ha := assert_errno
  go_enter Tryd.func28, Tryd.ntmps28
  go_wp2
  go_ret
  exact ⟨rfl, rfl⟩

set_option maxHeartbeats 400000 in
theorem is_errno (n m : Int) (hn : 0 < n) (w : World) :
    Calls Tryd.prog 17 #[errn n, .int .i64 m] w fun e w' => e = .returned (.bool (n == m)) ∧ w = w' := by
  go_enter Tryd.func17, Tryd.ntmps17
  go_wp2_with (go_at_call 28; refine (num_errno n hn _).mono ?_; rintro e w' ⟨rfl, rfl⟩)
  go_ret
  exact ⟨rfl, rfl⟩

set_option maxHeartbeats 4000000 in
theorem signWords_walk (s : ByteArray) (w : World) (hL : Laid w) :
    Calls Tryd.prog 4 #[.string s] w fun e w' => e = .returned (.bool true) ∧ Below w.heap.size w w' := by
  by_cases hbig : 1000 < s.size
  · go_enter Tryd.func4, Tryd.ntmps4
    go_wp2_with (go_at_call 6; refine (alive_any _ hL).mono ?_; rintro e w1 ⟨rfl, hb1⟩)
    go_ret
    exact ⟨rfl, hb1⟩
  have hs : s.size ≤ 2000 := by omega
  have HN1 := Lib.hid (number_any s hs)
  have HN2 := Lib.hid (refNumber_any s hs)
  have HF1 := Lib.hid (name_any s hs)
  have HF2 := Lib.hid (refName_any s hs)
  unfold numV at HN1
  unfold refNumV at HN2
  cases hn : num (bs s)
  all_goals
    rw [hn] at HN1 HN2
    clear hn
    cases hf : (wd (bs s) && !kw s) with
    | false =>
      rw [hf] at HF1 HF2
      simp only [Bool.false_eq_true, if_false] at HF1
      clear hf
      go_enter Tryd.func4, Tryd.ntmps4
      go_wp2_with (first
        | (go_at_call 6; refine (alive_any _ hL).mono ?_; rintro e w1 ⟨rfl, hb1⟩)
        | (go_at_call 14; refine (HN1.out _ (hL.below hb1)).mono ?_; rintro e w2 ⟨rfl, hb2⟩)
        | (go_at_call 15; refine (HN2.out _).mono ?_; rintro e w3 ⟨rfl, rfl⟩)
        | (go_at_call 16; refine (HF1.out _ ((hL.below hb1).below hb2)).mono ?_; rintro e w4 ⟨rfl, rfl⟩)
        | (go_at_call 17; refine (is_errno _ _ (by omega) _).mono ?_; rintro e w5 ⟨rfl, rfl⟩))
      have hb3 : Below w.heap.size w w2.drew := ⟨hb2.os.trans hb1.os, hb2.tape.trans hb1.tape, hb2.output.trans hb1.output, Nat.le_trans hb1.size hb2.size, fun i hi => (hb2.block i (Nat.lt_of_lt_of_le hi hb1.size)).trans (hb1.block i hi)⟩
      refine wp_region_held (S := fun _ => True) (by kernel_rfl) ?_
      show wpAnyH _ _ _ _ _ _ _ _ w2.drew
      refine wpAnyH_take_d (i := 0) (v := .string s) 43 rfl rfl (by kernel_rfl) (by kernel_rfl) (by kernel_rfl) (fun _ _ _ h => h) (Or.inl ⟨by kernel_rfl, fun w' hS' => ?y0⟩) trivial ?_
      case y0 => go_simp
      simp only [Act.put, List.setIfInBounds_toArray, List.set_cons_zero, List.set_cons_succ]
      refine wpAnyH_take_d (i := 2) (v := errn 8) 45 rfl rfl (by kernel_rfl) (by kernel_rfl) (by kernel_rfl) (fun _ _ _ h => h) (Or.inl ⟨by kernel_rfl, fun w' hS' => ?y2⟩) trivial ?_
      case y2 => go_simp
      simp only [Act.put, List.setIfInBounds_toArray, List.set_cons_zero, List.set_cons_succ]
      refine wpAnyH_take_d (i := 3) (v := .bool false) 46 rfl rfl (by kernel_rfl) (by kernel_rfl) (by kernel_rfl) (fun _ _ _ h => h) (Or.inl ⟨by kernel_rfl, fun w' hS' => ?y3⟩) trivial ?_
      case y3 => go_simp
      simp only [Act.put, List.setIfInBounds_toArray, List.set_cons_zero, List.set_cons_succ]
      refine wpAnyH_ready (rs := [1]) (by kernel_rfl) (by simp) ?_
      refine AllReadyH.cons rfl (fun K hK => ?_) AllReadyH.nil
      go_simp
      refine (HF2.out _).mono ?_
      rintro r w6 ⟨rfl, hb6⟩
      refine hK.out _ _ trivial (fun _ => ?_)
      clear hK K
      try simp only [Act.put, List.setIfInBounds_toArray, List.set_cons_zero, List.set_cons_succ]
      refine wpAnyH_take_d (i := 4) (v := .bool false) 47 rfl rfl (by kernel_rfl) (by kernel_rfl) (by kernel_rfl) (fun _ _ _ h => h) (Or.inl ⟨by kernel_rfl, fun w' hS' => ?y4⟩) trivial ?_
      case y4 => go_simp
      simp only [Act.put, List.setIfInBounds_toArray, List.set_cons_zero, List.set_cons_succ]
      refine wpAnyH_take_d (i := 5) (v := .bool false) 48 rfl rfl (by kernel_rfl) (by kernel_rfl) (by kernel_rfl) (fun _ _ _ h => h) (Or.inl ⟨by kernel_rfl, fun w' hS' => ?y5⟩) trivial ?_
      case y5 => go_simp
      simp only [Act.put, List.setIfInBounds_toArray, List.set_cons_zero, List.set_cons_succ]
      refine wpAnyH_take_d (i := 6) (v := errn 8) 49 rfl rfl (by kernel_rfl) (by kernel_rfl) (by kernel_rfl) (fun _ _ _ h => h) (Or.inl ⟨by kernel_rfl, fun w' hS' => ?y6⟩) trivial ?_
      case y6 => go_simp
      simp only [Act.put, List.setIfInBounds_toArray, List.set_cons_zero, List.set_cons_succ]
      refine wpAnyH_take_d (i := 7) (v := .bool true) 50 rfl rfl (by kernel_rfl) (by kernel_rfl) (by kernel_rfl) (fun _ _ _ h => h) (Or.inl ⟨by kernel_rfl, fun w' hS' => ?y7⟩) trivial ?_
      case y7 => go_simp
      simp only [Act.put, List.setIfInBounds_toArray, List.set_cons_zero, List.set_cons_succ]
      refine wpAnyH_take_d (i := 8) (v := .bool true) 51 rfl rfl (by kernel_rfl) (by kernel_rfl) (by kernel_rfl) (fun _ _ _ h => h) (Or.inl ⟨by kernel_rfl, fun w' hS' => ?y8⟩) trivial ?_
      case y8 => go_simp
      simp only [Act.put, List.setIfInBounds_toArray, List.set_cons_zero, List.set_cons_succ]
      refine wpAnyH_take_d (i := 9) (v := errn 8) 52 rfl rfl (by kernel_rfl) (by kernel_rfl) (by kernel_rfl) (fun _ _ _ h => h) (Or.inl ⟨by kernel_rfl, fun w' hS' => ?y9⟩) trivial ?_
      case y9 => go_simp
      simp only [Act.put, List.setIfInBounds_toArray, List.set_cons_zero, List.set_cons_succ]
      refine wpAnyH_ready (rs := [10]) (by kernel_rfl) (by simp) ?_
      refine AllReadyH.cons rfl (fun K hK => ?_) AllReadyH.nil
      go_simp
      refine (is_errno 8 8 (by omega) _).mono ?_
      rintro r w7 ⟨rfl, rfl⟩
      refine hK.out _ _ trivial (fun _ => ?_)
      clear hK K
      try simp only [Act.put, List.setIfInBounds_toArray, List.set_cons_zero, List.set_cons_succ]
      refine wpAnyH_take_d (i := 11) (v := .bool false) 54 rfl rfl (by kernel_rfl) (by kernel_rfl) (by kernel_rfl) (fun _ _ _ h => h) (Or.inl ⟨by kernel_rfl, fun w' hS' => ?y11⟩) trivial ?_
      case y11 => go_simp
      simp only [Act.put, List.setIfInBounds_toArray, List.set_cons_zero, List.set_cons_succ]
      refine wpAnyH_take_d (i := 12) (v := .bool false) 55 rfl rfl (by kernel_rfl) (by kernel_rfl) (by kernel_rfl) (fun _ _ _ h => h) (Or.inl ⟨by kernel_rfl, fun w' hS' => ?y12⟩) trivial ?_
      case y12 => go_simp
      simp only [Act.put, List.setIfInBounds_toArray, List.set_cons_zero, List.set_cons_succ]
      refine wpAnyH_take_d (i := 13) (v := .bool false) 56 rfl rfl (by kernel_rfl) (by kernel_rfl) (by kernel_rfl) (fun _ _ _ h => h) (Or.inl ⟨by kernel_rfl, fun w' hS' => ?y13⟩) trivial ?_
      case y13 => go_simp
      simp only [Act.put, List.setIfInBounds_toArray, List.set_cons_zero, List.set_cons_succ]
      refine wpAnyH_done (by kernel_rfl) ?_ _
      go_wp2_with (first
        | (go_at_call 19; refine (word_any s hs _).mono ?_; rintro e w7 ⟨rfl, rfl⟩)
        | (go_at_call 20; refine (refWord_any s hs _).mono ?_; rintro e w8 ⟨rfl, rfl⟩)
        | (go_at_call 21; refine (keyword_any s hs _ ((hL.below hb3).below hb6)).mono ?_; rintro e w9 ⟨rfl, rfl⟩)
        | (go_at_call 22; refine (refKeyword_any s _).mono ?_; rintro e w10 ⟨rfl, hb10⟩))
      go_ret
      exact ⟨rfl, (hb3.trans (hb6.mono hb3.size)).trans (hb10.mono (hb3.trans (hb6.mono hb3.size)).size)⟩
    | true =>
      rw [hf] at HF1 HF2
      simp only [if_true] at HF1
      clear hf
      go_enter Tryd.func4, Tryd.ntmps4
      go_wp2_with (first
        | (go_at_call 6; refine (alive_any _ hL).mono ?_; rintro e w1 ⟨rfl, hb1⟩)
        | (go_at_call 14; refine (HN1.out _ (hL.below hb1)).mono ?_; rintro e w2 ⟨rfl, hb2⟩)
        | (go_at_call 15; refine (HN2.out _).mono ?_; rintro e w3 ⟨rfl, rfl⟩)
        | (go_at_call 16; refine (HF1.out _ ((hL.below hb1).below hb2)).mono ?_; rintro e w4 ⟨rfl, rfl⟩)
        | (go_at_call 17; refine (is_errno _ _ (by omega) _).mono ?_; rintro e w5 ⟨rfl, rfl⟩))
      have hb3 : Below w.heap.size w w2.drew := ⟨hb2.os.trans hb1.os, hb2.tape.trans hb1.tape, hb2.output.trans hb1.output, Nat.le_trans hb1.size hb2.size, fun i hi => (hb2.block i (Nat.lt_of_lt_of_le hi hb1.size)).trans (hb1.block i hi)⟩
      refine wp_region_held (S := fun _ => True) (by kernel_rfl) ?_
      show wpAnyH _ _ _ _ _ _ _ _ w2.drew
      refine wpAnyH_take_d (i := 0) (v := .string s) 43 rfl rfl (by kernel_rfl) (by kernel_rfl) (by kernel_rfl) (fun _ _ _ h => h) (Or.inl ⟨by kernel_rfl, fun w' hS' => ?y0⟩) trivial ?_
      case y0 => go_simp
      simp only [Act.put, List.setIfInBounds_toArray, List.set_cons_zero, List.set_cons_succ]
      refine wpAnyH_take_d (i := 2) (v := .nilIface) 45 rfl rfl (by kernel_rfl) (by kernel_rfl) (by kernel_rfl) (fun _ _ _ h => h) (Or.inl ⟨by kernel_rfl, fun w' hS' => ?y2⟩) trivial ?_
      case y2 => go_simp
      simp only [Act.put, List.setIfInBounds_toArray, List.set_cons_zero, List.set_cons_succ]
      refine wpAnyH_take_d (i := 3) (v := .bool true) 46 rfl rfl (by kernel_rfl) (by kernel_rfl) (by kernel_rfl) (fun _ _ _ h => h) (Or.inl ⟨by kernel_rfl, fun w' hS' => ?y3⟩) trivial ?_
      case y3 => go_simp
      simp only [Act.put, List.setIfInBounds_toArray, List.set_cons_zero, List.set_cons_succ]
      refine wpAnyH_ready (rs := [1]) (by kernel_rfl) (by simp) ?_
      refine AllReadyH.cons rfl (fun K hK => ?_) AllReadyH.nil
      go_simp
      refine (HF2.out _).mono ?_
      rintro r w6 ⟨rfl, hb6⟩
      refine hK.out _ _ trivial (fun _ => ?_)
      clear hK K
      try simp only [Act.put, List.setIfInBounds_toArray, List.set_cons_zero, List.set_cons_succ]
      refine wpAnyH_take_d (i := 4) (v := .bool false) 47 rfl rfl (by kernel_rfl) (by kernel_rfl) (by kernel_rfl) (fun _ _ _ h => h) (Or.inl ⟨by kernel_rfl, fun w' hS' => ?y4⟩) trivial ?_
      case y4 => go_simp
      simp only [Act.put, List.setIfInBounds_toArray, List.set_cons_zero, List.set_cons_succ]
      refine wpAnyH_take_d (i := 5) (v := .bool false) 48 rfl rfl (by kernel_rfl) (by kernel_rfl) (by kernel_rfl) (fun _ _ _ h => h) (Or.inl ⟨by kernel_rfl, fun w' hS' => ?y5⟩) trivial ?_
      case y5 => go_simp
      simp only [Act.put, List.setIfInBounds_toArray, List.set_cons_zero, List.set_cons_succ]
      refine wpAnyH_take_d (i := 6) (v := .nilIface) 49 rfl rfl (by kernel_rfl) (by kernel_rfl) (by kernel_rfl) (fun _ _ _ h => h) (Or.inl ⟨by kernel_rfl, fun w' hS' => ?y6⟩) trivial ?_
      case y6 => go_simp
      simp only [Act.put, List.setIfInBounds_toArray, List.set_cons_zero, List.set_cons_succ]
      refine wpAnyH_take_d (i := 7) (v := .bool false) 50 rfl rfl (by kernel_rfl) (by kernel_rfl) (by kernel_rfl) (fun _ _ _ h => h) (Or.inl ⟨by kernel_rfl, fun w' hS' => ?y7⟩) trivial ?_
      case y7 => go_simp
      simp only [Act.put, List.setIfInBounds_toArray, List.set_cons_zero, List.set_cons_succ]
      refine wpAnyH_take_d (i := 8) (v := .bool false) 51 rfl rfl (by kernel_rfl) (by kernel_rfl) (by kernel_rfl) (fun _ _ _ h => h) (Or.inl ⟨by kernel_rfl, fun w' hS' => ?y8⟩) trivial ?_
      case y8 => go_simp
      simp only [Act.put, List.setIfInBounds_toArray, List.set_cons_zero, List.set_cons_succ]
      refine wpAnyH_take_d (i := 9) (v := undef) 52 rfl rfl (by kernel_rfl) (by kernel_rfl) (by kernel_rfl) (fun _ _ _ h => h) (Or.inr ⟨by kernel_rfl, rfl⟩) trivial ?_
      simp only [Act.put, List.setIfInBounds_toArray, List.set_cons_zero, List.set_cons_succ]
      refine wpAnyH_take_d (i := 10) (v := undef) 53 rfl rfl (by kernel_rfl) (by kernel_rfl) (by kernel_rfl) (fun _ _ _ h => h) (Or.inr ⟨by kernel_rfl, rfl⟩) trivial ?_
      simp only [Act.put, List.setIfInBounds_toArray, List.set_cons_zero, List.set_cons_succ]
      refine wpAnyH_take_d (i := 11) (v := undef) 54 rfl rfl (by kernel_rfl) (by kernel_rfl) (by kernel_rfl) (fun _ _ _ h => h) (Or.inr ⟨by kernel_rfl, rfl⟩) trivial ?_
      simp only [Act.put, List.setIfInBounds_toArray, List.set_cons_zero, List.set_cons_succ]
      refine wpAnyH_take_d (i := 12) (v := .bool false) 55 rfl rfl (by kernel_rfl) (by kernel_rfl) (by kernel_rfl) (fun _ _ _ h => h) (Or.inl ⟨by kernel_rfl, fun w' hS' => ?y12⟩) trivial ?_
      case y12 => go_simp
      simp only [Act.put, List.setIfInBounds_toArray, List.set_cons_zero, List.set_cons_succ]
      refine wpAnyH_take_d (i := 13) (v := .bool false) 56 rfl rfl (by kernel_rfl) (by kernel_rfl) (by kernel_rfl) (fun _ _ _ h => h) (Or.inl ⟨by kernel_rfl, fun w' hS' => ?y13⟩) trivial ?_
      case y13 => go_simp
      simp only [Act.put, List.setIfInBounds_toArray, List.set_cons_zero, List.set_cons_succ]
      refine wpAnyH_done (by kernel_rfl) ?_ _
      go_wp2_with (first
        | (go_at_call 19; refine (word_any s hs _).mono ?_; rintro e w7 ⟨rfl, rfl⟩)
        | (go_at_call 20; refine (refWord_any s hs _).mono ?_; rintro e w8 ⟨rfl, rfl⟩)
        | (go_at_call 21; refine (keyword_any s hs _ ((hL.below hb3).below hb6)).mono ?_; rintro e w9 ⟨rfl, rfl⟩)
        | (go_at_call 22; refine (refKeyword_any s _).mono ?_; rintro e w10 ⟨rfl, hb10⟩))
      go_ret
      exact ⟨rfl, (hb3.trans (hb6.mono hb3.size)).trans (hb10.mono (hb3.trans (hb6.mono hb3.size)).size)⟩
end Go.Proofs.YtbgjjklglkhnlaaDoor
