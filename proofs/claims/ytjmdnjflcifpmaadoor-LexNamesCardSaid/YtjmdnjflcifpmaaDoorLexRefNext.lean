/- The document's next, at letters and figures; next at any place. -/
import Derived.Test.YtjmdnjflcifpmaaDoorLexRef
namespace Go.Proofs.YtjmdnjflcifpmaaDoor
open Go.RowKit Go.Shelf SignMath

/-- what letters and figures are: a keyword, a word, a number, none of them -/
theorem wk_all (s : ByteArray) : (refNumV s = .tuple #[.int .i64 0, .bool false] ∧ wd (bs s) = true ∧ kw s = true ∧ Hid (wk (bs s) = 3)) ∨ (refNumV s = .tuple #[.int .i64 0, .bool false] ∧ wd (bs s) = true ∧ kw s = false ∧ Hid (wk (bs s) = 4)) ∨
    (∃ n : Nat, refNumV s = .tuple #[.int .i64 (n : Nat), .bool true] ∧ wd (bs s) = false ∧ kw s = false ∧ Hid (wk (bs s) = 5)) ∨ (refNumV s = .tuple #[.int .i64 0, .bool false] ∧ wd (bs s) = false ∧ kw s = false ∧ Hid (wk (bs s) = 7)) := by
  unfold refNumV wk
  rw [kwl_bs]
  cases hd : wd (bs s) with
  | true =>
    have hn : num (bs s) = none := by
      cases hb : bs s with
      | nil => rw [hb] at hd; cases hd
      | cons c r =>
        cases hn : num (c :: r) with
        | none => rfl
        | some n =>
          have := num_fst (c := c) (r := r) (by rw [hn]; rfl)
          rw [hb] at hd
          rw [lt_not_fg (wd_fst hd)] at this
          cases this
    rw [hn]
    cases hk : kw s with
    | true => exact .inl ⟨rfl, rfl, rfl, Lib.hid rfl⟩
    | false => exact .inr (.inl ⟨rfl, rfl, rfl, Lib.hid rfl⟩)
  | false =>
    have hk : kw s = false := by
      cases hk : kw s with
      | false => rfl
      | true => rw [← kwl_bs] at hk; rw [kwl_wd hk] at hd; cases hd
    rw [hk]
    cases hn : num (bs s) with
    | none => exact .inr (.inr (.inr ⟨rfl, rfl, rfl, Lib.hid rfl⟩))
    | some n => exact .inr (.inr (.inl ⟨n, rfl, rfl, rfl, Lib.hid rfl⟩))

set_option maxRecDepth 100000 in
set_option maxHeartbeats 8000000 in
theorem next_word (s : ByteArray) (hs : s.size ≤ 10000) (k : Nat) (hk : k < s.size) (hb : bk (nb s[k]) = false) (h0 : [47, 47].isPrefixOf ((bs s).drop k) = false) (h1 : [47, 42].isPrefixOf ((bs s).drop k) = false) (h2 : pr.isPrefixOf ((bs s).drop k) = false) (hl : lf (nb s[k]) = true) (w : World) :
    Calls Tryd.prog 21 #[.string s, .int .i64 (k : Nat)] w fun e w' => e = .returned (tkv ⟨wk (bs (s.extract k (rn lf (bs s) k))), k, rn lf (bs s) k⟩) ∧ Below w.heap.size w w' := by
  have HZ := Lib.hid (bs_size s)
  have HB := Lib.hid hb
  have HA := Lib.hid (fun w => has_at s ⟨#[47, 47]⟩ hs (by decide) k (by omega) false h0 w)
  have HS := Lib.hid (fun w => has_at s ⟨#[47, 42]⟩ hs (by decide) k (by omega) false h1 w)
  have HC : Hid (∀ w, Calls Tryd.prog 34 #[.int .u8 (s[k].toNat : Int)] w fun e w' => e = .returned (.bool true) ∧ w = w') := Lib.hid (fun w => by have := inside_any (s[k].toNat : Int) w; rw [show lf (s[k].toNat : Int) = true from hl] at this; exact this)
  clear hb h0 h1 hl
  have HP := Lib.hid (fun w => has_at s ⟨#[83, 121, 115, 116, 101, 109, 46, 111, 117, 116, 46, 112, 114, 105, 110, 116, 108, 110]⟩ hs (by decide) k (by omega) false h2 w)
  clear h2
  go_enter Tryd.func21, Tryd.ntmps21
  go_wp2_with (first | (go_at_call 32; refine (refBlank_any _ _).mono ?_; rw [show bk (s[k].toNat : Int) = false from HB.out]; rintro e w' ⟨rfl, rfl⟩) | (go_at_call 33; first | (with_reducible refine (HA.out _).mono ?_; rintro e w' ⟨rfl, rfl⟩) | (with_reducible refine (HS.out _).mono ?_; rintro e w' ⟨rfl, rfl⟩) | (with_reducible refine (HP.out _).mono ?_; rintro e w' ⟨rfl, rfl⟩)) | (go_at_call 34; first | (with_reducible refine (HC.out _).mono ?_; rintro e w' ⟨rfl, rfl⟩)))
  go_loop [6] (fun i => ∃ j : Nat, k ≤ j ∧ j ≤ s.size ∧ i = .int .i64 (j : Int) ∧ Hid (rn lf (bs s) j = rn lf (bs s) k)) (fun i => s.size - (intOf i).toNat)
  case atStart => exact ⟨k, by omega, by omega, rfl, Lib.hid rfl⟩
  case round =>
    obtain ⟨j, hkj, hj, rfl, HR⟩ := hrel
    by_cases hlt : j < s.size
    · cases hq : lf (s[j].toNat : Int) with
      | true =>
        have HN := Lib.hid (rn_step lf (bs s) j (by rw [HZ.out]; exact hlt) hq)
        have HI : Hid (∀ w, Calls Tryd.prog 34 #[.int .u8 (s[j].toNat : Int)] w fun e w' => e = .returned (.bool true) ∧ w = w') := Lib.hid (fun w => by have := inside_any (s[j].toNat : Int) w; rw [hq] at this; exact this)
        clear hq
        go_wp2_with (go_at_call 34; first | (with_reducible refine (HI.out _).mono ?_; rintro e w' ⟨rfl, rfl⟩))
        go_round
        case rel => exact ⟨j + 1, by omega, by omega, by go_num, Lib.hid (HN.out.symm.trans HR.out)⟩
        case measure => simp [intOf]; omega
      | false =>
        have HN := Lib.hid (rn_stop lf (bs s) j (by rw [HZ.out]; exact hlt) hq)
        have HI : Hid (∀ w, Calls Tryd.prog 34 #[.int .u8 (s[j].toNat : Int)] w fun e w' => e = .returned (.bool false) ∧ w = w') := Lib.hid (fun w => by have := inside_any (s[j].toNat : Int) w; rw [hq] at this; exact this)
        have HJ : Hid (rn lf (bs s) k = j) := Lib.hid (HR.out.symm.trans HN.out)
        clear hq HN HR
        have hz : (s.extract k j).size ≤ 10000 := by rw [← bs_size, bs_cut, List.length_take, List.length_drop, bs_size]; omega
        rcases wk_all (s.extract k j) with ⟨hn, hm, hw, HW⟩ | ⟨hn, hm, hw, HW⟩ | ⟨n, hn, hm, hw, HW⟩ | ⟨hn, hm, hw, HW⟩
        all_goals
          have HNu := Lib.hid (fun w => refNumber_any (s.extract k j) hz w)
          have HNa := Lib.hid (fun w => refName_any (s.extract k j) hz w)
          have HKe := Lib.hid (fun w => refKeyword_any (s.extract k j) w)
          rw [hn] at HNu
          rw [hm, hw] at HNa
          rw [hw] at HKe
          simp only [Bool.not_true, Bool.not_false, Bool.and_true, Bool.and_false] at HNa
          clear hn hm hw
          go_wp2_with (first | (go_at_call 34; first | (with_reducible refine (HI.out _).mono ?_; rintro e w' ⟨rfl, rfl⟩)) | (go_at_call 35; refine (HNu.out _).mono ?_; rintro e w' ⟨rfl, rfl⟩) | (go_at_call 19; refine (HNa.out _).mono ?_; rintro e w1 ⟨rfl, hb1⟩; have hW1 := (hb1.block _ (by simp)).trans (World.alloc_heap_new w _); have hB1 := (below1 w _).trans (hb1.mono (by simp))) | (go_at_call 29; refine (HKe.out _).mono ?_; rintro e w2 ⟨rfl, hb2⟩; have hW2 := (hb2.block _ (lt_of_heap hW1)).trans hW1; have hB2 := hB1.trans (hb2.mono (by have := lt_of_heap hW1; omega)); have x0 := Lib.cell_of_heap hW2 0; have x1 := Lib.cell_of_heap hW2 1; have x2 := Lib.cell_of_heap hW2 2; simp only [List.getElem?_toArray, List.getElem?_cons_zero, List.getElem?_cons_succ] at x0 x1 x2; have f0 := Lib.frozen_of_heap hW2 0; have f1 := Lib.frozen_of_heap hW2 1; have f2 := Lib.frozen_of_heap hW2 2))
          exact next_out _ (by rw [← HJ.out] at HW; rw [HW.out]; rfl) (by rfl) (by rw [HJ.out]) hW2 hB2 (by rfl)
    · obtain rfl : j = s.size := by omega
      have HN := Lib.hid (rn_end lf (bs s) s.size (by rw [HZ.out]; exact Nat.le_refl _))
      have HJ : Hid (rn lf (bs s) k = s.size) := Lib.hid (HR.out.symm.trans HN.out)
      clear HN HR
      have hz : (s.extract k s.size).size ≤ 10000 := by rw [← bs_size, bs_cut, List.length_take, List.length_drop, bs_size]; omega
      rcases wk_all (s.extract k s.size) with ⟨hn, hm, hw, HW⟩ | ⟨hn, hm, hw, HW⟩ | ⟨n, hn, hm, hw, HW⟩ | ⟨hn, hm, hw, HW⟩
      all_goals
        have HNu := Lib.hid (fun w => refNumber_any (s.extract k s.size) hz w)
        have HNa := Lib.hid (fun w => refName_any (s.extract k s.size) hz w)
        have HKe := Lib.hid (fun w => refKeyword_any (s.extract k s.size) w)
        rw [hn] at HNu
        rw [hm, hw] at HNa
        rw [hw] at HKe
        simp only [Bool.not_true, Bool.not_false, Bool.and_true, Bool.and_false] at HNa
        clear hn hm hw
        go_wp2_with (first | (go_at_call 35; refine (HNu.out _).mono ?_; rintro e w' ⟨rfl, rfl⟩) | (go_at_call 19; refine (HNa.out _).mono ?_; rintro e w1 ⟨rfl, hb1⟩; have hW1 := (hb1.block _ (by simp)).trans (World.alloc_heap_new w _); have hB1 := (below1 w _).trans (hb1.mono (by simp))) | (go_at_call 29; refine (HKe.out _).mono ?_; rintro e w2 ⟨rfl, hb2⟩; have hW2 := (hb2.block _ (lt_of_heap hW1)).trans hW1; have hB2 := hB1.trans (hb2.mono (by have := lt_of_heap hW1; omega)); have x0 := Lib.cell_of_heap hW2 0; have x1 := Lib.cell_of_heap hW2 1; have x2 := Lib.cell_of_heap hW2 2; simp only [List.getElem?_toArray, List.getElem?_cons_zero, List.getElem?_cons_succ] at x0 x1 x2; have f0 := Lib.frozen_of_heap hW2 0; have f1 := Lib.frozen_of_heap hW2 1; have f2 := Lib.frozen_of_heap hW2 2))
        exact next_out _ (by rw [← HJ.out] at HW; rw [HW.out]; rfl) (by rfl) (by rw [HJ.out]) hW2 hB2 (by rfl)

set_option maxRecDepth 100000 in
set_option maxHeartbeats 8000000 in
theorem next_word2 (s : ByteArray) (hs : s.size ≤ 10000) (k : Nat) (hk : k < s.size) (hb : bk (nb s[k]) = false) (h0 : [47, 47].isPrefixOf ((bs s).drop k) = false) (h1 : [47, 42].isPrefixOf ((bs s).drop k) = false) (h2 : pr.isPrefixOf ((bs s).drop k) = true) (h3 : lfAt (bs s) (k + 18) = true) (hl : lf (nb s[k]) = true) (w : World) :
    Calls Tryd.prog 21 #[.string s, .int .i64 (k : Nat)] w fun e w' => e = .returned (tkv ⟨wk (bs (s.extract k (rn lf (bs s) k))), k, rn lf (bs s) k⟩) ∧ Below w.heap.size w w' := by
  have HZ := Lib.hid (bs_size s)
  have HB := Lib.hid hb
  have HA := Lib.hid (fun w => has_at s ⟨#[47, 47]⟩ hs (by decide) k (by omega) false h0 w)
  have HS := Lib.hid (fun w => has_at s ⟨#[47, 42]⟩ hs (by decide) k (by omega) false h1 w)
  have HC : Hid (∀ w, Calls Tryd.prog 34 #[.int .u8 (s[k].toNat : Int)] w fun e w' => e = .returned (.bool true) ∧ w = w') := Lib.hid (fun w => by have := inside_any (s[k].toNat : Int) w; rw [show lf (s[k].toNat : Int) = true from hl] at this; exact this)
  clear hb h0 h1 hl
  have HP := Lib.hid (fun w => has_at s ⟨#[83, 121, 115, 116, 101, 109, 46, 111, 117, 116, 46, 112, 114, 105, 110, 116, 108, 110]⟩ hs (by decide) k (by omega) true h2 w)
  clear h2
  have h19 : k + 18 < s.size := by
    unfold lfAt at h3
    by_cases h : k + 18 < s.size
    · exact h
    · rw [List.getElem?_eq_none (by rw [bs_size]; omega)] at h3; cases h3
  have h3' : lf (s[k + 18].toNat : Int) = true := by
    unfold lfAt at h3
    rw [List.getElem?_eq_getElem (by rw [bs_size]; exact h19)] at h3
    exact h3
  have HC' : Hid (∀ w, Calls Tryd.prog 34 #[.int .u8 (s[k + 18].toNat : Int)] w fun e w' => e = .returned (.bool true) ∧ w = w') := Lib.hid (fun w => by have := inside_any (s[k + 18].toNat : Int) w; rw [h3'] at this; exact this)
  have hbe : ((k : Int) + 18 == (s.size : Int)) = false := by rw [beqd, decide_eq_false_iff_not]; omega
  clear h3 h3'
  go_enter Tryd.func21, Tryd.ntmps21
  go_wp2_with (first | (go_at_call 32; refine (refBlank_any _ _).mono ?_; rw [show bk (s[k].toNat : Int) = false from HB.out]; rintro e w' ⟨rfl, rfl⟩) | (go_at_call 33; first | (with_reducible refine (HA.out _).mono ?_; rintro e w' ⟨rfl, rfl⟩) | (with_reducible refine (HS.out _).mono ?_; rintro e w' ⟨rfl, rfl⟩) | (with_reducible refine (HP.out _).mono ?_; rintro e w' ⟨rfl, rfl⟩)) | (go_at_call 34; first | (with_reducible refine (HC.out _).mono ?_; rintro e w' ⟨rfl, rfl⟩) | (with_reducible refine (HC'.out _).mono ?_; rintro e w' ⟨rfl, rfl⟩)))
  go_loop [6] (fun i => ∃ j : Nat, k ≤ j ∧ j ≤ s.size ∧ i = .int .i64 (j : Int) ∧ Hid (rn lf (bs s) j = rn lf (bs s) k)) (fun i => s.size - (intOf i).toNat)
  case atStart => exact ⟨k, by omega, by omega, rfl, Lib.hid rfl⟩
  case round =>
    obtain ⟨j, hkj, hj, rfl, HR⟩ := hrel
    by_cases hlt : j < s.size
    · cases hq : lf (s[j].toNat : Int) with
      | true =>
        have HN := Lib.hid (rn_step lf (bs s) j (by rw [HZ.out]; exact hlt) hq)
        have HI : Hid (∀ w, Calls Tryd.prog 34 #[.int .u8 (s[j].toNat : Int)] w fun e w' => e = .returned (.bool true) ∧ w = w') := Lib.hid (fun w => by have := inside_any (s[j].toNat : Int) w; rw [hq] at this; exact this)
        clear hq
        go_wp2_with (go_at_call 34; first | (with_reducible refine (HI.out _).mono ?_; rintro e w' ⟨rfl, rfl⟩))
        go_round
        case rel => exact ⟨j + 1, by omega, by omega, by go_num, Lib.hid (HN.out.symm.trans HR.out)⟩
        case measure => simp [intOf]; omega
      | false =>
        have HN := Lib.hid (rn_stop lf (bs s) j (by rw [HZ.out]; exact hlt) hq)
        have HI : Hid (∀ w, Calls Tryd.prog 34 #[.int .u8 (s[j].toNat : Int)] w fun e w' => e = .returned (.bool false) ∧ w = w') := Lib.hid (fun w => by have := inside_any (s[j].toNat : Int) w; rw [hq] at this; exact this)
        have HJ : Hid (rn lf (bs s) k = j) := Lib.hid (HR.out.symm.trans HN.out)
        clear hq HN HR
        have hz : (s.extract k j).size ≤ 10000 := by rw [← bs_size, bs_cut, List.length_take, List.length_drop, bs_size]; omega
        rcases wk_all (s.extract k j) with ⟨hn, hm, hw, HW⟩ | ⟨hn, hm, hw, HW⟩ | ⟨n, hn, hm, hw, HW⟩ | ⟨hn, hm, hw, HW⟩
        all_goals
          have HNu := Lib.hid (fun w => refNumber_any (s.extract k j) hz w)
          have HNa := Lib.hid (fun w => refName_any (s.extract k j) hz w)
          have HKe := Lib.hid (fun w => refKeyword_any (s.extract k j) w)
          rw [hn] at HNu
          rw [hm, hw] at HNa
          rw [hw] at HKe
          simp only [Bool.not_true, Bool.not_false, Bool.and_true, Bool.and_false] at HNa
          clear hn hm hw
          go_wp2_with (first | (go_at_call 34; first | (with_reducible refine (HI.out _).mono ?_; rintro e w' ⟨rfl, rfl⟩)) | (go_at_call 35; refine (HNu.out _).mono ?_; rintro e w' ⟨rfl, rfl⟩) | (go_at_call 19; refine (HNa.out _).mono ?_; rintro e w1 ⟨rfl, hb1⟩; have hW1 := (hb1.block _ (by simp)).trans (World.alloc_heap_new w _); have hB1 := (below1 w _).trans (hb1.mono (by simp))) | (go_at_call 29; refine (HKe.out _).mono ?_; rintro e w2 ⟨rfl, hb2⟩; have hW2 := (hb2.block _ (lt_of_heap hW1)).trans hW1; have hB2 := hB1.trans (hb2.mono (by have := lt_of_heap hW1; omega)); have x0 := Lib.cell_of_heap hW2 0; have x1 := Lib.cell_of_heap hW2 1; have x2 := Lib.cell_of_heap hW2 2; simp only [List.getElem?_toArray, List.getElem?_cons_zero, List.getElem?_cons_succ] at x0 x1 x2; have f0 := Lib.frozen_of_heap hW2 0; have f1 := Lib.frozen_of_heap hW2 1; have f2 := Lib.frozen_of_heap hW2 2))
          exact next_out _ (by rw [← HJ.out] at HW; rw [HW.out]; rfl) (by rfl) (by rw [HJ.out]) hW2 hB2 (by rfl)
    · obtain rfl : j = s.size := by omega
      have HN := Lib.hid (rn_end lf (bs s) s.size (by rw [HZ.out]; exact Nat.le_refl _))
      have HJ : Hid (rn lf (bs s) k = s.size) := Lib.hid (HR.out.symm.trans HN.out)
      clear HN HR
      have hz : (s.extract k s.size).size ≤ 10000 := by rw [← bs_size, bs_cut, List.length_take, List.length_drop, bs_size]; omega
      rcases wk_all (s.extract k s.size) with ⟨hn, hm, hw, HW⟩ | ⟨hn, hm, hw, HW⟩ | ⟨n, hn, hm, hw, HW⟩ | ⟨hn, hm, hw, HW⟩
      all_goals
        have HNu := Lib.hid (fun w => refNumber_any (s.extract k s.size) hz w)
        have HNa := Lib.hid (fun w => refName_any (s.extract k s.size) hz w)
        have HKe := Lib.hid (fun w => refKeyword_any (s.extract k s.size) w)
        rw [hn] at HNu
        rw [hm, hw] at HNa
        rw [hw] at HKe
        simp only [Bool.not_true, Bool.not_false, Bool.and_true, Bool.and_false] at HNa
        clear hn hm hw
        go_wp2_with (first | (go_at_call 35; refine (HNu.out _).mono ?_; rintro e w' ⟨rfl, rfl⟩) | (go_at_call 19; refine (HNa.out _).mono ?_; rintro e w1 ⟨rfl, hb1⟩; have hW1 := (hb1.block _ (by simp)).trans (World.alloc_heap_new w _); have hB1 := (below1 w _).trans (hb1.mono (by simp))) | (go_at_call 29; refine (HKe.out _).mono ?_; rintro e w2 ⟨rfl, hb2⟩; have hW2 := (hb2.block _ (lt_of_heap hW1)).trans hW1; have hB2 := hB1.trans (hb2.mono (by have := lt_of_heap hW1; omega)); have x0 := Lib.cell_of_heap hW2 0; have x1 := Lib.cell_of_heap hW2 1; have x2 := Lib.cell_of_heap hW2 2; simp only [List.getElem?_toArray, List.getElem?_cons_zero, List.getElem?_cons_succ] at x0 x1 x2; have f0 := Lib.frozen_of_heap hW2 0; have f1 := Lib.frozen_of_heap hW2 1; have f2 := Lib.frozen_of_heap hW2 2))
        exact next_out _ (by rw [← HJ.out] at HW; rw [HW.out]; rfl) (by rfl) (by rw [HJ.out]) hW2 hB2 (by rfl)

theorem rn_drop (p : Int → Bool) (l : List UInt8) (k : Nat) : rn p l k = k + rn p (l.drop k) 0 := by
  unfold rn; simp

theorem drop_cons (s : ByteArray) (k : Nat) (hk : k < s.size) : ∃ r, (bs s).drop k = s[k] :: r :=
  ⟨_, List.drop_eq_getElem_cons (by rw [bs_size]; exact hk)⟩

theorem pre47 {c : UInt8} {d : UInt8} {r : List UInt8} (h : [47, d].isPrefixOf (c :: r) = true) : c = 47 := by
  simp [List.isPrefixOf] at h; exact h.1.symm
theorem pre38 {c : UInt8} {r : List UInt8} (h : [38, 38].isPrefixOf (c :: r) = true) : c = 38 := by
  simp [List.isPrefixOf] at h; exact h.1.symm

theorem next_any (s : ByteArray) (hs : s.size ≤ 10000) (k : Nat) (hk : k < s.size) (w : World) :
    Calls Tryd.prog 21 #[.string s, .int .i64 (k : Nat)] w fun e w' => e = .returned (tkv ⟨(ft ((bs s).drop k)).1, k, k + (ft ((bs s).drop k)).2⟩) ∧ Below w.heap.size w w' := by
  obtain ⟨r, hr⟩ := drop_cons s k hk
  have hh : ((bs s).drop k).headD 0 = s[k] := by rw [hr]; rfl
  have hlz : lfAt (bs s) (k + 18) = lfAt ((bs s).drop k) 18 := by unfold lfAt; rw [List.getElem?_drop]
  cases hb : bk (nb s[k]) with
  | true =>
    have e : ft ((bs s).drop k) = (1, rn bk ((bs s).drop k) 0) := by unfold ft; rw [hh, if_pos hb]
    rw [e]
    dsimp only
    rw [← rn_drop]
    exact next_blank s hs k hk hb w
  | false =>
    have e0 : ft ((bs s).drop k) = if s[k] = 47 then sl ((bs s).drop k) else if lf (nb s[k]) = true then wo ((bs s).drop k) else mk ((bs s).drop k) := by
      unfold ft; rw [hh, hb]; rfl
    cases ha : [47, 47].isPrefixOf ((bs s).drop k) with
    | true =>
      have h47 : s[k] = 47 := pre47 (r := r) (by rw [← hr]; exact ha)
      rw [e0, if_pos h47, sl_line ha]
      dsimp only
      rw [← rn_drop]
      exact next_line s hs k hk hb ha w
    | false =>
      cases hst : [47, 42].isPrefixOf ((bs s).drop k) with
      | true =>
        have h47 : s[k] = 47 := pre47 (r := r) (by rw [← hr]; exact hst)
        rw [e0, if_pos h47]
        exact next_star s hs k hk hb hst w
      | false =>
        cases hl : lf (nb s[k]) with
        | true =>
          have h47 : s[k] ≠ 47 := fun h => by rw [h] at hl; revert hl; decide
          rw [e0, if_neg h47, if_pos hl]
          have e1 : ((bs s).drop k).take (rn lf ((bs s).drop k) 0) = bs (s.extract k (rn lf (bs s) k)) := by
            rw [bs_cut, rn_drop lf (bs s) k, Nat.add_sub_cancel_left]
          cases hp : pr.isPrefixOf ((bs s).drop k) with
          | false =>
            have e2 : wo ((bs s).drop k) = (wk (((bs s).drop k).take (rn lf ((bs s).drop k) 0)), rn lf ((bs s).drop k) 0) := by
              unfold wo; rw [if_neg (fun h => by rw [hp] at h; cases h.1)]
            rw [e2, e1]
            dsimp only
            rw [← rn_drop]
            exact next_word s hs k hk hb ha hst hp hl w
          | true =>
            cases h18 : lfAt (bs s) (k + 18) with
            | true =>
              have e2 : wo ((bs s).drop k) = (wk (((bs s).drop k).take (rn lf ((bs s).drop k) 0)), rn lf ((bs s).drop k) 0) := by
                unfold wo; rw [if_neg (fun h => by rw [← hlz, h18] at h; cases h.2)]
              rw [e2, e1]
              dsimp only
              rw [← rn_drop]
              exact next_word2 s hs k hk hb ha hst hp h18 hl w
            | false =>
              have e2 : wo ((bs s).drop k) = (3, 18) := by unfold wo; rw [if_pos ⟨hp, by rw [← hlz]; exact h18⟩]
              rw [e2]
              exact next_print s hs k hk hb ha hst hp h18 w
        | false =>
          have hp : pr.isPrefixOf ((bs s).drop k) = false := by
            cases hp : pr.isPrefixOf ((bs s).drop k) with
            | false => rfl
            | true => rw [hr] at hp; have := pr_head hp; rw [this] at hl; revert hl; decide
          cases hm : [38, 38].isPrefixOf ((bs s).drop k) with
          | true =>
            have h38 : s[k] = 38 := pre38 (r := r) (by rw [← hr]; exact hm)
            rw [e0, if_neg (by rw [h38]; decide), hl, if_neg (by decide)]
            have e2 : mk ((bs s).drop k) = (6, 2) := by unfold mk; rw [if_pos hm]
            rw [e2]
            exact next_and s hs k hk hb ha hst hp hl hm w
          | false =>
            have e2 : ft ((bs s).drop k) = (if sg.contains s[k] = true then 6 else 7, 1) := by
              rw [e0, hl, if_neg (by decide : ¬ (false = true))]
              by_cases h47 : s[k] = 47
              · rw [if_pos h47, sl_bad ha hst, h47]; rfl
              · rw [if_neg h47]
                unfold mk
                rw [hm, hh, if_neg (by decide)]
                split <;> rfl
            rw [e2]
            exact next_sign s hs k hk hb ha hst hp hl hm _ rfl w
end Go.Proofs.YtjmdnjflcifpmaaDoor
