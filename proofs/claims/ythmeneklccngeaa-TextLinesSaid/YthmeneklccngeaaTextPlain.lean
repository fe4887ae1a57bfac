/- Contracts of the functions that only compute: an error's number, the document's place and line, a search. -/
import Derived.Test.YthmeneklccngeaaRows
import Derived.Test.YthmeneklccngeaaTextMath
import Derived.WalkKit
import Derived.WalkSpells
import Derived.WalkLawsBesides
import Derived.Lib.Hide
namespace Go.Proofs.Ythmeneklccngeaa
open Go.RowKit

theorem ret_t3 {a a' b b' : Int} {v : Value} (h : a = a') (k : b = b') : Ending.returned (.tuple #[.int .i64 a, .int .i64 b, v]) = .returned (.tuple #[.int .i64 a', .int .i64 b', v]) := by rw [h, k]
theorem ret_t2 {a a' : Int} {v : Value} (h : a = a') : Ending.returned (.tuple #[.int .i64 a, v]) = .returned (.tuple #[.int .i64 a', v]) := by rw [h]
theorem ret_bool {a b : Bool} (h : a = b) : Ending.returned (.bool a) = .returned (.bool b) := by rw [h]

set_option maxHeartbeats 400000 in
theorem num_nil (w : World) :
    Calls Try.prog 20 #[.nilIface] w fun e w' => e = .returned (.int .i64 0) ∧ w = w' := by
  go_enter Try.func20, Try.ntmps20
  go_wp2
  go_ret
  exact ⟨rfl, rfl⟩

theorem assert_errno (w : World) (v : Value) : (Instr.typeAssert (.iface 32 v) 26 32 true).run Try.prog w = .ok (.tuple #[v, .bool true]) w := by kernel_rfl

set_option maxRecDepth 100000 in
set_option maxHeartbeats 400000 in
theorem num_errno (n : Int) (hn : 0 < n) (w : World) :
    Calls Try.prog 20 #[.iface 32 (.int .i64 n)] w fun e w' => e = .returned (.int .i64 n) ∧ w = w' := by
  have h1 : (n != 0) = true := by rw [bne_iff_ne]; omega
  have ha := assert_errno
  go_enter Try.func20, Try.ntmps20
  go_wp2
  go_ret
  exact ⟨rfl, rfl⟩

set_option maxHeartbeats 400000 in
theorem is_errno (n m : Int) (hn : 0 < n) (w : World) :
    Calls Try.prog 10 #[.iface 32 (.int .i64 n), .int .i64 m] w fun e w' => e = .returned (.bool (n == m)) ∧ w = w' := by
  go_enter Try.func10, Try.ntmps10
  go_wp2_with (go_at_call 20; refine (num_errno n hn _).mono ?_; rintro e w' ⟨rfl, rfl⟩)
  go_ret
  exact ⟨rfl, rfl⟩

set_option maxHeartbeats 400000 in
theorem is_nil (m : Int) (w : World) :
    Calls Try.prog 10 #[.nilIface, .int .i64 m] w fun e w' => e = .returned (.bool (0 == m)) ∧ w = w' := by
  go_enter Try.func10, Try.ntmps10
  go_wp2_with (go_at_call 20; refine (num_nil _).mono ?_; rintro e w' ⟨rfl, rfl⟩)
  go_ret
  exact ⟨rfl, rfl⟩

set_option maxHeartbeats 400000 in
theorem nan1 (a : Int) (w : World) : Calls Try.prog 35 #[.int .i64 a] w fun e w' => e = .returned (.bool false) ∧ w = w' := by
  have h : (a != a) = false := by simp
  go_enter Try.func35, Try.ntmps35
  go_wp2
  go_ret
  exact ⟨rfl, rfl⟩

set_option maxHeartbeats 400000 in
theorem nan2 (a : Int) (w : World) : Calls Try.prog 29 #[.int .i64 a] w fun e w' => e = .returned (.bool false) ∧ w = w' := by
  have h : (a != a) = false := by simp
  go_enter Try.func29, Try.ntmps29
  go_wp2
  go_ret
  exact ⟨rfl, rfl⟩

set_option maxHeartbeats 400000 in
theorem less_any (a b : Int) (w : World) : Calls Try.prog 28 #[.int .i64 a, .int .i64 b] w fun e w' => e = .returned (.bool (decide (a < b))) ∧ w = w' := by
  go_enter Try.func28, Try.ntmps28
  go_wp2_with (go_at_call 35; refine (nan1 _ _).mono ?_; rintro e w' ⟨rfl, rfl⟩)
  go_ret
  exact ⟨rfl, rfl⟩

theorem take_snoc (s : ByteArray) (k : Nat) (h : k < s.size) : s.data.toList.take (k + 1) = s.data.toList.take k ++ [s[k]] := by
  rw [List.take_succ_eq_append_getElem (by simpa using h)]; rfl

theorem byte_eq_ten {c : UInt8} (h : ((c.toNat : Int) == 10) = true) : c = 10 := by
  have : c.toNat = 10 := by have := eq_of_beq h; omega
  exact UInt8.toNat_inj.1 this
theorem byte_ne_ten {c : UInt8} (h : ((c.toNat : Int) == 10) = false) : c ≠ 10 := by
  intro e; subst e; simp at h

set_option maxHeartbeats 400000 in
theorem refPlace_out (s : ByteArray) (a : Int) (h : a < 0 ∨ (s.size : Int) < a) (w : World) :
    Calls Try.prog 9 #[.string s, .int .i64 a] w fun e w' => e = .returned (.tuple #[.int .i64 0, .int .i64 0, .bool false]) ∧ w = w' := by
  rcases h with h | h
  · go_enter Try.func9, Try.ntmps9
    go_wp2
    go_ret3
    exact ⟨rfl, rfl⟩
  · have h0 : ¬ a < 0 := by omega
    go_enter Try.func9, Try.ntmps9
    go_wp2
    go_ret3
    exact ⟨rfl, rfl⟩

set_option maxHeartbeats 800000 in
theorem refPlace_in (s : ByteArray) (a : Int) (h0 : 0 ≤ a) (h1 : a ≤ (s.size : Int)) (hs : s.size ≤ maxLen) (w : World) :
    Calls Try.prog 9 #[.string s, .int .i64 a] w fun e w' => e = .returned (.tuple #[.int .i64 (TextMath.ln (s.data.toList.take a.toNat)), .int .i64 (TextMath.co 0 (s.data.toList.take a.toNat)), .bool true]) ∧ w = w' := by
  unfold maxLen at hs
  obtain ⟨n, rfl⟩ := Int.eq_ofNat_of_zero_le h0
  rw [Int.toNat_natCast]
  have hn : n ≤ s.size := by omega
  have ha : decide ((n : Int) < 0) = false := by simp
  have hb : decide ((s.size : Int) < (n : Int)) = false := by simp; omega
  go_enter Try.func9, Try.ntmps9
  go_wp2
  go_loop [7, 8, 9] (fun x y i => ∃ k : Nat, k ≤ n ∧ i = .int .i64 k ∧ x = .int .i64 (TextMath.ln (s.data.toList.take k)) ∧ y = .int .i64 (TextMath.co 0 (s.data.toList.take k))) (fun _ _ i => n - (intOf i).toNat)
  case atStart => exact ⟨0, Nat.zero_le _, rfl, rfl, rfl⟩
  case round =>
    obtain ⟨k, hk, rfl, rfl, rfl⟩ := hrel
    have b1 := TextMath.ln_le (s.data.toList.take k)
    have b2 := TextMath.co_le (s.data.toList.take k) 0
    have hl : (s.data.toList.take k).length ≤ k := List.length_take_le _ _
    by_cases hlt : k < n
    · have hks : k < s.size := by omega
      have HS := Lib.hid (TextMath.ln_snoc (s.data.toList.take k) s[k])
      have HC := Lib.hid (TextMath.co_snoc (s.data.toList.take k) s[k] 0)
      have HT := Lib.hid (take_snoc s k hks)
      go_wp2
      · have e := byte_eq_ten (by assumption)
        go_round
        case rel => exact ⟨k + 1, by omega, by go_num, by rw [HT.out, HS.out, e]; go_num, by rw [HT.out, HC.out, e]; rfl⟩
        case measure => simp [intOf]; omega
      · have e := byte_ne_ten (by assumption)
        go_round
        case rel => exact ⟨k + 1, by omega, by go_num, by rw [HT.out, HS.out, if_neg e]; go_num, by rw [HT.out, HC.out, if_neg e]; go_num⟩
        case measure => simp [intOf]; omega
    · obtain rfl : k = n := by omega
      go_wp2
      go_ret3
      exact ⟨rfl, rfl⟩

/-- where the document's At is: the first place of that line and column -/
def AtIs (s : ByteArray) (a b : Int) (k : Nat) : Prop := (TextMath.ln (s.data.toList.take k) : Int) = a ∧ (TextMath.co 0 (s.data.toList.take k) : Int) = b

theorem atIs_next {s : ByteArray} {a b : Int} {k : Nat} (h : ∀ j : Nat, j < k → ¬ AtIs s a b j) (hk : ¬ AtIs s a b k) : ∀ j : Nat, j < k + 1 → ¬ AtIs s a b j := fun j hj => by
  by_cases e : j = k
  · rw [e]; exact hk
  · exact h j (by omega)

def RefAt (s : ByteArray) (a b : Int) (w : World) (e : Ending) (w' : World) : Prop :=
  w = w' ∧ ((∃ k : Nat, k ≤ s.size ∧ AtIs s a b k ∧ e = .returned (.tuple #[.int .i64 k, .bool true])) ∨
    ((∀ k : Nat, k ≤ s.size → ¬ AtIs s a b k) ∧ e = .returned (.tuple #[.int .i64 0, .bool false])))

set_option maxHeartbeats 800000 in
theorem refAt_any (s : ByteArray) (a b : Int) (hs : s.size ≤ 4096) (w : World) :
    Calls Try.prog 12 #[.string s, .int .i64 a, .int .i64 b] w (RefAt s a b w) := by
  have hm : s.size ≤ maxLen := by unfold maxLen; omega
  go_enter Try.func12, Try.ntmps12
  go_wp2
  go_loop [8, 9, 10, 11] (fun i _ _ _ => ∃ k : Nat, k ≤ s.size + 1 ∧ i = .int .i64 k ∧ ∀ j : Nat, j < k → ¬ AtIs s a b j) (fun i _ _ _ => s.size + 1 - (intOf i).toNat)
  case atStart => exact ⟨0, Nat.zero_le _, rfl, by omega⟩
  case round =>
    obtain ⟨k, hk, rfl, hno⟩ := hrel
    have HN := Lib.hid hno
    clear hno
    by_cases hlt : k ≤ s.size
    · have hlt' : (k : Int) ≤ (s.size : Int) := by omega
      go_wp2_with (go_at_call 9; refine (refPlace_in s _ (by omega) (by omega) hm _).mono ?_; rintro e w' ⟨rfl, rfl⟩)
      · have e1 : (TextMath.ln (s.data.toList.take k) : Int) = a := by assumption
        have e2 : ((TextMath.co 0 (s.data.toList.take k) : Int) == b) = true := by assumption
        go_ret2
        exact ⟨rfl, .inl ⟨k, hlt, ⟨e1, eq_of_beq e2⟩, rfl⟩⟩
      · have e2 : ((TextMath.co 0 (s.data.toList.take k) : Int) == b) = false := by assumption
        go_round
        case rel => exact ⟨k + 1, by omega, by go_num, atIs_next HN.out (fun h => (beq_eq_false_iff_ne.1 e2) h.2)⟩
        case measure => simp [intOf]; omega
      · have e1 : ¬ (TextMath.ln (s.data.toList.take k) : Int) = a := by assumption
        go_round
        case rel => exact ⟨k + 1, by omega, by go_num, atIs_next HN.out (fun h => e1 h.1)⟩
        case measure => simp [intOf]; omega
    · go_wp2
      go_ret2
      exact ⟨rfl, .inr ⟨fun j hj => HN.out j (by omega), rfl⟩⟩

/-- what a search for a in rising numbers comes to: how many are below it, and whether it is there -/
def Found (zs : List Int) (a : Int) (w : World) (e : Ending) (w' : World) : Prop :=
  ∃ (k : Nat) (b : Bool), e = .returned (.tuple #[.int .i64 k, .bool b]) ∧ w = w' ∧ k ≤ zs.length ∧ (∀ i, i < k → zs[i]?.getD 0 < a) ∧ (∀ i, k ≤ i → i < zs.length → a ≤ zs[i]?.getD 0) ∧ (b = true ↔ k < zs.length ∧ zs[k]?.getD 0 = a)

set_option maxHeartbeats 1000000 in
theorem search_any (g off cap : Nat) (zs : List Int) (a : Int) (w : World) (hz : zs.length ≤ 100000)
    (hc : ∀ i, i < zs.length → w.cell? ⟨g, off + i, none⟩ = some (.int .i64 (zs[i]?.getD 0)))
    (hmono : ∀ i j, i < j → j < zs.length → zs[i]?.getD 0 < zs[j]?.getD 0) :
    Calls Try.prog 19 #[.slice (some ⟨g, off, none⟩) zs.length cap, .int .i64 a] w (Found zs a w) := by
  have HC := Lib.hid hc
  have HM := Lib.hid hmono
  clear hc hmono
  go_enter Try.func19, Try.ntmps19
  go_wp2
  go_loop [7, 8, 9] (fun i j _ => ∃ p q : Nat, p ≤ q ∧ q ≤ zs.length ∧ i = .int .i64 p ∧ j = .int .i64 q ∧ (∀ x, x < p → zs[x]?.getD 0 < a) ∧ (∀ x, q ≤ x → x < zs.length → a ≤ zs[x]?.getD 0)) (fun i j _ => (intOf j).toNat - (intOf i).toNat)
  case atStart => exact ⟨0, zs.length, Nat.zero_le _, Nat.le_refl _, rfl, rfl, by omega, by omega⟩
  case round =>
    obtain ⟨p, q, hpq, hq, rfl, rfl, hlo, hhi⟩ := hrel
    have HL := Lib.hid hlo
    have HH := Lib.hid hhi
    clear hlo hhi
    by_cases hlt : p < q
    · have hcell := HC.out ((p + q) / 2) (by omega)
      by_cases hless : zs[(p + q) / 2]?.getD 0 < a
      all_goals
        go_wp2_with (go_at_call 28; refine (less_any _ _ _).mono ?_; rintro e w' ⟨rfl, rfl⟩)
      · go_round
        case rel => exact ⟨(p + q) / 2 + 1, q, by omega, hq, by go_num, rfl, fun x hx => by
          by_cases e : x = (p + q) / 2
          · rw [e]; exact hless
          · exact Int.lt_trans (HM.out x ((p + q) / 2) (by omega) (by omega)) hless, HH.out⟩
        case measure => simp [intOf]; omega
      · go_round
        case rel => exact ⟨p, (p + q) / 2, by omega, by omega, rfl, by go_num, HL.out, fun x hx hx2 => by
          by_cases e : x = (p + q) / 2
          · rw [e]; omega
          · have := HM.out ((p + q) / 2) x (by omega) hx2; omega⟩
        case measure => simp [intOf]; omega
    · obtain rfl : q = p := by omega
      by_cases hin : q < zs.length
      · have hcell := HC.out q hin
        generalize hz' : zs[q]?.getD 0 = z at hcell
        have HZ := Lib.hid hz'
        clear hz'
        by_cases heq : z = a
        · subst heq
          go_wp2_with (go_at_call 29; refine (nan2 _ _).mono ?_; rintro e w' ⟨rfl, rfl⟩)
          go_ret2
          exact ⟨q, true, rfl, rfl, hq, HL.out, HH.out, fun _ => ⟨hin, HZ.out⟩, fun _ => rfl⟩
        · have hb : (z == a) = false := by simp [heq]
          have HE := Lib.hid heq
          clear heq
          go_wp2_with (go_at_call 29; refine (nan2 _ _).mono ?_; rintro e w' ⟨rfl, rfl⟩)
          go_ret2
          exact ⟨q, false, rfl, rfl, hq, HL.out, HH.out, (fun h => by cases h), fun h => absurd (HZ.out.symm.trans h.2) HE.out⟩
      · have hin' : decide (q < zs.length) = false := by simpa using hin
        go_wp2_with (go_at_call 29; refine (nan2 _ _).mono ?_; rintro e w' ⟨rfl, rfl⟩)
        go_ret2
        exact ⟨q, false, rfl, rfl, hq, HL.out, HH.out, (fun h => by cases h), fun h => absurd h.1 hin⟩

end Go.Proofs.Ythmeneklccngeaa
