/- The law TextPlaces, walked: the table's Place and At answer as the document's. -/
import Derived.Test.YthmeneklccngeaaTextAt
namespace Go.Proofs.Ythmeneklccngeaa
open Go.RowKit Go.Shelf

/-- the two answers of Place: the table's, and the document's -/
theorem place_pair (s : ByteArray) (hs : s.size ≤ 70000) (a : Int) : ∃ (l c : Int) (ok : Bool),
    (∀ (b base : Nat) (w : World), base ≤ w.heap.size → Tab w base b s → Calls Try.prog 8 #[.pointer (some ⟨b, 0, none⟩), .int .i64 a] w (Asked b base s w (.tuple #[.int .i64 l, .int .i64 c, if ok then .nilIface else errR]))) ∧
    (∀ w : World, Calls Try.prog 9 #[.string s, .int .i64 a] w fun e w' => e = .returned (.tuple #[.int .i64 l, .int .i64 c, .bool ok]) ∧ w = w') := by
  by_cases h : 0 ≤ a ∧ a ≤ (s.size : Int)
  · exact ⟨_, _, true, fun b base w h1 h2 => place_in b base s hs a h.1 h.2 w h1 h2, fun w => refPlace_in s a h.1 h.2 (by unfold maxLen; omega) w⟩
  · have h' : a < 0 ∨ (s.size : Int) < a := by omega
    exact ⟨0, 0, false, fun b base w h1 h2 => place_out b base s hs a h' w h1 h2, fun w => refPlace_out s a h' w⟩

theorem atIs_at {s : ByteArray} {i : Nat} {p : Nat × List UInt8} (hp : (lnsOf s)[i]? = some p) {j : Nat} (hj : j ≤ p.2.length) : AtIs s i j (p.1 + j) ∧ p.1 + j ≤ s.size := by
  obtain ⟨_, h2, h3, h4⟩ := TextMath.back s.data.toList 0 0 i p j hp hj
  simp at h2 h3 h4
  exact ⟨⟨by rw [h3], by rw [h4]⟩, h2⟩

theorem atIs_one {s : ByteArray} {a c : Int} {k : Nat} (hk : k ≤ s.size) (h : AtIs s a c k) : 0 ≤ a ∧ 0 ≤ c ∧ ∃ p, (lnsOf s)[a.toNat]? = some p ∧ c ≤ p.2.length ∧ (p.1 : Int) + c = k := by
  obtain ⟨p, h1, h2, h3⟩ := TextMath.place s.data.toList 0 0 k (by simpa using hk)
  obtain ⟨e1, e2⟩ := h
  simp at h2 h3
  refine ⟨by omega, by omega, p, ?_, by omega, by omega⟩
  rw [← e1, Int.toNat_natCast]
  exact h1

/-- the two answers of At: the table's, and the document's -/
theorem at_pair (s : ByteArray) (hs : s.size ≤ 4096) (a c : Int) : ∃ (r : Int) (ok : Bool),
    (∀ (b base : Nat) (w : World), base ≤ w.heap.size → Tab w base b s → Calls Try.prog 11 #[.pointer (some ⟨b, 0, none⟩), .int .i64 a, .int .i64 c] w (Asked b base s w (.tuple #[.int .i64 r, if ok then .nilIface else errR]))) ∧
    (∀ w : World, Calls Try.prog 12 #[.string s, .int .i64 a, .int .i64 c] w fun e w' => e = .returned (.tuple #[.int .i64 r, .bool ok]) ∧ w = w') := by
  have none : (∀ k : Nat, k ≤ s.size → ¬ AtIs s a c k) → ∀ w : World, Calls Try.prog 12 #[.string s, .int .i64 a, .int .i64 c] w fun e w' => e = .returned (.tuple #[.int .i64 0, .bool false]) ∧ w = w' := fun hno w =>
    (refAt_any s a c hs w).mono fun e w' ⟨hw, h⟩ => by
      rcases h with ⟨k, hk, h1, _⟩ | ⟨_, h2⟩
      · exact absurd h1 (hno k hk)
      · exact ⟨h2, hw⟩
  by_cases ha : a < 0 ∨ ((beg s).length : Int) ≤ a
  · refine ⟨0, false, fun b base w h1 h2 => at_line b base s (by omega) a c ha w h1 h2, none fun k hk h => ?_⟩
    obtain ⟨h0, _, p, hp, _⟩ := atIs_one hk h
    have : a.toNat < (beg s).length := by
      rw [beg_len, bl_eq, List.length_map]
      rcases Nat.lt_or_ge a.toNat (lnsOf s).length with h' | h'
      · exact h'
      · rw [List.getElem?_eq_none h'] at hp; cases hp
    omega
  · obtain ⟨i, rfl⟩ := Int.eq_ofNat_of_zero_le (show 0 ≤ a by omega)
    obtain ⟨p, hp⟩ := lns_some (s := s) (i := i) (by rw [← beg_len]; omega)
    by_cases hc : c < 0 ∨ (p.2.length : Int) < c
    · refine ⟨0, false, fun b base w h1 h2 => at_col b base s (by omega) i p hp c hc w h1 h2, none fun k hk h => ?_⟩
      obtain ⟨_, h0, q, hq, h1, _⟩ := atIs_one hk h
      rw [Int.toNat_natCast, hp] at hq
      injection hq with hq
      subst hq
      omega
    · refine ⟨p.1 + c, true, fun b base w h1 h2 => at_in b base s (by omega) i p hp c (by omega) (by omega) w h1 h2, fun w => (refAt_any s i c hs w).mono fun e w' ⟨hw, h⟩ => ?_⟩
      rcases h with ⟨k, hk, h1, h2⟩ | ⟨h1, _⟩
      · obtain ⟨_, _, q, hq, _, h3⟩ := atIs_one hk h1
        rw [Int.toNat_natCast, hp] at hq
        injection hq with hq
        subst hq
        rw [h3]
        exact ⟨h2, hw⟩
      · obtain ⟨j, rfl⟩ := Int.eq_ofNat_of_zero_le (show 0 ≤ c by omega)
        obtain ⟨h3, h4⟩ := atIs_at hp (j := j) (by omega)
        exact absurd h3 (h1 _ h4)

set_option maxRecDepth 100000 in
set_option maxHeartbeats 2000000 in
theorem places_walk (s : ByteArray) (a c : Int) (w : World) :
    Calls Try.prog 3 #[.string s, .int .i64 a, .int .i64 c] w fun e w' => e = .returned (.bool true) ∧ Below w.heap.size w w' := by
  by_cases hs : s.size ≤ 200
  · obtain ⟨l1, c1, ok1, P1, P2⟩ := place_pair s (by omega) a
    obtain ⟨r1, ok2, A1, A2⟩ := at_pair s (by omega) a c
    have P1' := Lib.hid P1
    have P2' := Lib.hid P2
    have A1' := Lib.hid A1
    have A2' := Lib.hid A2
    clear P1 P2 A1 A2
    have hs' : ¬ (200 : Int) < (s.size : Int) := by omega
    go_enter Try.func3, Try.ntmps3
    go_wp2_with fail
    refine (alive_any _).mono ?_
    rintro e w1 ⟨rfl, hB1⟩
    go_wp2_with fail
    refine (new_any _ _).mono ?_
    rintro e w2 ⟨rfl, rfl⟩
    go_wp2_with fail
    refine (P1'.out w1.heap.size w1.heap.size _ (by simp) (.inl (fresh_new s w1))).mono ?_
    rintro e w2 ⟨rfl, hm2, hg2⟩
    cases ok1
    · go_wp2_with fail
      refine (P2'.out _).mono ?_
      rintro e w3 ⟨rfl, rfl⟩
      go_wp2_with fail
      refine (is_errno _ _ (by omega) _).mono ?_
      rintro e w3 ⟨rfl, rfl⟩
      go_wp2_with fail
      refine (A1'.out w1.heap.size w1.heap.size _ (by have := hg2.size; simp at this; omega) (.inr hm2)).mono ?_
      rintro e w4 ⟨rfl, hm4, hg4⟩
      cases ok2
      · go_wp2_with fail
        refine (A2'.out _).mono ?_
        rintro e w5 ⟨rfl, rfl⟩
        go_wp2_with fail
        refine (is_errno _ _ (by omega) _).mono ?_
        rintro e w5 ⟨rfl, rfl⟩
        go_wp2
        go_ret
        exact ⟨rfl, hB1.trans ((below_new (grown_two hg2 hg4)).mono hB1.size)⟩
      · go_wp2_with fail
        refine (A2'.out _).mono ?_
        rintro e w5 ⟨rfl, rfl⟩
        go_wp2
        go_ret
        exact ⟨rfl, hB1.trans ((below_new (grown_two hg2 hg4)).mono hB1.size)⟩
    · go_wp2_with fail
      refine (P2'.out _).mono ?_
      rintro e w3 ⟨rfl, rfl⟩
      go_wp2_with fail
      refine (A1'.out w1.heap.size w1.heap.size _ (by have := hg2.size; simp at this; omega) (.inr hm2)).mono ?_
      rintro e w4 ⟨rfl, hm4, hg4⟩
      cases ok2
      · go_wp2_with fail
        refine (A2'.out _).mono ?_
        rintro e w5 ⟨rfl, rfl⟩
        go_wp2_with fail
        refine (is_errno _ _ (by omega) _).mono ?_
        rintro e w5 ⟨rfl, rfl⟩
        go_wp2
        go_ret
        exact ⟨rfl, hB1.trans ((below_new (grown_two hg2 hg4)).mono hB1.size)⟩
      · go_wp2_with fail
        refine (A2'.out _).mono ?_
        rintro e w5 ⟨rfl, rfl⟩
        go_wp2
        go_ret
        exact ⟨rfl, hB1.trans ((below_new (grown_two hg2 hg4)).mono hB1.size)⟩
  · have hs' : (200 : Int) < (s.size : Int) := by omega
    go_enter Try.func3, Try.ntmps3
    go_wp2_with (go_at_call 6; refine (alive_any _).mono ?_; rintro e w1 ⟨rfl, hB1⟩)
    go_ret
    exact ⟨rfl, hB1⟩

end Go.Proofs.Ythmeneklccngeaa
