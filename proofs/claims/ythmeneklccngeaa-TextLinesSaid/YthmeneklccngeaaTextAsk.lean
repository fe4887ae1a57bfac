/- What a table answers: Len, Made, Place, At, Line. -/
import Derived.Test.YthmeneklccngeaaTextTable
namespace Go.Proofs.Ythmeneklccngeaa
open Go.RowKit Go.Shelf

theorem Made.drewN {W : World} {base b : Nat} {s : ByteArray} (h : Made W base b s) (n : Nat) : Made (W.drewN n) base b s := h
theorem drewN_grown {w w' : World} {row : Option Nat} (h : w.grownBy w' row) (n : Nat) : w.grownBy (w'.drewN n) row := ⟨h.os, h.tape, h.output, h.size, h.block⟩

/-- what lies in a table that has looked -/
theorem Made.cells {W : World} {base b : Nat} {s : ByteArray} (h : Made W base b s) : ∃ g cap : Nat,
    W.cell? ⟨b, 0, none⟩ = some (.string s) ∧ W.cell? ⟨b, 1, none⟩ = some (.slice (some ⟨g, 0, none⟩) (beg s).length cap) ∧ W.cell? ⟨b, 5, none⟩ = some (.int .i64 1) ∧
    (∀ i, i < (beg s).length → W.cell? ⟨g, i, none⟩ = some (.int .i64 ((beg s)[i]?.getD 0))) := by
  obtain ⟨v, hb, hr⟩ := h
  rcases hr.2 with ⟨_, h0⟩ | ⟨g, cap, cur, rfl, _, hgb, hnc, _, hcs, htk⟩
  · rw [bl_len] at h0; omega
  · refine ⟨g, cap, hb.cell 0, by rw [beg_len]; exact hb.cell 1, hb.cell 5, fun i hi => ?_⟩
    have e1 : W.cell? ⟨g, i, none⟩ = cur[i]? := by simp [World.cell?, hgb]
    have hi' : i < (bl s 0).length := by rw [← beg_len]; exact hi
    have e2 : (cur.toList.take ((bl s 0).length * 1))[i]? = cur[i]? := by
      rw [List.getElem?_take_of_lt (by omega)]; simp
    rw [e1, ← e2, htk, List.getElem?_map]
    unfold beg
    rw [List.getElem?_map]
    obtain ⟨p, hp⟩ : ∃ p, (bl s 0)[i]? = some p := ⟨_, List.getElem?_eq_getElem hi'⟩
    simp [hp]

/-- a call on a table: what it answers, and that the table has looked behind it -/
def Asked (b base : Nat) (s : ByteArray) (w : World) (r : Value) (e : Ending) (w' : World) : Prop := e = .returned r ∧ Made w' base b s ∧ w.grownBy w' (some b)

abbrev errR : Value := .iface 32 (.int .i64 1)

set_option maxHeartbeats 800000 in
theorem new_any (s : ByteArray) (w : World) :
    Calls Try.prog 7 #[.string s] w fun e w' => e = .returned (.pointer (some ⟨w.heap.size, 0, none⟩)) ∧ w.alloc (.cells (tab s (.slice none 0 0) 0 0 0) 67) = w' := by
  go_enter Try.func7, Try.ntmps7
  go_wp2
  go_ret
  exact ⟨rfl, rfl⟩

set_option maxHeartbeats 800000 in
theorem len_any (b base : Nat) (s : ByteArray) (hs : s.size ≤ 70000) (w : World) (hbase : base ≤ w.heap.size) (hb : Tab w base b s) :
    Calls Try.prog 17 #[.pointer (some ⟨b, 0, none⟩)] w (Asked b base s w (.int .i64 (beg s).length)) := by
  go_enter Try.func17, Try.ntmps17
  go_wp2_with (go_at_call 18; refine (look_any b base s hs _ hbase hb).mono ?_; rintro e w1 ⟨rfl, hm1, hg1⟩; obtain ⟨g, cap, c0, c1, c5, cs⟩ := hm1.cells; have CS := Lib.hid cs; clear cs)
  go_ret
  exact ⟨rfl, hm1, hg1⟩

set_option maxHeartbeats 800000 in
theorem len_nil (w : World) : Calls Try.prog 17 #[.pointer none] w fun e w' => e = .returned (.int .i64 0) ∧ w = w' := by
  go_enter Try.func17, Try.ntmps17
  go_wp2
  go_ret
  exact ⟨rfl, rfl⟩

set_option maxHeartbeats 800000 in
theorem made_any (b : Nat) (n : Int) (w : World) (hc : w.cell? ⟨b, 5, none⟩ = some (.int .i64 n)) :
    Calls Try.prog 14 #[.pointer (some ⟨b, 0, none⟩)] w fun e w' => e = .returned (.int .i64 n) ∧ w = w' := by
  go_enter Try.func14, Try.ntmps14
  go_wp2_with (go_at_call 22; refine (load_any _ _ _ hc).mono ?_; rintro e w1 ⟨rfl, rfl⟩)
  go_ret
  exact ⟨rfl, rfl⟩

set_option maxHeartbeats 800000 in
theorem made_nil (w : World) : Calls Try.prog 14 #[.pointer none] w fun e w' => e = .returned (.int .i64 0) ∧ w = w' := by
  go_enter Try.func14, Try.ntmps14
  go_wp2
  go_ret
  exact ⟨rfl, rfl⟩

set_option maxHeartbeats 800000 in
theorem place_nil (a : Int) (w : World) : Calls Try.prog 8 #[.pointer none, .int .i64 a] w fun e w' => e = .returned (.tuple #[.int .i64 0, .int .i64 0, errR]) ∧ w = w' := by
  go_enter Try.func8, Try.ntmps8
  go_wp2
  go_ret3
  exact ⟨rfl, rfl⟩

set_option maxHeartbeats 800000 in
theorem place_out (b base : Nat) (s : ByteArray) (hs : s.size ≤ 70000) (a : Int) (ha : a < 0 ∨ (s.size : Int) < a) (w : World) (hbase : base ≤ w.heap.size) (hb : Tab w base b s) :
    Calls Try.prog 8 #[.pointer (some ⟨b, 0, none⟩), .int .i64 a] w (Asked b base s w (.tuple #[.int .i64 0, .int .i64 0, errR])) := by
  by_cases h0 : a < 0
  · go_enter Try.func8, Try.ntmps8
    go_wp2_with (go_at_call 18; refine (look_any b base s hs _ hbase hb).mono ?_; rintro e w1 ⟨rfl, hm1, hg1⟩)
    go_ret3
    exact ⟨rfl, hm1, hg1⟩
  · have h1 : (s.size : Int) < a := by omega
    clear ha
    go_enter Try.func8, Try.ntmps8
    go_wp2_with (go_at_call 18; refine (look_any b base s hs _ hbase hb).mono ?_; rintro e w1 ⟨rfl, hm1, hg1⟩; obtain ⟨g, cap, c0, c1, c5, cs⟩ := hm1.cells; have CS := Lib.hid cs; clear cs)
    go_ret3
    exact ⟨rfl, hm1, hg1⟩

set_option maxHeartbeats 1600000 in
theorem place_in (b base : Nat) (s : ByteArray) (hs : s.size ≤ 70000) (a : Int) (h0 : 0 ≤ a) (h1 : a ≤ (s.size : Int)) (w : World) (hbase : base ≤ w.heap.size) (hb : Tab w base b s) :
    Calls Try.prog 8 #[.pointer (some ⟨b, 0, none⟩), .int .i64 a] w
      (Asked b base s w (.tuple #[.int .i64 (TextMath.ln (s.data.toList.take a.toNat)), .int .i64 (TextMath.co 0 (s.data.toList.take a.toNat)), .nilIface])) := by
  obtain ⟨n, rfl⟩ := Int.eq_ofNat_of_zero_le h0
  rw [Int.toNat_natCast]
  have hn : n ≤ s.size := by omega
  have ha : decide ((n : Int) < 0) = false := by simp
  have hbd : decide ((s.size : Int) < (n : Int)) = false := by simp; omega
  have hlen : (beg s).length ≤ 70001 := by rw [beg_len]; have := bl_length s; omega
  have hl := line_of s n hn
  have hf : ∀ (k : Nat) (b : Bool), k ≤ (beg s).length → (∀ i, i < k → (beg s)[i]?.getD 0 < (n : Int)) → (∀ i, k ≤ i → i < (beg s).length → (n : Int) ≤ (beg s)[i]?.getD 0) → (b = true ↔ k < (beg s).length ∧ (beg s)[k]?.getD 0 = (n : Int)) → (b = true → k = TextMath.ln (s.data.toList.take n)) ∧ (b = false → k = TextMath.ln (s.data.toList.take n) + 1) := fun k b h1 h2 h3 h4 => found_line s n k b hn h1 h2 h3 h4
  have hcn := TextMath.co_le (s.data.toList.take n) 0
  rw [List.length_take] at hcn
  generalize TextMath.ln (s.data.toList.take n) = m at hl hf ⊢
  generalize TextMath.co 0 (s.data.toList.take n) = c at hl hcn ⊢
  obtain ⟨hl1, hl2, _⟩ := hl
  have hval : (beg s)[m]?.getD 0 = (n : Int) - (c : Int) := by omega
  have HF := Lib.hid hf
  have HV := Lib.hid hval
  clear hf hval hl2
  go_enter Try.func8, Try.ntmps8
  go_wp2_with (go_at_call 18; refine (look_any b base s hs _ hbase hb).mono ?_; rintro e w1 ⟨rfl, hm1, hg1⟩; obtain ⟨g, cap, c0, c1, c5, cs⟩ := hm1.cells; have CS := Lib.hid cs; clear cs)
  refine (search_any g 0 cap (beg s) _ _ (by omega) (fun i hi => by simpa using CS.out i hi) (fun i j => beg_mono s j i)).mono ?_
  rintro e w2 ⟨k, bb, rfl, rfl, hk, hlo, hhi, hbb⟩
  have hcm := CS.out m hl1
  rw [HV.out] at hcm
  have h2 := HF.out k bb hk hlo hhi hbb
  clear hlo hhi hbb
  cases bb with
  | true =>
    obtain rfl := h2.1 rfl
    clear h2
    go_wp2
    go_quiet (fail)
    go_wp2
    go_ret3
    exact ⟨ret_t3 rfl (by omega), hm1.drewN _, drewN_grown hg1 _⟩
  | false =>
    obtain rfl := h2.2 rfl
    clear h2
    have e1 : ((m + 1 : Nat) : Int) - 1 = (m : Int) := by omega
    go_wp2
    go_quiet (fail)
    go_wp2
    go_ret3
    exact ⟨ret_t3 (by omega) (by omega), hm1.drewN _, drewN_grown hg1 _⟩

end Go.Proofs.Ythmeneklccngeaa
