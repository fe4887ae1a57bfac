/- What a table answers, further: span, At, Line. -/
import Derived.Test.YthmeneklccngeaaTextAsk
namespace Go.Proofs.Ythmeneklccngeaa
open Go.RowKit Go.Shelf

set_option maxHeartbeats 800000 in
theorem span_nil (a : Int) (w : World) : Calls Try.prog 21 #[.pointer none, .int .i64 a] w fun e w' => e = .returned (.tuple #[.int .i64 0, .int .i64 0, errR]) ∧ w = w' := by
  go_enter Try.func21, Try.ntmps21
  go_wp2
  go_ret3
  exact ⟨rfl, rfl⟩

set_option maxHeartbeats 800000 in
theorem span_out (b base : Nat) (s : ByteArray) (hs : s.size ≤ 70000) (a : Int) (ha : a < 0 ∨ ((beg s).length : Int) ≤ a) (w : World) (hbase : base ≤ w.heap.size) (hb : Tab w base b s) :
    Calls Try.prog 21 #[.pointer (some ⟨b, 0, none⟩), .int .i64 a] w (Asked b base s w (.tuple #[.int .i64 0, .int .i64 0, errR])) := by
  by_cases h0 : a < 0
  · go_enter Try.func21, Try.ntmps21
    go_wp2_with (go_at_call 18; refine (look_any b base s hs _ hbase hb).mono ?_; rintro e w1 ⟨rfl, hm1, hg1⟩)
    go_ret3
    exact ⟨rfl, hm1, hg1⟩
  · have h1 : ((beg s).length : Int) ≤ a := by omega
    clear ha
    go_enter Try.func21, Try.ntmps21
    go_wp2_with (go_at_call 18; refine (look_any b base s hs _ hbase hb).mono ?_; rintro e w1 ⟨rfl, hm1, hg1⟩; obtain ⟨g, cap, c0, c1, c5, cs⟩ := hm1.cells; have CS := Lib.hid cs; clear cs)
    go_ret3
    exact ⟨rfl, hm1, hg1⟩

theorem span_le {s : ByteArray} {i : Nat} {p : Nat × List UInt8} (h : (lnsOf s)[i]? = some p) : p.1 + p.2.length ≤ s.size := by
  have := (TextMath.text _ 0 i p h).2.1
  simpa using this

set_option maxHeartbeats 1600000 in
theorem span_in (b base : Nat) (s : ByteArray) (hs : s.size ≤ 70000) (i : Nat) (p : Nat × List UInt8) (hp : (lnsOf s)[i]? = some p) (w : World) (hbase : base ≤ w.heap.size) (hb : Tab w base b s) :
    Calls Try.prog 21 #[.pointer (some ⟨b, 0, none⟩), .int .i64 i] w
      (Asked b base s w (.tuple #[.int .i64 p.1, .int .i64 (p.1 + p.2.length : Nat), .nilIface])) := by
  have hle := span_le hp
  have hlt : i < (beg s).length := by
    rw [beg_len, bl_eq, List.length_map]
    rcases Nat.lt_or_ge i (lnsOf s).length with h | h
    · exact h
    · rw [List.getElem?_eq_none h] at hp; cases hp
  have hlen : (beg s).length ≤ 70001 := by rw [beg_len]; have := bl_length s; omega
  have HB := Lib.hid (beg_at hp)
  have ha : decide ((i : Int) < 0) = false := by simp
  have hbd : decide ((beg s).length ≤ i) = false := by simp; omega
  by_cases hl : i + 1 = (beg s).length
  · have HZ := Lib.hid (beg_last hp (by rw [← beg_len]; exact hl))
    have hq : ((i : Int) == ((beg s).length : Int) - 1) = true := beq_iff_eq.2 (by omega)
    clear hp hl
    go_enter Try.func21, Try.ntmps21
    go_wp2_with (go_at_call 18; refine (look_any b base s hs _ hbase hb).mono ?_; rintro e w1 ⟨rfl, hm1, hg1⟩; obtain ⟨g, cap, c0, c1, c5, cs⟩ := hm1.cells; have hci := cs i hlt; rw [HB.out] at hci; have CS := Lib.hid cs; clear cs)
    go_quiet (fail)
    go_wp2
    go_ret3
    exact ⟨ret_t3 rfl (by rw [HZ.out]), hm1.drewN _, drewN_grown hg1 _⟩
  · have HZ := Lib.hid (beg_step hp (by rw [← beg_len]; omega))
    have hq : ((i : Int) == ((beg s).length : Int) - 1) = false := beq_eq_false_iff_ne.2 (by omega)
    have hlt2 : i + 1 < (beg s).length := by omega
    clear hp hl
    go_enter Try.func21, Try.ntmps21
    go_wp2_with (go_at_call 18; refine (look_any b base s hs _ hbase hb).mono ?_; rintro e w1 ⟨rfl, hm1, hg1⟩; obtain ⟨g, cap, c0, c1, c5, cs⟩ := hm1.cells; have hci := cs i hlt; have hcj := cs (i + 1) hlt2; rw [HB.out] at hci; rw [HZ.out] at hcj; have CS := Lib.hid cs; clear cs)
    go_quiet (fail)
    go_wp2
    go_ret3
    exact ⟨ret_t3 rfl (by omega), hm1.drewN _, drewN_grown hg1 _⟩

end Go.Proofs.Ythmeneklccngeaa
