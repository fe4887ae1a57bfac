/- What a table answers, further: At, Line; and the chapter's example. -/
import Derived.Test.YthmeneklccngeaaTextSpan
namespace Go.Proofs.Ythmeneklccngeaa
open Go.RowKit Go.Shelf

set_option maxHeartbeats 800000 in
theorem at_nil (a c : Int) (w : World) : Calls Try.prog 11 #[.pointer none, .int .i64 a, .int .i64 c] w fun e w' => e = .returned (.tuple #[.int .i64 0, errR]) ∧ w = w' := by
  go_enter Try.func11, Try.ntmps11
  go_wp2_with (go_at_call 21; refine (span_nil _ _).mono ?_; rintro e w1 ⟨rfl, rfl⟩)
  go_ret2
  exact ⟨rfl, rfl⟩

set_option maxHeartbeats 800000 in
theorem at_line (b base : Nat) (s : ByteArray) (hs : s.size ≤ 70000) (a c : Int) (ha : a < 0 ∨ ((beg s).length : Int) ≤ a) (w : World) (hbase : base ≤ w.heap.size) (hb : Tab w base b s) :
    Calls Try.prog 11 #[.pointer (some ⟨b, 0, none⟩), .int .i64 a, .int .i64 c] w (Asked b base s w (.tuple #[.int .i64 0, errR])) := by
  have HA := Lib.hid ha
  clear ha
  go_enter Try.func11, Try.ntmps11
  go_wp2_with (go_at_call 21; refine (span_out b base s hs _ HA.out _ hbase hb).mono ?_; rintro e w1 ⟨rfl, hm1, hg1⟩)
  go_ret2
  exact ⟨rfl, hm1, hg1⟩

set_option maxHeartbeats 800000 in
theorem at_col (b base : Nat) (s : ByteArray) (hs : s.size ≤ 70000) (i : Nat) (p : Nat × List UInt8) (hp : (lnsOf s)[i]? = some p) (c : Int) (hc : c < 0 ∨ (p.2.length : Int) < c) (w : World) (hbase : base ≤ w.heap.size) (hb : Tab w base b s) :
    Calls Try.prog 11 #[.pointer (some ⟨b, 0, none⟩), .int .i64 i, .int .i64 c] w (Asked b base s w (.tuple #[.int .i64 0, errR])) := by
  have hle := span_le hp
  have HP := Lib.hid hp
  clear hp
  by_cases h0 : c < 0
  · clear hc
    go_enter Try.func11, Try.ntmps11
    go_wp2_with (go_at_call 21; refine (span_in b base s hs _ p HP.out _ hbase hb).mono ?_; rintro e w1 ⟨rfl, hm1, hg1⟩)
    go_ret2
    exact ⟨rfl, hm1, hg1⟩
  · have h1 : (p.2.length : Int) < c := by omega
    clear hc
    go_enter Try.func11, Try.ntmps11
    go_wp2_with (go_at_call 21; refine (span_in b base s hs _ p HP.out _ hbase hb).mono ?_; rintro e w1 ⟨rfl, hm1, hg1⟩)
    go_ret2
    exact ⟨rfl, hm1, hg1⟩

set_option maxHeartbeats 800000 in
theorem at_in (b base : Nat) (s : ByteArray) (hs : s.size ≤ 70000) (i : Nat) (p : Nat × List UInt8) (hp : (lnsOf s)[i]? = some p) (c : Int) (h0 : 0 ≤ c) (h1 : c ≤ (p.2.length : Int)) (w : World) (hbase : base ≤ w.heap.size) (hb : Tab w base b s) :
    Calls Try.prog 11 #[.pointer (some ⟨b, 0, none⟩), .int .i64 i, .int .i64 c] w (Asked b base s w (.tuple #[.int .i64 (p.1 + c), .nilIface])) := by
  have hle := span_le hp
  have HP := Lib.hid hp
  clear hp
  have d0 : decide (c < 0) = false := by simp; omega
  have d1 : decide (((p.1 + p.2.length : Nat) : Int) - (p.1 : Int) < c) = false := by simp; omega
  go_enter Try.func11, Try.ntmps11
  go_wp2_with (go_at_call 21; refine (span_in b base s hs _ p HP.out _ hbase hb).mono ?_; rintro e w1 ⟨rfl, hm1, hg1⟩)
  go_ret2
  exact ⟨rfl, hm1, hg1⟩

set_option maxHeartbeats 800000 in
theorem line_nil (a : Int) (w : World) : Calls Try.prog 16 #[.pointer none, .int .i64 a] w fun e w' => e = .returned (.tuple #[.string ⟨#[]⟩, errR]) ∧ w = w' := by
  go_enter Try.func16, Try.ntmps16
  go_wp2_with (go_at_call 21; refine (span_nil _ _).mono ?_; rintro e w1 ⟨rfl, rfl⟩)
  go_ret2
  exact ⟨rfl, rfl⟩

set_option maxHeartbeats 800000 in
theorem line_out (b base : Nat) (s : ByteArray) (hs : s.size ≤ 70000) (a : Int) (ha : a < 0 ∨ ((beg s).length : Int) ≤ a) (w : World) (hbase : base ≤ w.heap.size) (hb : Tab w base b s) :
    Calls Try.prog 16 #[.pointer (some ⟨b, 0, none⟩), .int .i64 a] w (Asked b base s w (.tuple #[.string ⟨#[]⟩, errR])) := by
  have HA := Lib.hid ha
  clear ha
  go_enter Try.func16, Try.ntmps16
  go_wp2_with (go_at_call 21; refine (span_out b base s hs _ HA.out _ hbase hb).mono ?_; rintro e w1 ⟨rfl, hm1, hg1⟩)
  go_ret2
  exact ⟨rfl, hm1, hg1⟩

set_option maxHeartbeats 800000 in
theorem line_in (b base : Nat) (s : ByteArray) (hs : s.size ≤ 70000) (i : Nat) (p : Nat × List UInt8) (hp : (lnsOf s)[i]? = some p) (w : World) (hbase : base ≤ w.heap.size) (hb : Tab w base b s) :
    Calls Try.prog 16 #[.pointer (some ⟨b, 0, none⟩), .int .i64 i] w (Asked b base s w (.tuple #[.string (s.extract p.1 (p.1 + p.2.length)), .nilIface])) := by
  have hle := span_le hp
  have HP := Lib.hid hp
  clear hp
  go_enter Try.func16, Try.ntmps16
  go_wp2_with (go_at_call 21; refine (span_in b base s hs _ p HP.out _ hbase hb).mono ?_; rintro e w1 ⟨rfl, hm1, hg1⟩; obtain ⟨g, cap, c0, c1, c5, cs⟩ := hm1.cells; clear cs)
  go_ret2
  exact ⟨rfl, hm1, hg1⟩

/-- ab, a line feed, c -/
def abc : ByteArray := ⟨#[97, 98, 10, 99]⟩

theorem place_abc (b base : Nat) (w : World) (hbase : base ≤ w.heap.size) (hb : Tab w base b abc) :
    Calls Try.prog 8 #[.pointer (some ⟨b, 0, none⟩), .int .i64 3] w (Asked b base abc w (.tuple #[.int .i64 1, .int .i64 0, .nilIface])) :=
  place_in b base abc (by decide) 3 (by decide) (by decide) w hbase hb

theorem len_abc (b base : Nat) (w : World) (hbase : base ≤ w.heap.size) (hb : Tab w base b abc) :
    Calls Try.prog 17 #[.pointer (some ⟨b, 0, none⟩)] w (Asked b base abc w (.int .i64 2)) := by
  have h := len_any b base abc (by decide) w hbase hb
  have e : (beg abc).length = 2 := by rw [beg_len, bl_len]; rfl
  rw [e] at h
  exact h

theorem fresh_new (s : ByteArray) (w : World) : Fresh (w.alloc (.cells (tab s (.slice none 0 0) 0 0 0) 67)) w.heap.size s := World.alloc_heap_new w _

theorem below_new {w w' : World} {o : Obj} (h : (w.alloc o).grownBy w' (some w.heap.size)) : Below w.heap.size w w' :=
  ⟨h.os, h.tape, h.output, by have := h.size; simp at this; omega, fun k hk => (h.block k (by simp; omega) (by simp; omega)).trans (Below.heap_alloc _ _ _ hk)⟩

theorem grown_two {a b c : World} {k : Nat} (h : a.grownBy b (some k)) (h' : b.grownBy c (some k)) : a.grownBy c (some k) := h.andThen h' (fun _ e => .inr e)

set_option maxRecDepth 100000 in
set_option maxHeartbeats 800000 in
theorem alive_any (w : World) : Calls Try.prog 6 #[] w fun e w' => e = .returned (.bool true) ∧ Below w.heap.size w w' := by
  go_enter Try.func6, Try.ntmps6
  go_wp2_with (go_at_call 7; refine (new_any _ _).mono ?_; rintro e w1 ⟨rfl, rfl⟩)
  refine (place_abc w.heap.size w.heap.size _ (by simp) (.inl (fresh_new abc w))).mono ?_
  rintro e w1 ⟨rfl, hm1, hg1⟩
  go_wp2_with fail
  refine (len_abc w.heap.size w.heap.size _ (by have := hg1.size; simp at this; omega) (.inr hm1)).mono ?_
  rintro e w2 ⟨rfl, hm2, hg2⟩
  obtain ⟨g, cap, c0, c1, c5, cs⟩ := hm2.cells
  clear cs
  go_wp2_with fail
  refine (made_any _ _ _ c5).mono ?_
  rintro e w3 ⟨rfl, rfl⟩
  go_wp2
  go_ret
  exact ⟨rfl, below_new (grown_two hg1 hg2)⟩

end Go.Proofs.Ythmeneklccngeaa
