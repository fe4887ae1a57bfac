/- newSize, Apply: what a text is behind edits, as the program makes it. -/
import Derived.Test.YtfkpnfhhmldodaaEditGrowA
import Derived.Test.YtfkpnfhhmldodaaEditText
import Derived.Test.YtfkpnfhhmldodaaEditBuild
namespace Go.Proofs.Ytfkpnfhhmldodaa
open Go.RowKit EditMath

/-- which error stands against edits of a text: 2, 4, or none -/
def bad (s : ByteArray) (l : List Ed) : Int := if rt l s.size = true then (if 65536 < (s.size : Int) + gr l then 4 else 0) else 2

theorem bad_zero {s : ByteArray} {l : List Ed} (h : bad s l = 0) : rt l s.size = true ∧ (s.size : Int) + gr l ≤ 65536 := by
  unfold bad at h
  split at h
  · split at h
    · omega
    · exact ⟨‹_›, by omega⟩
  · omega

theorem bad_cases (s : ByteArray) (l : List Ed) : bad s l = 0 ∨ (bad s l = 2 ∧ rt l s.size = false) ∨ (bad s l = 4 ∧ rt l s.size = true ∧ 65536 < (s.size : Int) + gr l) := by
  unfold bad
  split
  · split
    · exact .inr (.inr ⟨rfl, ‹_›, by omega⟩)
    · exact .inl rfl
  · exact .inr (.inl ⟨rfl, Bool.eq_false_iff.2 ‹_›⟩)

theorem gr_small {s : ByteArray} {l : List Ed} (h : rt l s.size = true) : 0 ≤ (s.size : Int) + gr l ∧ gr l ≤ tx l := by
  obtain ⟨a, b, _⟩ := gr_bounds h
  have := tx_nonneg l
  exact ⟨by omega, a⟩

set_option maxHeartbeats 800000 in
theorem newSize_ok (s : ByteArray) (A : Option Addr) (c : Nat) (l : List Ed) (N : Nat) (hb : bad s l = 0) (hN : (N : Int) = (s.size : Int) + gr l) (htx : (s.size : Int) + tx l ≤ 70000) (w : World) (hl : l.length ≤ 10000) (hr : Eds w w.heap.size A l) :
    Calls Try.prog 62 #[.string s, .slice A l.length c] w fun e w' => e = .returned (.tuple #[.int .i64 N, .nilIface]) ∧ Below w.heap.size w w' := by
  have h0 := tx_nonneg l
  have HC := Lib.hid (grow_any A c l s.size (by omega) (by omega) w hl hr)
  obtain ⟨h1, h2⟩ := bad_zero hb
  obtain ⟨g1, g2⟩ := gr_small h1
  have hg : growV l s.size = .tuple #[.int .i64 (gr l), .nilIface] := by simp [growV, h1]
  rw [hg] at HC
  have HN := Lib.hid hN
  clear hg hb hr h1 hN
  have hx : decide (65536 < (s.size : Int) + gr l) = false := by simp; omega
  generalize gr l = g at *
  go_enter Try.func62, Try.ntmps62
  go_wp2_with fail
  refine HC.out.mono ?_
  rintro e w1 ⟨rfl, hb1⟩
  go_wp2
  go_ret2
  exact ⟨ret_t2 HN.out.symm, hb1⟩

set_option maxHeartbeats 800000 in
theorem newSize_bad (s : ByteArray) (A : Option Addr) (c : Nat) (l : List Ed) (hb : bad s l ≠ 0) (htx : (s.size : Int) + tx l ≤ 70000) (w : World) (hl : l.length ≤ 10000) (hr : Eds w w.heap.size A l) :
    Calls Try.prog 62 #[.string s, .slice A l.length c] w fun e w' => e = .returned (.tuple #[.int .i64 0, errn (bad s l)]) ∧ Below w.heap.size w w' := by
  have h0 := tx_nonneg l
  have HC := Lib.hid (grow_any A c l s.size (by omega) (by omega) w hl hr)
  rcases bad_cases s l with h | ⟨h, h1⟩ | ⟨h, h1, h2⟩
  · exact absurd h hb
  · have hg : growV l s.size = .tuple #[.int .i64 0, errn 2] := by simp [growV, h1]
    rw [hg] at HC
    rw [h]
    clear hg hb hr h1 h
    go_enter Try.func62, Try.ntmps62
    go_wp2_with fail
    refine HC.out.mono ?_
    rintro e w1 ⟨rfl, hb1⟩
    go_wp2
    go_ret2
    exact ⟨rfl, hb1⟩
  · have hg : growV l s.size = .tuple #[.int .i64 (gr l), .nilIface] := by simp [growV, h1]
    obtain ⟨g1, g2⟩ := gr_small h1
    rw [hg] at HC
    rw [h]
    clear hg hb hr h1 h
    have hx : decide (65536 < (s.size : Int) + gr l) = true := by simp; omega
    generalize gr l = g at *
    go_enter Try.func62, Try.ntmps62
    go_wp2_with fail
    refine HC.out.mono ?_
    rintro e w1 ⟨rfl, hb1⟩
    go_wp2
    go_ret2
    exact ⟨rfl, hb1⟩

set_option maxHeartbeats 800000 in
theorem apply_bad (s : ByteArray) (A : Option Addr) (c : Nat) (l : List Ed) (hb : bad s l ≠ 0) (htx : (s.size : Int) + tx l ≤ 70000) (w : World) (hl : l.length ≤ 10000) (hr : Eds w w.heap.size A l) :
    Calls Try.prog 27 #[.string s, .slice A l.length c] w fun e w' => e = .returned (.tuple #[.string ⟨#[]⟩, errn (bad s l)]) ∧ Below w.heap.size w w' := by
  have HC := Lib.hid (newSize_bad s A c l hb htx w hl hr)
  clear hb hr
  generalize bad s l = n at *
  go_enter Try.func27, Try.ntmps27
  go_wp2_with fail
  refine HC.out.mono ?_
  rintro e w1 ⟨rfl, hb1⟩
  go_wp2
  go_ret2
  exact ⟨rfl, hb1⟩

theorem cut_size (s : ByteArray) (a b : Nat) : (s.extract a b).size ≤ s.size := by
  rw [ByteArray.size_extract]; omega

/-- a box of an edit stands behind a write -/
theorem kept_box {w w' : World} {b k : Nat} {cs : Array Value} (h : Lib.OthersKept 5 (some b) w w') (hk : w.heap[k]? = some (.cells cs 87 (0, 0))) (hne : k ≠ b) : w'.heap[k]? = some (.cells cs 87 (0, 0)) :=
  h k _ hk (fun e => hne (by injection e)) (fun c fz e => by injection e with _ ht; exact absurd ht (by decide))

theorem cells_three {w : World} {k : Nat} {a b c : Value} (h : w.heap[k]? = some (.cells #[a, b, c] 87 (0, 0))) : w.cell? ⟨k, 0, none⟩ = some a ∧ w.cell? ⟨k, 1, none⟩ = some b ∧ w.cell? ⟨k, 2, none⟩ = some c :=
  ⟨by rw [Lib.cell_of_heap h]; rfl, by rw [Lib.cell_of_heap h]; rfl, by rw [Lib.cell_of_heap h]; rfl⟩

set_option maxRecDepth 100000 in
set_option maxHeartbeats 2000000 in
theorem apply_ok (s : ByteArray) (A : Option Addr) (c : Nat) (l : List Ed) (hb : bad s l = 0) (htx : (s.size : Int) + tx l ≤ 70000) (w : World) (hl : l.length ≤ 10000) (hr : Eds w w.heap.size A l) :
    Calls Try.prog 27 #[.string s, .slice A l.length c] w fun e w' => e = .returned (.tuple #[.string ⟨(ap s.data.toList 0 l).toArray⟩, .nilIface]) ∧ Below w.heap.size w w' := by
  obtain ⟨h1, h2⟩ := bad_zero hb
  obtain ⟨g1, g2⟩ := gr_small h1
  obtain ⟨N, hN⟩ : ∃ N : Nat, (N : Int) = (s.size : Int) + gr l := ⟨((s.size : Int) + gr l).toNat, by omega⟩
  have hNb : N ≤ 65536 := by omega
  have HC := Lib.hid (newSize_ok s A c l N hb hN htx w hl hr)
  have HT := Lib.hid h1
  have htx0 := tx_nonneg l
  clear hb hN h1 h2 g1 g2
  go_enter Try.func27, Try.ntmps27
  go_wp2_with fail
  refine HC.out.mono ?_
  rintro e w1 ⟨rfl, hb1⟩
  go_wp2_with fail
  refine (bGrow w1.heap.size w1.heap.size N _ (Nat.le_refl _) (heap_alloc_new w1 _) (by simp) (by omega)).mono ?_
  rintro e w2 ⟨rfl, hbd, hb2⟩
  clear HC
  have HB2 : Below w.heap.size w w2 := (hb1.alloc hb1.size _).trans (hb2.mono hb1.size)
  have hBw : w1.heap.size ≤ w2.heap.size := by have := hb2.size; simp at this; omega
  have hWB := hb1.size
  clear hb2 hb1
  generalize w1.heap.size = B at *
  clear w1
  go_wp2
  go_loopw [9, 11, 25] (fun a _ i wr => ∃ k : Nat, k ≤ l.length ∧ i = .int .i64 (k : Int) ∧ a = .int .i64 ((run s.data.toList (l.take k)).2 : Int) ∧ Below w.heap.size w wr ∧ B ≤ wr.heap.size ∧ Lib.BuilderAtF 113 5 B B (.pointer (some ⟨B, 0, none⟩)) (Lib.byteCells (run s.data.toList (l.take k)).1) wr) (fun _ _ i _ => l.length + 1 - (intOf i).toNat)
  case atStart => exact ⟨0, Nat.zero_le _, rfl, rfl, HB2, hBw, Lib.BuilderAtF.of hbd⟩
  case round =>
    clear hbd HB2 hBw
    obtain ⟨k, hk, rfl, rfl, hB, hBw, hbd⟩ := hrel
    obtain ⟨r1, r2, r3⟩ := run_bounds s.data.toList l s.size HT.out rfl k
    have hsz : s.data.toList.length = s.size := rfl
    rw [hsz] at r1
    have b1 := gr_bounds (rt_take HT.out k)
    have b2 := tx_take_le l k
    have b3 := tx_nonneg (l.take k)
    by_cases hlt : k < l.length
    · have he : l[k]? = some l[k] := List.getElem?_eq_getElem hlt
      generalize l[k] = e at he
      have z2 : (k : Int) < l.length := by omega
      obtain ⟨b, off, rfl, hb, c0, c1, c2⟩ := (hr.below hB).at_ he
      have HR := Lib.hid (run_snoc s.data.toList he)
      obtain ⟨s0, s1, s2⟩ := (rt_parts HT.out).2.1 k e he
      have r4 := r3 e he
      have hbb : b < wr.heap.size := Nat.lt_of_lt_of_le hb hB.size
      have hne : b ≠ wr.heap.size := by omega
      have hle : (e.s.size : Int) ≤ 70000 := by
        have h1 := tx_snoc he
        have h2 := tx_take_le l (k + 1)
        omega
      have hbl : (run s.data.toList (l.take k)).1.length ≤ 200000 := by omega
      clear he r3 r2 b1 b2 b3 hr
      generalize run s.data.toList (l.take k) = st at *
      obtain ⟨acc, a⟩ := st
      simp only at *
      have hx1 := cut_size s a e.f.toNat
      go_wp2_with fail
      refine (bWrite B B (Lib.byteCells acc) (s.extract a e.f.toNat) _ (Lib.IsBuilderF.alloc (.inr hbd) _) (by rw [Lib.byteCells_length]; omega) (by simp; omega)).mono ?_
      rintro r w3 ⟨rfl, hbd3, hB3, hO3⟩
      have hk3 := kept_box hO3 (heap_alloc_new wr _) (by have := hbd.lt; omega)
      obtain ⟨d0, d1, d2⟩ := cells_three hk3
      have hs3 : wr.heap.size + 1 ≤ w3.heap.size := by have := hB3.size; simpa using this
      go_wp2_with fail
      refine (bWrite B B _ e.s _ (.inr hbd3) (by rw [List.length_append, Lib.byteCells_length, Lib.strCells_length]; omega) (by omega)).mono ?_
      rintro r w4 ⟨rfl, hbd4, hB4, hO4⟩
      have hk4 := kept_box hO4 hk3 (by have := hbd.lt; omega)
      obtain ⟨d0, d1, d2⟩ := cells_three hk4
      have hs4 := hB4.size
      have HB4 : Below w.heap.size w w4 := ((hB.alloc hB.size _).trans (hB3.mono hWB)).trans (hB4.mono hWB)
      have HD := Lib.hid hbd4
      clear hbd hbd3 hbd4 hk3 hk4 hO3 hO4 hB3 hB4 c0 c1 c2
      go_wp2
      go_roundw
      case rel =>
        refine ⟨k + 1, by omega, by go_num, ?_, HB4, by omega, ?_⟩
        · rw [HR.out]; simp only [EditMath.step]; rw [Int.toNat_of_nonneg (by omega)]
        · rw [HR.out]
          simp only [EditMath.step]
          have := HD.out
          rw [Lib.strCells_eq, Lib.strCells_eq, Lib.extract_data, ← Lib.byteCells_append, ← Lib.byteCells_append] at this
          exact this
      case measure => simp [intOf]; omega
    · obtain rfl : k = l.length := by omega
      rw [List.take_length] at r1 r2 b1 b3 hbd ⊢
      have hbl : (run s.data.toList l).1.length ≤ 200000 := by omega
      have HF := Lib.hid (run_ap s.data.toList l)
      clear hr r2 b1 b2 b3 r3
      generalize run s.data.toList l = st at *
      obtain ⟨acc, a⟩ := st
      simp only at *
      have hx1 := cut_size s a s.size
      go_wp2_with fail
      refine (bWrite B B (Lib.byteCells acc) (s.extract a s.size) _ (.inr hbd) (by rw [Lib.byteCells_length]; omega) (by omega)).mono ?_
      rintro r w3 ⟨rfl, hbd3, hB3, hO3⟩
      have hs3 := hB3.size
      rw [Lib.strCells_eq, Lib.extract_data, ← Lib.byteCells_append, List.take_of_length_le (by rw [List.length_drop, hsz]; omega), HF.out] at hbd3
      generalize hout : ap s.data.toList 0 l = out at hbd3
      have HO := Lib.hid hout
      clear hout HF
      go_wp2_with fail
      refine (bString B B out _ (.inr hbd3) (by omega)).mono ?_
      rintro r w4 ⟨rfl, _, hB4, _⟩
      go_wp2
      go_ret2
      exact ⟨by rw [HO.out]; rfl, (hB.trans (hB3.mono hWB)).trans (hB4.mono hWB)⟩

end Go.Proofs.Ytfkpnfhhmldodaa
