/- Plain facts on where a text's lines begin, as the table's list holds them. -/
import Derived.Test.YthmeneklccngeaaTextIter
namespace Go.Proofs.Ythmeneklccngeaa
open Go.RowKit

/-- the lines' beginnings, as numbers -/
def beg (s : ByteArray) : List Int := (bl s 0).map fun x => (x.1 : Int)

abbrev lnsOf (s : ByteArray) : List (Nat × List UInt8) := TextMath.lns 0 s.data.toList

theorem bl_eq (s : ByteArray) : bl s 0 = (lnsOf s).map fun p => (p.1, s.extract p.1 (p.1 + p.2.length)) := by unfold bl lnsOf; simp

theorem bl_len (s : ByteArray) : (bl s 0).length = TextMath.ln s.data.toList + 1 := by rw [bl_eq, List.length_map, TextMath.lns_length]

theorem beg_len (s : ByteArray) : (beg s).length = (bl s 0).length := by unfold beg; simp

theorem beg_at {s : ByteArray} {i : Nat} {p : Nat × List UInt8} (h : (lnsOf s)[i]? = some p) : (beg s)[i]?.getD 0 = (p.1 : Int) := by
  unfold beg; rw [bl_eq]; simp [h]

theorem bl_at {s : ByteArray} {i : Nat} {p : Nat × List UInt8} (h : (lnsOf s)[i]? = some p) : (bl s 0)[i]? = some (p.1, s.extract p.1 (p.1 + p.2.length)) := by
  rw [bl_eq]; simp [h]

theorem lns_some {s : ByteArray} {i : Nat} (h : i < (bl s 0).length) : ∃ p, (lnsOf s)[i]? = some p := by
  rw [bl_eq, List.length_map] at h
  exact ⟨_, List.getElem?_eq_getElem h⟩

theorem beg_step {s : ByteArray} {i : Nat} {p : Nat × List UInt8} (h : (lnsOf s)[i]? = some p) (hn : i + 1 < (bl s 0).length) : (beg s)[i + 1]?.getD 0 = (p.1 : Int) + p.2.length + 1 := by
  obtain ⟨q, hq⟩ := lns_some hn
  rw [beg_at hq, (TextMath.text _ 0 i p h).2.2.2.2 q hq]
  omega

theorem beg_last {s : ByteArray} {i : Nat} {p : Nat × List UInt8} (h : (lnsOf s)[i]? = some p) (hn : i + 1 = (bl s 0).length) : p.1 + p.2.length = s.size := by
  have := (TextMath.text _ 0 i p h).2.2.2.1 (by rw [bl_eq, List.length_map] at hn; exact hn)
  simpa using this

theorem beg_mono (s : ByteArray) : ∀ j i, i < j → j < (beg s).length → (beg s)[i]?.getD 0 < (beg s)[j]?.getD 0 := by
  intro j
  induction j with
  | zero => intro i hi; omega
  | succ j ih =>
    intro i hi hj
    rw [beg_len] at hj
    obtain ⟨p, hp⟩ := lns_some (s := s) (i := j) (by omega)
    have h1 := beg_step hp hj
    have h2 := beg_at hp
    by_cases e : i = j
    · subst e; omega
    · have := ih i (by omega) (by rw [beg_len]; omega); omega

theorem beg_zero (s : ByteArray) : (beg s)[0]?.getD 0 = 0 := by
  obtain ⟨t, rest, e⟩ := TextMath.lns_head s.data.toList 0
  have := beg_at (s := s) (i := 0) (p := (0, t)) (by simp [lnsOf, e])
  simpa using this

/-- the line of a place, as the list tells it -/
theorem line_of (s : ByteArray) (n : Nat) (hn : n ≤ s.size) : TextMath.ln (s.data.toList.take n) < (beg s).length ∧
    (beg s)[TextMath.ln (s.data.toList.take n)]?.getD 0 + TextMath.co 0 (s.data.toList.take n) = n ∧
    (TextMath.ln (s.data.toList.take n) + 1 < (beg s).length → (n : Int) < (beg s)[TextMath.ln (s.data.toList.take n) + 1]?.getD 0) := by
  obtain ⟨p, h1, h2, h3⟩ := TextMath.place s.data.toList 0 0 n (by simpa using hn)
  have hlt : TextMath.ln (s.data.toList.take n) < (lnsOf s).length := by
    rcases Nat.lt_or_ge (TextMath.ln (s.data.toList.take n)) (lnsOf s).length with h | h
    · exact h
    · rw [List.getElem?_eq_none h] at h1; cases h1
  have hl : (beg s).length = (lnsOf s).length := by rw [beg_len, bl_eq, List.length_map]
  refine ⟨by omega, ?_, fun hh => ?_⟩
  · rw [beg_at h1]; simp at h3; omega
  · rw [beg_step h1 (by rw [← beg_len]; exact hh)]; simp at h2 h3; omega

/-- only one line may be that of a place -/
theorem line_one (s : ByteArray) (a : Int) (i j : Nat) (hi : i < (beg s).length) (hj : j < (beg s).length) (i1 : (beg s)[i]?.getD 0 ≤ a) (i2 : i + 1 < (beg s).length → a < (beg s)[i + 1]?.getD 0)
    (j1 : (beg s)[j]?.getD 0 ≤ a) (j2 : j + 1 < (beg s).length → a < (beg s)[j + 1]?.getD 0) : i = j := by
  rcases Nat.lt_trichotomy i j with h | h | h
  · by_cases e : i + 1 = j
    · subst e; have := i2 hj; omega
    · have := beg_mono s j (i + 1) (by omega) hj; have := i2 (by omega); omega
  · exact h
  · by_cases e : j + 1 = i
    · subst e; have := j2 hi; omega
    · have := beg_mono s i (j + 1) (by omega) hi; have := j2 (by omega); omega

/-- what the search tells is the line -/
theorem found_line (s : ByteArray) (n k : Nat) (b : Bool) (hn : n ≤ s.size) (hk : k ≤ (beg s).length) (hlo : ∀ i, i < k → (beg s)[i]?.getD 0 < (n : Int)) (hhi : ∀ i, k ≤ i → i < (beg s).length → (n : Int) ≤ (beg s)[i]?.getD 0)
    (hb : b = true ↔ k < (beg s).length ∧ (beg s)[k]?.getD 0 = (n : Int)) :
    (b = true → k = TextMath.ln (s.data.toList.take n)) ∧ (b = false → k = TextMath.ln (s.data.toList.take n) + 1) := by
  obtain ⟨l1, l2, l3⟩ := line_of s n hn
  refine ⟨fun h => ?_, fun h => ?_⟩
  · obtain ⟨h1, h2⟩ := hb.1 h
    refine line_one s n _ _ h1 l1 (by omega) (fun hh => ?_) (by omega) l3
    have := beg_mono s (k + 1) k (by omega) hh; omega
  · have hk0 : k ≠ 0 := fun e => by
      subst e
      have h0 : 0 < (beg s).length := by omega
      have := hhi 0 (Nat.le_refl _) h0
      rw [beg_zero] at this
      have : b = true := hb.2 ⟨h0, by rw [beg_zero]; omega⟩
      rw [h] at this; cases this
    obtain ⟨m, rfl⟩ := Nat.exists_eq_succ_of_ne_zero hk0
    have hm := hlo m (by omega)
    have : m = TextMath.ln (s.data.toList.take n) := by
      refine line_one s n _ _ (by omega) l1 (by omega) (fun hh => ?_) (by omega) l3
      have h1 := hhi (m + 1) (Nat.le_refl _) hh
      have h2 : (beg s)[m + 1]?.getD 0 ≠ (n : Int) := fun e => by
        have := hb.2 ⟨hh, e⟩; rw [h] at this; cases this
      omega
    omega

end Go.Proofs.Ythmeneklccngeaa
