/- The document's lines, as the law's own package makes them: a slice of structures that holds each line's beginning and text. -/
import Derived.Test.YthmeneklccngeaaTextBegs
import Derived.Test.YthmeneklccngeaaTextJoin
import Derived.Test.YthmeneklccngeaaTextLook
import Derived.Maps.AppendAt
namespace Go.Proofs.Ythmeneklccngeaa
open Go.RowKit

section
variable {w : World} {base : Nat} {e : TypeId} {size : Nat} {n : Nat} {xs : List Value} {g cap : Nat}
theorem own_cell (h : w.ownsRow base e size (.slice (some ⟨g, 0, none⟩) n cap) n xs) {j : Nat} {u : Value} (hj : xs[j]? = some u) : w.cell? ⟨g, j, none⟩ = some u := by
  obtain ⟨hl, h⟩ := h
  rcases h with ⟨h, _⟩ | ⟨g', cap', cur, hv, _, hgb, _, _, hcs, htk⟩
  · cases h
  · cases hv
    have hlt : j < xs.length := (List.getElem?_eq_some_iff.1 hj).1
    have : cur[j]? = xs[j]? := by
      rw [← htk, List.getElem?_take_of_lt (by omega)]; simp
    simp [World.cell?, hgb, this, hj]

theorem own_frozen (h : w.ownsRow base e size (.slice (some ⟨g, 0, none⟩) n cap) n xs) (j : Nat) : w.frozen? ⟨g, j, none⟩ = false := by
  obtain ⟨_, h⟩ := h
  rcases h with ⟨h, _⟩ | ⟨g', cap', cur, hv, _, hgb, _⟩
  · cases h
  · cases hv; simp [World.frozen?, hgb]

theorem own_set (h : w.ownsRow base e size (.slice (some ⟨g, 0, none⟩) n cap) n xs) {j : Nat} (u : Value) (hj : j < xs.length) : (w.setCell ⟨g, j, none⟩ u).ownsRow base e size (.slice (some ⟨g, 0, none⟩) n cap) n (xs.set j u) := by
  obtain ⟨hl, h⟩ := h
  refine ⟨by simpa using hl, ?_⟩
  rcases h with ⟨h, _⟩ | ⟨g', cap', cur, hv, hb, hgb, h1, h2, hcs, htk⟩
  · cases h
  · cases hv
    refine .inr ⟨g, cap, cur.setIfInBounds j u, rfl, hb, ?_, h1, h2, by simpa using hcs, ?_⟩
    · obtain ⟨hlt, hk⟩ := Array.getElem?_eq_some_iff.1 hgb
      show (w.heap.modify g _)[g]? = _
      rw [Array.getElem?_eq_getElem (by rw [Array.size_modify]; exact hlt), Array.getElem_modify_self, hk]
      rfl
    · rw [Array.toList_setIfInBounds, ← htk, List.take_set]

theorem own_base (h : w.ownsRow base e size (.slice (some ⟨g, 0, none⟩) n cap) n xs) : base ≤ g := by
  rcases h.2 with ⟨h, _⟩ | ⟨g', cap', cur, hv, hb, _⟩
  · cases h
  · cases hv; exact hb
end

theorem two_new (w : World) (a b : Value) (t : TypeId) : ∀ (j : Nat) (u : Value), [a, b][j]? = some u → (w.alloc (.cells #[a, b] t)).cell? ((⟨w.heap.size, 0, none⟩ : Addr).add j) = some u := by
  intro j u h
  match j, h with
  | 0, h => simp at h; subst h; simp [Addr.add]
  | 1, h => simp at h; subst h; simp [Addr.add]
  | j + 2, h => simp at h

theorem own_lt {w : World} {base : Nat} {e : TypeId} {size n g cap : Nat} {xs : List Value} (h : w.ownsRow base e size (.slice (some ⟨g, 0, none⟩) n cap) n xs) : g < w.heap.size := by
  rcases h.2 with ⟨h, _⟩ | ⟨g', cap', cur, hv, _, hgb, _⟩
  · cases h
  · cases hv; exact (Array.getElem?_eq_some_iff.1 hgb).1

/-- the cells of the document's lines -/
def lcells (s : ByteArray) (ps : List (Nat × List UInt8)) : List Value := ps.flatMap fun p => [.int .i64 p.1, .string (s.extract p.1 (p.1 + p.2.length))]

theorem lcells_length (s : ByteArray) (ps : List (Nat × List UInt8)) : (lcells s ps).length = ps.length * 2 := by
  unfold lcells
  induction ps with
  | nil => rfl
  | cons p ps ih => simp [List.flatMap_cons, ih]; omega

theorem lcells_append (s : ByteArray) (a b : List (Nat × List UInt8)) : lcells s (a ++ b) = lcells s a ++ lcells s b := by unfold lcells; simp

theorem lcells_at (s : ByteArray) (ps : List (Nat × List UInt8)) : ∀ (i : Nat) (p : Nat × List UInt8), ps[i]? = some p →
    (lcells s ps)[i * 2]? = some (.int .i64 p.1) ∧ (lcells s ps)[i * 2 + 1]? = some (.string (s.extract p.1 (p.1 + p.2.length))) := by
  induction ps with
  | nil => intro i p h; simp at h
  | cons q ps ih =>
    intro i p h
    cases i with
    | zero => simp at h; subst h; simp [lcells, List.flatMap_cons]
    | succ i =>
      simp at h
      obtain ⟨h1, h2⟩ := ih i p h
      have e : lcells s (q :: ps) = .int .i64 q.1 :: .string (s.extract q.1 (q.1 + q.2.length)) :: lcells s ps := by simp [lcells, List.flatMap_cons]
      rw [e]
      exact ⟨by rw [show (i + 1) * 2 = i * 2 + 1 + 1 from by omega]; simpa using h1, by rw [show (i + 1) * 2 + 1 = i * 2 + 1 + 1 + 1 from by omega]; simpa using h2⟩

theorem extract_none (s : ByteArray) (a : Nat) : s.extract a a = ⟨#[]⟩ := by
  have h : (s.extract a a).data.toList = [] := by rw [Lib.extract_data]; simp
  generalize s.extract a a = b at h
  obtain ⟨⟨l⟩⟩ := b
  simp at h; subst h; rfl

theorem info_line : (Try.prog.info? 46).map (fun i => (i.zero, i.size, i.bytes)) = some (some (.agg #[.int .i64 0, .string ⟨#[]⟩]), 2, 24) := by kernel_rfl

/-- behind i bytes: the list holds the lines of these -/
def RefI (w : World) (s : ByteArray) (v : Value) (i : Nat) (wr : World) : Prop :=
  ∃ m g cap : Nat, v = .slice (some ⟨g, 0, none⟩) (m + 1) cap ∧ (TextMath.lns 0 (s.data.toList.take i)).length = m + 1 ∧
    wr.ownsRow w.heap.size 46 2 (.slice (some ⟨g, 0, none⟩) (m + 1) cap) (m + 1) (lcells s (TextMath.lns 0 (s.data.toList.take i))) ∧ Below w.heap.size w wr

/-- the last line of the first i bytes -/
theorem last_line (s : ByteArray) (i m : Nat) (hi : i ≤ s.size) (hm : (TextMath.lns 0 (s.data.toList.take i)).length = m + 1) :
    ∃ (ps : List (Nat × List UInt8)) (p : Nat × List UInt8), TextMath.lns 0 (s.data.toList.take i) = ps ++ [p] ∧ ps.length = m ∧ p.1 + p.2.length = i := by
  obtain ⟨p, hp⟩ : ∃ p, (TextMath.lns 0 (s.data.toList.take i))[m]? = some p := ⟨_, List.getElem?_eq_getElem (by omega)⟩
  refine ⟨(TextMath.lns 0 (s.data.toList.take i)).take m, p, ?_, by rw [List.length_take]; omega, ?_⟩
  · rw [← TextMath.take_snoc_at _ _ _ hp, ← hm, List.take_length]
  · have := (TextMath.text _ 0 m p hp).2.2.2.1 hm.symm
    simp at this
    omega

theorem lcells_lf (s : ByteArray) (i : Nat) (hi : i < s.size) (h10 : s[i] = 10) :
    lcells s (TextMath.lns 0 (s.data.toList.take (i + 1))) = lcells s (TextMath.lns 0 (s.data.toList.take i)) ++ [.int .i64 ((i : Int) + 1), .string ⟨#[]⟩] ∧
    (TextMath.lns 0 (s.data.toList.take (i + 1))).length = (TextMath.lns 0 (s.data.toList.take i)).length + 1 := by
  rw [take_snoc s i hi, h10, TextMath.lns_snoc_lf, lcells_append]
  have e : (s.data.toList.take i).length = i := by rw [List.length_take]; simp; omega
  refine ⟨?_, by simp⟩
  rw [e]
  simp [lcells, extract_none]
  rfl

theorem lcells_more (s : ByteArray) (i m : Nat) (hi : i < s.size) (h10 : s[i] ≠ 10) (hm : (TextMath.lns 0 (s.data.toList.take i)).length = m + 1) :
    ∃ p : Nat × List UInt8, (lcells s (TextMath.lns 0 (s.data.toList.take i)))[m * 2]? = some (.int .i64 p.1) ∧ p.1 ≤ i ∧
    lcells s (TextMath.lns 0 (s.data.toList.take (i + 1))) = (lcells s (TextMath.lns 0 (s.data.toList.take i))).set (m * 2 + 1) (.string (s.extract p.1 (i + 1))) ∧
    (TextMath.lns 0 (s.data.toList.take (i + 1))).length = m + 1 := by
  obtain ⟨ps, p, e, hps, hp⟩ := last_line s i m (by omega) hm
  have hat := lcells_at s (TextMath.lns 0 (s.data.toList.take i)) m p (by rw [e]; simp [← hps])
  refine ⟨p, hat.1, by omega, ?_, ?_⟩
  · rw [take_snoc s i hi, TextMath.lns_snoc _ _ h10, e, TextMath.addLast_eq, lcells_append, lcells_append]
    have hl := lcells_length s ps
    rw [List.set_append_right _ _ (by omega), hl, hps, show m * 2 + 1 - m * 2 = 1 from by omega]
    simp [lcells]
    rw [show p.1 + (p.2.length + 1) = i + 1 from by omega]
  · rw [take_snoc s i hi, TextMath.lns_snoc _ _ h10, TextMath.addLast_length, hm]

set_option maxRecDepth 100000 in
set_option maxHeartbeats 1600000 in
theorem refLines_any (s : ByteArray) (hs : s.size ≤ 70000) (w : World) :
    Calls Try.prog 13 #[.string s] w fun e w' => ∃ g cap : Nat, e = .returned (.slice (some ⟨g, 0, none⟩) (lnsOf s).length cap) ∧ w'.ownsRow w.heap.size 46 2 (.slice (some ⟨g, 0, none⟩) (lnsOf s).length cap) (lnsOf s).length (lcells s (lnsOf s)) ∧ Below w.heap.size w w' := by
  obtain ⟨i0, hi, hz0, hz1, hz2⟩ := info_parts info_line
  go_enter Try.func13, Try.ntmps13
  go_wp2
  have hst : RefI w s (.slice (some ⟨w.heap.size, 0, none⟩) 1 1) 0 (w.alloc (.cells #[.int .i64 0, .string ⟨#[]⟩] 46)) := by
    refine ⟨0, w.heap.size, 1, rfl, rfl, ⟨rfl, .inr ⟨w.heap.size, 1, #[.int .i64 0, .string ⟨#[]⟩], rfl, Nat.le_refl _, World.alloc_heap_new w _, by omega, by unfold maxLen; omega, rfl, ?_⟩⟩, (Below.refl _ w).alloc (Nat.le_refl _) _⟩
    simp [lcells, TextMath.lns, extract_none]
    rfl
  go_loopw [3, 4, 5] (fun v i _ wr => ∃ n : Nat, n ≤ s.size ∧ i = .int .i64 n ∧ RefI w s v n wr) (fun _ i _ _ => s.size - (intOf i).toNat)
  case atStart => exact ⟨0, Nat.zero_le _, rfl, hst⟩
  case round =>
    obtain ⟨n, hn, rfl, m, g, cap, rfl, hm, hown, hB⟩ := hrel
    have HM := Lib.hid hm
    have hml : m ≤ 70000 := by
      rw [TextMath.lns_length] at hm
      have := TextMath.ln_le (s.data.toList.take n)
      rw [List.length_take] at this
      omega
    clear hm hst
    by_cases hlt : n < s.size
    · by_cases h10 : s[n] = 10
      · have hb : ((s[n].toNat : Int) == 10) = true := by rw [h10]; rfl
        obtain ⟨hl1, hl2⟩ := lcells_lf s n hlt h10
        have H1 := Lib.hid hl1
        have H2 := Lib.hid hl2
        clear hl1 hl2 h10
        go_wp2_with (at_builtin; go_loud (refine wpList_append_own _ rfl _ _ 38 rfl w.heap.size 46 i0 (.agg #[.int .i64 0, .string ⟨#[]⟩]) 2 24 Try.underlying38 hi hz0 hz1 hz2 rfl (by decide) _ _ _ rfl (hown.alloc _) ⟨wr.heap.size, 0, none⟩ 1 1 [.int .i64 ((n : Int) + 1), .string ⟨#[]⟩] rfl rfl (two_new _ _ _ _) (by simp [Value.oneCell']) (by unfold maxLen; omega) (by omega) (by have := hB.size; simp; omega) ?_); intro v' w1 hown' hgrow _; obtain ⟨g', cap', rfl⟩ := ownsRow_succ hown')
        go_roundw
        case rel =>
          refine ⟨n + 1, by omega, by go_num, m + 1, g', cap', rfl, by rw [H2.out, HM.out], by rw [H1.out]; exact hown', ?_⟩
          refine (hB.alloc hB.size _).grown hgrow (by have := hB.size; simp; omega) (fun k e => ?_)
          have e' : (some g : Option Nat) = some k := e
          injection e' with e'
          subst e'
          exact own_base hown
        case measure => simp [intOf]; omega
      · have hb : ((s[n].toNat : Int) == 10) = false := by
          rw [beq_eq_false_iff_ne]; intro e; exact h10 (byte_eq_ten (beq_iff_eq.2 e))
        obtain ⟨p, hp1, hp2, hp3, hp4⟩ := lcells_more s n m hlt h10 HM.out
        have hll := lcells_length s (TextMath.lns 0 (s.data.toList.take n))
        rw [HM.out] at hll
        obtain ⟨u, hu⟩ : ∃ u, (lcells s (TextMath.lns 0 (s.data.toList.take n)))[m * 2 + 1]? = some u := ⟨_, List.getElem?_eq_getElem (by omega)⟩
        have c1 := own_cell hown hp1
        have c2 := own_cell hown hu
        have f2 := own_frozen hown (m * 2 + 1)
        have H3 := Lib.hid hp3
        have H4 := Lib.hid hp4
        have H5 := Lib.hid hll
        clear hp1 hp3 hp4 h10 hu hll
        go_wp2
        go_roundw
        case rel =>
          refine ⟨n + 1, by omega, by go_num, m, g, cap, rfl, H4.out, ?_, hB.setCell (p := ⟨g, m * 2 + 1, none⟩) (own_base hown) _⟩
          rw [H3.out]
          exact own_set hown _ (by rw [H5.out]; omega)
        case measure => simp [intOf]; omega
    · obtain rfl : n = s.size := by omega
      go_wp2
      go_ret
      have e : s.data.toList.take s.size = s.data.toList := List.take_of_length_le (by simp)
      rw [e] at hown
      have hm := HM.out
      rw [e] at hm
      refine ⟨g, cap, ?_, ?_, hB⟩
      · rw [hm]; rfl
      · rw [hm]; exact hown

end Go.Proofs.Ythmeneklccngeaa
