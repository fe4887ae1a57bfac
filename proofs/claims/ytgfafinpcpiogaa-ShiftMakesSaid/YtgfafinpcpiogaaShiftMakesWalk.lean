/- The law ShiftMakes, walked: one list does what the two do, and each byte that goes is the byte that it was. -/
import Derived.Test.YtgfafinpcpiogaaShiftJoinsPair
import Derived.Test.YtgfafinpcpiogaaShiftMakeMath
import Derived.Test.YtgfafinpcpiogaaEditApply
namespace Go.Proofs.Ytgfafinpcpiogaa
open Go.RowKit Go.Shelf EditMath ShiftMath

/-- a byte that goes is the same byte -/
theorem goes_byte {s : List UInt8} {a : List Ed} (ha : rt a (s.length : Int) = true) {x : Nat} (hx : x < s.length) {p : Pc} (hf : ((pcs a s.length).filter went).find? (inP x) = some p) :
    ∃ i : Nat, (x : Int) + (p.a - p.f) = i ∧ i < (ap s 0 a).length ∧ (ap s 0 a)[i]? = s[x]? := by
  obtain ⟨hP, hW, _⟩ := pcs_pos ha
  have k1 := goes_eq (x := (x : Int)) (by omega) (pcs a s.length) 0 (by omega) hP hW
  rw [hf] at k1
  obtain ⟨i, hi, e⟩ := k1
  rw [List.findIdx?_eq_some_iff_getElem] at hi
  obtain ⟨hlt, hy, _⟩ := hi
  have hg : (srcOf (pcs a s.length))[i]? = some (x : Int) := by
    rw [List.getElem?_eq_getElem hlt]
    congr 1
    simpa using hy
  obtain ⟨ch, _, hb⟩ := bys_at hg
  have hm : (ap s 0 a)[i]? = some (mat s ((x : Int), ch)) := by
    rw [ap_bys ha, List.getElem?_map, hb]
    rfl
  refine ⟨i, by omega, ?_, ?_⟩
  · exact (List.getElem?_eq_some_iff.1 hm).1
  · rw [hm]
    unfold mat
    have h0 : ¬ ((x : Int) < 0) := by omega
    simp only [h0, if_false, Int.toNat_natCast]
    rw [List.getElem?_eq_getElem hx]
    rfl

theorem run_idx {s : ByteArray} {i : Nat} {u : UInt8} (h : s.data.toList[i]? = some u) (W : World) : (Instr.index 9 (.string s) (.int .i64 (i : Int))).run Try.prog W = .ok (.int .u8 u.toNat) W := by
  obtain ⟨hlt, he⟩ := List.getElem?_eq_some_iff.1 h
  have hs : i < s.size := hlt
  rw [run_index_string W 9 s .i64 (i : Int) Try.underlying9, dif_pos ⟨by omega, by omega⟩]
  have : s[((i : Int)).toNat]'(by simpa using hs) = u := by
    rw [← he]
    simp only [Int.toNat_natCast]
    rfl
  rw [this]

theorem tx_grown {l : List Ed} {size : Int} (h : rt l size = true) : tx l ≤ size + gr l := by
  obtain ⟨_, g, _⟩ := gr_bounds h
  omega

/-- Join, where both lists are right: the one list -/
theorem join_makes (s : ByteArray) (a b : List Ed) (hl : a.length ≤ 31) (hl1 : b.length ≤ 31) (hsz : (s.size : Int) ≤ 500) (htx : tx a ≤ 500) (htx1 : tx b ≤ 500) (ha : rt a (s.size : Int) = true) (hb : rt b ((s.size : Int) + gr a) = true) :
    ∃ L : List Ed, L.length ≤ 10000 ∧ tx L ≤ 2000 ∧ bad s L = 0 ∧ pl L s.size = true ∧ ap s.data.toList 0 L = ap (ap s.data.toList 0 a) 0 b ∧
    (∀ (A0 A1 : Option Addr) (c0 c1 : Nat) (W : World), Eds W W.heap.size A0 a → Eds W W.heap.size A1 b → Calls Try.prog 24 #[.slice A0 a.length c0, .slice A1 b.length c1, .int .i64 s.size] W (JoP L 0 W)) := by
  have hz0 := (rt_parts ha).1
  have t0 := tx_nonneg a
  have t1 := tx_nonneg b
  obtain ⟨g1, g2, _⟩ := gr_bounds ha
  obtain ⟨g3, g4, _⟩ := gr_bounds hb
  obtain ⟨hb1, hb2⟩ := bhd_bys ha hb
  have e : jput (pst (bhd (pcs a s.size) (pcs b (s.size + gr a)))) s.size = joinB ((bysOf (pcs b (s.size + gr a))).map (comb (bysOf (pcs a s.size)))) s.size := by
    unfold joinB jst
    rw [← hb1, ← pfold_eq _ hb2]
  have hsl : (s.size : Int) = s.data.toList.length := rfl
  obtain ⟨j1, j2, j3⟩ := join_ap (s := s.data.toList) (a := a) (b := b) (by rw [← hsl]; exact ha) (by rw [← hsl]; exact hb)
  rw [← hsl] at j1 j2 j3
  have len : (((ap (ap s.data.toList 0 a) 0 b).length : Nat) : Int) = s.size + gr a + gr b := by
    have first : ∀ {l : List Ed} {m : Int}, rt l m = true → ∀ e, l[0]? = some e → ((0 : Nat) : Int) ≤ e.f := fun h e he => by have := ((rt_parts h).2.1 0 e he).1; simpa using this
    have q1 := ap_length s.data.toList a 0 s.size ha hsl (Nat.zero_le _) (first ha)
    have q2 := ap_length (ap s.data.toList 0 a) b 0 (s.size + gr a) hb (by omega) (Nat.zero_le _) (first hb)
    omega
  have len2 : (((ap s.data.toList 0 (joinB ((bysOf (pcs b (s.size + gr a))).map (comb (bysOf (pcs a s.size)))) s.size)).length : Nat) : Int) = s.size + gr (joinB ((bysOf (pcs b (s.size + gr a))).map (comb (bysOf (pcs a s.size)))) s.size) := by
    have q1 := ap_length s.data.toList _ 0 s.size j1 hsl (Nat.zero_le _) (fun e he => by have := ((rt_parts j1).2.1 0 e he).1; simpa using this)
    omega
  rw [j3] at len2
  have hlen : (joinB ((bysOf (pcs b (s.size + gr a))).map (comb (bysOf (pcs a s.size)))) s.size).length ≤ 10000 := by
    rw [← e]
    have h1 := jput_len (pst (bhd (pcs a s.size) (pcs b (s.size + gr a)))) s.size
    have h2 : (pst (bhd (pcs a s.size) (pcs b (s.size + gr a)))).out.length ≤ 0 + (bhd (pcs a s.size) (pcs b (s.size + gr a))).length := pfold_len _ ⟨[], 0, []⟩
    have h3 := bhd_length (pcs a s.size) (pcs b (s.size + gr a))
    have h4 := pcs_length a s.size
    have h5 := pcs_length b (s.size + gr a)
    have h6 : (pcs b (s.size + gr a)).length * ((pcs a s.size).length + 1) ≤ 63 * 64 := Nat.mul_le_mul (by omega) (by omega)
    omega
  have key : ∀ (A0 A1 : Option Addr) (c0 c1 : Nat) (W : World), Eds W W.heap.size A0 a → Eds W W.heap.size A1 b → Calls Try.prog 24 #[.slice A0 a.length c0, .slice A1 b.length c1, .int .i64 s.size] W (JoP (joinB ((bysOf (pcs b (s.size + gr a))).map (comb (bysOf (pcs a s.size)))) s.size) 0 W) := by
    intro A0 A1 c0 c1 W h0 h1
    have := join_ok A0 A1 c0 c1 a b s.size W hl hl1 h0 h1 hz0 hsz htx htx1 (by omega) (by omega) ha hb
    rw [e] at this
    exact this
  clear e
  generalize joinB ((bysOf (pcs b (s.size + gr a))).map (comb (bysOf (pcs a s.size)))) s.size = L at *
  have tg := tx_grown j1
  refine ⟨L, hlen, by omega, ?_, j2, j3, key⟩
  unfold bad
  rw [if_pos j1, if_neg (by omega)]
end Go.Proofs.Ytgfafinpcpiogaa
