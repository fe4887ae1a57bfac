/- The contract of Many: more patches than are looked at. -/
import Derived.Test.YtfkpnfhhmldodaaFilesOwn
import Derived.Test.YtfkpnfhhmldodaaEditApply
namespace Go.Proofs.Ytfkpnfhhmldodaa
open Go.RowKit EditMath FilesMath

/-- all bytes of all names and new texts -/
def ptot : List Pt → Int
  | [] => 0
  | p :: l => (p.n.size : Int) + tx p.l + ptot l
theorem ptot_nonneg (l : List Pt) : 0 ≤ ptot l := by
  induction l with
  | nil => simp [ptot]
  | cons p l ih => have := tx_nonneg p.l; simp only [ptot]; omega
theorem ptot_append (a b : List Pt) : ptot (a ++ b) = ptot a + ptot b := by
  induction a with
  | nil => simp [ptot]
  | cons p l ih => simp only [List.cons_append, ptot, ih]; omega
theorem ptake_snoc {l : List Pt} {k : Nat} {e : Pt} (h : l[k]? = some e) : l.take (k + 1) = l.take k ++ [e] := by
  rw [List.take_add_one, h]; rfl
theorem ptot_snoc {l : List Pt} {k : Nat} {e : Pt} (h : l[k]? = some e) : ptot (l.take (k + 1)) = ptot (l.take k) + (e.n.size + tx e.l) := by
  rw [ptake_snoc h, ptot_append]; simp [ptot]
theorem ptot_at {l : List Pt} {k : Nat} {e : Pt} (h : l[k]? = some e) : (e.n.size : Int) + tx e.l ≤ ptot l := by
  induction l generalizing k with
  | nil => simp at h
  | cons f l ih =>
    have := ptot_nonneg l
    have := tx_nonneg f.l
    cases k with
    | zero => simp at h; subst h; simp only [ptot]; omega
    | succ k => have := ih (k := k) (by simpa using h); simp only [ptot]; omega

def ManyV (m : List Pt) (w : World) (e : Ending) (w' : World) : Prop :=
  (e = .returned (.bool true) ∨ (e = .returned (.bool false) ∧ m.length ≤ 21 ∧ ptot m ≤ 40000 ∧ ∀ (i : Nat) (p : Pt), m[i]? = some p → p.l.length ≤ 41)) ∧ Below w.heap.size w w'

set_option maxRecDepth 100000 in
set_option maxHeartbeats 4000000 in
theorem many_any (A : Option Addr) (c : Nat) (m : List Pt) (w : World) (hes : ∀ (i : Nat) (p : Pt), m[i]? = some p → (p.n.size : Int) ≤ 140737488355328 ∧ ∀ (k : Nat) (e : Ed), p.l[k]? = some e → (e.s.size : Int) ≤ 140737488355328)
    (_hl : (m.length : Int) ≤ 9223372036854775807) (hll : ∀ (i : Nat) (p : Pt), m[i]? = some p → (p.l.length : Int) ≤ 9223372036854775807) (hr : Pts w w.heap.size A m) :
    Calls Try.prog 38 #[.slice A m.length c] w (ManyV m w) := by
  have HS := Lib.hid hes
  have HLL := Lib.hid hll
  clear hes hll
  go_enter Try.func38, Try.ntmps38
  go_wp2
  go_loopw [3, 4, 5, 6, 7, 10] (fun s _ _ _ _ i wr => ∃ k : Nat, k ≤ m.length ∧ k ≤ 21 ∧ i = .int .i64 k ∧ s = .int .i64 (ptot (m.take k)) ∧ ptot (m.take k) ≤ 40000 ∧ Below w.heap.size w wr ∧ Hid (∀ (i : Nat) (p : Pt), i < k → m[i]? = some p → p.l.length ≤ 41)) (fun _ _ _ _ _ i _ => m.length - (intOf i).toNat)
  case atStart => exact ⟨0, Nat.zero_le _, by omega, rfl, by simp [ptot], by simp [ptot], Below.refl _ _, Lib.hid (fun i p hi _ => absurd hi (Nat.not_lt_zero _))⟩
  case round =>
    obtain ⟨k, hk, hk21, rfl, rfl, ht, hB, HN⟩ := hrel
    by_cases hlt : k < m.length
    · have he : m[k]? = some m[k] := List.getElem?_eq_getElem hlt
      generalize m[k] = p at he
      obtain ⟨s1, s2⟩ := HS.out k p he
      have hpl := HLL.out k p he
      obtain ⟨b, off, rfl, hb, c0, c1, hE, _, _⟩ := (hr.below hB).at_ he
      have HT := Lib.hid (ptot_snoc he)
      have t0 := ptot_nonneg (m.take k)
      have HE := Lib.hid he
      have HS2 := Lib.hid s2
      clear he s2
      obtain ⟨pn, pA, pc, pl⟩ := p
      simp only at s1 hpl c0 c1 hE HT HS2
      generalize htt : ptot (m.take k) = t at *
      have HTT := Lib.hid htt
      clear htt
      have z1 : (0 : Int) ≤ k := by omega
      have z2 : (k : Int) < m.length := by omega
      have hB1 : Below wr.heap.size wr (wr.alloc (.cells #[.string pn, .slice pA pl.length pc] 122)) := below1 _ _
      have HB1 := Lib.hid hB1
      have HEE := Lib.hid ((hE.more hB.size).after hB1)
      clear hB1 hE
      go_wp2
      have hBw := hB.trans (HB1.out.mono hB.size)
      generalize (wr.alloc (.cells #[.string pn, .slice pA pl.length pc] 122)) = W1 at *
      clear hB HB1 c0 c1
      have htx0 : tx (pl.take 0) = 0 := by simp [tx]
      go_loopw [3, 6, 7, 23] (fun s _ _ i wr => ∃ j : Nat, j ≤ pl.length ∧ j ≤ 41 ∧ i = .int .i64 j ∧ s = .int .i64 (t + pn.size + tx (pl.take j)) ∧ (j = 0 ∨ t + pn.size + tx (pl.take j) ≤ 40000) ∧ Below W1.heap.size W1 wr) (fun _ _ _ i _ => pl.length - (intOf i).toNat)
      case atStart => exact ⟨0, Nat.zero_le _, by omega, rfl, by rw [htx0]; simp, .inl rfl, Below.refl _ _⟩
      case round =>
        obtain ⟨j, hj, hj41, rfl, rfl, hjs, hB2⟩ := hrel
        by_cases hlj : j < pl.length
        · have hd : pl[j]? = some pl[j] := List.getElem?_eq_getElem hlj
          generalize pl[j] = d at hd
          have hds := HS2.out j d hd
          obtain ⟨b2, off2, rfl, hb2, d0, d1, d2⟩ := (HEE.out.below hB2).at_ hd
          have HX := Lib.hid (tx_snoc hd)
          have x0 := tx_nonneg (pl.take j)
          have x1 : tx (pl.take j) = 0 ∨ t + pn.size + tx (pl.take j) ≤ 40000 := by
            rcases hjs with rfl | h
            · exact .inl htx0
            · exact .inr h
          clear hd hjs
          generalize hxx : tx (pl.take j) = x at *
          have HXX := Lib.hid hxx
          clear hxx
          have z3 : (0 : Int) ≤ j := by omega
          have z4 : (j : Int) < pl.length := by omega
          have hB3 : Below wr.heap.size wr (wr.alloc (.cells #[.int .i64 d.f, .int .i64 d.t, .string d.s] 87)) := below1 _ _
          by_cases h40 : (40 : Int) < j
          · have q0 : decide ((40 : Int) < j) = true := decide_eq_true h40
            go_wp2
            go_ret
            exact ⟨.inl rfl, hBw.trans ((hB2.trans (hB3.mono hB2.size)).mono hBw.size)⟩
          · have q0 : decide ((40 : Int) < j) = false := decide_eq_false h40
            by_cases h4 : (40000 : Int) < t + pn.size + x + d.s.size
            · have q1 : decide ((40000 : Int) < t + pn.size + x + d.s.size) = true := decide_eq_true h4
              go_wp2
              go_ret
              exact ⟨.inl rfl, hBw.trans ((hB2.trans (hB3.mono hB2.size)).mono hBw.size)⟩
            · have q1 : decide ((40000 : Int) < t + pn.size + x + d.s.size) = false := decide_eq_false h4
              go_wp2
              go_roundw
              case rel => exact ⟨j + 1, by omega, by omega, by go_num, by rw [HX.out]; go_num, .inr (by rw [HX.out]; omega), hB2.trans (hB3.mono hB2.size)⟩
              case measure => simp [intOf]; omega
        · obtain rfl : j = pl.length := by omega
          have hfull : pl.take pl.length = pl := List.take_length
          rw [hfull] at hjs
          rw [hfull]
          clear hfull
          have hB3 := hBw.trans (hB2.mono hBw.size)
          by_cases h20 : (20 : Int) < k
          · have q0 : decide ((20 : Int) < k) = true := decide_eq_true h20
            go_wp2
            go_ret
            exact ⟨.inl rfl, hB3⟩
          · have q0 : decide ((20 : Int) < k) = false := decide_eq_false h20
            by_cases h4 : (40000 : Int) < t + pn.size + tx pl
            · have q1 : decide ((40000 : Int) < t + pn.size + tx pl) = true := decide_eq_true h4
              go_wp2
              go_ret
              exact ⟨.inl rfl, hB3⟩
            · have q1 : decide ((40000 : Int) < t + pn.size + tx pl) = false := decide_eq_false h4
              go_wp2
              go_roundw
              case rel =>
                refine ⟨k + 1, by omega, by omega, by go_num, by rw [HT.out]; go_num, by rw [HT.out]; omega, hB3, Lib.hid (fun i q hi hq => ?_)⟩
                by_cases e : i = k
                · subst e; rw [HE.out] at hq; injection hq with hq; subst hq; exact hj41
                · exact HN.out i q (by omega) hq
              case measure => simp [intOf]; omega
    · obtain rfl : k = m.length := by omega
      rw [List.take_length] at ht
      go_wp2
      go_ret
      exact ⟨.inr ⟨rfl, hk21, ht, fun i p hp => HN.out i p (List.getElem?_eq_some_iff.1 hp).1 hp⟩, hB⟩
end Go.Proofs.Ytfkpnfhhmldodaa
