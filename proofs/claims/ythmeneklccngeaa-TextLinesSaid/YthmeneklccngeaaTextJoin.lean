/- Plain facts on the lines of a list of bytes, joined again with line feeds between. -/
import Derived.Test.YthmeneklccngeaaTextMath
namespace Go.Proofs.Ythmeneklccngeaa.TextMath

/-- ahead of each line but the first stands a line feed -/
theorem lf_at (l : List UInt8) : ∀ (off i : Nat) (q : Nat × List UInt8), (lns off l)[i + 1]? = some q → off < q.1 ∧ l[q.1 - off - 1]? = some 10 := by
  induction l with
  | nil => intro off i q h; simp [lns] at h
  | cons c r ih =>
    intro off i q h
    obtain ⟨t, rest, e⟩ := lns_head r (off + 1)
    by_cases hc : c = 10
    · simp [lns, hc] at h
      cases i with
      | zero => rw [e] at h; simp at h; subst h; simp [hc]
      | succ i =>
        obtain ⟨h1, h2⟩ := ih (off + 1) i q h
        refine ⟨by omega, ?_⟩
        rw [show q.1 - off - 1 = (q.1 - (off + 1) - 1) + 1 from by omega, List.getElem?_cons_succ]
        exact h2
    · simp [lns, hc, e, consTo] at h
      obtain ⟨h1, h2⟩ := ih (off + 1) i q (by simp [e, h])
      refine ⟨by omega, ?_⟩
      rw [show q.1 - off - 1 = (q.1 - (off + 1) - 1) + 1 from by omega, List.getElem?_cons_succ]
      exact h2

/-- lines, with line feeds between -/
def jl : List (Nat × List UInt8) → List UInt8 := List.foldl (fun acc p => (if 0 < p.1 then acc ++ [10] else acc) ++ p.2) []

theorem jl_snoc (a : List (Nat × List UInt8)) (p : Nat × List UInt8) : jl (a ++ [p]) = (if 0 < p.1 then jl a ++ [10] else jl a) ++ p.2 := by
  unfold jl; rw [List.foldl_append]; rfl

theorem take_snoc_at {α : Type} (l : List α) (n : Nat) (x : α) (h : l[n]? = some x) : l.take (n + 1) = l.take n ++ [x] := by
  obtain ⟨hn, rfl⟩ := List.getElem?_eq_some_iff.1 h
  rw [List.take_succ_eq_append_getElem hn]

theorem join (l : List UInt8) : ∀ (k : Nat) (p : Nat × List UInt8), (lns 0 l)[k]? = some p → jl ((lns 0 l).take (k + 1)) = l.take (p.1 + p.2.length) := by
  intro k
  induction k with
  | zero =>
    intro p h
    rw [take_snoc_at _ _ _ h]
    obtain ⟨t, rest, e⟩ := lns_head l 0
    rw [e] at h
    simp at h
    subst h
    obtain ⟨_, _, h3, _⟩ := text l 0 0 (0, t) (by simp [e])
    simp [jl]
    simpa using h3
  | succ k ih =>
    intro q h
    obtain ⟨p, hp⟩ : ∃ p, (lns 0 l)[k]? = some p := by
      obtain ⟨hn, _⟩ := List.getElem?_eq_some_iff.1 h
      exact ⟨_, List.getElem?_eq_getElem (by omega)⟩
    have h1 := ih p hp
    have h2 := (text l 0 k p hp).2.2.2.2 q h
    obtain ⟨_, h4, h5, _⟩ := text l 0 (k + 1) q h
    have h6 := (lf_at l 0 k q h).2
    simp at h4 h5 h6
    rw [take_snoc_at _ _ _ h, jl_snoc, h1, if_pos (by omega)]
    have e1 : p.1 + p.2.length = q.1 - 1 := by omega
    rw [e1, ← take_snoc_at l (q.1 - 1) 10 h6, show q.1 - 1 + 1 = q.1 from by omega, List.take_add]
    rw [← h5]

/-- where a line begins: behind what has come, and a line feed -/
theorem join_len (l : List UInt8) (k : Nat) (p : Nat × List UInt8) (h : (lns 0 l)[k]? = some p) :
    (k = 0 → p.1 = 0) ∧ (0 < k → p.1 = (jl ((lns 0 l).take k)).length + 1) := by
  refine ⟨fun e => ?_, fun hk => ?_⟩
  · subst e
    obtain ⟨t, rest, e⟩ := lns_head l 0
    rw [e] at h; simp at h; subst h; rfl
  · obtain ⟨m, rfl⟩ : ∃ m, k = m + 1 := ⟨k - 1, by omega⟩
    obtain ⟨q, hq⟩ : ∃ q, (lns 0 l)[m]? = some q := by
      obtain ⟨hn, _⟩ := List.getElem?_eq_some_iff.1 h
      exact ⟨_, List.getElem?_eq_getElem (by omega)⟩
    rw [join l m q hq, List.length_take]
    have h2 := (text l 0 m q hq).2.2.2.2 p h
    have h4 := (text l 0 m q hq).2.1
    omega

theorem join_all (l : List UInt8) : jl (lns 0 l) = l := by
  have hp := lns_pos l 0
  obtain ⟨p, h⟩ : ∃ p, (lns 0 l)[(lns 0 l).length - 1]? = some p := ⟨_, List.getElem?_eq_getElem (by omega)⟩
  have h1 := join l _ p h
  have h2 := (text l 0 _ p h).2.2.2.1 (by omega)
  rw [show (lns 0 l).length - 1 + 1 = (lns 0 l).length from by omega, List.take_length] at h1
  rw [h1, List.take_of_length_le (by omega)]

end Go.Proofs.Ythmeneklccngeaa.TextMath
