/- Plain facts on the lines of a list of bytes: where they begin, which line and column a place has. Nothing of any program. -/
namespace Go.Proofs.Ythmeneklccngeaa.TextMath

/-- how many line feeds -/
def ln (l : List UInt8) : Nat := l.count 10

/-- the column behind l, if it was k ahead of it -/
def co : Nat → List UInt8 → Nat
  | k, [] => k
  | k, c :: r => co (if c = 10 then 0 else k + 1) r

def consTo (c : UInt8) (off : Nat) : List (Nat × List UInt8) → List (Nat × List UInt8)
  | [] => []
  | (_, t) :: rest => (off, c :: t) :: rest

/-- the lines, each with its beginning -/
def lns : Nat → List UInt8 → List (Nat × List UInt8)
  | off, [] => [(off, [])]
  | off, c :: r => if c = 10 then (off, []) :: lns (off + 1) r else consTo c off (lns (off + 1) r)

theorem lns_head (l : List UInt8) : ∀ off, ∃ t rest, lns off l = (off, t) :: rest := by
  induction l with
  | nil => intro off; exact ⟨[], [], rfl⟩
  | cons c r ih =>
    intro off
    by_cases h : c = 10
    · exact ⟨[], lns (off + 1) r, by simp [lns, h]⟩
    · obtain ⟨t, rest, e⟩ := ih (off + 1)
      exact ⟨c :: t, rest, by simp [lns, h, e, consTo]⟩

theorem lns_pos (l : List UInt8) (off : Nat) : 0 < (lns off l).length := by
  obtain ⟨t, rest, e⟩ := lns_head l off; rw [e]; simp

theorem ln_nil : ln [] = 0 := rfl
theorem ln_snoc (l : List UInt8) (c : UInt8) : ln (l ++ [c]) = ln l + if c = 10 then 1 else 0 := by
  unfold ln; rw [List.count_append]; by_cases h : c = 10 <;> simp [h]
theorem ln_cons (l : List UInt8) (c : UInt8) : ln (c :: l) = ln l + if c = 10 then 1 else 0 := by
  unfold ln; rw [List.count_cons]; by_cases h : c = 10 <;> simp [h]
theorem ln_le (l : List UInt8) : ln l ≤ l.length := List.count_le_length

theorem co_snoc (l : List UInt8) (c : UInt8) : ∀ k, co k (l ++ [c]) = if c = 10 then 0 else co k l + 1 := by
  induction l with
  | nil => intro k; simp [co]
  | cons d r ih => intro k; simp only [List.cons_append, co]; exact ih _

theorem co_le (l : List UInt8) : ∀ k, co k l ≤ k + l.length := by
  induction l with
  | nil => intro k; simp [co]
  | cons d r ih => intro k; simp only [co, List.length_cons]; split
                   · have := ih 0; omega
                   · have := ih (k + 1); omega

theorem lns_length (l : List UInt8) : ∀ off, (lns off l).length = ln l + 1 := by
  induction l with
  | nil => intro off; rfl
  | cons c r ih =>
    intro off
    rw [ln_cons]
    by_cases h : c = 10
    · simp [lns, h, ih]
    · obtain ⟨t, rest, e⟩ := lns_head r (off + 1)
      have := ih (off + 1)
      rw [e] at this
      simp [lns, h, e, consTo] at this ⊢
      exact this

/-- A place: its line is the one that begins so many bytes ahead of it. -/
theorem place (l : List UInt8) : ∀ (off k at' : Nat), at' ≤ l.length →
    ∃ p, (lns off l)[ln (l.take at')]? = some p ∧ co k (l.take at') ≤ p.2.length + (if ln (l.take at') = 0 then k else 0) ∧
      p.1 + co k (l.take at') = off + at' + (if ln (l.take at') = 0 then k else 0) := by
  induction l with
  | nil =>
    intro off k at' h
    have : at' = 0 := by simpa using h
    subst this
    exact ⟨(off, []), by simp [lns, ln], by simp [co, ln], by simp [co, ln]⟩
  | cons c r ih =>
    intro off k at' h
    cases at' with
    | zero =>
      obtain ⟨t, rest, e⟩ := lns_head (c :: r) off
      exact ⟨(off, t), by simp [e, ln], by simp [co, ln], by simp [co, ln]⟩
    | succ a =>
      have ha : a ≤ r.length := by simpa using h
      rw [List.take_succ_cons, ln_cons]
      by_cases hc : c = 10
      · obtain ⟨p, h1, h2, h3⟩ := ih (off + 1) 0 a ha
        refine ⟨p, ?_, ?_, ?_⟩
        · simp [lns, hc, h1]
        · simp only [co, hc, if_true]; split at h2 <;> omega
        · simp only [co, hc, if_true]; split at h3 <;> simp <;> omega
      · obtain ⟨p, h1, h2, h3⟩ := ih (off + 1) (k + 1) a ha
        obtain ⟨t, rest, e⟩ := lns_head r (off + 1)
        simp only [hc, if_false, Nat.add_zero, co]
        by_cases hz : ln (r.take a) = 0
        · rw [hz] at h1 h2 h3 ⊢
          rw [e] at h1
          simp at h1
          subst h1
          refine ⟨(off, c :: t), by simp [lns, hc, e, consTo], ?_, ?_⟩
          · simp at h2 ⊢; omega
          · simp at h3 ⊢; omega
        · refine ⟨p, ?_, by simp [hz] at h2 ⊢; exact h2, by simp [hz] at h3 ⊢; omega⟩
          obtain ⟨n, hn⟩ := Nat.exists_eq_succ_of_ne_zero hz
          rw [hn] at h1 ⊢
          rw [e] at h1
          simpa [lns, hc, e, consTo] using h1

/-- A line and a column: the place. -/
theorem back (l : List UInt8) : ∀ (off k i : Nat) (p : Nat × List UInt8) (j : Nat), (lns off l)[i]? = some p → j ≤ p.2.length →
    off ≤ p.1 ∧ p.1 - off + j ≤ l.length ∧ ln (l.take (p.1 - off + j)) = i ∧ co k (l.take (p.1 - off + j)) = j + (if i = 0 then k else 0) := by
  induction l with
  | nil =>
    intro off k i p j h hj
    cases i with
    | zero => simp [lns] at h; subst h; simp at hj; subst hj; simp [ln, co]
    | succ i => simp [lns] at h
  | cons c r ih =>
    intro off k i p j h hj
    by_cases hc : c = 10
    · simp [lns, hc] at h
      cases i with
      | zero => simp at h; subst h; simp at hj; subst hj; simp [ln, co]
      | succ i =>
        simp at h
        obtain ⟨h1, h2, h3, h4⟩ := ih (off + 1) 0 i p j h hj
        have e : p.1 - off + j = (p.1 - (off + 1) + j) + 1 := by omega
        rw [e, List.take_succ_cons, ln_cons, h3]
        refine ⟨by omega, by simp; omega, by simp [hc], ?_⟩
        simp only [co, hc, if_true, h4]; simp
    · obtain ⟨t, rest, e⟩ := lns_head r (off + 1)
      simp [lns, hc, e, consTo] at h
      cases i with
      | zero =>
        simp at h; subst h
        simp at hj
        cases j with
        | zero => simp [ln, co]
        | succ j =>
          obtain ⟨h1, h2, h3, h4⟩ := ih (off + 1) (k + 1) 0 (off + 1, t) j (by simp [e]) (by simpa using hj)
          simp at h2 h3 h4
          have e : off - off + (j + 1) = j + 1 := by omega
          simp only [e, List.take_succ_cons, ln_cons, h3, hc]
          refine ⟨Nat.le_refl _, by simp; omega, by simp, ?_⟩
          simp only [co, hc, if_false, h4]; simp; omega
      | succ i =>
        simp at h
        obtain ⟨h1, h2, h3, h4⟩ := ih (off + 1) (k + 1) (i + 1) p j (by simp [e, h]) hj
        have e : p.1 - off + j = (p.1 - (off + 1) + j) + 1 := by omega
        rw [e, List.take_succ_cons, ln_cons, h3]
        refine ⟨by omega, by simp; omega, by simp [hc], ?_⟩
        simp only [co, hc, if_false, h4]; simp

/-- A line is the bytes of the text where it stands. -/
theorem text (l : List UInt8) : ∀ (off i : Nat) (p : Nat × List UInt8), (lns off l)[i]? = some p →
    off ≤ p.1 ∧ p.1 - off + p.2.length ≤ l.length ∧ p.2 = (l.drop (p.1 - off)).take p.2.length ∧
    (i + 1 = (lns off l).length → p.1 - off + p.2.length = l.length) ∧
    (∀ q, (lns off l)[i + 1]? = some q → q.1 = p.1 + p.2.length + 1) := by
  induction l with
  | nil =>
    intro off i p h
    cases i with
    | zero => simp [lns] at h; subst h; simp [lns]
    | succ i => simp [lns] at h
  | cons c r ih =>
    intro off i p h
    obtain ⟨t, rest, e⟩ := lns_head r (off + 1)
    by_cases hc : c = 10
    · simp [lns, hc] at h ⊢
      cases i with
      | zero =>
        simp at h; subst h
        simp [e]
      | succ i =>
        simp at h
        obtain ⟨h1, h2, h3, h4, h5⟩ := ih (off + 1) i p h
        have e' : p.1 - off = (p.1 - (off + 1)) + 1 := by omega
        refine ⟨by omega, by omega, ?_, fun hh => ?_, fun a b hq => ?_⟩
        · rw [e', List.drop_succ_cons]; exact h3
        · have := h4 (by omega); omega
        · exact h5 (a, b) (by simpa using hq)
    · simp [lns, hc, e, consTo] at h ⊢
      cases i with
      | zero =>
        simp at h; subst h
        obtain ⟨h1, h2, h3, h4, h5⟩ := ih (off + 1) 0 (off + 1, t) (by simp [e])
        simp at h2 h3 h4 h5
        refine ⟨Nat.le_refl _, by simp; omega, by simp; exact h3, fun hh => ?_, fun a b hq => ?_⟩
        · have := h4 (by simp [e]; exact List.eq_nil_of_length_eq_zero (by omega)); simp; omega
        · have := h5 a b (by simpa [e] using hq); simp; omega
      | succ i =>
        simp at h
        obtain ⟨h1, h2, h3, h4, h5⟩ := ih (off + 1) (i + 1) p (by simp [e, h])
        have e' : p.1 - off = (p.1 - (off + 1)) + 1 := by omega
        refine ⟨by omega, by omega, ?_, fun hh => ?_, fun a b hq => ?_⟩
        · rw [e', List.drop_succ_cons]; exact h3
        · have := h4 (by simp [e]; omega); omega
        · exact h5 (a, b) (by simpa [e] using hq)

/-- a byte more behind the text -/
theorem lns_snoc_lf (l : List UInt8) : ∀ off, lns off (l ++ [10]) = lns off l ++ [(off + l.length + 1, [])] := by
  induction l with
  | nil => intro off; simp [lns]
  | cons c r ih =>
    intro off
    simp only [List.cons_append, lns, ih]
    obtain ⟨t, rest, e⟩ := lns_head r (off + 1)
    split
    · simp; omega
    · simp [e, consTo]; omega

def addLast (c : UInt8) : List (Nat × List UInt8) → List (Nat × List UInt8)
  | [] => []
  | [(a, t)] => [(a, t ++ [c])]
  | p :: q :: rest => p :: addLast c (q :: rest)

theorem addLast_length (c : UInt8) : ∀ l, (addLast c l).length = l.length
  | [] => rfl
  | [(_, _)] => rfl
  | _ :: q :: rest => by simp [addLast, addLast_length c (q :: rest)]

theorem addLast_eq (c : UInt8) : ∀ (l : List (Nat × List UInt8)) (a : Nat × List UInt8), addLast c (l ++ [a]) = l ++ [(a.1, a.2 ++ [c])]
  | [], _ => rfl
  | [_], _ => rfl
  | _ :: q :: rest, a => by simp only [List.cons_append, addLast]; rw [← List.cons_append, addLast_eq c (q :: rest) a]; simp

theorem lns_snoc (l : List UInt8) (c : UInt8) (hc : c ≠ 10) : ∀ off, lns off (l ++ [c]) = addLast c (lns off l) := by
  induction l with
  | nil => intro off; simp [lns, hc, consTo, addLast]
  | cons d r ih =>
    intro off
    simp only [List.cons_append, lns, ih]
    obtain ⟨t, rest, e⟩ := lns_head r (off + 1)
    split
    · rw [e]; simp [addLast]
    · rw [e]; cases rest <;> simp [addLast, consTo]

/-- how the iterator goes: a line feed is behind a -/
theorem lns_step (a r : List UInt8) (ha : (10 : UInt8) ∉ a) : ∀ off, lns off (a ++ 10 :: r) = (off, a) :: lns (off + a.length + 1) r := by
  induction a with
  | nil => intro off; simp [lns]
  | cons d a ih =>
    intro off
    have hd : d ≠ 10 := fun h => ha (by simp [h])
    simp only [List.cons_append, lns, hd, if_false]
    rw [ih (fun h => ha (by simp [h])), show off + 1 + a.length + 1 = off + (d :: a).length + 1 from by simp; omega]
    rfl

theorem lns_last (a : List UInt8) (ha : (10 : UInt8) ∉ a) : ∀ off, lns off a = [(off, a)] := by
  induction a with
  | nil => intro off; rfl
  | cons d a ih =>
    intro off
    have hd : d ≠ 10 := fun h => ha (by simp [h])
    simp only [lns, hd, if_false]
    rw [ih (fun h => ha (by simp [h]))]
    rfl

end Go.Proofs.Ythmeneklccngeaa.TextMath
