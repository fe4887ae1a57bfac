/- Plain facts on lists of edits: which are right, which plain, by how much a text grows. Nothing of any program. -/
namespace Go.Proofs.Ytfkpnfhhmldodaa.EditMath

/-- an edit: where it begins, where it ends, what it puts there -/
structure Ed where
  f : Int
  t : Int
  s : ByteArray

def wi (size : Int) (e : Ed) : Bool := decide (0 ≤ e.f) && (decide (e.f ≤ e.t) && decide (e.t ≤ size))
def nx (a b : Ed) : Bool := decide (a.t ≤ b.f) && decide (a.f < b.f)
def tch (a b : Ed) : Bool := decide (a.t = b.f)
def idl (e : Ed) : Bool := decide (e.f = e.t) && decide (e.s.size = 0)

def each (r : Ed → Ed → Bool) : List Ed → Bool
  | a :: b :: l => r a b && each r (b :: l)
  | _ => true

/-- right for a size -/
def rt (l : List Ed) (size : Int) : Bool := decide (0 ≤ size) && (l.all (wi size) && each nx l)
/-- plain for a size -/
def pl (l : List Ed) (size : Int) : Bool := rt l size && (!l.any idl && each (fun a b => !tch a b) l)

def gr1 (e : Ed) : Int := (e.s.size : Int) - (e.t - e.f)
def gr : List Ed → Int
  | [] => 0
  | e :: l => gr1 e + gr l
/-- the bytes that the edits bring -/
def tx : List Ed → Int
  | [] => 0
  | e :: l => (e.s.size : Int) + tx l

theorem each_at {r : Ed → Ed → Bool} : ∀ {l : List Ed}, each r l = true → ∀ {i : Nat} {a b : Ed}, l[i]? = some a → l[i + 1]? = some b → r a b = true := by
  intro l
  induction l with
  | nil => intro _ i a b h; simp at h
  | cons x l ih =>
    intro h i a b ha hb
    match l, i with
    | [], i => simp at hb
    | y :: l, 0 =>
      simp at ha hb; subst ha hb
      simp [each] at h; exact h.1
    | y :: l, i + 1 =>
      simp [each] at h
      exact ih h.2 (i := i) (by simpa using ha) (by simpa using hb)

theorem each_mk {r : Ed → Ed → Bool} : ∀ {l : List Ed}, (∀ (i : Nat) (a b : Ed), l[i]? = some a → l[i + 1]? = some b → r a b = true) → each r l = true := by
  intro l
  induction l with
  | nil => intro _; rfl
  | cons x l ih =>
    intro h
    match l with
    | [] => rfl
    | y :: l =>
      simp only [each, Bool.and_eq_true]
      refine ⟨h 0 x y rfl rfl, ih fun i a b ha hb => h (i + 1) a b (by simpa using ha) (by simpa using hb)⟩

theorem each_no {r : Ed → Ed → Bool} {l : List Ed} {i : Nat} {a b : Ed} (ha : l[i]? = some a) (hb : l[i + 1]? = some b) (h : r a b = false) : each r l = false := by
  cases e : each r l with
  | false => rfl
  | true => rw [each_at e ha hb] at h; cases h

theorem all_at {p : Ed → Bool} {l : List Ed} (h : l.all p = true) {i : Nat} {e : Ed} (he : l[i]? = some e) : p e = true := by
  rw [List.all_eq_true] at h
  exact h e (List.mem_of_getElem? he)

theorem all_mk {p : Ed → Bool} {l : List Ed} (h : ∀ (i : Nat) (e : Ed), l[i]? = some e → p e = true) : l.all p = true := by
  rw [List.all_eq_true]
  intro x hx
  obtain ⟨i, hi⟩ := List.getElem?_of_mem hx
  exact h i x hi

theorem all_no {p : Ed → Bool} {l : List Ed} {i : Nat} {e : Ed} (he : l[i]? = some e) (h : p e = false) : l.all p = false := by
  cases k : l.all p with
  | false => rfl
  | true => rw [all_at k he] at h; cases h

theorem any_not_all (p : Ed → Bool) (l : List Ed) : l.any (fun e => !p e) = !l.all p := by
  induction l with
  | nil => rfl
  | cons x l ih => simp only [List.any_cons, List.all_cons, ih, Bool.not_and]

theorem any_no {p : Ed → Bool} {l : List Ed} (h : ∀ (i : Nat) (e : Ed), l[i]? = some e → p e = false) : l.any p = false := by
  rw [List.any_eq_false]
  intro x hx
  obtain ⟨i, hi⟩ := List.getElem?_of_mem hx
  simp [h i x hi]

theorem any_yes {p : Ed → Bool} {l : List Ed} {i : Nat} {e : Ed} (he : l[i]? = some e) (h : p e = true) : l.any p = true := by
  rw [List.any_eq_true]
  exact ⟨e, List.mem_of_getElem? he, h⟩

theorem wi_iff {size : Int} {e : Ed} : wi size e = true ↔ 0 ≤ e.f ∧ e.f ≤ e.t ∧ e.t ≤ size := by simp [wi]
theorem nx_iff {a b : Ed} : nx a b = true ↔ a.t ≤ b.f ∧ a.f < b.f := by simp [nx]

/-- what a right list has -/
theorem rt_parts {l : List Ed} {size : Int} (h : rt l size = true) : 0 ≤ size ∧ (∀ (i : Nat) (e : Ed), l[i]? = some e → 0 ≤ e.f ∧ e.f ≤ e.t ∧ e.t ≤ size) ∧
    (∀ (i : Nat) (a b : Ed), l[i]? = some a → l[i + 1]? = some b → a.t ≤ b.f ∧ a.f < b.f) := by
  simp only [rt, Bool.and_eq_true, decide_eq_true_eq] at h
  exact ⟨h.1, fun i e he => wi_iff.1 (all_at h.2.1 he), fun i a b ha hb => nx_iff.1 (each_at h.2.2 ha hb)⟩

theorem rt_mk {l : List Ed} {size : Int} (h0 : 0 ≤ size) (h1 : ∀ (i : Nat) (e : Ed), l[i]? = some e → 0 ≤ e.f ∧ e.f ≤ e.t ∧ e.t ≤ size)
    (h2 : ∀ (i : Nat) (a b : Ed), l[i]? = some a → l[i + 1]? = some b → a.t ≤ b.f ∧ a.f < b.f) : rt l size = true := by
  simp only [rt, Bool.and_eq_true, decide_eq_true_eq]
  exact ⟨h0, all_mk fun i e he => wi_iff.2 (h1 i e he), each_mk fun i a b ha hb => nx_iff.2 (h2 i a b ha hb)⟩

theorem rt_tail {e : Ed} {l : List Ed} {size : Int} (h : rt (e :: l) size = true) : rt l size = true := by
  obtain ⟨h0, h1, h2⟩ := rt_parts h
  exact rt_mk h0 (fun i x hx => h1 (i + 1) x (by simpa using hx)) (fun i a b ha hb => h2 (i + 1) a b (by simpa using ha) (by simpa using hb))

theorem rt_take {l : List Ed} {size : Int} (h : rt l size = true) (k : Nat) : rt (l.take k) size = true := by
  obtain ⟨h0, h1, h2⟩ := rt_parts h
  have key : ∀ (i : Nat) (e : Ed), (l.take k)[i]? = some e → l[i]? = some e := by
    intro i e he
    rw [List.getElem?_take] at he
    split at he
    · exact he
    · cases he
  exact rt_mk h0 (fun i x hx => h1 i x (key i x hx)) (fun i a b ha hb => h2 i a b (key i a ha) (key (i + 1) b hb))

theorem gr_append (a b : List Ed) : gr (a ++ b) = gr a + gr b := by
  induction a with
  | nil => simp [gr]
  | cons x a ih => simp only [List.cons_append, gr, ih]; omega

theorem tx_append (a b : List Ed) : tx (a ++ b) = tx a + tx b := by
  induction a with
  | nil => simp [tx]
  | cons x a ih => simp only [List.cons_append, tx, ih]; omega

theorem tx_nonneg (l : List Ed) : 0 ≤ tx l := by
  induction l with
  | nil => simp [tx]
  | cons x l ih => simp only [tx]; omega

theorem take_snoc {l : List Ed} {k : Nat} {e : Ed} (h : l[k]? = some e) : l.take (k + 1) = l.take k ++ [e] := by
  rw [List.take_add_one, h]; rfl

theorem gr_snoc {l : List Ed} {k : Nat} {e : Ed} (h : l[k]? = some e) : gr (l.take (k + 1)) = gr (l.take k) + gr1 e := by
  rw [take_snoc h, gr_append]; simp [gr]

theorem tx_snoc {l : List Ed} {k : Nat} {e : Ed} (h : l[k]? = some e) : tx (l.take (k + 1)) = tx (l.take k) + e.s.size := by
  rw [take_snoc h, tx_append]; simp [tx]

theorem tx_take_le (l : List Ed) (k : Nat) : tx (l.take k) ≤ tx l := by
  have h : l = l.take k ++ l.drop k := (List.take_append_drop k l).symm
  have h2 := congrArg tx h
  rw [tx_append] at h2
  have := tx_nonneg (l.drop k)
  omega

/-- by how much a text grows, held by the first edit's beginning -/
theorem gr_bounds : ∀ {l : List Ed} {size : Int}, rt l size = true → gr l ≤ tx l ∧ tx l - size ≤ gr l ∧ ∀ (e : Ed), l[0]? = some e → tx l - (size - e.f) ≤ gr l := by
  intro l
  induction l with
  | nil => intro size h; have := (rt_parts h).1; simp [gr, tx]; omega
  | cons x l ih =>
    intro size h
    obtain ⟨h0, h1, h2⟩ := rt_parts h
    obtain ⟨a, b, c⟩ := ih (rt_tail h)
    obtain ⟨x1, x2, x3⟩ := h1 0 x rfl
    have key : tx (x :: l) - (size - x.f) ≤ gr (x :: l) := by
      simp only [gr, tx, gr1]
      match l with
      | [] => simp only [gr, tx]; omega
      | y :: l =>
        have := (h2 0 x y rfl rfl).1
        have := c y rfl
        omega
    refine ⟨by simp only [gr, tx, gr1]; omega, by omega, fun e he => ?_⟩
    simp at he; subst he; exact key

end Go.Proofs.Ytfkpnfhhmldodaa.EditMath
