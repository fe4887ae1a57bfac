/- Plain facts on what a text is behind edits, from the first one on and from the last one on, and on the list that leads back. Nothing of any program. -/
import Derived.Test.YtfkpnfhhmldodaaEditMath
namespace Go.Proofs.Ytfkpnfhhmldodaa.EditMath

/-- the text from a place on, behind edits -/
def ap (s : List UInt8) : Nat → List Ed → List UInt8
  | a, [] => s.drop a
  | a, e :: l => (s.drop a).take (e.f.toNat - a) ++ (e.s.data.toList ++ ap s e.t.toNat l)

/-- what is written behind some edits, and the place up to which the text has gone -/
def step (s : List UInt8) (st : List UInt8 × Nat) (e : Ed) : List UInt8 × Nat := (st.1 ++ (s.drop st.2).take (e.f.toNat - st.2) ++ e.s.data.toList, e.t.toNat)
def run (s : List UInt8) (l : List Ed) : List UInt8 × Nat := l.foldl (step s) ([], 0)

theorem run_snoc (s : List UInt8) {l : List Ed} {k : Nat} {e : Ed} (h : l[k]? = some e) : run s (l.take (k + 1)) = step s (run s (l.take k)) e := by
  rw [take_snoc h]; unfold run; rw [List.foldl_append]; rfl

theorem fold_ap (s : List UInt8) : ∀ (l : List Ed) (acc : List UInt8) (a : Nat), (l.foldl (step s) (acc, a)).1 ++ s.drop (l.foldl (step s) (acc, a)).2 = acc ++ ap s a l := by
  intro l
  induction l with
  | nil => intro acc a; rfl
  | cons e l ih => intro acc a; simp only [List.foldl_cons, step]; rw [ih]; simp [ap, List.append_assoc]

theorem run_ap (s : List UInt8) (l : List Ed) : (run s l).1 ++ s.drop (run s l).2 = ap s 0 l := by
  unfold run; rw [fold_ap]; rfl

/-- one edit put into a text -/
def put (e : Ed) (s : List UInt8) : List UInt8 := s.take e.f.toNat ++ (e.s.data.toList ++ s.drop e.t.toNat)
/-- the edits from number k on, put in from the last one on -/
def bk (s : List UInt8) (l : List Ed) (k : Nat) : List UInt8 := (l.drop k).foldr put s

theorem bk_step (s : List UInt8) {l : List Ed} {k : Nat} {e : Ed} (h : l[k]? = some e) : bk s l k = put e (bk s l (k + 1)) := by
  unfold bk
  have hl := (List.getElem?_eq_some_iff.1 h).1
  rw [List.drop_eq_getElem_cons hl, List.foldr_cons, (List.getElem?_eq_some_iff.1 h).2]

theorem bk_all (s : List UInt8) (l : List Ed) : bk s l l.length = s := by unfold bk; simp

/-- from the last one on is from the first one on -/
theorem put_ap (s : List UInt8) : ∀ (l : List Ed) (a : Nat) (size : Int), rt l size = true → size = s.length → a ≤ s.length → (∀ e, l[0]? = some e → (a : Int) ≤ e.f) → l.foldr put s = s.take a ++ ap s a l := by
  intro l
  induction l with
  | nil => intro a size _ _ _ _; simp [ap]
  | cons e l ih =>
    intro a size h hs ha hf
    obtain ⟨h0, h1, h2⟩ := rt_parts h
    obtain ⟨e0, e1, e2⟩ := h1 0 e rfl
    have hae := hf e rfl
    have hx := ih e.t.toNat size (rt_tail h) hs (by omega) (fun y hy => by
      match l, hy with
      | z :: l, hy => simp at hy; subst hy; have := (h2 0 e z rfl rfl).1; omega)
    rw [List.foldr_cons, hx]
    have l1 : (s.take e.t.toNat).length = e.t.toNat := by rw [List.length_take]; omega
    unfold put
    rw [List.take_append_of_le_length (by omega), List.take_take, Nat.min_eq_left (by omega), List.drop_append_of_le_length (by omega)]
    rw [List.drop_of_length_le (by omega), List.nil_append]
    have l2 : s.take e.f.toNat = s.take a ++ (s.drop a).take (e.f.toNat - a) := by
      rw [show e.f.toNat = a + (e.f.toNat - a) from by omega, List.take_add, show a + (e.f.toNat - a) - a = e.f.toNat - a from by omega]
    rw [l2]
    simp only [ap, List.append_assoc]

theorem bk_ap (s : List UInt8) (l : List Ed) (size : Int) (h : rt l size = true) (hs : size = s.length) : bk s l 0 = ap s 0 l := by
  have := put_ap s l 0 size h hs (Nat.zero_le _) (fun e he => by
    have := ((rt_parts h).2.1 0 e he).1
    simpa using this)
  unfold bk
  simpa using this

/-- the lengths on the way -/
theorem ap_length (s : List UInt8) : ∀ (l : List Ed) (a : Nat) (size : Int), rt l size = true → size = s.length → a ≤ s.length → (∀ e, l[0]? = some e → (a : Int) ≤ e.f) → ((ap s a l).length : Int) = s.length - a + gr l := by
  intro l
  induction l with
  | nil => intro a size _ _ ha _; simp [ap, gr]; omega
  | cons e l ih =>
    intro a size h hs ha hf
    obtain ⟨h0, h1, h2⟩ := rt_parts h
    obtain ⟨e0, e1, e2⟩ := h1 0 e rfl
    have hae := hf e rfl
    have hx := ih e.t.toNat size (rt_tail h) hs (by omega) (fun y hy => by
      match l, hy with
      | z :: l, hy => simp at hy; subst hy; have := (h2 0 e z rfl rfl).1; omega)
    have hsz : e.s.data.toList.length = e.s.size := rfl
    simp only [ap, List.length_append, List.length_take, List.length_drop, gr, gr1, hsz]
    omega

/-- what is written on the way is no longer than all -/
theorem run_bounds (s : List UInt8) (l : List Ed) (size : Int) (h : rt l size = true) (hs : size = s.length) (k : Nat) : (run s (l.take k)).2 ≤ s.length ∧ ((run s (l.take k)).1.length : Int) = (run s (l.take k)).2 + gr (l.take k) ∧
    (∀ e, l[k]? = some e → ((run s (l.take k)).2 : Int) ≤ e.f) := by
  have hp : ∀ (i : Nat), i ≤ l.length → (run s (l.take i)).2 ≤ s.length ∧ ((run s (l.take i)).1.length : Int) = (run s (l.take i)).2 + gr (l.take i) ∧ (∀ e, l[i]? = some e → ((run s (l.take i)).2 : Int) ≤ e.f) := by
    intro i
    induction i with
    | zero =>
      intro _
      refine ⟨by simp [run], by simp [run, gr], fun e he => ?_⟩
      have := ((rt_parts h).2.1 0 e he).1
      simpa [run] using this
    | succ i ih =>
      intro hi
      obtain ⟨a, b, c⟩ := ih (by omega)
      have he : l[i]? = some l[i] := List.getElem?_eq_getElem (by omega)
      generalize l[i] = e at he
      obtain ⟨e0, e1, e2⟩ := (rt_parts h).2.1 i e he
      have hc := c e he
      rw [run_snoc s he, gr_snoc he]
      have hsz : e.s.data.toList.length = e.s.size := rfl
      refine ⟨by simp only [step]; omega, by simp only [step, List.length_append, List.length_take, List.length_drop, gr1, hsz]; omega, fun d hd => ?_⟩
      have := ((rt_parts h).2.2 i e d he hd).1
      simp only [step]; omega
  by_cases hk : k ≤ l.length
  · exact hp k hk
  · have := hp l.length (Nat.le_refl _)
    rw [List.take_length] at this
    rw [List.take_of_length_le (by omega)]
    refine ⟨this.1, this.2.1, fun e he => ?_⟩
    rw [List.getElem?_eq_none (by omega)] at he
    cases he

end Go.Proofs.Ytfkpnfhhmldodaa.EditMath
