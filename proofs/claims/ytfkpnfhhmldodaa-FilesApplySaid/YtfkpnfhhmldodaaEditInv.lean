/- Plain facts on the list that leads back. Nothing of any program. -/
import Derived.Test.YtfkpnfhhmldodaaEditText
namespace Go.Proofs.Ytfkpnfhhmldodaa.EditMath

def iv1 (s : ByteArray) (g : Int) (e : Ed) : Ed := ⟨e.f + g, e.f + g + e.s.size, s.extract e.f.toNat e.t.toNat⟩
def iv (s : ByteArray) : Int → List Ed → List Ed
  | _, [] => []
  | g, e :: l => iv1 s g e :: iv s (g + gr1 e) l
/-- no two that follow one another begin at one place -/
def nodup (l : List Ed) : Bool := each (fun a b => !decide (a.f = b.f)) l

theorem iv_append (s : ByteArray) : ∀ (a b : List Ed) (g : Int), iv s g (a ++ b) = iv s g a ++ iv s (g + gr a) b := by
  intro a
  induction a with
  | nil => intro b g; simp [iv, gr]
  | cons x a ih => intro b g; simp only [List.cons_append, iv, ih, gr, Int.add_assoc]

theorem iv_length (s : ByteArray) : ∀ (l : List Ed) (g : Int), (iv s g l).length = l.length := by
  intro l
  induction l with
  | nil => intro g; rfl
  | cons x l ih => intro g; simp [iv, ih]

theorem iv_snoc (s : ByteArray) {l : List Ed} {k : Nat} {e : Ed} (h : l[k]? = some e) : iv s 0 (l.take (k + 1)) = iv s 0 (l.take k) ++ [iv1 s (gr (l.take k)) e] := by
  rw [take_snoc h, iv_append]; simp [iv]

theorem iv_at (s : ByteArray) : ∀ (l : List Ed) (g : Int) (k : Nat) (e : Ed), l[k]? = some e → (iv s g l)[k]? = some (iv1 s (g + gr (l.take k)) e) := by
  intro l
  induction l with
  | nil => intro g k e h; simp at h
  | cons x l ih =>
    intro g k e h
    cases k with
    | zero => simp at h; subst h; simp [iv, gr]
    | succ k =>
      simp at h
      have := ih (g + gr1 x) k e h
      simp only [iv, List.getElem?_cons_succ, this, List.take_succ_cons, gr, Int.add_assoc]

theorem iv_back (s : ByteArray) {l : List Ed} {g : Int} {k : Nat} {d : Ed} (h : (iv s g l)[k]? = some d) : ∃ e, l[k]? = some e ∧ d = iv1 s (g + gr (l.take k)) e := by
  have hl : k < l.length := by rw [← iv_length s l g]; exact (List.getElem?_eq_some_iff.1 h).1
  have he : l[k]? = some l[k] := List.getElem?_eq_getElem hl
  refine ⟨l[k], he, ?_⟩
  rw [iv_at s l g k _ he] at h
  injection h with h
  exact h.symm

theorem rt_drop {l : List Ed} {size : Int} (h : rt l size = true) (k : Nat) : rt (l.drop k) size = true := by
  obtain ⟨h0, h1, h2⟩ := rt_parts h
  exact rt_mk h0 (fun i x hx => h1 (k + i) x (by rw [List.getElem?_drop] at hx; exact hx)) (fun i a b ha hb => h2 (k + i) a b (by rw [List.getElem?_drop] at ha; exact ha) (by rw [List.getElem?_drop] at hb; rw [← hb]; congr 1))

/-- the edits ahead of one are right for its beginning -/
theorem rt_ahead {l : List Ed} {size : Int} (h : rt l size = true) : ∀ (k : Nat) (e : Ed), l[k]? = some e → rt (l.take k) e.f = true := by
  obtain ⟨h0, h1, h2⟩ := rt_parts h
  intro k
  induction k with
  | zero => intro e he; have := h1 0 e he; simp [rt, each]; omega
  | succ k ih =>
    intro e he
    have hk : k < l.length := by have := (List.getElem?_eq_some_iff.1 he).1; omega
    have hd : l[k]? = some l[k] := List.getElem?_eq_getElem hk
    generalize l[k] = d at hd
    have hr := ih d hd
    obtain ⟨q1, q2⟩ := h2 k d e hd he
    obtain ⟨p1, p2, p3⟩ := h1 k d hd
    obtain ⟨r0, r1, r2⟩ := rt_parts hr
    have key : ∀ (i : Nat) (x : Ed), (l.take (k + 1))[i]? = some x → (i = k ∧ x = d) ∨ (l.take k)[i]? = some x := by
      intro i x hx
      rw [take_snoc hd] at hx
      have hlen : (l.take k).length = k := by rw [List.length_take]; omega
      by_cases hi : i < k
      · rw [List.getElem?_append_left (by omega)] at hx; exact .inr hx
      · rw [List.getElem?_append_right (by omega), hlen] at hx
        have : i - k = 0 := by
          rcases Nat.eq_zero_or_pos (i - k) with h0 | h0
          · exact h0
          · rw [List.getElem?_eq_none (by simp; omega)] at hx; cases hx
        rw [this] at hx
        simp at hx
        exact .inl ⟨by omega, hx.symm⟩
    refine rt_mk (by omega) (fun i x hx => ?_) (fun i a b ha hb => ?_)
    · rcases key i x hx with ⟨_, rfl⟩ | hx
      · omega
      · have := r1 i x hx; omega
    · have hl : ∀ (j : Nat) (x : Ed), (l.take (k + 1))[j]? = some x → l[j]? = some x := by
        intro j x hx
        rw [List.getElem?_take] at hx
        split at hx
        · exact hx
        · cases hx
      exact h2 i a b (hl i a ha) (hl (i + 1) b hb)

/-- where the one that leads back stands -/
theorem iv_place {l : List Ed} {size : Int} (h : rt l size = true) {k : Nat} {e : Ed} (he : l[k]? = some e) : 0 ≤ e.f + gr (l.take k) ∧ e.t + gr (l.take (k + 1)) ≤ size + gr l ∧ e.f + gr (l.take k) + e.s.size = e.t + gr (l.take (k + 1)) := by
  have h1 := gr_bounds (rt_ahead h k e he)
  have h2 := tx_nonneg (l.take k)
  have h3 := gr_snoc he
  have h4 : gr l = gr (l.take (k + 1)) + gr (l.drop (k + 1)) := by rw [← gr_append, List.take_append_drop]
  have h5 := gr_bounds (rt_drop h (k + 1))
  have h6 := tx_nonneg (l.drop (k + 1))
  have p := (rt_parts h).2.1 k e he
  refine ⟨by omega, ?_, by rw [h3]; unfold gr1; omega⟩
  cases hd : (l.drop (k + 1))[0]? with
  | none =>
    have : l.drop (k + 1) = [] := by
      cases hz : l.drop (k + 1) with
      | nil => rfl
      | cons x r => rw [hz] at hd; simp at hd
    rw [h4, this]; simp only [gr]; omega
  | some y =>
    have q := h5.2.2 y hd
    rw [List.getElem?_drop] at hd
    have q2 := ((rt_parts h).2.2 k e y he hd).1
    rw [h4]; omega

/-- the list that leads back is right just where no two begin at one place -/
theorem iv_right (s : ByteArray) {l : List Ed} {size : Int} (h : rt l size = true) : rt (iv s 0 l) (size + gr l) = nodup (iv s 0 l) := by
  have hb := gr_bounds h
  have htx := tx_nonneg l
  rw [Bool.eq_iff_iff]
  constructor
  · intro hr
    refine each_mk fun i a b ha hb => ?_
    have := (rt_parts hr).2.2 i a b ha hb
    simp; omega
  · intro hn
    refine rt_mk (by omega) (fun i d hd => ?_) (fun i a b ha hb => ?_)
    · obtain ⟨e, he, rfl⟩ := iv_back s hd
      have := iv_place h he
      simp only [iv1, Int.zero_add]
      omega
    · have hne := each_at hn ha hb
      obtain ⟨d, hd, rfl⟩ := iv_back s ha
      obtain ⟨e, he, rfl⟩ := iv_back s hb
      simp only [iv1, Int.zero_add] at hne ⊢
      have p1 := iv_place h hd
      have p2 := (rt_parts h).2.2 i d e hd he
      have p3 := (rt_parts h).2.1 i d hd
      simp at hne
      omega

theorem nodup_no {l : List Ed} {i : Nat} {a b : Ed} (ha : l[i]? = some a) (hb : l[i + 1]? = some b) (h : a.f = b.f) : nodup l = false := each_no ha hb (by simp [h])

theorem nodup_snoc {l : List Ed} {k : Nat} {d e : Ed} (hl : l.length = k + 1) (hd : l[k]? = some d) (h : nodup l = true) (hne : d.f ≠ e.f) : nodup (l ++ [e]) = true := by
  refine each_mk fun i a b ha hb => ?_
  by_cases hi : i + 1 < l.length
  · rw [List.getElem?_append_left (by omega)] at ha
    rw [List.getElem?_append_left hi] at hb
    exact each_at h ha hb
  · rw [List.getElem?_append_right (by omega)] at hb
    have h0 : i + 1 - l.length = 0 := by
      rcases Nat.eq_zero_or_pos (i + 1 - l.length) with h0 | h0
      · exact h0
      · rw [List.getElem?_eq_none (by simp; omega)] at hb; cases hb
    rw [h0] at hb
    simp at hb
    subst hb
    obtain rfl : i = k := by omega
    rw [List.getElem?_append_left (by omega), hd] at ha
    injection ha with ha
    subst ha
    simp [hne]

end Go.Proofs.Ytfkpnfhhmldodaa.EditMath
