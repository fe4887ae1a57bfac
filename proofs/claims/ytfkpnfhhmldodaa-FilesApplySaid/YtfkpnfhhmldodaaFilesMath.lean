/- Files and workspaces, plainly: which names are right, where a file stands, which workspaces are right. -/
namespace FilesMath

/-- a file: its name and its text -/
structure Fl where
  n : ByteArray
  t : ByteArray

/-- may a byte stand in a name? -/
def okb (u : UInt8) : Bool := (decide (97 ≤ u.toNat) && decide (u.toNat ≤ 122)) || (decide (65 ≤ u.toNat) && decide (u.toNat ≤ 90)) || (decide (48 ≤ u.toNat) && decide (u.toNat ≤ 57)) || decide (u.toNat = 46) || decide (u.toNat = 45) || decide (u.toNat = 95)
/-- is it a file's name? -/
def title (s : ByteArray) : Bool := decide (1 ≤ s.size) && decide (s.size ≤ 40) && s.data.toList.all okb
/-- where a file of that name stands -/
def plc (l : List Fl) (n : ByteArray) : Option Nat := l.findIdx? fun f => decide (f.n = n)
/-- the same as a number: -1 if it isn't there -/
def plcI (l : List Fl) (n : ByteArray) : Int := match plc l n with | some i => (i : Int) | none => -1
/-- may this file stand behind those ahead of it? -/
def okAt (l : List Fl) (i : Nat) (f : Fl) : Prop := title f.n = true ∧ f.t.size ≤ 4000 ∧ plc (l.take i) f.n = none
def Rgt (l : List Fl) : Prop := 1 ≤ l.length ∧ l.length ≤ 8 ∧ ∀ (i : Nat) (f : Fl), l[i]? = some f → okAt l i f
open Classical in
/-- is a workspace right? -/
noncomputable def rgt (l : List Fl) : Bool := decide (Rgt l)
/-- all bytes of all texts -/
def sz : List Fl → Int
  | [] => 0
  | f :: l => (f.t.size : Int) + sz l

theorem rgt_iff {l : List Fl} : rgt l = true ↔ Rgt l := by simp [rgt]
theorem rgt_yes {l : List Fl} (h : Rgt l) : rgt l = true := rgt_iff.2 h
theorem rgt_no {l : List Fl} (h : ¬ Rgt l) : rgt l = false := by
  cases e : rgt l with
  | false => rfl
  | true => exact absurd (rgt_iff.1 e) h

theorem plc_some {l : List Fl} {n : ByteArray} {i : Nat} (h : plc l n = some i) : ∃ f, l[i]? = some f ∧ f.n = n := by
  obtain ⟨hi, hp, _⟩ := List.findIdx?_eq_some_iff_getElem.1 h
  exact ⟨l[i], List.getElem?_eq_getElem hi, by simpa using hp⟩
theorem plc_hit {l : List Fl} {n : ByteArray} {k : Nat} {f : Fl} (he : l[k]? = some f) (hn : f.n = n) (h : ∀ (i : Nat) (x : Fl), i < k → l[i]? = some x → x.n ≠ n) : plc l n = some k := by
  have hk := (List.getElem?_eq_some_iff.1 he).1
  have hx := (List.getElem?_eq_some_iff.1 he).2
  unfold plc
  rw [List.findIdx?_eq_some_iff_getElem]
  exact ⟨hk, by rw [hx]; simpa using hn, fun j hj => by simpa using h j l[j] hj (List.getElem?_eq_getElem (by omega))⟩
theorem plc_miss {l : List Fl} {n : ByteArray} (h : ∀ (i : Nat) (x : Fl), l[i]? = some x → x.n ≠ n) : plc l n = none := by
  unfold plc
  rw [List.findIdx?_eq_none_iff]
  intro x hx
  obtain ⟨i, hi⟩ := List.getElem?_of_mem hx
  simpa using h i x hi
theorem plc_none {l : List Fl} {n : ByteArray} (h : plc l n = none) : ∀ (i : Nat) (x : Fl), l[i]? = some x → x.n ≠ n := by
  unfold plc at h
  rw [List.findIdx?_eq_none_iff] at h
  intro i x hx
  simpa using h x (List.mem_of_getElem? hx)
theorem plcI_hit {l : List Fl} {n : ByteArray} {k : Nat} (h : plc l n = some k) : plcI l n = k := by unfold plcI; rw [h]
theorem plcI_miss {l : List Fl} {n : ByteArray} (h : plc l n = none) : plcI l n = -1 := by unfold plcI; rw [h]
theorem plc_lt {l : List Fl} {n : ByteArray} {k : Nat} (h : plc l n = some k) : k < l.length := by
  obtain ⟨f, hf, _⟩ := plc_some h
  exact (List.getElem?_eq_some_iff.1 hf).1
theorem plcI_cases (l : List Fl) (n : ByteArray) : (plc l n = none ∧ plcI l n = -1) ∨ ∃ k, plc l n = some k ∧ plcI l n = k ∧ k < l.length := by
  cases h : plc l n with
  | none => exact .inl ⟨rfl, plcI_miss h⟩
  | some k => exact .inr ⟨k, rfl, plcI_hit h, plc_lt h⟩
theorem take_get {l : List Fl} {n i : Nat} {x : Fl} (h : (l.take n)[i]? = some x) : l[i]? = some x ∧ i < n := by
  rw [List.getElem?_take] at h
  split at h
  · exact ⟨h, ‹_›⟩
  · cases h
theorem take_mk {l : List Fl} {n i : Nat} {x : Fl} (h : l[i]? = some x) (hi : i < n) : (l.take n)[i]? = some x := by
  rw [List.getElem?_take, if_pos hi]; exact h
/-- a file stands ahead of its place just if its name is there ahead -/
theorem plc_ahead {l : List Fl} {i : Nat} {f : Fl} (h : l[i]? = some f) : (plc (l.take i) f.n = none ↔ ¬ plcI l f.n < i) := by
  constructor
  · intro hn
    rw [plcI_hit (plc_hit h rfl (fun j x hj hx => plc_none hn j x (take_mk hx hj)))]
    omega
  · intro hn
    refine plc_miss fun j x hx => ?_
    obtain ⟨hx, hj⟩ := take_get hx
    intro e
    rcases plcI_cases l f.n with ⟨q, _⟩ | ⟨k, q, q2, _⟩
    · exact plc_none q i f h rfl
    · rw [q2] at hn
      obtain ⟨hk, _, hmin⟩ := List.findIdx?_eq_some_iff_getElem.1 q
      have := hmin j (by omega)
      obtain ⟨hj1, hj2⟩ := List.getElem?_eq_some_iff.1 hx
      rw [hj2] at this
      simp [e] at this
/-- each name of a right workspace stands at one place -/
theorem Rgt.place {l : List Fl} (h : Rgt l) {i : Nat} {f : Fl} (hf : l[i]? = some f) : plc l f.n = some i := by
  have := (h.2.2 i f hf).2.2
  exact plc_hit hf rfl (fun j x hj hx => plc_none this j x (take_mk hx hj))
theorem sz_nonneg (l : List Fl) : 0 ≤ sz l := by
  induction l with
  | nil => simp [sz]
  | cons f l ih => simp only [sz]; omega
theorem sz_append (a b : List Fl) : sz (a ++ b) = sz a + sz b := by
  induction a with
  | nil => simp [sz]
  | cons f l ih => simp only [List.cons_append, sz, ih]; omega
theorem take_snocF {l : List Fl} {k : Nat} {e : Fl} (h : l[k]? = some e) : l.take (k + 1) = l.take k ++ [e] := by
  rw [List.take_add_one, h]; rfl
theorem sz_snoc {l : List Fl} {k : Nat} {e : Fl} (h : l[k]? = some e) : sz (l.take (k + 1)) = sz (l.take k) + e.t.size := by
  rw [take_snocF h, sz_append]; simp [sz]
theorem sz_take_le (l : List Fl) (k : Nat) : sz (l.take k) ≤ sz l := by
  have : sz (l.take k ++ l.drop k) = sz (l.take k) + sz (l.drop k) := sz_append _ _
  rw [List.take_append_drop] at this
  have := sz_nonneg (l.drop k)
  omega
theorem title_of {s : ByteArray} (h1 : 1 ≤ s.size) (h2 : s.size ≤ 40) (h3 : s.data.toList.all okb = true) : title s = true := by simp only [title, Bool.and_eq_true, decide_eq_true_eq]; exact ⟨⟨h1, h2⟩, h3⟩
theorem title_parts {s : ByteArray} (h : title s = true) : 1 ≤ s.size ∧ s.size ≤ 40 ∧ s.data.toList.all okb = true := by simp only [title, Bool.and_eq_true, decide_eq_true_eq] at h; exact ⟨h.1.1, h.1.2, h.2⟩
theorem title_no {s : ByteArray} (h : ¬ (1 ≤ s.size ∧ s.size ≤ 40 ∧ s.data.toList.all okb = true)) : title s = false := by
  cases e : title s with
  | false => rfl
  | true => exact absurd (title_parts e) h
/-- all bytes of all names and texts -/
def tot : List Fl → Int
  | [] => 0
  | f :: l => (f.n.size : Int) + f.t.size + tot l
theorem tot_nonneg (l : List Fl) : 0 ≤ tot l := by
  induction l with
  | nil => simp [tot]
  | cons f l ih => simp only [tot]; omega
theorem tot_append (a b : List Fl) : tot (a ++ b) = tot a + tot b := by
  induction a with
  | nil => simp [tot]
  | cons f l ih => simp only [List.cons_append, tot, ih]; omega
theorem tot_snoc {l : List Fl} {k : Nat} {e : Fl} (h : l[k]? = some e) : tot (l.take (k + 1)) = tot (l.take k) + (e.n.size + e.t.size) := by
  rw [take_snocF h, tot_append]; simp [tot]
theorem tot_at {l : List Fl} {k : Nat} {e : Fl} (h : l[k]? = some e) : (e.n.size : Int) ≤ tot l ∧ (e.t.size : Int) ≤ tot l := by
  induction l generalizing k with
  | nil => simp at h
  | cons f l ih =>
    have := tot_nonneg l
    cases k with
    | zero => simp at h; subst h; simp only [tot]; omega
    | succ k => have := ih (k := k) (by simpa using h); simp only [tot]; omega
theorem sz_le (l : List Fl) : sz l ≤ tot l := by
  induction l with
  | nil => simp [sz, tot]
  | cons f l ih => simp only [sz, tot]; omega
end FilesMath
