/- Plain facts on whence each byte of a text behind edits came. Nothing of any program. -/
import Derived.Test.YtgfafinpcpiogaaShiftMath
namespace Go.Proofs.Ytgfafinpcpiogaa.ShiftMath
open EditMath

def rangeI (a b : Int) : List Int := (List.range (b - a).toNat).map fun i : Nat => a + (i : Int)
def bs (p : Pc) : List Int := if went p = true then rangeI p.f p.t else List.replicate p.s.size (-1)
def tbs (p : Pc) : List UInt8 := if went p = true then List.replicate (p.t - p.f).toNat 46 else p.s.data.toList
def srcOf (L : List Pc) : List Int := L.flatMap bs
def textOf (L : List Pc) : List UInt8 := L.flatMap tbs

theorem rangeI_length (a b : Int) : (rangeI a b).length = (b - a).toNat := by simp [rangeI]
theorem rangeI_get {a b : Int} {i : Nat} (h : i < (b - a).toNat) : (rangeI a b)[i]? = some (a + i) := by simp [rangeI, h]
theorem rangeI_self (a : Int) : rangeI a a = [] := by simp [rangeI]
theorem rangeI_empty {a b : Int} (h : b ≤ a) : rangeI a b = [] := by have : (b - a).toNat = 0 := by omega
                                                                     simp [rangeI, this]
theorem rangeI_snoc {a b : Int} (h : a ≤ b) : rangeI a (b + 1) = rangeI a b ++ [b] := by
  unfold rangeI
  have e : (b + 1 - a).toNat = (b - a).toNat + 1 := by omega
  rw [e, List.range_succ, List.map_append, List.map_cons, List.map_nil]
  congr 2
  omega
theorem rangeI_mem {a b x : Int} : x ∈ rangeI a b ↔ a ≤ x ∧ x < b := by
  simp only [rangeI, List.mem_map, List.mem_range]
  constructor
  · rintro ⟨i, hi, rfl⟩; omega
  · intro h; exact ⟨(x - a).toNat, by omega, by omega⟩
theorem bs_length (p : Pc) : (bs p).length = (tbs p).length := by unfold bs tbs; split <;> simp [rangeI_length]

theorem srcOf_append (L M : List Pc) : srcOf (L ++ M) = srcOf L ++ srcOf M := by simp [srcOf]
theorem textOf_append (L M : List Pc) : textOf (L ++ M) = textOf L ++ textOf M := by simp [textOf]
theorem srcOf_cons (p : Pc) (L : List Pc) : srcOf (p :: L) = bs p ++ srcOf L := by simp [srcOf]
theorem src_text (L : List Pc) : (srcOf L).length = (textOf L).length := by
  induction L with
  | nil => rfl
  | cons p L ih => simp only [srcOf, textOf, List.flatMap_cons, List.length_append] at *; rw [bs_length, ih]

/-- each piece stands where the one ahead of it ends -/
def Pos : Int → List Pc → Prop
  | _, [] => True
  | off, p :: L => p.a = off ∧ Pos (off + (bs p).length) L
theorem Pos.append {off : Int} {L M : List Pc} : Pos off (L ++ M) ↔ Pos off L ∧ Pos (off + (srcOf L).length) M := by
  induction L generalizing off with
  | nil => simp [Pos, srcOf]
  | cons p L ih =>
    simp only [List.cons_append, Pos, srcOf_cons, List.length_append, ih]
    rw [show off + ((bs p).length + (srcOf L).length : Nat) = off + (bs p).length + (srcOf L).length by omega]
    constructor
    · rintro ⟨a, b, c⟩; exact ⟨⟨a, b⟩, c⟩
    · rintro ⟨⟨a, b⟩, c⟩; exact ⟨a, b, c⟩

def Wf (p : Pc) : Prop := (went p = true → 0 ≤ p.f ∧ p.f < p.t) ∧ (went p = false → p.f = 0 ∧ p.t = 0)

theorem em_src {fr sh : Int} {e : Ed} (h : fr ≤ e.f) : srcOf (em fr sh e) = rangeI fr e.f ++ List.replicate e.s.size (-1) ∧ textOf (em fr sh e) = List.replicate (e.f - fr).toNat 46 ++ e.s.data.toList := by
  unfold em
  rw [srcOf_append, textOf_append]
  have w1 : ∀ a b c : Int, went ⟨a, b, c, bnil⟩ = true := fun _ _ _ => rfl
  constructor
  · congr 1
    · split
      · simp [srcOf, bs, w1]
      · rw [rangeI_empty (by omega)]; rfl
    · by_cases hs : e.s.size = 0
      · simp [hs, srcOf]
      · simp [hs, srcOf, bs, went]
  · congr 1
    · split
      · simp [textOf, tbs, w1]
      · rw [show (e.f - fr).toNat = 0 by omega]; rfl
    · by_cases hs : e.s.size = 0
      · have : e.s.data.toList = [] := by apply List.eq_nil_of_length_eq_zero; simpa using hs
        simp [hs, textOf, this]
      · simp [hs, textOf, tbs, went]

theorem em_pos {fr sh : Int} {e : Ed} (h : fr ≤ e.f) : Pos (fr + sh) (em fr sh e) := by
  unfold em
  rw [Pos.append]
  have w1 : ∀ a b c : Int, went ⟨a, b, c, bnil⟩ = true := fun _ _ _ => rfl
  by_cases h1 : fr < e.f
  · rw [if_pos h1]
    refine ⟨⟨rfl, trivial⟩, ?_⟩
    by_cases h2 : e.s.size ≠ 0
    · rw [if_pos h2]
      refine ⟨?_, trivial⟩
      simp only [srcOf, List.flatMap_cons, List.flatMap_nil, List.append_nil, bs, w1, if_true, rangeI_length]
      omega
    · rw [if_neg h2]; trivial
  · rw [if_neg h1]
    refine ⟨trivial, ?_⟩
    by_cases h2 : e.s.size ≠ 0
    · rw [if_pos h2]
      refine ⟨?_, trivial⟩
      simp only [srcOf, List.flatMap_nil, List.length_nil]
      omega
    · rw [if_neg h2]; trivial

theorem em_wf {fr sh : Int} {e : Ed} (h0 : 0 ≤ fr) : ∀ p ∈ em fr sh e, Wf p := by
  intro p hp
  unfold em at hp
  rcases List.mem_append.1 hp with hp | hp
  · split at hp
    · simp at hp; subst hp; exact ⟨fun _ => ⟨h0, by assumption⟩, fun h => by cases h⟩
    · cases hp
  · split at hp
    · rename_i hs; simp at hp; subst hp; exact ⟨fun h => absurd (of_decide_eq_true h) hs, fun _ => ⟨rfl, rfl⟩⟩
    · cases hp

/-- how far a right list has come -/
theorem st_pos {l : List Ed} {size : Int} (h : rt l size = true) : ∀ k, k ≤ l.length → Pos 0 (stOf (l.take k)).out ∧ ((srcOf (stOf (l.take k)).out).length : Int) = (stOf (l.take k)).fr + (stOf (l.take k)).sh ∧
    (∀ p ∈ (stOf (l.take k)).out, Wf p) ∧ 0 ≤ (stOf (l.take k)).fr ∧ (stOf (l.take k)).fr ≤ size ∧ ∀ e, l[k]? = some e → (stOf (l.take k)).fr ≤ e.f := by
  obtain ⟨h0, h1, h2⟩ := rt_parts h
  intro k
  induction k with
  | zero => intro _; simp only [List.take_zero, stOf, List.foldl_nil]; exact ⟨trivial, rfl, (fun p hp => by cases hp), by omega, h0, fun e he => (h1 0 e he).1⟩
  | succ k ih =>
    intro hk
    obtain ⟨a, b, c, d, d2, g⟩ := ih (by omega)
    obtain ⟨e, he⟩ : ∃ e, l[k]? = some e := ⟨l[k], List.getElem?_eq_getElem (by omega)⟩
    have hfe := g e he
    obtain ⟨q1, q2, q3⟩ := h1 k e he
    rw [stOf_take he]
    simp only [stp]
    refine ⟨?_, ?_, ?_, by omega, q3, fun d hd => (h2 k e d he hd).1⟩
    · rw [Pos.append]
      refine ⟨a, ?_⟩
      rw [b, Int.zero_add]
      exact em_pos hfe
    · rw [srcOf_append, (em_src hfe).1]
      simp only [List.length_append, List.length_replicate, rangeI_length, gr1]
      omega
    · intro p hp
      rcases List.mem_append.1 hp with hp | hp
      · exact c p hp
      · exact em_wf d p hp

theorem tail_src {st : St} {size : Int} : srcOf (tailP st size) = rangeI st.fr size ∧ textOf (tailP st size) = List.replicate (size - st.fr).toNat 46 := by
  unfold tailP
  have w1 : ∀ a b c : Int, went ⟨a, b, c, bnil⟩ = true := fun _ _ _ => rfl
  split
  · simp [srcOf, textOf, bs, tbs, w1]
  · rw [rangeI_empty (by omega), show (size - st.fr).toNat = 0 by omega]; exact ⟨rfl, rfl⟩

theorem pcs_pos {l : List Ed} {size : Int} (h : rt l size = true) : Pos 0 (pcs l size) ∧ (∀ p ∈ pcs l size, Wf p) ∧ ((srcOf (pcs l size)).length : Int) = size + gr l := by
  obtain ⟨a, b, c, d, d2, _⟩ := st_pos h l.length (Nat.le_refl _)
  rw [List.take_length] at a b c d d2
  have hsh := stOf_sh l
  unfold pcs
  refine ⟨?_, ?_, ?_⟩
  · rw [Pos.append]
    refine ⟨a, ?_⟩
    rw [b]
    unfold tailP
    split <;> simp [Pos]
  · intro p hp
    rcases List.mem_append.1 hp with hp | hp
    · exact c p hp
    · unfold tailP at hp
      split at hp
      · simp at hp; subst hp; exact ⟨fun _ => ⟨d, by assumption⟩, fun h => by cases h⟩
      · cases hp
  · rw [srcOf_append, tail_src.1, List.length_append, rangeI_length]
    omega

/-- where a byte stands, by the bytes and by the pieces -/
theorem goes_eq {x : Int} (hx : 0 ≤ x) : ∀ (P : List Pc) (off : Int), 0 ≤ off → Pos off P → (∀ p ∈ P, Wf p) →
    match (P.filter went).find? (inP x) with
    | some p => ∃ i : Nat, (srcOf P).findIdx? (fun y => y == x) = some i ∧ off + (i : Int) = x + (p.a - p.f)
    | none => (srcOf P).findIdx? (fun y => y == x) = none := by
  intro P
  induction P with
  | nil => intro off _ _ _; rfl
  | cons p P ih =>
    intro off h0 hP hW
    obtain ⟨ha, hP'⟩ := hP
    have hih := ih _ (by omega) hP' (fun q hq => hW q (List.mem_cons_of_mem _ hq))
    have hwp := hW p (List.mem_cons_self ..)
    rw [srcOf_cons]
    have shift : (bs p).findIdx? (fun y => y == x) = none → inP x p = false ∨ went p = false →
        match ((p :: P).filter went).find? (inP x) with
        | some q => ∃ i : Nat, (bs p ++ srcOf P).findIdx? (fun y => y == x) = some i ∧ off + (i : Int) = x + (q.a - q.f)
        | none => (bs p ++ srcOf P).findIdx? (fun y => y == x) = none := by
      intro hn hor
      have hf : ((p :: P).filter went).find? (inP x) = (P.filter went).find? (inP x) := by
        cases hw : went p with
        | false => rw [List.filter_cons_of_neg (by simp [hw])]
        | true =>
          rw [List.filter_cons_of_pos hw, List.find?_cons_of_neg]
          rcases hor with h | h
          · simp [h]
          · rw [hw] at h; cases h
      rw [hf, List.findIdx?_append, hn]
      cases hc : (P.filter went).find? (inP x) with
      | none => rw [hc] at hih; simp only at hih ⊢; rw [hih]; rfl
      | some q =>
        rw [hc] at hih
        simp only at hih ⊢
        obtain ⟨i, hi, e⟩ := hih
        refine ⟨i + (bs p).length, by rw [hi]; rfl, by omega⟩
    cases hw : went p with
    | false =>
      refine shift ?_ (.inr hw)
      rw [List.findIdx?_eq_none_iff]
      intro y hy
      simp only [bs, hw] at hy
      have := List.eq_of_mem_replicate hy
      simp; omega
    | true =>
      have hb : bs p = rangeI p.f p.t := by simp [bs, hw]
      cases hi : inP x p with
      | false =>
        refine shift ?_ (.inl hi)
        rw [List.findIdx?_eq_none_iff]
        intro y hy
        rw [hb, rangeI_mem] at hy
        simp [inP] at hi
        simp
        omega
      | true =>
        rw [List.filter_cons_of_pos hw, List.find?_cons_of_pos hi]
        simp only [inP, Bool.and_eq_true, decide_eq_true_eq] at hi
        refine ⟨(x - p.f).toNat, ?_, by omega⟩
        rw [List.findIdx?_append, hb]
        have : (rangeI p.f p.t).findIdx? (fun y => y == x) = some (x - p.f).toNat := by
          rw [List.findIdx?_eq_some_iff_getElem]
          refine ⟨by rw [rangeI_length]; omega, ?_, fun j hj => ?_⟩
          · simp [rangeI]; omega
          · simp [rangeI]; omega
        rw [this]; rfl

theorem came_later {x : Int} : ∀ (P : List Pc) (off : Int), x < off → Pos off P → (P.filter went).find? (inC x) = none := by
  intro P
  induction P with
  | nil => intro _ _ _; rfl
  | cons p P ih =>
    intro off hx hP
    obtain ⟨ha, hP'⟩ := hP
    have h := ih _ (by omega) hP'
    cases hw : went p with
    | false => rw [List.filter_cons_of_neg (by simp [hw])]; exact h
    | true =>
      rw [List.filter_cons_of_pos hw, List.find?_cons_of_neg]
      · exact h
      · simp [inC]; omega

theorem came_eq {x : Int} : ∀ (P : List Pc) (off : Int), off ≤ x → Pos off P → (∀ p ∈ P, Wf p) →
    match (P.filter went).find? (inC x) with
    | some p => (srcOf P)[(x - off).toNat]? = some (x - (p.a - p.f)) ∧ 0 ≤ x - (p.a - p.f)
    | none => ∀ y, (srcOf P)[(x - off).toNat]? = some y → y < 0 := by
  intro P
  induction P with
  | nil => intro off _ _ _ y hy; simp [srcOf] at hy
  | cons p P ih =>
    intro off hx hP hW
    obtain ⟨ha, hP'⟩ := hP
    have hwp := hW p (List.mem_cons_self ..)
    rw [srcOf_cons]
    by_cases hl : x < off + (bs p).length
    · have hget : (bs p ++ srcOf P)[(x - off).toNat]? = (bs p)[(x - off).toNat]? := List.getElem?_append_left (by omega)
      rw [hget]
      cases hw : went p with
      | false =>
        rw [List.filter_cons_of_neg (by simp [hw]), came_later P _ hl hP']
        intro y hy
        simp only [bs, hw] at hy
        have := List.eq_of_mem_replicate (List.mem_of_getElem? hy)
        omega
      | true =>
        have hb : bs p = rangeI p.f p.t := by simp [bs, hw]
        rw [hb, rangeI_length] at hl
        obtain ⟨w1, w2⟩ := hwp.1 hw
        rw [List.filter_cons_of_pos hw, List.find?_cons_of_pos (by simp [inC]; omega)]
        simp only
        rw [hb, rangeI_get (by omega)]
        refine ⟨?_, by omega⟩
        congr 1
        omega
    · have hget : (bs p ++ srcOf P)[(x - off).toNat]? = (srcOf P)[(x - (off + (bs p).length)).toNat]? := by
        rw [List.getElem?_append_right (by omega)]
        congr 1
        omega
      rw [hget]
      have hih := ih _ (by omega) hP' (fun q hq => hW q (List.mem_cons_of_mem _ hq))
      have hf : ((p :: P).filter went).find? (inC x) = (P.filter went).find? (inC x) := by
        cases hw : went p with
        | false => rw [List.filter_cons_of_neg (by simp [hw])]
        | true =>
          have hb : bs p = rangeI p.f p.t := by simp [bs, hw]
          rw [hb, rangeI_length] at hl
          obtain ⟨w1, w2⟩ := hwp.1 hw
          rw [List.filter_cons_of_pos hw, List.find?_cons_of_neg (by simp [inC]; omega)]
      rw [hf]
      exact hih

end Go.Proofs.Ytgfafinpcpiogaa.ShiftMath
