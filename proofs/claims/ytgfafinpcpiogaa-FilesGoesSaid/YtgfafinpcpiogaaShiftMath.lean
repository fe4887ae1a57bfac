/- Plain facts on the pieces of a text behind edits. Nothing of any program. -/
import Derived.Test.YtgfafinpcpiogaaEditMath
namespace Go.Proofs.Ytgfafinpcpiogaa.ShiftMath
open EditMath

/-- a piece: where it stands, where it stood from and to, its bytes if they are new -/
structure Pc where
  a : Int
  f : Int
  t : Int
  s : ByteArray

def bnil : ByteArray := ⟨#[]⟩
def went (p : Pc) : Bool := decide (p.s.size = 0)

structure St where
  out : List Pc
  fr : Int
  sh : Int

def em (fr sh : Int) (e : Ed) : List Pc := (if fr < e.f then [⟨fr + sh, fr, e.f, bnil⟩] else []) ++ (if e.s.size ≠ 0 then [⟨e.f + sh, 0, 0, e.s⟩] else [])
def stp (st : St) (e : Ed) : St := ⟨st.out ++ em st.fr st.sh e, e.t, st.sh + gr1 e⟩
def stOf (l : List Ed) : St := l.foldl stp ⟨[], 0, 0⟩
def tailP (st : St) (size : Int) : List Pc := if st.fr < size then [⟨st.fr + st.sh, st.fr, size, bnil⟩] else []
def pcs (l : List Ed) (size : Int) : List Pc := (stOf l).out ++ tailP (stOf l) size

theorem stOf_snoc (l : List Ed) (e : Ed) : stOf (l ++ [e]) = stp (stOf l) e := by unfold stOf; rw [List.foldl_append]; rfl
theorem stOf_take {l : List Ed} {k : Nat} {e : Ed} (h : l[k]? = some e) : stOf (l.take (k + 1)) = stp (stOf (l.take k)) e := by rw [take_snoc h, stOf_snoc]
theorem stOf_sh (l : List Ed) : (stOf l).sh = gr l := by
  suffices h : ∀ (l : List Ed) (st : St), (l.foldl stp st).sh = st.sh + gr l by have := h l ⟨[], 0, 0⟩; unfold stOf; rw [this]; simp
  intro l
  induction l with
  | nil => intro st; simp [gr]
  | cons e l ih => intro st; rw [List.foldl_cons, ih]; simp only [stp, gr]; omega
theorem stOf_out (l m : List Ed) (st : St) : ∃ q, ((l ++ m).foldl stp st).out = (l.foldl stp st).out ++ q := by
  rw [List.foldl_append]
  generalize l.foldl stp st = st'
  induction m generalizing st' with
  | nil => exact ⟨[], by simp⟩
  | cons e m ih =>
    obtain ⟨q, hq⟩ := ih (stp st' e)
    exact ⟨em st'.fr st'.sh e ++ q, by rw [List.foldl_cons, hq]; simp [stp]⟩
theorem stOf_pref (l : List Ed) (k : Nat) (size : Int) : (stOf (l.take k)).out <+: pcs l size := by
  obtain ⟨q, hq⟩ := stOf_out (l.take k) (l.drop k) ⟨[], 0, 0⟩
  rw [List.take_append_drop] at hq
  refine ⟨q ++ tailP (stOf l) size, ?_⟩
  unfold pcs stOf
  rw [hq, List.append_assoc]

/-- an element of a list, and what has come ahead of it -/
theorem pref_iff {α : Type} {pre L : List α} {x : α} (h : (pre ++ [x]) <+: L) : pre = L.take pre.length ∧ L[pre.length]? = some x := by
  obtain ⟨q, rfl⟩ := h
  exact ⟨by simp, by simp⟩
theorem pref_mk {α : Type} {L : List α} {k : Nat} {x : α} (h : L[k]? = some x) : (L.take k ++ [x]) <+: L := by
  refine ⟨L.drop (k + 1), ?_⟩
  have : L.take k ++ [x] = L.take (k + 1) := by rw [List.take_add_one, h]; rfl
  rw [this, List.take_append_drop]

/-- the k-th edit as the iterator gives it: itself, and by how much what lies ahead of it grows -/
def pld (l : List Ed) : List (Ed × Int) := l.mapIdx fun i e => (e, gr (l.take i))
theorem pld_at {l : List Ed} {k : Nat} {x : Ed × Int} (h : (pld l)[k]? = some x) : ∃ e, l[k]? = some e ∧ x = (e, gr (l.take k)) := by
  unfold pld at h
  rw [List.getElem?_mapIdx] at h
  cases e : l[k]? with
  | none => rw [e] at h; cases h
  | some d => rw [e] at h; injection h with h; exact ⟨d, rfl, h.symm⟩
theorem pld_mk {l : List Ed} {k : Nat} {e : Ed} (h : l[k]? = some e) : (pld l)[k]? = some (e, gr (l.take k)) := by
  unfold pld; rw [List.getElem?_mapIdx, h]; rfl
theorem pld_length (l : List Ed) : (pld l).length = l.length := by simp [pld]

/-- sizes of edits that no sum passes -/
def Small (l : List Ed) : Prop := ∀ (i : Nat) (e : Ed), l[i]? = some e → 0 ≤ e.f ∧ e.f ≤ 1000000 ∧ 0 ≤ e.t ∧ e.t ≤ 1000000 ∧ (e.s.size : Int) ≤ 1000000 ∧ -1000000 ≤ gr (l.take i) ∧ gr (l.take i) ≤ 1000000

theorem tx_mem {l : List Ed} {i : Nat} {e : Ed} (h : l[i]? = some e) : (e.s.size : Int) ≤ tx l := by
  have h1 := tx_snoc h
  have h2 := tx_take_le l (i + 1)
  have h3 := tx_nonneg (l.take i)
  omega

theorem small_of {l : List Ed} {size : Int} (h : rt l size = true) (hs : size ≤ 1000000) (ht : tx l ≤ 1000000) : Small l := fun i e he => by
  obtain ⟨h0, h1, _⟩ := rt_parts h
  obtain ⟨a, b, c⟩ := h1 i e he
  have t1 := tx_mem he
  obtain ⟨g1, g2, _⟩ := gr_bounds (rt_take h i)
  have t2 := tx_take_le l i
  have t3 := tx_nonneg (l.take i)
  omega

def PcOk (p : Pc) : Prop := -5000000 ≤ p.a ∧ p.a ≤ 5000000 ∧ 0 ≤ p.f ∧ p.f ≤ 1000000 ∧ 0 ≤ p.t ∧ p.t ≤ 1000000 ∧ (p.s.size : Int) ≤ 1000000

theorem st_ok {l : List Ed} (hs : Small l) : ∀ k, k ≤ l.length → (∀ p ∈ (stOf (l.take k)).out, PcOk p) ∧ 0 ≤ (stOf (l.take k)).fr ∧ (stOf (l.take k)).fr ≤ 1000000 ∧ -4000000 ≤ (stOf (l.take k)).sh ∧ (stOf (l.take k)).sh ≤ 4000000 := by
  intro k
  induction k with
  | zero => intro _; simp [stOf]
  | succ k ih =>
    intro hk
    obtain ⟨h1, h2, h3, _⟩ := ih (by omega)
    obtain ⟨e, he⟩ : ∃ e, l[k]? = some e := ⟨l[k], List.getElem?_eq_getElem (by omega)⟩
    obtain ⟨a, b, c, d, f, g, h⟩ := hs k e he
    have hsh := stOf_sh (l.take k)
    rw [stOf_take he]
    simp only [stp, gr1]
    rw [hsh]
    refine ⟨fun p hp => ?_, c, d, by omega, by omega⟩
    rcases List.mem_append.1 hp with hp | hp
    · exact h1 p hp
    · unfold em at hp
      rcases List.mem_append.1 hp with hp | hp
      · split at hp
        · simp at hp; subst hp; simp only [PcOk, bnil]; refine ⟨by omega, by omega, by omega, by omega, by omega, by omega, by decide⟩
        · cases hp
      · split at hp
        · simp at hp; subst hp; simp only [PcOk]; omega
        · cases hp

theorem pcs_ok {l : List Ed} {size : Int} (hs : Small l) (h0 : 0 ≤ size) (h1 : size ≤ 1000000) : ∀ p ∈ pcs l size, PcOk p := by
  intro p hp
  have h := st_ok hs l.length (Nat.le_refl _)
  rw [List.take_length] at h
  obtain ⟨a, b, c, d, e⟩ := h
  rcases List.mem_append.1 hp with hp | hp
  · exact a p hp
  · unfold tailP at hp
    split at hp
    · simp at hp; subst hp; simp only [PcOk, bnil]; refine ⟨by omega, by omega, by omega, by omega, by omega, by omega, by decide⟩
    · cases hp

/-- a byte of the text in a piece -/
def inP (x : Int) (p : Pc) : Bool := decide (p.f ≤ x) && decide (x < p.t)
/-- a byte of the new text in a piece -/
def inC (x : Int) (p : Pc) : Bool := decide (p.f ≤ x - (p.a - p.f)) && decide (x - (p.a - p.f) < p.t)

theorem find_mem {p : Pc → Bool} {L : List Pc} {x : Pc} (h : L.find? p = some x) : x ∈ L := List.mem_of_find?_eq_some h
/-- found first -/
theorem find_first {q : Pc → Bool} {pre L : List Pc} {x : Pc} (h : (pre ++ [x]) <+: L) (hp : ∀ p ∈ pre, q p = false) (hx : q x = true) : L.find? q = some x := by
  obtain ⟨r, rfl⟩ := h
  rw [List.append_assoc, List.find?_append, List.find?_eq_none.2 (fun p hm => by simp [hp p hm])]
  simp [hx]
theorem find_none {q : Pc → Bool} {L : List Pc} (hp : ∀ p ∈ L, q p = false) : L.find? q = none := List.find?_eq_none.2 (fun p hm => by simp [hp p hm])
theorem pref_mem {pre L : List Pc} {x : Pc} (h : (pre ++ [x]) <+: L) : x ∈ L := by
  obtain ⟨r, rfl⟩ := h; simp

end Go.Proofs.Ytgfafinpcpiogaa.ShiftMath
