/- A slice of edits in memory that reads as a list, nil let in: what it means, and how it is kept. -/
import Derived.Test.YtfkpnfhhmldodaaRows
import Derived.Test.YtfkpnfhhmldodaaEditMath
import Derived.Below
import Derived.Laws.OwnMore
import Derived.Deep.AppendLies
import Derived.Deep.Draws
import Derived.WalkKit
import Derived.WalkSpells
import Derived.WalkLawsBesides
import Derived.Lib.Hide
namespace Go.Proofs.Ytfkpnfhhmldodaa
open Go.RowKit EditMath

abbrev edv (e : Ed) : Value := .agg #[.int .i64 e.f, .int .i64 e.t, .string e.s]
def ecs (e : Ed) : List Value := [.int .i64 e.f, .int .i64 e.t, .string e.s]
def ecells (l : List Ed) : List Value := l.flatMap ecs

theorem ecells_length (l : List Ed) : (ecells l).length = l.length * 3 := by
  unfold ecells
  induction l with
  | nil => rfl
  | cons p ps ih => simp [List.flatMap_cons, ecs, ih]; omega

theorem ecells_append (a b : List Ed) : ecells (a ++ b) = ecells a ++ ecells b := by unfold ecells; simp

theorem ecells_at : ∀ (l : List Ed) (i : Nat) (e : Ed), l[i]? = some e →
    (ecells l)[i * 3]? = some (.int .i64 e.f) ∧ (ecells l)[i * 3 + 1]? = some (.int .i64 e.t) ∧ (ecells l)[i * 3 + 2]? = some (.string e.s) := by
  intro l
  induction l with
  | nil => intro i p h; simp at h
  | cons q ps ih =>
    intro i p h
    have e : ecells (q :: ps) = .int .i64 q.f :: .int .i64 q.t :: .string q.s :: ecells ps := by simp [ecells, List.flatMap_cons, ecs]
    cases i with
    | zero => simp at h; subst h; rw [e]; exact ⟨rfl, rfl, rfl⟩
    | succ i =>
      simp at h
      obtain ⟨h1, h2, h3⟩ := ih i p h
      rw [e]
      exact ⟨by rw [show (i + 1) * 3 = i * 3 + 1 + 1 + 1 from by omega]; simpa using h1, by rw [show (i + 1) * 3 + 1 = i * 3 + 1 + 1 + 1 + 1 from by omega]; simpa using h2,
        by rw [show (i + 1) * 3 + 2 = i * 3 + 2 + 1 + 1 + 1 from by omega]; simpa using h3⟩

/-- every cell is a part of one edit -/
theorem ecells_split (l : List Ed) (j : Nat) (v : Value) (h : (ecells l)[j]? = some v) : ∃ (i : Nat) (e : Ed), l[i]? = some e ∧
    ((j = i * 3 ∧ v = .int .i64 e.f) ∨ (j = i * 3 + 1 ∧ v = .int .i64 e.t) ∨ (j = i * 3 + 2 ∧ v = .string e.s)) := by
  have hj : j < l.length * 3 := by rw [← ecells_length]; exact (List.getElem?_eq_some_iff.1 h).1
  have hi : j / 3 < l.length := by omega
  obtain ⟨h1, h2, h3⟩ := ecells_at l (j / 3) l[j / 3] (List.getElem?_eq_getElem hi)
  refine ⟨j / 3, l[j / 3], List.getElem?_eq_getElem hi, ?_⟩
  rcases (show j = j / 3 * 3 ∨ j = j / 3 * 3 + 1 ∨ j = j / 3 * 3 + 2 from by omega) with e | e | e
  · rw [← e, h] at h1; injection h1 with h1; exact .inl ⟨e, h1⟩
  · rw [← e, h] at h2; injection h2 with h2; exact .inr (.inl ⟨e, h2⟩)
  · rw [← e, h] at h3; injection h3 with h3; exact .inr (.inr ⟨e, h3⟩)

theorem ecells_one (l : List Ed) : ∀ u ∈ ecells l, u.oneCell' = true := by
  intro u hu
  obtain ⟨j, hj⟩ := List.getElem?_of_mem hu
  obtain ⟨i, e, _, h | h | h⟩ := ecells_split l j u hj <;> rw [h.2] <;> rfl

/-- a slice of edits that reads as l and lies below block B -/
def Eds (w : World) (B : Nat) (A : Option Addr) (l : List Ed) : Prop :=
  0 < l.length → ∃ b off, A = some ⟨b, off, none⟩ ∧ b < B ∧ ∀ (i : Nat) (e : Ed), l[i]? = some e →
    w.cell? ⟨b, off + i * 3, none⟩ = some (.int .i64 e.f) ∧ w.cell? ⟨b, off + i * 3 + 1, none⟩ = some (.int .i64 e.t) ∧ w.cell? ⟨b, off + i * 3 + 2, none⟩ = some (.string e.s)

section
variable {w w' : World} {B B' : Nat} {A : Option Addr} {l : List Ed}
theorem Eds.none_ : Eds w B A [] := fun h => absurd h (by simp)

theorem Eds.at_ {k : Nat} {e : Ed} (h : Eds w B A l) (hk : l[k]? = some e) : ∃ b off, A = some ⟨b, off, none⟩ ∧ b < B ∧
    w.cell? ⟨b, off + k * 3, none⟩ = some (.int .i64 e.f) ∧ w.cell? ⟨b, off + k * 3 + 1, none⟩ = some (.int .i64 e.t) ∧ w.cell? ⟨b, off + k * 3 + 2, none⟩ = some (.string e.s) := by
  have hl := (List.getElem?_eq_some_iff.1 hk).1
  obtain ⟨b, off, e, hb, hc⟩ := h (by omega)
  exact ⟨b, off, e, hb, hc k _ hk⟩

theorem Eds.at2 {k m : Nat} {e d : Ed} (h : Eds w B A l) (hk : l[k]? = some e) (hm : l[m]? = some d) : ∃ b off, A = some ⟨b, off, none⟩ ∧ b < B ∧
    (w.cell? ⟨b, off + k * 3, none⟩ = some (.int .i64 e.f) ∧ w.cell? ⟨b, off + k * 3 + 1, none⟩ = some (.int .i64 e.t) ∧ w.cell? ⟨b, off + k * 3 + 2, none⟩ = some (.string e.s)) ∧
    (w.cell? ⟨b, off + m * 3, none⟩ = some (.int .i64 d.f) ∧ w.cell? ⟨b, off + m * 3 + 1, none⟩ = some (.int .i64 d.t) ∧ w.cell? ⟨b, off + m * 3 + 2, none⟩ = some (.string d.s)) := by
  have hl := (List.getElem?_eq_some_iff.1 hk).1
  obtain ⟨b, off, e, hb, hc⟩ := h (by omega)
  exact ⟨b, off, e, hb, hc k _ hk, hc m _ hm⟩

theorem Eds.keep (h : Eds w B A l) (hk : ∀ p : Addr, p.block < B → w'.cell? p = w.cell? p) : Eds w' B A l := fun hn => by
  obtain ⟨b, off, e, hb, hc⟩ := h hn
  refine ⟨b, off, e, hb, fun i d hd => ?_⟩
  obtain ⟨c0, c1, c2⟩ := hc i d hd
  exact ⟨(hk _ hb).trans c0, (hk _ hb).trans c1, (hk _ hb).trans c2⟩

theorem Eds.more (h : Eds w B A l) (hB : B ≤ B') : Eds w B' A l := fun hn => by
  obtain ⟨b, off, e, hb, hc⟩ := h hn
  exact ⟨b, off, e, by omega, hc⟩

theorem Eds.below (h : Eds w B A l) (hb : Below B w w') : Eds w' B A l := h.keep fun _ hp => hb.cell hp
/-- what was read before a call is read behind it -/
theorem Eds.after (h : Eds w w.heap.size A l) (hb : Below w.heap.size w w') : Eds w' w'.heap.size A l := (h.below hb).more hb.size
theorem Eds.drew (h : Eds w B A l) : Eds w.drew B A l := h
theorem Eds.drewN (h : Eds w B A l) (k : Nat) : Eds (w.drewN k) B A l := h
theorem Eds.alloc (h : Eds w B A l) (hB : B ≤ w.heap.size) (o : Obj) : Eds (w.alloc o) B A l := h.keep fun p hp => World.cell?_alloc_lt w o p (by omega)
theorem Eds.take (h : Eds w B A l) (k : Nat) : Eds w B A (l.take k) := fun hn => by
  rw [List.length_take] at hn
  obtain ⟨b, off, e, hb, hc⟩ := h (by omega)
  refine ⟨b, off, e, hb, fun i d hd => hc i d ?_⟩
  rw [List.getElem?_take] at hd
  split at hd
  · exact hd
  · cases hd
end

theorem below_drewN {B : Nat} {a w : World} (h : Below B a w) (n : Nat) : Below B a (w.drewN n) := ⟨h.os, h.tape, h.output, h.size, h.block⟩

end Go.Proofs.Ytfkpnfhhmldodaa
