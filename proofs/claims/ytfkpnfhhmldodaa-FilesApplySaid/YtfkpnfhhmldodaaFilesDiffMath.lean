/- What two texts have in common from their beginnings on, and back from their ends, plainly; the one edit that makes the one into the other. -/
import Derived.Test.YtfkpnfhhmldodaaEditText
namespace Go.Proofs.Ytfkpnfhhmldodaa.EditMath

/-- how many bytes two lists have in common from their beginnings on -/
def cst : List UInt8 → List UInt8 → Nat
  | x :: a, y :: b => if x = y then cst a b + 1 else 0
  | _, _ => 0

theorem cst_of : ∀ (n : Nat) (a b : List UInt8), n ≤ a.length → n ≤ b.length → (∀ i, i < n → a[i]? = b[i]?) → ¬ (n < a.length ∧ n < b.length ∧ a[n]? = b[n]?) → cst a b = n := by
  intro n
  induction n with
  | zero =>
    intro a b _ _ _ h
    cases a with
    | nil => rfl
    | cons x a =>
      cases b with
      | nil => rfl
      | cons y b =>
        unfold cst
        rw [if_neg]
        intro e
        exact h ⟨by simp, by simp, by simp [e]⟩
  | succ n ih =>
    intro a b ha hb hi h
    cases a with
    | nil => simp at ha
    | cons x a =>
      cases b with
      | nil => simp at hb
      | cons y b =>
        have h0 := hi 0 (by omega)
        simp at h0
        unfold cst
        rw [if_pos h0, ih a b (by simpa using ha) (by simpa using hb) (fun i hlt => by have := hi (i + 1) (by omega); simpa using this) (fun q => h ⟨by simpa using q.1, by simpa using q.2.1, by simpa using q.2.2⟩)]

theorem cst_le (a b : List UInt8) : cst a b ≤ a.length ∧ cst a b ≤ b.length := by
  induction a generalizing b with
  | nil => simp [cst]
  | cons x a ih =>
    cases b with
    | nil => simp [cst]
    | cons y b =>
      unfold cst
      split
      · have := ih b; simp; omega
      · simp
theorem cst_take (a b : List UInt8) : a.take (cst a b) = b.take (cst a b) := by
  induction a generalizing b with
  | nil => simp [cst]
  | cons x a ih =>
    cases b with
    | nil => simp [cst]
    | cons y b =>
      unfold cst
      split
      · rename_i h; subst h; simp [ih b]
      · simp

/-- how many bytes two lists have in common back from their ends -/
def cen (a b : List UInt8) : Nat := cst a.reverse b.reverse
theorem cen_le (a b : List UInt8) : cen a b ≤ a.length ∧ cen a b ≤ b.length := by
  have := cst_le a.reverse b.reverse
  simpa [cen] using this
theorem rev_at {l : List UInt8} {n : Nat} (h : n < l.length) : l.reverse[n]? = l[l.length - 1 - n]? := by rw [List.getElem?_reverse h]
theorem cen_of {n : Nat} {a b : List UInt8} (ha : n ≤ a.length) (hb : n ≤ b.length) (hi : ∀ i, i < n → a[a.length - 1 - i]? = b[b.length - 1 - i]?) (h : ¬ (n < a.length ∧ n < b.length ∧ a[a.length - 1 - n]? = b[b.length - 1 - n]?)) : cen a b = n :=
  cst_of n a.reverse b.reverse (by simpa using ha) (by simpa using hb) (fun i hlt => by rw [rev_at (by omega), rev_at (by omega)]; exact hi i hlt)
    (fun q => h ⟨by simpa using q.1, by simpa using q.2.1, by have := q.2.2; rw [rev_at (by simpa using q.1), rev_at (by simpa using q.2.1)] at this; exact this⟩)

/-- where the change begins, and how much is in common behind it -/
def dfF (a b : ByteArray) : Nat := cst a.data.toList b.data.toList
def dfM (a b : ByteArray) : Nat := cen (a.data.toList.drop (dfF a b)) (b.data.toList.drop (dfF a b))
/-- the one edit that makes a text into another one -/
def dfE (a b : ByteArray) : Ed := ⟨dfF a b, (a.size : Int) - dfM a b, b.extract (dfF a b) (b.size - dfM a b)⟩

theorem dfF_le (a b : ByteArray) : dfF a b ≤ a.size ∧ dfF a b ≤ b.size := cst_le _ _
theorem dfM_le (a b : ByteArray) : dfM a b ≤ a.size - dfF a b ∧ dfM a b ≤ b.size - dfF a b := by
  have := cen_le (a.data.toList.drop (dfF a b)) (b.data.toList.drop (dfF a b))
  simp only [List.length_drop] at this
  exact this
end Go.Proofs.Ytfkpnfhhmldodaa.EditMath
