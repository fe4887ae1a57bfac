/- Tokens stand one behind the other. Plain facts. -/
import Derived.Test.YtfmlcddakfbleaaGreatDoorLexText
namespace Go.Proofs.YtfmlcddakfbleaaGreatDoor
open Go.RowKit SignMath

/-- tokens that stand one behind the other, from a place to the end -/
def Ch (n : Nat) : Nat → List Tk → Prop
  | at_, [] => at_ = n
  | at_, t :: r => t.a = at_ ∧ at_ < t.z ∧ t.z ≤ n ∧ Ch n t.z r

theorem tk_chain (l : List UInt8) : ∀ (m at_ : Nat), l.length - at_ ≤ m → at_ ≤ l.length → Ch l.length at_ (tk l at_) := by
  intro m
  induction m with
  | zero => intro at_ h h2; rw [tk_end (by omega)]; show at_ = l.length; omega
  | succ m ih =>
    intro at_ h h2
    by_cases hl : at_ < l.length
    · have hz := ft_size (l := l.drop at_) (by intro e; have := congrArg List.length e; simp at this; omega)
      rw [List.length_drop] at hz
      rw [tk_step hl]
      exact ⟨rfl, by dsimp only; omega, by dsimp only; omega, ih _ (by dsimp only; omega) (by dsimp only; omega)⟩
    · rw [tk_end (by omega)]; show at_ = l.length; omega

theorem chain_bound {n : Nat} : ∀ {L : List Tk} {at_ : Nat}, Ch n at_ L → ∀ t ∈ L, t.a < t.z ∧ t.z ≤ n
  | [], _, _, t, ht => by cases ht
  | x :: r, at_, h, t, ht => by
    obtain ⟨h1, h2, h3, h4⟩ := h
    rcases List.mem_cons.1 ht with rfl | ht
    · exact ⟨by omega, h3⟩
    · exact chain_bound h4 t ht
end Go.Proofs.YtfmlcddakfbleaaGreatDoor
