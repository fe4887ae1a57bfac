/- Contracts of the functions that ask one byte: letters, figures, blanks; those of the document. -/
import Derived.Test.YtfmlcddakfbleaaGreatDoorRows
import Derived.Test.YtfmlcddakfbleaaGreatDoorSignMath
import Derived.Below
import Derived.WalkKit
import Derived.WalkSpells
import Derived.WalkLawsBesides
import Derived.Lib.Hide
namespace Go.Proofs.YtfmlcddakfbleaaGreatDoor
open Go.RowKit SignMath

theorem sret_int {k : IntKind} {a b : Int} (h : a = b) : Ending.returned (.int k a) = .returned (.int k b) := by rw [h]
theorem sret_bool {a b : Bool} (h : a = b) : Ending.returned (.bool a) = .returned (.bool b) := by rw [h]
theorem beqd (a b : Int) : (a == b) = decide (a = b) := by rw [Bool.eq_iff_iff]; simp

/-- a function that asks one byte -/
def Asks (g : Nat) (p : Int → Bool) : Prop := ∀ (n : Int) (w : World), Calls Tryz.prog g #[.int .u8 n] w fun e w' => e = .returned (.bool (p n)) ∧ w = w'

set_option maxHeartbeats 400000 in
theorem letter_any : Asks 80 lt := by
  intro n w
  have hbe := beqd n 95
  cases a : decide (97 ≤ n) <;> cases b : decide (n ≤ 122) <;> cases c : decide (65 ≤ n) <;> cases d : decide (n ≤ 90) <;> cases e : decide (n = 95)
  all_goals
    have ha := a; have hb := b; have hc := c; have hd := d; have he := e
    simp only [decide_eq_true_eq, decide_eq_false_iff_not] at ha hb hc hd he
    first
      | (exfalso; omega)
      | (rw [e] at hbe
         clear ha hb hc hd he
         go_enter Tryz.func80, Tryz.ntmps80
         go_wp2
         go_ret
         exact ⟨sret_bool (by simp only [decide_eq_true_eq, decide_eq_false_iff_not] at a b c d e; unfold lt; simp; try omega), rfl⟩)

set_option maxHeartbeats 400000 in
theorem refLetter_any : Asks 77 lt := by
  intro n w
  have hbe := beqd n 95
  cases a : decide (97 ≤ n) <;> cases b : decide (n ≤ 122) <;> cases c : decide (65 ≤ n) <;> cases d : decide (n ≤ 90) <;> cases e : decide (n = 95)
  all_goals
    have ha := a; have hb := b; have hc := c; have hd := d; have he := e
    simp only [decide_eq_true_eq, decide_eq_false_iff_not] at ha hb hc hd he
    first
      | (exfalso; omega)
      | (rw [e] at hbe
         clear ha hb hc hd he
         go_enter Tryz.func77, Tryz.ntmps77
         go_wp2
         go_ret
         exact ⟨sret_bool (by simp only [decide_eq_true_eq, decide_eq_false_iff_not] at a b c d e; unfold lt; simp; try omega), rfl⟩)

set_option maxHeartbeats 400000 in
theorem figure_any : Asks 105 fg := by
  intro n w
  cases a : decide (48 ≤ n) <;> cases b : decide (n ≤ 57)
  all_goals
    have ha := a; have hb := b
    simp only [decide_eq_true_eq, decide_eq_false_iff_not] at ha hb
    first
      | (exfalso; omega)
      | (clear ha hb
         go_enter Tryz.func105, Tryz.ntmps105
         go_wp2
         go_ret
         exact ⟨sret_bool (by simp only [decide_eq_true_eq, decide_eq_false_iff_not] at a b; unfold fg; simp; try omega), rfl⟩)

set_option maxHeartbeats 400000 in
theorem refFigure_any : Asks 78 fg := by
  intro n w
  cases a : decide (48 ≤ n) <;> cases b : decide (n ≤ 57)
  all_goals
    have ha := a; have hb := b
    simp only [decide_eq_true_eq, decide_eq_false_iff_not] at ha hb
    first
      | (exfalso; omega)
      | (clear ha hb
         go_enter Tryz.func78, Tryz.ntmps78
         go_wp2
         go_ret
         exact ⟨sret_bool (by simp only [decide_eq_true_eq, decide_eq_false_iff_not] at a b; unfold fg; simp; try omega), rfl⟩)

set_option maxHeartbeats 400000 in
theorem blank_any : Asks 111 bk := by
  intro n w
  have hba := beqd n 9
  have hbb := beqd n 10
  have hbc := beqd n 13
  have hbd := beqd n 32
  cases a : decide (n = 9) <;> cases b : decide (n = 10) <;> cases c : decide (n = 13) <;> cases d : decide (n = 32)
  all_goals
    have ha := a; have hb := b; have hc := c; have hd := d
    simp only [decide_eq_true_eq, decide_eq_false_iff_not] at ha hb hc hd
    first
      | (exfalso; omega)
      | (rw [a] at hba
         rw [b] at hbb
         rw [c] at hbc
         rw [d] at hbd
         clear ha hb hc hd
         go_enter Tryz.func111, Tryz.ntmps111
         go_wp2
         go_ret
         exact ⟨sret_bool (by simp only [decide_eq_true_eq, decide_eq_false_iff_not] at a b c d; unfold bk; simp; try omega), rfl⟩)
























set_option maxHeartbeats 400000 in
theorem lf_any : Asks 82 lf := by
  intro n w
  cases a : lt n
  all_goals
    have HA := Lib.hid a
    clear a
    go_enter Tryz.func82, Tryz.ntmps82
    go_wp2_with (first | (go_at_call 80; refine (letter_any _ _).mono ?_; rw [HA.out]; rintro e w' ⟨rfl, rfl⟩) | (go_at_call 105; refine (figure_any _ _).mono ?_; rintro e w' ⟨rfl, rfl⟩))
    go_ret
    exact ⟨sret_bool (by unfold lf; rw [HA.out]; rfl), rfl⟩

end Go.Proofs.YtfmlcddakfbleaaGreatDoor
