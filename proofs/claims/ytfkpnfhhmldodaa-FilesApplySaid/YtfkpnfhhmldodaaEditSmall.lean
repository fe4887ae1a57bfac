/- Contracts of the functions that ask one edit, or two. -/
import Derived.Test.YtfkpnfhhmldodaaEditMem
namespace Go.Proofs.Ytfkpnfhhmldodaa
open Go.RowKit EditMath

theorem ret_int {k : IntKind} {a b : Int} (h : a = b) : Ending.returned (.int k a) = .returned (.int k b) := by rw [h]
theorem ret_bool {a b : Bool} (h : a = b) : Ending.returned (.bool a) = .returned (.bool b) := by rw [h]

theorem beqd (a b : Int) : (a == b) = decide (a = b) := by rw [Bool.eq_iff_iff]; simp

theorem bytes_none (s : ByteArray) : s.toList.isEmpty = decide (s.size = 0) := by
  rw [ByteArray.toList_eq, Bool.eq_iff_iff, List.isEmpty_iff_length_eq_zero, decide_eq_true_eq]
  exact Iff.rfl

/-- two boxes, and nothing else -/
theorem below2 (w : World) (o p : Obj) : Below w.heap.size w ((w.alloc o).alloc p) := ((Below.refl _ w).alloc (Nat.le_refl _) _).alloc (by simp) _
theorem below1 (w : World) (o : Obj) : Below w.heap.size w (w.alloc o) := (Below.refl _ w).alloc (Nat.le_refl _) _

set_option maxHeartbeats 400000 in
theorem growth_any (e : Ed) (w : World) (h0 : 0 ≤ e.f) (h1 : e.f ≤ e.t) (h2 : e.t ≤ 9223372036854775807) (h3 : (e.s.size : Int) ≤ 70000) :
    Calls Try.prog 89 #[edv e] w fun r w' => r = .returned (.int .i64 (gr1 e)) ∧ Below w.heap.size w w' := by
  go_enter Try.func89, Try.ntmps89
  go_wp2
  go_ret
  exact ⟨rfl, below1 _ _⟩

set_option maxHeartbeats 400000 in
theorem within_any (e : Ed) (size : Int) (w : World) :
    Calls Try.prog 54 #[edv e, .int .i64 size] w fun r w' => r = .returned (.bool (wi size e)) ∧ Below w.heap.size w w' := by
  cases a : decide (0 ≤ e.f) <;> cases b : decide (e.t ≤ size) <;> cases c : decide (e.f ≤ e.t)
  all_goals
    go_enter Try.func54, Try.ntmps54
    go_wp2
    go_ret
    exact ⟨ret_bool (by simp only [wi, a, b, c]; rfl), below1 _ _⟩

set_option maxHeartbeats 400000 in
theorem idle_any (e : Ed) (w : World) :
    Calls Try.prog 67 #[edv e] w fun r w' => r = .returned (.bool (idl e)) ∧ Below w.heap.size w w' := by
  go_enter Try.func67, Try.ntmps67
  go_wp2
  all_goals go_ret
  · rename_i h
    exact ⟨ret_bool (by simp only [idl, h, bytes_none]; simp), by rw [← h]; exact below1 _ _⟩
  · rename_i h
    exact ⟨ret_bool (by simp [idl, h]), below1 _ _⟩

set_option maxHeartbeats 400000 in
theorem touch_any (a b : Ed) (w : World) :
    Calls Try.prog 70 #[edv a, edv b] w fun r w' => r = .returned (.bool (tch a b)) ∧ Below w.heap.size w w' := by
  go_enter Try.func70, Try.ntmps70
  go_wp2
  go_ret
  exact ⟨ret_bool (beqd _ _), below2 _ _ _⟩

set_option maxHeartbeats 400000 in
theorem right1_any (a b : Ed) (w : World) :
    Calls Try.prog 84 #[edv a, edv b] w fun r w' => r = .returned (.bool (nx a b)) ∧ Below w.heap.size w w' := by
  cases c : decide (a.t ≤ b.f) <;> cases d : decide (a.f < b.f)
  all_goals
    go_enter Try.func84, Try.ntmps84
    go_wp2
    go_ret
    exact ⟨ret_bool (by simp only [nx, c, d]; rfl), below2 _ _ _⟩

set_option maxHeartbeats 400000 in
theorem plain1_any (a b : Ed) (w : World) :
    Calls Try.prog 69 #[edv a, edv b] w fun r w' => r = .returned (.bool (!tch a b)) ∧ Below w.heap.size w w' := by
  go_enter Try.func69, Try.ntmps69
  go_wp2_with (go_at_call 70; refine (touch_any a b _).mono ?_; rintro e w1 ⟨rfl, hb1⟩)
  go_ret
  exact ⟨rfl, (below2 w _ _).trans (hb1.mono (by simp; omega))⟩

set_option maxHeartbeats 400000 in
theorem numbers1_any (e : Ed) (size : Int) (B : Nat) (w : World) (hB : B < w.heap.size) (hc : w.cell? ⟨B, 0, none⟩ = some (.int .i64 size)) :
    Calls Try.prog 110 #[edv e, .pointer (some ⟨B, 0, none⟩)] w fun r w' => r = .returned (.bool (!wi size e)) ∧ Below w.heap.size w w' := by
  have hne : B ≠ w.heap.size := by omega
  cases a : decide (e.f < 0) <;> cases b : decide (e.t < e.f) <;> cases c : decide (size < e.t)
  all_goals
    go_enter Try.func110, Try.ntmps110
    go_wp2
    go_ret
    refine ⟨ret_bool ?_, below1 _ _⟩
    simp only [decide_eq_true_eq, decide_eq_false_iff_not] at a b c
    first
      | (have h : wi size e = true := wi_iff.2 (by omega); rw [h]; rfl)
      | (have h : wi size e = false := Bool.eq_false_iff.2 (fun k => by have := wi_iff.1 k; omega); rw [h]; rfl)

end Go.Proofs.Ytfkpnfhhmldodaa
