/- Contracts of the calls that ask one node, or make one. -/
import Derived.Test.YtfmlcddakfbleaaGreatDoorTreeMem
namespace Go.Proofs.YtfmlcddakfbleaaGreatDoor
open Go.RowKit TreeMath

theorem bytes_none (s : ByteArray) : s.toList.isEmpty = decide (s.size = 0) := by
  rw [ByteArray.toList_eq, Bool.eq_iff_iff, List.isEmpty_iff_length_eq_zero, decide_eq_true_eq]
  exact Iff.rfl
theorem bytes_nil (s : ByteArray) : s.toList = [] ↔ s.size = 0 := by
  rw [ByteArray.toList_eq, List.eq_nil_iff_length_eq_zero]
  exact Iff.rfl

/-- the five cells of a box that a call has left -/
theorem box5 {w w1 : World} {T : Tr} {t : TypeId} (h : Below (w.alloc (.cells (ncc T) t)).heap.size (w.alloc (.cells (ncc T) t)) w1) : w1.cell? ⟨w.heap.size, 0, none⟩ = some (.int .i64 T.k) ∧ w1.cell? ⟨w.heap.size, 1, none⟩ = some (.string T.g) ∧ w1.cell? ⟨w.heap.size, 2, none⟩ = some (.string T.t) ∧ w1.cell? ⟨w.heap.size, 3, none⟩ = some (.int .i64 T.a) ∧ w1.cell? ⟨w.heap.size, 4, none⟩ = some (.slice T.A T.kids.length T.c) ∧ w.heap.size < w1.heap.size := by
  have hb := h.block w.heap.size (by simp)
  rw [heap_alloc_new] at hb
  have := h.size
  refine ⟨by simp [World.cell?, hb], by simp [World.cell?, hb], by simp [World.cell?, hb], by simp [World.cell?, hb], by simp [World.cell?, hb], by simp at this; omega⟩
theorem bcell {W w1 : World} (hb : Below W.heap.size W w1) : (∀ b o, b < W.heap.size → w1.cell? ⟨b, o, none⟩ = W.cell? ⟨b, o, none⟩) ∧ (∀ b o, b < W.heap.size → w1.frozen? ⟨b, o, none⟩ = W.frozen? ⟨b, o, none⟩) :=
  ⟨fun b o h => hb.cell (p := ⟨b, o, none⟩) h, fun b o h => hb.frozen (p := ⟨b, o, none⟩) h⟩

set_option maxHeartbeats 1000000 in
theorem sound_any (T : Tr) (w : World) :
    Calls Tryz.prog 55 #[nv T] w fun r w' => r = .returned (.bool (snd T)) ∧ Below w.heap.size w w' := by
  go_enter Tryz.func55, Tryz.ntmps55
  go_wp2
  all_goals go_ret
  all_goals refine ⟨ret_bool ?_, below1 _ _⟩
  all_goals simp_all [snd, bytes_none, bytes_nil]
  all_goals first | (intros; omega) | (rw [Bool.eq_iff_iff]; simp; done)

set_option maxHeartbeats 400000 in
theorem token_any (g t : ByteArray) (a : Int) (w : World) :
    Calls Tryz.prog 57 #[.string g, .string t, .int .i64 a] w fun r w' => r = .returned (nv ⟨1, g, t, a, none, 0, []⟩) ∧ Below w.heap.size w w' := by
  go_enter Tryz.func57, Tryz.ntmps57
  go_wp2
  refine bodyPost_ret (v := nv ⟨1, g, t, a, none, 0, []⟩) (by simp [results, Tryz.results57, go_sem]) rfl ⟨rfl, below1 _ _⟩

set_option maxHeartbeats 400000 in
theorem copied1_any (T : Tr) (w : World) :
    Calls Tryz.prog 53 #[nv T] w fun r w' => r = .returned (nv T) ∧ Below w.heap.size w w' := by
  go_enter Tryz.func53, Tryz.ntmps53
  go_wp2
  refine bodyPost_ret (v := nv T) (by simp [results, Tryz.results53, go_sem]) rfl ⟨rfl, ?_⟩
  exact (((Below.refl _ _).alloc (Nat.le_refl _) _).alloc (by simp) _)

set_option maxHeartbeats 400000 in
theorem nodes_any (T : Tr) (w : World) :
    Calls Tryz.prog 54 #[nv T] w fun e w' => e = .returned (.func (.func 74) #[] #[.pointer (some ⟨w.heap.size, 0, none⟩)]) ∧ w.alloc (.cells (ncc T) 30) = w' := by
  have hmf : ∀ (fn : Fn) (first cap : Array Value) (w : World), (Instr.makeFunc fn first cap).run Tryz.prog w = .ok (.func fn first cap) w := fun _ _ _ _ => rfl
  go_enter Tryz.func54, Tryz.ntmps54
  go_wp2
  go_ret
  exact ⟨rfl, rfl⟩

set_option maxHeartbeats 400000 in
theorem leaves_any (T : Tr) (w : World) :
    Calls Tryz.prog 31 #[nv T] w fun e w' => e = .returned (.func (.func 56) #[] #[.pointer (some ⟨w.heap.size, 0, none⟩)]) ∧ w.alloc (.cells (ncc T) 30) = w' := by
  have hmf : ∀ (fn : Fn) (first cap : Array Value) (w : World), (Instr.makeFunc fn first cap).run Tryz.prog w = .ok (.func fn first cap) w := fun _ _ _ _ => rfl
  go_enter Tryz.func31, Tryz.ntmps31
  go_wp2
  go_ret
  exact ⟨rfl, rfl⟩
end Go.Proofs.YtfmlcddakfbleaaGreatDoor
