/- Contracts of the calls that ask one node, or make one. -/
import Derived.Test.YtjnclchbklehgaaGreatDoorTreeMem
namespace Go.Proofs.YtjnclchbklehgaaGreatDoor
open Go.RowKit TreeMath

theorem bytes_none (s : ByteArray) : s.toList.isEmpty = decide (s.size = 0) := by
  rw [ByteArray.toList_eq, Bool.eq_iff_iff, List.isEmpty_iff_length_eq_zero, decide_eq_true_eq]
  exact Iff.rfl
theorem bytes_nil (s : ByteArray) : s.toList = [] ↔ s.size = 0 := by
  rw [ByteArray.toList_eq, List.eq_nil_iff_length_eq_zero]
  exact Iff.rfl

/-- the five cells of a box that a call has left -/
theorem box5 {w w1 : World} {T : Tr} {t : TypeId} (h : Below (w.alloc (.cells (ncc T) t)).heap.size (w.alloc (.cells (ncc T) t)) w1) : w1.cell? ⟨w.heap.size, 0, none⟩ = some (.int .i64 T.k) ∧ w1.cell? ⟨w.heap.size, 1, none⟩ = some (.string T.g) ∧ w1.cell? ⟨w.heap.size, 2, none⟩ = some (.string T.t) ∧ w1.cell? ⟨w.heap.size, 3, none⟩ = some (.int .i64 T.a) ∧ w1.cell? ⟨w.heap.size, 4, none⟩ = some (.slice T.A T.kids.length T.c) ∧ w.heap.size < w1.heap.size := by
  have hb := h.block w.heap.size (by simp)
  rw [heap_alloc_new] at hb
  have := h.size
  refine ⟨by simp [World.cell?, hb], by simp [World.cell?, hb], by simp [World.cell?, hb], by simp [World.cell?, hb], by simp [World.cell?, hb], by simp at this; omega⟩
theorem bcell {W w1 : World} (hb : Below W.heap.size W w1) : (∀ b o, b < W.heap.size → w1.cell? ⟨b, o, none⟩ = W.cell? ⟨b, o, none⟩) ∧ (∀ b o, b < W.heap.size → w1.frozen? ⟨b, o, none⟩ = W.frozen? ⟨b, o, none⟩) :=
  ⟨fun b o h => hb.cell (p := ⟨b, o, none⟩) h, fun b o h => hb.frozen (p := ⟨b, o, none⟩) h⟩

set_option maxHeartbeats 1000000 in
theorem sound_any (T : Tr) (w : World) :
    Calls Tryz.prog 79 #[nv T] w fun r w' => r = .returned (.bool (snd T)) ∧ Below w.heap.size w w' := by
  go_enter Tryz.func79, Tryz.ntmps79
  go_wp2
  all_goals go_ret
  all_goals refine ⟨ret_bool ?_, below1 _ _⟩
  all_goals simp_all [snd, bytes_none, bytes_nil]
  all_goals first | (intros; omega) | (rw [Bool.eq_iff_iff]; simp; done)

set_option maxHeartbeats 400000 in
theorem token_any (g t : ByteArray) (a : Int) (w : World) :
    Calls Tryz.prog 72 #[.string g, .string t, .int .i64 a] w fun r w' => r = .returned (nv ⟨1, g, t, a, none, 0, []⟩) ∧ Below w.heap.size w w' := by
  go_enter Tryz.func72, Tryz.ntmps72
  go_wp2
  refine bodyPost_ret (v := nv ⟨1, g, t, a, none, 0, []⟩) (by simp [results, Tryz.results72, go_sem]) rfl ⟨rfl, below1 _ _⟩









set_option maxHeartbeats 400000 in
theorem nodes_any (T : Tr) (w : World) :
    Calls Tryz.prog 78 #[nv T] w fun e w' => e = .returned (.func (.func 92) #[] #[.pointer (some ⟨w.heap.size, 0, none⟩)]) ∧ w.alloc (.cells (ncc T) 40) = w' := by
  have hmf : ∀ (fn : Fn) (first cap : Array Value) (w : World), (Instr.makeFunc fn first cap).run Tryz.prog w = .ok (.func fn first cap) w := fun _ _ _ _ => rfl
  go_enter Tryz.func78, Tryz.ntmps78
  go_wp2
  go_ret
  exact ⟨rfl, rfl⟩

set_option maxHeartbeats 400000 in
theorem leaves_any (T : Tr) (w : World) :
    Calls Tryz.prog 62 #[nv T] w fun e w' => e = .returned (.func (.func 80) #[] #[.pointer (some ⟨w.heap.size, 0, none⟩)]) ∧ w.alloc (.cells (ncc T) 40) = w' := by
  have hmf : ∀ (fn : Fn) (first cap : Array Value) (w : World), (Instr.makeFunc fn first cap).run Tryz.prog w = .ok (.func fn first cap) w := fun _ _ _ _ => rfl
  go_enter Tryz.func62, Tryz.ntmps62
  go_wp2
  go_ret
  exact ⟨rfl, rfl⟩
end Go.Proofs.YtjnclchbklehgaaGreatDoor

namespace Go.Proofs.YtjnclchbklehgaaGreatDoor
open Go.RowKit TreeMath

/-- where the walk stands still -/
def Stay (p : Prop) : Prop := p
theorem Stay.out {p : Prop} (h : Stay p) : p := h
theorem Stay.mk {p : Prop} (h : p) : Stay p := h

/-- a node stored into a box -/
abbrev set5 (W : World) (b : Nat) (T : Tr) : World := ((((W.setCell ⟨b, 0, none⟩ (.int .i64 T.k)).setCell ⟨b, 1, none⟩ (.string T.g)).setCell ⟨b, 2, none⟩ (.string T.t)).setCell ⟨b, 3, none⟩ (.int .i64 T.a)).setCell ⟨b, 4, none⟩ (.slice T.A T.kids.length T.c)
theorem set5_size (W : World) (b : Nat) (T : Tr) : (set5 W b T).heap.size = W.heap.size := by simp [World.setCell]
theorem set5_other {W : World} {b k : Nat} (h : k ≠ b) (T : Tr) : (set5 W b T).heap[k]? = W.heap[k]? := by
  rw [set5, Below.heap_setCell _ _ _ _ h, Below.heap_setCell _ _ _ _ h, Below.heap_setCell _ _ _ _ h, Below.heap_setCell _ _ _ _ h, Below.heap_setCell _ _ _ _ h]
theorem heap_set {W : World} {b i : Nat} {cs : Array Value} {t : TypeId} {fr : Nat × Nat} (h : W.heap[b]? = some (.cells cs t fr)) (v : Value) : (W.setCell ⟨b, i, none⟩ v).heap[b]? = some (.cells (cs.setIfInBounds i v) t fr) := by
  simp [World.setCell, Array.getElem?_modify, h]
theorem set5_self {W : World} {b : Nat} {t : TypeId} {u0 u1 u2 u3 u4 : Value} (h : W.heap[b]? = some (.cells #[u0, u1, u2, u3, u4] t (0, 0))) (T : Tr) : (set5 W b T).heap[b]? = some (.cells (ncc T) t (0, 0)) := by
  have := heap_set (heap_set (heap_set (heap_set (heap_set h (i := 0) (.int .i64 T.k)) (i := 1) (.string T.g)) (i := 2) (.string T.t)) (i := 3) (.int .i64 T.a)) (i := 4) (.slice T.A T.kids.length T.c)
  simpa using this
theorem below_set5 {B : Nat} {w W : World} (h : Below B w W) {b : Nat} (hb : B ≤ b) (T : Tr) : Below B w (set5 W b T) :=
  ((((h.setCell (p := ⟨b, 0, none⟩) hb _).setCell (p := ⟨b, 1, none⟩) hb _).setCell (p := ⟨b, 2, none⟩) hb _).setCell (p := ⟨b, 3, none⟩) hb _).setCell (p := ⟨b, 4, none⟩) hb _
theorem cell_heap {W : World} {b i : Nat} {cs : Array Value} {t : TypeId} {fr : Nat × Nat} (h : W.heap[b]? = some (.cells cs t fr)) : W.cell? ⟨b, i, none⟩ = cs[i]? := by simp [World.cell?, h]
theorem frozen_heap {W : World} {b i : Nat} {cs : Array Value} {t : TypeId} (h : W.heap[b]? = some (.cells cs t (0, 0))) : W.frozen? ⟨b, i, none⟩ = false := by simp [World.frozen?, h]

theorem wp_store_node {o : Oper} {a : Act} {w : World} {K : Act → World → Prop} {Q : Exit → Act → World → Prop} (t : TypeId) (x y : Operand) (ho : o.op = .store t x y) (hsz : ∀ w : World, (sizeOf t).run Tryz.prog w = .ok 5 w) (b : Nat) (T : Tr) (u0 u1 u2 u3 u4 : Value) (t' : TypeId)
    (hx : a.eval x = .pointer (some ⟨b, 0, none⟩)) (hy : a.eval y = nv T) (hc : w.heap[b]? = some (.cells #[u0, u1, u2, u3, u4] t' (0, 0))) (hK : K (a.put o.dst undef) (set5 w b T)) : o.wp Tryz.prog a w K Q := by
  have h1 := heap_set hc (i := 0) (.int .i64 T.k)
  have h2 := heap_set h1 (i := 1) (.string T.g)
  have h3 := heap_set h2 (i := 2) (.string T.t)
  have h4 := heap_set h3 (i := 3) (.int .i64 T.a)
  have c0 := cell_heap hc (i := 0)
  have c1 := cell_heap h1 (i := 1)
  have c2 := cell_heap h2 (i := 2)
  have c3 := cell_heap h3 (i := 3)
  have c4 := cell_heap h4 (i := 4)
  have f0 := frozen_heap hc (i := 0)
  have f1 := frozen_heap h1 (i := 1)
  have f2 := frozen_heap h2 (i := 2)
  have f3 := frozen_heap h3 (i := 3)
  have f4 := frozen_heap h4 (i := 4)
  simp only [List.setIfInBounds_toArray, List.set_cons_zero, List.set_cons_succ, List.getElem?_toArray, List.getElem?_cons_zero, List.getElem?_cons_succ] at c0 c1 c2 c3 c4
  unfold Oper.wp
  simp only [execOp, ho, hx, hy]
  simp [go_sem, hsz, c0, c1, c2, c3, c4, f0, f1, f2, f3, f4]
  exact hK

/-- a node stored into a box, in a plain region -/
theorem wpList_store_node {ops : Array Oper} {rest : List Oper} {o : Oper} {a : Act} {w : World} {Q : Exit → Act → World → Prop} (hg : o.guard = none) (t : TypeId) (x y : Operand) (ho : o.op = .store t x y) (hsz : ∀ w : World, (sizeOf t).run Tryz.prog w = .ok 5 w) (b : Nat) (T : Tr) {u0 u1 u2 u3 u4 : Value} {t' : TypeId}
    (hx : a.eval x = .pointer (some ⟨b, 0, none⟩)) (hy : a.eval y = nv T) (hc : w.heap[b]? = some (.cells #[u0, u1, u2, u3, u4] t' (0, 0))) (h : wpList Tryz.prog ops Q rest (a.put o.dst undef) (set5 w b T)) : wpList Tryz.prog ops Q (o :: rest) a w :=
  wpList_plain hg fun _ hK => wp_store_node t x y ho hsz b T u0 u1 u2 u3 u4 t' hx hy hc (hK _ _ h)
/-- the same, at a step of a region that draws its order -/
theorem step_store_node {ops : Array Oper} {o : Oper} {a : Act} {w : World} {K : Act → World → Prop} {Q : Exit → Act → World → Prop} {E : Prop} (hg : o.guard = none) (t : TypeId) (x y : Operand) (ho : o.op = .store t x y) (hsz : ∀ w : World, (sizeOf t).run Tryz.prog w = .ok 5 w) (b : Nat) (T : Tr) {u0 u1 u2 u3 u4 : Value} {t' : TypeId}
    (hx : a.eval x = .pointer (some ⟨b, 0, none⟩)) (hy : a.eval y = nv T) (hc : w.heap[b]? = some (.cells #[u0, u1, u2, u3, u4] t' (0, 0))) (hK : K (a.put o.dst undef) (set5 w b T)) :
    if Region.wanted o (yielded ops a.tmps) = true then Oper.wp Tryz.prog o a w K Q else E := by
  rw [if_pos (by simp [Region.wanted, hg])]
  exact wp_store_node t x y ho hsz b T u0 u1 u2 u3 u4 t' hx hy hc hK
set_option maxRecDepth 100000 in
theorem size_tnode : ∀ w : World, (sizeOf 40).run Tryz.prog w = .ok 5 w := fun _ => rfl
end Go.Proofs.YtjnclchbklehgaaGreatDoor

namespace Go.Proofs.YtjnclchbklehgaaGreatDoor
open Go.RowKit TreeMath

theorem info_rnode : (Tryz.prog.info? 45).map (fun i => (i.zero, i.size, i.bytes)) = some (some (.agg #[.int .i64 0, .string ⟨#[]⟩, .string ⟨#[]⟩, .int .i64 0, .slice none 0 0]), 5, 72) := by kernel_rfl
set_option maxRecDepth 100000 in
theorem size_rnode : ∀ w : World, (sizeOf 45).run Tryz.prog w = .ok 5 w := fun _ => rfl
end Go.Proofs.YtjnclchbklehgaaGreatDoor
