/- Boxes of one node, stored into whole. -/
import Derived.Test.YtfmlcddakfbleaaGreatDoorTreeSmall
namespace Go.Proofs.YtfmlcddakfbleaaGreatDoor
open Go.RowKit TreeMath

/-- where the walk stands still -/
def Stay (p : Prop) : Prop := p
theorem Stay.out {p : Prop} (h : Stay p) : p := h
theorem Stay.mk {p : Prop} (h : p) : Stay p := h

/-- a node stored into a box -/
abbrev set5 (W : World) (b : Nat) (T : Tr) : World := ((((W.setCell ⟨b, 0, none⟩ (.int .i64 T.k)).setCell ⟨b, 1, none⟩ (.string T.g)).setCell ⟨b, 2, none⟩ (.string T.t)).setCell ⟨b, 3, none⟩ (.int .i64 T.a)).setCell ⟨b, 4, none⟩ (.slice T.A T.kids.length T.c)
theorem set5_size (W : World) (b : Nat) (T : Tr) : (set5 W b T).heap.size = W.heap.size := by simp [World.setCell]
theorem set5_other {W : World} {b k : Nat} (h : k ≠ b) (T : Tr) : (set5 W b T).heap[k]? = W.heap[k]? := by
  rw [set5, Below.heap_setCell _ _ _ _ h, Below.heap_setCell _ _ _ _ h, Below.heap_setCell _ _ _ _ h, Below.heap_setCell _ _ _ _ h, Below.heap_setCell _ _ _ _ h]
theorem heap_set {W : World} {b i : Nat} {cs : Array Value} {t : TypeId} {fr : Nat × Nat} (h : W.heap[b]? = some (.cells cs t fr)) (v : Value) : (W.setCell ⟨b, i, none⟩ v).heap[b]? = some (.cells (cs.setIfInBounds i v) t fr) := by
  simp [World.setCell, Array.getElem?_modify, h]
theorem set5_self {W : World} {b : Nat} {t : TypeId} {u0 u1 u2 u3 u4 : Value} (h : W.heap[b]? = some (.cells #[u0, u1, u2, u3, u4] t (0, 0))) (T : Tr) : (set5 W b T).heap[b]? = some (.cells (ncc T) t (0, 0)) := by
  have := heap_set (heap_set (heap_set (heap_set (heap_set h (i := 0) (.int .i64 T.k)) (i := 1) (.string T.g)) (i := 2) (.string T.t)) (i := 3) (.int .i64 T.a)) (i := 4) (.slice T.A T.kids.length T.c)
  simpa using this
theorem below_set5 {B : Nat} {w W : World} (h : Below B w W) {b : Nat} (hb : B ≤ b) (T : Tr) : Below B w (set5 W b T) :=
  ((((h.setCell (p := ⟨b, 0, none⟩) hb _).setCell (p := ⟨b, 1, none⟩) hb _).setCell (p := ⟨b, 2, none⟩) hb _).setCell (p := ⟨b, 3, none⟩) hb _).setCell (p := ⟨b, 4, none⟩) hb _
theorem cell_heap {W : World} {b i : Nat} {cs : Array Value} {t : TypeId} {fr : Nat × Nat} (h : W.heap[b]? = some (.cells cs t fr)) : W.cell? ⟨b, i, none⟩ = cs[i]? := by simp [World.cell?, h]
theorem frozen_heap {W : World} {b i : Nat} {cs : Array Value} {t : TypeId} (h : W.heap[b]? = some (.cells cs t (0, 0))) : W.frozen? ⟨b, i, none⟩ = false := by simp [World.frozen?, h]

theorem wp_store_node {o : Oper} {a : Act} {w : World} {K : Act → World → Prop} {Q : Exit → Act → World → Prop} (t : TypeId) (x y : Operand) (ho : o.op = .store t x y) (hsz : ∀ w : World, (sizeOf t).run Tryz.prog w = .ok 5 w) (b : Nat) (T : Tr) (u0 u1 u2 u3 u4 : Value) (t' : TypeId)
    (hx : a.eval x = .pointer (some ⟨b, 0, none⟩)) (hy : a.eval y = nv T) (hc : w.heap[b]? = some (.cells #[u0, u1, u2, u3, u4] t' (0, 0))) (hK : K (a.put o.dst undef) (set5 w b T)) : o.wp Tryz.prog a w K Q := by
  have h1 := heap_set hc (i := 0) (.int .i64 T.k)
  have h2 := heap_set h1 (i := 1) (.string T.g)
  have h3 := heap_set h2 (i := 2) (.string T.t)
  have h4 := heap_set h3 (i := 3) (.int .i64 T.a)
  have c0 := cell_heap hc (i := 0)
  have c1 := cell_heap h1 (i := 1)
  have c2 := cell_heap h2 (i := 2)
  have c3 := cell_heap h3 (i := 3)
  have c4 := cell_heap h4 (i := 4)
  have f0 := frozen_heap hc (i := 0)
  have f1 := frozen_heap h1 (i := 1)
  have f2 := frozen_heap h2 (i := 2)
  have f3 := frozen_heap h3 (i := 3)
  have f4 := frozen_heap h4 (i := 4)
  simp only [List.setIfInBounds_toArray, List.set_cons_zero, List.set_cons_succ, List.getElem?_toArray, List.getElem?_cons_zero, List.getElem?_cons_succ] at c0 c1 c2 c3 c4
  unfold Oper.wp
  simp only [execOp, ho, hx, hy]
  simp [go_sem, hsz, c0, c1, c2, c3, c4, f0, f1, f2, f3, f4]
  exact hK

/-- a node stored into a box, in a plain region -/
theorem wpList_store_node {ops : Array Oper} {rest : List Oper} {o : Oper} {a : Act} {w : World} {Q : Exit → Act → World → Prop} (hg : o.guard = none) (t : TypeId) (x y : Operand) (ho : o.op = .store t x y) (hsz : ∀ w : World, (sizeOf t).run Tryz.prog w = .ok 5 w) (b : Nat) (T : Tr) {u0 u1 u2 u3 u4 : Value} {t' : TypeId}
    (hx : a.eval x = .pointer (some ⟨b, 0, none⟩)) (hy : a.eval y = nv T) (hc : w.heap[b]? = some (.cells #[u0, u1, u2, u3, u4] t' (0, 0))) (h : wpList Tryz.prog ops Q rest (a.put o.dst undef) (set5 w b T)) : wpList Tryz.prog ops Q (o :: rest) a w :=
  wpList_plain hg fun _ hK => wp_store_node t x y ho hsz b T u0 u1 u2 u3 u4 t' hx hy hc (hK _ _ h)
/-- the same, at a step of a region that draws its order -/
theorem step_store_node {ops : Array Oper} {o : Oper} {a : Act} {w : World} {K : Act → World → Prop} {Q : Exit → Act → World → Prop} {E : Prop} (hg : o.guard = none) (t : TypeId) (x y : Operand) (ho : o.op = .store t x y) (hsz : ∀ w : World, (sizeOf t).run Tryz.prog w = .ok 5 w) (b : Nat) (T : Tr) {u0 u1 u2 u3 u4 : Value} {t' : TypeId}
    (hx : a.eval x = .pointer (some ⟨b, 0, none⟩)) (hy : a.eval y = nv T) (hc : w.heap[b]? = some (.cells #[u0, u1, u2, u3, u4] t' (0, 0))) (hK : K (a.put o.dst undef) (set5 w b T)) :
    if Region.wanted o (yielded ops a.tmps) = true then Oper.wp Tryz.prog o a w K Q else E := by
  rw [if_pos (by simp [Region.wanted, hg])]
  exact wp_store_node t x y ho hsz b T u0 u1 u2 u3 u4 t' hx hy hc hK
set_option maxRecDepth 100000 in
theorem size_tnode : ∀ w : World, (sizeOf 30).run Tryz.prog w = .ok 5 w := fun _ => rfl
end Go.Proofs.YtfmlcddakfbleaaGreatDoor
