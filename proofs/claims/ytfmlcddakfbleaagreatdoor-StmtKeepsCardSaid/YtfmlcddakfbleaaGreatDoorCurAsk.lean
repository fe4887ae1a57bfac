/- A cursor's calls that read alone. -/
import Derived.Test.YtfmlcddakfbleaaGreatDoorCurMem
import Derived.Test.YtfmlcddakfbleaaGreatDoorTextStore
namespace Go.Proofs.YtfmlcddakfbleaaGreatDoor
open Go.RowKit SignMath TreeMath

/-- a token stored into a box -/
abbrev set3 (W : World) (b : Nat) (t : Tk) : World := ((W.setCell ⟨b, 0, none⟩ (.int .i64 (t.k : Nat))).setCell ⟨b, 1, none⟩ (.int .i64 (t.a : Nat))).setCell ⟨b, 2, none⟩ (.int .i64 (t.z : Nat))
theorem set3_size (W : World) (b : Nat) (t : Tk) : (set3 W b t).heap.size = W.heap.size := by simp [World.setCell]
theorem set3_self {W : World} {b : Nat} {u0 u1 u2 : Value} (h : W.heap[b]? = some (.cells #[u0, u1, u2] 109 (0, 0))) (t : Tk) : (set3 W b t).heap[b]? = some (tkc t) := by
  have := heap_set (heap_set (heap_set h (i := 0) (.int .i64 (t.k : Nat))) (i := 1) (.int .i64 (t.a : Nat))) (i := 2) (.int .i64 (t.z : Nat))
  simpa using this
theorem below_set3 {B : Nat} {w W : World} (h : Below B w W) {b : Nat} (hb : B ≤ b) (t : Tk) : Below B w (set3 W b t) :=
  ((h.setCell (p := ⟨b, 0, none⟩) hb _).setCell (p := ⟨b, 1, none⟩) hb _).setCell (p := ⟨b, 2, none⟩) hb _
set_option maxRecDepth 100000 in
theorem size_tok : ∀ w : World, (sizeOf 109).run Tryz.prog w = .ok 3 w := fun _ => rfl
theorem wp_store_tok {o : Oper} {a : Act} {w : World} {K : Act → World → Prop} {Q : Exit → Act → World → Prop} (t : TypeId) (x y : Operand) (ho : o.op = .store t x y) (hsz : ∀ w : World, (sizeOf t).run Tryz.prog w = .ok 3 w) (b : Nat) (T : Tk) (u0 u1 u2 : Value) (t' : TypeId)
    (hx : a.eval x = .pointer (some ⟨b, 0, none⟩)) (hy : a.eval y = tkv T) (hc : w.heap[b]? = some (.cells #[u0, u1, u2] t' (0, 0))) (hK : K (a.put o.dst undef) (set3 w b T)) : o.wp Tryz.prog a w K Q := by
  have h1 := heap_set hc (i := 0) (.int .i64 (T.k : Nat))
  have h2 := heap_set h1 (i := 1) (.int .i64 (T.a : Nat))
  have c0 := cell_heap hc (i := 0)
  have c1 := cell_heap h1 (i := 1)
  have c2 := cell_heap h2 (i := 2)
  have f0 := frozen_heap hc (i := 0)
  have f1 := frozen_heap h1 (i := 1)
  have f2 := frozen_heap h2 (i := 2)
  simp only [List.setIfInBounds_toArray, List.set_cons_zero, List.set_cons_succ, List.getElem?_toArray, List.getElem?_cons_zero, List.getElem?_cons_succ] at c0 c1 c2
  unfold Oper.wp
  simp only [execOp, ho, hx, hy]
  simp [go_sem, hsz, c0, c1, c2, f0, f1, f2]
  exact hK
theorem step_store_tok {ops : Array Oper} {o : Oper} {a : Act} {w : World} {K : Act → World → Prop} {Q : Exit → Act → World → Prop} {E : Prop} (hg : o.guard = none) (t : TypeId) (x y : Operand) (ho : o.op = .store t x y) (hsz : ∀ w : World, (sizeOf t).run Tryz.prog w = .ok 3 w) (b : Nat) (T : Tk) {u0 u1 u2 : Value} {t' : TypeId}
    (hx : a.eval x = .pointer (some ⟨b, 0, none⟩)) (hy : a.eval y = tkv T) (hc : w.heap[b]? = some (.cells #[u0, u1, u2] t' (0, 0))) (hK : K (a.put o.dst undef) (set3 w b T)) :
    if Region.wanted o (yielded ops a.tmps) = true then Oper.wp Tryz.prog o a w K Q else E := by
  rw [if_pos (by simp [Region.wanted, hg])]
  exact wp_store_tok t x y ho hsz b T u0 u1 u2 t' hx hy hc hK
/-- a token's box -/
theorem heap3 {W : World} {b : Nat} {t : Tk} (h : W.heap[b]? = some (tkc t)) : W.cell? ⟨b, 0, none⟩ = some (.int .i64 (t.k : Nat)) ∧ W.cell? ⟨b, 1, none⟩ = some (.int .i64 (t.a : Nat)) ∧ W.cell? ⟨b, 2, none⟩ = some (.int .i64 (t.z : Nat)) := ⟨cell_heap h, cell_heap h, cell_heap h⟩

theorem CuM.tokAt {b g off c : Nat} {C : Cu} {W : World} (h : CuM b (some ⟨g, off, none⟩) c C W) {k : Nat} {t : Tk} (hk : C.L[k]? = some t) :
    W.cell? ⟨g, off + k * 3, none⟩ = some (.int .i64 (t.k : Nat)) ∧ W.cell? ⟨g, off + k * 3 + 1, none⟩ = some (.int .i64 (t.a : Nat)) ∧ W.cell? ⟨g, off + k * 3 + 2, none⟩ = some (.int .i64 (t.z : Nat)) := by
  obtain ⟨g', off', e, _, h0, h1, h2⟩ := h.tok hk
  injection e with e
  injection e with e1 e2
  subst e1 e2
  exact ⟨h0, h1, h2⟩

/-- kind and text of a token ahead -/
def Cu.pk (C : Cu) (i : Int) : Int × ByteArray := if i < 0 then (0, ⟨#[]⟩) else match C.nxt i.toNat with
  | none => (0, ⟨#[]⟩)
  | some t => (t.k, C.s.extract t.a t.z)
/-- where it failed, and with what -/
def Cu.fl (C : Cu) : Value := if C.f = 0 then .tuple #[.int .i64 0, .nilIface] else .tuple #[.int .i64 C.p, errn C.f]
/-- all that is behind -/
def Cu.en (C : Cu) : ByteArray := if C.f = 0 ∧ C.left = 0 then C.s.extract C.beh C.s.size else ⟨#[]⟩

section
variable {b : Nat} {A : Option Addr} {c : Nat} {C : Cu} {W : World}
set_option maxHeartbeats 1000000 in
theorem at_any (h : CuM b A c C W) (hk : C.Ok) : Calls Tryz.prog 51 #[.pointer (some ⟨b, 0, none⟩)] W (Rd W (.int .i64 (C.at : Nat))) := by
  have HL := Lib.hid (left_any h hk)
  have HM := Lib.hid h
  unfold Cu.at
  unfold Rd at HL ⊢
  cases hx : C.nxt 0 with
  | none =>
    have hl : C.left = 0 := by have := Cu.nxt_none hx hk.n; omega
    rw [hl] at HL
    clear hx hl h hk
    go_enter Tryz.func51, Tryz.ntmps51
    go_wp2_with fail
    refine HL.out.mono ?_
    rintro e w1 ⟨rfl, hb⟩
    obtain ⟨c0, c1, c2, c3, c4, c5⟩ := (HM.out.below hb).cells
    have HB := Lib.hid hb
    clear hb
    go_wp2
    go_ret
    exact ⟨rfl, HB.out⟩
  | some t =>
    obtain ⟨hf, ht⟩ := Cu.nxt_some hx
    have hl := Cu.nxt_left hx
    have hne : (((C.left : Nat) : Int) == 0) = false := by rw [beq_eq_false_iff_ne]; omega
    rw [Nat.add_zero] at ht
    have hnl := (List.getElem?_eq_some_iff.1 ht).1
    have z1 : (0 : Int) ≤ C.n := by omega
    have z2 : (C.n : Int) < C.L.length := by omega
    have HT := Lib.hid ht
    generalize C.left = q at HL hne
    clear hx hl h hk hf ht hnl
    go_enter Tryz.func51, Tryz.ntmps51
    go_wp2_with fail
    refine HL.out.mono ?_
    rintro e w1 ⟨rfl, hb⟩
    have hm := HM.out.below hb
    obtain ⟨g, off, rfl, -, t0, t1, t2⟩ := hm.tok HT.out
    obtain ⟨c0, c1, c2, c3, c4, c5⟩ := hm.cells
    have HB := Lib.hid hb
    clear hb hm HM HL
    go_wp2
    go_quiet (fail)
    go_wp2
    go_ret
    exact ⟨rfl, below_drewN HB.out _⟩

set_option maxHeartbeats 1000000 in
theorem behind_any (h : CuM b A c C W) (hk : C.Ok) : Calls Tryz.prog 52 #[.pointer (some ⟨b, 0, none⟩)] W (Rd W (.int .i64 (C.beh : Nat))) := by
  have HM := Lib.hid h
  unfold Cu.beh Rd
  by_cases hn : C.n = 0
  · rw [if_pos hn]
    obtain ⟨c0, c1, c2, c3, c4, c5⟩ := h.cells
    rw [hn] at c2
    clear h hk hn HM
    go_enter Tryz.func52, Tryz.ntmps52
    go_wp2
    go_ret
    exact ⟨rfl, Below.refl _ _⟩
  · rw [if_neg hn]
    have hnl := hk.n
    obtain ⟨q, hq⟩ : ∃ q, C.n = q + 1 := ⟨C.n - 1, by omega⟩
    rw [hq, Nat.add_sub_cancel]
    have ht : C.L[q]? = some C.L[q] := List.getElem?_eq_getElem (by omega)
    generalize C.L[q] = t at ht
    rw [ht]
    obtain ⟨g, off, rfl, -, t0, t1, t2⟩ := h.tok ht
    obtain ⟨c0, c1, c2, c3, c4, c5⟩ := h.cells
    have hne : (((C.n : Nat) : Int) == 0) = false := by rw [beq_eq_false_iff_ne]; omega
    have hqi : ((C.n : Nat) : Int) - 1 = (q : Nat) := by omega
    have z1 : (0 : Int) ≤ q := by omega
    have z2 : (q : Int) < C.L.length := by omega
    have hl4 := hk.len
    have hq4 : (q : Int) ≤ 4000 := by omega
    clear h hk hn ht hnl hq HM hl4
    go_enter Tryz.func52, Tryz.ntmps52
    go_wp2
    go_quiet (fail)
    go_wp2
    go_ret
    exact ⟨rfl, below_drewN (Below.refl _ _) _⟩










set_option maxHeartbeats 1000000 in
theorem failed_any (h : CuM b A c C W) : Calls Tryz.prog 27 #[.pointer (some ⟨b, 0, none⟩)] W (Rd W C.fl) := by
  obtain ⟨c0, c1, c2, c3, c4, c5⟩ := h.cells
  unfold Cu.fl Rd
  by_cases hf : C.f = 0
  · rw [if_pos hf]
    rw [hf] at c4
    clear h hf
    go_enter Tryz.func27, Tryz.ntmps27
    go_wp2
    refine bodyPost_ret (v := .tuple #[.int .i64 0, .nilIface]) (by simp [results, Tryz.results27, go_sem]) rfl ⟨rfl, Below.refl _ _⟩
  · rw [if_neg hf]
    have hb : (C.f == 0) = false := by rw [beq_eq_false_iff_ne]; exact hf
    clear h hf
    go_enter Tryz.func27, Tryz.ntmps27
    go_wp2
    go_quiet (fail)
    go_wp2
    refine bodyPost_ret (v := .tuple #[.int .i64 C.p, errn C.f]) (by simp [results, Tryz.results27, go_sem]) rfl ⟨rfl, below_drewN (Below.refl _ _) _⟩
end
end Go.Proofs.YtfmlcddakfbleaaGreatDoor
