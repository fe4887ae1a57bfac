/- A cursor, plainly and in memory. -/
import Derived.Test.YtfmlcddakfbleaaGreatDoorLexChain
import Derived.Test.YtfmlcddakfbleaaGreatDoorTreeBK
import Derived.Deep.QuietTactic
import Derived.BigQuiet
import Derived.Test.YtfmlcddakfbleaaGreatDoorTextStore
namespace Go.Proofs.YtfmlcddakfbleaaGreatDoor
open Go.RowKit SignMath TreeMath

/-- a cursor: its text, its tokens, how many were taken, how many constructs, its fault and place -/
structure Cu where
  s : ByteArray
  L : List Tk
  n : Nat
  d : Nat
  f : Int
  p : Int

/-- how many tokens are left -/
def Cu.left (C : Cu) : Nat := if C.f = 0 then C.L.length - C.n else 0
/-- a token ahead -/
def Cu.nxt (C : Cu) (i : Nat) : Option Tk := if C.f = 0 then C.L[C.n + i]? else none
/-- where the next token begins -/
def Cu.at (C : Cu) : Nat := match C.nxt 0 with
  | some t => t.a
  | none => C.s.size
/-- where the last taken one ends -/
def Cu.beh (C : Cu) : Nat := if C.n = 0 then 0 else match C.L[C.n - 1]? with
  | some t => t.z
  | none => 0
structure Cu.Ok (C : Cu) : Prop where
  n : C.n ≤ C.L.length
  sz : C.s.size ≤ 4000
  len : C.L.length ≤ 4000
  tok : ∀ t ∈ C.L, t.a < t.z ∧ t.z ≤ C.s.size
  ord : ∀ (i : Nat) (x y : Tk), C.L[i]? = some x → C.L[i + 1]? = some y → x.z ≤ y.a
  d : C.d ≤ 1000
  f : 0 ≤ C.f ∧ C.f ≤ 15
  p : 0 ≤ C.p ∧ C.p ≤ 4000

theorem Cu.nxt_some {C : Cu} {i : Nat} {t : Tk} (h : C.nxt i = some t) : C.f = 0 ∧ C.L[C.n + i]? = some t := by
  unfold Cu.nxt at h
  split at h
  · exact ⟨by assumption, h⟩
  · cases h
theorem Cu.nxt_left {C : Cu} {i : Nat} {t : Tk} (h : C.nxt i = some t) : i < C.left := by
  obtain ⟨h1, h2⟩ := Cu.nxt_some h
  have := (List.getElem?_eq_some_iff.1 h2).1
  unfold Cu.left
  rw [if_pos h1]
  omega
theorem Cu.nxt_none {C : Cu} {i : Nat} (h : C.nxt i = none) (hn : C.n ≤ C.L.length) : C.left ≤ i := by
  unfold Cu.nxt at h
  unfold Cu.left
  split
  · rename_i hf
    rw [if_pos hf] at h
    have := List.getElem?_eq_none_iff.1 h
    omega
  · omega
theorem Cu.Ok.at_le {C : Cu} (h : C.Ok) : C.at ≤ C.s.size := by
  unfold Cu.at
  cases hx : C.nxt 0 with
  | none => exact Nat.le_refl _
  | some t =>
    have := h.tok t (List.mem_of_getElem? (Cu.nxt_some hx).2)
    simp only
    omega
theorem Cu.Ok.beh_le {C : Cu} (h : C.Ok) : C.beh ≤ C.s.size := by
  unfold Cu.beh
  split
  · omega
  · cases hx : C.L[C.n - 1]? with
    | none => simp
    | some t => have := h.tok t (List.mem_of_getElem? hx); simp only; omega
theorem Cu.Ok.beh_at {C : Cu} (h : C.Ok) {t : Tk} (ht : C.L[C.n]? = some t) : C.beh ≤ t.a := by
  unfold Cu.beh
  split
  · omega
  · rename_i hn
    cases hx : C.L[C.n - 1]? with
    | none => simp
    | some x => exact h.ord (C.n - 1) x t hx (by rw [show C.n - 1 + 1 = C.n from by omega]; exact ht)

abbrev cubx (C : Cu) (A : Option Addr) (c : Nat) : Obj := .cells #[.string C.s, .slice A C.L.length c, .int .i64 (C.n : Nat), .int .i64 (C.d : Nat), .int .i64 C.f, .int .i64 C.p] 84 (0, 0)
/-- a cursor in memory -/
structure CuM (b : Nat) (A : Option Addr) (c : Nat) (C : Cu) (W : World) : Prop where
  box : W.heap[b]? = some (cubx C A c)
  row : Rdc W W.heap.size A (tcells C.L)
  ne : 0 < (tcells C.L).length → ∀ a, A = some a → a.block ≠ b

section
variable {b : Nat} {A : Option Addr} {c : Nat} {C : Cu} {W W' : World}
theorem CuM.below (h : CuM b A c C W) (hb : Below W.heap.size W W') : CuM b A c C W' :=
  ⟨(hb.block b (Array.getElem?_eq_some_iff.1 h.box).1).trans h.box, h.row.after hb, h.ne⟩
theorem CuM.lt (h : CuM b A c C W) : b < W.heap.size := (Array.getElem?_eq_some_iff.1 h.box).1
theorem CuM.cells (h : CuM b A c C W) : W.cell? ⟨b, 0, none⟩ = some (.string C.s) ∧ W.cell? ⟨b, 1, none⟩ = some (.slice A C.L.length c) ∧ W.cell? ⟨b, 2, none⟩ = some (.int .i64 (C.n : Nat)) ∧ W.cell? ⟨b, 3, none⟩ = some (.int .i64 (C.d : Nat)) ∧ W.cell? ⟨b, 4, none⟩ = some (.int .i64 C.f) ∧ W.cell? ⟨b, 5, none⟩ = some (.int .i64 C.p) :=
  ⟨cell_heap h.box, cell_heap h.box, cell_heap h.box, cell_heap h.box, cell_heap h.box, cell_heap h.box⟩
theorem CuM.frz (h : CuM b A c C W) (i : Nat) : W.frozen? ⟨b, i, none⟩ = false := frozen_heap h.box
/-- one of its numbers is set -/
theorem CuM.set (h : CuM b A c C W) (i : Nat) (v : Value) {C' : Cu} (hL : C'.L = C.L) (hv : (#[.string C.s, .slice A C.L.length c, .int .i64 (C.n : Nat), .int .i64 (C.d : Nat), .int .i64 C.f, .int .i64 C.p] : Array Value).setIfInBounds i v = #[.string C'.s, .slice A C'.L.length c, .int .i64 (C'.n : Nat), .int .i64 (C'.d : Nat), .int .i64 C'.f, .int .i64 C'.p]) :
    CuM b A c C' (W.setCell ⟨b, i, none⟩ v) := by
  refine ⟨?_, ?_, by rw [hL]; exact h.ne⟩
  · have := heap_set h.box (i := i) v
    rw [hv] at this
    exact this
  · rw [hL, size_set]
    intro hn
    obtain ⟨g, off, rfl, hg, hc⟩ := h.row hn
    have hne := h.ne hn _ rfl
    exact ⟨g, off, rfl, hg, fun j u hu => (cell_of (Below.heap_setCell _ _ _ _ hne)).trans (hc j u hu)⟩
/-- a token of its row -/
theorem CuM.tok (h : CuM b A c C W) {k : Nat} {t : Tk} (hk : C.L[k]? = some t) : ∃ g off, A = some ⟨g, off, none⟩ ∧ g < W.heap.size ∧
    W.cell? ⟨g, off + k * 3, none⟩ = some (.int .i64 (t.k : Nat)) ∧ W.cell? ⟨g, off + k * 3 + 1, none⟩ = some (.int .i64 (t.a : Nat)) ∧ W.cell? ⟨g, off + k * 3 + 2, none⟩ = some (.int .i64 (t.z : Nat)) := tok_at h.row hk
end
/-- a call that reads alone -/
def Rd (W : World) (v : Value) (e : Ending) (W' : World) : Prop := e = .returned v ∧ Below W.heap.size W W'

section
variable {b : Nat} {A : Option Addr} {c : Nat} {C : Cu} {W : World}

set_option maxHeartbeats 1000000 in
theorem left_any (h : CuM b A c C W) (hk : C.Ok) : Calls Tryz.prog 25 #[.pointer (some ⟨b, 0, none⟩)] W (Rd W (.int .i64 (C.left : Nat))) := by
  obtain ⟨c0, c1, c2, c3, c4, c5⟩ := h.cells
  have hn := hk.n
  unfold Cu.left Rd
  by_cases hf : C.f = 0
  · rw [if_pos hf]
    rw [hf] at c4
    have hs : ((C.L.length - C.n : Nat) : Int) = (C.L.length : Int) - C.n := by omega
    have hl := hk.len
    have hz : wrap64 ((C.L.length : Int) - C.n) = (C.L.length : Int) - C.n := by unfold wrap64; omega
    rw [hs]
    clear hf hs h hk
    go_enter Tryz.func25, Tryz.ntmps25
    go_wp2
    go_quiet (fail)
    go_wp2
    go_ret
    exact ⟨rfl, below_drewN (Below.refl _ _) _⟩
  · rw [if_neg hf]
    have hb : (C.f == 0) = false := by rw [beq_eq_false_iff_ne]; exact hf
    have hb2 : (C.f != 0) = true := by simp [bne, hb]
    clear h hk
    go_enter Tryz.func25, Tryz.ntmps25
    go_wp2
    go_ret
    exact ⟨rfl, Below.refl _ _⟩
end
theorem left_nil (W : World) : Calls Tryz.prog 25 #[.pointer none] W (Rd W (.int .i64 0)) := by
  go_enter Tryz.func25, Tryz.ntmps25
  go_wp2
  go_ret
  exact ⟨rfl, Below.refl _ _⟩
end Go.Proofs.YtfmlcddakfbleaaGreatDoor

namespace Go.Proofs.YtfmlcddakfbleaaGreatDoor
open Go.RowKit SignMath TreeMath

/-- a token stored into a box -/
abbrev set3 (W : World) (b : Nat) (t : Tk) : World := ((W.setCell ⟨b, 0, none⟩ (.int .i64 (t.k : Nat))).setCell ⟨b, 1, none⟩ (.int .i64 (t.a : Nat))).setCell ⟨b, 2, none⟩ (.int .i64 (t.z : Nat))
theorem set3_size (W : World) (b : Nat) (t : Tk) : (set3 W b t).heap.size = W.heap.size := by simp [World.setCell]
theorem set3_self {W : World} {b : Nat} {u0 u1 u2 : Value} (h : W.heap[b]? = some (.cells #[u0, u1, u2] 109 (0, 0))) (t : Tk) : (set3 W b t).heap[b]? = some (tkc t) := by
  have := heap_set (heap_set (heap_set h (i := 0) (.int .i64 (t.k : Nat))) (i := 1) (.int .i64 (t.a : Nat))) (i := 2) (.int .i64 (t.z : Nat))
  simpa using this
theorem below_set3 {B : Nat} {w W : World} (h : Below B w W) {b : Nat} (hb : B ≤ b) (t : Tk) : Below B w (set3 W b t) :=
  ((h.setCell (p := ⟨b, 0, none⟩) hb _).setCell (p := ⟨b, 1, none⟩) hb _).setCell (p := ⟨b, 2, none⟩) hb _
set_option maxRecDepth 100000 in
theorem size_tok : ∀ w : World, (sizeOf 109).run Tryz.prog w = .ok 3 w := fun _ => rfl
theorem wp_store_tok {o : Oper} {a : Act} {w : World} {K : Act → World → Prop} {Q : Exit → Act → World → Prop} (t : TypeId) (x y : Operand) (ho : o.op = .store t x y) (hsz : ∀ w : World, (sizeOf t).run Tryz.prog w = .ok 3 w) (b : Nat) (T : Tk) (u0 u1 u2 : Value) (t' : TypeId)
    (hx : a.eval x = .pointer (some ⟨b, 0, none⟩)) (hy : a.eval y = tkv T) (hc : w.heap[b]? = some (.cells #[u0, u1, u2] t' (0, 0))) (hK : K (a.put o.dst undef) (set3 w b T)) : o.wp Tryz.prog a w K Q := by
  have h1 := heap_set hc (i := 0) (.int .i64 (T.k : Nat))
  have h2 := heap_set h1 (i := 1) (.int .i64 (T.a : Nat))
  have c0 := cell_heap hc (i := 0)
  have c1 := cell_heap h1 (i := 1)
  have c2 := cell_heap h2 (i := 2)
  have f0 := frozen_heap hc (i := 0)
  have f1 := frozen_heap h1 (i := 1)
  have f2 := frozen_heap h2 (i := 2)
  simp only [List.setIfInBounds_toArray, List.set_cons_zero, List.set_cons_succ, List.getElem?_toArray, List.getElem?_cons_zero, List.getElem?_cons_succ] at c0 c1 c2
  unfold Oper.wp
  simp only [execOp, ho, hx, hy]
  simp [go_sem, hsz, c0, c1, c2, f0, f1, f2]
  exact hK
theorem step_store_tok {ops : Array Oper} {o : Oper} {a : Act} {w : World} {K : Act → World → Prop} {Q : Exit → Act → World → Prop} {E : Prop} (hg : o.guard = none) (t : TypeId) (x y : Operand) (ho : o.op = .store t x y) (hsz : ∀ w : World, (sizeOf t).run Tryz.prog w = .ok 3 w) (b : Nat) (T : Tk) {u0 u1 u2 : Value} {t' : TypeId}
    (hx : a.eval x = .pointer (some ⟨b, 0, none⟩)) (hy : a.eval y = tkv T) (hc : w.heap[b]? = some (.cells #[u0, u1, u2] t' (0, 0))) (hK : K (a.put o.dst undef) (set3 w b T)) :
    if Region.wanted o (yielded ops a.tmps) = true then Oper.wp Tryz.prog o a w K Q else E := by
  rw [if_pos (by simp [Region.wanted, hg])]
  exact wp_store_tok t x y ho hsz b T u0 u1 u2 t' hx hy hc hK
/-- a token's box -/
theorem heap3 {W : World} {b : Nat} {t : Tk} (h : W.heap[b]? = some (tkc t)) : W.cell? ⟨b, 0, none⟩ = some (.int .i64 (t.k : Nat)) ∧ W.cell? ⟨b, 1, none⟩ = some (.int .i64 (t.a : Nat)) ∧ W.cell? ⟨b, 2, none⟩ = some (.int .i64 (t.z : Nat)) := ⟨cell_heap h, cell_heap h, cell_heap h⟩

theorem CuM.tokAt {b g off c : Nat} {C : Cu} {W : World} (h : CuM b (some ⟨g, off, none⟩) c C W) {k : Nat} {t : Tk} (hk : C.L[k]? = some t) :
    W.cell? ⟨g, off + k * 3, none⟩ = some (.int .i64 (t.k : Nat)) ∧ W.cell? ⟨g, off + k * 3 + 1, none⟩ = some (.int .i64 (t.a : Nat)) ∧ W.cell? ⟨g, off + k * 3 + 2, none⟩ = some (.int .i64 (t.z : Nat)) := by
  obtain ⟨g', off', e, _, h0, h1, h2⟩ := h.tok hk
  injection e with e
  injection e with e1 e2
  subst e1 e2
  exact ⟨h0, h1, h2⟩

/-- kind and text of a token ahead -/
def Cu.pk (C : Cu) (i : Int) : Int × ByteArray := if i < 0 then (0, ⟨#[]⟩) else match C.nxt i.toNat with
  | none => (0, ⟨#[]⟩)
  | some t => (t.k, C.s.extract t.a t.z)
/-- where it failed, and with what -/
def Cu.fl (C : Cu) : Value := if C.f = 0 then .tuple #[.int .i64 0, .nilIface] else .tuple #[.int .i64 C.p, errn C.f]
/-- all that is behind -/
def Cu.en (C : Cu) : ByteArray := if C.f = 0 ∧ C.left = 0 then C.s.extract C.beh C.s.size else ⟨#[]⟩

section
variable {b : Nat} {A : Option Addr} {c : Nat} {C : Cu} {W : World}
set_option maxHeartbeats 1000000 in
theorem at_any (h : CuM b A c C W) (hk : C.Ok) : Calls Tryz.prog 51 #[.pointer (some ⟨b, 0, none⟩)] W (Rd W (.int .i64 (C.at : Nat))) := by
  have HL := Lib.hid (left_any h hk)
  have HM := Lib.hid h
  unfold Cu.at
  unfold Rd at HL ⊢
  cases hx : C.nxt 0 with
  | none =>
    have hl : C.left = 0 := by have := Cu.nxt_none hx hk.n; omega
    rw [hl] at HL
    clear hx hl h hk
    go_enter Tryz.func51, Tryz.ntmps51
    go_wp2_with fail
    refine HL.out.mono ?_
    rintro e w1 ⟨rfl, hb⟩
    obtain ⟨c0, c1, c2, c3, c4, c5⟩ := (HM.out.below hb).cells
    have HB := Lib.hid hb
    clear hb
    go_wp2
    go_ret
    exact ⟨rfl, HB.out⟩
  | some t =>
    obtain ⟨hf, ht⟩ := Cu.nxt_some hx
    have hl := Cu.nxt_left hx
    have hne : (((C.left : Nat) : Int) == 0) = false := by rw [beq_eq_false_iff_ne]; omega
    rw [Nat.add_zero] at ht
    have hnl := (List.getElem?_eq_some_iff.1 ht).1
    have z1 : (0 : Int) ≤ C.n := by omega
    have z2 : (C.n : Int) < C.L.length := by omega
    have HT := Lib.hid ht
    generalize C.left = q at HL hne
    clear hx hl h hk hf ht hnl
    go_enter Tryz.func51, Tryz.ntmps51
    go_wp2_with fail
    refine HL.out.mono ?_
    rintro e w1 ⟨rfl, hb⟩
    have hm := HM.out.below hb
    obtain ⟨g, off, rfl, -, t0, t1, t2⟩ := hm.tok HT.out
    obtain ⟨c0, c1, c2, c3, c4, c5⟩ := hm.cells
    have HB := Lib.hid hb
    clear hb hm HM HL
    go_wp2
    go_quiet (fail)
    go_wp2
    go_ret
    exact ⟨rfl, below_drewN HB.out _⟩

set_option maxHeartbeats 1000000 in
theorem behind_any (h : CuM b A c C W) (hk : C.Ok) : Calls Tryz.prog 52 #[.pointer (some ⟨b, 0, none⟩)] W (Rd W (.int .i64 (C.beh : Nat))) := by
  have HM := Lib.hid h
  unfold Cu.beh Rd
  by_cases hn : C.n = 0
  · rw [if_pos hn]
    obtain ⟨c0, c1, c2, c3, c4, c5⟩ := h.cells
    rw [hn] at c2
    clear h hk hn HM
    go_enter Tryz.func52, Tryz.ntmps52
    go_wp2
    go_ret
    exact ⟨rfl, Below.refl _ _⟩
  · rw [if_neg hn]
    have hnl := hk.n
    obtain ⟨q, hq⟩ : ∃ q, C.n = q + 1 := ⟨C.n - 1, by omega⟩
    rw [hq, Nat.add_sub_cancel]
    have ht : C.L[q]? = some C.L[q] := List.getElem?_eq_getElem (by omega)
    generalize C.L[q] = t at ht
    rw [ht]
    obtain ⟨g, off, rfl, -, t0, t1, t2⟩ := h.tok ht
    obtain ⟨c0, c1, c2, c3, c4, c5⟩ := h.cells
    have hne : (((C.n : Nat) : Int) == 0) = false := by rw [beq_eq_false_iff_ne]; omega
    have hqi : ((C.n : Nat) : Int) - 1 = (q : Nat) := by omega
    have z1 : (0 : Int) ≤ q := by omega
    have z2 : (q : Int) < C.L.length := by omega
    have hl4 := hk.len
    have hq4 : (q : Int) ≤ 4000 := by omega
    clear h hk hn ht hnl hq HM hl4
    go_enter Tryz.func52, Tryz.ntmps52
    go_wp2
    go_quiet (fail)
    go_wp2
    go_ret
    exact ⟨rfl, below_drewN (Below.refl _ _) _⟩










set_option maxHeartbeats 1000000 in
theorem failed_any (h : CuM b A c C W) : Calls Tryz.prog 27 #[.pointer (some ⟨b, 0, none⟩)] W (Rd W C.fl) := by
  obtain ⟨c0, c1, c2, c3, c4, c5⟩ := h.cells
  unfold Cu.fl Rd
  by_cases hf : C.f = 0
  · rw [if_pos hf]
    rw [hf] at c4
    clear h hf
    go_enter Tryz.func27, Tryz.ntmps27
    go_wp2
    refine bodyPost_ret (v := .tuple #[.int .i64 0, .nilIface]) (by simp [results, Tryz.results27, go_sem]) rfl ⟨rfl, Below.refl _ _⟩
  · rw [if_neg hf]
    have hb : (C.f == 0) = false := by rw [beq_eq_false_iff_ne]; exact hf
    clear h hf
    go_enter Tryz.func27, Tryz.ntmps27
    go_wp2
    go_quiet (fail)
    go_wp2
    refine bodyPost_ret (v := .tuple #[.int .i64 C.p, errn C.f]) (by simp [results, Tryz.results27, go_sem]) rfl ⟨rfl, below_drewN (Below.refl _ _) _⟩
end
end Go.Proofs.YtfmlcddakfbleaaGreatDoor

namespace Go.Proofs.YtfmlcddakfbleaaGreatDoor
open Go.RowKit SignMath TreeMath

section
variable {b : Nat} {A : Option Addr} {c : Nat} {C : Cu} {W : World}

set_option maxRecDepth 100000 in
set_option maxHeartbeats 2000000 in
theorem peek_any (i : Int) (hi : rng i) (h : CuM b A c C W) (hk : C.Ok) : Calls Tryz.prog 95 #[.pointer (some ⟨b, 0, none⟩), .int .i64 i] W (Rd W (.tuple #[.int .i64 (C.pk i).1, .string (C.pk i).2])) := by
  have HL := Lib.hid (left_any h hk)
  have HM := Lib.hid h
  unfold Cu.pk
  unfold Rd at HL ⊢
  by_cases hn : i < 0
  · rw [if_pos hn]
    clear h hk HL HM
    go_enter Tryz.func95, Tryz.ntmps95
    go_wp2
    refine bodyPost_ret (v := .tuple #[.int .i64 0, .string ⟨#[]⟩]) (by simp [results, Tryz.results95, go_sem]) rfl ⟨rfl, Below.refl _ _⟩
  · rw [if_neg hn]
    obtain ⟨j, rfl⟩ : ∃ j : Nat, i = j := ⟨i.toNat, by omega⟩
    rw [Int.toNat_natCast]
    have n0 : ¬ ((j : Int) < 0) := by omega
    cases hx : C.nxt j with
    | none =>
      have hl := Cu.nxt_none hx hk.n
      have hge : ((C.left : Nat) : Int) ≤ (j : Int) := by omega
      generalize C.left = q at HL hge
      clear hx hl h hk hn HM hi
      go_enter Tryz.func95, Tryz.ntmps95
      go_wp2_with fail
      refine HL.out.mono ?_
      rintro e w1 ⟨rfl, hb⟩
      go_wp2
      refine bodyPost_ret (v := .tuple #[.int .i64 0, .string ⟨#[]⟩]) (by simp [results, Tryz.results95, go_sem]) rfl ⟨rfl, hb⟩
    | some t =>
      obtain ⟨hf, ht⟩ := Cu.nxt_some hx
      have hl := Cu.nxt_left hx
      have hlt : ¬ (((C.left : Nat) : Int) ≤ (j : Int)) := by omega
      have hnl := (List.getElem?_eq_some_iff.1 ht).1
      have hlen := hk.len
      have htk := hk.tok t (List.mem_of_getElem? ht)
      have hw : wrap64 (((C.n : Nat) : Int) + (j : Nat)) = ((C.n + j : Nat) : Int) := by unfold wrap64; omega
      have hw2 : ((C.n : Nat) : Int) + (j : Nat) = ((C.n + j : Nat) : Int) := by omega
      have z1 : (0 : Int) ≤ ((C.n + j : Nat) : Int) := by omega
      have z2 : ((C.n + j : Nat) : Int) < C.L.length := by omega
      have z3 : ((C.n + j : Nat) : Int) ≤ 4000 := by omega
      have HT := Lib.hid ht
      have HTX : Hid (ttx C.s (toZ t) = C.s.extract t.a t.z) := Lib.hid (by unfold ttx toZ; rw [if_pos ⟨by simp, by simp; omega, by simp; omega⟩]; rfl)
      generalize C.left = q at HL hlt
      clear hx hl h hk hf ht hnl hn hlen htk hi
      generalize hkk : C.n + j = k at hw hw2 z1 z2 z3 HT
      go_enter Tryz.func95, Tryz.ntmps95
      go_wp2_with fail
      refine HL.out.mono ?_
      rintro e w1 ⟨rfl, hb⟩
      have hm := HM.out.below hb
      obtain ⟨g, off, rfl, -, -, -, -⟩ := hm.tok HT.out
      have HB := Lib.hid hb
      clear hb HM HL
      go_wp2
      rename_i K0 hK0
      refine wp_region_noPanic (wp_region_held (S := fun W' : World => CuM b (some ⟨g, off, none⟩) c C W' ∧ True) (by kernel_rfl) ?_)
      have hm1 : CuM b (some ⟨g, off, none⟩) c C w1.drew := hm.below ⟨rfl, rfl, rfl, Nat.le_refl _, fun _ _ => rfl⟩
      have hb1 : Below W.heap.size W w1.drew := HB.out.trans ⟨rfl, rfl, rfl, Nat.le_refl _, fun _ _ => rfl⟩
      show wpAnyH _ _ _ _ _ _ _ _ w1.drew
      generalize w1.drew = w2 at hm1 hb1 ⊢
      refine wpAnyH_take_d (i := 0) (v := .pointer (some ⟨b, 0, none⟩)) 15 rfl rfl (by kernel_rfl) (by kernel_rfl) (by kernel_rfl) (fun _ _ _ h => h) (Or.inl ⟨by kernel_rfl, fun w' hS' => ?y0⟩) (⟨hm1, trivial⟩) ?_
      case y0 => (clear hS'; go_simp)
      simp only [Act.put, List.setIfInBounds_toArray, List.set_cons_zero, List.set_cons_succ]
      refine wpAnyH_take_d (i := 1) (v := .pointer (some ⟨b, 0, none⟩)) 16 rfl rfl (by kernel_rfl) (by kernel_rfl) (by kernel_rfl) (fun _ _ _ h => h) (Or.inl ⟨by kernel_rfl, fun w' hS' => ?y1⟩) (⟨hm1, trivial⟩) ?_
      case y1 => (clear hS'; go_simp)
      simp only [Act.put, List.setIfInBounds_toArray, List.set_cons_zero, List.set_cons_succ]
      refine wpAnyH_take_d (i := 2) (v := .pointer (some ⟨b, 1, none⟩)) 17 rfl rfl (by kernel_rfl) (by kernel_rfl) (by kernel_rfl) (fun _ _ _ h => h) (Or.inl ⟨by kernel_rfl, fun w' hS' => ?y2⟩) (⟨hm1, trivial⟩) ?_
      case y2 => (clear hS'; go_simp)
      simp only [Act.put, List.setIfInBounds_toArray, List.set_cons_zero, List.set_cons_succ]
      refine wpAnyH_take_d (i := 3) (v := .slice (some ⟨g, off, none⟩) C.L.length c) 18 rfl rfl (by kernel_rfl) (by kernel_rfl) (by kernel_rfl) (fun _ _ _ h => h) (Or.inl ⟨by kernel_rfl, fun w' hS' => ?y3⟩) (⟨hm1, trivial⟩) ?_
      case y3 => (obtain ⟨s0, s1, s2, s3, s4, s5⟩ := hS'.1.cells; clear hS'; go_simp)
      simp only [Act.put, List.setIfInBounds_toArray, List.set_cons_zero, List.set_cons_succ]
      refine wpAnyH_take_d (i := 4) (v := .pointer (some ⟨b, 0, none⟩)) 19 rfl rfl (by kernel_rfl) (by kernel_rfl) (by kernel_rfl) (fun _ _ _ h => h) (Or.inl ⟨by kernel_rfl, fun w' hS' => ?y4⟩) (⟨hm1, trivial⟩) ?_
      case y4 => (clear hS'; go_simp)
      simp only [Act.put, List.setIfInBounds_toArray, List.set_cons_zero, List.set_cons_succ]
      refine wpAnyH_take_d (i := 5) (v := .pointer (some ⟨b, 0, none⟩)) 20 rfl rfl (by kernel_rfl) (by kernel_rfl) (by kernel_rfl) (fun _ _ _ h => h) (Or.inl ⟨by kernel_rfl, fun w' hS' => ?y5⟩) (⟨hm1, trivial⟩) ?_
      case y5 => (clear hS'; go_simp)
      simp only [Act.put, List.setIfInBounds_toArray, List.set_cons_zero, List.set_cons_succ]
      refine wpAnyH_take_d (i := 6) (v := .pointer (some ⟨b, 2, none⟩)) 21 rfl rfl (by kernel_rfl) (by kernel_rfl) (by kernel_rfl) (fun _ _ _ h => h) (Or.inl ⟨by kernel_rfl, fun w' hS' => ?y6⟩) (⟨hm1, trivial⟩) ?_
      case y6 => (clear hS'; go_simp)
      simp only [Act.put, List.setIfInBounds_toArray, List.set_cons_zero, List.set_cons_succ]
      refine wpAnyH_take_d (i := 7) (v := .int .i64 (C.n : Nat)) 22 rfl rfl (by kernel_rfl) (by kernel_rfl) (by kernel_rfl) (fun _ _ _ h => h) (Or.inl ⟨by kernel_rfl, fun w' hS' => ?y7⟩) (⟨hm1, trivial⟩) ?_
      case y7 => (obtain ⟨s0, s1, s2, s3, s4, s5⟩ := hS'.1.cells; clear hS'; go_simp)
      simp only [Act.put, List.setIfInBounds_toArray, List.set_cons_zero, List.set_cons_succ]
      refine wpAnyH_take_d (i := 8) (v := .int .i64 (j : Nat)) 23 rfl rfl (by kernel_rfl) (by kernel_rfl) (by kernel_rfl) (fun _ _ _ h => h) (Or.inl ⟨by kernel_rfl, fun w' hS' => ?y8⟩) (⟨hm1, trivial⟩) ?_
      case y8 => (clear hS'; go_simp)
      simp only [Act.put, List.setIfInBounds_toArray, List.set_cons_zero, List.set_cons_succ]
      refine wpAnyH_take_d (i := 9) (v := .int .i64 (k : Nat)) 24 rfl rfl (by kernel_rfl) (by kernel_rfl) (by kernel_rfl) (fun _ _ _ h => h) (Or.inl ⟨by kernel_rfl, fun w' hS' => ?y9⟩) (⟨hm1, trivial⟩) ?_
      case y9 => (clear hS'; go_simp; rw [IntKind.wrap_i64]; omega)
      simp only [Act.put, List.setIfInBounds_toArray, List.set_cons_zero, List.set_cons_succ]
      refine wpAnyH_take_d (i := 10) (v := .pointer (some ⟨g, off + k * 3, none⟩)) 25 rfl rfl (by kernel_rfl) (by kernel_rfl) (by kernel_rfl) (fun _ _ _ h => h) (Or.inl ⟨by kernel_rfl, fun w' hS' => ?y10⟩) (⟨hm1, trivial⟩) ?_
      case y10 => (clear hS'; go_simp)
      simp only [Act.put, List.setIfInBounds_toArray, List.set_cons_zero, List.set_cons_succ]
      refine wpAnyH_take_d (i := 11) (v := tkv t) 26 rfl rfl (by kernel_rfl) (by kernel_rfl) (by kernel_rfl) (fun _ _ _ h => h) (Or.inl ⟨by kernel_rfl, fun w' hS' => ?y11⟩) (⟨hm1, trivial⟩) ?_
      case y11 => (obtain ⟨r0, r1, r2⟩ := hS'.1.tokAt HT.out; clear hS'; go_simp)
      simp only [Act.put, List.setIfInBounds_toArray, List.set_cons_zero, List.set_cons_succ]
      refine wpAnyH_ready (rs := [12]) (by kernel_rfl) (by simp) ?_
      refine AllReadyH.cons rfl (fun K hK => ?_) AllReadyH.nil
      go_simp
      have hB3 := below1 w2 (.cells #[.int .i64 0, .int .i64 0, .int .i64 0] 109)
      have hx2 := heap_alloc_new w2 (.cells #[.int .i64 0, .int .i64 0, .int .i64 0] 109)
      generalize w2.alloc (.cells #[.int .i64 0, .int .i64 0, .int .i64 0] 109) = w3 at hB3 hx2 ⊢
      refine hK.out _ _ (⟨hm1.below hB3, trivial⟩) (fun _ => ?_)
      clear hK K
      try simp only [Act.put, List.setIfInBounds_toArray, List.set_cons_zero, List.set_cons_succ]
      refine wpAnyH_ready (rs := [13]) (by kernel_rfl) (by simp) ?_
      refine AllReadyH.cons rfl (fun K hK => ?_) AllReadyH.nil
      refine step_store_tok (by rfl) 109 (.tmp 6) (.tmp 26) (by rfl) size_tok w2.heap.size t (by rfl) (by rfl) hx2 ?_
      have hx3 := set3_self hx2 t
      have hB4 := below_set3 hB3 (Nat.le_refl _) t
      generalize set3 w3 w2.heap.size t = w4 at hx3 hB4 ⊢
      have hm4 := hm1.below hB4
      have hb4 := hb1.trans (hB4.mono hb1.size)
      refine hK.out _ _ (⟨hm4, trivial⟩) (fun _ => ?_)
      clear hK K
      try simp only [Act.put, List.setIfInBounds_toArray]
      refine wpAnyH_done (by kernel_rfl) ?_ _
      refine hK0 _ _ ?_
      clear hB3 hB4 hx2 hm1 hb1
      generalize w2.heap.size = x at hx3 ⊢
      go_wp2
      rename_i K1 hK1 _d1 _e1
      refine wp_region_noPanic (wp_region_held (S := fun W' : World => CuM b (some ⟨g, off, none⟩) c C W' ∧ W'.heap[x]? = some (tkc t)) (by kernel_rfl) ?_)
      have hd4 : Below w4.heap.size w4 w4.drew := ⟨rfl, rfl, rfl, Nat.le_refl _, fun _ _ => rfl⟩
      have hm5 := hm4.below hd4
      have hx5 : w4.drew.heap[x]? = some (tkc t) := hx3
      have hb5 := hb4.trans (hd4.mono hb4.size)
      show wpAnyH _ _ _ _ _ _ _ _ w4.drew
      generalize w4.drew = w5 at hm5 hx5 hb5 ⊢
      refine wpAnyH_take_d (i := 0) (v := .pointer (some ⟨x, 0, none⟩)) 27 rfl rfl (by kernel_rfl) (by kernel_rfl) (by kernel_rfl) (fun _ _ _ h => h) (Or.inl ⟨by kernel_rfl, fun w' hS' => ?y0⟩) (⟨hm5, hx5⟩) ?_
      case y0 => (clear hS'; go_simp)
      simp only [Act.put, List.setIfInBounds_toArray, List.set_cons_zero, List.set_cons_succ]
      refine wpAnyH_take_d (i := 1) (v := .int .i64 (t.k : Nat)) 28 rfl rfl (by kernel_rfl) (by kernel_rfl) (by kernel_rfl) (fun _ _ _ h => h) (Or.inl ⟨by kernel_rfl, fun w' hS' => ?y1⟩) (⟨hm5, hx5⟩) ?_
      case y1 => (obtain ⟨r0, r1, r2⟩ := heap3 hS'.2; clear hS'; go_simp)
      simp only [Act.put, List.setIfInBounds_toArray, List.set_cons_zero, List.set_cons_succ]
      refine wpAnyH_take_d (i := 2) (v := tkv t) 29 rfl rfl (by kernel_rfl) (by kernel_rfl) (by kernel_rfl) (fun _ _ _ h => h) (Or.inl ⟨by kernel_rfl, fun w' hS' => ?y2⟩) (⟨hm5, hx5⟩) ?_
      case y2 => (obtain ⟨r0, r1, r2⟩ := heap3 hS'.2; clear hS'; go_simp)
      simp only [Act.put, List.setIfInBounds_toArray, List.set_cons_zero, List.set_cons_succ]
      refine wpAnyH_take_d (i := 3) (v := .pointer (some ⟨b, 0, none⟩)) 30 rfl rfl (by kernel_rfl) (by kernel_rfl) (by kernel_rfl) (fun _ _ _ h => h) (Or.inl ⟨by kernel_rfl, fun w' hS' => ?y3⟩) (⟨hm5, hx5⟩) ?_
      case y3 => (clear hS'; go_simp)
      simp only [Act.put, List.setIfInBounds_toArray, List.set_cons_zero, List.set_cons_succ]
      refine wpAnyH_take_d (i := 4) (v := .pointer (some ⟨b, 0, none⟩)) 31 rfl rfl (by kernel_rfl) (by kernel_rfl) (by kernel_rfl) (fun _ _ _ h => h) (Or.inl ⟨by kernel_rfl, fun w' hS' => ?y4⟩) (⟨hm5, hx5⟩) ?_
      case y4 => (clear hS'; go_simp)
      simp only [Act.put, List.setIfInBounds_toArray, List.set_cons_zero, List.set_cons_succ]
      refine wpAnyH_take_d (i := 5) (v := .pointer (some ⟨b, 0, none⟩)) 32 rfl rfl (by kernel_rfl) (by kernel_rfl) (by kernel_rfl) (fun _ _ _ h => h) (Or.inl ⟨by kernel_rfl, fun w' hS' => ?y5⟩) (⟨hm5, hx5⟩) ?_
      case y5 => (clear hS'; go_simp)
      simp only [Act.put, List.setIfInBounds_toArray, List.set_cons_zero, List.set_cons_succ]
      refine wpAnyH_take_d (i := 6) (v := .string C.s) 33 rfl rfl (by kernel_rfl) (by kernel_rfl) (by kernel_rfl) (fun _ _ _ h => h) (Or.inl ⟨by kernel_rfl, fun w' hS' => ?y6⟩) (⟨hm5, hx5⟩) ?_
      case y6 => (obtain ⟨s0, s1, s2, s3, s4, s5⟩ := hS'.1.cells; clear hS'; go_simp)
      simp only [Act.put, List.setIfInBounds_toArray, List.set_cons_zero, List.set_cons_succ]
      refine wpAnyH_ready (rs := [7]) (by kernel_rfl) (by simp) ?_
      refine AllReadyH.cons rfl (fun K hK => ?_) AllReadyH.nil
      go_simp
      refine (ttext_any C.s (toZ t) w5).mono ?_
      rintro e w6 ⟨rfl, hb⟩
      rw [HTX.out]
      have hm6 := hm5.below hb
      have hx6 := (hb.block x (Array.getElem?_eq_some_iff.1 hx5).1).trans hx5
      have hb6 := hb5.trans (hb.mono hb5.size)
      refine hK.out _ _ (⟨hm6, hx6⟩) (fun _ => ?_)
      clear hK K
      try simp only [Act.put, List.setIfInBounds_toArray, List.set_cons_zero, List.set_cons_succ]
      refine wpAnyH_take_d (i := 8) (v := .int .i64 (t.k : Nat)) 4 rfl rfl (by kernel_rfl) (by kernel_rfl) (by kernel_rfl) (fun _ _ _ h => h) (Or.inl ⟨by kernel_rfl, fun w' hS' => ?y8⟩) (⟨hm6, hx6⟩) ?_
      case y8 => (clear hS'; go_simp)
      simp only [Act.put, List.setIfInBounds_toArray, List.set_cons_zero, List.set_cons_succ]
      refine wpAnyH_take_d (i := 9) (v := .string (C.s.extract t.a t.z)) 5 rfl rfl (by kernel_rfl) (by kernel_rfl) (by kernel_rfl) (fun _ _ _ h => h) (Or.inl ⟨by kernel_rfl, fun w' hS' => ?y9⟩) (⟨hm6, hx6⟩) ?_
      case y9 => (clear hS'; go_simp)
      simp only [Act.put, List.setIfInBounds_toArray, List.set_cons_zero, List.set_cons_succ]
      refine wpAnyH_done (by kernel_rfl) ?_ _
      refine hK1 _ _ ?_
      go_wp2
      refine bodyPost_ret (v := .tuple #[.int .i64 (t.k : Nat), .string (C.s.extract t.a t.z)]) (by simp [results, Tryz.results95, go_sem]) rfl ⟨rfl, hb6⟩

/-- is a token ahead a keyword or a sign of that text? -/
def Cu.isb (C : Cu) (i : Int) (s : ByteArray) : Bool := (decide ((C.pk i).1 = 3) || decide ((C.pk i).1 = 6)) && decide ((C.pk i).2 = s)
set_option maxHeartbeats 1000000 in
theorem is_any (i : Int) (s : ByteArray) (hi : rng i) (h : CuM b A c C W) (hk : C.Ok) : Calls Tryz.prog 83 #[.pointer (some ⟨b, 0, none⟩), .int .i64 i, .string s] W (Rd W (.bool (C.isb i s))) := by
  have HP := Lib.hid (peek_any i hi h hk)
  unfold Cu.isb
  unfold Rd at HP ⊢
  generalize C.pk i = q at HP
  obtain ⟨k, t⟩ := q
  dsimp only at HP ⊢
  have hbe : (t.toList == s.toList) = decide (t = s) := by
    rw [Bool.eq_iff_iff]
    simp only [beq_iff_eq, decide_eq_true_eq]
    refine ⟨fun h => ?_, fun h => by rw [h]⟩
    have h2 := congrArg List.toArray h
    rw [ByteArray.toList_eq, ByteArray.toList_eq] at h2
    exact ByteArray.ext (by simpa using h2)
  have hk3 : (k == 3) = decide (k = 3) := by rw [Bool.eq_iff_iff]; simp
  have hk6 : (k == 6) = decide (k = 6) := by rw [Bool.eq_iff_iff]; simp
  clear h hk hi
  by_cases h3 : k = 3
  · rw [decide_eq_true h3] at hk3 ⊢
    clear hk6 h3
    go_enter Tryz.func83, Tryz.ntmps83
    go_wp2_with fail
    refine HP.out.mono ?_
    rintro e w1 ⟨rfl, hb⟩
    go_wp2
    go_ret
    exact ⟨by simp, hb⟩
  · rw [decide_eq_false h3] at hk3 ⊢
    by_cases h6 : k = 6
    · rw [decide_eq_true h6] at hk6 ⊢
      clear h3 h6
      go_enter Tryz.func83, Tryz.ntmps83
      go_wp2_with fail
      refine HP.out.mono ?_
      rintro e w1 ⟨rfl, hb⟩
      go_wp2
      go_ret
      exact ⟨by simp, hb⟩
    · rw [decide_eq_false h6] at hk6 ⊢
      clear h3 h6
      go_enter Tryz.func83, Tryz.ntmps83
      go_wp2_with fail
      refine HP.out.mono ?_
      rintro e w1 ⟨rfl, hb⟩
      go_wp2
      go_ret
      exact ⟨by simp, hb⟩

set_option maxHeartbeats 1000000 in
theorem end_any (h : CuM b A c C W) (hk : C.Ok) : Calls Tryz.prog 28 #[.pointer (some ⟨b, 0, none⟩)] W (Rd W (.string C.en)) := by
  have HL := Lib.hid (left_any h hk)
  have HM := Lib.hid h
  have HBE : Hid (∀ W' : World, CuM b A c C W' → Calls Tryz.prog 52 #[.pointer (some ⟨b, 0, none⟩)] W' (Rd W' (.int .i64 (C.beh : Nat)))) := Lib.hid fun W' h' => behind_any h' hk
  have hbl := hk.beh_le
  unfold Cu.en
  unfold Rd at HL HBE ⊢
  obtain ⟨c0, c1, c2, c3, c4, c5⟩ := h.cells
  by_cases hf : C.f = 0
  · rw [hf] at c4
    by_cases hl : C.left = 0
    · rw [if_pos ⟨hf, hl⟩]
      rw [hl] at HL
      clear h hk hf hl
      have z1 : (0 : Int) ≤ C.beh := by omega
      have z2 : (C.beh : Int) ≤ C.s.size := by omega
      generalize C.beh = q at HBE hbl z1 z2
      go_enter Tryz.func28, Tryz.ntmps28
      go_wp2_with fail
      refine HL.out.mono ?_
      rintro e w1 ⟨rfl, hb⟩
      have hm := HM.out.below hb
      clear c0 c1 c2 c3 c4 c5 HL
      go_wp2
      rename_i K0 hK0
      refine wp_region_noPanic (wp_region_held (S := fun W' : World => CuM b A c C W' ∧ True) (by kernel_rfl) ?_)
      have hd : Below w1.heap.size w1 w1.drew := ⟨rfl, rfl, rfl, Nat.le_refl _, fun _ _ => rfl⟩
      have hm1 := hm.below hd
      have hb1 := hb.trans (hd.mono hb.size)
      show wpAnyH _ _ _ _ _ _ _ _ w1.drew
      generalize w1.drew = w2 at hm1 hb1 ⊢
      refine wpAnyH_take_d (i := 0) (v := .pointer (some ⟨b, 0, none⟩)) 17 rfl rfl (by kernel_rfl) (by kernel_rfl) (by kernel_rfl) (fun _ _ _ h => h) (Or.inl ⟨by kernel_rfl, fun w' hS' => ?y0⟩) (⟨hm1, trivial⟩) ?_
      case y0 => (clear hS'; go_simp)
      simp only [Act.put, List.setIfInBounds_toArray, List.set_cons_zero, List.set_cons_succ]
      refine wpAnyH_take_d (i := 1) (v := .pointer (some ⟨b, 0, none⟩)) 18 rfl rfl (by kernel_rfl) (by kernel_rfl) (by kernel_rfl) (fun _ _ _ h => h) (Or.inl ⟨by kernel_rfl, fun w' hS' => ?y1⟩) (⟨hm1, trivial⟩) ?_
      case y1 => (clear hS'; go_simp)
      simp only [Act.put, List.setIfInBounds_toArray, List.set_cons_zero, List.set_cons_succ]
      refine wpAnyH_take_d (i := 2) (v := .pointer (some ⟨b, 0, none⟩)) 19 rfl rfl (by kernel_rfl) (by kernel_rfl) (by kernel_rfl) (fun _ _ _ h => h) (Or.inl ⟨by kernel_rfl, fun w' hS' => ?y2⟩) (⟨hm1, trivial⟩) ?_
      case y2 => (clear hS'; go_simp)
      simp only [Act.put, List.setIfInBounds_toArray, List.set_cons_zero, List.set_cons_succ]
      refine wpAnyH_take_d (i := 3) (v := .string C.s) 20 rfl rfl (by kernel_rfl) (by kernel_rfl) (by kernel_rfl) (fun _ _ _ h => h) (Or.inl ⟨by kernel_rfl, fun w' hS' => ?y3⟩) (⟨hm1, trivial⟩) ?_
      case y3 => (obtain ⟨s0, s1, s2, s3, s4, s5⟩ := hS'.1.cells; clear hS'; go_simp)
      simp only [Act.put, List.setIfInBounds_toArray, List.set_cons_zero, List.set_cons_succ]
      refine wpAnyH_take_d (i := 4) (v := .pointer (some ⟨b, 0, none⟩)) 21 rfl rfl (by kernel_rfl) (by kernel_rfl) (by kernel_rfl) (fun _ _ _ h => h) (Or.inl ⟨by kernel_rfl, fun w' hS' => ?y4⟩) (⟨hm1, trivial⟩) ?_
      case y4 => (clear hS'; go_simp)
      simp only [Act.put, List.setIfInBounds_toArray, List.set_cons_zero, List.set_cons_succ]
      refine wpAnyH_ready (rs := [5]) (by kernel_rfl) (by simp) ?_
      refine AllReadyH.cons rfl (fun K hK => ?_) AllReadyH.nil
      go_simp
      refine (HBE.out w2 hm1).mono ?_
      rintro e w3 ⟨rfl, hb3⟩
      have hm3 := hm1.below hb3
      have hb4 := hb1.trans (hb3.mono hb1.size)
      refine hK.out _ _ (⟨hm3, trivial⟩) (fun _ => ?_)
      clear hK K
      try simp only [Act.put, List.setIfInBounds_toArray, List.set_cons_zero, List.set_cons_succ]
      refine wpAnyH_take_d (i := 6) (v := .string (C.s.extract q C.s.size)) 23 rfl rfl (by kernel_rfl) (by kernel_rfl) (by kernel_rfl) (fun _ _ _ h => h) (Or.inl ⟨by kernel_rfl, fun w' hS' => ?y6⟩) (⟨hm3, trivial⟩) ?_
      case y6 => (clear hS'; go_simp)
      simp only [Act.put, List.setIfInBounds_toArray, List.set_cons_zero, List.set_cons_succ]
      refine wpAnyH_take_d (i := 7) (v := .string (C.s.extract q C.s.size)) 2 rfl rfl (by kernel_rfl) (by kernel_rfl) (by kernel_rfl) (fun _ _ _ h => h) (Or.inl ⟨by kernel_rfl, fun w' hS' => ?y7⟩) (⟨hm3, trivial⟩) ?_
      case y7 => (clear hS'; go_simp)
      simp only [Act.put, List.setIfInBounds_toArray, List.set_cons_zero, List.set_cons_succ]
      refine wpAnyH_done (by kernel_rfl) ?_ _
      refine hK0 _ _ ?_
      go_wp2
      go_ret
      exact ⟨rfl, hb4⟩
    · rw [if_neg (fun hh => hl hh.2)]
      have hgt : (0 : Int) < (C.left : Nat) := by omega
      generalize C.left = q at HL hgt
      clear h hk hf hl HM HBE hbl
      go_enter Tryz.func28, Tryz.ntmps28
      go_wp2_with fail
      refine HL.out.mono ?_
      rintro e w1 ⟨rfl, hb⟩
      go_wp2
      go_ret
      exact ⟨rfl, hb⟩
  · rw [if_neg (fun hh => hf hh.1)]
    have hb : (C.f == 0) = false := by rw [beq_eq_false_iff_ne]; exact hf
    have hb2 : (C.f != 0) = true := by simp [bne, hb]
    clear h hk hf HM HBE hbl HL
    go_enter Tryz.func28, Tryz.ntmps28
    go_wp2
    go_ret
    exact ⟨rfl, Below.refl _ _⟩
end
end Go.Proofs.YtfmlcddakfbleaaGreatDoor

namespace Go.Proofs.YtfmlcddakfbleaaGreatDoor
open Go.RowKit SignMath TreeMath

/-- only block b is changed, and new ones are laid -/
abbrev Of (b : Nat) (W W' : World) : Prop := Off (· = b) W W'
theorem of_below {b : Nat} {W W' : World} (h : Below W.heap.size W W') : Of b W W' := Off.of_below h
theorem of_set (b i : Nat) (W : World) (v : Value) : Of b W (W.setCell ⟨b, i, none⟩ v) := Off.setCell (X := (· = b)) (p := ⟨b, i, none⟩) rfl W v
/-- the cursor behind a failure -/
def Cu.fail (C : Cu) (e : Int) : Cu := if C.f = 0 then { C with f := if 1 ≤ e ∧ e ≤ 15 then e else 2, p := (C.at : Nat) } else C
/-- one construct more, or a failure -/
def Cu.down (C : Cu) : Cu × Bool := if C.f = 0 then (if 200 ≤ C.d then (C.fail 3, false) else ({ C with d := C.d + 1 }, true)) else (C, false)
def Cu.up (C : Cu) : Cu := { C with d := C.d - 1 }
theorem Cu.fail_L (C : Cu) (e : Int) : (C.fail e).L = C.L := by unfold Cu.fail; split <;> rfl
theorem Cu.Ok.fail {C : Cu} (h : C.Ok) (e : Int) : (C.fail e).Ok := by
  unfold Cu.fail
  split
  · have := h.at_le
    have h2 := h.sz
    refine ⟨h.n, h.sz, h.len, h.tok, h.ord, h.d, ?_, ?_⟩
    · simp only
      split <;> omega
    · simp only
      omega
  · exact h
theorem Cu.Ok.down {C : Cu} (h : C.Ok) : C.down.1.Ok := by
  unfold Cu.down
  split
  · split
    · exact h.fail 3
    · exact ⟨h.n, h.sz, h.len, h.tok, h.ord, by simp only; omega, h.f, h.p⟩
  · exact h
theorem Cu.Ok.up {C : Cu} (h : C.Ok) : C.up.Ok := ⟨h.n, h.sz, h.len, h.tok, h.ord, by have := h.d; show C.d - 1 ≤ 1000; omega, h.f, h.p⟩

section
variable {b : Nat} {A : Option Addr} {c : Nat} {C : Cu} {W : World}
/-- what a call leaves behind -/
def CuV (b : Nat) (A : Option Addr) (c : Nat) (C' : Cu) (W : World) (P : Ending → Prop) (e : Ending) (W' : World) : Prop := P e ∧ CuM b A c C' W' ∧ Of b W W'

set_option maxHeartbeats 2000000 in
theorem fail_any (n : Int) (_hn : rng n) (h : CuM b A c C W) (hk : C.Ok) : Calls Tryz.prog 26 #[.pointer (some ⟨b, 0, none⟩), .int .i64 n] W (CuV b A c (C.fail n) W fun e => ∃ v, e = .returned v) := by
  obtain ⟨c0, c1, c2, c3, c4, c5⟩ := h.cells
  have HA := Lib.hid (at_any h hk)
  have HM := Lib.hid h
  unfold Cu.fail CuV
  unfold Rd at HA
  by_cases hf : C.f = 0
  · rw [if_pos hf]
    rw [hf] at c4
    have hend : ∀ (m : Int) (w1 : World), (if 1 ≤ n ∧ n ≤ 15 then n else 2) = m → Below W.heap.size W w1 → CuM b A c { C with f := m, p := (C.at : Nat) } ((w1.setCell ⟨b, 5, none⟩ (.int .i64 (C.at : Nat))).setCell ⟨b, 4, none⟩ (.int .i64 m)) ∧ Of b W ((w1.setCell ⟨b, 5, none⟩ (.int .i64 (C.at : Nat))).setCell ⟨b, 4, none⟩ (.int .i64 m)) := fun m w1 _ hb => by
      have h1 := (HM.out.below hb).set (C' := { C with p := (C.at : Nat) }) 5 (.int .i64 (C.at : Nat)) rfl rfl
      have h2 := h1.set (C' := { C with f := m, p := (C.at : Nat) }) 4 (.int .i64 m) rfl rfl
      exact ⟨h2, (of_below hb).trans ((of_set b 5 _ _).trans (of_set b 4 _ _))⟩
    have HE := Lib.hid hend
    clear hend h hk hf
    generalize C.at = q at HA HE
    by_cases h1 : n < 1
    · have hm : (if 1 ≤ n ∧ n ≤ 15 then n else 2) = 2 := if_neg (fun hh => by omega)
      have HMM := Lib.hid hm
      clear hm
      go_enter Tryz.func26, Tryz.ntmps26
      go_wp2_with fail
      refine HA.out.mono ?_
      rintro e w1 ⟨rfl, hb⟩
      have hm1 := HM.out.below hb
      obtain ⟨d0, d1, d2, d3, d4, d5⟩ := hm1.cells
      have fr := hm1.frz
      have HH := Lib.hid (HE.out 2 w1 HMM.out hb)
      clear hb hm1 c0 c1 c2 c3 c4 c5
      go_wp2
      refine bodyPost_end (results_none rfl _ _ _) rfl ?_
      exact ⟨⟨_, rfl⟩, HH.out⟩
    · by_cases h2 : 15 < n
      · have hm : (if 1 ≤ n ∧ n ≤ 15 then n else 2) = 2 := if_neg (fun hh => by omega)
        have HMM := Lib.hid hm
        clear hm
        go_enter Tryz.func26, Tryz.ntmps26
        go_wp2_with fail
        refine HA.out.mono ?_
        rintro e w1 ⟨rfl, hb⟩
        have hm1 := HM.out.below hb
        obtain ⟨d0, d1, d2, d3, d4, d5⟩ := hm1.cells
        have fr := hm1.frz
        have HH := Lib.hid (HE.out 2 w1 HMM.out hb)
        clear hb hm1 c0 c1 c2 c3 c4 c5
        go_wp2
        refine bodyPost_end (results_none rfl _ _ _) rfl ?_
        exact ⟨⟨_, rfl⟩, HH.out⟩
      · have hm : (if 1 ≤ n ∧ n ≤ 15 then n else 2) = n := if_pos ⟨by omega, by omega⟩
        have HMM := Lib.hid hm
        clear hm
        go_enter Tryz.func26, Tryz.ntmps26
        go_wp2_with fail
        refine HA.out.mono ?_
        rintro e w1 ⟨rfl, hb⟩
        have hm1 := HM.out.below hb
        obtain ⟨d0, d1, d2, d3, d4, d5⟩ := hm1.cells
        have fr := hm1.frz
        have HH := Lib.hid (HE.out n w1 HMM.out hb)
        clear hb hm1 c0 c1 c2 c3 c4 c5
        go_wp2
        refine bodyPost_end (results_none rfl _ _ _) rfl ?_
        exact ⟨⟨_, rfl⟩, HH.out⟩
  · rw [if_neg hf]
    have hb : (C.f == 0) = false := by rw [beq_eq_false_iff_ne]; exact hf
    have hb2 : (C.f != 0) = true := by simp [bne, hb]
    clear h hk hf HA
    go_enter Tryz.func26, Tryz.ntmps26
    go_wp2
    refine bodyPost_ret (results_none rfl _ _ _) rfl ?_
    exact ⟨⟨_, rfl⟩, HM.out, Off.refl _ _⟩

set_option maxHeartbeats 2000000 in
theorem down_any (h : CuM b A c C W) (hk : C.Ok) : Calls Tryz.prog 101 #[.pointer (some ⟨b, 0, none⟩)] W (CuV b A c C.down.1 W fun e => e = .returned (.bool C.down.2)) := by
  obtain ⟨c0, c1, c2, c3, c4, c5⟩ := h.cells
  have fr := h.frz
  have HF := Lib.hid (fail_any 3 ⟨by omega, by omega⟩ h hk)
  have HM := Lib.hid h
  have hd := hk.d
  unfold Cu.down
  unfold CuV at HF ⊢
  by_cases hf : C.f = 0
  · rw [if_pos hf]
    rw [hf] at c4
    by_cases h2 : 200 ≤ C.d
    · rw [if_pos h2]
      have z1 : (200 : Int) ≤ (C.d : Nat) := by omega
      clear h hk hf h2 hd
      go_enter Tryz.func101, Tryz.ntmps101
      go_wp2_with fail
      refine HF.out.mono ?_
      rintro e w1 ⟨⟨v, rfl⟩, hm, ho⟩
      have HH := Lib.hid (And.intro hm ho)
      clear hm ho c0 c1 c2 c3 c4 c5
      go_wp2
      go_ret
      exact ⟨rfl, HH.out⟩
    · rw [if_neg h2]
      have z1 : ¬ ((200 : Int) ≤ (C.d : Nat)) := by omega
      have z2 : ((C.d : Nat) : Int) ≤ 1000 := by omega
      have h1 := h.set (C' := { C with d := C.d + 1 }) 3 (.int .i64 ((C.d + 1 : Nat))) rfl rfl
      have HH := Lib.hid (And.intro h1 (of_set b 3 W (.int .i64 ((C.d + 1 : Nat)))))
      rw [Int.natCast_add, Int.natCast_one] at HH
      clear h hk hf h1 h2 hd HF
      go_enter Tryz.func101, Tryz.ntmps101
      go_wp2
      go_ret
      exact ⟨rfl, HH.out⟩
  · rw [if_neg hf]
    have hb : (C.f == 0) = false := by rw [beq_eq_false_iff_ne]; exact hf
    have hb2 : (C.f != 0) = true := by simp [bne, hb]
    clear h hk hf HF
    go_enter Tryz.func101, Tryz.ntmps101
    go_wp2
    go_ret
    exact ⟨rfl, HM.out, Off.refl _ _⟩

set_option maxHeartbeats 2000000 in
theorem up_any (h : CuM b A c C W) (hk : C.Ok) : Calls Tryz.prog 102 #[.pointer (some ⟨b, 0, none⟩)] W (CuV b A c C.up W fun e => ∃ v, e = .returned v) := by
  obtain ⟨c0, c1, c2, c3, c4, c5⟩ := h.cells
  have fr := h.frz
  have hd := hk.d
  have HM := Lib.hid h
  unfold Cu.up CuV
  by_cases h2 : C.d = 0
  · rw [h2] at c3
    have HE : Hid (({ C with d := C.d - 1 } : Cu) = C) := Lib.hid (by rw [h2]; cases C; simp only at h2; subst h2; rfl)
    clear h hk h2 hd
    go_enter Tryz.func102, Tryz.ntmps102
    go_wp2
    refine bodyPost_end (results_none rfl _ _ _) rfl ?_
    rw [HE.out]
    exact ⟨⟨_, rfl⟩, HM.out, Off.refl _ _⟩
  · have z1 : (0 : Int) < (C.d : Nat) := by omega
    have z2 : ((C.d : Nat) : Int) ≤ 1000 := by omega
    have h1 := h.set (C' := { C with d := C.d - 1 }) 3 (.int .i64 ((C.d - 1 : Nat))) rfl rfl
    have HH := Lib.hid (And.intro h1 (of_set b 3 W (.int .i64 ((C.d - 1 : Nat)))))
    rw [show ((C.d - 1 : Nat) : Int) = (C.d : Nat) - 1 by omega] at HH
    clear h hk h1 h2 hd
    go_enter Tryz.func102, Tryz.ntmps102
    go_wp2
    refine bodyPost_end (results_none rfl _ _ _) rfl ?_
    exact ⟨⟨_, rfl⟩, HH.out⟩
end
end Go.Proofs.YtfmlcddakfbleaaGreatDoor
