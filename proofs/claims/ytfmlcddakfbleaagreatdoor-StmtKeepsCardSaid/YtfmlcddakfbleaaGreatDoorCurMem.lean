/- A cursor, plainly and in memory. -/
import Derived.Test.YtfmlcddakfbleaaGreatDoorLexChain
import Derived.Test.YtfmlcddakfbleaaGreatDoorTreeBK
import Derived.Deep.QuietTactic
import Derived.BigQuiet
namespace Go.Proofs.YtfmlcddakfbleaaGreatDoor
open Go.RowKit SignMath TreeMath

/-- a cursor: its text, its tokens, how many were taken, how many constructs, its fault and place -/
structure Cu where
  s : ByteArray
  L : List Tk
  n : Nat
  d : Nat
  f : Int
  p : Int

/-- how many tokens are left -/
def Cu.left (C : Cu) : Nat := if C.f = 0 then C.L.length - C.n else 0
/-- a token ahead -/
def Cu.nxt (C : Cu) (i : Nat) : Option Tk := if C.f = 0 then C.L[C.n + i]? else none
/-- where the next token begins -/
def Cu.at (C : Cu) : Nat := match C.nxt 0 with
  | some t => t.a
  | none => C.s.size
/-- where the last taken one ends -/
def Cu.beh (C : Cu) : Nat := if C.n = 0 then 0 else match C.L[C.n - 1]? with
  | some t => t.z
  | none => 0
structure Cu.Ok (C : Cu) : Prop where
  n : C.n ≤ C.L.length
  sz : C.s.size ≤ 4000
  len : C.L.length ≤ 4000
  tok : ∀ t ∈ C.L, t.a < t.z ∧ t.z ≤ C.s.size
  ord : ∀ (i : Nat) (x y : Tk), C.L[i]? = some x → C.L[i + 1]? = some y → x.z ≤ y.a
  d : C.d ≤ 1000
  f : 0 ≤ C.f ∧ C.f ≤ 15
  p : 0 ≤ C.p ∧ C.p ≤ 4000

theorem Cu.nxt_some {C : Cu} {i : Nat} {t : Tk} (h : C.nxt i = some t) : C.f = 0 ∧ C.L[C.n + i]? = some t := by
  unfold Cu.nxt at h
  split at h
  · exact ⟨by assumption, h⟩
  · cases h
theorem Cu.nxt_left {C : Cu} {i : Nat} {t : Tk} (h : C.nxt i = some t) : i < C.left := by
  obtain ⟨h1, h2⟩ := Cu.nxt_some h
  have := (List.getElem?_eq_some_iff.1 h2).1
  unfold Cu.left
  rw [if_pos h1]
  omega
theorem Cu.nxt_none {C : Cu} {i : Nat} (h : C.nxt i = none) (hn : C.n ≤ C.L.length) : C.left ≤ i := by
  unfold Cu.nxt at h
  unfold Cu.left
  split
  · rename_i hf
    rw [if_pos hf] at h
    have := List.getElem?_eq_none_iff.1 h
    omega
  · omega
theorem Cu.Ok.at_le {C : Cu} (h : C.Ok) : C.at ≤ C.s.size := by
  unfold Cu.at
  cases hx : C.nxt 0 with
  | none => exact Nat.le_refl _
  | some t =>
    have := h.tok t (List.mem_of_getElem? (Cu.nxt_some hx).2)
    simp only
    omega
theorem Cu.Ok.beh_le {C : Cu} (h : C.Ok) : C.beh ≤ C.s.size := by
  unfold Cu.beh
  split
  · omega
  · cases hx : C.L[C.n - 1]? with
    | none => simp
    | some t => have := h.tok t (List.mem_of_getElem? hx); simp only; omega
theorem Cu.Ok.beh_at {C : Cu} (h : C.Ok) {t : Tk} (ht : C.L[C.n]? = some t) : C.beh ≤ t.a := by
  unfold Cu.beh
  split
  · omega
  · rename_i hn
    cases hx : C.L[C.n - 1]? with
    | none => simp
    | some x => exact h.ord (C.n - 1) x t hx (by rw [show C.n - 1 + 1 = C.n from by omega]; exact ht)

abbrev cubx (C : Cu) (A : Option Addr) (c : Nat) : Obj := .cells #[.string C.s, .slice A C.L.length c, .int .i64 (C.n : Nat), .int .i64 (C.d : Nat), .int .i64 C.f, .int .i64 C.p] 84 (0, 0)
/-- a cursor in memory -/
structure CuM (b : Nat) (A : Option Addr) (c : Nat) (C : Cu) (W : World) : Prop where
  box : W.heap[b]? = some (cubx C A c)
  row : Rdc W W.heap.size A (tcells C.L)
  ne : 0 < (tcells C.L).length → ∀ a, A = some a → a.block ≠ b

section
variable {b : Nat} {A : Option Addr} {c : Nat} {C : Cu} {W W' : World}
theorem CuM.below (h : CuM b A c C W) (hb : Below W.heap.size W W') : CuM b A c C W' :=
  ⟨(hb.block b (Array.getElem?_eq_some_iff.1 h.box).1).trans h.box, h.row.after hb, h.ne⟩
theorem CuM.lt (h : CuM b A c C W) : b < W.heap.size := (Array.getElem?_eq_some_iff.1 h.box).1
theorem CuM.cells (h : CuM b A c C W) : W.cell? ⟨b, 0, none⟩ = some (.string C.s) ∧ W.cell? ⟨b, 1, none⟩ = some (.slice A C.L.length c) ∧ W.cell? ⟨b, 2, none⟩ = some (.int .i64 (C.n : Nat)) ∧ W.cell? ⟨b, 3, none⟩ = some (.int .i64 (C.d : Nat)) ∧ W.cell? ⟨b, 4, none⟩ = some (.int .i64 C.f) ∧ W.cell? ⟨b, 5, none⟩ = some (.int .i64 C.p) :=
  ⟨cell_heap h.box, cell_heap h.box, cell_heap h.box, cell_heap h.box, cell_heap h.box, cell_heap h.box⟩
theorem CuM.frz (h : CuM b A c C W) (i : Nat) : W.frozen? ⟨b, i, none⟩ = false := frozen_heap h.box
/-- one of its numbers is set -/
theorem CuM.set (h : CuM b A c C W) (i : Nat) (v : Value) {C' : Cu} (hL : C'.L = C.L) (hv : (#[.string C.s, .slice A C.L.length c, .int .i64 (C.n : Nat), .int .i64 (C.d : Nat), .int .i64 C.f, .int .i64 C.p] : Array Value).setIfInBounds i v = #[.string C'.s, .slice A C'.L.length c, .int .i64 (C'.n : Nat), .int .i64 (C'.d : Nat), .int .i64 C'.f, .int .i64 C'.p]) :
    CuM b A c C' (W.setCell ⟨b, i, none⟩ v) := by
  refine ⟨?_, ?_, by rw [hL]; exact h.ne⟩
  · have := heap_set h.box (i := i) v
    rw [hv] at this
    exact this
  · rw [hL, size_set]
    intro hn
    obtain ⟨g, off, rfl, hg, hc⟩ := h.row hn
    have hne := h.ne hn _ rfl
    exact ⟨g, off, rfl, hg, fun j u hu => (cell_of (Below.heap_setCell _ _ _ _ hne)).trans (hc j u hu)⟩
/-- a token of its row -/
theorem CuM.tok (h : CuM b A c C W) {k : Nat} {t : Tk} (hk : C.L[k]? = some t) : ∃ g off, A = some ⟨g, off, none⟩ ∧ g < W.heap.size ∧
    W.cell? ⟨g, off + k * 3, none⟩ = some (.int .i64 (t.k : Nat)) ∧ W.cell? ⟨g, off + k * 3 + 1, none⟩ = some (.int .i64 (t.a : Nat)) ∧ W.cell? ⟨g, off + k * 3 + 2, none⟩ = some (.int .i64 (t.z : Nat)) := tok_at h.row hk
end
/-- a call that reads alone -/
def Rd (W : World) (v : Value) (e : Ending) (W' : World) : Prop := e = .returned v ∧ Below W.heap.size W W'

section
variable {b : Nat} {A : Option Addr} {c : Nat} {C : Cu} {W : World}

set_option maxHeartbeats 1000000 in
theorem left_any (h : CuM b A c C W) (hk : C.Ok) : Calls Tryz.prog 25 #[.pointer (some ⟨b, 0, none⟩)] W (Rd W (.int .i64 (C.left : Nat))) := by
  obtain ⟨c0, c1, c2, c3, c4, c5⟩ := h.cells
  have hn := hk.n
  unfold Cu.left Rd
  by_cases hf : C.f = 0
  · rw [if_pos hf]
    rw [hf] at c4
    have hs : ((C.L.length - C.n : Nat) : Int) = (C.L.length : Int) - C.n := by omega
    have hl := hk.len
    have hz : wrap64 ((C.L.length : Int) - C.n) = (C.L.length : Int) - C.n := by unfold wrap64; omega
    rw [hs]
    clear hf hs h hk
    go_enter Tryz.func25, Tryz.ntmps25
    go_wp2
    go_quiet (fail)
    go_wp2
    go_ret
    exact ⟨rfl, below_drewN (Below.refl _ _) _⟩
  · rw [if_neg hf]
    have hb : (C.f == 0) = false := by rw [beq_eq_false_iff_ne]; exact hf
    have hb2 : (C.f != 0) = true := by simp [bne, hb]
    clear h hk
    go_enter Tryz.func25, Tryz.ntmps25
    go_wp2
    go_ret
    exact ⟨rfl, Below.refl _ _⟩
end
theorem left_nil (W : World) : Calls Tryz.prog 25 #[.pointer none] W (Rd W (.int .i64 0)) := by
  go_enter Tryz.func25, Tryz.ntmps25
  go_wp2
  go_ret
  exact ⟨rfl, Below.refl _ _⟩
end Go.Proofs.YtfmlcddakfbleaaGreatDoor
