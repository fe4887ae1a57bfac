/- The document's cursor: a value of six fields; what reads it. -/
import Derived.Test.YtjnclchbklehgaaGreatDoorMzCur
namespace Go.Proofs.YtjnclchbklehgaaGreatDoor
open Go.RowKit SignMath TreeMath

attribute [local go_sem] Oper.semAt_some

/-- the document's cursor, as a value, and in a box -/
abbrev rcv (C : Cu) (A : Option Addr) (c : Nat) : Value := .agg #[.string C.s, .slice A C.L.length c, .int .i64 (C.n : Nat), .int .i64 (C.d : Nat), .int .i64 C.p, .int .i64 C.f]
abbrev rcc (C : Cu) (A : Option Addr) (c : Nat) : Array Value := #[.string C.s, .slice A C.L.length c, .int .i64 (C.n : Nat), .int .i64 (C.d : Nat), .int .i64 C.p, .int .i64 C.f]
abbrev rcb (C : Cu) (A : Option Addr) (c : Nat) : Obj := .cells (rcc C A c) 31 (0, 0)
/-- its tokens lie in memory -/
abbrev RcR (C : Cu) (A : Option Addr) (W : World) : Prop := Rdc W W.heap.size A (tcells C.L)

/-- six cells stored into a box -/
abbrev set6 (W : World) (b : Nat) (s : ByteArray) (A : Option Addr) (n c : Nat) (x2 x3 x4 x5 : Int) : World := (((((W.setCell ⟨b, 0, none⟩ (.string s)).setCell ⟨b, 1, none⟩ (.slice A n c)).setCell ⟨b, 2, none⟩ (.int .i64 x2)).setCell ⟨b, 3, none⟩ (.int .i64 x3)).setCell ⟨b, 4, none⟩ (.int .i64 x4)).setCell ⟨b, 5, none⟩ (.int .i64 x5)
abbrev six (s : ByteArray) (A : Option Addr) (n c : Nat) (x2 x3 x4 x5 : Int) : Value := .agg #[.string s, .slice A n c, .int .i64 x2, .int .i64 x3, .int .i64 x4, .int .i64 x5]
abbrev sixb (s : ByteArray) (A : Option Addr) (n c : Nat) (x2 x3 x4 x5 : Int) (t : TypeId) : Obj := .cells #[.string s, .slice A n c, .int .i64 x2, .int .i64 x3, .int .i64 x4, .int .i64 x5] t (0, 0)
theorem set6_self {W : World} {b : Nat} {t : TypeId} {u0 u1 u2 u3 u4 u5 : Value} (h : W.heap[b]? = some (.cells #[u0, u1, u2, u3, u4, u5] t (0, 0))) (s : ByteArray) (A : Option Addr) (n c : Nat) (x2 x3 x4 x5 : Int) : (set6 W b s A n c x2 x3 x4 x5).heap[b]? = some (sixb s A n c x2 x3 x4 x5 t) := by
  have := heap_set (heap_set (heap_set (heap_set (heap_set (heap_set h (i := 0) (.string s)) (i := 1) (.slice A n c)) (i := 2) (.int .i64 x2)) (i := 3) (.int .i64 x3)) (i := 4) (.int .i64 x4)) (i := 5) (.int .i64 x5)
  simpa using this
theorem set6_other {W : World} {b k : Nat} (h : k ≠ b) (s : ByteArray) (A : Option Addr) (n c : Nat) (x2 x3 x4 x5 : Int) : (set6 W b s A n c x2 x3 x4 x5).heap[k]? = W.heap[k]? := by
  rw [set6, Below.heap_setCell _ _ _ _ h, Below.heap_setCell _ _ _ _ h, Below.heap_setCell _ _ _ _ h, Below.heap_setCell _ _ _ _ h, Below.heap_setCell _ _ _ _ h, Below.heap_setCell _ _ _ _ h]
theorem below_set6 {B : Nat} {w W : World} (h : Below B w W) {b : Nat} (hb : B ≤ b) (s : ByteArray) (A : Option Addr) (n c : Nat) (x2 x3 x4 x5 : Int) : Below B w (set6 W b s A n c x2 x3 x4 x5) :=
  (((((h.setCell (p := ⟨b, 0, none⟩) hb _).setCell (p := ⟨b, 1, none⟩) hb _).setCell (p := ⟨b, 2, none⟩) hb _).setCell (p := ⟨b, 3, none⟩) hb _).setCell (p := ⟨b, 4, none⟩) hb _).setCell (p := ⟨b, 5, none⟩) hb _
set_option maxRecDepth 100000 in
theorem size_rcur : ∀ w : World, (sizeOf 31).run Tryz.prog w = .ok 6 w := fun _ => rfl
theorem wp_store_six {o : Oper} {a : Act} {w : World} {K : Act → World → Prop} {Q : Exit → Act → World → Prop} (t : TypeId) (x y : Operand) (ho : o.op = .store t x y) (hsz : ∀ w : World, (sizeOf t).run Tryz.prog w = .ok 6 w) (b : Nat) (s : ByteArray) (A : Option Addr) (n c : Nat) (x2 x3 x4 x5 : Int) (u0 u1 u2 u3 u4 u5 : Value) (t' : TypeId)
    (hx : a.eval x = .pointer (some ⟨b, 0, none⟩)) (hy : a.eval y = six s A n c x2 x3 x4 x5) (hc : w.heap[b]? = some (.cells #[u0, u1, u2, u3, u4, u5] t' (0, 0))) (hK : K (a.put o.dst undef) (set6 w b s A n c x2 x3 x4 x5)) : o.wp Tryz.prog a w K Q := by
  have h1 := heap_set hc (i := 0) (.string s)
  have h2 := heap_set h1 (i := 1) (.slice A n c)
  have h3 := heap_set h2 (i := 2) (.int .i64 x2)
  have h4 := heap_set h3 (i := 3) (.int .i64 x3)
  have h5 := heap_set h4 (i := 4) (.int .i64 x4)
  have c0 := cell_heap hc (i := 0)
  have c1 := cell_heap h1 (i := 1)
  have c2 := cell_heap h2 (i := 2)
  have c3 := cell_heap h3 (i := 3)
  have c4 := cell_heap h4 (i := 4)
  have c5 := cell_heap h5 (i := 5)
  have f0 := frozen_heap hc (i := 0)
  have f1 := frozen_heap h1 (i := 1)
  have f2 := frozen_heap h2 (i := 2)
  have f3 := frozen_heap h3 (i := 3)
  have f4 := frozen_heap h4 (i := 4)
  have f5 := frozen_heap h5 (i := 5)
  simp only [List.setIfInBounds_toArray, List.set_cons_zero, List.set_cons_succ, List.getElem?_toArray, List.getElem?_cons_zero, List.getElem?_cons_succ] at c0 c1 c2 c3 c4 c5
  unfold Oper.wp
  simp only [execOp, ho, hx, hy]
  simp [go_sem, hsz, c0, c1, c2, c3, c4, c5, f0, f1, f2, f3, f4, f5]
  exact hK
/-- a cursor stored into a box, in a plain region -/
theorem wpList_store_six {ops : Array Oper} {rest : List Oper} {o : Oper} {a : Act} {w : World} {Q : Exit → Act → World → Prop} (hg : o.guard = none) (t : TypeId) (x y : Operand) (ho : o.op = .store t x y) (hsz : ∀ w : World, (sizeOf t).run Tryz.prog w = .ok 6 w) (b : Nat) {s : ByteArray} {A : Option Addr} {n c : Nat} {x2 x3 x4 x5 : Int} {u0 u1 u2 u3 u4 u5 : Value} {t' : TypeId}
    (hx : a.eval x = .pointer (some ⟨b, 0, none⟩)) (hy : a.eval y = six s A n c x2 x3 x4 x5) (hc : w.heap[b]? = some (.cells #[u0, u1, u2, u3, u4, u5] t' (0, 0))) (h : wpList Tryz.prog ops Q rest (a.put o.dst undef) (set6 w b s A n c x2 x3 x4 x5)) : wpList Tryz.prog ops Q (o :: rest) a w :=
  wpList_plain hg fun _ hK => wp_store_six t x y ho hsz b s A n c x2 x3 x4 x5 u0 u1 u2 u3 u4 u5 t' hx hy hc (hK _ _ h)
/-- the same, at a step of a region that draws its order -/
theorem step_store_six {ops : Array Oper} {o : Oper} {a : Act} {w : World} {K : Act → World → Prop} {Q : Exit → Act → World → Prop} {E : Prop} (hg : o.guard = none) (t : TypeId) (x y : Operand) (ho : o.op = .store t x y) (hsz : ∀ w : World, (sizeOf t).run Tryz.prog w = .ok 6 w) (b : Nat) {s : ByteArray} {A : Option Addr} {n c : Nat} {x2 x3 x4 x5 : Int} {u0 u1 u2 u3 u4 u5 : Value} {t' : TypeId}
    (hx : a.eval x = .pointer (some ⟨b, 0, none⟩)) (hy : a.eval y = six s A n c x2 x3 x4 x5) (hc : w.heap[b]? = some (.cells #[u0, u1, u2, u3, u4, u5] t' (0, 0))) (hK : K (a.put o.dst undef) (set6 w b s A n c x2 x3 x4 x5)) :
    if Region.wanted o (yielded ops a.tmps) = true then Oper.wp Tryz.prog o a w K Q else E := by
  rw [if_pos (by simp [Region.wanted, hg])]
  exact wp_store_six t x y ho hsz b s A n c x2 x3 x4 x5 u0 u1 u2 u3 u4 u5 t' hx hy hc hK
theorem heap6s {W : World} {b : Nat} {s : ByteArray} {A : Option Addr} {n c : Nat} {x2 x3 x4 x5 : Int} {t : TypeId} (h : W.heap[b]? = some (sixb s A n c x2 x3 x4 x5 t)) : W.cell? ⟨b, 0, none⟩ = some (.string s) ∧ W.cell? ⟨b, 1, none⟩ = some (.slice A n c) ∧ W.cell? ⟨b, 2, none⟩ = some (.int .i64 x2) ∧ W.cell? ⟨b, 3, none⟩ = some (.int .i64 x3) ∧ W.cell? ⟨b, 4, none⟩ = some (.int .i64 x4) ∧ W.cell? ⟨b, 5, none⟩ = some (.int .i64 x5) :=
  ⟨cell_heap h, cell_heap h, cell_heap h, cell_heap h, cell_heap h, cell_heap h⟩
theorem heap6 {W : World} {b : Nat} {C : Cu} {A : Option Addr} {c : Nat} {t : TypeId} (h : W.heap[b]? = some (.cells (rcc C A c) t (0, 0))) : W.cell? ⟨b, 0, none⟩ = some (.string C.s) ∧ W.cell? ⟨b, 1, none⟩ = some (.slice A C.L.length c) ∧ W.cell? ⟨b, 2, none⟩ = some (.int .i64 (C.n : Nat)) ∧ W.cell? ⟨b, 3, none⟩ = some (.int .i64 (C.d : Nat)) ∧ W.cell? ⟨b, 4, none⟩ = some (.int .i64 C.p) ∧ W.cell? ⟨b, 5, none⟩ = some (.int .i64 C.f) :=
  ⟨cell_heap h, cell_heap h, cell_heap h, cell_heap h, cell_heap h, cell_heap h⟩
theorem rc_after {C : Cu} {A : Option Addr} {W W' : World} (h : RcR C A W) (hb : Below W.heap.size W W') : RcR C A W' := h.after hb

section
variable {A : Option Addr} {c : Nat} {C : Cu} {W : World}

set_option maxHeartbeats 1000000 in
theorem rleft_any (hk : C.Ok) : Calls Tryz.prog 28 #[rcv C A c] W (Rd W (.int .i64 (C.left : Nat))) := by
  have hn := hk.n
  have hB := below1 W (rcb C A c)
  unfold Cu.left Rd
  by_cases hf : C.f = 0
  · rw [if_pos hf]
    have hs : ((C.L.length - C.n : Nat) : Int) = (C.L.length : Int) - C.n := by omega
    have hl := hk.len
    have hz : wrap64 ((C.L.length : Int) - C.n) = (C.L.length : Int) - C.n := by unfold wrap64; omega
    rw [hs]
    have e1 : (C.f == 0) = true := by rw [beq_iff_eq]; exact hf
    have e2 : (C.f != 0) = false := by simp [bne, e1]
    clear hf hs hk
    go_enter Tryz.func28, Tryz.ntmps28
    go_wp2
    go_ret
    exact ⟨rfl, hB⟩
  · rw [if_neg hf]
    have hb : (C.f == 0) = false := by rw [beq_eq_false_iff_ne]; exact hf
    have hb2 : (C.f != 0) = true := by simp [bne, hb]
    clear hk
    go_enter Tryz.func28, Tryz.ntmps28
    go_wp2
    go_ret
    exact ⟨rfl, hB⟩

set_option maxHeartbeats 2000000 in
theorem rat_any (hr : RcR C A W) (hk : C.Ok) : Calls Tryz.prog 51 #[rcv C A c] W (Rd W (.int .i64 (C.at : Nat))) := by
  have hB := below1 W (rcb C A c)
  have hbx := heap_alloc_new W (rcb C A c)
  have HL := Lib.hid (rleft_any (A := A) (c := c) (W := W.alloc (rcb C A c)) hk)
  have HR := Lib.hid (rc_after hr hB)
  have HB := Lib.hid hB
  have HX := Lib.hid hbx
  unfold Rd at HL ⊢
  have hat : C.at = match C.nxt 0 with | some t => t.a | none => C.s.size := rfl
  cases hx : C.nxt 0 with
  | none =>
    have hl0 : C.left = 0 := by have := Cu.nxt_none hx hk.n; omega
    rw [hl0] at HL
    rw [hat, hx]
    have hsz := hk.sz
    clear hr hk hB hbx hat hx hl0
    go_enter Tryz.func51, Tryz.ntmps51
    go_wp2_with fail
    refine HL.out.mono ?_
    rintro e w1 ⟨rfl, hb⟩
    have c6 := heap6 ((hb.block _ (by simp)).trans HX.out)
    have HB1 := Lib.hid (HB.out.trans (hb.mono HB.out.size))
    clear hb HL HB HX HR
    go_wp2
    go_ret
    exact ⟨rfl, HB1.out⟩
  | some t =>
    have hl0 : ((C.left : Nat) : Int) ≠ 0 := by have := Cu.nxt_left hx; omega
    obtain ⟨hf, ht⟩ := Cu.nxt_some hx
    rw [Nat.add_zero] at ht
    rw [hat, hx]
    have hlt := (List.getElem?_eq_some_iff.1 ht).1
    have z1 : (0 : Int) ≤ (C.n : Nat) := by omega
    have z2 : ((C.n : Nat) : Int) < (C.L.length : Nat) := by omega
    generalize C.left = lf at HL hl0
    clear hr hk hB hbx hat hx hf hlt
    go_enter Tryz.func51, Tryz.ntmps51
    go_wp2_with fail
    refine HL.out.mono ?_
    rintro e w1 ⟨rfl, hb⟩
    obtain ⟨g, off, rfl, -, t0, t1, t2⟩ := tok_at (HR.out.after hb) ht
    have c6 := heap6 ((hb.block _ (by simp)).trans HX.out)
    have HB1 := Lib.hid (HB.out.trans (hb.mono HB.out.size))
    clear hb HL HB HX HR ht
    go_wp2
    go_ret
    exact ⟨rfl, HB1.out⟩

set_option maxHeartbeats 2000000 in
theorem rlast_any (hr : RcR C A W) (hk : C.Ok) : Calls Tryz.prog 74 #[rcv C A c] W (Rd W (.int .i64 (C.beh : Nat))) := by
  have hB := below1 W (rcb C A c)
  unfold Rd Cu.beh
  by_cases hn : C.n = 0
  · rw [if_pos hn]
    have hn0 : ((C.n : Nat) : Int) = 0 := by omega
    simp only [rcv, rcb, rcc, hn0] at hB ⊢
    clear hr hk hn hn0
    go_enter Tryz.func74, Tryz.ntmps74
    go_wp2
    go_ret
    exact ⟨rfl, hB⟩
  · rw [if_neg hn]
    have hnl := hk.n
    obtain ⟨t, ht⟩ : ∃ t, C.L[C.n - 1]? = some t := ⟨_, List.getElem?_eq_getElem (by omega)⟩
    obtain ⟨g, off, rfl, -, t0, t1, t2⟩ := tok_at (rc_after hr hB) ht
    rw [ht]
    have hl := hk.len
    have hz : wrap64 ((C.n : Int) - 1) = ((C.n - 1 : Nat) : Int) := by unfold wrap64; omega
    have hn' : ((C.n : Nat) : Int) ≠ 0 := by omega
    have z1 : (0 : Int) ≤ (C.n - 1 : Nat) := by omega
    have z2 : ((C.n - 1 : Nat) : Int) < (C.L.length : Nat) := by omega
    clear hr hk ht
    go_enter Tryz.func74, Tryz.ntmps74
    go_wp2
    go_ret
    exact ⟨rfl, hB⟩
end
end Go.Proofs.YtjnclchbklehgaaGreatDoor

namespace Go.Proofs.YtjnclchbklehgaaGreatDoor
open Go.RowKit SignMath TreeMath

attribute [local go_sem] Oper.semAt_some

section
variable {A : Option Addr} {c : Nat} {C : Cu} {W : World}

set_option maxRecDepth 100000 in
set_option maxHeartbeats 4000000 in
theorem rpeek_any (i : Int) (hr : RcR C A W) (hk : C.Ok) : Calls Tryz.prog 30 #[rcv C A c, .int .i64 i] W (Rd W (.tuple #[.int .i64 (C.pk i).1, .string (C.pk i).2])) := by
  have hB := below1 W (rcb C A c)
  have hbx := heap_alloc_new W (rcb C A c)
  have HL : Hid (∀ W' : World, Calls Tryz.prog 28 #[rcv C A c] W' (Rd W' (.int .i64 (C.left : Nat)))) := Lib.hid fun W' => rleft_any hk
  have HR := Lib.hid (rc_after hr hB)
  have HB := Lib.hid hB
  have HX := Lib.hid hbx
  have HK := Lib.hid hk
  have hll : C.left ≤ 4000 := by have := hk.len; unfold Cu.left; split <;> omega
  unfold Rd at HL ⊢
  clear hr hk hB hbx
  go_enter Tryz.func30, Tryz.ntmps30
  go_wp2
  go_loopw [6] (fun x wr => ∃ j : Nat, x = .int .i64 j ∧ j ≤ C.left ∧ Hid (0 ≤ i → (j : Int) ≤ i) ∧ Hid (Below W.heap.size W wr ∧ wr.heap[W.heap.size]? = some (rcb C A c) ∧ RcR C A wr)) (fun x _ => C.left + 1 - (intOf x).toNat)
  case atStart => exact ⟨0, rfl, Nat.zero_le _, Lib.hid (fun h => h), Lib.hid ⟨HB.out, HX.out, HR.out⟩⟩
  case round =>
    obtain ⟨j, rfl, hj, HI, HM⟩ := hrel
    have c6 := heap6 HM.out.2.1
    go_wp2_with fail
    refine (HL.out wr).mono ?_
    rintro e w1 ⟨rfl, hb⟩
    have hM1 : Below W.heap.size W w1 ∧ w1.heap[W.heap.size]? = some (rcb C A c) ∧ RcR C A w1 := ⟨HM.out.1.trans (hb.mono HM.out.1.size), (hb.block _ (Array.getElem?_eq_some_iff.1 HM.out.2.1).1).trans HM.out.2.1, rc_after HM.out.2.2 hb⟩
    have HM1 := Lib.hid hM1
    clear hb hM1 c6
    by_cases hlt : j < C.left
    · by_cases hij : (j : Int) = i
      · subst hij
        obtain ⟨t, ht⟩ : ∃ t, C.nxt j = some t := by
          cases hx : C.nxt j with
          | none => have := Cu.nxt_none hx HK.out.n; omega
          | some t => exact ⟨t, rfl⟩
        obtain ⟨hf, htL⟩ := Cu.nxt_some ht
        have hpk : C.pk (j : Nat) = (((t.k : Nat) : Int), C.s.extract t.a t.z) := by unfold Cu.pk; rw [if_neg (by omega), Int.toNat_natCast, ht]
        have HPK := Lib.hid hpk
        have htk := HK.out.tok t (List.mem_of_getElem? htL)
        have hlL := (List.getElem?_eq_some_iff.1 htL).1
        have hln := HK.out.len
        obtain ⟨g, off, rfl, -, t0, t1, t2⟩ := tok_at HM1.out.2.2 htL
        have c6 := heap6 HM1.out.2.1
        have b6 := heap6 ((Below.heap_alloc w1 (.cells #[.int .i64 (t.k : Nat), .int .i64 (t.a : Nat), .int .i64 (t.z : Nat)] 108) _ (Array.getElem?_eq_some_iff.1 HM1.out.2.1).1).trans HM1.out.2.1)
        have hw : wrap64 ((C.n : Int) + (j : Int)) = ((C.n + j : Nat) : Int) := by unfold wrap64; omega
        have z1 : (0 : Int) ≤ (C.n + j : Nat) := by omega
        have z2 : ((C.n + j : Nat) : Int) < (C.L.length : Nat) := by omega
        have z3 : (j : Int) < (C.left : Nat) := by omega
        have y1 : (0 : Int) ≤ (t.a : Nat) := by omega
        have y2 : ((t.a : Nat) : Int) ≤ (t.z : Nat) := by omega
        have y3 : ((t.z : Nat) : Int) ≤ (C.s.size : Nat) := by omega
        have HBB := Lib.hid (HM1.out.1.trans ((below1 w1 (.cells #[.int .i64 (t.k : Nat), .int .i64 (t.a : Nat), .int .i64 (t.z : Nat)] 108)).mono HM1.out.1.size))
        clear hpk ht htL htk hf
        go_wp2
        go_quiet (fail)
        go_wp2
        refine bodyPost_ret (v := .tuple #[.int .i64 (t.k : Nat), .string (C.s.extract t.a t.z)]) (by simp [results, Tryz.results30, go_sem]) rfl ⟨by rw [HPK.out], below_drewN HBB.out _⟩
      · have z3 : (j : Int) < (C.left : Nat) := by omega
        go_wp2
        go_roundw
        case rel => exact ⟨j + 1, by go_num, by omega, Lib.hid (fun h => by have := HI.out h; omega), HM1⟩
        case measure => simp [intOf]; omega
    · obtain rfl : j = C.left := by omega
      have hpk : C.pk i = (0, ⟨#[]⟩) := by
        unfold Cu.pk
        split
        · rfl
        · rename_i h0
          have h1 := HI.out (by omega)
          cases hx : C.nxt i.toNat with
          | none => rfl
          | some t => have := Cu.nxt_left hx; omega
      have HPK := Lib.hid hpk
      clear hpk
      go_wp2
      refine bodyPost_ret (v := .tuple #[.int .i64 0, .string ⟨#[]⟩]) (by simp [results, Tryz.results30, go_sem]) rfl ⟨by rw [HPK.out], HM1.out.1⟩

set_option maxRecDepth 100000 in
set_option maxHeartbeats 2000000 in
theorem ris_any (i : Int) (s : ByteArray) (hr : RcR C A W) (hk : C.Ok) : Calls Tryz.prog 49 #[rcv C A c, .int .i64 i, .string s] W (Rd W (.bool (C.isb i s))) := by
  have hB := below1 W (rcb C A c)
  have HL := Lib.hid (rpeek_any (A := A) (c := c) (W := W.alloc (rcb C A c)) i (rc_after hr hB) hk)
  have HB := Lib.hid hB
  unfold Rd at HL ⊢
  unfold Cu.isb
  generalize C.pk i = q at HL
  obtain ⟨k, t⟩ := q
  dsimp only at HL ⊢
  have hbe : (t.toList == s.toList) = decide (t = s) := by
    rw [Bool.eq_iff_iff]
    simp only [beq_iff_eq, decide_eq_true_eq]
    refine ⟨fun h => ?_, fun h => by rw [h]⟩
    have h2 := congrArg List.toArray h
    rw [ByteArray.toList_eq, ByteArray.toList_eq] at h2
    exact ByteArray.ext (by simpa using h2)
  have hk3 : (k == 3) = decide (k = 3) := by rw [Bool.eq_iff_iff]; simp
  have hk6 : (k == 6) = decide (k = 6) := by rw [Bool.eq_iff_iff]; simp
  clear hr hk hB
  by_cases h3 : k = 3
  · rw [decide_eq_true h3] at hk3 ⊢
    clear hk6 h3
    go_enter Tryz.func49, Tryz.ntmps49
    go_wp2_with fail
    refine HL.out.mono ?_
    rintro e w1 ⟨rfl, hb⟩
    have HB1 := Lib.hid (HB.out.trans (hb.mono HB.out.size))
    clear hb HL HB
    go_wp2
    go_ret
    exact ⟨by simp, HB1.out⟩
  · rw [decide_eq_false h3] at hk3 ⊢
    by_cases h6 : k = 6
    · rw [decide_eq_true h6] at hk6 ⊢
      clear h3 h6
      go_enter Tryz.func49, Tryz.ntmps49
      go_wp2_with fail
      refine HL.out.mono ?_
      rintro e w1 ⟨rfl, hb⟩
      have HB1 := Lib.hid (HB.out.trans (hb.mono HB.out.size))
      clear hb HL HB
      go_wp2
      go_ret
      exact ⟨by simp, HB1.out⟩
    · rw [decide_eq_false h6] at hk6 ⊢
      clear h3 h6
      go_enter Tryz.func49, Tryz.ntmps49
      go_wp2_with fail
      refine HL.out.mono ?_
      rintro e w1 ⟨rfl, hb⟩
      have HB1 := Lib.hid (HB.out.trans (hb.mono HB.out.size))
      clear hb HL HB
      go_wp2
      go_ret
      exact ⟨by simp, HB1.out⟩

set_option maxRecDepth 100000 in
set_option maxHeartbeats 2000000 in
theorem rend_any (hr : RcR C A W) (hk : C.Ok) : Calls Tryz.prog 53 #[rcv C A c] W (Rd W (.string C.en)) := by
  have hB := below1 W (rcb C A c)
  have hbx := heap_alloc_new W (rcb C A c)
  have HL := Lib.hid (rleft_any (A := A) (c := c) (W := W.alloc (rcb C A c)) hk)
  have HBE : Hid (∀ W' : World, RcR C A W' → Calls Tryz.prog 74 #[rcv C A c] W' (Rd W' (.int .i64 (C.beh : Nat)))) := Lib.hid fun W' h' => rlast_any h' hk
  have HR := Lib.hid (rc_after hr hB)
  have HB := Lib.hid hB
  have HX := Lib.hid hbx
  have hbl := hk.beh_le
  unfold Cu.en
  unfold Rd at HL HBE ⊢
  by_cases hf : C.f = 0
  · by_cases hl : C.left = 0
    · rw [if_pos ⟨hf, hl⟩]
      rw [hl] at HL
      have e1 : (C.f == 0) = true := by rw [beq_iff_eq]; exact hf
      have e2 : (C.f != 0) = false := by simp [bne, e1]
      have z1 : (0 : Int) ≤ C.beh := by omega
      have z2 : (C.beh : Int) ≤ C.s.size := by omega
      generalize C.beh = q at HBE hbl z1 z2
      clear hr hk hf hl hB hbx
      go_enter Tryz.func53, Tryz.ntmps53
      go_wp2_with fail
      refine HL.out.mono ?_
      rintro e w1 ⟨rfl, hb⟩
      have hr1 := rc_after HR.out hb
      have hx1 := (hb.block _ (by simp)).trans HX.out
      have hb0 := HB.out.trans (hb.mono HB.out.size)
      clear e1 e2 HL
      go_wp2
      rename_i K0 hK0
      refine wp_region_noPanic (wp_region_held (S := fun W' : World => W'.heap[W.heap.size]? = some (rcb C A c)) (by kernel_rfl) ?_)
      have hd : Below w1.heap.size w1 w1.drew := ⟨rfl, rfl, rfl, Nat.le_refl _, fun _ _ => rfl⟩
      have hr2 := rc_after hr1 hd
      have hx2 : w1.drew.heap[W.heap.size]? = some (rcb C A c) := hx1
      have hb2 := hb0.trans (hd.mono hb0.size)
      show wpAnyH _ _ _ _ _ _ _ _ w1.drew
      generalize w1.drew = w2 at hr2 hx2 hb2 ⊢
      refine wpAnyH_take_d (i := 0) (v := .pointer (some ⟨W.heap.size, 0, none⟩)) 11 rfl rfl (by kernel_rfl) (by kernel_rfl) (by kernel_rfl) (fun _ _ _ h => h) (Or.inl ⟨by kernel_rfl, fun w' hS' => ?y0⟩) (hx2) ?_
      case y0 => (clear hS'; go_simp)
      simp only [Act.put, List.setIfInBounds_toArray, List.set_cons_zero, List.set_cons_succ]
      refine wpAnyH_take_d (i := 1) (v := .string C.s) 12 rfl rfl (by kernel_rfl) (by kernel_rfl) (by kernel_rfl) (fun _ _ _ h => h) (Or.inl ⟨by kernel_rfl, fun w' hS' => ?y1⟩) (hx2) ?_
      case y1 => (obtain ⟨s0, s1, s2, s3, s4, s5⟩ := heap6 hS'; clear hS'; go_simp)
      simp only [Act.put, List.setIfInBounds_toArray, List.set_cons_zero, List.set_cons_succ]
      refine wpAnyH_take_d (i := 2) (v := rcv C A c) 13 rfl rfl (by kernel_rfl) (by kernel_rfl) (by kernel_rfl) (fun _ _ _ h => h) (Or.inl ⟨by kernel_rfl, fun w' hS' => ?y2⟩) (hx2) ?_
      case y2 => (obtain ⟨s0, s1, s2, s3, s4, s5⟩ := heap6 hS'; clear hS'; go_simp)
      simp only [Act.put, List.setIfInBounds_toArray, List.set_cons_zero, List.set_cons_succ]
      refine wpAnyH_ready (rs := [3]) (by kernel_rfl) (by simp) ?_
      refine AllReadyH.cons rfl (fun K hK => ?_) AllReadyH.nil
      go_simp
      refine (HBE.out w2 hr2).mono ?_
      rintro e w3 ⟨rfl, hb3⟩
      have hx3 : w3.heap[W.heap.size]? = some (rcb C A c) := (hb3.block _ (Array.getElem?_eq_some_iff.1 hx2).1).trans hx2
      have hb4 := hb2.trans (hb3.mono hb2.size)
      refine hK.out _ _ (hx3) (fun _ => ?_)
      clear hK K
      try simp only [Act.put, List.setIfInBounds_toArray, List.set_cons_zero, List.set_cons_succ]
      refine wpAnyH_take_d (i := 4) (v := .string (C.s.extract q C.s.size)) 15 rfl rfl (by kernel_rfl) (by kernel_rfl) (by kernel_rfl) (fun _ _ _ h => h) (Or.inl ⟨by kernel_rfl, fun w' hS' => ?y4⟩) (hx3) ?_
      case y4 => (clear hS'; go_simp)
      simp only [Act.put, List.setIfInBounds_toArray, List.set_cons_zero, List.set_cons_succ]
      refine wpAnyH_take_d (i := 5) (v := .string (C.s.extract q C.s.size)) 2 rfl rfl (by kernel_rfl) (by kernel_rfl) (by kernel_rfl) (fun _ _ _ h => h) (Or.inl ⟨by kernel_rfl, fun w' hS' => ?y5⟩) (hx3) ?_
      case y5 => (clear hS'; go_simp)
      simp only [Act.put, List.setIfInBounds_toArray, List.set_cons_zero, List.set_cons_succ]
      refine wpAnyH_done (by kernel_rfl) ?_ _
      refine hK0 _ _ ?_
      go_wp2
      go_ret
      exact ⟨rfl, hb4⟩
    · rw [if_neg (fun hh => hl hh.2)]
      have hgt : (0 : Int) < (C.left : Nat) := by omega
      have e1 : (C.f == 0) = true := by rw [beq_iff_eq]; exact hf
      have e2 : (C.f != 0) = false := by simp [bne, e1]
      generalize C.left = q at HL hgt
      clear hr hk hf hl HBE hbl hB hbx
      go_enter Tryz.func53, Tryz.ntmps53
      go_wp2_with fail
      refine HL.out.mono ?_
      rintro e w1 ⟨rfl, hb⟩
      have HB1 := Lib.hid (HB.out.trans (hb.mono HB.out.size))
      clear hb HB
      go_wp2
      go_ret
      exact ⟨rfl, HB1.out⟩
  · rw [if_neg (fun hh => hf hh.1)]
    have hb : (C.f == 0) = false := by rw [beq_eq_false_iff_ne]; exact hf
    have hb2 : (C.f != 0) = true := by simp [bne, hb]
    clear hr hk hf HBE hbl HL
    go_enter Tryz.func53, Tryz.ntmps53
    go_wp2
    go_ret
    exact ⟨rfl, HB.out⟩
end
end Go.Proofs.YtjnclchbklehgaaGreatDoor

namespace Go.Proofs.YtjnclchbklehgaaGreatDoor
open Go.RowKit SignMath TreeMath

attribute [local go_sem] Oper.semAt_some

section
variable {A : Option Addr} {c : Nat} {C : Cu} {W : World}

abbrev zb6 : Obj := .cells #[.string ⟨#[]⟩, .slice none 0 0, .int .i64 0, .int .i64 0, .int .i64 0, .int .i64 0] 31 (0, 0)
/-- the two boxes: the parameter's and the result's -/
theorem two_boxes (W : World) (C : Cu) (A : Option Addr) (c : Nat) : Below W.heap.size W ((W.alloc (rcb C A c)).alloc zb6) ∧ ((W.alloc (rcb C A c)).alloc zb6).heap[W.heap.size]? = some (rcb C A c) ∧ ((W.alloc (rcb C A c)).alloc zb6).heap[W.heap.size + 1]? = some zb6 :=
  ⟨(below1 W _).alloc (by simp) _, (Below.heap_alloc _ _ _ (by simp)).trans (heap_alloc_new W _), by have := heap_alloc_new (W.alloc (rcb C A c)) zb6; rwa [World.size_alloc] at this⟩

set_option maxRecDepth 100000 in
set_option maxHeartbeats 1000000 in
theorem rfail_not (n : Int) (hf : C.f ≠ 0) : Calls Tryz.prog 22 #[rcv C A c, .int .i64 n] W (Rd W (rcv C A c)) := by
  have e1 : (C.f == 0) = false := by rw [beq_eq_false_iff_ne]; exact hf
  have e2 : (C.f != 0) = true := by simp [bne, e1]
  unfold Rd
  clear hf
  go_enter Tryz.func22, Tryz.ntmps22
  go_wp2
  refine bodyPost_ret (v := rcv C A c) (by simp [results, Tryz.results22, go_sem]) rfl ⟨rfl, (below1 W _).alloc (by simp) _⟩

set_option maxRecDepth 100000 in
set_option maxHeartbeats 1000000 in
theorem rfail_ok (n : Int) (hr : RcR C A W) (hk : C.Ok) (hf : C.f = 0) (n1 : ¬ n < 1) (n2 : ¬ 15 < n) : Calls Tryz.prog 22 #[rcv C A c, .int .i64 n] W fun e W' => e = .returned (six C.s A C.L.length c (C.n : Nat) (C.d : Nat) (C.at : Nat) n) ∧ Below W.heap.size W W' := by
  obtain ⟨hB, hx, hz⟩ := two_boxes W C A c
  have HA := Lib.hid (rat_any (A := A) (c := c) (rc_after hr hB) hk)
  unfold Rd at HA
  have e1 : (C.f == 0) = true := by rw [beq_iff_eq]; exact hf
  have e2 : (C.f != 0) = false := by simp [bne, e1]
  have HB := Lib.hid hB
  have HX := Lib.hid hx
  have HZ := Lib.hid hz
  generalize C.at = q at HA ⊢
  clear hr hk hf hB hx hz
  go_enter Tryz.func22, Tryz.ntmps22
  go_wp2_with fail
  refine HA.out.mono ?_
  rintro e w1 ⟨rfl, hb⟩
  have hx1 := (hb.block _ (by simp; omega)).trans HX.out
  have hz1 := (hb.block _ (by simp)).trans HZ.out
  have hb1 := HB.out.trans (hb.mono HB.out.size)
  have d6 := heap6 hx1
  have f6 := frozen_heap hx1 (i := 4)
  have hx2 := heap_set hx1 (i := 4) (.int .i64 (q : Nat))
  have e6 := cell_heap hx2 (i := 5)
  have k6 := frozen_heap hx2 (i := 5)
  have hx3 := heap_set hx2 (i := 5) (.int .i64 n)
  simp only [List.setIfInBounds_toArray, List.set_cons_zero, List.set_cons_succ, List.getElem?_toArray, List.getElem?_cons_zero, List.getElem?_cons_succ] at e6 hx3
  have g6 := heap6s hx3
  have hz3 : ((w1.setCell ⟨W.heap.size, 4, none⟩ (.int .i64 (q : Nat))).setCell ⟨W.heap.size, 5, none⟩ (.int .i64 n)).heap[W.heap.size + 1]? = some zb6 := (Below.heap_setCell _ _ _ _ (by simp)).trans ((Below.heap_setCell _ _ _ _ (by simp)).trans hz1)
  have hb3 : Below W.heap.size W ((w1.setCell ⟨W.heap.size, 4, none⟩ (.int .i64 (q : Nat))).setCell ⟨W.heap.size, 5, none⟩ (.int .i64 n)) := (hb1.setCell (p := ⟨W.heap.size, 4, none⟩) (Nat.le_refl _) _).setCell (p := ⟨W.heap.size, 5, none⟩) (Nat.le_refl _) _
  have HZ3 := Lib.hid hz3
  have HB3 := Lib.hid hb3
  clear hx1 hz1 hb1 hx2 hx3 hz3 hb3 hb e1 e2
  go_wp2_with (refine wpList_store_six (by rfl) 31 (.tmp 4) (.tmp 21) (by rfl) size_rcur (W.heap.size + 1) (by rfl) (by rfl) HZ3.out ?_)
  have g := heap6s (set6_self HZ3.out C.s A C.L.length c (C.n : Nat) (C.d : Nat) (q : Nat) n)
  have hbq := below_set6 HB3.out (Nat.le_succ _) C.s A C.L.length c (C.n : Nat) (C.d : Nat) (q : Nat) n
  clear HZ3 HB3 d6 f6 e6 k6 g6
  generalize set6 ((w1.setCell ⟨W.heap.size, 4, none⟩ (.int .i64 (q : Nat))).setCell ⟨W.heap.size, 5, none⟩ (.int .i64 n)) (W.heap.size + 1) C.s A C.L.length c (C.n : Nat) (C.d : Nat) (q : Nat) n = w9 at g hbq ⊢
  obtain ⟨g0, g1, g2, g3, g4, g5⟩ := g
  refine bodyPost_ret (v := six C.s A C.L.length c (C.n : Nat) (C.d : Nat) (q : Nat) n) (by simp [results, Tryz.results22, go_sem, g0, g1, g2, g3, g4, g5]) rfl ⟨rfl, hbq⟩

set_option maxRecDepth 100000 in
set_option maxHeartbeats 1000000 in
theorem rfail_low (n : Int) (hr : RcR C A W) (hk : C.Ok) (hf : C.f = 0) (n1 : n < 1) : Calls Tryz.prog 22 #[rcv C A c, .int .i64 n] W fun e W' => e = .returned (six C.s A C.L.length c (C.n : Nat) (C.d : Nat) (C.at : Nat) 2) ∧ Below W.heap.size W W' := by
  obtain ⟨hB, hx, hz⟩ := two_boxes W C A c
  have HA := Lib.hid (rat_any (A := A) (c := c) (rc_after hr hB) hk)
  unfold Rd at HA
  have e1 : (C.f == 0) = true := by rw [beq_iff_eq]; exact hf
  have e2 : (C.f != 0) = false := by simp [bne, e1]
  have HB := Lib.hid hB
  have HX := Lib.hid hx
  have HZ := Lib.hid hz
  generalize C.at = q at HA ⊢
  clear hr hk hf hB hx hz
  go_enter Tryz.func22, Tryz.ntmps22
  go_wp2_with fail
  refine HA.out.mono ?_
  rintro e w1 ⟨rfl, hb⟩
  have hx1 := (hb.block _ (by simp; omega)).trans HX.out
  have hz1 := (hb.block _ (by simp)).trans HZ.out
  have hb1 := HB.out.trans (hb.mono HB.out.size)
  have d6 := heap6 hx1
  have f6 := frozen_heap hx1 (i := 4)
  have hx2 := heap_set hx1 (i := 4) (.int .i64 (q : Nat))
  have e6 := cell_heap hx2 (i := 5)
  have k6 := frozen_heap hx2 (i := 5)
  have hx3 := heap_set hx2 (i := 5) (.int .i64 n)
  have l6 := cell_heap hx3 (i := 5)
  have m6 := frozen_heap hx3 (i := 5)
  have hx4 := heap_set hx3 (i := 5) (.int .i64 2)
  simp only [List.setIfInBounds_toArray, List.set_cons_zero, List.set_cons_succ, List.getElem?_toArray, List.getElem?_cons_zero, List.getElem?_cons_succ] at e6 l6 hx4
  have g6 := heap6s hx4
  have hz3 : (((w1.setCell ⟨W.heap.size, 4, none⟩ (.int .i64 (q : Nat))).setCell ⟨W.heap.size, 5, none⟩ (.int .i64 n)).setCell ⟨W.heap.size, 5, none⟩ (.int .i64 2)).heap[W.heap.size + 1]? = some zb6 := (Below.heap_setCell _ _ _ _ (by simp)).trans ((Below.heap_setCell _ _ _ _ (by simp)).trans ((Below.heap_setCell _ _ _ _ (by simp)).trans hz1))
  have hb3 : Below W.heap.size W (((w1.setCell ⟨W.heap.size, 4, none⟩ (.int .i64 (q : Nat))).setCell ⟨W.heap.size, 5, none⟩ (.int .i64 n)).setCell ⟨W.heap.size, 5, none⟩ (.int .i64 2)) := ((hb1.setCell (p := ⟨W.heap.size, 4, none⟩) (Nat.le_refl _) _).setCell (p := ⟨W.heap.size, 5, none⟩) (Nat.le_refl _) _).setCell (p := ⟨W.heap.size, 5, none⟩) (Nat.le_refl _) _
  have HZ3 := Lib.hid hz3
  have HB3 := Lib.hid hb3
  clear hx1 hz1 hb1 hx2 hx3 hx4 hz3 hb3 hb e1 e2
  go_wp2_with (refine wpList_store_six (by rfl) 31 (.tmp 4) (.tmp 21) (by rfl) size_rcur (W.heap.size + 1) (by rfl) (by rfl) HZ3.out ?_)
  have g := heap6s (set6_self HZ3.out C.s A C.L.length c (C.n : Nat) (C.d : Nat) (q : Nat) 2)
  have hbq := below_set6 HB3.out (Nat.le_succ _) C.s A C.L.length c (C.n : Nat) (C.d : Nat) (q : Nat) 2
  clear HZ3 HB3 d6 f6 e6 k6 g6 l6 m6
  generalize set6 (((w1.setCell ⟨W.heap.size, 4, none⟩ (.int .i64 (q : Nat))).setCell ⟨W.heap.size, 5, none⟩ (.int .i64 n)).setCell ⟨W.heap.size, 5, none⟩ (.int .i64 2)) (W.heap.size + 1) C.s A C.L.length c (C.n : Nat) (C.d : Nat) (q : Nat) 2 = w9 at g hbq ⊢
  obtain ⟨g0, g1, g2, g3, g4, g5⟩ := g
  refine bodyPost_ret (v := six C.s A C.L.length c (C.n : Nat) (C.d : Nat) (q : Nat) 2) (by simp [results, Tryz.results22, go_sem, g0, g1, g2, g3, g4, g5]) rfl ⟨rfl, hbq⟩

set_option maxRecDepth 100000 in
set_option maxHeartbeats 1000000 in
theorem rfail_high (n : Int) (hr : RcR C A W) (hk : C.Ok) (hf : C.f = 0) (n1 : ¬ n < 1) (n2 : 15 < n) : Calls Tryz.prog 22 #[rcv C A c, .int .i64 n] W fun e W' => e = .returned (six C.s A C.L.length c (C.n : Nat) (C.d : Nat) (C.at : Nat) 2) ∧ Below W.heap.size W W' := by
  obtain ⟨hB, hx, hz⟩ := two_boxes W C A c
  have HA := Lib.hid (rat_any (A := A) (c := c) (rc_after hr hB) hk)
  unfold Rd at HA
  have e1 : (C.f == 0) = true := by rw [beq_iff_eq]; exact hf
  have e2 : (C.f != 0) = false := by simp [bne, e1]
  have HB := Lib.hid hB
  have HX := Lib.hid hx
  have HZ := Lib.hid hz
  generalize C.at = q at HA ⊢
  clear hr hk hf hB hx hz
  go_enter Tryz.func22, Tryz.ntmps22
  go_wp2_with fail
  refine HA.out.mono ?_
  rintro e w1 ⟨rfl, hb⟩
  have hx1 := (hb.block _ (by simp; omega)).trans HX.out
  have hz1 := (hb.block _ (by simp)).trans HZ.out
  have hb1 := HB.out.trans (hb.mono HB.out.size)
  have d6 := heap6 hx1
  have f6 := frozen_heap hx1 (i := 4)
  have hx2 := heap_set hx1 (i := 4) (.int .i64 (q : Nat))
  have e6 := cell_heap hx2 (i := 5)
  have k6 := frozen_heap hx2 (i := 5)
  have hx3 := heap_set hx2 (i := 5) (.int .i64 n)
  have l6 := cell_heap hx3 (i := 5)
  have m6 := frozen_heap hx3 (i := 5)
  have hx4 := heap_set hx3 (i := 5) (.int .i64 2)
  simp only [List.setIfInBounds_toArray, List.set_cons_zero, List.set_cons_succ, List.getElem?_toArray, List.getElem?_cons_zero, List.getElem?_cons_succ] at e6 l6 hx4
  have g6 := heap6s hx4
  have hz3 : (((w1.setCell ⟨W.heap.size, 4, none⟩ (.int .i64 (q : Nat))).setCell ⟨W.heap.size, 5, none⟩ (.int .i64 n)).setCell ⟨W.heap.size, 5, none⟩ (.int .i64 2)).heap[W.heap.size + 1]? = some zb6 := (Below.heap_setCell _ _ _ _ (by simp)).trans ((Below.heap_setCell _ _ _ _ (by simp)).trans ((Below.heap_setCell _ _ _ _ (by simp)).trans hz1))
  have hb3 : Below W.heap.size W (((w1.setCell ⟨W.heap.size, 4, none⟩ (.int .i64 (q : Nat))).setCell ⟨W.heap.size, 5, none⟩ (.int .i64 n)).setCell ⟨W.heap.size, 5, none⟩ (.int .i64 2)) := ((hb1.setCell (p := ⟨W.heap.size, 4, none⟩) (Nat.le_refl _) _).setCell (p := ⟨W.heap.size, 5, none⟩) (Nat.le_refl _) _).setCell (p := ⟨W.heap.size, 5, none⟩) (Nat.le_refl _) _
  have HZ3 := Lib.hid hz3
  have HB3 := Lib.hid hb3
  clear hx1 hz1 hb1 hx2 hx3 hx4 hz3 hb3 hb e1 e2
  go_wp2_with (refine wpList_store_six (by rfl) 31 (.tmp 4) (.tmp 21) (by rfl) size_rcur (W.heap.size + 1) (by rfl) (by rfl) HZ3.out ?_)
  have g := heap6s (set6_self HZ3.out C.s A C.L.length c (C.n : Nat) (C.d : Nat) (q : Nat) 2)
  have hbq := below_set6 HB3.out (Nat.le_succ _) C.s A C.L.length c (C.n : Nat) (C.d : Nat) (q : Nat) 2
  clear HZ3 HB3 d6 f6 e6 k6 g6 l6 m6
  generalize set6 (((w1.setCell ⟨W.heap.size, 4, none⟩ (.int .i64 (q : Nat))).setCell ⟨W.heap.size, 5, none⟩ (.int .i64 n)).setCell ⟨W.heap.size, 5, none⟩ (.int .i64 2)) (W.heap.size + 1) C.s A C.L.length c (C.n : Nat) (C.d : Nat) (q : Nat) 2 = w9 at g hbq ⊢
  obtain ⟨g0, g1, g2, g3, g4, g5⟩ := g
  refine bodyPost_ret (v := six C.s A C.L.length c (C.n : Nat) (C.d : Nat) (q : Nat) 2) (by simp [results, Tryz.results22, go_sem, g0, g1, g2, g3, g4, g5]) rfl ⟨rfl, hbq⟩

theorem rfail_any (n : Int) (hr : RcR C A W) (hk : C.Ok) : Calls Tryz.prog 22 #[rcv C A c, .int .i64 n] W (Rd W (rcv (C.fail n) A c)) := by
  by_cases hf : C.f = 0
  · have hc : C.fail n = { C with f := if 1 ≤ n ∧ n ≤ 15 then n else 2, p := (C.at : Nat) } := by unfold Cu.fail; rw [if_pos hf]
    rw [hc]
    by_cases n1 : n < 1
    · rw [if_neg (by omega)]; exact rfail_low n hr hk hf n1
    · by_cases n2 : 15 < n
      · rw [if_neg (by omega)]; exact rfail_high n hr hk hf n1 n2
      · rw [if_pos (by omega)]; exact rfail_ok n hr hk hf n1 n2
  · have hc : C.fail n = C := by unfold Cu.fail; rw [if_neg hf]
    rw [hc]
    exact rfail_not n hf

set_option maxRecDepth 100000 in
set_option maxHeartbeats 2000000 in
theorem rup_any (hk : C.Ok) : Calls Tryz.prog 20 #[rcv C A c] W (Rd W (rcv C.up A c)) := by
  have hdk := hk.d
  unfold Rd
  by_cases hd : C.d = 0
  · have hcc : C.up = C := by unfold Cu.up; rw [show C.d - 1 = C.d from by omega]
    have hzz : ¬ (0 : Int) < (C.d : Nat) := by omega
    rw [hcc]
    clear hd hcc hk hdk
    go_enter Tryz.func20, Tryz.ntmps20
    go_wp2
    refine bodyPost_ret (v := rcv C A c) (by simp [results, Tryz.results20, go_sem]) rfl ⟨rfl, (below1 W _).alloc (by simp) _⟩
  · have hzz : (0 : Int) < (C.d : Nat) := by omega
    have hrv : rcv C.up A c = six C.s A C.L.length c (C.n : Nat) ((C.d : Nat) - 1) C.p C.f := by unfold Cu.up; simp only [rcv, six]; rw [show ((C.d - 1 : Nat) : Int) = (C.d : Int) - 1 from by omega]
    rw [hrv]
    have hw : wrap64 ((C.d : Int) - 1) = (C.d : Int) - 1 := by unfold wrap64; omega
    clear hd hk
    go_enter Tryz.func20, Tryz.ntmps20
    go_wp2
    refine bodyPost_ret (v := six C.s A C.L.length c (C.n : Nat) ((C.d : Nat) - 1) C.p C.f) (by simp [results, Tryz.results20, go_sem]) rfl ⟨rfl, (below1 W _).alloc (by simp) _⟩

set_option maxRecDepth 100000 in
set_option maxHeartbeats 2000000 in
theorem rdown_any (hr : RcR C A W) (hk : C.Ok) (hd2 : C.d ≤ 200) : Calls Tryz.prog 18 #[rcv C A c] W (Rd W (.tuple #[rcv C.down.1 A c, .bool C.down.2])) := by
  obtain ⟨hB, hx, hz⟩ := two_boxes W C A c
  unfold Rd Cu.down
  by_cases hf : C.f = 0
  · rw [if_pos hf]
    have e1 : (C.f == 0) = true := by rw [beq_iff_eq]; exact hf
    have e2 : (C.f != 0) = false := by simp [bne, e1]
    by_cases hd : 200 ≤ C.d
    · rw [if_pos hd]
      have HF := Lib.hid (rfail_any (A := A) (c := c) 3 (rc_after hr hB) hk)
      unfold Rd at HF
      generalize C.fail 3 = C' at HF ⊢
      have e3 : (((C.d : Nat) : Int) == 200) = true := by rw [beq_iff_eq]; omega
      have HB := Lib.hid hB
      have HZ := Lib.hid hz
      clear hr hk hf hd hd2 hB hx hz
      go_enter Tryz.func18, Tryz.ntmps18
      go_wp2_with fail
      refine HF.out.mono ?_
      rintro e w1 ⟨rfl, hb⟩
      have hz1 := (hb.block _ (by simp)).trans HZ.out
      have hb1 := HB.out.trans (hb.mono HB.out.size)
      have HZ1 := Lib.hid hz1
      have HB1 := Lib.hid hb1
      clear hb hb1 hz1 e1 e2 e3 HF HB HZ
      go_wp2_with (refine wpList_store_six (by rfl) 31 (.tmp 2) (.tmp 12) (by rfl) size_rcur (W.heap.size + 1) (by rfl) (by rfl) HZ1.out ?_)
      have g := heap6s (set6_self HZ1.out C'.s A C'.L.length c (C'.n : Nat) (C'.d : Nat) C'.p C'.f)
      have hbq := below_set6 HB1.out (Nat.le_succ _) C'.s A C'.L.length c (C'.n : Nat) (C'.d : Nat) C'.p C'.f
      generalize set6 w1 (W.heap.size + 1) C'.s A C'.L.length c (C'.n : Nat) (C'.d : Nat) C'.p C'.f = w9 at g hbq ⊢
      obtain ⟨g0, g1, g2, g3, g4, g5⟩ := g
      go_wp2
      refine bodyPost_ret (v := .tuple #[rcv C' A c, .bool false]) (by simp [results, Tryz.results18, go_sem, g0, g1, g2, g3, g4, g5]) rfl ⟨rfl, hbq⟩
    · rw [if_neg hd]
      have hd3 : (((C.d : Nat) : Int) == 200) = false := by rw [beq_eq_false_iff_ne]; omega
      have hd4 : ((C.d : Nat) : Int) ≠ 200 := by omega
      have hw : wrap64 ((C.d : Int) + 1) = (C.d : Int) + 1 := by unfold wrap64; omega
      have hrv : rcv { C with d := C.d + 1 } A c = six C.s A C.L.length c (C.n : Nat) ((C.d : Nat) + 1) C.p C.f := rfl
      simp only [hrv]
      clear hr hk hf hd hB hx hz hrv
      go_enter Tryz.func18, Tryz.ntmps18
      go_wp2
      refine bodyPost_ret (v := .tuple #[six C.s A C.L.length c (C.n : Nat) ((C.d : Nat) + 1) C.p C.f, .bool true]) (by simp [results, Tryz.results18, go_sem]) rfl ⟨rfl, (below1 W _).alloc (by simp) _⟩
  · rw [if_neg hf]
    have e1 : (C.f == 0) = false := by rw [beq_eq_false_iff_ne]; exact hf
    have e2 : (C.f != 0) = true := by simp [bne, e1]
    clear hr hk hf hB hx hz
    go_enter Tryz.func18, Tryz.ntmps18
    go_wp2
    refine bodyPost_ret (v := .tuple #[rcv C A c, .bool false]) (by simp [results, Tryz.results18, go_sem]) rfl ⟨rfl, (below1 W _).alloc (by simp) _⟩
end
end Go.Proofs.YtjnclchbklehgaaGreatDoor
