/- A cursor's calls that read alone. -/
import Derived.Test.YtjnclchbklehgaaGreatDoorCurMem
import Derived.Test.YtjnclchbklehgaaGreatDoorTextStore
import Derived.Test.YtjnclchbklehgaaGreatDoorTreeMake
namespace Go.Proofs.YtjnclchbklehgaaGreatDoor
open Go.RowKit SignMath TreeMath

/-- a token stored into a box -/
abbrev set3 (W : World) (b : Nat) (t : Tk) : World := ((W.setCell ⟨b, 0, none⟩ (.int .i64 (t.k : Nat))).setCell ⟨b, 1, none⟩ (.int .i64 (t.a : Nat))).setCell ⟨b, 2, none⟩ (.int .i64 (t.z : Nat))
theorem set3_size (W : World) (b : Nat) (t : Tk) : (set3 W b t).heap.size = W.heap.size := by simp [World.setCell]
theorem set3_self {W : World} {b : Nat} {u0 u1 u2 : Value} (h : W.heap[b]? = some (.cells #[u0, u1, u2] 105 (0, 0))) (t : Tk) : (set3 W b t).heap[b]? = some (tkc t) := by
  have := heap_set (heap_set (heap_set h (i := 0) (.int .i64 (t.k : Nat))) (i := 1) (.int .i64 (t.a : Nat))) (i := 2) (.int .i64 (t.z : Nat))
  simpa using this
theorem below_set3 {B : Nat} {w W : World} (h : Below B w W) {b : Nat} (hb : B ≤ b) (t : Tk) : Below B w (set3 W b t) :=
  ((h.setCell (p := ⟨b, 0, none⟩) hb _).setCell (p := ⟨b, 1, none⟩) hb _).setCell (p := ⟨b, 2, none⟩) hb _
set_option maxRecDepth 100000 in
theorem size_tok : ∀ w : World, (sizeOf 105).run Tryz.prog w = .ok 3 w := fun _ => rfl
theorem wp_store_tok {o : Oper} {a : Act} {w : World} {K : Act → World → Prop} {Q : Exit → Act → World → Prop} (t : TypeId) (x y : Operand) (ho : o.op = .store t x y) (hsz : ∀ w : World, (sizeOf t).run Tryz.prog w = .ok 3 w) (b : Nat) (T : Tk) (u0 u1 u2 : Value) (t' : TypeId)
    (hx : a.eval x = .pointer (some ⟨b, 0, none⟩)) (hy : a.eval y = tkv T) (hc : w.heap[b]? = some (.cells #[u0, u1, u2] t' (0, 0))) (hK : K (a.put o.dst undef) (set3 w b T)) : o.wp Tryz.prog a w K Q := by
  have h1 := heap_set hc (i := 0) (.int .i64 (T.k : Nat))
  have h2 := heap_set h1 (i := 1) (.int .i64 (T.a : Nat))
  have c0 := cell_heap hc (i := 0)
  have c1 := cell_heap h1 (i := 1)
  have c2 := cell_heap h2 (i := 2)
  have f0 := frozen_heap hc (i := 0)
  have f1 := frozen_heap h1 (i := 1)
  have f2 := frozen_heap h2 (i := 2)
  simp only [List.setIfInBounds_toArray, List.set_cons_zero, List.set_cons_succ, List.getElem?_toArray, List.getElem?_cons_zero, List.getElem?_cons_succ] at c0 c1 c2
  unfold Oper.wp
  simp only [execOp, ho, hx, hy]
  simp [go_sem, hsz, c0, c1, c2, f0, f1, f2]
  exact hK
theorem step_store_tok {ops : Array Oper} {o : Oper} {a : Act} {w : World} {K : Act → World → Prop} {Q : Exit → Act → World → Prop} {E : Prop} (hg : o.guard = none) (t : TypeId) (x y : Operand) (ho : o.op = .store t x y) (hsz : ∀ w : World, (sizeOf t).run Tryz.prog w = .ok 3 w) (b : Nat) (T : Tk) {u0 u1 u2 : Value} {t' : TypeId}
    (hx : a.eval x = .pointer (some ⟨b, 0, none⟩)) (hy : a.eval y = tkv T) (hc : w.heap[b]? = some (.cells #[u0, u1, u2] t' (0, 0))) (hK : K (a.put o.dst undef) (set3 w b T)) :
    if Region.wanted o (yielded ops a.tmps) = true then Oper.wp Tryz.prog o a w K Q else E := by
  rw [if_pos (by simp [Region.wanted, hg])]
  exact wp_store_tok t x y ho hsz b T u0 u1 u2 t' hx hy hc hK
/-- a token's box -/
theorem heap3 {W : World} {b : Nat} {t : Tk} (h : W.heap[b]? = some (tkc t)) : W.cell? ⟨b, 0, none⟩ = some (.int .i64 (t.k : Nat)) ∧ W.cell? ⟨b, 1, none⟩ = some (.int .i64 (t.a : Nat)) ∧ W.cell? ⟨b, 2, none⟩ = some (.int .i64 (t.z : Nat)) := ⟨cell_heap h, cell_heap h, cell_heap h⟩

theorem CuM.tokAt {b g off c : Nat} {C : Cu} {W : World} (h : CuM b (some ⟨g, off, none⟩) c C W) {k : Nat} {t : Tk} (hk : C.L[k]? = some t) :
    W.cell? ⟨g, off + k * 3, none⟩ = some (.int .i64 (t.k : Nat)) ∧ W.cell? ⟨g, off + k * 3 + 1, none⟩ = some (.int .i64 (t.a : Nat)) ∧ W.cell? ⟨g, off + k * 3 + 2, none⟩ = some (.int .i64 (t.z : Nat)) := by
  obtain ⟨g', off', e, _, h0, h1, h2⟩ := h.tok hk
  injection e with e
  injection e with e1 e2
  subst e1 e2
  exact ⟨h0, h1, h2⟩

/-- kind and text of a token ahead -/
def Cu.pk (C : Cu) (i : Int) : Int × ByteArray := if i < 0 then (0, ⟨#[]⟩) else match C.nxt i.toNat with
  | none => (0, ⟨#[]⟩)
  | some t => (t.k, C.s.extract t.a t.z)
/-- where it failed, and with what -/
def Cu.fl (C : Cu) : Value := if C.f = 0 then .tuple #[.int .i64 0, .nilIface] else .tuple #[.int .i64 C.p, errn C.f]
/-- all that is behind -/
def Cu.en (C : Cu) : ByteArray := if C.f = 0 ∧ C.left = 0 then C.s.extract C.beh C.s.size else ⟨#[]⟩

section
variable {b : Nat} {A : Option Addr} {c : Nat} {C : Cu} {W : World}
set_option maxHeartbeats 1000000 in
theorem at_any (h : CuM b A c C W) (hk : C.Ok) : Calls Tryz.prog 50 #[.pointer (some ⟨b, 0, none⟩)] W (Rd W (.int .i64 (C.at : Nat))) := by
  have HL := Lib.hid (left_any h hk)
  have HM := Lib.hid h
  unfold Cu.at
  unfold Rd at HL ⊢
  cases hx : C.nxt 0 with
  | none =>
    have hl : C.left = 0 := by have := Cu.nxt_none hx hk.n; omega
    rw [hl] at HL
    clear hx hl h hk
    go_enter Tryz.func50, Tryz.ntmps50
    go_wp2_with fail
    refine HL.out.mono ?_
    rintro e w1 ⟨rfl, hb⟩
    obtain ⟨c0, c1, c2, c3, c4, c5⟩ := (HM.out.below hb).cells
    have HB := Lib.hid hb
    clear hb
    go_wp2
    go_ret
    exact ⟨rfl, HB.out⟩
  | some t =>
    obtain ⟨hf, ht⟩ := Cu.nxt_some hx
    have hl := Cu.nxt_left hx
    have hne : (((C.left : Nat) : Int) == 0) = false := by rw [beq_eq_false_iff_ne]; omega
    rw [Nat.add_zero] at ht
    have hnl := (List.getElem?_eq_some_iff.1 ht).1
    have z1 : (0 : Int) ≤ C.n := by omega
    have z2 : (C.n : Int) < C.L.length := by omega
    have HT := Lib.hid ht
    generalize C.left = q at HL hne
    clear hx hl h hk hf ht hnl
    go_enter Tryz.func50, Tryz.ntmps50
    go_wp2_with fail
    refine HL.out.mono ?_
    rintro e w1 ⟨rfl, hb⟩
    have hm := HM.out.below hb
    obtain ⟨g, off, rfl, -, t0, t1, t2⟩ := hm.tok HT.out
    obtain ⟨c0, c1, c2, c3, c4, c5⟩ := hm.cells
    have HB := Lib.hid hb
    clear hb hm HM HL
    go_wp2
    go_quiet (fail)
    go_wp2
    go_ret
    exact ⟨rfl, below_drewN HB.out _⟩

set_option maxHeartbeats 1000000 in
theorem behind_any (h : CuM b A c C W) (hk : C.Ok) : Calls Tryz.prog 73 #[.pointer (some ⟨b, 0, none⟩)] W (Rd W (.int .i64 (C.beh : Nat))) := by
  have HM := Lib.hid h
  unfold Cu.beh Rd
  by_cases hn : C.n = 0
  · rw [if_pos hn]
    obtain ⟨c0, c1, c2, c3, c4, c5⟩ := h.cells
    rw [hn] at c2
    clear h hk hn HM
    go_enter Tryz.func73, Tryz.ntmps73
    go_wp2
    go_ret
    exact ⟨rfl, Below.refl _ _⟩
  · rw [if_neg hn]
    have hnl := hk.n
    obtain ⟨q, hq⟩ : ∃ q, C.n = q + 1 := ⟨C.n - 1, by omega⟩
    rw [hq, Nat.add_sub_cancel]
    have ht : C.L[q]? = some C.L[q] := List.getElem?_eq_getElem (by omega)
    generalize C.L[q] = t at ht
    rw [ht]
    obtain ⟨g, off, rfl, -, t0, t1, t2⟩ := h.tok ht
    obtain ⟨c0, c1, c2, c3, c4, c5⟩ := h.cells
    have hne : (((C.n : Nat) : Int) == 0) = false := by rw [beq_eq_false_iff_ne]; omega
    have hqi : ((C.n : Nat) : Int) - 1 = (q : Nat) := by omega
    have z1 : (0 : Int) ≤ q := by omega
    have z2 : (q : Int) < C.L.length := by omega
    have hl4 := hk.len
    have hq4 : (q : Int) ≤ 4000 := by omega
    clear h hk hn ht hnl hq HM hl4
    go_enter Tryz.func73, Tryz.ntmps73
    go_wp2
    go_quiet (fail)
    go_wp2
    go_ret
    exact ⟨rfl, below_drewN (Below.refl _ _) _⟩

theorem deep_any (h : CuM b A c C W) : Calls Tryz.prog 36 #[.pointer (some ⟨b, 0, none⟩)] W (Rd W (.int .i64 (C.d : Nat))) := by
  obtain ⟨c0, c1, c2, c3, c4, c5⟩ := h.cells
  clear h
  unfold Rd
  go_enter Tryz.func36, Tryz.ntmps36
  go_wp2
  go_ret
  exact ⟨rfl, Below.refl _ _⟩

set_option maxHeartbeats 1000000 in
theorem failed_any (h : CuM b A c C W) : Calls Tryz.prog 34 #[.pointer (some ⟨b, 0, none⟩)] W (Rd W C.fl) := by
  obtain ⟨c0, c1, c2, c3, c4, c5⟩ := h.cells
  unfold Cu.fl Rd
  by_cases hf : C.f = 0
  · rw [if_pos hf]
    rw [hf] at c4
    clear h hf
    go_enter Tryz.func34, Tryz.ntmps34
    go_wp2
    refine bodyPost_ret (v := .tuple #[.int .i64 0, .nilIface]) (by simp [results, Tryz.results34, go_sem]) rfl ⟨rfl, Below.refl _ _⟩
  · rw [if_neg hf]
    have hb : (C.f == 0) = false := by rw [beq_eq_false_iff_ne]; exact hf
    clear h hf
    go_enter Tryz.func34, Tryz.ntmps34
    go_wp2
    go_quiet (fail)
    go_wp2
    refine bodyPost_ret (v := .tuple #[.int .i64 C.p, errn C.f]) (by simp [results, Tryz.results34, go_sem]) rfl ⟨rfl, below_drewN (Below.refl _ _) _⟩
end
end Go.Proofs.YtjnclchbklehgaaGreatDoor

namespace Go.Proofs.YtjnclchbklehgaaGreatDoor
open Go.RowKit SignMath TreeMath

section
variable {b : Nat} {A : Option Addr} {c : Nat} {C : Cu} {W : World}

set_option maxRecDepth 100000 in
set_option maxHeartbeats 2000000 in
theorem peek_any (i : Int) (hi : rng i) (h : CuM b A c C W) (hk : C.Ok) : Calls Tryz.prog 29 #[.pointer (some ⟨b, 0, none⟩), .int .i64 i] W (Rd W (.tuple #[.int .i64 (C.pk i).1, .string (C.pk i).2])) := by
  have HL := Lib.hid (left_any h hk)
  have HM := Lib.hid h
  unfold Cu.pk
  unfold Rd at HL ⊢
  by_cases hn : i < 0
  · rw [if_pos hn]
    clear h hk HL HM
    go_enter Tryz.func29, Tryz.ntmps29
    go_wp2
    refine bodyPost_ret (v := .tuple #[.int .i64 0, .string ⟨#[]⟩]) (by simp [results, Tryz.results29, go_sem]) rfl ⟨rfl, Below.refl _ _⟩
  · rw [if_neg hn]
    obtain ⟨j, rfl⟩ : ∃ j : Nat, i = j := ⟨i.toNat, by omega⟩
    rw [Int.toNat_natCast]
    have n0 : ¬ ((j : Int) < 0) := by omega
    cases hx : C.nxt j with
    | none =>
      have hl := Cu.nxt_none hx hk.n
      have hge : ((C.left : Nat) : Int) ≤ (j : Int) := by omega
      generalize C.left = q at HL hge
      clear hx hl h hk hn HM hi
      go_enter Tryz.func29, Tryz.ntmps29
      go_wp2_with fail
      refine HL.out.mono ?_
      rintro e w1 ⟨rfl, hb⟩
      go_wp2
      refine bodyPost_ret (v := .tuple #[.int .i64 0, .string ⟨#[]⟩]) (by simp [results, Tryz.results29, go_sem]) rfl ⟨rfl, hb⟩
    | some t =>
      obtain ⟨hf, ht⟩ := Cu.nxt_some hx
      have hl := Cu.nxt_left hx
      have hlt : ¬ (((C.left : Nat) : Int) ≤ (j : Int)) := by omega
      have hnl := (List.getElem?_eq_some_iff.1 ht).1
      have hlen := hk.len
      have htk := hk.tok t (List.mem_of_getElem? ht)
      have hw : wrap64 (((C.n : Nat) : Int) + (j : Nat)) = ((C.n + j : Nat) : Int) := by unfold wrap64; omega
      have hw2 : ((C.n : Nat) : Int) + (j : Nat) = ((C.n + j : Nat) : Int) := by omega
      have z1 : (0 : Int) ≤ ((C.n + j : Nat) : Int) := by omega
      have z2 : ((C.n + j : Nat) : Int) < C.L.length := by omega
      have z3 : ((C.n + j : Nat) : Int) ≤ 4000 := by omega
      have HT := Lib.hid ht
      have HTX : Hid (ttx C.s (toZ t) = C.s.extract t.a t.z) := Lib.hid (by unfold ttx toZ; rw [if_pos ⟨by simp, by simp; omega, by simp; omega⟩]; rfl)
      generalize C.left = q at HL hlt
      clear hx hl h hk hf ht hnl hn hlen htk hi
      generalize hkk : C.n + j = k at hw hw2 z1 z2 z3 HT
      go_enter Tryz.func29, Tryz.ntmps29
      go_wp2_with fail
      refine HL.out.mono ?_
      rintro e w1 ⟨rfl, hb⟩
      have hm := HM.out.below hb
      obtain ⟨g, off, rfl, -, -, -, -⟩ := hm.tok HT.out
      have HB := Lib.hid hb
      clear hb HM HL
      go_wp2
      rename_i K0 hK0
      refine wp_region_noPanic (wp_region_held (S := fun W' : World => CuM b (some ⟨g, off, none⟩) c C W' ∧ True) (by kernel_rfl) ?_)
      have hm1 : CuM b (some ⟨g, off, none⟩) c C w1.drew := hm.below ⟨rfl, rfl, rfl, Nat.le_refl _, fun _ _ => rfl⟩
      have hb1 : Below W.heap.size W w1.drew := HB.out.trans ⟨rfl, rfl, rfl, Nat.le_refl _, fun _ _ => rfl⟩
      show wpAnyH _ _ _ _ _ _ _ _ w1.drew
      generalize w1.drew = w2 at hm1 hb1 ⊢
      refine wpAnyH_take_d (i := 0) (v := .pointer (some ⟨b, 0, none⟩)) 15 rfl rfl (by kernel_rfl) (by kernel_rfl) (by kernel_rfl) (fun _ _ _ h => h) (Or.inl ⟨by kernel_rfl, fun w' hS' => ?y0⟩) (⟨hm1, trivial⟩) ?_
      case y0 => (clear hS'; go_simp)
      simp only [Act.put, List.setIfInBounds_toArray, List.set_cons_zero, List.set_cons_succ]
      refine wpAnyH_take_d (i := 1) (v := .pointer (some ⟨b, 0, none⟩)) 16 rfl rfl (by kernel_rfl) (by kernel_rfl) (by kernel_rfl) (fun _ _ _ h => h) (Or.inl ⟨by kernel_rfl, fun w' hS' => ?y1⟩) (⟨hm1, trivial⟩) ?_
      case y1 => (clear hS'; go_simp)
      simp only [Act.put, List.setIfInBounds_toArray, List.set_cons_zero, List.set_cons_succ]
      refine wpAnyH_take_d (i := 2) (v := .pointer (some ⟨b, 1, none⟩)) 17 rfl rfl (by kernel_rfl) (by kernel_rfl) (by kernel_rfl) (fun _ _ _ h => h) (Or.inl ⟨by kernel_rfl, fun w' hS' => ?y2⟩) (⟨hm1, trivial⟩) ?_
      case y2 => (clear hS'; go_simp)
      simp only [Act.put, List.setIfInBounds_toArray, List.set_cons_zero, List.set_cons_succ]
      refine wpAnyH_take_d (i := 3) (v := .slice (some ⟨g, off, none⟩) C.L.length c) 18 rfl rfl (by kernel_rfl) (by kernel_rfl) (by kernel_rfl) (fun _ _ _ h => h) (Or.inl ⟨by kernel_rfl, fun w' hS' => ?y3⟩) (⟨hm1, trivial⟩) ?_
      case y3 => (obtain ⟨s0, s1, s2, s3, s4, s5⟩ := hS'.1.cells; clear hS'; go_simp)
      simp only [Act.put, List.setIfInBounds_toArray, List.set_cons_zero, List.set_cons_succ]
      refine wpAnyH_take_d (i := 4) (v := .pointer (some ⟨b, 0, none⟩)) 19 rfl rfl (by kernel_rfl) (by kernel_rfl) (by kernel_rfl) (fun _ _ _ h => h) (Or.inl ⟨by kernel_rfl, fun w' hS' => ?y4⟩) (⟨hm1, trivial⟩) ?_
      case y4 => (clear hS'; go_simp)
      simp only [Act.put, List.setIfInBounds_toArray, List.set_cons_zero, List.set_cons_succ]
      refine wpAnyH_take_d (i := 5) (v := .pointer (some ⟨b, 0, none⟩)) 20 rfl rfl (by kernel_rfl) (by kernel_rfl) (by kernel_rfl) (fun _ _ _ h => h) (Or.inl ⟨by kernel_rfl, fun w' hS' => ?y5⟩) (⟨hm1, trivial⟩) ?_
      case y5 => (clear hS'; go_simp)
      simp only [Act.put, List.setIfInBounds_toArray, List.set_cons_zero, List.set_cons_succ]
      refine wpAnyH_take_d (i := 6) (v := .pointer (some ⟨b, 2, none⟩)) 21 rfl rfl (by kernel_rfl) (by kernel_rfl) (by kernel_rfl) (fun _ _ _ h => h) (Or.inl ⟨by kernel_rfl, fun w' hS' => ?y6⟩) (⟨hm1, trivial⟩) ?_
      case y6 => (clear hS'; go_simp)
      simp only [Act.put, List.setIfInBounds_toArray, List.set_cons_zero, List.set_cons_succ]
      refine wpAnyH_take_d (i := 7) (v := .int .i64 (C.n : Nat)) 22 rfl rfl (by kernel_rfl) (by kernel_rfl) (by kernel_rfl) (fun _ _ _ h => h) (Or.inl ⟨by kernel_rfl, fun w' hS' => ?y7⟩) (⟨hm1, trivial⟩) ?_
      case y7 => (obtain ⟨s0, s1, s2, s3, s4, s5⟩ := hS'.1.cells; clear hS'; go_simp)
      simp only [Act.put, List.setIfInBounds_toArray, List.set_cons_zero, List.set_cons_succ]
      refine wpAnyH_take_d (i := 8) (v := .int .i64 (j : Nat)) 23 rfl rfl (by kernel_rfl) (by kernel_rfl) (by kernel_rfl) (fun _ _ _ h => h) (Or.inl ⟨by kernel_rfl, fun w' hS' => ?y8⟩) (⟨hm1, trivial⟩) ?_
      case y8 => (clear hS'; go_simp)
      simp only [Act.put, List.setIfInBounds_toArray, List.set_cons_zero, List.set_cons_succ]
      refine wpAnyH_take_d (i := 9) (v := .int .i64 (k : Nat)) 24 rfl rfl (by kernel_rfl) (by kernel_rfl) (by kernel_rfl) (fun _ _ _ h => h) (Or.inl ⟨by kernel_rfl, fun w' hS' => ?y9⟩) (⟨hm1, trivial⟩) ?_
      case y9 => (clear hS'; go_simp; rw [IntKind.wrap_i64]; omega)
      simp only [Act.put, List.setIfInBounds_toArray, List.set_cons_zero, List.set_cons_succ]
      refine wpAnyH_take_d (i := 10) (v := .pointer (some ⟨g, off + k * 3, none⟩)) 25 rfl rfl (by kernel_rfl) (by kernel_rfl) (by kernel_rfl) (fun _ _ _ h => h) (Or.inl ⟨by kernel_rfl, fun w' hS' => ?y10⟩) (⟨hm1, trivial⟩) ?_
      case y10 => (clear hS'; go_simp)
      simp only [Act.put, List.setIfInBounds_toArray, List.set_cons_zero, List.set_cons_succ]
      refine wpAnyH_take_d (i := 11) (v := tkv t) 26 rfl rfl (by kernel_rfl) (by kernel_rfl) (by kernel_rfl) (fun _ _ _ h => h) (Or.inl ⟨by kernel_rfl, fun w' hS' => ?y11⟩) (⟨hm1, trivial⟩) ?_
      case y11 => (obtain ⟨r0, r1, r2⟩ := hS'.1.tokAt HT.out; clear hS'; go_simp)
      simp only [Act.put, List.setIfInBounds_toArray, List.set_cons_zero, List.set_cons_succ]
      refine wpAnyH_ready (rs := [12]) (by kernel_rfl) (by simp) ?_
      refine AllReadyH.cons rfl (fun K hK => ?_) AllReadyH.nil
      go_simp
      have hB3 := below1 w2 (.cells #[.int .i64 0, .int .i64 0, .int .i64 0] 105)
      have hx2 := heap_alloc_new w2 (.cells #[.int .i64 0, .int .i64 0, .int .i64 0] 105)
      generalize w2.alloc (.cells #[.int .i64 0, .int .i64 0, .int .i64 0] 105) = w3 at hB3 hx2 ⊢
      refine hK.out _ _ (⟨hm1.below hB3, trivial⟩) (fun _ => ?_)
      clear hK K
      try simp only [Act.put, List.setIfInBounds_toArray, List.set_cons_zero, List.set_cons_succ]
      refine wpAnyH_ready (rs := [13]) (by kernel_rfl) (by simp) ?_
      refine AllReadyH.cons rfl (fun K hK => ?_) AllReadyH.nil
      refine step_store_tok (by rfl) 105 (.tmp 6) (.tmp 26) (by rfl) size_tok w2.heap.size t (by rfl) (by rfl) hx2 ?_
      have hx3 := set3_self hx2 t
      have hB4 := below_set3 hB3 (Nat.le_refl _) t
      generalize set3 w3 w2.heap.size t = w4 at hx3 hB4 ⊢
      have hm4 := hm1.below hB4
      have hb4 := hb1.trans (hB4.mono hb1.size)
      refine hK.out _ _ (⟨hm4, trivial⟩) (fun _ => ?_)
      clear hK K
      try simp only [Act.put, List.setIfInBounds_toArray, List.set_cons_zero, List.set_cons_succ]
      refine wpAnyH_done (by kernel_rfl) ?_ _
      refine hK0 _ _ ?_
      clear hB3 hB4 hx2 hm1 hb1
      generalize w2.heap.size = x at hx3 ⊢
      go_wp2
      rename_i K1 hK1 _d1 _e1
      refine wp_region_noPanic (wp_region_held (S := fun W' : World => CuM b (some ⟨g, off, none⟩) c C W' ∧ W'.heap[x]? = some (tkc t)) (by kernel_rfl) ?_)
      have hd4 : Below w4.heap.size w4 w4.drew := ⟨rfl, rfl, rfl, Nat.le_refl _, fun _ _ => rfl⟩
      have hm5 := hm4.below hd4
      have hx5 : w4.drew.heap[x]? = some (tkc t) := hx3
      have hb5 := hb4.trans (hd4.mono hb4.size)
      show wpAnyH _ _ _ _ _ _ _ _ w4.drew
      generalize w4.drew = w5 at hm5 hx5 hb5 ⊢
      refine wpAnyH_take_d (i := 0) (v := .pointer (some ⟨x, 0, none⟩)) 27 rfl rfl (by kernel_rfl) (by kernel_rfl) (by kernel_rfl) (fun _ _ _ h => h) (Or.inl ⟨by kernel_rfl, fun w' hS' => ?y0⟩) (⟨hm5, hx5⟩) ?_
      case y0 => (clear hS'; go_simp)
      simp only [Act.put, List.setIfInBounds_toArray, List.set_cons_zero, List.set_cons_succ]
      refine wpAnyH_take_d (i := 1) (v := .int .i64 (t.k : Nat)) 28 rfl rfl (by kernel_rfl) (by kernel_rfl) (by kernel_rfl) (fun _ _ _ h => h) (Or.inl ⟨by kernel_rfl, fun w' hS' => ?y1⟩) (⟨hm5, hx5⟩) ?_
      case y1 => (obtain ⟨r0, r1, r2⟩ := heap3 hS'.2; clear hS'; go_simp)
      simp only [Act.put, List.setIfInBounds_toArray, List.set_cons_zero, List.set_cons_succ]
      refine wpAnyH_take_d (i := 2) (v := tkv t) 29 rfl rfl (by kernel_rfl) (by kernel_rfl) (by kernel_rfl) (fun _ _ _ h => h) (Or.inl ⟨by kernel_rfl, fun w' hS' => ?y2⟩) (⟨hm5, hx5⟩) ?_
      case y2 => (obtain ⟨r0, r1, r2⟩ := heap3 hS'.2; clear hS'; go_simp)
      simp only [Act.put, List.setIfInBounds_toArray, List.set_cons_zero, List.set_cons_succ]
      refine wpAnyH_take_d (i := 3) (v := .pointer (some ⟨b, 0, none⟩)) 30 rfl rfl (by kernel_rfl) (by kernel_rfl) (by kernel_rfl) (fun _ _ _ h => h) (Or.inl ⟨by kernel_rfl, fun w' hS' => ?y3⟩) (⟨hm5, hx5⟩) ?_
      case y3 => (clear hS'; go_simp)
      simp only [Act.put, List.setIfInBounds_toArray, List.set_cons_zero, List.set_cons_succ]
      refine wpAnyH_take_d (i := 4) (v := .pointer (some ⟨b, 0, none⟩)) 31 rfl rfl (by kernel_rfl) (by kernel_rfl) (by kernel_rfl) (fun _ _ _ h => h) (Or.inl ⟨by kernel_rfl, fun w' hS' => ?y4⟩) (⟨hm5, hx5⟩) ?_
      case y4 => (clear hS'; go_simp)
      simp only [Act.put, List.setIfInBounds_toArray, List.set_cons_zero, List.set_cons_succ]
      refine wpAnyH_take_d (i := 5) (v := .pointer (some ⟨b, 0, none⟩)) 32 rfl rfl (by kernel_rfl) (by kernel_rfl) (by kernel_rfl) (fun _ _ _ h => h) (Or.inl ⟨by kernel_rfl, fun w' hS' => ?y5⟩) (⟨hm5, hx5⟩) ?_
      case y5 => (clear hS'; go_simp)
      simp only [Act.put, List.setIfInBounds_toArray, List.set_cons_zero, List.set_cons_succ]
      refine wpAnyH_take_d (i := 6) (v := .string C.s) 33 rfl rfl (by kernel_rfl) (by kernel_rfl) (by kernel_rfl) (fun _ _ _ h => h) (Or.inl ⟨by kernel_rfl, fun w' hS' => ?y6⟩) (⟨hm5, hx5⟩) ?_
      case y6 => (obtain ⟨s0, s1, s2, s3, s4, s5⟩ := hS'.1.cells; clear hS'; go_simp)
      simp only [Act.put, List.setIfInBounds_toArray, List.set_cons_zero, List.set_cons_succ]
      refine wpAnyH_ready (rs := [7]) (by kernel_rfl) (by simp) ?_
      refine AllReadyH.cons rfl (fun K hK => ?_) AllReadyH.nil
      go_simp
      refine (ttext_any C.s (toZ t) w5).mono ?_
      rintro e w6 ⟨rfl, hb⟩
      rw [HTX.out]
      have hm6 := hm5.below hb
      have hx6 := (hb.block x (Array.getElem?_eq_some_iff.1 hx5).1).trans hx5
      have hb6 := hb5.trans (hb.mono hb5.size)
      refine hK.out _ _ (⟨hm6, hx6⟩) (fun _ => ?_)
      clear hK K
      try simp only [Act.put, List.setIfInBounds_toArray, List.set_cons_zero, List.set_cons_succ]
      refine wpAnyH_take_d (i := 8) (v := .int .i64 (t.k : Nat)) 4 rfl rfl (by kernel_rfl) (by kernel_rfl) (by kernel_rfl) (fun _ _ _ h => h) (Or.inl ⟨by kernel_rfl, fun w' hS' => ?y8⟩) (⟨hm6, hx6⟩) ?_
      case y8 => (clear hS'; go_simp)
      simp only [Act.put, List.setIfInBounds_toArray, List.set_cons_zero, List.set_cons_succ]
      refine wpAnyH_take_d (i := 9) (v := .string (C.s.extract t.a t.z)) 5 rfl rfl (by kernel_rfl) (by kernel_rfl) (by kernel_rfl) (fun _ _ _ h => h) (Or.inl ⟨by kernel_rfl, fun w' hS' => ?y9⟩) (⟨hm6, hx6⟩) ?_
      case y9 => (clear hS'; go_simp)
      simp only [Act.put, List.setIfInBounds_toArray, List.set_cons_zero, List.set_cons_succ]
      refine wpAnyH_done (by kernel_rfl) ?_ _
      refine hK1 _ _ ?_
      go_wp2
      refine bodyPost_ret (v := .tuple #[.int .i64 (t.k : Nat), .string (C.s.extract t.a t.z)]) (by simp [results, Tryz.results29, go_sem]) rfl ⟨rfl, hb6⟩

/-- is a token ahead a keyword or a sign of that text? -/
def Cu.isb (C : Cu) (i : Int) (s : ByteArray) : Bool := (decide ((C.pk i).1 = 3) || decide ((C.pk i).1 = 6)) && decide ((C.pk i).2 = s)
set_option maxHeartbeats 1000000 in
theorem is_any (i : Int) (s : ByteArray) (hi : rng i) (h : CuM b A c C W) (hk : C.Ok) : Calls Tryz.prog 48 #[.pointer (some ⟨b, 0, none⟩), .int .i64 i, .string s] W (Rd W (.bool (C.isb i s))) := by
  have HP := Lib.hid (peek_any i hi h hk)
  unfold Cu.isb
  unfold Rd at HP ⊢
  generalize C.pk i = q at HP
  obtain ⟨k, t⟩ := q
  dsimp only at HP ⊢
  have hbe : (t.toList == s.toList) = decide (t = s) := by
    rw [Bool.eq_iff_iff]
    simp only [beq_iff_eq, decide_eq_true_eq]
    refine ⟨fun h => ?_, fun h => by rw [h]⟩
    have h2 := congrArg List.toArray h
    rw [ByteArray.toList_eq, ByteArray.toList_eq] at h2
    exact ByteArray.ext (by simpa using h2)
  have hk3 : (k == 3) = decide (k = 3) := by rw [Bool.eq_iff_iff]; simp
  have hk6 : (k == 6) = decide (k = 6) := by rw [Bool.eq_iff_iff]; simp
  clear h hk hi
  by_cases h3 : k = 3
  · rw [decide_eq_true h3] at hk3 ⊢
    clear hk6 h3
    go_enter Tryz.func48, Tryz.ntmps48
    go_wp2_with fail
    refine HP.out.mono ?_
    rintro e w1 ⟨rfl, hb⟩
    go_wp2
    go_ret
    exact ⟨by simp, hb⟩
  · rw [decide_eq_false h3] at hk3 ⊢
    by_cases h6 : k = 6
    · rw [decide_eq_true h6] at hk6 ⊢
      clear h3 h6
      go_enter Tryz.func48, Tryz.ntmps48
      go_wp2_with fail
      refine HP.out.mono ?_
      rintro e w1 ⟨rfl, hb⟩
      go_wp2
      go_ret
      exact ⟨by simp, hb⟩
    · rw [decide_eq_false h6] at hk6 ⊢
      clear h3 h6
      go_enter Tryz.func48, Tryz.ntmps48
      go_wp2_with fail
      refine HP.out.mono ?_
      rintro e w1 ⟨rfl, hb⟩
      go_wp2
      go_ret
      exact ⟨by simp, hb⟩

set_option maxHeartbeats 1000000 in
theorem end_any (h : CuM b A c C W) (hk : C.Ok) : Calls Tryz.prog 52 #[.pointer (some ⟨b, 0, none⟩)] W (Rd W (.string C.en)) := by
  have HL := Lib.hid (left_any h hk)
  have HM := Lib.hid h
  have HBE : Hid (∀ W' : World, CuM b A c C W' → Calls Tryz.prog 73 #[.pointer (some ⟨b, 0, none⟩)] W' (Rd W' (.int .i64 (C.beh : Nat)))) := Lib.hid fun W' h' => behind_any h' hk
  have hbl := hk.beh_le
  unfold Cu.en
  unfold Rd at HL HBE ⊢
  obtain ⟨c0, c1, c2, c3, c4, c5⟩ := h.cells
  by_cases hf : C.f = 0
  · rw [hf] at c4
    by_cases hl : C.left = 0
    · rw [if_pos ⟨hf, hl⟩]
      rw [hl] at HL
      clear h hk hf hl
      have z1 : (0 : Int) ≤ C.beh := by omega
      have z2 : (C.beh : Int) ≤ C.s.size := by omega
      generalize C.beh = q at HBE hbl z1 z2
      go_enter Tryz.func52, Tryz.ntmps52
      go_wp2_with fail
      refine HL.out.mono ?_
      rintro e w1 ⟨rfl, hb⟩
      have hm := HM.out.below hb
      clear c0 c1 c2 c3 c4 c5 HL
      go_wp2
      rename_i K0 hK0
      refine wp_region_noPanic (wp_region_held (S := fun W' : World => CuM b A c C W' ∧ True) (by kernel_rfl) ?_)
      have hd : Below w1.heap.size w1 w1.drew := ⟨rfl, rfl, rfl, Nat.le_refl _, fun _ _ => rfl⟩
      have hm1 := hm.below hd
      have hb1 := hb.trans (hd.mono hb.size)
      show wpAnyH _ _ _ _ _ _ _ _ w1.drew
      generalize w1.drew = w2 at hm1 hb1 ⊢
      refine wpAnyH_take_d (i := 0) (v := .pointer (some ⟨b, 0, none⟩)) 17 rfl rfl (by kernel_rfl) (by kernel_rfl) (by kernel_rfl) (fun _ _ _ h => h) (Or.inl ⟨by kernel_rfl, fun w' hS' => ?y0⟩) (⟨hm1, trivial⟩) ?_
      case y0 => (clear hS'; go_simp)
      simp only [Act.put, List.setIfInBounds_toArray, List.set_cons_zero, List.set_cons_succ]
      refine wpAnyH_take_d (i := 1) (v := .pointer (some ⟨b, 0, none⟩)) 18 rfl rfl (by kernel_rfl) (by kernel_rfl) (by kernel_rfl) (fun _ _ _ h => h) (Or.inl ⟨by kernel_rfl, fun w' hS' => ?y1⟩) (⟨hm1, trivial⟩) ?_
      case y1 => (clear hS'; go_simp)
      simp only [Act.put, List.setIfInBounds_toArray, List.set_cons_zero, List.set_cons_succ]
      refine wpAnyH_take_d (i := 2) (v := .pointer (some ⟨b, 0, none⟩)) 19 rfl rfl (by kernel_rfl) (by kernel_rfl) (by kernel_rfl) (fun _ _ _ h => h) (Or.inl ⟨by kernel_rfl, fun w' hS' => ?y2⟩) (⟨hm1, trivial⟩) ?_
      case y2 => (clear hS'; go_simp)
      simp only [Act.put, List.setIfInBounds_toArray, List.set_cons_zero, List.set_cons_succ]
      refine wpAnyH_take_d (i := 3) (v := .string C.s) 20 rfl rfl (by kernel_rfl) (by kernel_rfl) (by kernel_rfl) (fun _ _ _ h => h) (Or.inl ⟨by kernel_rfl, fun w' hS' => ?y3⟩) (⟨hm1, trivial⟩) ?_
      case y3 => (obtain ⟨s0, s1, s2, s3, s4, s5⟩ := hS'.1.cells; clear hS'; go_simp)
      simp only [Act.put, List.setIfInBounds_toArray, List.set_cons_zero, List.set_cons_succ]
      refine wpAnyH_take_d (i := 4) (v := .pointer (some ⟨b, 0, none⟩)) 21 rfl rfl (by kernel_rfl) (by kernel_rfl) (by kernel_rfl) (fun _ _ _ h => h) (Or.inl ⟨by kernel_rfl, fun w' hS' => ?y4⟩) (⟨hm1, trivial⟩) ?_
      case y4 => (clear hS'; go_simp)
      simp only [Act.put, List.setIfInBounds_toArray, List.set_cons_zero, List.set_cons_succ]
      refine wpAnyH_ready (rs := [5]) (by kernel_rfl) (by simp) ?_
      refine AllReadyH.cons rfl (fun K hK => ?_) AllReadyH.nil
      go_simp
      refine (HBE.out w2 hm1).mono ?_
      rintro e w3 ⟨rfl, hb3⟩
      have hm3 := hm1.below hb3
      have hb4 := hb1.trans (hb3.mono hb1.size)
      refine hK.out _ _ (⟨hm3, trivial⟩) (fun _ => ?_)
      clear hK K
      try simp only [Act.put, List.setIfInBounds_toArray, List.set_cons_zero, List.set_cons_succ]
      refine wpAnyH_take_d (i := 6) (v := .string (C.s.extract q C.s.size)) 23 rfl rfl (by kernel_rfl) (by kernel_rfl) (by kernel_rfl) (fun _ _ _ h => h) (Or.inl ⟨by kernel_rfl, fun w' hS' => ?y6⟩) (⟨hm3, trivial⟩) ?_
      case y6 => (clear hS'; go_simp)
      simp only [Act.put, List.setIfInBounds_toArray, List.set_cons_zero, List.set_cons_succ]
      refine wpAnyH_take_d (i := 7) (v := .string (C.s.extract q C.s.size)) 2 rfl rfl (by kernel_rfl) (by kernel_rfl) (by kernel_rfl) (fun _ _ _ h => h) (Or.inl ⟨by kernel_rfl, fun w' hS' => ?y7⟩) (⟨hm3, trivial⟩) ?_
      case y7 => (clear hS'; go_simp)
      simp only [Act.put, List.setIfInBounds_toArray, List.set_cons_zero, List.set_cons_succ]
      refine wpAnyH_done (by kernel_rfl) ?_ _
      refine hK0 _ _ ?_
      go_wp2
      go_ret
      exact ⟨rfl, hb4⟩
    · rw [if_neg (fun hh => hl hh.2)]
      have hgt : (0 : Int) < (C.left : Nat) := by omega
      generalize C.left = q at HL hgt
      clear h hk hf hl HM HBE hbl
      go_enter Tryz.func52, Tryz.ntmps52
      go_wp2_with fail
      refine HL.out.mono ?_
      rintro e w1 ⟨rfl, hb⟩
      go_wp2
      go_ret
      exact ⟨rfl, hb⟩
  · rw [if_neg (fun hh => hf hh.1)]
    have hb : (C.f == 0) = false := by rw [beq_eq_false_iff_ne]; exact hf
    have hb2 : (C.f != 0) = true := by simp [bne, hb]
    clear h hk hf HM HBE hbl HL
    go_enter Tryz.func52, Tryz.ntmps52
    go_wp2
    go_ret
    exact ⟨rfl, Below.refl _ _⟩
end
end Go.Proofs.YtjnclchbklehgaaGreatDoor

namespace Go.Proofs.YtjnclchbklehgaaGreatDoor
open Go.RowKit SignMath TreeMath

/-- only block b is changed, and new ones are laid -/
abbrev Of (b : Nat) (W W' : World) : Prop := Off (· = b) W W'
theorem of_below {b : Nat} {W W' : World} (h : Below W.heap.size W W') : Of b W W' := Off.of_below h
theorem of_set (b i : Nat) (W : World) (v : Value) : Of b W (W.setCell ⟨b, i, none⟩ v) := Off.setCell (X := (· = b)) (p := ⟨b, i, none⟩) rfl W v
/-- the cursor behind a failure -/
def Cu.fail (C : Cu) (e : Int) : Cu := if C.f = 0 then { C with f := if 1 ≤ e ∧ e ≤ 15 then e else 2, p := (C.at : Nat) } else C
/-- one construct more, or a failure -/
def Cu.down (C : Cu) : Cu × Bool := if C.f = 0 then (if 200 ≤ C.d then (C.fail 3, false) else ({ C with d := C.d + 1 }, true)) else (C, false)
def Cu.up (C : Cu) : Cu := { C with d := C.d - 1 }
theorem Cu.fail_L (C : Cu) (e : Int) : (C.fail e).L = C.L := by unfold Cu.fail; split <;> rfl
theorem Cu.Ok.fail {C : Cu} (h : C.Ok) (e : Int) : (C.fail e).Ok := by
  unfold Cu.fail
  split
  · have := h.at_le
    have h2 := h.sz
    refine ⟨h.n, h.sz, h.len, h.tok, h.ord, h.d, ?_, ?_⟩
    · simp only
      split <;> omega
    · simp only
      omega
  · exact h
theorem Cu.Ok.down {C : Cu} (h : C.Ok) : C.down.1.Ok := by
  unfold Cu.down
  split
  · split
    · exact h.fail 3
    · exact ⟨h.n, h.sz, h.len, h.tok, h.ord, by simp only; omega, h.f, h.p⟩
  · exact h
theorem Cu.Ok.up {C : Cu} (h : C.Ok) : C.up.Ok := ⟨h.n, h.sz, h.len, h.tok, h.ord, by have := h.d; show C.d - 1 ≤ 1000; omega, h.f, h.p⟩

section
variable {b : Nat} {A : Option Addr} {c : Nat} {C : Cu} {W : World}
/-- what a call leaves behind -/
def CuV (b : Nat) (A : Option Addr) (c : Nat) (C' : Cu) (W : World) (P : Ending → Prop) (e : Ending) (W' : World) : Prop := P e ∧ CuM b A c C' W' ∧ Of b W W'

set_option maxHeartbeats 2000000 in
theorem fail_any (n : Int) (hn : rng n) (h : CuM b A c C W) (hk : C.Ok) : Calls Tryz.prog 21 #[.pointer (some ⟨b, 0, none⟩), .int .i64 n] W (CuV b A c (C.fail n) W fun e => ∃ v, e = .returned v) := by
  obtain ⟨c0, c1, c2, c3, c4, c5⟩ := h.cells
  have HA := Lib.hid (at_any h hk)
  have HM := Lib.hid h
  unfold Cu.fail CuV
  unfold Rd at HA
  by_cases hf : C.f = 0
  · rw [if_pos hf]
    rw [hf] at c4
    have hend : ∀ (m : Int) (w1 : World), (if 1 ≤ n ∧ n ≤ 15 then n else 2) = m → Below W.heap.size W w1 → CuM b A c { C with f := m, p := (C.at : Nat) } ((w1.setCell ⟨b, 5, none⟩ (.int .i64 (C.at : Nat))).setCell ⟨b, 4, none⟩ (.int .i64 m)) ∧ Of b W ((w1.setCell ⟨b, 5, none⟩ (.int .i64 (C.at : Nat))).setCell ⟨b, 4, none⟩ (.int .i64 m)) := fun m w1 _ hb => by
      have h1 := (HM.out.below hb).set (C' := { C with p := (C.at : Nat) }) 5 (.int .i64 (C.at : Nat)) rfl rfl
      have h2 := h1.set (C' := { C with f := m, p := (C.at : Nat) }) 4 (.int .i64 m) rfl rfl
      exact ⟨h2, (of_below hb).trans ((of_set b 5 _ _).trans (of_set b 4 _ _))⟩
    have HE := Lib.hid hend
    clear hend h hk hf
    generalize C.at = q at HA HE
    by_cases h1 : n < 1
    · have hm : (if 1 ≤ n ∧ n ≤ 15 then n else 2) = 2 := if_neg (fun hh => by omega)
      have HMM := Lib.hid hm
      clear hm
      go_enter Tryz.func21, Tryz.ntmps21
      go_wp2_with fail
      refine HA.out.mono ?_
      rintro e w1 ⟨rfl, hb⟩
      have hm1 := HM.out.below hb
      obtain ⟨d0, d1, d2, d3, d4, d5⟩ := hm1.cells
      have fr := hm1.frz
      have HH := Lib.hid (HE.out 2 w1 HMM.out hb)
      clear hb hm1 c0 c1 c2 c3 c4 c5
      go_wp2
      refine bodyPost_end (results_none rfl _ _ _) rfl ?_
      exact ⟨⟨_, rfl⟩, HH.out⟩
    · by_cases h2 : 15 < n
      · have hm : (if 1 ≤ n ∧ n ≤ 15 then n else 2) = 2 := if_neg (fun hh => by omega)
        have HMM := Lib.hid hm
        clear hm
        go_enter Tryz.func21, Tryz.ntmps21
        go_wp2_with fail
        refine HA.out.mono ?_
        rintro e w1 ⟨rfl, hb⟩
        have hm1 := HM.out.below hb
        obtain ⟨d0, d1, d2, d3, d4, d5⟩ := hm1.cells
        have fr := hm1.frz
        have HH := Lib.hid (HE.out 2 w1 HMM.out hb)
        clear hb hm1 c0 c1 c2 c3 c4 c5
        go_wp2
        refine bodyPost_end (results_none rfl _ _ _) rfl ?_
        exact ⟨⟨_, rfl⟩, HH.out⟩
      · have hm : (if 1 ≤ n ∧ n ≤ 15 then n else 2) = n := if_pos ⟨by omega, by omega⟩
        have HMM := Lib.hid hm
        clear hm
        go_enter Tryz.func21, Tryz.ntmps21
        go_wp2_with fail
        refine HA.out.mono ?_
        rintro e w1 ⟨rfl, hb⟩
        have hm1 := HM.out.below hb
        obtain ⟨d0, d1, d2, d3, d4, d5⟩ := hm1.cells
        have fr := hm1.frz
        have HH := Lib.hid (HE.out n w1 HMM.out hb)
        clear hb hm1 c0 c1 c2 c3 c4 c5
        go_wp2
        refine bodyPost_end (results_none rfl _ _ _) rfl ?_
        exact ⟨⟨_, rfl⟩, HH.out⟩
  · rw [if_neg hf]
    have hb : (C.f == 0) = false := by rw [beq_eq_false_iff_ne]; exact hf
    have hb2 : (C.f != 0) = true := by simp [bne, hb]
    clear h hk hf HA
    go_enter Tryz.func21, Tryz.ntmps21
    go_wp2
    refine bodyPost_ret (results_none rfl _ _ _) rfl ?_
    exact ⟨⟨_, rfl⟩, HM.out, Off.refl _ _⟩

set_option maxHeartbeats 2000000 in
theorem down_any (h : CuM b A c C W) (hk : C.Ok) : Calls Tryz.prog 17 #[.pointer (some ⟨b, 0, none⟩)] W (CuV b A c C.down.1 W fun e => e = .returned (.bool C.down.2)) := by
  obtain ⟨c0, c1, c2, c3, c4, c5⟩ := h.cells
  have fr := h.frz
  have HF := Lib.hid (fail_any 3 ⟨by omega, by omega⟩ h hk)
  have HM := Lib.hid h
  have hd := hk.d
  unfold Cu.down
  unfold CuV at HF ⊢
  by_cases hf : C.f = 0
  · rw [if_pos hf]
    rw [hf] at c4
    by_cases h2 : 200 ≤ C.d
    · rw [if_pos h2]
      have z1 : (200 : Int) ≤ (C.d : Nat) := by omega
      clear h hk hf h2 hd
      go_enter Tryz.func17, Tryz.ntmps17
      go_wp2_with fail
      refine HF.out.mono ?_
      rintro e w1 ⟨⟨v, rfl⟩, hm, ho⟩
      have HH := Lib.hid (And.intro hm ho)
      clear hm ho c0 c1 c2 c3 c4 c5
      go_wp2
      go_ret
      exact ⟨rfl, HH.out⟩
    · rw [if_neg h2]
      have z1 : ¬ ((200 : Int) ≤ (C.d : Nat)) := by omega
      have z2 : ((C.d : Nat) : Int) ≤ 1000 := by omega
      have h1 := h.set (C' := { C with d := C.d + 1 }) 3 (.int .i64 ((C.d + 1 : Nat))) rfl rfl
      have HH := Lib.hid (And.intro h1 (of_set b 3 W (.int .i64 ((C.d + 1 : Nat)))))
      rw [Int.natCast_add, Int.natCast_one] at HH
      clear h hk hf h1 h2 hd HF
      go_enter Tryz.func17, Tryz.ntmps17
      go_wp2
      go_ret
      exact ⟨rfl, HH.out⟩
  · rw [if_neg hf]
    have hb : (C.f == 0) = false := by rw [beq_eq_false_iff_ne]; exact hf
    have hb2 : (C.f != 0) = true := by simp [bne, hb]
    clear h hk hf HF
    go_enter Tryz.func17, Tryz.ntmps17
    go_wp2
    go_ret
    exact ⟨rfl, HM.out, Off.refl _ _⟩

set_option maxHeartbeats 2000000 in
theorem up_any (h : CuM b A c C W) (hk : C.Ok) : Calls Tryz.prog 19 #[.pointer (some ⟨b, 0, none⟩)] W (CuV b A c C.up W fun e => ∃ v, e = .returned v) := by
  obtain ⟨c0, c1, c2, c3, c4, c5⟩ := h.cells
  have fr := h.frz
  have hd := hk.d
  have HM := Lib.hid h
  unfold Cu.up CuV
  by_cases h2 : C.d = 0
  · rw [h2] at c3
    have HE : Hid (({ C with d := C.d - 1 } : Cu) = C) := Lib.hid (by rw [h2]; cases C; simp only at h2; subst h2; rfl)
    clear h hk h2 hd
    go_enter Tryz.func19, Tryz.ntmps19
    go_wp2
    refine bodyPost_end (results_none rfl _ _ _) rfl ?_
    rw [HE.out]
    exact ⟨⟨_, rfl⟩, HM.out, Off.refl _ _⟩
  · have z1 : (0 : Int) < (C.d : Nat) := by omega
    have z2 : ((C.d : Nat) : Int) ≤ 1000 := by omega
    have h1 := h.set (C' := { C with d := C.d - 1 }) 3 (.int .i64 ((C.d - 1 : Nat))) rfl rfl
    have HH := Lib.hid (And.intro h1 (of_set b 3 W (.int .i64 ((C.d - 1 : Nat)))))
    rw [show ((C.d - 1 : Nat) : Int) = (C.d : Nat) - 1 by omega] at HH
    clear h hk h1 h2 hd
    go_enter Tryz.func19, Tryz.ntmps19
    go_wp2
    refine bodyPost_end (results_none rfl _ _ _) rfl ?_
    exact ⟨⟨_, rfl⟩, HH.out⟩
end
end Go.Proofs.YtjnclchbklehgaaGreatDoor

namespace Go.Proofs.YtjnclchbklehgaaGreatDoor
open Go.RowKit SignMath TreeMath

/-- the leaf that is taken -/
def Cu.leaf (C : Cu) (t : Tk) : Tr := ⟨1, C.s.extract C.beh t.a, C.s.extract t.a t.z, (t.a : Nat), none, 0, []⟩
def zn1 : Tr := ⟨0, ⟨#[]⟩, ⟨#[]⟩, 0, none, 0, []⟩
/-- what taking answers -/
def Cu.take (C : Cu) (asked : Bool) : Cu × Tr := match asked, C.nxt 0 with
  | true, some t => ({ C with n := C.n + 1 }, C.leaf t)
  | _, _ => (C.fail 2, zn1)
theorem Cu.take_true {C : Cu} {t : Tk} (h : C.nxt 0 = some t) : C.take true = ({ C with n := C.n + 1 }, C.leaf t) := by unfold Cu.take; rw [h]
theorem Cu.take_false (C : Cu) : C.take false = (C.fail 2, zn1) := by unfold Cu.take; rfl
theorem Cu.Ok.take {C : Cu} (h : C.Ok) (q : Bool) : (C.take q).1.Ok := by
  unfold Cu.take
  split
  · rename_i t ht
    obtain ⟨-, h2⟩ := Cu.nxt_some ht
    have := (List.getElem?_eq_some_iff.1 h2).1
    exact ⟨by simp only; omega, h.sz, h.len, h.tok, h.ord, h.d, h.f, h.p⟩
  · exact h.fail 2
abbrev zb5 : Obj := .cells #[.int .i64 0, .string ⟨#[]⟩, .string ⟨#[]⟩, .int .i64 0, .slice none 0 0] 40 (0, 0)
theorem of_set5 {b r : Nat} {W W1 : World} (ho : Of b W W1) (hr : W.heap.size ≤ r) (T : Tr) : Of b W (set5 W1 r T) :=
  have h5 := off_set5 (X := (· = r)) rfl W1 T
  ⟨h5.os.trans ho.os, h5.tape.trans ho.tape, h5.output.trans ho.output, by rw [set5_size]; exact ho.size, fun k hk hn => (set5_other (by omega) T).trans (ho.block k hk hn)⟩

section
variable {b : Nat} {A : Option Addr} {c : Nat} {C : Cu} {W : World}
/-- behind changes of its block alone -/
theorem CuM.of (h : CuM b A c C W) {W' : World} (ho : Of b W W') {C' : Cu} (hL : C'.L = C.L) (hbox : W'.heap[b]? = some (cubx C' A c)) : CuM b A c C' W' := by
  refine ⟨hbox, ?_, by rw [hL]; exact h.ne⟩
  rw [hL]
  intro hn
  obtain ⟨g, off, rfl, hg, hc⟩ := h.row hn
  exact ⟨g, off, rfl, Nat.lt_of_lt_of_le hg ho.size, fun j u hu => (cell_of (ho.block g hg (h.ne hn _ rfl))).trans (hc j u hu)⟩
/-- a result's cell, stored into last -/
theorem res_set {W1 : World} {P : Ending → Prop} {C' : Cu} {e : Ending} (h0 : CuM b A c C W) (hL : C'.L = C.L) (h : CuV b A c C' (W.alloc zb5) P e W1) (T : Tr) : W1.heap[W.heap.size]? = some zb5 ∧ CuM b A c C' (set5 W1 W.heap.size T) ∧ Of b W (set5 W1 W.heap.size T) ∧ (set5 W1 W.heap.size T).heap[W.heap.size]? = some (.cells (ncc T) 40 (0, 0)) := by
  obtain ⟨-, hm, ho⟩ := h
  have hlt := h0.lt
  have hz : W1.heap[W.heap.size]? = some zb5 := (ho.block _ (by simp) (by show ¬ W.heap.size = b; omega)).trans (heap_alloc_new W zb5)
  have ho1 : Of b W W1 := (Off.alloc _ W zb5).trans ho
  have ho2 := of_set5 ho1 (Nat.le_refl _) T
  exact ⟨hz, h0.of ho2 hL ((set5_other (by omega) T).trans hm.box), ho2, set5_self hz T⟩

set_option maxRecDepth 100000 in
set_option maxHeartbeats 4000000 in
theorem takeIf_no (h : CuM b A c C W) (hk : C.Ok) : Calls Tryz.prog 44 #[.pointer (some ⟨b, 0, none⟩), .bool false] W (CuV b A c (C.fail 2) W fun e => e = .returned (nv zn1)) := by
  have HF := Lib.hid (fail_any 2 ⟨by omega, by omega⟩ (h.below (below1 W zb5)) hk)
  have HM := Lib.hid h
  have HL := Lib.hid (C.fail_L 2)
  unfold CuV
  clear h hk
  go_enter Tryz.func44, Tryz.ntmps44
  go_wp2_with fail
  refine HF.out.mono ?_
  intro e w1 hv
  obtain ⟨hz, hm, ho, hs⟩ := res_set HM.out HL.out hv zn1
  obtain ⟨⟨v, rfl⟩, -, -⟩ := hv
  have HH := Lib.hid (And.intro hm ho)
  clear hm ho
  go_wp2_with (refine wpList_store_node (by rfl) 40 (.tmp 4) (.tmp 11) (by rfl) size_tnode W.heap.size zn1 (by rfl) (by rfl) hz ?_; generalize set5 w1 W.heap.size zn1 = w2 at hs HH ⊢)
  have g0 := cell_heap hs (i := 0)
  have g1 := cell_heap hs (i := 1)
  have g2 := cell_heap hs (i := 2)
  have g3 := cell_heap hs (i := 3)
  have g4 := cell_heap hs (i := 4)
  simp only [List.getElem?_toArray, List.getElem?_cons_zero, List.getElem?_cons_succ] at g0 g1 g2 g3 g4
  refine bodyPost_ret (v := nv zn1) (by simp [results, Tryz.results44, go_sem, g0, g1, g2, g3, g4]) rfl ⟨rfl, HH.out⟩

set_option maxRecDepth 100000 in
set_option maxHeartbeats 8000000 in
theorem takeIf_yes {t : Tk} (hx : C.nxt 0 = some t) (h : CuM b A c C W) (hk : C.Ok) : Calls Tryz.prog 44 #[.pointer (some ⟨b, 0, none⟩), .bool true] W (CuV b A c { C with n := C.n + 1 } W fun e => e = .returned (nv (C.leaf t))) := by
  obtain ⟨hf, ht⟩ := Cu.nxt_some hx
  rw [Nat.add_zero] at ht
  have hnl := (List.getElem?_eq_some_iff.1 ht).1
  have hlen := hk.len
  have htk := hk.tok t (List.mem_of_getElem? ht)
  have hba := hk.beh_at ht
  have hsz := hk.sz
  have z1 : (0 : Int) ≤ (C.n : Nat) := by omega
  have z2 : ((C.n : Nat) : Int) < C.L.length := by omega
  have z3 : ((C.n : Nat) : Int) ≤ 4000 := by omega
  have y1 : (0 : Int) ≤ (C.beh : Nat) := by omega
  have y2 : ((C.beh : Nat) : Int) ≤ (t.a : Nat) := by omega
  have y3 : ((t.a : Nat) : Int) ≤ (C.s.size : Nat) := by omega
  have HT := Lib.hid ht
  have HBE : Hid (∀ W' : World, CuM b A c C W' → Calls Tryz.prog 73 #[.pointer (some ⟨b, 0, none⟩)] W' fun e w' => e = .returned (.int .i64 (C.beh : Nat)) ∧ Below W'.heap.size W' w') := Lib.hid fun W' h' => behind_any h' hk
  have HTX : Hid (ttx C.s (toZ t) = C.s.extract t.a t.z) := Lib.hid (by unfold ttx toZ; rw [if_pos ⟨by simp, by simp; omega, by simp; omega⟩]; rfl)
  have HM := Lib.hid h
  unfold CuV Cu.leaf
  generalize C.beh = q at y1 y2 HBE ⊢
  obtain ⟨g, off, rfl, -, -, -, -⟩ := h.tok ht
  have hm0 := h.below (below1 W zb5)
  have hr0 := heap_alloc_new W zb5
  have hd : Below (W.alloc zb5).heap.size (W.alloc zb5) (W.alloc zb5).drew := ⟨rfl, rfl, rfl, Nat.le_refl _, fun _ _ => rfl⟩
  have hm1 := hm0.below hd
  have hr1 : (W.alloc zb5).drew.heap[W.heap.size]? = some zb5 := hr0
  have hb1 : Below W.heap.size W (W.alloc zb5).drew := (below1 W zb5).trans (hd.mono (by simp))
  have hlt := h.lt
  clear hf ht hnl hlen htk hba hsz hx hk h hm0 hr0 hd
  go_enter Tryz.func44, Tryz.ntmps44
  go_wp2
  rename_i K0 hK0
  refine wp_region_noPanic (wp_region_held (S := fun W' : World => CuM b (some ⟨g, off, none⟩) c C W' ∧ True) (by kernel_rfl) ?_)
  show wpAnyH _ _ _ _ _ _ _ _ (W.alloc zb5).drew
  generalize (W.alloc zb5).drew = w2 at hm1 hr1 hb1 ⊢
  refine wpAnyH_take_d (i := 0) (v := .pointer (some ⟨b, 0, none⟩)) 12 rfl rfl (by kernel_rfl) (by kernel_rfl) (by kernel_rfl) (fun _ _ _ h => h) (Or.inl ⟨by kernel_rfl, fun w' hS' => ?y0⟩) (⟨hm1, trivial⟩) ?_
  case y0 => (clear hS'; go_simp)
  simp only [Act.put, List.setIfInBounds_toArray, List.set_cons_zero, List.set_cons_succ]
  refine wpAnyH_take_d (i := 1) (v := .pointer (some ⟨b, 0, none⟩)) 13 rfl rfl (by kernel_rfl) (by kernel_rfl) (by kernel_rfl) (fun _ _ _ h => h) (Or.inl ⟨by kernel_rfl, fun w' hS' => ?y1⟩) (⟨hm1, trivial⟩) ?_
  case y1 => (clear hS'; go_simp)
  simp only [Act.put, List.setIfInBounds_toArray, List.set_cons_zero, List.set_cons_succ]
  refine wpAnyH_take_d (i := 2) (v := .pointer (some ⟨b, 1, none⟩)) 14 rfl rfl (by kernel_rfl) (by kernel_rfl) (by kernel_rfl) (fun _ _ _ h => h) (Or.inl ⟨by kernel_rfl, fun w' hS' => ?y2⟩) (⟨hm1, trivial⟩) ?_
  case y2 => (clear hS'; go_simp)
  simp only [Act.put, List.setIfInBounds_toArray, List.set_cons_zero, List.set_cons_succ]
  refine wpAnyH_take_d (i := 3) (v := .slice (some ⟨g, off, none⟩) C.L.length c) 15 rfl rfl (by kernel_rfl) (by kernel_rfl) (by kernel_rfl) (fun _ _ _ h => h) (Or.inl ⟨by kernel_rfl, fun w' hS' => ?y3⟩) (⟨hm1, trivial⟩) ?_
  case y3 => (obtain ⟨s0, s1, s2, s3, s4, s5⟩ := hS'.1.cells; clear hS'; go_simp)
  simp only [Act.put, List.setIfInBounds_toArray, List.set_cons_zero, List.set_cons_succ]
  refine wpAnyH_take_d (i := 4) (v := .pointer (some ⟨b, 0, none⟩)) 16 rfl rfl (by kernel_rfl) (by kernel_rfl) (by kernel_rfl) (fun _ _ _ h => h) (Or.inl ⟨by kernel_rfl, fun w' hS' => ?y4⟩) (⟨hm1, trivial⟩) ?_
  case y4 => (clear hS'; go_simp)
  simp only [Act.put, List.setIfInBounds_toArray, List.set_cons_zero, List.set_cons_succ]
  refine wpAnyH_take_d (i := 5) (v := .pointer (some ⟨b, 0, none⟩)) 17 rfl rfl (by kernel_rfl) (by kernel_rfl) (by kernel_rfl) (fun _ _ _ h => h) (Or.inl ⟨by kernel_rfl, fun w' hS' => ?y5⟩) (⟨hm1, trivial⟩) ?_
  case y5 => (clear hS'; go_simp)
  simp only [Act.put, List.setIfInBounds_toArray, List.set_cons_zero, List.set_cons_succ]
  refine wpAnyH_take_d (i := 6) (v := .pointer (some ⟨b, 2, none⟩)) 18 rfl rfl (by kernel_rfl) (by kernel_rfl) (by kernel_rfl) (fun _ _ _ h => h) (Or.inl ⟨by kernel_rfl, fun w' hS' => ?y6⟩) (⟨hm1, trivial⟩) ?_
  case y6 => (clear hS'; go_simp)
  simp only [Act.put, List.setIfInBounds_toArray, List.set_cons_zero, List.set_cons_succ]
  refine wpAnyH_take_d (i := 7) (v := .int .i64 (C.n : Nat)) 19 rfl rfl (by kernel_rfl) (by kernel_rfl) (by kernel_rfl) (fun _ _ _ h => h) (Or.inl ⟨by kernel_rfl, fun w' hS' => ?y7⟩) (⟨hm1, trivial⟩) ?_
  case y7 => (obtain ⟨s0, s1, s2, s3, s4, s5⟩ := hS'.1.cells; clear hS'; go_simp)
  simp only [Act.put, List.setIfInBounds_toArray, List.set_cons_zero, List.set_cons_succ]
  refine wpAnyH_take_d (i := 8) (v := .pointer (some ⟨g, off + C.n * 3, none⟩)) 20 rfl rfl (by kernel_rfl) (by kernel_rfl) (by kernel_rfl) (fun _ _ _ h => h) (Or.inl ⟨by kernel_rfl, fun w' hS' => ?y8⟩) (⟨hm1, trivial⟩) ?_
  case y8 => (clear hS'; go_simp)
  simp only [Act.put, List.setIfInBounds_toArray, List.set_cons_zero, List.set_cons_succ]
  refine wpAnyH_take_d (i := 9) (v := tkv t) 21 rfl rfl (by kernel_rfl) (by kernel_rfl) (by kernel_rfl) (fun _ _ _ h => h) (Or.inl ⟨by kernel_rfl, fun w' hS' => ?y9⟩) (⟨hm1, trivial⟩) ?_
  case y9 => (obtain ⟨r0, r1, r2⟩ := hS'.1.tokAt HT.out; clear hS'; go_simp)
  simp only [Act.put, List.setIfInBounds_toArray, List.set_cons_zero, List.set_cons_succ]
  refine wpAnyH_ready (rs := [10]) (by kernel_rfl) (by simp) ?_
  refine AllReadyH.cons rfl (fun K hK => ?_) AllReadyH.nil
  go_simp
  have hB3 := below1 w2 (.cells #[.int .i64 0, .int .i64 0, .int .i64 0] 105)
  have hx2 := heap_alloc_new w2 (.cells #[.int .i64 0, .int .i64 0, .int .i64 0] 105)
  generalize w2.alloc (.cells #[.int .i64 0, .int .i64 0, .int .i64 0] 105) = w3 at hB3 hx2 ⊢
  refine hK.out _ _ (⟨hm1.below hB3, trivial⟩) (fun _ => ?_)
  clear hK K
  try simp only [Act.put, List.setIfInBounds_toArray, List.set_cons_zero, List.set_cons_succ]
  refine wpAnyH_ready (rs := [11]) (by kernel_rfl) (by simp) ?_
  refine AllReadyH.cons rfl (fun K hK => ?_) AllReadyH.nil
  refine step_store_tok (by rfl) 105 (.tmp 5) (.tmp 21) (by rfl) size_tok w2.heap.size t (by rfl) (by rfl) hx2 ?_
  have hx3 := set3_self hx2 t
  have hB4 := below_set3 hB3 (Nat.le_refl _) t
  generalize set3 w3 w2.heap.size t = w4 at hx3 hB4 ⊢
  have hm4 := hm1.below hB4
  have hb4 := hb1.trans (hB4.mono hb1.size)
  have hr4 := (hB4.block _ (Array.getElem?_eq_some_iff.1 hr1).1).trans hr1
  refine hK.out _ _ (⟨hm4, trivial⟩) (fun _ => ?_)
  clear hK K
  try simp only [Act.put, List.setIfInBounds_toArray, List.set_cons_zero, List.set_cons_succ]
  refine wpAnyH_done (by kernel_rfl) ?_ _
  refine hK0 _ _ ?_
  clear hB3 hB4 hx2 hm1 hb1 hr1 K0 hK0
  generalize w2.heap.size = x at hx3 ⊢
  clear w2
  go_wp2
  rename_i K1 hK1 _d1 _e1
  have hd4 : Below w4.heap.size w4 w4.drew := ⟨rfl, rfl, rfl, Nat.le_refl _, fun _ _ => rfl⟩
  have hm5 := hm4.below hd4
  have hx5 : w4.drew.heap[x]? = some (tkc t) := hx3
  have hb5 := hb4.trans (hd4.mono hb4.size)
  have hr5 : w4.drew.heap[W.heap.size]? = some zb5 := hr4
  generalize hw5 : w4.drew = w5 at hm5 hx5 hb5 hr5
  refine at_act (fun A0 hA => ?_)
  obtain ⟨LF, hLF⟩ : ∃ LF : Tr, LF = (⟨1, C.s.extract q t.a, C.s.extract t.a t.z, (t.a : Nat), none, 0, []⟩ : Tr) := ⟨_, rfl⟩
  have REST0 : ∀ (y : Nat) (x0 : World), Below w5.heap.size w5 x0 → w5.heap.size ≤ y → x0.heap[y]? = some (.cells (ncc LF) 40 (0, 0)) → K1 (((((((((((((((((((A0.put (some 22) (.pointer (some ⟨b, 0, none⟩))).put (some 23) (.pointer (some ⟨b, 0, none⟩))).put (some 24) (.pointer (some ⟨b, 0, none⟩))).put (some 25) (.string C.s)).put (some 26) (.pointer (some ⟨b, 0, none⟩))).put (some 27) (.int .i64 (q : Nat))).put (some 28) (.pointer (some ⟨x, 1, none⟩))).put (some 29) (.int .i64 (t.a : Nat))).put (some 30) (.string (C.s.extract q t.a))).put (some 31) (tkv t)).put (some 32) (.pointer (some ⟨b, 0, none⟩))).put (some 33) (.pointer (some ⟨b, 0, none⟩))).put (some 34) (.pointer (some ⟨b, 0, none⟩))).put (some 35) (.string C.s)).put (some 36) (.string (C.s.extract t.a t.z))).put (some 37) (.pointer (some ⟨x, 1, none⟩))).put (some 38) (.int .i64 (t.a : Nat))).put (some 39) (nv LF)).put (some 6) (.pointer (some ⟨y, 0, none⟩))) x0 := by
    subst hA
    intro y x0 hB hy hyb
    simp only [Act.put, List.setIfInBounds_toArray, List.set_cons_zero, List.set_cons_succ]
    refine hK1 _ _ ?_
    have hm := hm5.below hB
    obtain ⟨c0, c1, c2, c3, c4, c5⟩ := hm.cells
    have fr := hm.frz
    have hr := (hB.block _ (Array.getElem?_eq_some_iff.1 hr5).1).trans hr5
    have hrl := (Array.getElem?_eq_some_iff.1 hr5).1
    have hbx := hb5.trans (hB.mono hb5.size)
    have hyr : y ≠ W.heap.size := by omega
    have hyb2 : y ≠ b := by have := hm5.lt; omega
    have hrb : W.heap.size ≠ b := by omega
    have hm' := hm.set (C' := { C with n := C.n + 1 }) 2 (.int .i64 ((C.n + 1 : Nat))) rfl rfl
    rw [Int.natCast_add, Int.natCast_one] at hm'
    have hr' : (x0.setCell ⟨b, 2, none⟩ (.int .i64 (((C.n : Nat) : Int) + 1))).heap[W.heap.size]? = some zb5 := (Below.heap_setCell _ _ _ _ hrb).trans hr
    have hy' : (x0.setCell ⟨b, 2, none⟩ (.int .i64 (((C.n : Nat) : Int) + 1))).heap[y]? = some (.cells (ncc LF) 40 (0, 0)) := (Below.heap_setCell _ _ _ _ hyb2).trans hyb
    have ho' : Of b W (x0.setCell ⟨b, 2, none⟩ (.int .i64 (((C.n : Nat) : Int) + 1))) := (of_below hbx).trans (of_set b 2 _ _)
    have hfin := And.intro (HM.out.of (of_set5 ho' (Nat.le_refl _) LF) (C' := { C with n := C.n + 1 }) rfl ((set5_other (fun e => hrb e.symm) LF).trans hm'.box)) (of_set5 ho' (Nat.le_refl _) LF)
    have HFI := Lib.hid hfin
    have hs := set5_self hr' LF
    have HLF := Lib.hid hLF
    have ty := heap5 hy'
    clear hB hyb hm hbx hr hm5 hx5 hb5 hr5 hm' ho' hfin hy' hLF HM HBE HTX HT
    go_wp2_with (refine wpList_store_node (by rfl) 40 (.tmp 4) (.tmp 47) (by rfl) size_tnode W.heap.size LF (by rfl) (by rfl) hr' ?_; generalize set5 (x0.setCell ⟨b, 2, none⟩ (.int .i64 (((C.n : Nat) : Int) + 1))) W.heap.size LF = x1 at hs HFI ⊢)
    have g0 := cell_heap hs (i := 0)
    have g1 := cell_heap hs (i := 1)
    have g2 := cell_heap hs (i := 2)
    have g3 := cell_heap hs (i := 3)
    have g4 := cell_heap hs (i := 4)
    simp only [List.getElem?_toArray, List.getElem?_cons_zero, List.getElem?_cons_succ] at g0 g1 g2 g3 g4
    refine bodyPost_ret (v := nv LF) (by simp [results, Tryz.results44, go_sem, g0, g1, g2, g3, g4]) rfl ⟨by rw [HLF.out], HFI.out⟩
  subst hA
  simp only [Act.put, List.setIfInBounds_toArray, List.set_cons_zero, List.set_cons_succ] at REST0
  have REST := Lib.hid REST0
  clear REST0 hK1
  refine wp_region_noPanic (wp_region_held (S := fun W' : World => CuM b (some ⟨g, off, none⟩) c C W' ∧ W'.heap[x]? = some (tkc t)) (by kernel_rfl) ?_)
  show wpAnyH _ _ _ _ _ _ _ _ w4.drew
  rw [hw5]
  clear hw5 hm4 hx3 hb4 hr4
  refine wpAnyH_take_d (i := 0) (v := .pointer (some ⟨b, 0, none⟩)) 22 rfl rfl (by kernel_rfl) (by kernel_rfl) (by kernel_rfl) (fun _ _ _ h => h) (Or.inl ⟨by kernel_rfl, fun w' hS' => ?y0⟩) (⟨hm5, hx5⟩) ?_
  case y0 => (clear hS'; go_simp)
  simp only [Act.put, List.setIfInBounds_toArray, List.set_cons_zero, List.set_cons_succ]
  refine wpAnyH_take_d (i := 1) (v := .pointer (some ⟨b, 0, none⟩)) 23 rfl rfl (by kernel_rfl) (by kernel_rfl) (by kernel_rfl) (fun _ _ _ h => h) (Or.inl ⟨by kernel_rfl, fun w' hS' => ?y1⟩) (⟨hm5, hx5⟩) ?_
  case y1 => (clear hS'; go_simp)
  simp only [Act.put, List.setIfInBounds_toArray, List.set_cons_zero, List.set_cons_succ]
  refine wpAnyH_take_d (i := 2) (v := .pointer (some ⟨b, 0, none⟩)) 24 rfl rfl (by kernel_rfl) (by kernel_rfl) (by kernel_rfl) (fun _ _ _ h => h) (Or.inl ⟨by kernel_rfl, fun w' hS' => ?y2⟩) (⟨hm5, hx5⟩) ?_
  case y2 => (clear hS'; go_simp)
  simp only [Act.put, List.setIfInBounds_toArray, List.set_cons_zero, List.set_cons_succ]
  refine wpAnyH_take_d (i := 3) (v := .string C.s) 25 rfl rfl (by kernel_rfl) (by kernel_rfl) (by kernel_rfl) (fun _ _ _ h => h) (Or.inl ⟨by kernel_rfl, fun w' hS' => ?y3⟩) (⟨hm5, hx5⟩) ?_
  case y3 => (obtain ⟨s0, s1, s2, s3, s4, s5⟩ := hS'.1.cells; clear hS'; go_simp)
  simp only [Act.put, List.setIfInBounds_toArray, List.set_cons_zero, List.set_cons_succ]
  refine wpAnyH_take_d (i := 4) (v := .pointer (some ⟨b, 0, none⟩)) 26 rfl rfl (by kernel_rfl) (by kernel_rfl) (by kernel_rfl) (fun _ _ _ h => h) (Or.inl ⟨by kernel_rfl, fun w' hS' => ?y4⟩) (⟨hm5, hx5⟩) ?_
  case y4 => (clear hS'; go_simp)
  simp only [Act.put, List.setIfInBounds_toArray, List.set_cons_zero, List.set_cons_succ]
  refine wpAnyH_take_d (i := 6) (v := .pointer (some ⟨x, 1, none⟩)) 28 rfl rfl (by kernel_rfl) (by kernel_rfl) (by kernel_rfl) (fun _ _ _ h => h) (Or.inl ⟨by kernel_rfl, fun w' hS' => ?y6⟩) (⟨hm5, hx5⟩) ?_
  case y6 => (clear hS'; go_simp)
  simp only [Act.put, List.setIfInBounds_toArray, List.set_cons_zero, List.set_cons_succ]
  refine wpAnyH_take_d (i := 7) (v := .int .i64 (t.a : Nat)) 29 rfl rfl (by kernel_rfl) (by kernel_rfl) (by kernel_rfl) (fun _ _ _ h => h) (Or.inl ⟨by kernel_rfl, fun w' hS' => ?y7⟩) (⟨hm5, hx5⟩) ?_
  case y7 => (obtain ⟨r0, r1, r2⟩ := heap3 hS'.2; clear hS'; go_simp)
  simp only [Act.put, List.setIfInBounds_toArray, List.set_cons_zero, List.set_cons_succ]
  refine wpAnyH_take_d (i := 9) (v := tkv t) 31 rfl rfl (by kernel_rfl) (by kernel_rfl) (by kernel_rfl) (fun _ _ _ h => h) (Or.inl ⟨by kernel_rfl, fun w' hS' => ?y9⟩) (⟨hm5, hx5⟩) ?_
  case y9 => (obtain ⟨r0, r1, r2⟩ := heap3 hS'.2; clear hS'; go_simp)
  simp only [Act.put, List.setIfInBounds_toArray, List.set_cons_zero, List.set_cons_succ]
  refine wpAnyH_take_d (i := 10) (v := .pointer (some ⟨b, 0, none⟩)) 32 rfl rfl (by kernel_rfl) (by kernel_rfl) (by kernel_rfl) (fun _ _ _ h => h) (Or.inl ⟨by kernel_rfl, fun w' hS' => ?y10⟩) (⟨hm5, hx5⟩) ?_
  case y10 => (clear hS'; go_simp)
  simp only [Act.put, List.setIfInBounds_toArray, List.set_cons_zero, List.set_cons_succ]
  refine wpAnyH_take_d (i := 11) (v := .pointer (some ⟨b, 0, none⟩)) 33 rfl rfl (by kernel_rfl) (by kernel_rfl) (by kernel_rfl) (fun _ _ _ h => h) (Or.inl ⟨by kernel_rfl, fun w' hS' => ?y11⟩) (⟨hm5, hx5⟩) ?_
  case y11 => (clear hS'; go_simp)
  simp only [Act.put, List.setIfInBounds_toArray, List.set_cons_zero, List.set_cons_succ]
  refine wpAnyH_take_d (i := 12) (v := .pointer (some ⟨b, 0, none⟩)) 34 rfl rfl (by kernel_rfl) (by kernel_rfl) (by kernel_rfl) (fun _ _ _ h => h) (Or.inl ⟨by kernel_rfl, fun w' hS' => ?y12⟩) (⟨hm5, hx5⟩) ?_
  case y12 => (clear hS'; go_simp)
  simp only [Act.put, List.setIfInBounds_toArray, List.set_cons_zero, List.set_cons_succ]
  refine wpAnyH_take_d (i := 13) (v := .string C.s) 35 rfl rfl (by kernel_rfl) (by kernel_rfl) (by kernel_rfl) (fun _ _ _ h => h) (Or.inl ⟨by kernel_rfl, fun w' hS' => ?y13⟩) (⟨hm5, hx5⟩) ?_
  case y13 => (obtain ⟨s0, s1, s2, s3, s4, s5⟩ := hS'.1.cells; clear hS'; go_simp)
  simp only [Act.put, List.setIfInBounds_toArray, List.set_cons_zero, List.set_cons_succ]
  refine wpAnyH_take_d (i := 15) (v := .pointer (some ⟨x, 1, none⟩)) 37 rfl rfl (by kernel_rfl) (by kernel_rfl) (by kernel_rfl) (fun _ _ _ h => h) (Or.inl ⟨by kernel_rfl, fun w' hS' => ?y15⟩) (⟨hm5, hx5⟩) ?_
  case y15 => (clear hS'; go_simp)
  simp only [Act.put, List.setIfInBounds_toArray, List.set_cons_zero, List.set_cons_succ]
  refine wpAnyH_take_d (i := 16) (v := .int .i64 (t.a : Nat)) 38 rfl rfl (by kernel_rfl) (by kernel_rfl) (by kernel_rfl) (fun _ _ _ h => h) (Or.inl ⟨by kernel_rfl, fun w' hS' => ?y16⟩) (⟨hm5, hx5⟩) ?_
  case y16 => (obtain ⟨r0, r1, r2⟩ := heap3 hS'.2; clear hS'; go_simp)
  simp only [Act.put, List.setIfInBounds_toArray, List.set_cons_zero, List.set_cons_succ]
  have hB0 : Below w5.heap.size w5 w5 := Below.refl _ _
  refine wpAnyH_ready (rs := [5, 18]) (by kernel_rfl) (by simp) ?_
  refine AllReadyH.cons rfl (fun K hK => ?_) (AllReadyH.cons rfl (fun K hK => ?_) AllReadyH.nil)
  · go_simp
    refine (HBE.out w5 (hm5.below hB0)).mono ?_
    rintro e v1 ⟨rfl, hb⟩
    have hB1 := hB0.trans (hb.mono hB0.size)
    refine hK.out _ _ (⟨hm5.below hB1, (hB1.block x (Array.getElem?_eq_some_iff.1 hx5).1).trans hx5⟩) (fun _ => ?_)
    clear hK K
    try simp only [Act.put, List.setIfInBounds_toArray, List.set_cons_zero, List.set_cons_succ]
    refine wpAnyH_take_d (i := 8) (v := .string (C.s.extract q t.a)) 30 rfl rfl (by kernel_rfl) (by kernel_rfl) (by kernel_rfl) (fun _ _ _ h => h) (Or.inl ⟨by kernel_rfl, fun w' hS' => ?y8⟩) (⟨hm5.below hB1, (hB1.block x (Array.getElem?_eq_some_iff.1 hx5).1).trans hx5⟩) ?_
    case y8 => (clear hS'; go_simp)
    simp only [Act.put, List.setIfInBounds_toArray, List.set_cons_zero, List.set_cons_succ]
    refine wpAnyH_ready (rs := [14, 18]) (by kernel_rfl) (by simp) ?_
    refine AllReadyH.cons rfl (fun K hK => ?_) (AllReadyH.cons rfl (fun K hK => ?_) AllReadyH.nil)
    · go_simp
      refine (ttext_any C.s (toZ t) v1).mono ?_
      rintro e v2 ⟨rfl, hb⟩
      rw [HTX.out]
      have hB2 := hB1.trans (hb.mono hB1.size)
      refine hK.out _ _ (⟨hm5.below hB2, (hB2.block x (Array.getElem?_eq_some_iff.1 hx5).1).trans hx5⟩) (fun _ => ?_)
      clear hK K
      try simp only [Act.put, List.setIfInBounds_toArray, List.set_cons_zero, List.set_cons_succ]
      refine wpAnyH_ready (rs := [17, 18]) (by kernel_rfl) (by simp) ?_
      refine AllReadyH.cons rfl (fun K hK => ?_) (AllReadyH.cons rfl (fun K hK => ?_) AllReadyH.nil)
      · go_simp
        refine (token_any (C.s.extract q t.a) (C.s.extract t.a t.z) (t.a : Nat) v2).mono ?_
        rintro e v3 ⟨rfl, hb⟩
        have hB3 := hB2.trans (hb.mono hB2.size)
        refine hK.out _ _ (⟨hm5.below hB3, (hB3.block x (Array.getElem?_eq_some_iff.1 hx5).1).trans hx5⟩) (fun _ => ?_)
        clear hK K
        try simp only [Act.put, List.setIfInBounds_toArray, List.set_cons_zero, List.set_cons_succ]
        refine wpAnyH_ready (rs := [18]) (by kernel_rfl) (by simp) ?_
        refine AllReadyH.cons rfl (fun K hK => ?_) AllReadyH.nil
        go_simp
        have hyz := heap_alloc_new v3 zb5
        have hyl : w5.heap.size ≤ v3.heap.size := hB3.size
        have hB4 := hB3.alloc hB3.size zb5
        generalize v3.alloc zb5 = v4 at hyz hB4 ⊢
        refine hK.out _ _ (⟨hm5.below hB4, (hB4.block x (Array.getElem?_eq_some_iff.1 hx5).1).trans hx5⟩) (fun _ => ?_)
        clear hK K
        try simp only [Act.put, List.setIfInBounds_toArray, List.set_cons_zero, List.set_cons_succ]
        refine wpAnyH_ready (rs := [19]) (by kernel_rfl) (by simp) ?_
        refine AllReadyH.cons rfl (fun K hK => ?_) AllReadyH.nil
        refine step_store_node (by rfl) 40 (.tmp 6) (.tmp 39) (by rfl) size_tnode v3.heap.size (⟨1, C.s.extract q t.a, C.s.extract t.a t.z, (t.a : Nat), none, 0, []⟩ : Tr) (by rfl) (by rfl) hyz ?_
        have hyf := set5_self hyz (⟨1, C.s.extract q t.a, C.s.extract t.a t.z, (t.a : Nat), none, 0, []⟩ : Tr)
        have hBf := below_set5 hB4 hyl (⟨1, C.s.extract q t.a, C.s.extract t.a t.z, (t.a : Nat), none, 0, []⟩ : Tr)
        generalize set5 v4 v3.heap.size (⟨1, C.s.extract q t.a, C.s.extract t.a t.z, (t.a : Nat), none, 0, []⟩ : Tr) = wf at hyf hBf ⊢
        refine hK.out _ _ (⟨hm5.below hBf, (hBf.block x (Array.getElem?_eq_some_iff.1 hx5).1).trans hx5⟩) (fun _ => ?_)
        clear hK K
        try simp only [Act.put, List.setIfInBounds_toArray, List.set_cons_zero, List.set_cons_succ]
        refine wpAnyH_done (by kernel_rfl) ?_ _
        subst hLF
        exact REST.out v3.heap.size wf hBf hyl hyf
      · go_simp
        have hyz := heap_alloc_new v2 zb5
        have hyl : w5.heap.size ≤ v2.heap.size := hB2.size
        have hB5 := hB2.alloc hB2.size zb5
        generalize v2.alloc zb5 = v5 at hyz hB5 ⊢
        refine hK.out _ _ (⟨hm5.below hB5, (hB5.block x (Array.getElem?_eq_some_iff.1 hx5).1).trans hx5⟩) (fun _ => ?_)
        clear hK K
        try simp only [Act.put, List.setIfInBounds_toArray, List.set_cons_zero, List.set_cons_succ]
        refine wpAnyH_ready (rs := [17]) (by kernel_rfl) (by simp) ?_
        refine AllReadyH.cons rfl (fun K hK => ?_) AllReadyH.nil
        go_simp
        refine (token_any (C.s.extract q t.a) (C.s.extract t.a t.z) (t.a : Nat) v5).mono ?_
        rintro e v6 ⟨rfl, hb⟩
        have hB6 := hB5.trans (hb.mono hB5.size)
        replace hyz := (hb.block _ (Array.getElem?_eq_some_iff.1 hyz).1).trans hyz
        refine hK.out _ _ (⟨hm5.below hB6, (hB6.block x (Array.getElem?_eq_some_iff.1 hx5).1).trans hx5⟩) (fun _ => ?_)
        clear hK K
        try simp only [Act.put, List.setIfInBounds_toArray, List.set_cons_zero, List.set_cons_succ]
        refine wpAnyH_ready (rs := [19]) (by kernel_rfl) (by simp) ?_
        refine AllReadyH.cons rfl (fun K hK => ?_) AllReadyH.nil
        refine step_store_node (by rfl) 40 (.tmp 6) (.tmp 39) (by rfl) size_tnode v2.heap.size (⟨1, C.s.extract q t.a, C.s.extract t.a t.z, (t.a : Nat), none, 0, []⟩ : Tr) (by rfl) (by rfl) hyz ?_
        have hyf := set5_self hyz (⟨1, C.s.extract q t.a, C.s.extract t.a t.z, (t.a : Nat), none, 0, []⟩ : Tr)
        have hBf := below_set5 hB6 hyl (⟨1, C.s.extract q t.a, C.s.extract t.a t.z, (t.a : Nat), none, 0, []⟩ : Tr)
        generalize set5 v6 v2.heap.size (⟨1, C.s.extract q t.a, C.s.extract t.a t.z, (t.a : Nat), none, 0, []⟩ : Tr) = wf at hyf hBf ⊢
        refine hK.out _ _ (⟨hm5.below hBf, (hBf.block x (Array.getElem?_eq_some_iff.1 hx5).1).trans hx5⟩) (fun _ => ?_)
        clear hK K
        try simp only [Act.put, List.setIfInBounds_toArray, List.set_cons_zero, List.set_cons_succ]
        refine wpAnyH_done (by kernel_rfl) ?_ _
        subst hLF
        exact REST.out v2.heap.size wf hBf hyl hyf
    · go_simp
      have hyz := heap_alloc_new v1 zb5
      have hyl : w5.heap.size ≤ v1.heap.size := hB1.size
      have hB7 := hB1.alloc hB1.size zb5
      generalize v1.alloc zb5 = v7 at hyz hB7 ⊢
      refine hK.out _ _ (⟨hm5.below hB7, (hB7.block x (Array.getElem?_eq_some_iff.1 hx5).1).trans hx5⟩) (fun _ => ?_)
      clear hK K
      try simp only [Act.put, List.setIfInBounds_toArray, List.set_cons_zero, List.set_cons_succ]
      refine wpAnyH_ready (rs := [14]) (by kernel_rfl) (by simp) ?_
      refine AllReadyH.cons rfl (fun K hK => ?_) AllReadyH.nil
      go_simp
      refine (ttext_any C.s (toZ t) v7).mono ?_
      rintro e v8 ⟨rfl, hb⟩
      rw [HTX.out]
      have hB8 := hB7.trans (hb.mono hB7.size)
      replace hyz := (hb.block _ (Array.getElem?_eq_some_iff.1 hyz).1).trans hyz
      refine hK.out _ _ (⟨hm5.below hB8, (hB8.block x (Array.getElem?_eq_some_iff.1 hx5).1).trans hx5⟩) (fun _ => ?_)
      clear hK K
      try simp only [Act.put, List.setIfInBounds_toArray, List.set_cons_zero, List.set_cons_succ]
      refine wpAnyH_ready (rs := [17]) (by kernel_rfl) (by simp) ?_
      refine AllReadyH.cons rfl (fun K hK => ?_) AllReadyH.nil
      go_simp
      refine (token_any (C.s.extract q t.a) (C.s.extract t.a t.z) (t.a : Nat) v8).mono ?_
      rintro e v9 ⟨rfl, hb⟩
      have hB9 := hB8.trans (hb.mono hB8.size)
      replace hyz := (hb.block _ (Array.getElem?_eq_some_iff.1 hyz).1).trans hyz
      refine hK.out _ _ (⟨hm5.below hB9, (hB9.block x (Array.getElem?_eq_some_iff.1 hx5).1).trans hx5⟩) (fun _ => ?_)
      clear hK K
      try simp only [Act.put, List.setIfInBounds_toArray, List.set_cons_zero, List.set_cons_succ]
      refine wpAnyH_ready (rs := [19]) (by kernel_rfl) (by simp) ?_
      refine AllReadyH.cons rfl (fun K hK => ?_) AllReadyH.nil
      refine step_store_node (by rfl) 40 (.tmp 6) (.tmp 39) (by rfl) size_tnode v1.heap.size (⟨1, C.s.extract q t.a, C.s.extract t.a t.z, (t.a : Nat), none, 0, []⟩ : Tr) (by rfl) (by rfl) hyz ?_
      have hyf := set5_self hyz (⟨1, C.s.extract q t.a, C.s.extract t.a t.z, (t.a : Nat), none, 0, []⟩ : Tr)
      have hBf := below_set5 hB9 hyl (⟨1, C.s.extract q t.a, C.s.extract t.a t.z, (t.a : Nat), none, 0, []⟩ : Tr)
      generalize set5 v9 v1.heap.size (⟨1, C.s.extract q t.a, C.s.extract t.a t.z, (t.a : Nat), none, 0, []⟩ : Tr) = wf at hyf hBf ⊢
      refine hK.out _ _ (⟨hm5.below hBf, (hBf.block x (Array.getElem?_eq_some_iff.1 hx5).1).trans hx5⟩) (fun _ => ?_)
      clear hK K
      try simp only [Act.put, List.setIfInBounds_toArray, List.set_cons_zero, List.set_cons_succ]
      refine wpAnyH_done (by kernel_rfl) ?_ _
      subst hLF
      exact REST.out v1.heap.size wf hBf hyl hyf
  · go_simp
    have hyz := heap_alloc_new w5 zb5
    have hyl : w5.heap.size ≤ w5.heap.size := hB0.size
    have hB10 := hB0.alloc hB0.size zb5
    generalize w5.alloc zb5 = v10 at hyz hB10 ⊢
    refine hK.out _ _ (⟨hm5.below hB10, (hB10.block x (Array.getElem?_eq_some_iff.1 hx5).1).trans hx5⟩) (fun _ => ?_)
    clear hK K
    try simp only [Act.put, List.setIfInBounds_toArray, List.set_cons_zero, List.set_cons_succ]
    refine wpAnyH_ready (rs := [5]) (by kernel_rfl) (by simp) ?_
    refine AllReadyH.cons rfl (fun K hK => ?_) AllReadyH.nil
    go_simp
    refine (HBE.out v10 (hm5.below hB10)).mono ?_
    rintro e v11 ⟨rfl, hb⟩
    have hB11 := hB10.trans (hb.mono hB10.size)
    replace hyz := (hb.block _ (Array.getElem?_eq_some_iff.1 hyz).1).trans hyz
    refine hK.out _ _ (⟨hm5.below hB11, (hB11.block x (Array.getElem?_eq_some_iff.1 hx5).1).trans hx5⟩) (fun _ => ?_)
    clear hK K
    try simp only [Act.put, List.setIfInBounds_toArray, List.set_cons_zero, List.set_cons_succ]
    refine wpAnyH_take_d (i := 8) (v := .string (C.s.extract q t.a)) 30 rfl rfl (by kernel_rfl) (by kernel_rfl) (by kernel_rfl) (fun _ _ _ h => h) (Or.inl ⟨by kernel_rfl, fun w' hS' => ?y8⟩) (⟨hm5.below hB11, (hB11.block x (Array.getElem?_eq_some_iff.1 hx5).1).trans hx5⟩) ?_
    case y8 => (clear hS'; go_simp)
    simp only [Act.put, List.setIfInBounds_toArray, List.set_cons_zero, List.set_cons_succ]
    refine wpAnyH_ready (rs := [14]) (by kernel_rfl) (by simp) ?_
    refine AllReadyH.cons rfl (fun K hK => ?_) AllReadyH.nil
    go_simp
    refine (ttext_any C.s (toZ t) v11).mono ?_
    rintro e v12 ⟨rfl, hb⟩
    rw [HTX.out]
    have hB12 := hB11.trans (hb.mono hB11.size)
    replace hyz := (hb.block _ (Array.getElem?_eq_some_iff.1 hyz).1).trans hyz
    refine hK.out _ _ (⟨hm5.below hB12, (hB12.block x (Array.getElem?_eq_some_iff.1 hx5).1).trans hx5⟩) (fun _ => ?_)
    clear hK K
    try simp only [Act.put, List.setIfInBounds_toArray, List.set_cons_zero, List.set_cons_succ]
    refine wpAnyH_ready (rs := [17]) (by kernel_rfl) (by simp) ?_
    refine AllReadyH.cons rfl (fun K hK => ?_) AllReadyH.nil
    go_simp
    refine (token_any (C.s.extract q t.a) (C.s.extract t.a t.z) (t.a : Nat) v12).mono ?_
    rintro e v13 ⟨rfl, hb⟩
    have hB13 := hB12.trans (hb.mono hB12.size)
    replace hyz := (hb.block _ (Array.getElem?_eq_some_iff.1 hyz).1).trans hyz
    refine hK.out _ _ (⟨hm5.below hB13, (hB13.block x (Array.getElem?_eq_some_iff.1 hx5).1).trans hx5⟩) (fun _ => ?_)
    clear hK K
    try simp only [Act.put, List.setIfInBounds_toArray, List.set_cons_zero, List.set_cons_succ]
    refine wpAnyH_ready (rs := [19]) (by kernel_rfl) (by simp) ?_
    refine AllReadyH.cons rfl (fun K hK => ?_) AllReadyH.nil
    refine step_store_node (by rfl) 40 (.tmp 6) (.tmp 39) (by rfl) size_tnode w5.heap.size (⟨1, C.s.extract q t.a, C.s.extract t.a t.z, (t.a : Nat), none, 0, []⟩ : Tr) (by rfl) (by rfl) hyz ?_
    have hyf := set5_self hyz (⟨1, C.s.extract q t.a, C.s.extract t.a t.z, (t.a : Nat), none, 0, []⟩ : Tr)
    have hBf := below_set5 hB13 hyl (⟨1, C.s.extract q t.a, C.s.extract t.a t.z, (t.a : Nat), none, 0, []⟩ : Tr)
    generalize set5 v13 w5.heap.size (⟨1, C.s.extract q t.a, C.s.extract t.a t.z, (t.a : Nat), none, 0, []⟩ : Tr) = wf at hyf hBf ⊢
    refine hK.out _ _ (⟨hm5.below hBf, (hBf.block x (Array.getElem?_eq_some_iff.1 hx5).1).trans hx5⟩) (fun _ => ?_)
    clear hK K
    try simp only [Act.put, List.setIfInBounds_toArray, List.set_cons_zero, List.set_cons_succ]
    refine wpAnyH_done (by kernel_rfl) ?_ _
    subst hLF
    exact REST.out w5.heap.size wf hBf hyl hyf
end
end Go.Proofs.YtjnclchbklehgaaGreatDoor

namespace Go.Proofs.YtjnclchbklehgaaGreatDoor
open Go.RowKit SignMath TreeMath

/-- is the next token of that kind? -/
def Cu.anyb (C : Cu) (k : Int) : Bool := match C.nxt 0 with
  | some t => decide (((t.k : Nat) : Int) = k)
  | none => false
theorem Cu.isb_some {C : Cu} {s : ByteArray} (h : C.isb 0 s = true) : ∃ t, C.nxt 0 = some t := by
  cases hx : C.nxt 0 with
  | some t => exact ⟨t, rfl⟩
  | none =>
    unfold Cu.isb Cu.pk at h
    rw [if_neg (by omega)] at h
    simp [hx] at h

section
variable {b : Nat} {A : Option Addr} {c : Nat} {C : Cu} {W : World}

set_option maxRecDepth 100000 in
set_option maxHeartbeats 4000000 in
theorem any_any (k : Int) (h : CuM b A c C W) (hk : C.Ok) : Calls Tryz.prog 12 #[.pointer (some ⟨b, 0, none⟩), .int .i64 k] W (CuV b A c (C.take (C.anyb k)).1 W fun e => e = .returned (nv (C.take (C.anyb k)).2)) := by
  have h0 := h.below (below1 W zb5)
  have HP := Lib.hid (peek_any 0 ⟨by omega, by omega⟩ h0 hk)
  have HL : Hid (∀ w1, Below (W.alloc zb5).heap.size (W.alloc zb5) w1 → Calls Tryz.prog 35 #[.pointer (some ⟨b, 0, none⟩)] w1 (Rd w1 (.int .i64 (C.left : Nat)))) := Lib.hid fun w1 hb => left_any (h0.below hb) hk
  have HN : Hid (∀ w1, Below (W.alloc zb5).heap.size (W.alloc zb5) w1 → Calls Tryz.prog 44 #[.pointer (some ⟨b, 0, none⟩), .bool false] w1 (CuV b A c (C.fail 2) w1 fun e => e = .returned (nv zn1))) := Lib.hid fun w1 hb => takeIf_no (h0.below hb) hk
  have HY : Hid (∀ t, C.nxt 0 = some t → ∀ w1, Below (W.alloc zb5).heap.size (W.alloc zb5) w1 → Calls Tryz.prog 44 #[.pointer (some ⟨b, 0, none⟩), .bool true] w1 (CuV b A c { C with n := C.n + 1 } w1 fun e => e = .returned (nv (C.leaf t)))) := Lib.hid fun t ht w1 hb => takeIf_yes ht (h0.below hb) hk
  have HM := Lib.hid h
  have hnn := hk.n
  unfold Rd at HP HL
  unfold Cu.pk at HP
  rw [if_neg (by omega)] at HP
  unfold Cu.anyb
  cases hx : C.nxt 0 with
  | none =>
    have hl : C.left = 0 := by have := Cu.nxt_none hx hnn; omega
    rw [Int.toNat_zero, hx] at HP
    rw [hl] at HL
    simp only [Cu.take_false]
    clear h hk h0 hx hl HY hnn
    go_enter Tryz.func12, Tryz.ntmps12
    go_wp2_with fail
    refine HP.out.mono ?_
    rintro e w1 ⟨rfl, hb1⟩
    have HB1 := Lib.hid hb1
    clear hb1
    go_wp2_with fail
    refine (HL.out w1 HB1.out).mono ?_
    rintro e w2 ⟨rfl, hb2⟩
    have HB2 := Lib.hid (HB1.out.trans (hb2.mono HB1.out.size))
    clear hb2
    go_wp2_with fail
    refine (HN.out w2 HB2.out).mono ?_
    intro e w3 hv
    have hv' : CuV b A c (C.fail 2) (W.alloc zb5) (fun e => e = .returned (nv zn1)) e w3 := ⟨hv.1, hv.2.1, (of_below HB2.out).trans hv.2.2⟩
    obtain ⟨hz, hm, ho, hs⟩ := res_set HM.out (C.fail_L 2) hv' zn1
    obtain ⟨rfl, -, -⟩ := hv
    have HH := Lib.hid (And.intro hm ho)
    clear hm ho hv'
    go_wp2_with (refine wpList_store_node (by rfl) 40 (.tmp 4) (.tmp 21) (by rfl) size_tnode W.heap.size zn1 (by rfl) (by rfl) hz ?_; generalize set5 w3 W.heap.size zn1 = w4 at hs HH ⊢)
    have g0 := cell_heap hs (i := 0)
    have g1 := cell_heap hs (i := 1)
    have g2 := cell_heap hs (i := 2)
    have g3 := cell_heap hs (i := 3)
    have g4 := cell_heap hs (i := 4)
    simp only [List.getElem?_toArray, List.getElem?_cons_zero, List.getElem?_cons_succ] at g0 g1 g2 g3 g4
    refine bodyPost_ret (v := nv zn1) (by simp [results, Tryz.results12, go_sem, g0, g1, g2, g3, g4]) rfl ⟨rfl, HH.out⟩
  | some t =>
    have hl := Cu.nxt_left hx
    have z1 : (0 : Int) < (C.left : Nat) := by omega
    rw [Int.toNat_zero, hx] at HP
    generalize C.left = q at HL z1
    simp only
    by_cases hkk : ((t.k : Nat) : Int) = k
    · subst hkk
      simp only [decide_true, Cu.take_true hx]
      have HT := Lib.hid (HY.out t hx)
      clear h hk h0 hl hnn HN HY hx
      go_enter Tryz.func12, Tryz.ntmps12
      go_wp2_with fail
      refine HP.out.mono ?_
      rintro e w1 ⟨rfl, hb1⟩
      have HB1 := Lib.hid hb1
      clear hb1
      go_wp2_with fail
      refine (HL.out w1 HB1.out).mono ?_
      rintro e w2 ⟨rfl, hb2⟩
      have HB2 := Lib.hid (HB1.out.trans (hb2.mono HB1.out.size))
      have hbe : (((t.k : Nat) : Int) == ((t.k : Nat) : Int)) = true := by simp
      clear hb2
      go_wp2_with fail
      refine (HT.out w2 HB2.out).mono ?_
      intro e w3 hv
      have hv' : CuV b A c { C with n := C.n + 1 } (W.alloc zb5) (fun e => e = .returned (nv (C.leaf t))) e w3 := ⟨hv.1, hv.2.1, (of_below HB2.out).trans hv.2.2⟩
      obtain ⟨hz, hm, ho, hs⟩ := res_set HM.out (C' := { C with n := C.n + 1 }) rfl hv' (C.leaf t)
      obtain ⟨rfl, -, -⟩ := hv
      have HH := Lib.hid (And.intro hm ho)
      generalize hLF : C.leaf t = LF at hs HH ⊢
      clear hm ho hv'
      go_wp2_with (refine wpList_store_node (by rfl) 40 (.tmp 4) (.tmp 21) (by rfl) size_tnode W.heap.size LF (by rfl) (by rfl) hz ?_; generalize set5 w3 W.heap.size LF = w4 at hs HH ⊢)
      have g0 := cell_heap hs (i := 0)
      have g1 := cell_heap hs (i := 1)
      have g2 := cell_heap hs (i := 2)
      have g3 := cell_heap hs (i := 3)
      have g4 := cell_heap hs (i := 4)
      simp only [List.getElem?_toArray, List.getElem?_cons_zero, List.getElem?_cons_succ] at g0 g1 g2 g3 g4
      refine bodyPost_ret (v := nv LF) (by simp [results, Tryz.results12, go_sem, g0, g1, g2, g3, g4]) rfl ⟨by show Ending.returned _ = Ending.returned _; rw [hLF], HH.out⟩
    · rw [decide_eq_false hkk]
      simp only [Cu.take_false]
      have hbe : (((t.k : Nat) : Int) == k) = false := by rw [beq_eq_false_iff_ne]; exact hkk
      clear h hk h0 hl hnn HY hx hkk
      go_enter Tryz.func12, Tryz.ntmps12
      go_wp2_with fail
      refine HP.out.mono ?_
      rintro e w1 ⟨rfl, hb1⟩
      have HB1 := Lib.hid hb1
      clear hb1
      go_wp2_with fail
      refine (HL.out w1 HB1.out).mono ?_
      rintro e w2 ⟨rfl, hb2⟩
      have HB2 := Lib.hid (HB1.out.trans (hb2.mono HB1.out.size))
      clear hb2
      go_wp2_with fail
      refine (HN.out w2 HB2.out).mono ?_
      intro e w3 hv
      have hv' : CuV b A c (C.fail 2) (W.alloc zb5) (fun e => e = .returned (nv zn1)) e w3 := ⟨hv.1, hv.2.1, (of_below HB2.out).trans hv.2.2⟩
      obtain ⟨hz, hm, ho, hs⟩ := res_set HM.out (C.fail_L 2) hv' zn1
      obtain ⟨rfl, -, -⟩ := hv
      have HH := Lib.hid (And.intro hm ho)
      clear hm ho hv'
      go_wp2_with (refine wpList_store_node (by rfl) 40 (.tmp 4) (.tmp 21) (by rfl) size_tnode W.heap.size zn1 (by rfl) (by rfl) hz ?_; generalize set5 w3 W.heap.size zn1 = w4 at hs HH ⊢)
      have g0 := cell_heap hs (i := 0)
      have g1 := cell_heap hs (i := 1)
      have g2 := cell_heap hs (i := 2)
      have g3 := cell_heap hs (i := 3)
      have g4 := cell_heap hs (i := 4)
      simp only [List.getElem?_toArray, List.getElem?_cons_zero, List.getElem?_cons_succ] at g0 g1 g2 g3 g4
      refine bodyPost_ret (v := nv zn1) (by simp [results, Tryz.results12, go_sem, g0, g1, g2, g3, g4]) rfl ⟨rfl, HH.out⟩

set_option maxRecDepth 100000 in
set_option maxHeartbeats 4000000 in
theorem want_any (s : ByteArray) (h : CuM b A c C W) (hk : C.Ok) : Calls Tryz.prog 15 #[.pointer (some ⟨b, 0, none⟩), .string s] W (CuV b A c (C.take (C.isb 0 s)).1 W fun e => e = .returned (nv (C.take (C.isb 0 s)).2)) := by
  have h0 := h.below (below1 W zb5)
  have HI := Lib.hid (is_any 0 s ⟨by omega, by omega⟩ h0 hk)
  have HM := Lib.hid h
  unfold Rd at HI
  cases hq : C.isb 0 s with
  | false =>
    rw [hq] at HI
    have HN : Hid (∀ w1, Below (W.alloc zb5).heap.size (W.alloc zb5) w1 → Calls Tryz.prog 44 #[.pointer (some ⟨b, 0, none⟩), .bool false] w1 (CuV b A c (C.fail 2) w1 fun e => e = .returned (nv zn1))) := Lib.hid fun w1 hb => takeIf_no (h0.below hb) hk
    simp only [Cu.take_false]
    clear h hk h0 hq
    go_enter Tryz.func15, Tryz.ntmps15
    go_wp2_with fail
    refine HI.out.mono ?_
    rintro e w2 ⟨rfl, hb2⟩
    have HB2 := Lib.hid hb2
    clear hb2
    go_wp2_with fail
    refine (HN.out w2 HB2.out).mono ?_
    intro e w3 hv
    have hv' : CuV b A c (C.fail 2) (W.alloc zb5) (fun e => e = .returned (nv zn1)) e w3 := ⟨hv.1, hv.2.1, (of_below HB2.out).trans hv.2.2⟩
    obtain ⟨hz, hm, ho, hs⟩ := res_set HM.out (C.fail_L 2) hv' zn1
    obtain ⟨rfl, -, -⟩ := hv
    have HH := Lib.hid (And.intro hm ho)
    clear hm ho hv'
    go_wp2_with (refine wpList_store_node (by rfl) 40 (.tmp 4) (.tmp 9) (by rfl) size_tnode W.heap.size zn1 (by rfl) (by rfl) hz ?_; generalize set5 w3 W.heap.size zn1 = w4 at hs HH ⊢)
    have g0 := cell_heap hs (i := 0)
    have g1 := cell_heap hs (i := 1)
    have g2 := cell_heap hs (i := 2)
    have g3 := cell_heap hs (i := 3)
    have g4 := cell_heap hs (i := 4)
    simp only [List.getElem?_toArray, List.getElem?_cons_zero, List.getElem?_cons_succ] at g0 g1 g2 g3 g4
    refine bodyPost_ret (v := nv zn1) (by simp [results, Tryz.results15, go_sem, g0, g1, g2, g3, g4]) rfl ⟨rfl, HH.out⟩
  | true =>
    rw [hq] at HI
    obtain ⟨t, ht⟩ := Cu.isb_some hq
    have HY : Hid (∀ w1, Below (W.alloc zb5).heap.size (W.alloc zb5) w1 → Calls Tryz.prog 44 #[.pointer (some ⟨b, 0, none⟩), .bool true] w1 (CuV b A c { C with n := C.n + 1 } w1 fun e => e = .returned (nv (C.leaf t)))) := Lib.hid fun w1 hb => takeIf_yes ht (h0.below hb) hk
    simp only [Cu.take_true ht]
    clear h hk h0 hq ht
    go_enter Tryz.func15, Tryz.ntmps15
    go_wp2_with fail
    refine HI.out.mono ?_
    rintro e w2 ⟨rfl, hb2⟩
    have HB2 := Lib.hid hb2
    clear hb2
    go_wp2_with fail
    refine (HY.out w2 HB2.out).mono ?_
    intro e w3 hv
    have hv' : CuV b A c { C with n := C.n + 1 } (W.alloc zb5) (fun e => e = .returned (nv (C.leaf t))) e w3 := ⟨hv.1, hv.2.1, (of_below HB2.out).trans hv.2.2⟩
    obtain ⟨hz, hm, ho, hs⟩ := res_set HM.out (C' := { C with n := C.n + 1 }) rfl hv' (C.leaf t)
    obtain ⟨rfl, -, -⟩ := hv
    have HH := Lib.hid (And.intro hm ho)
    generalize hLF : C.leaf t = LF at hs HH ⊢
    clear hm ho hv'
    go_wp2_with (refine wpList_store_node (by rfl) 40 (.tmp 4) (.tmp 9) (by rfl) size_tnode W.heap.size LF (by rfl) (by rfl) hz ?_; generalize set5 w3 W.heap.size LF = w4 at hs HH ⊢)
    have g0 := cell_heap hs (i := 0)
    have g1 := cell_heap hs (i := 1)
    have g2 := cell_heap hs (i := 2)
    have g3 := cell_heap hs (i := 3)
    have g4 := cell_heap hs (i := 4)
    simp only [List.getElem?_toArray, List.getElem?_cons_zero, List.getElem?_cons_succ] at g0 g1 g2 g3 g4
    refine bodyPost_ret (v := nv LF) (by simp [results, Tryz.results15, go_sem, g0, g1, g2, g3, g4]) rfl ⟨by show Ending.returned _ = Ending.returned _; rw [hLF], HH.out⟩
end
end Go.Proofs.YtjnclchbklehgaaGreatDoor

namespace Go.Proofs.YtjnclchbklehgaaGreatDoor
open Go.RowKit SignMath TreeMath

theorem ch_pair {n : Nat} : ∀ {L : List Tk} {a : Nat}, Ch n a L → L.Pairwise (fun x y => x.z ≤ y.a) ∧ ∀ x ∈ L, a ≤ x.a
  | [], _, _ => ⟨List.Pairwise.nil, fun _ h => by cases h⟩
  | t :: r, a, h => by
    obtain ⟨h1, h2, h3, h4⟩ := h
    obtain ⟨p, q⟩ := ch_pair h4
    refine ⟨List.pairwise_cons.2 ⟨q, p⟩, fun x hx => ?_⟩
    rcases List.mem_cons.1 hx with rfl | hx
    · omega
    · have := q x hx; omega

/-- the cursor ahead of a text's first token -/
def cu0 (s : ByteArray) : Cu := ⟨s, rls (tk (bs s) 0), 0, 0, 0, 0⟩
theorem cu0_ok (s : ByteArray) (hs : s.size ≤ 4000) : (cu0 s).Ok := by
  have hch := tk_chain (bs s) _ 0 (Nat.le_refl _) (Nat.zero_le _)
  rw [bs_size] at hch
  have hb := chain_bound hch
  have hp := (ch_pair hch).1.filter (fun t => decide (2 < t.k))
  have hl := tk_size s
  have hr := rls_len (tk (bs s) 0)
  refine ⟨Nat.zero_le _, hs, ?_, fun t ht => hb t (List.mem_filter.1 ht).1, fun i x y hx hy => ?_, Nat.zero_le _, ⟨Int.le_refl _, by show (0 : Int) ≤ 15; omega⟩, ⟨Int.le_refl _, by show (0 : Int) ≤ 4000; omega⟩⟩
  · show (rls (tk (bs s) 0)).length ≤ 4000
    omega
  · obtain ⟨hi, rfl⟩ := List.getElem?_eq_some_iff.1 hx
    obtain ⟨hj, rfl⟩ := List.getElem?_eq_some_iff.1 hy
    exact List.pairwise_iff_getElem.1 hp i (i + 1) hi hj (by omega)

/-- what New answers -/
def NewV (s : ByteArray) (w : World) (e : Ending) (w' : World) : Prop :=
  if 4000 < s.size then e = .returned (.tuple #[.pointer none, .int .i64 4000, errn 4]) ∧ Below w.heap.size w w'
  else match bad (tk (bs s) 0) with
    | some t => e = .returned (.tuple #[.pointer none, .int .i64 (t.a : Nat), errn 2]) ∧ Below w.heap.size w w'
    | none => ∃ b A c, e = .returned (.tuple #[.pointer (some ⟨b, 0, none⟩), .int .i64 0, .nilIface]) ∧ w.heap.size ≤ b ∧ CuM b A c (cu0 s) w' ∧ Below w.heap.size w w'

set_option maxRecDepth 100000 in
set_option maxHeartbeats 2000000 in
theorem new_any (s : ByteArray) (w : World) (hL : LaidX w) : Calls Tryz.prog 9 #[.string s] w (NewV s w) := by
  unfold NewV
  by_cases hs : 4000 < s.size
  · simp only [if_pos hs]
    have z1 : (4000 : Int) < (s.size : Nat) := by omega
    clear hs hL
    go_enter Tryz.func9, Tryz.ntmps9
    go_wp2
    refine bodyPost_ret (v := .tuple #[.pointer none, .int .i64 4000, errn 4]) (by simp [results, Tryz.results9, go_sem]) rfl ⟨rfl, Below.refl _ _⟩
  · simp only [if_neg hs]
    have z1 : ¬ (4000 : Int) < (s.size : Nat) := by omega
    have HR := Lib.hid (real_any s (by omega) w hL)
    unfold RlV rlT rlA rlE at HR
    unfold cu0
    cases hbd : bad (tk (bs s) 0) with
    | some t =>
      simp only [hbd] at HR ⊢
      clear hs hL hbd
      go_enter Tryz.func9, Tryz.ntmps9
      go_wp2_with fail
      refine HR.out.mono ?_
      rintro e w1 ⟨A, c, rfl, -, -, hb⟩
      go_wp2
      refine bodyPost_ret (v := .tuple #[.pointer none, .int .i64 (t.a : Nat), errn 2]) (by simp [results, Tryz.results9, go_sem]) rfl ⟨rfl, hb⟩
    | none =>
      simp only [hbd] at HR ⊢
      generalize rls (tk (bs s) 0) = L at HR ⊢
      clear hs hL hbd
      go_enter Tryz.func9, Tryz.ntmps9
      go_wp2_with fail
      refine HR.out.mono ?_
      rintro e w1 ⟨A, c, rfl, hr, hA, hb⟩
      have hal := heap_alloc_new w1 (cubx ⟨s, L, 0, 0, 0, 0⟩ A c)
      have hr2 := hr.after (below1 w1 (cubx ⟨s, L, 0, 0, 0, 0⟩ A c))
      have hne : 0 < (tcells L).length → ∀ a, A = some a → a.block ≠ w1.heap.size := fun hn a ha => by
        obtain ⟨g, off, e, hg, -⟩ := hr hn
        rw [ha] at e; injection e with e; rw [e]; show g ≠ _; omega
      have HH := Lib.hid (show CuM w1.heap.size A c ⟨s, L, 0, 0, 0, 0⟩ (w1.alloc (cubx ⟨s, L, 0, 0, 0, 0⟩ A c)) from ⟨hal, hr2, hne⟩)
      have HB := Lib.hid (And.intro hb.size (hb.trans ((below1 w1 (cubx ⟨s, L, 0, 0, 0, 0⟩ A c)).mono hb.size)))
      clear hal hr2 hne hr hA hb
      go_wp2
      refine bodyPost_ret (v := .tuple #[.pointer (some ⟨w1.heap.size, 0, none⟩), .int .i64 0, .nilIface]) (by simp [results, Tryz.results9, go_sem]) rfl ⟨w1.heap.size, A, c, rfl, HB.out.1, HH.out, HB.out.2⟩
end Go.Proofs.YtjnclchbklehgaaGreatDoor

namespace Go.Proofs.YtjnclchbklehgaaGreatDoor
open Go.RowKit SignMath TreeMath

variable (W : World)
theorem deep_nil : Calls Tryz.prog 36 #[.pointer none] W (Rd W (.int .i64 0)) := by
  go_enter Tryz.func36, Tryz.ntmps36
  go_wp2
  go_ret
  exact ⟨rfl, Below.refl _ _⟩
theorem at_nil : Calls Tryz.prog 50 #[.pointer none] W (Rd W (.int .i64 0)) := by
  go_enter Tryz.func50, Tryz.ntmps50
  go_wp2
  go_ret
  exact ⟨rfl, Below.refl _ _⟩
theorem end_nil : Calls Tryz.prog 52 #[.pointer none] W (Rd W (.string ⟨#[]⟩)) := by
  go_enter Tryz.func52, Tryz.ntmps52
  go_wp2
  go_ret
  exact ⟨rfl, Below.refl _ _⟩
theorem down_nil : Calls Tryz.prog 17 #[.pointer none] W (Rd W (.bool false)) := by
  go_enter Tryz.func17, Tryz.ntmps17
  go_wp2
  go_ret
  exact ⟨rfl, Below.refl _ _⟩
theorem failed_nil : Calls Tryz.prog 34 #[.pointer none] W (Rd W (.tuple #[.int .i64 0, errn 2])) := by
  go_enter Tryz.func34, Tryz.ntmps34
  go_wp2
  refine bodyPost_ret (v := .tuple #[.int .i64 0, errn 2]) (by simp [results, Tryz.results34, go_sem]) rfl ⟨rfl, Below.refl _ _⟩
theorem up_nil : Calls Tryz.prog 19 #[.pointer none] W fun e w' => (∃ v, e = .returned v) ∧ Below W.heap.size W w' := by
  go_enter Tryz.func19, Tryz.ntmps19
  go_wp2
  refine bodyPost_end (results_none rfl _ _ _) rfl ?_
  exact ⟨⟨_, rfl⟩, Below.refl _ _⟩
theorem fail_nil (n : Int) : Calls Tryz.prog 21 #[.pointer none, .int .i64 n] W fun e w' => (∃ v, e = .returned v) ∧ Below W.heap.size W w' := by
  go_enter Tryz.func21, Tryz.ntmps21
  go_wp2
  refine bodyPost_ret (results_none rfl _ _ _) rfl ?_
  exact ⟨⟨_, rfl⟩, Below.refl _ _⟩
theorem peek_nil : Calls Tryz.prog 29 #[.pointer none, .int .i64 0] W (Rd W (.tuple #[.int .i64 0, .string ⟨#[]⟩])) := by
  have HL := Lib.hid (left_nil W)
  unfold Rd at HL
  go_enter Tryz.func29, Tryz.ntmps29
  go_wp2_with fail
  refine HL.out.mono ?_
  rintro e w1 ⟨rfl, hb⟩
  go_wp2
  refine bodyPost_ret (v := .tuple #[.int .i64 0, .string ⟨#[]⟩]) (by simp [results, Tryz.results29, go_sem]) rfl ⟨rfl, hb⟩
theorem is_nil (s : ByteArray) : Calls Tryz.prog 48 #[.pointer none, .int .i64 0, .string s] W (Rd W (.bool false)) := by
  have HP := Lib.hid (peek_nil W)
  unfold Rd at HP
  go_enter Tryz.func48, Tryz.ntmps48
  go_wp2_with fail
  refine HP.out.mono ?_
  rintro e w1 ⟨rfl, hb⟩
  go_wp2
  go_ret
  exact ⟨rfl, hb⟩
set_option maxRecDepth 100000 in
set_option maxHeartbeats 2000000 in
theorem takeIf_nil : Calls Tryz.prog 44 #[.pointer none, .bool false] W fun e w' => e = .returned (nv zn1) ∧ Below W.heap.size W w' := by
  have HF := Lib.hid (fail_nil (W.alloc zb5) 2)
  go_enter Tryz.func44, Tryz.ntmps44
  go_wp2_with fail
  refine HF.out.mono ?_
  rintro e w1 ⟨⟨v, rfl⟩, hb⟩
  have hz := (hb.block W.heap.size (by simp)).trans (heap_alloc_new W zb5)
  have hs := set5_self hz zn1
  have hB := below_set5 ((below1 W zb5).trans (hb.mono (by simp))) (Nat.le_refl _) zn1
  have HH := Lib.hid hB
  clear hb hB
  go_wp2_with (refine wpList_store_node (by rfl) 40 (.tmp 4) (.tmp 11) (by rfl) size_tnode W.heap.size zn1 (by rfl) (by rfl) hz ?_; generalize set5 w1 W.heap.size zn1 = w2 at hs HH ⊢)
  have g0 := cell_heap hs (i := 0)
  have g1 := cell_heap hs (i := 1)
  have g2 := cell_heap hs (i := 2)
  have g3 := cell_heap hs (i := 3)
  have g4 := cell_heap hs (i := 4)
  simp only [List.getElem?_toArray, List.getElem?_cons_zero, List.getElem?_cons_succ] at g0 g1 g2 g3 g4
  refine bodyPost_ret (v := nv zn1) (by simp [results, Tryz.results44, go_sem, g0, g1, g2, g3, g4]) rfl ⟨rfl, HH.out⟩
set_option maxRecDepth 100000 in
set_option maxHeartbeats 2000000 in
theorem any_nil (k : Int) : Calls Tryz.prog 12 #[.pointer none, .int .i64 k] W fun e w' => e = .returned (nv zn1) ∧ Below W.heap.size W w' := by
  have HP := Lib.hid (peek_nil (W.alloc zb5))
  unfold Rd at HP
  go_enter Tryz.func12, Tryz.ntmps12
  go_wp2_with fail
  refine HP.out.mono ?_
  rintro e w1 ⟨rfl, hb1⟩
  have HB1 := Lib.hid hb1
  have HL := Lib.hid (left_nil w1)
  unfold Rd at HL
  clear hb1
  go_wp2_with fail
  refine HL.out.mono ?_
  rintro e w2 ⟨rfl, hb2⟩
  have HB2 := Lib.hid (HB1.out.trans (hb2.mono HB1.out.size))
  have HT := Lib.hid (takeIf_nil w2)
  clear hb2
  go_wp2_with fail
  refine HT.out.mono ?_
  rintro e w3 ⟨rfl, hb3⟩
  have hb := HB2.out.trans (hb3.mono HB2.out.size)
  have hz := (hb.block W.heap.size (by simp)).trans (heap_alloc_new W zb5)
  have hs := set5_self hz zn1
  have hB := below_set5 ((below1 W zb5).trans (hb.mono (by simp))) (Nat.le_refl _) zn1
  have HH := Lib.hid hB
  clear hb hB hb3
  go_wp2_with (refine wpList_store_node (by rfl) 40 (.tmp 4) (.tmp 21) (by rfl) size_tnode W.heap.size zn1 (by rfl) (by rfl) hz ?_; generalize set5 w3 W.heap.size zn1 = w4 at hs HH ⊢)
  have g0 := cell_heap hs (i := 0)
  have g1 := cell_heap hs (i := 1)
  have g2 := cell_heap hs (i := 2)
  have g3 := cell_heap hs (i := 3)
  have g4 := cell_heap hs (i := 4)
  simp only [List.getElem?_toArray, List.getElem?_cons_zero, List.getElem?_cons_succ] at g0 g1 g2 g3 g4
  refine bodyPost_ret (v := nv zn1) (by simp [results, Tryz.results12, go_sem, g0, g1, g2, g3, g4]) rfl ⟨rfl, HH.out⟩
set_option maxRecDepth 100000 in
set_option maxHeartbeats 2000000 in
theorem want_nil (s : ByteArray) : Calls Tryz.prog 15 #[.pointer none, .string s] W fun e w' => e = .returned (nv zn1) ∧ Below W.heap.size W w' := by
  have HP := Lib.hid (is_nil (W.alloc zb5) s)
  unfold Rd at HP
  go_enter Tryz.func15, Tryz.ntmps15
  go_wp2_with fail
  refine HP.out.mono ?_
  rintro e w2 ⟨rfl, hb1⟩
  have HB2 := Lib.hid hb1
  have HT := Lib.hid (takeIf_nil w2)
  clear hb1
  go_wp2_with fail
  refine HT.out.mono ?_
  rintro e w3 ⟨rfl, hb3⟩
  have hb := HB2.out.trans (hb3.mono HB2.out.size)
  have hz := (hb.block W.heap.size (by simp)).trans (heap_alloc_new W zb5)
  have hs := set5_self hz zn1
  have hB := below_set5 ((below1 W zb5).trans (hb.mono (by simp))) (Nat.le_refl _) zn1
  have HH := Lib.hid hB
  clear hb hB hb3
  go_wp2_with (refine wpList_store_node (by rfl) 40 (.tmp 4) (.tmp 9) (by rfl) size_tnode W.heap.size zn1 (by rfl) (by rfl) hz ?_; generalize set5 w3 W.heap.size zn1 = w4 at hs HH ⊢)
  have g0 := cell_heap hs (i := 0)
  have g1 := cell_heap hs (i := 1)
  have g2 := cell_heap hs (i := 2)
  have g3 := cell_heap hs (i := 3)
  have g4 := cell_heap hs (i := 4)
  simp only [List.getElem?_toArray, List.getElem?_cons_zero, List.getElem?_cons_succ] at g0 g1 g2 g3 g4
  refine bodyPost_ret (v := nv zn1) (by simp [results, Tryz.results15, go_sem, g0, g1, g2, g3, g4]) rfl ⟨rfl, HH.out⟩
end Go.Proofs.YtjnclchbklehgaaGreatDoor

namespace Go.Proofs.YtjnclchbklehgaaGreatDoor
open Go.RowKit SignMath TreeMath

theorem of_low {n b : Nat} {W W' : World} (h : Of b W W') (hn : n ≤ b) (hs : n ≤ W.heap.size) : Below n W W' :=
  ⟨h.os, h.tape, h.output, h.size, fun k hk => h.block k (by omega) (by show ¬ k = b; omega)⟩

def ca0 : Cu := ⟨⟨#[97, 32, 61, 32, 49]⟩, [⟨4, 0, 1⟩, ⟨6, 2, 3⟩, ⟨5, 4, 5⟩], 0, 0, 0, 0⟩
def xa1 : Tr := ⟨1, ⟨#[]⟩, ⟨#[97]⟩, 0, none, 0, []⟩
def xa2 : Tr := ⟨1, ⟨#[32]⟩, ⟨#[61]⟩, 2, none, 0, []⟩
def xa3 : Tr := ⟨1, ⟨#[32]⟩, ⟨#[49]⟩, 4, none, 0, []⟩
theorem ca0_toks : tk [97, 32, 61, 32, 49] 0 = [⟨4, 0, 1⟩, ⟨1, 1, 2⟩, ⟨6, 2, 3⟩, ⟨1, 3, 4⟩, ⟨5, 4, 5⟩] := by decide +kernel
theorem ca0_is : cu0 ⟨#[97, 32, 61, 32, 49]⟩ = ca0 := by
  unfold cu0
  rw [show tk (bs ⟨#[97, 32, 61, 32, 49]⟩) 0 = _ from ca0_toks]
  rfl
theorem ca1_is : ca0.take (ca0.anyb 4) = ({ ca0 with n := 1 }, xa1) := by kernel_rfl
theorem ca2_is : ({ ca0 with n := 1 } : Cu).take (({ ca0 with n := 1 } : Cu).isb 0 ⟨#[61]⟩) = ({ ca0 with n := 2 }, xa2) := by kernel_rfl
theorem ca3_is : ({ ca0 with n := 2 } : Cu).take (({ ca0 with n := 2 } : Cu).anyb 5) = ({ ca0 with n := 3 }, xa3) := by kernel_rfl

/-- New of a small clean text -/
theorem new_small (s : ByteArray) (C : Cu) (hs : s.size ≤ 4000) (hb : bad (tk (bs s) 0) = none) (hC : cu0 s = C) (w : World) (hL : LaidX w) :
    Calls Tryz.prog 9 #[.string s] w fun e w' => ∃ b A c, e = .returned (.tuple #[.pointer (some ⟨b, 0, none⟩), .int .i64 0, .nilIface]) ∧ w.heap.size ≤ b ∧ CuM b A c C w' ∧ Below w.heap.size w w' := by
  have h := new_any s w hL
  unfold NewV at h
  simp only [if_neg (show ¬ 4000 < s.size by omega), hb, hC] at h
  exact h

set_option maxRecDepth 100000 in
set_option maxHeartbeats 4000000 in
theorem curAlive_any (w : World) (hL : LaidX w) : Calls Tryz.prog 8 #[] w fun e w' => e = .returned (.bool true) ∧ Below w.heap.size w w' := by
  have HN := Lib.hid (new_small ⟨#[97, 32, 61, 32, 49]⟩ ca0 (by decide) (by rw [show tk (bs ⟨#[97, 32, 61, 32, 49]⟩) 0 = _ from ca0_toks]; decide) ca0_is w hL)
  have hk0 : ca0.Ok := by rw [← ca0_is]; exact cu0_ok _ (by decide)
  have hk1 : ({ ca0 with n := 1 } : Cu).Ok := by have := hk0.take (ca0.anyb 4); rwa [ca1_is] at this
  have hk2 : ({ ca0 with n := 2 } : Cu).Ok := by have := hk1.take (({ ca0 with n := 1 } : Cu).isb 0 ⟨#[61]⟩); rwa [ca2_is] at this
  have hk3 : ({ ca0 with n := 3 } : Cu).Ok := by have := hk2.take (({ ca0 with n := 2 } : Cu).anyb 5); rwa [ca3_is] at this
  have H1 : Hid (∀ b A c W, CuM b A c ca0 W → Calls Tryz.prog 12 #[.pointer (some ⟨b, 0, none⟩), .int .i64 4] W (CuV b A c { ca0 with n := 1 } W fun e => e = .returned (nv xa1))) := Lib.hid fun b A c W h => by have := any_any 4 h hk0; rwa [ca1_is] at this
  have H2 : Hid (∀ b A c W, CuM b A c { ca0 with n := 1 } W → Calls Tryz.prog 15 #[.pointer (some ⟨b, 0, none⟩), .string ⟨#[61]⟩] W (CuV b A c { ca0 with n := 2 } W fun e => e = .returned (nv xa2))) := Lib.hid fun b A c W h => by have := want_any ⟨#[61]⟩ h hk1; rwa [ca2_is] at this
  have H3 : Hid (∀ b A c W, CuM b A c { ca0 with n := 2 } W → Calls Tryz.prog 12 #[.pointer (some ⟨b, 0, none⟩), .int .i64 5] W (CuV b A c { ca0 with n := 3 } W fun e => e = .returned (nv xa3))) := Lib.hid fun b A c W h => by have := any_any 5 h hk2; rwa [ca3_is] at this
  have H4 : Hid (∀ b A c W, CuM b A c { ca0 with n := 3 } W → Calls Tryz.prog 35 #[.pointer (some ⟨b, 0, none⟩)] W fun e w' => e = .returned (.int .i64 0) ∧ Below W.heap.size W w') := Lib.hid fun b A c W h => left_any h hk3
  clear hk0 hk1 hk2 hk3 hL
  go_enter Tryz.func8, Tryz.ntmps8
  go_wp2_with fail
  refine HN.out.mono ?_
  rintro e w1 ⟨b, A, c, rfl, hwb, hm1, hb1⟩
  have HB1 := Lib.hid hb1
  have C1 := Lib.hid (H1.out b A c w1 hm1)
  clear hb1 hm1
  go_wp2_with fail
  refine C1.out.mono ?_
  rintro e w2 ⟨rfl, hm2, ho2⟩
  have HB2 := Lib.hid (HB1.out.trans (of_low ho2 hwb HB1.out.size))
  have C2 := Lib.hid (H2.out b A c w2 hm2)
  clear ho2 hm2
  go_wp2_with fail
  refine C2.out.mono ?_
  rintro e w3 ⟨rfl, hm3, ho3⟩
  have HB3 := Lib.hid (HB2.out.trans (of_low ho3 hwb HB2.out.size))
  have C3 := Lib.hid (H3.out b A c w3 hm3)
  clear ho3 hm3
  go_wp2_with fail
  refine C3.out.mono ?_
  rintro e w4 ⟨rfl, hm4, ho4⟩
  have hb4 := HB3.out.trans (of_low ho4 hwb HB3.out.size)
  have e0 : (((w4.alloc zb5).alloc zb5).alloc zb5).heap[w4.heap.size]? = some zb5 := (Below.heap_alloc _ _ _ (by simp; omega)).trans ((Below.heap_alloc _ _ _ (by simp)).trans (heap_alloc_new w4 zb5))
  have e1 : (((w4.alloc zb5).alloc zb5).alloc zb5).heap[w4.heap.size + 1]? = some zb5 := (Below.heap_alloc _ _ _ (by simp)).trans (by have := heap_alloc_new (w4.alloc zb5) zb5; rwa [World.size_alloc] at this)
  have e2 : (((w4.alloc zb5).alloc zb5).alloc zb5).heap[w4.heap.size + 1 + 1]? = some zb5 := by have := heap_alloc_new ((w4.alloc zb5).alloc zb5) zb5; rwa [World.size_alloc, World.size_alloc] at this
  have hB7 : Below w4.heap.size w4 (((w4.alloc zb5).alloc zb5).alloc zb5) := ((below1 w4 zb5).alloc (by simp) zb5).alloc (by simp; omega) zb5
  have E0 := Lib.hid e0
  have E1 := Lib.hid e1
  have E2 := Lib.hid e2
  have HB7 := Lib.hid hB7
  have HM4 := Lib.hid hm4
  have HB4 := Lib.hid hb4
  clear e0 e1 e2 hB7 hm4 ho4 hb4
  go_wp2_with (refine wpList_store_node (by rfl) 40 (.tmp 4) (.tmp 19) (by rfl) size_tnode w4.heap.size xa1 (by rfl) (by rfl) E0.out ?_; refine LStay.out ?_)
  refine LStay.in_ ?_
  have f1 := (set5_other (T := xa1) (b := w4.heap.size) (k := w4.heap.size + 1) (by omega)).trans E1.out
  have f2 := (set5_other (T := xa1) (b := w4.heap.size) (k := w4.heap.size + 1 + 1) (by omega)).trans E2.out
  have f0 := set5_self E0.out xa1
  have hB8 := below_set5 HB7.out (Nat.le_refl _) xa1
  generalize set5 (((w4.alloc zb5).alloc zb5).alloc zb5) w4.heap.size xa1 = w5 at f0 f1 f2 hB8 ⊢
  have F1 := Lib.hid f1
  go_wp2_with (refine wpList_store_node (by rfl) 40 (.tmp 5) (.tmp 21) (by rfl) size_tnode (w4.heap.size + 1) xa2 (by rfl) (by rfl) F1.out ?_; refine LStay.out ?_)
  refine LStay.in_ ?_
  have g1 := set5_self f1 xa2
  have g0 := (set5_other (T := xa2) (b := w4.heap.size + 1) (k := w4.heap.size) (by omega)).trans f0
  have g2 := (set5_other (T := xa2) (b := w4.heap.size + 1) (k := w4.heap.size + 1 + 1) (by omega)).trans f2
  have hB9 := below_set5 hB8 (Nat.le_succ _) xa2
  generalize set5 w5 (w4.heap.size + 1) xa2 = w6 at g0 g1 g2 hB9 ⊢
  have G2 := Lib.hid g2
  go_wp2_with (refine wpList_store_node (by rfl) 40 (.tmp 6) (.tmp 23) (by rfl) size_tnode (w4.heap.size + 1 + 1) xa3 (by rfl) (by rfl) G2.out ?_; refine LStay.out ?_)
  refine LStay.in_ ?_
  have k2 := set5_self g2 xa3
  have k0 := (set5_other (T := xa3) (b := w4.heap.size + 1 + 1) (k := w4.heap.size) (by omega)).trans g0
  have k1 := (set5_other (T := xa3) (b := w4.heap.size + 1 + 1) (k := w4.heap.size + 1) (by omega)).trans g1
  have hB10 := below_set5 hB9 (by omega : w4.heap.size ≤ w4.heap.size + 1 + 1) xa3
  generalize set5 w6 (w4.heap.size + 1 + 1) xa3 = w7 at k0 k1 k2 hB10 ⊢
  have C4 := Lib.hid (H4.out b A c w7 (HM4.out.below hB10))
  have a1 : w7.cell? ⟨w4.heap.size, 1, none⟩ = some (.string ⟨#[]⟩) := cell_heap k0
  have a2 : w7.cell? ⟨w4.heap.size, 2, none⟩ = some (.string ⟨#[97]⟩) := cell_heap k0
  have a3 : w7.cell? ⟨w4.heap.size + 1, 1, none⟩ = some (.string ⟨#[32]⟩) := cell_heap k1
  have a4 : w7.cell? ⟨w4.heap.size + 1 + 1, 1, none⟩ = some (.string ⟨#[32]⟩) := cell_heap k2
  have a5 : w7.cell? ⟨w4.heap.size + 1 + 1, 3, none⟩ = some (.int .i64 4) := cell_heap k2
  have HB10 := Lib.hid (HB4.out.trans (hB10.mono HB4.out.size))
  clear f0 f1 f2 g0 g1 g2 k0 k1 k2 hB8 hB9 hB10 E0 E1 E2 F1 G2
  go_wp2_with fail
  refine C4.out.mono ?_
  rintro e w8 ⟨rfl, hb8⟩
  go_wp2
  go_ret
  exact ⟨rfl, HB10.out.trans (hb8.mono HB10.out.size)⟩
end Go.Proofs.YtjnclchbklehgaaGreatDoor
