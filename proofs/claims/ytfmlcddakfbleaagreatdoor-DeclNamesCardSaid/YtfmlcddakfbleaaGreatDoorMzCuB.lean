/- A cursor takes a token. -/
import Derived.Test.YtfmlcddakfbleaaGreatDoorMzCuA
import Derived.Test.YtfmlcddakfbleaaGreatDoorTreeMake
namespace Go.Proofs.YtfmlcddakfbleaaGreatDoor
open Go.RowKit SignMath TreeMath

/-- the leaf that is taken -/
def Cu.leaf (C : Cu) (t : Tk) : Tr := ⟨1, C.s.extract C.beh t.a, C.s.extract t.a t.z, (t.a : Nat), none, 0, []⟩
def zn1 : Tr := ⟨0, ⟨#[]⟩, ⟨#[]⟩, 0, none, 0, []⟩
/-- what taking answers -/
def Cu.take (C : Cu) (asked : Bool) : Cu × Tr := match asked, C.nxt 0 with
  | true, some t => ({ C with n := C.n + 1 }, C.leaf t)
  | _, _ => (C.fail 2, zn1)
theorem Cu.take_true {C : Cu} {t : Tk} (h : C.nxt 0 = some t) : C.take true = ({ C with n := C.n + 1 }, C.leaf t) := by unfold Cu.take; rw [h]
theorem Cu.take_false (C : Cu) : C.take false = (C.fail 2, zn1) := by unfold Cu.take; rfl
theorem Cu.Ok.take {C : Cu} (h : C.Ok) (q : Bool) : (C.take q).1.Ok := by
  unfold Cu.take
  split
  · rename_i t ht
    obtain ⟨-, h2⟩ := Cu.nxt_some ht
    have := (List.getElem?_eq_some_iff.1 h2).1
    exact ⟨by simp only; omega, h.sz, h.len, h.tok, h.ord, h.d, h.f, h.p⟩
  · exact h.fail 2
abbrev zb5 : Obj := .cells #[.int .i64 0, .string ⟨#[]⟩, .string ⟨#[]⟩, .int .i64 0, .slice none 0 0] 30 (0, 0)
theorem of_set5 {b r : Nat} {W W1 : World} (ho : Of b W W1) (hr : W.heap.size ≤ r) (T : Tr) : Of b W (set5 W1 r T) :=
  have h5 := off_set5 (X := (· = r)) rfl W1 T
  ⟨h5.os.trans ho.os, h5.tape.trans ho.tape, h5.output.trans ho.output, by rw [set5_size]; exact ho.size, fun k hk hn => (set5_other (by omega) T).trans (ho.block k hk hn)⟩

section
variable {b : Nat} {A : Option Addr} {c : Nat} {C : Cu} {W : World}
/-- behind changes of its block alone -/
theorem CuM.of (h : CuM b A c C W) {W' : World} (ho : Of b W W') {C' : Cu} (hL : C'.L = C.L) (hbox : W'.heap[b]? = some (cubx C' A c)) : CuM b A c C' W' := by
  refine ⟨hbox, ?_, by rw [hL]; exact h.ne⟩
  rw [hL]
  intro hn
  obtain ⟨g, off, rfl, hg, hc⟩ := h.row hn
  exact ⟨g, off, rfl, Nat.lt_of_lt_of_le hg ho.size, fun j u hu => (cell_of (ho.block g hg (h.ne hn _ rfl))).trans (hc j u hu)⟩
/-- a result's cell, stored into last -/
theorem res_set {W1 : World} {P : Ending → Prop} {C' : Cu} {e : Ending} (h0 : CuM b A c C W) (hL : C'.L = C.L) (h : CuV b A c C' (W.alloc zb5) P e W1) (T : Tr) : W1.heap[W.heap.size]? = some zb5 ∧ CuM b A c C' (set5 W1 W.heap.size T) ∧ Of b W (set5 W1 W.heap.size T) ∧ (set5 W1 W.heap.size T).heap[W.heap.size]? = some (.cells (ncc T) 30 (0, 0)) := by
  obtain ⟨-, hm, ho⟩ := h
  have hlt := h0.lt
  have hz : W1.heap[W.heap.size]? = some zb5 := (ho.block _ (by simp) (by show ¬ W.heap.size = b; omega)).trans (heap_alloc_new W zb5)
  have ho1 : Of b W W1 := (Off.alloc _ W zb5).trans ho
  have ho2 := of_set5 ho1 (Nat.le_refl _) T
  exact ⟨hz, h0.of ho2 hL ((set5_other (by omega) T).trans hm.box), ho2, set5_self hz T⟩

set_option maxRecDepth 100000 in
set_option maxHeartbeats 4000000 in
theorem takeIf_no (h : CuM b A c C W) (hk : C.Ok) : Calls Tryz.prog 119 #[.pointer (some ⟨b, 0, none⟩), .bool false] W (CuV b A c (C.fail 2) W fun e => e = .returned (nv zn1)) := by
  have HF := Lib.hid (fail_any 2 ⟨by omega, by omega⟩ (h.below (below1 W zb5)) hk)
  have HM := Lib.hid h
  have HL := Lib.hid (C.fail_L 2)
  unfold CuV
  clear h hk
  go_enter Tryz.func119, Tryz.ntmps119
  go_wp2_with fail
  refine HF.out.mono ?_
  intro e w1 hv
  obtain ⟨hz, hm, ho, hs⟩ := res_set HM.out HL.out hv zn1
  obtain ⟨⟨v, rfl⟩, -, -⟩ := hv
  have HH := Lib.hid (And.intro hm ho)
  clear hm ho
  go_wp2_with (refine wpList_store_node (by rfl) 30 (.tmp 4) (.tmp 11) (by rfl) size_tnode W.heap.size zn1 (by rfl) (by rfl) hz ?_; generalize set5 w1 W.heap.size zn1 = w2 at hs HH ⊢)
  have g0 := cell_heap hs (i := 0)
  have g1 := cell_heap hs (i := 1)
  have g2 := cell_heap hs (i := 2)
  have g3 := cell_heap hs (i := 3)
  have g4 := cell_heap hs (i := 4)
  simp only [List.getElem?_toArray, List.getElem?_cons_zero, List.getElem?_cons_succ] at g0 g1 g2 g3 g4
  refine bodyPost_ret (v := nv zn1) (by simp [results, Tryz.results119, go_sem, g0, g1, g2, g3, g4]) rfl ⟨rfl, HH.out⟩

set_option maxRecDepth 100000 in
set_option maxHeartbeats 8000000 in
theorem takeIf_yes {t : Tk} (hx : C.nxt 0 = some t) (h : CuM b A c C W) (hk : C.Ok) : Calls Tryz.prog 119 #[.pointer (some ⟨b, 0, none⟩), .bool true] W (CuV b A c { C with n := C.n + 1 } W fun e => e = .returned (nv (C.leaf t))) := by
  obtain ⟨hf, ht⟩ := Cu.nxt_some hx
  rw [Nat.add_zero] at ht
  have hnl := (List.getElem?_eq_some_iff.1 ht).1
  have hlen := hk.len
  have htk := hk.tok t (List.mem_of_getElem? ht)
  have hba := hk.beh_at ht
  have hsz := hk.sz
  have z1 : (0 : Int) ≤ (C.n : Nat) := by omega
  have z2 : ((C.n : Nat) : Int) < C.L.length := by omega
  have z3 : ((C.n : Nat) : Int) ≤ 4000 := by omega
  have y1 : (0 : Int) ≤ (C.beh : Nat) := by omega
  have y2 : ((C.beh : Nat) : Int) ≤ (t.a : Nat) := by omega
  have y3 : ((t.a : Nat) : Int) ≤ (C.s.size : Nat) := by omega
  have HT := Lib.hid ht
  have HBE : Hid (∀ W' : World, CuM b A c C W' → Calls Tryz.prog 52 #[.pointer (some ⟨b, 0, none⟩)] W' fun e w' => e = .returned (.int .i64 (C.beh : Nat)) ∧ Below W'.heap.size W' w') := Lib.hid fun W' h' => behind_any h' hk
  have HTX : Hid (ttx C.s (toZ t) = C.s.extract t.a t.z) := Lib.hid (by unfold ttx toZ; rw [if_pos ⟨by simp, by simp; omega, by simp; omega⟩]; rfl)
  have HM := Lib.hid h
  unfold CuV Cu.leaf
  generalize C.beh = q at y1 y2 HBE ⊢
  obtain ⟨g, off, rfl, -, -, -, -⟩ := h.tok ht
  have hm0 := h.below (below1 W zb5)
  have hr0 := heap_alloc_new W zb5
  have hd : Below (W.alloc zb5).heap.size (W.alloc zb5) (W.alloc zb5).drew := ⟨rfl, rfl, rfl, Nat.le_refl _, fun _ _ => rfl⟩
  have hm1 := hm0.below hd
  have hr1 : (W.alloc zb5).drew.heap[W.heap.size]? = some zb5 := hr0
  have hb1 : Below W.heap.size W (W.alloc zb5).drew := (below1 W zb5).trans (hd.mono (by simp))
  have hlt := h.lt
  clear hf ht hnl hlen htk hba hsz hx hk h hm0 hr0 hd
  go_enter Tryz.func119, Tryz.ntmps119
  go_wp2
  rename_i K0 hK0
  refine wp_region_noPanic (wp_region_held (S := fun W' : World => CuM b (some ⟨g, off, none⟩) c C W' ∧ True) (by kernel_rfl) ?_)
  show wpAnyH _ _ _ _ _ _ _ _ (W.alloc zb5).drew
  generalize (W.alloc zb5).drew = w2 at hm1 hr1 hb1 ⊢
  refine wpAnyH_take_d (i := 0) (v := .pointer (some ⟨b, 0, none⟩)) 12 rfl rfl (by kernel_rfl) (by kernel_rfl) (by kernel_rfl) (fun _ _ _ h => h) (Or.inl ⟨by kernel_rfl, fun w' hS' => ?y0⟩) (⟨hm1, trivial⟩) ?_
  case y0 => (clear hS'; go_simp)
  simp only [Act.put, List.setIfInBounds_toArray, List.set_cons_zero, List.set_cons_succ]
  refine wpAnyH_take_d (i := 1) (v := .pointer (some ⟨b, 0, none⟩)) 13 rfl rfl (by kernel_rfl) (by kernel_rfl) (by kernel_rfl) (fun _ _ _ h => h) (Or.inl ⟨by kernel_rfl, fun w' hS' => ?y1⟩) (⟨hm1, trivial⟩) ?_
  case y1 => (clear hS'; go_simp)
  simp only [Act.put, List.setIfInBounds_toArray, List.set_cons_zero, List.set_cons_succ]
  refine wpAnyH_take_d (i := 2) (v := .pointer (some ⟨b, 1, none⟩)) 14 rfl rfl (by kernel_rfl) (by kernel_rfl) (by kernel_rfl) (fun _ _ _ h => h) (Or.inl ⟨by kernel_rfl, fun w' hS' => ?y2⟩) (⟨hm1, trivial⟩) ?_
  case y2 => (clear hS'; go_simp)
  simp only [Act.put, List.setIfInBounds_toArray, List.set_cons_zero, List.set_cons_succ]
  refine wpAnyH_take_d (i := 3) (v := .slice (some ⟨g, off, none⟩) C.L.length c) 15 rfl rfl (by kernel_rfl) (by kernel_rfl) (by kernel_rfl) (fun _ _ _ h => h) (Or.inl ⟨by kernel_rfl, fun w' hS' => ?y3⟩) (⟨hm1, trivial⟩) ?_
  case y3 => (obtain ⟨s0, s1, s2, s3, s4, s5⟩ := hS'.1.cells; clear hS'; go_simp)
  simp only [Act.put, List.setIfInBounds_toArray, List.set_cons_zero, List.set_cons_succ]
  refine wpAnyH_take_d (i := 4) (v := .pointer (some ⟨b, 0, none⟩)) 16 rfl rfl (by kernel_rfl) (by kernel_rfl) (by kernel_rfl) (fun _ _ _ h => h) (Or.inl ⟨by kernel_rfl, fun w' hS' => ?y4⟩) (⟨hm1, trivial⟩) ?_
  case y4 => (clear hS'; go_simp)
  simp only [Act.put, List.setIfInBounds_toArray, List.set_cons_zero, List.set_cons_succ]
  refine wpAnyH_take_d (i := 5) (v := .pointer (some ⟨b, 0, none⟩)) 17 rfl rfl (by kernel_rfl) (by kernel_rfl) (by kernel_rfl) (fun _ _ _ h => h) (Or.inl ⟨by kernel_rfl, fun w' hS' => ?y5⟩) (⟨hm1, trivial⟩) ?_
  case y5 => (clear hS'; go_simp)
  simp only [Act.put, List.setIfInBounds_toArray, List.set_cons_zero, List.set_cons_succ]
  refine wpAnyH_take_d (i := 6) (v := .pointer (some ⟨b, 2, none⟩)) 18 rfl rfl (by kernel_rfl) (by kernel_rfl) (by kernel_rfl) (fun _ _ _ h => h) (Or.inl ⟨by kernel_rfl, fun w' hS' => ?y6⟩) (⟨hm1, trivial⟩) ?_
  case y6 => (clear hS'; go_simp)
  simp only [Act.put, List.setIfInBounds_toArray, List.set_cons_zero, List.set_cons_succ]
  refine wpAnyH_take_d (i := 7) (v := .int .i64 (C.n : Nat)) 19 rfl rfl (by kernel_rfl) (by kernel_rfl) (by kernel_rfl) (fun _ _ _ h => h) (Or.inl ⟨by kernel_rfl, fun w' hS' => ?y7⟩) (⟨hm1, trivial⟩) ?_
  case y7 => (obtain ⟨s0, s1, s2, s3, s4, s5⟩ := hS'.1.cells; clear hS'; go_simp)
  simp only [Act.put, List.setIfInBounds_toArray, List.set_cons_zero, List.set_cons_succ]
  refine wpAnyH_take_d (i := 8) (v := .pointer (some ⟨g, off + C.n * 3, none⟩)) 20 rfl rfl (by kernel_rfl) (by kernel_rfl) (by kernel_rfl) (fun _ _ _ h => h) (Or.inl ⟨by kernel_rfl, fun w' hS' => ?y8⟩) (⟨hm1, trivial⟩) ?_
  case y8 => (clear hS'; go_simp)
  simp only [Act.put, List.setIfInBounds_toArray, List.set_cons_zero, List.set_cons_succ]
  refine wpAnyH_take_d (i := 9) (v := tkv t) 21 rfl rfl (by kernel_rfl) (by kernel_rfl) (by kernel_rfl) (fun _ _ _ h => h) (Or.inl ⟨by kernel_rfl, fun w' hS' => ?y9⟩) (⟨hm1, trivial⟩) ?_
  case y9 => (obtain ⟨r0, r1, r2⟩ := hS'.1.tokAt HT.out; clear hS'; go_simp)
  simp only [Act.put, List.setIfInBounds_toArray, List.set_cons_zero, List.set_cons_succ]
  refine wpAnyH_ready (rs := [10]) (by kernel_rfl) (by simp) ?_
  refine AllReadyH.cons rfl (fun K hK => ?_) AllReadyH.nil
  go_simp
  have hB3 := below1 w2 (.cells #[.int .i64 0, .int .i64 0, .int .i64 0] 109)
  have hx2 := heap_alloc_new w2 (.cells #[.int .i64 0, .int .i64 0, .int .i64 0] 109)
  generalize w2.alloc (.cells #[.int .i64 0, .int .i64 0, .int .i64 0] 109) = w3 at hB3 hx2 ⊢
  refine hK.out _ _ (⟨hm1.below hB3, trivial⟩) (fun _ => ?_)
  clear hK K
  try simp only [Act.put, List.setIfInBounds_toArray, List.set_cons_zero, List.set_cons_succ]
  refine wpAnyH_ready (rs := [11]) (by kernel_rfl) (by simp) ?_
  refine AllReadyH.cons rfl (fun K hK => ?_) AllReadyH.nil
  refine step_store_tok (by rfl) 109 (.tmp 5) (.tmp 21) (by rfl) size_tok w2.heap.size t (by rfl) (by rfl) hx2 ?_
  have hx3 := set3_self hx2 t
  have hB4 := below_set3 hB3 (Nat.le_refl _) t
  generalize set3 w3 w2.heap.size t = w4 at hx3 hB4 ⊢
  have hm4 := hm1.below hB4
  have hb4 := hb1.trans (hB4.mono hb1.size)
  have hr4 := (hB4.block _ (Array.getElem?_eq_some_iff.1 hr1).1).trans hr1
  refine hK.out _ _ (⟨hm4, trivial⟩) (fun _ => ?_)
  clear hK K
  try simp only [Act.put, List.setIfInBounds_toArray]
  refine wpAnyH_done (by kernel_rfl) ?_ _
  refine hK0 _ _ ?_
  clear hB3 hB4 hx2 hm1 hb1 hr1 K0 hK0
  generalize w2.heap.size = x at hx3 ⊢
  clear w2
  go_wp2
  rename_i K1 hK1 _d1 _e1
  have hd4 : Below w4.heap.size w4 w4.drew := ⟨rfl, rfl, rfl, Nat.le_refl _, fun _ _ => rfl⟩
  have hm5 := hm4.below hd4
  have hx5 : w4.drew.heap[x]? = some (tkc t) := hx3
  have hb5 := hb4.trans (hd4.mono hb4.size)
  have hr5 : w4.drew.heap[W.heap.size]? = some zb5 := hr4
  generalize hw5 : w4.drew = w5 at hm5 hx5 hb5 hr5
  refine at_act (fun A0 hA => ?_)
  obtain ⟨LF, hLF⟩ : ∃ LF : Tr, LF = (⟨1, C.s.extract q t.a, C.s.extract t.a t.z, (t.a : Nat), none, 0, []⟩ : Tr) := ⟨_, rfl⟩
  have REST0 : ∀ (y : Nat) (x0 : World), Below w5.heap.size w5 x0 → w5.heap.size ≤ y → x0.heap[y]? = some (.cells (ncc LF) 30 (0, 0)) → K1 (((((((((((((((((((A0.put (some 22) (.pointer (some ⟨b, 0, none⟩))).put (some 23) (.pointer (some ⟨b, 0, none⟩))).put (some 24) (.pointer (some ⟨b, 0, none⟩))).put (some 25) (.string C.s)).put (some 26) (.pointer (some ⟨b, 0, none⟩))).put (some 27) (.int .i64 (q : Nat))).put (some 28) (.pointer (some ⟨x, 1, none⟩))).put (some 29) (.int .i64 (t.a : Nat))).put (some 30) (.string (C.s.extract q t.a))).put (some 31) (tkv t)).put (some 32) (.pointer (some ⟨b, 0, none⟩))).put (some 33) (.pointer (some ⟨b, 0, none⟩))).put (some 34) (.pointer (some ⟨b, 0, none⟩))).put (some 35) (.string C.s)).put (some 36) (.string (C.s.extract t.a t.z))).put (some 37) (.pointer (some ⟨x, 1, none⟩))).put (some 38) (.int .i64 (t.a : Nat))).put (some 39) (nv LF)).put (some 6) (.pointer (some ⟨y, 0, none⟩))) x0 := by
    subst hA
    intro y x0 hB hy hyb
    simp only [Act.put, List.setIfInBounds_toArray, List.set_cons_zero, List.set_cons_succ]
    refine hK1 _ _ ?_
    have hm := hm5.below hB
    obtain ⟨c0, c1, c2, c3, c4, c5⟩ := hm.cells
    have fr := hm.frz
    have hr := (hB.block _ (Array.getElem?_eq_some_iff.1 hr5).1).trans hr5
    have hrl := (Array.getElem?_eq_some_iff.1 hr5).1
    have hbx := hb5.trans (hB.mono hb5.size)
    have hyr : y ≠ W.heap.size := by omega
    have hyb2 : y ≠ b := by have := hm5.lt; omega
    have hrb : W.heap.size ≠ b := by omega
    have hm' := hm.set (C' := { C with n := C.n + 1 }) 2 (.int .i64 ((C.n + 1 : Nat))) rfl rfl
    rw [Int.natCast_add, Int.natCast_one] at hm'
    have hr' : (x0.setCell ⟨b, 2, none⟩ (.int .i64 (((C.n : Nat) : Int) + 1))).heap[W.heap.size]? = some zb5 := (Below.heap_setCell _ _ _ _ hrb).trans hr
    have hy' : (x0.setCell ⟨b, 2, none⟩ (.int .i64 (((C.n : Nat) : Int) + 1))).heap[y]? = some (.cells (ncc LF) 30 (0, 0)) := (Below.heap_setCell _ _ _ _ hyb2).trans hyb
    have ho' : Of b W (x0.setCell ⟨b, 2, none⟩ (.int .i64 (((C.n : Nat) : Int) + 1))) := (of_below hbx).trans (of_set b 2 _ _)
    have hfin := And.intro (HM.out.of (of_set5 ho' (Nat.le_refl _) LF) (C' := { C with n := C.n + 1 }) rfl ((set5_other (fun e => hrb e.symm) LF).trans hm'.box)) (of_set5 ho' (Nat.le_refl _) LF)
    have HFI := Lib.hid hfin
    have hs := set5_self hr' LF
    have HLF := Lib.hid hLF
    have ty := heap5 hy'
    clear hB hyb hm hbx hr hm5 hx5 hb5 hr5 hm' ho' hfin hy' hLF HM HBE HTX HT
    go_wp2_with (refine wpList_store_node (by rfl) 30 (.tmp 4) (.tmp 47) (by rfl) size_tnode W.heap.size LF (by rfl) (by rfl) hr' ?_; generalize set5 (x0.setCell ⟨b, 2, none⟩ (.int .i64 (((C.n : Nat) : Int) + 1))) W.heap.size LF = x1 at hs HFI ⊢)
    have g0 := cell_heap hs (i := 0)
    have g1 := cell_heap hs (i := 1)
    have g2 := cell_heap hs (i := 2)
    have g3 := cell_heap hs (i := 3)
    have g4 := cell_heap hs (i := 4)
    simp only [List.getElem?_toArray, List.getElem?_cons_zero, List.getElem?_cons_succ] at g0 g1 g2 g3 g4
    refine bodyPost_ret (v := nv LF) (by simp [results, Tryz.results119, go_sem, g0, g1, g2, g3, g4]) rfl ⟨by rw [HLF.out], HFI.out⟩
  subst hA
  simp only [Act.put, List.setIfInBounds_toArray, List.set_cons_zero, List.set_cons_succ] at REST0
  have REST := Lib.hid REST0
  clear REST0 hK1
  refine wp_region_noPanic (wp_region_held (S := fun W' : World => CuM b (some ⟨g, off, none⟩) c C W' ∧ W'.heap[x]? = some (tkc t)) (by kernel_rfl) ?_)
  show wpAnyH _ _ _ _ _ _ _ _ w4.drew
  rw [hw5]
  clear hw5 hm4 hx3 hb4 hr4
  refine wpAnyH_take_d (i := 0) (v := .pointer (some ⟨b, 0, none⟩)) 22 rfl rfl (by kernel_rfl) (by kernel_rfl) (by kernel_rfl) (fun _ _ _ h => h) (Or.inl ⟨by kernel_rfl, fun w' hS' => ?y0⟩) (⟨hm5, hx5⟩) ?_
  case y0 => (clear hS'; go_simp)
  simp only [Act.put, List.setIfInBounds_toArray, List.set_cons_zero, List.set_cons_succ]
  refine wpAnyH_take_d (i := 1) (v := .pointer (some ⟨b, 0, none⟩)) 23 rfl rfl (by kernel_rfl) (by kernel_rfl) (by kernel_rfl) (fun _ _ _ h => h) (Or.inl ⟨by kernel_rfl, fun w' hS' => ?y1⟩) (⟨hm5, hx5⟩) ?_
  case y1 => (clear hS'; go_simp)
  simp only [Act.put, List.setIfInBounds_toArray, List.set_cons_zero, List.set_cons_succ]
  refine wpAnyH_take_d (i := 2) (v := .pointer (some ⟨b, 0, none⟩)) 24 rfl rfl (by kernel_rfl) (by kernel_rfl) (by kernel_rfl) (fun _ _ _ h => h) (Or.inl ⟨by kernel_rfl, fun w' hS' => ?y2⟩) (⟨hm5, hx5⟩) ?_
  case y2 => (clear hS'; go_simp)
  simp only [Act.put, List.setIfInBounds_toArray, List.set_cons_zero, List.set_cons_succ]
  refine wpAnyH_take_d (i := 3) (v := .string C.s) 25 rfl rfl (by kernel_rfl) (by kernel_rfl) (by kernel_rfl) (fun _ _ _ h => h) (Or.inl ⟨by kernel_rfl, fun w' hS' => ?y3⟩) (⟨hm5, hx5⟩) ?_
  case y3 => (obtain ⟨s0, s1, s2, s3, s4, s5⟩ := hS'.1.cells; clear hS'; go_simp)
  simp only [Act.put, List.setIfInBounds_toArray, List.set_cons_zero, List.set_cons_succ]
  refine wpAnyH_take_d (i := 4) (v := .pointer (some ⟨b, 0, none⟩)) 26 rfl rfl (by kernel_rfl) (by kernel_rfl) (by kernel_rfl) (fun _ _ _ h => h) (Or.inl ⟨by kernel_rfl, fun w' hS' => ?y4⟩) (⟨hm5, hx5⟩) ?_
  case y4 => (clear hS'; go_simp)
  simp only [Act.put, List.setIfInBounds_toArray, List.set_cons_zero, List.set_cons_succ]
  refine wpAnyH_take_d (i := 6) (v := .pointer (some ⟨x, 1, none⟩)) 28 rfl rfl (by kernel_rfl) (by kernel_rfl) (by kernel_rfl) (fun _ _ _ h => h) (Or.inl ⟨by kernel_rfl, fun w' hS' => ?y6⟩) (⟨hm5, hx5⟩) ?_
  case y6 => (clear hS'; go_simp)
  simp only [Act.put, List.setIfInBounds_toArray, List.set_cons_zero, List.set_cons_succ]
  refine wpAnyH_take_d (i := 7) (v := .int .i64 (t.a : Nat)) 29 rfl rfl (by kernel_rfl) (by kernel_rfl) (by kernel_rfl) (fun _ _ _ h => h) (Or.inl ⟨by kernel_rfl, fun w' hS' => ?y7⟩) (⟨hm5, hx5⟩) ?_
  case y7 => (obtain ⟨r0, r1, r2⟩ := heap3 hS'.2; clear hS'; go_simp)
  simp only [Act.put, List.setIfInBounds_toArray, List.set_cons_zero, List.set_cons_succ]
  refine wpAnyH_take_d (i := 9) (v := tkv t) 31 rfl rfl (by kernel_rfl) (by kernel_rfl) (by kernel_rfl) (fun _ _ _ h => h) (Or.inl ⟨by kernel_rfl, fun w' hS' => ?y9⟩) (⟨hm5, hx5⟩) ?_
  case y9 => (obtain ⟨r0, r1, r2⟩ := heap3 hS'.2; clear hS'; go_simp)
  simp only [Act.put, List.setIfInBounds_toArray, List.set_cons_zero, List.set_cons_succ]
  refine wpAnyH_take_d (i := 10) (v := .pointer (some ⟨b, 0, none⟩)) 32 rfl rfl (by kernel_rfl) (by kernel_rfl) (by kernel_rfl) (fun _ _ _ h => h) (Or.inl ⟨by kernel_rfl, fun w' hS' => ?y10⟩) (⟨hm5, hx5⟩) ?_
  case y10 => (clear hS'; go_simp)
  simp only [Act.put, List.setIfInBounds_toArray, List.set_cons_zero, List.set_cons_succ]
  refine wpAnyH_take_d (i := 11) (v := .pointer (some ⟨b, 0, none⟩)) 33 rfl rfl (by kernel_rfl) (by kernel_rfl) (by kernel_rfl) (fun _ _ _ h => h) (Or.inl ⟨by kernel_rfl, fun w' hS' => ?y11⟩) (⟨hm5, hx5⟩) ?_
  case y11 => (clear hS'; go_simp)
  simp only [Act.put, List.setIfInBounds_toArray, List.set_cons_zero, List.set_cons_succ]
  refine wpAnyH_take_d (i := 12) (v := .pointer (some ⟨b, 0, none⟩)) 34 rfl rfl (by kernel_rfl) (by kernel_rfl) (by kernel_rfl) (fun _ _ _ h => h) (Or.inl ⟨by kernel_rfl, fun w' hS' => ?y12⟩) (⟨hm5, hx5⟩) ?_
  case y12 => (clear hS'; go_simp)
  simp only [Act.put, List.setIfInBounds_toArray, List.set_cons_zero, List.set_cons_succ]
  refine wpAnyH_take_d (i := 13) (v := .string C.s) 35 rfl rfl (by kernel_rfl) (by kernel_rfl) (by kernel_rfl) (fun _ _ _ h => h) (Or.inl ⟨by kernel_rfl, fun w' hS' => ?y13⟩) (⟨hm5, hx5⟩) ?_
  case y13 => (obtain ⟨s0, s1, s2, s3, s4, s5⟩ := hS'.1.cells; clear hS'; go_simp)
  simp only [Act.put, List.setIfInBounds_toArray, List.set_cons_zero, List.set_cons_succ]
  refine wpAnyH_take_d (i := 15) (v := .pointer (some ⟨x, 1, none⟩)) 37 rfl rfl (by kernel_rfl) (by kernel_rfl) (by kernel_rfl) (fun _ _ _ h => h) (Or.inl ⟨by kernel_rfl, fun w' hS' => ?y15⟩) (⟨hm5, hx5⟩) ?_
  case y15 => (clear hS'; go_simp)
  simp only [Act.put, List.setIfInBounds_toArray, List.set_cons_zero, List.set_cons_succ]
  refine wpAnyH_take_d (i := 16) (v := .int .i64 (t.a : Nat)) 38 rfl rfl (by kernel_rfl) (by kernel_rfl) (by kernel_rfl) (fun _ _ _ h => h) (Or.inl ⟨by kernel_rfl, fun w' hS' => ?y16⟩) (⟨hm5, hx5⟩) ?_
  case y16 => (obtain ⟨r0, r1, r2⟩ := heap3 hS'.2; clear hS'; go_simp)
  simp only [Act.put, List.setIfInBounds_toArray, List.set_cons_zero, List.set_cons_succ]
  have hB0 : Below w5.heap.size w5 w5 := Below.refl _ _
  refine wpAnyH_ready (rs := [5, 18]) (by kernel_rfl) (by simp) ?_
  refine AllReadyH.cons rfl (fun K hK => ?_) (AllReadyH.cons rfl (fun K hK => ?_) AllReadyH.nil)
  · go_simp
    refine (HBE.out w5 (hm5.below hB0)).mono ?_
    rintro e v1 ⟨rfl, hb⟩
    have hB1 := hB0.trans (hb.mono hB0.size)
    refine hK.out _ _ (⟨hm5.below hB1, (hB1.block x (Array.getElem?_eq_some_iff.1 hx5).1).trans hx5⟩) (fun _ => ?_)
    clear hK K
    try simp only [Act.put, List.setIfInBounds_toArray, List.set_cons_zero, List.set_cons_succ]
    refine wpAnyH_take_d (i := 8) (v := .string (C.s.extract q t.a)) 30 rfl rfl (by kernel_rfl) (by kernel_rfl) (by kernel_rfl) (fun _ _ _ h => h) (Or.inl ⟨by kernel_rfl, fun w' hS' => ?y8⟩) (⟨hm5.below hB1, (hB1.block x (Array.getElem?_eq_some_iff.1 hx5).1).trans hx5⟩) ?_
    case y8 => (clear hS'; go_simp)
    simp only [Act.put, List.setIfInBounds_toArray, List.set_cons_zero, List.set_cons_succ]
    refine wpAnyH_ready (rs := [14, 18]) (by kernel_rfl) (by simp) ?_
    refine AllReadyH.cons rfl (fun K hK => ?_) (AllReadyH.cons rfl (fun K hK => ?_) AllReadyH.nil)
    · go_simp
      refine (ttext_any C.s (toZ t) v1).mono ?_
      rintro e v2 ⟨rfl, hb⟩
      rw [HTX.out]
      have hB2 := hB1.trans (hb.mono hB1.size)
      refine hK.out _ _ (⟨hm5.below hB2, (hB2.block x (Array.getElem?_eq_some_iff.1 hx5).1).trans hx5⟩) (fun _ => ?_)
      clear hK K
      try simp only [Act.put, List.setIfInBounds_toArray, List.set_cons_zero, List.set_cons_succ]
      refine wpAnyH_ready (rs := [17, 18]) (by kernel_rfl) (by simp) ?_
      refine AllReadyH.cons rfl (fun K hK => ?_) (AllReadyH.cons rfl (fun K hK => ?_) AllReadyH.nil)
      · go_simp
        refine (token_any (C.s.extract q t.a) (C.s.extract t.a t.z) (t.a : Nat) v2).mono ?_
        rintro e v3 ⟨rfl, hb⟩
        have hB3 := hB2.trans (hb.mono hB2.size)
        refine hK.out _ _ (⟨hm5.below hB3, (hB3.block x (Array.getElem?_eq_some_iff.1 hx5).1).trans hx5⟩) (fun _ => ?_)
        clear hK K
        try simp only [Act.put, List.setIfInBounds_toArray, List.set_cons_zero, List.set_cons_succ]
        refine wpAnyH_ready (rs := [18]) (by kernel_rfl) (by simp) ?_
        refine AllReadyH.cons rfl (fun K hK => ?_) AllReadyH.nil
        go_simp
        have hyz := heap_alloc_new v3 zb5
        have hyl : w5.heap.size ≤ v3.heap.size := hB3.size
        have hB4 := hB3.alloc hB3.size zb5
        generalize v3.alloc zb5 = v4 at hyz hB4 ⊢
        refine hK.out _ _ (⟨hm5.below hB4, (hB4.block x (Array.getElem?_eq_some_iff.1 hx5).1).trans hx5⟩) (fun _ => ?_)
        clear hK K
        try simp only [Act.put, List.setIfInBounds_toArray, List.set_cons_zero, List.set_cons_succ]
        refine wpAnyH_ready (rs := [19]) (by kernel_rfl) (by simp) ?_
        refine AllReadyH.cons rfl (fun K hK => ?_) AllReadyH.nil
        refine step_store_node (by rfl) 30 (.tmp 6) (.tmp 39) (by rfl) size_tnode v3.heap.size (⟨1, C.s.extract q t.a, C.s.extract t.a t.z, (t.a : Nat), none, 0, []⟩ : Tr) (by rfl) (by rfl) hyz ?_
        have hyf := set5_self hyz (⟨1, C.s.extract q t.a, C.s.extract t.a t.z, (t.a : Nat), none, 0, []⟩ : Tr)
        have hBf := below_set5 hB4 hyl (⟨1, C.s.extract q t.a, C.s.extract t.a t.z, (t.a : Nat), none, 0, []⟩ : Tr)
        generalize set5 v4 v3.heap.size (⟨1, C.s.extract q t.a, C.s.extract t.a t.z, (t.a : Nat), none, 0, []⟩ : Tr) = wf at hyf hBf ⊢
        refine hK.out _ _ (⟨hm5.below hBf, (hBf.block x (Array.getElem?_eq_some_iff.1 hx5).1).trans hx5⟩) (fun _ => ?_)
        clear hK K
        try simp only [Act.put, List.setIfInBounds_toArray]
        refine wpAnyH_done (by kernel_rfl) ?_ _
        subst hLF
        exact REST.out v3.heap.size wf hBf hyl hyf
      · go_simp
        have hyz := heap_alloc_new v2 zb5
        have hyl : w5.heap.size ≤ v2.heap.size := hB2.size
        have hB5 := hB2.alloc hB2.size zb5
        generalize v2.alloc zb5 = v5 at hyz hB5 ⊢
        refine hK.out _ _ (⟨hm5.below hB5, (hB5.block x (Array.getElem?_eq_some_iff.1 hx5).1).trans hx5⟩) (fun _ => ?_)
        clear hK K
        try simp only [Act.put, List.setIfInBounds_toArray, List.set_cons_zero, List.set_cons_succ]
        refine wpAnyH_ready (rs := [17]) (by kernel_rfl) (by simp) ?_
        refine AllReadyH.cons rfl (fun K hK => ?_) AllReadyH.nil
        go_simp
        refine (token_any (C.s.extract q t.a) (C.s.extract t.a t.z) (t.a : Nat) v5).mono ?_
        rintro e v6 ⟨rfl, hb⟩
        have hB6 := hB5.trans (hb.mono hB5.size)
        replace hyz := (hb.block _ (Array.getElem?_eq_some_iff.1 hyz).1).trans hyz
        refine hK.out _ _ (⟨hm5.below hB6, (hB6.block x (Array.getElem?_eq_some_iff.1 hx5).1).trans hx5⟩) (fun _ => ?_)
        clear hK K
        try simp only [Act.put, List.setIfInBounds_toArray, List.set_cons_zero, List.set_cons_succ]
        refine wpAnyH_ready (rs := [19]) (by kernel_rfl) (by simp) ?_
        refine AllReadyH.cons rfl (fun K hK => ?_) AllReadyH.nil
        refine step_store_node (by rfl) 30 (.tmp 6) (.tmp 39) (by rfl) size_tnode v2.heap.size (⟨1, C.s.extract q t.a, C.s.extract t.a t.z, (t.a : Nat), none, 0, []⟩ : Tr) (by rfl) (by rfl) hyz ?_
        have hyf := set5_self hyz (⟨1, C.s.extract q t.a, C.s.extract t.a t.z, (t.a : Nat), none, 0, []⟩ : Tr)
        have hBf := below_set5 hB6 hyl (⟨1, C.s.extract q t.a, C.s.extract t.a t.z, (t.a : Nat), none, 0, []⟩ : Tr)
        generalize set5 v6 v2.heap.size (⟨1, C.s.extract q t.a, C.s.extract t.a t.z, (t.a : Nat), none, 0, []⟩ : Tr) = wf at hyf hBf ⊢
        refine hK.out _ _ (⟨hm5.below hBf, (hBf.block x (Array.getElem?_eq_some_iff.1 hx5).1).trans hx5⟩) (fun _ => ?_)
        clear hK K
        try simp only [Act.put, List.setIfInBounds_toArray]
        refine wpAnyH_done (by kernel_rfl) ?_ _
        subst hLF
        exact REST.out v2.heap.size wf hBf hyl hyf
    · go_simp
      have hyz := heap_alloc_new v1 zb5
      have hyl : w5.heap.size ≤ v1.heap.size := hB1.size
      have hB7 := hB1.alloc hB1.size zb5
      generalize v1.alloc zb5 = v7 at hyz hB7 ⊢
      refine hK.out _ _ (⟨hm5.below hB7, (hB7.block x (Array.getElem?_eq_some_iff.1 hx5).1).trans hx5⟩) (fun _ => ?_)
      clear hK K
      try simp only [Act.put, List.setIfInBounds_toArray, List.set_cons_zero, List.set_cons_succ]
      refine wpAnyH_ready (rs := [14]) (by kernel_rfl) (by simp) ?_
      refine AllReadyH.cons rfl (fun K hK => ?_) AllReadyH.nil
      go_simp
      refine (ttext_any C.s (toZ t) v7).mono ?_
      rintro e v8 ⟨rfl, hb⟩
      rw [HTX.out]
      have hB8 := hB7.trans (hb.mono hB7.size)
      replace hyz := (hb.block _ (Array.getElem?_eq_some_iff.1 hyz).1).trans hyz
      refine hK.out _ _ (⟨hm5.below hB8, (hB8.block x (Array.getElem?_eq_some_iff.1 hx5).1).trans hx5⟩) (fun _ => ?_)
      clear hK K
      try simp only [Act.put, List.setIfInBounds_toArray, List.set_cons_zero, List.set_cons_succ]
      refine wpAnyH_ready (rs := [17]) (by kernel_rfl) (by simp) ?_
      refine AllReadyH.cons rfl (fun K hK => ?_) AllReadyH.nil
      go_simp
      refine (token_any (C.s.extract q t.a) (C.s.extract t.a t.z) (t.a : Nat) v8).mono ?_
      rintro e v9 ⟨rfl, hb⟩
      have hB9 := hB8.trans (hb.mono hB8.size)
      replace hyz := (hb.block _ (Array.getElem?_eq_some_iff.1 hyz).1).trans hyz
      refine hK.out _ _ (⟨hm5.below hB9, (hB9.block x (Array.getElem?_eq_some_iff.1 hx5).1).trans hx5⟩) (fun _ => ?_)
      clear hK K
      try simp only [Act.put, List.setIfInBounds_toArray, List.set_cons_zero, List.set_cons_succ]
      refine wpAnyH_ready (rs := [19]) (by kernel_rfl) (by simp) ?_
      refine AllReadyH.cons rfl (fun K hK => ?_) AllReadyH.nil
      refine step_store_node (by rfl) 30 (.tmp 6) (.tmp 39) (by rfl) size_tnode v1.heap.size (⟨1, C.s.extract q t.a, C.s.extract t.a t.z, (t.a : Nat), none, 0, []⟩ : Tr) (by rfl) (by rfl) hyz ?_
      have hyf := set5_self hyz (⟨1, C.s.extract q t.a, C.s.extract t.a t.z, (t.a : Nat), none, 0, []⟩ : Tr)
      have hBf := below_set5 hB9 hyl (⟨1, C.s.extract q t.a, C.s.extract t.a t.z, (t.a : Nat), none, 0, []⟩ : Tr)
      generalize set5 v9 v1.heap.size (⟨1, C.s.extract q t.a, C.s.extract t.a t.z, (t.a : Nat), none, 0, []⟩ : Tr) = wf at hyf hBf ⊢
      refine hK.out _ _ (⟨hm5.below hBf, (hBf.block x (Array.getElem?_eq_some_iff.1 hx5).1).trans hx5⟩) (fun _ => ?_)
      clear hK K
      try simp only [Act.put, List.setIfInBounds_toArray]
      refine wpAnyH_done (by kernel_rfl) ?_ _
      subst hLF
      exact REST.out v1.heap.size wf hBf hyl hyf
  · go_simp
    have hyz := heap_alloc_new w5 zb5
    have hyl : w5.heap.size ≤ w5.heap.size := hB0.size
    have hB10 := hB0.alloc hB0.size zb5
    generalize w5.alloc zb5 = v10 at hyz hB10 ⊢
    refine hK.out _ _ (⟨hm5.below hB10, (hB10.block x (Array.getElem?_eq_some_iff.1 hx5).1).trans hx5⟩) (fun _ => ?_)
    clear hK K
    try simp only [Act.put, List.setIfInBounds_toArray, List.set_cons_zero, List.set_cons_succ]
    refine wpAnyH_ready (rs := [5]) (by kernel_rfl) (by simp) ?_
    refine AllReadyH.cons rfl (fun K hK => ?_) AllReadyH.nil
    go_simp
    refine (HBE.out v10 (hm5.below hB10)).mono ?_
    rintro e v11 ⟨rfl, hb⟩
    have hB11 := hB10.trans (hb.mono hB10.size)
    replace hyz := (hb.block _ (Array.getElem?_eq_some_iff.1 hyz).1).trans hyz
    refine hK.out _ _ (⟨hm5.below hB11, (hB11.block x (Array.getElem?_eq_some_iff.1 hx5).1).trans hx5⟩) (fun _ => ?_)
    clear hK K
    try simp only [Act.put, List.setIfInBounds_toArray, List.set_cons_zero, List.set_cons_succ]
    refine wpAnyH_take_d (i := 8) (v := .string (C.s.extract q t.a)) 30 rfl rfl (by kernel_rfl) (by kernel_rfl) (by kernel_rfl) (fun _ _ _ h => h) (Or.inl ⟨by kernel_rfl, fun w' hS' => ?y8⟩) (⟨hm5.below hB11, (hB11.block x (Array.getElem?_eq_some_iff.1 hx5).1).trans hx5⟩) ?_
    case y8 => (clear hS'; go_simp)
    simp only [Act.put, List.setIfInBounds_toArray, List.set_cons_zero, List.set_cons_succ]
    refine wpAnyH_ready (rs := [14]) (by kernel_rfl) (by simp) ?_
    refine AllReadyH.cons rfl (fun K hK => ?_) AllReadyH.nil
    go_simp
    refine (ttext_any C.s (toZ t) v11).mono ?_
    rintro e v12 ⟨rfl, hb⟩
    rw [HTX.out]
    have hB12 := hB11.trans (hb.mono hB11.size)
    replace hyz := (hb.block _ (Array.getElem?_eq_some_iff.1 hyz).1).trans hyz
    refine hK.out _ _ (⟨hm5.below hB12, (hB12.block x (Array.getElem?_eq_some_iff.1 hx5).1).trans hx5⟩) (fun _ => ?_)
    clear hK K
    try simp only [Act.put, List.setIfInBounds_toArray, List.set_cons_zero, List.set_cons_succ]
    refine wpAnyH_ready (rs := [17]) (by kernel_rfl) (by simp) ?_
    refine AllReadyH.cons rfl (fun K hK => ?_) AllReadyH.nil
    go_simp
    refine (token_any (C.s.extract q t.a) (C.s.extract t.a t.z) (t.a : Nat) v12).mono ?_
    rintro e v13 ⟨rfl, hb⟩
    have hB13 := hB12.trans (hb.mono hB12.size)
    replace hyz := (hb.block _ (Array.getElem?_eq_some_iff.1 hyz).1).trans hyz
    refine hK.out _ _ (⟨hm5.below hB13, (hB13.block x (Array.getElem?_eq_some_iff.1 hx5).1).trans hx5⟩) (fun _ => ?_)
    clear hK K
    try simp only [Act.put, List.setIfInBounds_toArray, List.set_cons_zero, List.set_cons_succ]
    refine wpAnyH_ready (rs := [19]) (by kernel_rfl) (by simp) ?_
    refine AllReadyH.cons rfl (fun K hK => ?_) AllReadyH.nil
    refine step_store_node (by rfl) 30 (.tmp 6) (.tmp 39) (by rfl) size_tnode w5.heap.size (⟨1, C.s.extract q t.a, C.s.extract t.a t.z, (t.a : Nat), none, 0, []⟩ : Tr) (by rfl) (by rfl) hyz ?_
    have hyf := set5_self hyz (⟨1, C.s.extract q t.a, C.s.extract t.a t.z, (t.a : Nat), none, 0, []⟩ : Tr)
    have hBf := below_set5 hB13 hyl (⟨1, C.s.extract q t.a, C.s.extract t.a t.z, (t.a : Nat), none, 0, []⟩ : Tr)
    generalize set5 v13 w5.heap.size (⟨1, C.s.extract q t.a, C.s.extract t.a t.z, (t.a : Nat), none, 0, []⟩ : Tr) = wf at hyf hBf ⊢
    refine hK.out _ _ (⟨hm5.below hBf, (hBf.block x (Array.getElem?_eq_some_iff.1 hx5).1).trans hx5⟩) (fun _ => ?_)
    clear hK K
    try simp only [Act.put, List.setIfInBounds_toArray]
    refine wpAnyH_done (by kernel_rfl) ?_ _
    subst hLF
    exact REST.out w5.heap.size wf hBf hyl hyf
end
end Go.Proofs.YtfmlcddakfbleaaGreatDoor

namespace Go.Proofs.YtfmlcddakfbleaaGreatDoor
open Go.RowKit SignMath TreeMath

/-- is the next token of that kind? -/
def Cu.anyb (C : Cu) (k : Int) : Bool := match C.nxt 0 with
  | some t => decide (((t.k : Nat) : Int) = k)
  | none => false
theorem Cu.isb_some {C : Cu} {s : ByteArray} (h : C.isb 0 s = true) : ∃ t, C.nxt 0 = some t := by
  cases hx : C.nxt 0 with
  | some t => exact ⟨t, rfl⟩
  | none =>
    unfold Cu.isb Cu.pk at h
    rw [if_neg (by omega)] at h
    simp [hx] at h

section
variable {b : Nat} {A : Option Addr} {c : Nat} {C : Cu} {W : World}

set_option maxRecDepth 100000 in
set_option maxHeartbeats 4000000 in
theorem any_any (k : Int) (h : CuM b A c C W) (hk : C.Ok) : Calls Tryz.prog 108 #[.pointer (some ⟨b, 0, none⟩), .int .i64 k] W (CuV b A c (C.take (C.anyb k)).1 W fun e => e = .returned (nv (C.take (C.anyb k)).2)) := by
  have h0 := h.below (below1 W zb5)
  have HP := Lib.hid (peek_any 0 ⟨by omega, by omega⟩ h0 hk)
  have HL : Hid (∀ w1, Below (W.alloc zb5).heap.size (W.alloc zb5) w1 → Calls Tryz.prog 25 #[.pointer (some ⟨b, 0, none⟩)] w1 (Rd w1 (.int .i64 (C.left : Nat)))) := Lib.hid fun w1 hb => left_any (h0.below hb) hk
  have HN : Hid (∀ w1, Below (W.alloc zb5).heap.size (W.alloc zb5) w1 → Calls Tryz.prog 119 #[.pointer (some ⟨b, 0, none⟩), .bool false] w1 (CuV b A c (C.fail 2) w1 fun e => e = .returned (nv zn1))) := Lib.hid fun w1 hb => takeIf_no (h0.below hb) hk
  have HY : Hid (∀ t, C.nxt 0 = some t → ∀ w1, Below (W.alloc zb5).heap.size (W.alloc zb5) w1 → Calls Tryz.prog 119 #[.pointer (some ⟨b, 0, none⟩), .bool true] w1 (CuV b A c { C with n := C.n + 1 } w1 fun e => e = .returned (nv (C.leaf t)))) := Lib.hid fun t ht w1 hb => takeIf_yes ht (h0.below hb) hk
  have HM := Lib.hid h
  have hnn := hk.n
  unfold Rd at HP HL
  unfold Cu.pk at HP
  rw [if_neg (by omega)] at HP
  unfold Cu.anyb
  cases hx : C.nxt 0 with
  | none =>
    have hl : C.left = 0 := by have := Cu.nxt_none hx hnn; omega
    rw [Int.toNat_zero, hx] at HP
    rw [hl] at HL
    simp only [Cu.take_false]
    clear h hk h0 hx hl HY hnn
    go_enter Tryz.func108, Tryz.ntmps108
    go_wp2_with fail
    refine HP.out.mono ?_
    rintro e w1 ⟨rfl, hb1⟩
    have HB1 := Lib.hid hb1
    clear hb1
    go_wp2_with fail
    refine (HL.out w1 HB1.out).mono ?_
    rintro e w2 ⟨rfl, hb2⟩
    have HB2 := Lib.hid (HB1.out.trans (hb2.mono HB1.out.size))
    clear hb2
    go_wp2_with fail
    refine (HN.out w2 HB2.out).mono ?_
    intro e w3 hv
    have hv' : CuV b A c (C.fail 2) (W.alloc zb5) (fun e => e = .returned (nv zn1)) e w3 := ⟨hv.1, hv.2.1, (of_below HB2.out).trans hv.2.2⟩
    obtain ⟨hz, hm, ho, hs⟩ := res_set HM.out (C.fail_L 2) hv' zn1
    obtain ⟨rfl, -, -⟩ := hv
    have HH := Lib.hid (And.intro hm ho)
    clear hm ho hv'
    go_wp2_with (refine wpList_store_node (by rfl) 30 (.tmp 4) (.tmp 21) (by rfl) size_tnode W.heap.size zn1 (by rfl) (by rfl) hz ?_; generalize set5 w3 W.heap.size zn1 = w4 at hs HH ⊢)
    have g0 := cell_heap hs (i := 0)
    have g1 := cell_heap hs (i := 1)
    have g2 := cell_heap hs (i := 2)
    have g3 := cell_heap hs (i := 3)
    have g4 := cell_heap hs (i := 4)
    simp only [List.getElem?_toArray, List.getElem?_cons_zero, List.getElem?_cons_succ] at g0 g1 g2 g3 g4
    refine bodyPost_ret (v := nv zn1) (by simp [results, Tryz.results108, go_sem, g0, g1, g2, g3, g4]) rfl ⟨rfl, HH.out⟩
  | some t =>
    have hl := Cu.nxt_left hx
    have z1 : (0 : Int) < (C.left : Nat) := by omega
    rw [Int.toNat_zero, hx] at HP
    generalize C.left = q at HL z1
    simp only
    by_cases hkk : ((t.k : Nat) : Int) = k
    · subst hkk
      simp only [decide_true, Cu.take_true hx]
      have HT := Lib.hid (HY.out t hx)
      clear h hk h0 hl hnn HN HY hx
      go_enter Tryz.func108, Tryz.ntmps108
      go_wp2_with fail
      refine HP.out.mono ?_
      rintro e w1 ⟨rfl, hb1⟩
      have HB1 := Lib.hid hb1
      clear hb1
      go_wp2_with fail
      refine (HL.out w1 HB1.out).mono ?_
      rintro e w2 ⟨rfl, hb2⟩
      have HB2 := Lib.hid (HB1.out.trans (hb2.mono HB1.out.size))
      have hbe : (((t.k : Nat) : Int) == ((t.k : Nat) : Int)) = true := by simp
      clear hb2
      go_wp2_with fail
      refine (HT.out w2 HB2.out).mono ?_
      intro e w3 hv
      have hv' : CuV b A c { C with n := C.n + 1 } (W.alloc zb5) (fun e => e = .returned (nv (C.leaf t))) e w3 := ⟨hv.1, hv.2.1, (of_below HB2.out).trans hv.2.2⟩
      obtain ⟨hz, hm, ho, hs⟩ := res_set HM.out (C' := { C with n := C.n + 1 }) rfl hv' (C.leaf t)
      obtain ⟨rfl, -, -⟩ := hv
      have HH := Lib.hid (And.intro hm ho)
      generalize hLF : C.leaf t = LF at hs HH ⊢
      clear hm ho hv'
      go_wp2_with (refine wpList_store_node (by rfl) 30 (.tmp 4) (.tmp 21) (by rfl) size_tnode W.heap.size LF (by rfl) (by rfl) hz ?_; generalize set5 w3 W.heap.size LF = w4 at hs HH ⊢)
      have g0 := cell_heap hs (i := 0)
      have g1 := cell_heap hs (i := 1)
      have g2 := cell_heap hs (i := 2)
      have g3 := cell_heap hs (i := 3)
      have g4 := cell_heap hs (i := 4)
      simp only [List.getElem?_toArray, List.getElem?_cons_zero, List.getElem?_cons_succ] at g0 g1 g2 g3 g4
      refine bodyPost_ret (v := nv LF) (by simp [results, Tryz.results108, go_sem, g0, g1, g2, g3, g4]) rfl ⟨by show Ending.returned _ = Ending.returned _; rw [hLF], HH.out⟩
    · rw [decide_eq_false hkk]
      simp only [Cu.take_false]
      have hbe : (((t.k : Nat) : Int) == k) = false := by rw [beq_eq_false_iff_ne]; exact hkk
      clear h hk h0 hl hnn HY hx hkk
      go_enter Tryz.func108, Tryz.ntmps108
      go_wp2_with fail
      refine HP.out.mono ?_
      rintro e w1 ⟨rfl, hb1⟩
      have HB1 := Lib.hid hb1
      clear hb1
      go_wp2_with fail
      refine (HL.out w1 HB1.out).mono ?_
      rintro e w2 ⟨rfl, hb2⟩
      have HB2 := Lib.hid (HB1.out.trans (hb2.mono HB1.out.size))
      clear hb2
      go_wp2_with fail
      refine (HN.out w2 HB2.out).mono ?_
      intro e w3 hv
      have hv' : CuV b A c (C.fail 2) (W.alloc zb5) (fun e => e = .returned (nv zn1)) e w3 := ⟨hv.1, hv.2.1, (of_below HB2.out).trans hv.2.2⟩
      obtain ⟨hz, hm, ho, hs⟩ := res_set HM.out (C.fail_L 2) hv' zn1
      obtain ⟨rfl, -, -⟩ := hv
      have HH := Lib.hid (And.intro hm ho)
      clear hm ho hv'
      go_wp2_with (refine wpList_store_node (by rfl) 30 (.tmp 4) (.tmp 21) (by rfl) size_tnode W.heap.size zn1 (by rfl) (by rfl) hz ?_; generalize set5 w3 W.heap.size zn1 = w4 at hs HH ⊢)
      have g0 := cell_heap hs (i := 0)
      have g1 := cell_heap hs (i := 1)
      have g2 := cell_heap hs (i := 2)
      have g3 := cell_heap hs (i := 3)
      have g4 := cell_heap hs (i := 4)
      simp only [List.getElem?_toArray, List.getElem?_cons_zero, List.getElem?_cons_succ] at g0 g1 g2 g3 g4
      refine bodyPost_ret (v := nv zn1) (by simp [results, Tryz.results108, go_sem, g0, g1, g2, g3, g4]) rfl ⟨rfl, HH.out⟩

set_option maxRecDepth 100000 in
set_option maxHeartbeats 4000000 in
theorem want_any (s : ByteArray) (h : CuM b A c C W) (hk : C.Ok) : Calls Tryz.prog 106 #[.pointer (some ⟨b, 0, none⟩), .string s] W (CuV b A c (C.take (C.isb 0 s)).1 W fun e => e = .returned (nv (C.take (C.isb 0 s)).2)) := by
  have h0 := h.below (below1 W zb5)
  have HI := Lib.hid (is_any 0 s ⟨by omega, by omega⟩ h0 hk)
  have HM := Lib.hid h
  unfold Rd at HI
  cases hq : C.isb 0 s with
  | false =>
    rw [hq] at HI
    have HN : Hid (∀ w1, Below (W.alloc zb5).heap.size (W.alloc zb5) w1 → Calls Tryz.prog 119 #[.pointer (some ⟨b, 0, none⟩), .bool false] w1 (CuV b A c (C.fail 2) w1 fun e => e = .returned (nv zn1))) := Lib.hid fun w1 hb => takeIf_no (h0.below hb) hk
    simp only [Cu.take_false]
    clear h hk h0 hq
    go_enter Tryz.func106, Tryz.ntmps106
    go_wp2_with fail
    refine HI.out.mono ?_
    rintro e w2 ⟨rfl, hb2⟩
    have HB2 := Lib.hid hb2
    clear hb2
    go_wp2_with fail
    refine (HN.out w2 HB2.out).mono ?_
    intro e w3 hv
    have hv' : CuV b A c (C.fail 2) (W.alloc zb5) (fun e => e = .returned (nv zn1)) e w3 := ⟨hv.1, hv.2.1, (of_below HB2.out).trans hv.2.2⟩
    obtain ⟨hz, hm, ho, hs⟩ := res_set HM.out (C.fail_L 2) hv' zn1
    obtain ⟨rfl, -, -⟩ := hv
    have HH := Lib.hid (And.intro hm ho)
    clear hm ho hv'
    go_wp2_with (refine wpList_store_node (by rfl) 30 (.tmp 4) (.tmp 9) (by rfl) size_tnode W.heap.size zn1 (by rfl) (by rfl) hz ?_; generalize set5 w3 W.heap.size zn1 = w4 at hs HH ⊢)
    have g0 := cell_heap hs (i := 0)
    have g1 := cell_heap hs (i := 1)
    have g2 := cell_heap hs (i := 2)
    have g3 := cell_heap hs (i := 3)
    have g4 := cell_heap hs (i := 4)
    simp only [List.getElem?_toArray, List.getElem?_cons_zero, List.getElem?_cons_succ] at g0 g1 g2 g3 g4
    refine bodyPost_ret (v := nv zn1) (by simp [results, Tryz.results106, go_sem, g0, g1, g2, g3, g4]) rfl ⟨rfl, HH.out⟩
  | true =>
    rw [hq] at HI
    obtain ⟨t, ht⟩ := Cu.isb_some hq
    have HY : Hid (∀ w1, Below (W.alloc zb5).heap.size (W.alloc zb5) w1 → Calls Tryz.prog 119 #[.pointer (some ⟨b, 0, none⟩), .bool true] w1 (CuV b A c { C with n := C.n + 1 } w1 fun e => e = .returned (nv (C.leaf t)))) := Lib.hid fun w1 hb => takeIf_yes ht (h0.below hb) hk
    simp only [Cu.take_true ht]
    clear h hk h0 hq ht
    go_enter Tryz.func106, Tryz.ntmps106
    go_wp2_with fail
    refine HI.out.mono ?_
    rintro e w2 ⟨rfl, hb2⟩
    have HB2 := Lib.hid hb2
    clear hb2
    go_wp2_with fail
    refine (HY.out w2 HB2.out).mono ?_
    intro e w3 hv
    have hv' : CuV b A c { C with n := C.n + 1 } (W.alloc zb5) (fun e => e = .returned (nv (C.leaf t))) e w3 := ⟨hv.1, hv.2.1, (of_below HB2.out).trans hv.2.2⟩
    obtain ⟨hz, hm, ho, hs⟩ := res_set HM.out (C' := { C with n := C.n + 1 }) rfl hv' (C.leaf t)
    obtain ⟨rfl, -, -⟩ := hv
    have HH := Lib.hid (And.intro hm ho)
    generalize hLF : C.leaf t = LF at hs HH ⊢
    clear hm ho hv'
    go_wp2_with (refine wpList_store_node (by rfl) 30 (.tmp 4) (.tmp 9) (by rfl) size_tnode W.heap.size LF (by rfl) (by rfl) hz ?_; generalize set5 w3 W.heap.size LF = w4 at hs HH ⊢)
    have g0 := cell_heap hs (i := 0)
    have g1 := cell_heap hs (i := 1)
    have g2 := cell_heap hs (i := 2)
    have g3 := cell_heap hs (i := 3)
    have g4 := cell_heap hs (i := 4)
    simp only [List.getElem?_toArray, List.getElem?_cons_zero, List.getElem?_cons_succ] at g0 g1 g2 g3 g4
    refine bodyPost_ret (v := nv LF) (by simp [results, Tryz.results106, go_sem, g0, g1, g2, g3, g4]) rfl ⟨by show Ending.returned _ = Ending.returned _; rw [hLF], HH.out⟩
end
end Go.Proofs.YtfmlcddakfbleaaGreatDoor

namespace Go.Proofs.YtfmlcddakfbleaaGreatDoor
open Go.RowKit SignMath TreeMath

variable (W : World)





theorem at_nil : Calls Tryz.prog 51 #[.pointer none] W (Rd W (.int .i64 0)) := by
  go_enter Tryz.func51, Tryz.ntmps51
  go_wp2
  go_ret
  exact ⟨rfl, Below.refl _ _⟩
theorem end_nil : Calls Tryz.prog 28 #[.pointer none] W (Rd W (.string ⟨#[]⟩)) := by
  go_enter Tryz.func28, Tryz.ntmps28
  go_wp2
  go_ret
  exact ⟨rfl, Below.refl _ _⟩
theorem down_nil : Calls Tryz.prog 101 #[.pointer none] W (Rd W (.bool false)) := by
  go_enter Tryz.func101, Tryz.ntmps101
  go_wp2
  go_ret
  exact ⟨rfl, Below.refl _ _⟩
theorem failed_nil : Calls Tryz.prog 27 #[.pointer none] W (Rd W (.tuple #[.int .i64 0, errn 2])) := by
  go_enter Tryz.func27, Tryz.ntmps27
  go_wp2
  refine bodyPost_ret (v := .tuple #[.int .i64 0, errn 2]) (by simp [results, Tryz.results27, go_sem]) rfl ⟨rfl, Below.refl _ _⟩
theorem up_nil : Calls Tryz.prog 102 #[.pointer none] W fun e w' => (∃ v, e = .returned v) ∧ Below W.heap.size W w' := by
  go_enter Tryz.func102, Tryz.ntmps102
  go_wp2
  refine bodyPost_end (results_none rfl _ _ _) rfl ?_
  exact ⟨⟨_, rfl⟩, Below.refl _ _⟩
theorem fail_nil (n : Int) : Calls Tryz.prog 26 #[.pointer none, .int .i64 n] W fun e w' => (∃ v, e = .returned v) ∧ Below W.heap.size W w' := by
  go_enter Tryz.func26, Tryz.ntmps26
  go_wp2
  refine bodyPost_ret (results_none rfl _ _ _) rfl ?_
  exact ⟨⟨_, rfl⟩, Below.refl _ _⟩
theorem peek_nil : Calls Tryz.prog 95 #[.pointer none, .int .i64 0] W (Rd W (.tuple #[.int .i64 0, .string ⟨#[]⟩])) := by
  have HL := Lib.hid (left_nil W)
  unfold Rd at HL
  go_enter Tryz.func95, Tryz.ntmps95
  go_wp2_with fail
  refine HL.out.mono ?_
  rintro e w1 ⟨rfl, hb⟩
  go_wp2
  refine bodyPost_ret (v := .tuple #[.int .i64 0, .string ⟨#[]⟩]) (by simp [results, Tryz.results95, go_sem]) rfl ⟨rfl, hb⟩
theorem is_nil (s : ByteArray) : Calls Tryz.prog 83 #[.pointer none, .int .i64 0, .string s] W (Rd W (.bool false)) := by
  have HP := Lib.hid (peek_nil W)
  unfold Rd at HP
  go_enter Tryz.func83, Tryz.ntmps83
  go_wp2_with fail
  refine HP.out.mono ?_
  rintro e w1 ⟨rfl, hb⟩
  go_wp2
  go_ret
  exact ⟨rfl, hb⟩
set_option maxRecDepth 100000 in
set_option maxHeartbeats 2000000 in
theorem takeIf_nil : Calls Tryz.prog 119 #[.pointer none, .bool false] W fun e w' => e = .returned (nv zn1) ∧ Below W.heap.size W w' := by
  have HF := Lib.hid (fail_nil (W.alloc zb5) 2)
  go_enter Tryz.func119, Tryz.ntmps119
  go_wp2_with fail
  refine HF.out.mono ?_
  rintro e w1 ⟨⟨v, rfl⟩, hb⟩
  have hz := (hb.block W.heap.size (by simp)).trans (heap_alloc_new W zb5)
  have hs := set5_self hz zn1
  have hB := below_set5 ((below1 W zb5).trans (hb.mono (by simp))) (Nat.le_refl _) zn1
  have HH := Lib.hid hB
  clear hb hB
  go_wp2_with (refine wpList_store_node (by rfl) 30 (.tmp 4) (.tmp 11) (by rfl) size_tnode W.heap.size zn1 (by rfl) (by rfl) hz ?_; generalize set5 w1 W.heap.size zn1 = w2 at hs HH ⊢)
  have g0 := cell_heap hs (i := 0)
  have g1 := cell_heap hs (i := 1)
  have g2 := cell_heap hs (i := 2)
  have g3 := cell_heap hs (i := 3)
  have g4 := cell_heap hs (i := 4)
  simp only [List.getElem?_toArray, List.getElem?_cons_zero, List.getElem?_cons_succ] at g0 g1 g2 g3 g4
  refine bodyPost_ret (v := nv zn1) (by simp [results, Tryz.results119, go_sem, g0, g1, g2, g3, g4]) rfl ⟨rfl, HH.out⟩
set_option maxRecDepth 100000 in
set_option maxHeartbeats 2000000 in
theorem any_nil (k : Int) : Calls Tryz.prog 108 #[.pointer none, .int .i64 k] W fun e w' => e = .returned (nv zn1) ∧ Below W.heap.size W w' := by
  have HP := Lib.hid (peek_nil (W.alloc zb5))
  unfold Rd at HP
  go_enter Tryz.func108, Tryz.ntmps108
  go_wp2_with fail
  refine HP.out.mono ?_
  rintro e w1 ⟨rfl, hb1⟩
  have HB1 := Lib.hid hb1
  have HL := Lib.hid (left_nil w1)
  unfold Rd at HL
  clear hb1
  go_wp2_with fail
  refine HL.out.mono ?_
  rintro e w2 ⟨rfl, hb2⟩
  have HB2 := Lib.hid (HB1.out.trans (hb2.mono HB1.out.size))
  have HT := Lib.hid (takeIf_nil w2)
  clear hb2
  go_wp2_with fail
  refine HT.out.mono ?_
  rintro e w3 ⟨rfl, hb3⟩
  have hb := HB2.out.trans (hb3.mono HB2.out.size)
  have hz := (hb.block W.heap.size (by simp)).trans (heap_alloc_new W zb5)
  have hs := set5_self hz zn1
  have hB := below_set5 ((below1 W zb5).trans (hb.mono (by simp))) (Nat.le_refl _) zn1
  have HH := Lib.hid hB
  clear hb hB hb3
  go_wp2_with (refine wpList_store_node (by rfl) 30 (.tmp 4) (.tmp 21) (by rfl) size_tnode W.heap.size zn1 (by rfl) (by rfl) hz ?_; generalize set5 w3 W.heap.size zn1 = w4 at hs HH ⊢)
  have g0 := cell_heap hs (i := 0)
  have g1 := cell_heap hs (i := 1)
  have g2 := cell_heap hs (i := 2)
  have g3 := cell_heap hs (i := 3)
  have g4 := cell_heap hs (i := 4)
  simp only [List.getElem?_toArray, List.getElem?_cons_zero, List.getElem?_cons_succ] at g0 g1 g2 g3 g4
  refine bodyPost_ret (v := nv zn1) (by simp [results, Tryz.results108, go_sem, g0, g1, g2, g3, g4]) rfl ⟨rfl, HH.out⟩
set_option maxRecDepth 100000 in
set_option maxHeartbeats 2000000 in
theorem want_nil (s : ByteArray) : Calls Tryz.prog 106 #[.pointer none, .string s] W fun e w' => e = .returned (nv zn1) ∧ Below W.heap.size W w' := by
  have HP := Lib.hid (is_nil (W.alloc zb5) s)
  unfold Rd at HP
  go_enter Tryz.func106, Tryz.ntmps106
  go_wp2_with fail
  refine HP.out.mono ?_
  rintro e w2 ⟨rfl, hb1⟩
  have HB2 := Lib.hid hb1
  have HT := Lib.hid (takeIf_nil w2)
  clear hb1
  go_wp2_with fail
  refine HT.out.mono ?_
  rintro e w3 ⟨rfl, hb3⟩
  have hb := HB2.out.trans (hb3.mono HB2.out.size)
  have hz := (hb.block W.heap.size (by simp)).trans (heap_alloc_new W zb5)
  have hs := set5_self hz zn1
  have hB := below_set5 ((below1 W zb5).trans (hb.mono (by simp))) (Nat.le_refl _) zn1
  have HH := Lib.hid hB
  clear hb hB hb3
  go_wp2_with (refine wpList_store_node (by rfl) 30 (.tmp 4) (.tmp 9) (by rfl) size_tnode W.heap.size zn1 (by rfl) (by rfl) hz ?_; generalize set5 w3 W.heap.size zn1 = w4 at hs HH ⊢)
  have g0 := cell_heap hs (i := 0)
  have g1 := cell_heap hs (i := 1)
  have g2 := cell_heap hs (i := 2)
  have g3 := cell_heap hs (i := 3)
  have g4 := cell_heap hs (i := 4)
  simp only [List.getElem?_toArray, List.getElem?_cons_zero, List.getElem?_cons_succ] at g0 g1 g2 g3 g4
  refine bodyPost_ret (v := nv zn1) (by simp [results, Tryz.results106, go_sem, g0, g1, g2, g3, g4]) rfl ⟨rfl, HH.out⟩
end Go.Proofs.YtfmlcddakfbleaaGreatDoor

namespace Go.Proofs.YtfmlcddakfbleaaGreatDoor
open Go.RowKit SignMath TreeMath

theorem ch_pair {n : Nat} : ∀ {L : List Tk} {a : Nat}, Ch n a L → L.Pairwise (fun x y => x.z ≤ y.a) ∧ ∀ x ∈ L, a ≤ x.a
  | [], _, _ => ⟨List.Pairwise.nil, fun _ h => by cases h⟩
  | t :: r, a, h => by
    obtain ⟨h1, h2, h3, h4⟩ := h
    obtain ⟨p, q⟩ := ch_pair h4
    refine ⟨List.pairwise_cons.2 ⟨q, p⟩, fun x hx => ?_⟩
    rcases List.mem_cons.1 hx with rfl | hx
    · omega
    · have := q x hx; omega

/-- the cursor ahead of a text's first token -/
def cu0 (s : ByteArray) : Cu := ⟨s, rls (tk (bs s) 0), 0, 0, 0, 0⟩
theorem cu0_ok (s : ByteArray) (hs : s.size ≤ 4000) : (cu0 s).Ok := by
  have hch := tk_chain (bs s) _ 0 (Nat.le_refl _) (Nat.zero_le _)
  rw [bs_size] at hch
  have hb := chain_bound hch
  have hp := (ch_pair hch).1.filter (fun t => decide (2 < t.k))
  have hl := tk_size s
  have hr := rls_len (tk (bs s) 0)
  refine ⟨Nat.zero_le _, hs, ?_, fun t ht => hb t (List.mem_filter.1 ht).1, fun i x y hx hy => ?_, Nat.zero_le _, ⟨Int.le_refl _, by show (0 : Int) ≤ 15; omega⟩, ⟨Int.le_refl _, by show (0 : Int) ≤ 4000; omega⟩⟩
  · show (rls (tk (bs s) 0)).length ≤ 4000
    omega
  · obtain ⟨hi, rfl⟩ := List.getElem?_eq_some_iff.1 hx
    obtain ⟨hj, rfl⟩ := List.getElem?_eq_some_iff.1 hy
    exact List.pairwise_iff_getElem.1 hp i (i + 1) hi hj (by omega)

/-- what New answers -/
def NewV (s : ByteArray) (w : World) (e : Ending) (w' : World) : Prop :=
  if 4000 < s.size then e = .returned (.tuple #[.pointer none, .int .i64 4000, errn 4]) ∧ Below w.heap.size w w'
  else match bad (tk (bs s) 0) with
    | some t => e = .returned (.tuple #[.pointer none, .int .i64 (t.a : Nat), errn 2]) ∧ Below w.heap.size w w'
    | none => ∃ b A c, e = .returned (.tuple #[.pointer (some ⟨b, 0, none⟩), .int .i64 0, .nilIface]) ∧ w.heap.size ≤ b ∧ CuM b A c (cu0 s) w' ∧ Below w.heap.size w w'

set_option maxRecDepth 100000 in
set_option maxHeartbeats 2000000 in
theorem new_any (s : ByteArray) (w : World) (hL : LaidX w) : Calls Tryz.prog 22 #[.string s] w (NewV s w) := by
  unfold NewV
  by_cases hs : 4000 < s.size
  · simp only [if_pos hs]
    have z1 : (4000 : Int) < (s.size : Nat) := by omega
    clear hs hL
    go_enter Tryz.func22, Tryz.ntmps22
    go_wp2
    refine bodyPost_ret (v := .tuple #[.pointer none, .int .i64 4000, errn 4]) (by simp [results, Tryz.results22, go_sem]) rfl ⟨rfl, Below.refl _ _⟩
  · simp only [if_neg hs]
    have z1 : ¬ (4000 : Int) < (s.size : Nat) := by omega
    have HR := Lib.hid (real_any s (by omega) w hL)
    unfold RlV rlT rlA rlE at HR
    unfold cu0
    cases hbd : bad (tk (bs s) 0) with
    | some t =>
      simp only [hbd] at HR ⊢
      clear hs hL hbd
      go_enter Tryz.func22, Tryz.ntmps22
      go_wp2_with fail
      refine HR.out.mono ?_
      rintro e w1 ⟨A, c, rfl, -, -, hb⟩
      go_wp2
      refine bodyPost_ret (v := .tuple #[.pointer none, .int .i64 (t.a : Nat), errn 2]) (by simp [results, Tryz.results22, go_sem]) rfl ⟨rfl, hb⟩
    | none =>
      simp only [hbd] at HR ⊢
      generalize rls (tk (bs s) 0) = L at HR ⊢
      clear hs hL hbd
      go_enter Tryz.func22, Tryz.ntmps22
      go_wp2_with fail
      refine HR.out.mono ?_
      rintro e w1 ⟨A, c, rfl, hr, hA, hb⟩
      have hal := heap_alloc_new w1 (cubx ⟨s, L, 0, 0, 0, 0⟩ A c)
      have hr2 := hr.after (below1 w1 (cubx ⟨s, L, 0, 0, 0, 0⟩ A c))
      have hne : 0 < (tcells L).length → ∀ a, A = some a → a.block ≠ w1.heap.size := fun hn a ha => by
        obtain ⟨g, off, e, hg, -⟩ := hr hn
        rw [ha] at e; injection e with e; rw [e]; show g ≠ _; omega
      have HH := Lib.hid (show CuM w1.heap.size A c ⟨s, L, 0, 0, 0, 0⟩ (w1.alloc (cubx ⟨s, L, 0, 0, 0, 0⟩ A c)) from ⟨hal, hr2, hne⟩)
      have HB := Lib.hid (And.intro hb.size (hb.trans ((below1 w1 (cubx ⟨s, L, 0, 0, 0, 0⟩ A c)).mono hb.size)))
      clear hal hr2 hne hr hA hb
      go_wp2
      refine bodyPost_ret (v := .tuple #[.pointer (some ⟨w1.heap.size, 0, none⟩), .int .i64 0, .nilIface]) (by simp [results, Tryz.results22, go_sem]) rfl ⟨w1.heap.size, A, c, rfl, HB.out.1, HH.out, HB.out.2⟩
end Go.Proofs.YtfmlcddakfbleaaGreatDoor
