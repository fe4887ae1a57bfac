/- The document's cursor: Take, Any, Want, New. -/
import Derived.Test.YtjnclchbklehgaaGreatDoorMzRef
import Derived.Test.YtjnclchbklehgaaGreatDoorTextStore
import Derived.Test.YtjnclchbklehgaaGreatDoorMzBox
namespace Go.Proofs.YtjnclchbklehgaaGreatDoor
open Go.RowKit SignMath TreeMath

attribute [local go_sem] Oper.semAt_some

section
variable {A : Option Addr} {c : Nat} {C : Cu} {W : World}

abbrev zn7 : Obj := .cells #[.int .i64 0, .string ⟨#[]⟩, .string ⟨#[]⟩, .int .i64 0, .slice none 0 0] 45 (0, 0)
/-- the three boxes: the parameter's and the results' -/
theorem three_boxes (W : World) (C : Cu) (A : Option Addr) (c : Nat) : Below W.heap.size W (((W.alloc (rcb C A c)).alloc zb6).alloc zn7) ∧ (((W.alloc (rcb C A c)).alloc zb6).alloc zn7).heap[W.heap.size]? = some (rcb C A c) ∧ (((W.alloc (rcb C A c)).alloc zb6).alloc zn7).heap[W.heap.size + 1]? = some zb6 ∧ (((W.alloc (rcb C A c)).alloc zb6).alloc zn7).heap[W.heap.size + 2]? = some zn7 := by
  obtain ⟨h1, h2, h3⟩ := two_boxes W C A c
  refine ⟨h1.alloc (by simp; omega) _, (Below.heap_alloc _ _ _ (by simp; omega)).trans h2, (Below.heap_alloc _ _ _ (by simp)).trans h3, ?_⟩
  have := heap_alloc_new ((W.alloc (rcb C A c)).alloc zb6) zn7
  rwa [World.size_alloc, World.size_alloc] at this
/-- two results: a cursor and a node, stored -/
theorem wpList_store_two {ops : Array Oper} {o1 o2 : Oper} {a : Act} {w : World} {Q : Exit → Act → World → Prop} (t1 t2 : TypeId) (x1 y1 x2 y2 : Operand) (hg1 : o1.guard = none) (hg2 : o2.guard = none) (ho1 : o1.op = .store t1 x1 y1) (ho2 : o2.op = .store t2 x2 y2) (hd : o1.dst = none)
    (hs1 : ∀ w : World, (sizeOf t1).run Tryz.prog w = .ok 6 w) (hs2 : ∀ w : World, (sizeOf t2).run Tryz.prog w = .ok 5 w) (b : Nat) (C : Cu) (A : Option Addr) (c : Nat) (T : Tr) (h1 : w.heap[b]? = some zb6) (h2 : w.heap[b + 1]? = some zn7)
    (e1 : a.eval x1 = .pointer (some ⟨b, 0, none⟩)) (e2 : a.eval y1 = rcv C A c) (e3 : a.eval x2 = .pointer (some ⟨b + 1, 0, none⟩)) (e4 : a.eval y2 = nv T)
    (h : ∀ w', w'.heap[b]? = some (rcb C A c) → w'.heap[b + 1]? = some (.cells (ncc T) 45 (0, 0)) → (∀ B v, Below B v w → B ≤ b → Below B v w') → wpList Tryz.prog ops Q [] ((a.put o1.dst undef).put o2.dst undef) w') : wpList Tryz.prog ops Q [o1, o2] a w := by
  refine wpList_store_six hg1 t1 x1 y1 ho1 hs1 b e1 e2 h1 ?_
  have hz2 : (set6 w b C.s A C.L.length c (C.n : Nat) (C.d : Nat) C.p C.f).heap[b + 1]? = some zn7 := (set6_other (by omega) _ _ _ _ _ _ _ _).trans h2
  have hz1 := set6_self h1 C.s A C.L.length c (C.n : Nat) (C.d : Nat) C.p C.f
  refine wpList_store_node hg2 t2 x2 y2 ho2 hs2 (b + 1) T (by rw [hd]; exact e3) (by rw [hd]; exact e4) hz2 ?_
  exact h _ ((set5_other (by omega) T).trans hz1) (set5_self hz2 T) fun B v hB hb => below_set5 (below_set6 hB hb _ _ _ _ _ _ _ _) (by omega) T

set_option maxRecDepth 100000 in
set_option maxHeartbeats 1000000 in
theorem rtake_not (hr : RcR C A W) (hk : C.Ok) : Calls Tryz.prog 45 #[rcv C A c, .bool false] W (Rd W (.tuple #[rcv (C.fail 2) A c, nv zn1])) := by
  obtain ⟨hB, hx, hz, hn⟩ := three_boxes W C A c
  have HF := Lib.hid (rfail_any (A := A) (c := c) 2 (rc_after hr hB) hk)
  unfold Rd at HF ⊢
  generalize C.fail 2 = C' at HF ⊢
  have HB := Lib.hid hB
  have HZ := Lib.hid hz
  have HN := Lib.hid hn
  clear hr hk hB hx hz hn
  go_enter Tryz.func45, Tryz.ntmps45
  go_wp2_with fail
  refine HF.out.mono ?_
  rintro e w1 ⟨rfl, hb⟩
  have hz1 := (hb.block _ (by simp)).trans HZ.out
  have hn1 := (hb.block _ (by simp)).trans HN.out
  have HB1 := Lib.hid (HB.out.trans (hb.mono HB.out.size))
  clear hb HF HB HZ HN
  go_wp2_with (refine wpList_store_two 31 45 (.tmp 4) (.tmp 16) (.tmp 5) (.tmp 17) (by rfl) (by rfl) (by rfl) (by rfl) (by rfl) size_rcur size_rnode (W.heap.size + 1) C' A c zn1 hz1 hn1 (by rfl) (by rfl) (by rfl) (by rfl) ?_; intro w2 g6 g5 hq)
  have hbq := hq _ _ HB1.out (by omega)
  have g := heap6 g6
  have k := heap5 g5
  obtain ⟨g0, g1, g2, g3, g4, g5'⟩ := g
  obtain ⟨k0, k1, k2, k3, k4⟩ := k
  clear g6 g5 hq
  go_wp2
  refine bodyPost_ret (v := .tuple #[rcv C' A c, nv zn1]) (by simp [results, Tryz.results45, go_sem, g0, g1, g2, g3, g4, g5', k0, k1, k2, k3, k4]) rfl ⟨rfl, hbq⟩

set_option maxRecDepth 100000 in
set_option maxHeartbeats 1000000 in
theorem rtake_end (hr : RcR C A W) (hk : C.Ok) (hl : C.left = 0) : Calls Tryz.prog 45 #[rcv C A c, .bool true] W (Rd W (.tuple #[rcv (C.fail 2) A c, nv zn1])) := by
  obtain ⟨hB, hx, hz, hn⟩ := three_boxes W C A c
  have HLF := Lib.hid (rleft_any (A := A) (c := c) (W := ((W.alloc (rcb C A c)).alloc zb6).alloc zn7) hk)
  rw [hl] at HLF
  have HF : Hid (∀ W' : World, RcR C A W' → Calls Tryz.prog 22 #[rcv C A c, .int .i64 2] W' (Rd W' (rcv (C.fail 2) A c))) := Lib.hid fun W' h' => rfail_any 2 h' hk
  unfold Rd at HLF HF ⊢
  generalize C.fail 2 = C' at HF ⊢
  have HR := Lib.hid (rc_after hr hB)
  have HB := Lib.hid hB
  have HX := Lib.hid hx
  have HZ := Lib.hid hz
  have HN := Lib.hid hn
  clear hr hk hB hx hz hn hl
  go_enter Tryz.func45, Tryz.ntmps45
  go_wp2_with fail
  refine HLF.out.mono ?_
  rintro e w0 ⟨rfl, hb0⟩
  have hr0 := rc_after HR.out hb0
  have d6 := heap6 ((hb0.block _ (by simp; omega)).trans HX.out)
  have hz0 := (hb0.block _ (by simp)).trans HZ.out
  have hn0 := (hb0.block _ (by simp)).trans HN.out
  have HB0 := Lib.hid (HB.out.trans (hb0.mono HB.out.size))
  have HF0 := Lib.hid (HF.out w0 hr0)
  have HZ0 := Lib.hid hz0
  have HN0 := Lib.hid hn0
  clear hb0 hr0 hz0 hn0 HF HB HX HZ HN HLF HR
  go_wp2_with fail
  refine HF0.out.mono ?_
  rintro e w1 ⟨rfl, hb⟩
  have hz1 := (hb.block _ (Array.getElem?_eq_some_iff.1 HZ0.out).1).trans HZ0.out
  have hn1 := (hb.block _ (Array.getElem?_eq_some_iff.1 HN0.out).1).trans HN0.out
  have HB1 := Lib.hid (HB0.out.trans (hb.mono HB0.out.size))
  clear hb d6 HB0 HZ0 HN0 HF0
  go_wp2_with (refine wpList_store_two 31 45 (.tmp 4) (.tmp 16) (.tmp 5) (.tmp 17) (by rfl) (by rfl) (by rfl) (by rfl) (by rfl) size_rcur size_rnode (W.heap.size + 1) C' A c zn1 hz1 hn1 (by rfl) (by rfl) (by rfl) (by rfl) ?_; intro w2 g6 g5 hq)
  have hbq := hq _ _ HB1.out (by omega)
  have g := heap6 g6
  have k := heap5 g5
  obtain ⟨g0, g1, g2, g3, g4, g5'⟩ := g
  obtain ⟨k0, k1, k2, k3, k4⟩ := k
  clear g6 g5 hq
  go_wp2
  refine bodyPost_ret (v := .tuple #[rcv C' A c, nv zn1]) (by simp [results, Tryz.results45, go_sem, g0, g1, g2, g3, g4, g5', k0, k1, k2, k3, k4]) rfl ⟨rfl, hbq⟩

/-- what a taking holds -/
structure Tak (W : World) (C : Cu) (A : Option Addr) (c : Nat) (tb : Nat) (t : Tk) (w : World) : Prop where
  low : Below W.heap.size W w
  s : w.heap[W.heap.size]? = some (rcb C A c) ∧ w.heap[tb]? = some (.cells #[.int .i64 (t.k : Nat), .int .i64 (t.a : Nat), .int .i64 (t.z : Nat)] 108 (0, 0))
  z : w.heap[W.heap.size + 1]? = some zb6
  r : w.heap[W.heap.size + 2]? = some zn7
  rc : RcR C A w
theorem heap3r {W : World} {b : Nat} {t : Tk} {ty : TypeId} (h : W.heap[b]? = some (.cells #[.int .i64 (t.k : Nat), .int .i64 (t.a : Nat), .int .i64 (t.z : Nat)] ty (0, 0))) : W.cell? ⟨b, 0, none⟩ = some (.int .i64 (t.k : Nat)) ∧ W.cell? ⟨b, 1, none⟩ = some (.int .i64 (t.a : Nat)) ∧ W.cell? ⟨b, 2, none⟩ = some (.int .i64 (t.z : Nat)) := ⟨cell_heap h, cell_heap h, cell_heap h⟩
theorem Tak.step {w w' : World} {tb : Nat} {t : Tk} (h : Tak W C A c tb t w) (hb : Below w.heap.size w w') : Tak W C A c tb t w' := by
  have k : ∀ {b : Nat} {o : Obj}, w.heap[b]? = some o → w'.heap[b]? = some o := fun h => (hb.block _ (Array.getElem?_eq_some_iff.1 h).1).trans h
  exact ⟨h.low.trans (hb.mono h.low.size), ⟨k h.s.1, k h.s.2⟩, k h.z, k h.r, rc_after h.rc hb⟩
theorem Tak.lt {w : World} {tb : Nat} {t : Tk} (h : Tak W C A c tb t w) : W.heap.size + 2 < w.heap.size := (Array.getElem?_eq_some_iff.1 h.r).1
theorem Tak.store {w : World} {tb nb : Nat} {t : Tk} (h : Tak W C A c tb t w) (_hnb : w.heap[nb]? = some zn7) (hn : W.heap.size + 2 < nb) (ht : tb ≠ nb) (hg : ∀ a, A = some a → 0 < (tcells C.L).length → a.block ≠ nb) (X : Tr) : Tak W C A c tb t (set5 w nb X) := by
  refine ⟨below_set5 h.low (by omega) X, ⟨(set5_other (by omega) X).trans h.s.1, (set5_other ht X).trans h.s.2⟩, (set5_other (by omega) X).trans h.z, (set5_other (by omega) X).trans h.r, ?_⟩
  intro hl
  obtain ⟨g, off, rfl, hg', hc⟩ := h.rc hl
  exact ⟨g, off, rfl, by rw [set5_size]; exact hg', fun j u hu => (cell_of (set5_other (hg _ rfl hl) X)).trans (hc j u hu)⟩

set_option maxRecDepth 100000 in
set_option maxHeartbeats 4000000 in
theorem rtake_yes {t : Tk} (hr : RcR C A W) (hk : C.Ok) (hx0 : C.nxt 0 = some t) : Calls Tryz.prog 45 #[rcv C A c, .bool true] W (Rd W (.tuple #[rcv { C with n := C.n + 1 } A c, nv (C.leaf t)])) := by
  obtain ⟨hf, ht⟩ := Cu.nxt_some hx0
  rw [Nat.add_zero] at ht
  obtain ⟨hB, hx, hz, hn⟩ := three_boxes W C A c
  have HLF := Lib.hid (rleft_any (A := A) (c := c) (W := ((W.alloc (rcb C A c)).alloc zb6).alloc zn7) hk)
  have HBE : Hid (∀ W' : World, RcR C A W' → Calls Tryz.prog 74 #[rcv C A c] W' (Rd W' (.int .i64 (C.beh : Nat)))) := Lib.hid fun W' h' => rlast_any h' hk
  have hnl0 := (List.getElem?_eq_some_iff.1 ht).1
  have hlen := hk.len
  have htk := hk.tok t (List.mem_of_getElem? ht)
  have hba := hk.beh_at ht
  have hsz := hk.sz
  have hlf : ((C.left : Nat) : Int) ≠ 0 := by have := Cu.nxt_left hx0; omega
  have z1 : (0 : Int) ≤ (C.n : Nat) := by omega
  have z2 : ((C.n : Nat) : Int) < C.L.length := by omega
  have z3 : ((C.n : Nat) : Int) ≤ 4000 := by omega
  have y1 : (0 : Int) ≤ (C.beh : Nat) := by omega
  have y2 : ((C.beh : Nat) : Int) ≤ (t.a : Nat) := by omega
  have y3 : ((t.a : Nat) : Int) ≤ (C.s.size : Nat) := by omega
  have y4 : ((t.a : Nat) : Int) ≤ (t.z : Nat) := by omega
  have y5 : ((t.z : Nat) : Int) ≤ (C.s.size : Nat) := by omega
  have y6 : (0 : Int) ≤ (t.a : Nat) := by omega
  have hw : wrap64 ((C.n : Int) + 1) = (C.n : Int) + 1 := by unfold wrap64; omega
  have hrv : rcv { C with n := C.n + 1 } A c = six C.s A C.L.length c ((C.n : Int) + 1) (C.d : Nat) C.p C.f := rfl
  rw [hrv]
  unfold Rd at HLF HBE ⊢
  unfold Cu.leaf
  generalize C.left = lf at HLF hlf
  generalize C.beh = q at y1 y2 HBE ⊢
  obtain ⟨Xf, hXf⟩ : ∃ Xf : Tr, (⟨1, C.s.extract q t.a, C.s.extract t.a t.z, (t.a : Nat), none, 0, []⟩ : Tr) = Xf := ⟨_, rfl⟩
  rw [hXf]
  have HR := Lib.hid (rc_after hr hB)
  have HB := Lib.hid hB
  have HX := Lib.hid hx
  have HZ := Lib.hid hz
  have HN := Lib.hid hn
  have HT := Lib.hid ht
  clear hr hk hB hx hz hn hf ht hx0 hrv htk hba hsz hnl0 hlen
  go_enter Tryz.func45, Tryz.ntmps45
  go_wp2_with fail
  refine HLF.out.mono ?_
  rintro e w0 ⟨rfl, hb0⟩
  have hr0 := rc_after HR.out hb0
  have hx0 := (hb0.block _ (by simp; omega)).trans HX.out
  have hz0 := (hb0.block _ (by simp)).trans HZ.out
  have hn0 := (hb0.block _ (by simp)).trans HN.out
  have hlow0 := HB.out.trans (hb0.mono HB.out.size)
  obtain ⟨g, off, rfl, hg, t0, t1, t2⟩ := tok_at hr0 HT.out
  have hbt := below1 w0 (.cells #[.int .i64 (t.k : Nat), .int .i64 (t.a : Nat), .int .i64 (t.z : Nat)] 108)
  have hk0 : Tak W C (some ⟨g, off, none⟩) c w0.heap.size t (w0.alloc (.cells #[.int .i64 (t.k : Nat), .int .i64 (t.a : Nat), .int .i64 (t.z : Nat)] 108)) :=
    ⟨hlow0.trans (hbt.mono hlow0.size), ⟨(hbt.block _ (Array.getElem?_eq_some_iff.1 hx0).1).trans hx0, heap_alloc_new w0 _⟩, (hbt.block _ (Array.getElem?_eq_some_iff.1 hz0).1).trans hz0, (hbt.block _ (Array.getElem?_eq_some_iff.1 hn0).1).trans hn0, rc_after hr0 hbt⟩
  have d6 := heap6 hx0
  have hgw : g < w0.heap.size + 1 := by omega
  have hd : Below (w0.alloc (.cells #[.int .i64 (t.k : Nat), .int .i64 (t.a : Nat), .int .i64 (t.z : Nat)] 108)).heap.size (w0.alloc (.cells #[.int .i64 (t.k : Nat), .int .i64 (t.a : Nat), .int .i64 (t.z : Nat)] 108)) (w0.alloc (.cells #[.int .i64 (t.k : Nat), .int .i64 (t.a : Nat), .int .i64 (t.z : Nat)] 108)).drew := ⟨rfl, rfl, rfl, Nat.le_refl _, fun _ _ => rfl⟩
  have hk1 := hk0.step hd
  have hsz1 : w0.heap.size + 1 ≤ (w0.alloc (.cells #[.int .i64 (t.k : Nat), .int .i64 (t.a : Nat), .int .i64 (t.z : Nat)] 108)).drew.heap.size := by show w0.heap.size + 1 ≤ (w0.alloc _).heap.size; simp
  clear hb0 hr0 hx0 hz0 hn0 hlow0 hk0 hd hbt HR HB HX HZ HN HLF HT hg
  go_wp2
  rename_i K0 hK0
  refine wp_region_noPanic (wp_region_held (S := fun W' : World => W'.heap[W.heap.size]? = some (rcb C (some ⟨g, off, none⟩) c) ∧ W'.heap[w0.heap.size]? = some (.cells #[.int .i64 (t.k : Nat), .int .i64 (t.a : Nat), .int .i64 (t.z : Nat)] 108 (0, 0))) (by kernel_rfl) ?_)
  show wpAnyH _ _ _ _ _ _ _ _ (w0.alloc (.cells #[.int .i64 (t.k : Nat), .int .i64 (t.a : Nat), .int .i64 (t.z : Nat)] 108)).drew
  generalize (w0.alloc (.cells #[.int .i64 (t.k : Nat), .int .i64 (t.a : Nat), .int .i64 (t.z : Nat)] 108)).drew = w1 at hk1 hsz1 ⊢
  clear t0 t1 t2 d6
  refine wpAnyH_take_d (i := 0) (v := .pointer (some ⟨W.heap.size, 0, none⟩)) 24 rfl rfl (by kernel_rfl) (by kernel_rfl) (by kernel_rfl) (fun _ _ _ h => h) (Or.inl ⟨by kernel_rfl, fun w' hS' => ?y0⟩) (hk1.s) ?_
  case y0 => (clear hS'; go_simp)
  simp only [Act.put, List.setIfInBounds_toArray, List.set_cons_zero, List.set_cons_succ]
  refine wpAnyH_take_d (i := 1) (v := .string C.s) 25 rfl rfl (by kernel_rfl) (by kernel_rfl) (by kernel_rfl) (fun _ _ _ h => h) (Or.inl ⟨by kernel_rfl, fun w' hS' => ?y1⟩) (hk1.s) ?_
  case y1 => (obtain ⟨s0, s1, s2, s3, s4, s5⟩ := heap6 hS'.1; clear hS'; go_simp)
  simp only [Act.put, List.setIfInBounds_toArray, List.set_cons_zero, List.set_cons_succ]
  refine wpAnyH_take_d (i := 2) (v := rcv C (some ⟨g, off, none⟩) c) 26 rfl rfl (by kernel_rfl) (by kernel_rfl) (by kernel_rfl) (fun _ _ _ h => h) (Or.inl ⟨by kernel_rfl, fun w' hS' => ?y2⟩) (hk1.s) ?_
  case y2 => (obtain ⟨s0, s1, s2, s3, s4, s5⟩ := heap6 hS'.1; clear hS'; go_simp)
  simp only [Act.put, List.setIfInBounds_toArray, List.set_cons_zero, List.set_cons_succ]
  refine wpAnyH_take_d (i := 4) (v := .pointer (some ⟨w0.heap.size, 1, none⟩)) 28 rfl rfl (by kernel_rfl) (by kernel_rfl) (by kernel_rfl) (fun _ _ _ h => h) (Or.inl ⟨by kernel_rfl, fun w' hS' => ?y4⟩) (hk1.s) ?_
  case y4 => (clear hS'; go_simp)
  simp only [Act.put, List.setIfInBounds_toArray, List.set_cons_zero, List.set_cons_succ]
  refine wpAnyH_take_d (i := 5) (v := .int .i64 (t.a : Nat)) 29 rfl rfl (by kernel_rfl) (by kernel_rfl) (by kernel_rfl) (fun _ _ _ h => h) (Or.inl ⟨by kernel_rfl, fun w' hS' => ?y5⟩) (hk1.s) ?_
  case y5 => (obtain ⟨s0, s1, s2⟩ := heap3r hS'.2; clear hS'; go_simp)
  simp only [Act.put, List.setIfInBounds_toArray, List.set_cons_zero, List.set_cons_succ]
  refine wpAnyH_take_d (i := 7) (v := .pointer (some ⟨W.heap.size, 0, none⟩)) 31 rfl rfl (by kernel_rfl) (by kernel_rfl) (by kernel_rfl) (fun _ _ _ h => h) (Or.inl ⟨by kernel_rfl, fun w' hS' => ?y7⟩) (hk1.s) ?_
  case y7 => (clear hS'; go_simp)
  simp only [Act.put, List.setIfInBounds_toArray, List.set_cons_zero, List.set_cons_succ]
  refine wpAnyH_take_d (i := 8) (v := .string C.s) 32 rfl rfl (by kernel_rfl) (by kernel_rfl) (by kernel_rfl) (fun _ _ _ h => h) (Or.inl ⟨by kernel_rfl, fun w' hS' => ?y8⟩) (hk1.s) ?_
  case y8 => (obtain ⟨s0, s1, s2, s3, s4, s5⟩ := heap6 hS'.1; clear hS'; go_simp)
  simp only [Act.put, List.setIfInBounds_toArray, List.set_cons_zero, List.set_cons_succ]
  refine wpAnyH_take_d (i := 9) (v := .pointer (some ⟨w0.heap.size, 1, none⟩)) 33 rfl rfl (by kernel_rfl) (by kernel_rfl) (by kernel_rfl) (fun _ _ _ h => h) (Or.inl ⟨by kernel_rfl, fun w' hS' => ?y9⟩) (hk1.s) ?_
  case y9 => (clear hS'; go_simp)
  simp only [Act.put, List.setIfInBounds_toArray, List.set_cons_zero, List.set_cons_succ]
  refine wpAnyH_take_d (i := 10) (v := .int .i64 (t.a : Nat)) 34 rfl rfl (by kernel_rfl) (by kernel_rfl) (by kernel_rfl) (fun _ _ _ h => h) (Or.inl ⟨by kernel_rfl, fun w' hS' => ?y10⟩) (hk1.s) ?_
  case y10 => (obtain ⟨s0, s1, s2⟩ := heap3r hS'.2; clear hS'; go_simp)
  simp only [Act.put, List.setIfInBounds_toArray, List.set_cons_zero, List.set_cons_succ]
  refine wpAnyH_take_d (i := 11) (v := .pointer (some ⟨w0.heap.size, 2, none⟩)) 35 rfl rfl (by kernel_rfl) (by kernel_rfl) (by kernel_rfl) (fun _ _ _ h => h) (Or.inl ⟨by kernel_rfl, fun w' hS' => ?y11⟩) (hk1.s) ?_
  case y11 => (clear hS'; go_simp)
  simp only [Act.put, List.setIfInBounds_toArray, List.set_cons_zero, List.set_cons_succ]
  refine wpAnyH_take_d (i := 12) (v := .int .i64 (t.z : Nat)) 36 rfl rfl (by kernel_rfl) (by kernel_rfl) (by kernel_rfl) (fun _ _ _ h => h) (Or.inl ⟨by kernel_rfl, fun w' hS' => ?y12⟩) (hk1.s) ?_
  case y12 => (obtain ⟨s0, s1, s2⟩ := heap3r hS'.2; clear hS'; go_simp)
  simp only [Act.put, List.setIfInBounds_toArray, List.set_cons_zero, List.set_cons_succ]
  refine wpAnyH_take_d (i := 13) (v := .string (C.s.extract t.a t.z)) 37 rfl rfl (by kernel_rfl) (by kernel_rfl) (by kernel_rfl) (fun _ _ _ h => h) (Or.inl ⟨by kernel_rfl, fun w' hS' => ?y13⟩) (hk1.s) ?_
  case y13 => (clear hS'; go_simp)
  simp only [Act.put, List.setIfInBounds_toArray, List.set_cons_zero, List.set_cons_succ]
  refine wpAnyH_take_d (i := 14) (v := .pointer (some ⟨w0.heap.size, 1, none⟩)) 38 rfl rfl (by kernel_rfl) (by kernel_rfl) (by kernel_rfl) (fun _ _ _ h => h) (Or.inl ⟨by kernel_rfl, fun w' hS' => ?y14⟩) (hk1.s) ?_
  case y14 => (clear hS'; go_simp)
  simp only [Act.put, List.setIfInBounds_toArray, List.set_cons_zero, List.set_cons_succ]
  refine wpAnyH_take_d (i := 15) (v := .int .i64 (t.a : Nat)) 39 rfl rfl (by kernel_rfl) (by kernel_rfl) (by kernel_rfl) (fun _ _ _ h => h) (Or.inl ⟨by kernel_rfl, fun w' hS' => ?y15⟩) (hk1.s) ?_
  case y15 => (obtain ⟨s0, s1, s2⟩ := heap3r hS'.2; clear hS'; go_simp)
  simp only [Act.put, List.setIfInBounds_toArray, List.set_cons_zero, List.set_cons_succ]
  refine wpAnyH_ready (rs := [3, 17]) (by kernel_rfl) (by simp) ?_
  refine AllReadyH.cons rfl (fun K hK => ?_) (AllReadyH.cons rfl (fun K hK => ?_) AllReadyH.nil)
  · go_simp
    refine (HBE.out w1 hk1.rc).mono ?_
    rintro e w2 ⟨rfl, hbs⟩
    have hsz2 := hbs.size; have hk2 := hk1.step hbs
    clear hbs
    refine hK.out _ _ (hk2.s) (fun _ => ?_)
    clear hK K
    try simp only [Act.put, List.setIfInBounds_toArray, List.set_cons_zero, List.set_cons_succ]
    refine wpAnyH_take_d (i := 6) (v := .string (C.s.extract q t.a)) 30 rfl rfl (by kernel_rfl) (by kernel_rfl) (by kernel_rfl) (fun _ _ _ h => h) (Or.inl ⟨by kernel_rfl, fun w' hS' => ?y6⟩) (hk2.s) ?_
    case y6 => (clear hS'; go_simp)
    simp only [Act.put, List.setIfInBounds_toArray, List.set_cons_zero, List.set_cons_succ]
    refine wpAnyH_take_d (i := 16) (v := nv Xf) 40 rfl rfl (by kernel_rfl) (by kernel_rfl) (by kernel_rfl) (fun _ _ _ h => h) (Or.inl ⟨by kernel_rfl, fun w' hS' => ?y16⟩) (hk2.s) ?_
    case y16 => (clear hS'; subst hXf; go_simp)
    simp only [Act.put, List.setIfInBounds_toArray, List.set_cons_zero, List.set_cons_succ]
    refine wpAnyH_ready (rs := [17]) (by kernel_rfl) (by simp) ?_
    refine AllReadyH.cons rfl (fun K hK => ?_) AllReadyH.nil
    go_simp
    have hk3 := hk2.step (below1 w2 zn7)
    have hnb := heap_alloc_new w2 zn7
    have hnl : W.heap.size + 2 < w2.heap.size ∧ w0.heap.size + 1 ≤ w2.heap.size := ⟨hk2.lt, Nat.le_trans hsz1 hsz2⟩
    obtain ⟨nb, hnbe⟩ : ∃ nb, w2.heap.size = nb := ⟨_, rfl⟩
    rw [hnbe] at hnb hnl ⊢
    generalize w2.alloc zn7 = w3 at hk3 hnb ⊢
    clear hnbe
    refine hK.out _ _ (hk3.s) (fun _ => ?_)
    clear hK K
    try simp only [Act.put, List.setIfInBounds_toArray, List.set_cons_zero, List.set_cons_succ]
    refine wpAnyH_ready (rs := [18]) (by kernel_rfl) (by simp) ?_
    refine AllReadyH.cons rfl (fun K hK => ?_) AllReadyH.nil
    refine step_store_node (by rfl) 45 (.tmp 7) (.tmp 40) (by rfl) size_rnode nb Xf (by rfl) (by rfl) hnb ?_
    have hk9 := hk3.store hnb hnl.1 (by omega) (by intro a ha _; injection ha with ha; subst ha; show g ≠ nb; omega) Xf
    have hn9 := set5_self hnb Xf
    generalize set5 w3 nb Xf = w9 at hk9 hn9 ⊢
    refine hK.out _ _ (hk9.s) (fun _ => ?_)
    clear hK K
    try simp only [Act.put, List.setIfInBounds_toArray]
    refine wpAnyH_done (by kernel_rfl) ?_ _
    refine hK0 _ _ ?_
    have hz9 := hk9.z
    have hr9 := hk9.r
    have hx9 := hk9.s.1
    have hb9 := hk9.low
    have hc9 := hk9.rc
    have f9 := frozen_heap hx9 (i := 2)
    have c9 := heap6 hx9
    have hx10 := heap_set hx9 (i := 2) (.int .i64 ((C.n : Int) + 1))
    simp only [List.setIfInBounds_toArray, List.set_cons_zero, List.set_cons_succ] at hx10
    have hz10 : (w9.setCell ⟨W.heap.size, 2, none⟩ (.int .i64 ((C.n : Int) + 1))).heap[W.heap.size + 1]? = some zb6 := (Below.heap_setCell _ _ _ _ (by simp)).trans hz9
    have hr10 : (w9.setCell ⟨W.heap.size, 2, none⟩ (.int .i64 ((C.n : Int) + 1))).heap[W.heap.size + 2]? = some zn7 := (Below.heap_setCell _ _ _ _ (by simp)).trans hr9
    have hn10 : (w9.setCell ⟨W.heap.size, 2, none⟩ (.int .i64 ((C.n : Int) + 1))).heap[nb]? = some (.cells (ncc Xf) 45 (0, 0)) := (Below.heap_setCell _ _ _ _ (by simp; omega)).trans hn9
    have hb10 : Below W.heap.size W (w9.setCell ⟨W.heap.size, 2, none⟩ (.int .i64 ((C.n : Int) + 1))) := hb9.setCell (p := ⟨W.heap.size, 2, none⟩) (Nat.le_refl _) _
    have HX10 := Lib.hid hx10
    have HZ10 := Lib.hid hz10
    have HR10 := Lib.hid hr10
    have HN10 := Lib.hid hn10
    have HB10 := Lib.hid hb10
    clear hz9 hr9 hx9 hb9 hc9 hx10 hz10 hr10 hn10 hb10 hk9 hn9 hnb
    go_wp2
    rename_i K1 hK1
    refine wp_region_noPanic (wp_region_held (S := fun W' : World => W'.heap[W.heap.size]? = some (sixb C.s (some ⟨g, off, none⟩) C.L.length c ((C.n : Int) + 1) (C.d : Nat) C.p C.f 31) ∧ W'.heap[nb]? = some (.cells (ncc Xf) 45 (0, 0))) (by kernel_rfl) ?_)
    have hd : Below (w9.setCell ⟨W.heap.size, 2, none⟩ (.int .i64 ((C.n : Int) + 1))).heap.size (w9.setCell ⟨W.heap.size, 2, none⟩ (.int .i64 ((C.n : Int) + 1))) (w9.setCell ⟨W.heap.size, 2, none⟩ (.int .i64 ((C.n : Int) + 1))).drew := ⟨rfl, rfl, rfl, Nat.le_refl _, fun _ _ => rfl⟩
    have hx11 : (w9.setCell ⟨W.heap.size, 2, none⟩ (.int .i64 ((C.n : Int) + 1))).drew.heap[W.heap.size]? = _ := HX10.out
    have hz11 : (w9.setCell ⟨W.heap.size, 2, none⟩ (.int .i64 ((C.n : Int) + 1))).drew.heap[W.heap.size + 1]? = _ := HZ10.out
    have hr11 : (w9.setCell ⟨W.heap.size, 2, none⟩ (.int .i64 ((C.n : Int) + 1))).drew.heap[W.heap.size + 2]? = _ := HR10.out
    have hn11 : (w9.setCell ⟨W.heap.size, 2, none⟩ (.int .i64 ((C.n : Int) + 1))).drew.heap[nb]? = _ := HN10.out
    have hb11 := HB10.out.trans (hd.mono HB10.out.size)
    clear hd c9 f9 HX10 HZ10 HR10 HN10 HB10
    show wpAnyH _ _ _ _ _ _ _ _ (w9.setCell ⟨W.heap.size, 2, none⟩ (.int .i64 ((C.n : Int) + 1))).drew
    generalize (w9.setCell ⟨W.heap.size, 2, none⟩ (.int .i64 ((C.n : Int) + 1))).drew = w11 at hx11 hz11 hr11 hn11 hb11 ⊢
    refine wpAnyH_take_d (i := 0) (v := six C.s (some ⟨g, off, none⟩) C.L.length c ((C.n : Int) + 1) (C.d : Nat) C.p C.f) 45 rfl rfl (by kernel_rfl) (by kernel_rfl) (by kernel_rfl) (fun _ _ _ h => h) (Or.inl ⟨by kernel_rfl, fun w' hS' => ?y0⟩) (⟨hx11, hn11⟩) ?_
    case y0 => (obtain ⟨s0, s1, s2, s3, s4, s5⟩ := heap6s hS'.1; clear hS'; go_simp)
    simp only [Act.put, List.setIfInBounds_toArray, List.set_cons_zero, List.set_cons_succ]
    refine wpAnyH_take_d (i := 1) (v := nv Xf) 46 rfl rfl (by kernel_rfl) (by kernel_rfl) (by kernel_rfl) (fun _ _ _ h => h) (Or.inl ⟨by kernel_rfl, fun w' hS' => ?y1⟩) (⟨hx11, hn11⟩) ?_
    case y1 => (have s0 := heap5 hS'.2; clear hS'; go_simp)
    simp only [Act.put, List.setIfInBounds_toArray, List.set_cons_zero, List.set_cons_succ]
    refine wpAnyH_ready (rs := [2]) (by kernel_rfl) (by simp) ?_
    refine AllReadyH.cons rfl (fun K hK => ?_) AllReadyH.nil
    refine step_store_six (by rfl) 31 (.tmp 4) (.tmp 45) (by rfl) size_rcur (W.heap.size + 1) (by rfl) (by rfl) hz11 ?_
    have q1 := set6_self hz11 C.s (some ⟨g, off, none⟩) C.L.length c ((C.n : Int) + 1) (C.d : Nat) C.p C.f
    have q2 := (set6_other (W := w11) (b := W.heap.size + 1) (k := W.heap.size) (by omega) C.s (some ⟨g, off, none⟩) C.L.length c ((C.n : Int) + 1) (C.d : Nat) C.p C.f).trans hx11
    have q3 := (set6_other (W := w11) (b := W.heap.size + 1) (k := W.heap.size + 2) (by omega) C.s (some ⟨g, off, none⟩) C.L.length c ((C.n : Int) + 1) (C.d : Nat) C.p C.f).trans hr11
    have q4 := (set6_other (W := w11) (b := W.heap.size + 1) (k := nb) (by omega) C.s (some ⟨g, off, none⟩) C.L.length c ((C.n : Int) + 1) (C.d : Nat) C.p C.f).trans hn11
    have q5 := below_set6 hb11 (Nat.le_succ _) C.s (some ⟨g, off, none⟩) C.L.length c ((C.n : Int) + 1) (C.d : Nat) C.p C.f
    generalize set6 w11 (W.heap.size + 1) C.s (some ⟨g, off, none⟩) C.L.length c ((C.n : Int) + 1) (C.d : Nat) C.p C.f = w12 at q1 q2 q3 q4 q5 ⊢
    refine hK.out _ _ (⟨q2, q4⟩) (fun _ => ?_)
    clear hK K
    try simp only [Act.put, List.setIfInBounds_toArray]
    refine wpAnyH_ready (rs := [3]) (by kernel_rfl) (by simp) ?_
    refine AllReadyH.cons rfl (fun K hK => ?_) AllReadyH.nil
    refine step_store_node (by rfl) 45 (.tmp 5) (.tmp 46) (by rfl) size_rnode (W.heap.size + 2) Xf (by rfl) (by rfl) q3 ?_
    have v1 := set5_self q3 Xf
    have v2 := (set5_other (W := w12) (b := W.heap.size + 2) (k := W.heap.size + 1) (by omega) Xf).trans q1
    have v3 := (set5_other (W := w12) (b := W.heap.size + 2) (k := W.heap.size) (by omega) Xf).trans q2
    have v4 := (set5_other (W := w12) (b := W.heap.size + 2) (k := nb) (by omega) Xf).trans q4
    have v5 := below_set5 q5 (b := W.heap.size + 2) (by omega) Xf
    generalize set5 w12 (W.heap.size + 2) Xf = w13 at v1 v2 v3 v4 v5 ⊢
    refine hK.out _ _ (⟨v3, v4⟩) (fun _ => ?_)
    clear hK K
    try simp only [Act.put]
    refine wpAnyH_done (by kernel_rfl) ?_ _
    refine hK1 _ _ ?_
    obtain ⟨g0, g1, g2, g3, g4, g5⟩ := heap6s v2
    obtain ⟨k0, k1, k2, k3, k4⟩ := heap5 v1
    clear q1 q2 q3 q4 q5 v1 v2 v3 v4 hx11 hz11 hr11 hn11 hb11
    go_wp2
    refine bodyPost_ret (v := .tuple #[six C.s (some ⟨g, off, none⟩) C.L.length c ((C.n : Int) + 1) (C.d : Nat) C.p C.f, nv Xf]) (by simp [results, Tryz.results45, go_sem, g0, g1, g2, g3, g4, g5, k0, k1, k2, k3, k4]) rfl ⟨rfl, v5⟩
  · go_simp
    have hk2 := hk1.step (below1 w1 zn7)
    have hnb := heap_alloc_new w1 zn7
    have hnl : W.heap.size + 2 < w1.heap.size ∧ w0.heap.size + 1 ≤ w1.heap.size := ⟨hk1.lt, hsz1⟩
    obtain ⟨nb, hnbe⟩ : ∃ nb, w1.heap.size = nb := ⟨_, rfl⟩
    rw [hnbe] at hnb hnl ⊢
    generalize w1.alloc zn7 = w2 at hk2 hnb ⊢
    clear hnbe
    refine hK.out _ _ (hk2.s) (fun _ => ?_)
    clear hK K
    try simp only [Act.put, List.setIfInBounds_toArray, List.set_cons_zero, List.set_cons_succ]
    refine wpAnyH_ready (rs := [3]) (by kernel_rfl) (by simp) ?_
    refine AllReadyH.cons rfl (fun K hK => ?_) AllReadyH.nil
    go_simp
    refine (HBE.out w2 hk2.rc).mono ?_
    rintro e w3 ⟨rfl, hbs⟩
    have hk3 := hk2.step hbs
    replace hnb := (hbs.block _ (Array.getElem?_eq_some_iff.1 hnb).1).trans hnb
    clear hbs
    refine hK.out _ _ (hk3.s) (fun _ => ?_)
    clear hK K
    try simp only [Act.put, List.setIfInBounds_toArray, List.set_cons_zero, List.set_cons_succ]
    refine wpAnyH_take_d (i := 6) (v := .string (C.s.extract q t.a)) 30 rfl rfl (by kernel_rfl) (by kernel_rfl) (by kernel_rfl) (fun _ _ _ h => h) (Or.inl ⟨by kernel_rfl, fun w' hS' => ?y6⟩) (hk3.s) ?_
    case y6 => (clear hS'; go_simp)
    simp only [Act.put, List.setIfInBounds_toArray, List.set_cons_zero, List.set_cons_succ]
    refine wpAnyH_take_d (i := 16) (v := nv Xf) 40 rfl rfl (by kernel_rfl) (by kernel_rfl) (by kernel_rfl) (fun _ _ _ h => h) (Or.inl ⟨by kernel_rfl, fun w' hS' => ?y16⟩) (hk3.s) ?_
    case y16 => (clear hS'; subst hXf; go_simp)
    simp only [Act.put, List.setIfInBounds_toArray, List.set_cons_zero, List.set_cons_succ]
    refine wpAnyH_ready (rs := [18]) (by kernel_rfl) (by simp) ?_
    refine AllReadyH.cons rfl (fun K hK => ?_) AllReadyH.nil
    refine step_store_node (by rfl) 45 (.tmp 7) (.tmp 40) (by rfl) size_rnode nb Xf (by rfl) (by rfl) hnb ?_
    have hk9 := hk3.store hnb hnl.1 (by omega) (by intro a ha _; injection ha with ha; subst ha; show g ≠ nb; omega) Xf
    have hn9 := set5_self hnb Xf
    generalize set5 w3 nb Xf = w9 at hk9 hn9 ⊢
    refine hK.out _ _ (hk9.s) (fun _ => ?_)
    clear hK K
    try simp only [Act.put, List.setIfInBounds_toArray]
    refine wpAnyH_done (by kernel_rfl) ?_ _
    refine hK0 _ _ ?_
    have hz9 := hk9.z
    have hr9 := hk9.r
    have hx9 := hk9.s.1
    have hb9 := hk9.low
    have hc9 := hk9.rc
    have f9 := frozen_heap hx9 (i := 2)
    have c9 := heap6 hx9
    have hx10 := heap_set hx9 (i := 2) (.int .i64 ((C.n : Int) + 1))
    simp only [List.setIfInBounds_toArray, List.set_cons_zero, List.set_cons_succ] at hx10
    have hz10 : (w9.setCell ⟨W.heap.size, 2, none⟩ (.int .i64 ((C.n : Int) + 1))).heap[W.heap.size + 1]? = some zb6 := (Below.heap_setCell _ _ _ _ (by simp)).trans hz9
    have hr10 : (w9.setCell ⟨W.heap.size, 2, none⟩ (.int .i64 ((C.n : Int) + 1))).heap[W.heap.size + 2]? = some zn7 := (Below.heap_setCell _ _ _ _ (by simp)).trans hr9
    have hn10 : (w9.setCell ⟨W.heap.size, 2, none⟩ (.int .i64 ((C.n : Int) + 1))).heap[nb]? = some (.cells (ncc Xf) 45 (0, 0)) := (Below.heap_setCell _ _ _ _ (by simp; omega)).trans hn9
    have hb10 : Below W.heap.size W (w9.setCell ⟨W.heap.size, 2, none⟩ (.int .i64 ((C.n : Int) + 1))) := hb9.setCell (p := ⟨W.heap.size, 2, none⟩) (Nat.le_refl _) _
    have HX10 := Lib.hid hx10
    have HZ10 := Lib.hid hz10
    have HR10 := Lib.hid hr10
    have HN10 := Lib.hid hn10
    have HB10 := Lib.hid hb10
    clear hz9 hr9 hx9 hb9 hc9 hx10 hz10 hr10 hn10 hb10 hk9 hn9 hnb
    go_wp2
    rename_i K1 hK1
    refine wp_region_noPanic (wp_region_held (S := fun W' : World => W'.heap[W.heap.size]? = some (sixb C.s (some ⟨g, off, none⟩) C.L.length c ((C.n : Int) + 1) (C.d : Nat) C.p C.f 31) ∧ W'.heap[nb]? = some (.cells (ncc Xf) 45 (0, 0))) (by kernel_rfl) ?_)
    have hd : Below (w9.setCell ⟨W.heap.size, 2, none⟩ (.int .i64 ((C.n : Int) + 1))).heap.size (w9.setCell ⟨W.heap.size, 2, none⟩ (.int .i64 ((C.n : Int) + 1))) (w9.setCell ⟨W.heap.size, 2, none⟩ (.int .i64 ((C.n : Int) + 1))).drew := ⟨rfl, rfl, rfl, Nat.le_refl _, fun _ _ => rfl⟩
    have hx11 : (w9.setCell ⟨W.heap.size, 2, none⟩ (.int .i64 ((C.n : Int) + 1))).drew.heap[W.heap.size]? = _ := HX10.out
    have hz11 : (w9.setCell ⟨W.heap.size, 2, none⟩ (.int .i64 ((C.n : Int) + 1))).drew.heap[W.heap.size + 1]? = _ := HZ10.out
    have hr11 : (w9.setCell ⟨W.heap.size, 2, none⟩ (.int .i64 ((C.n : Int) + 1))).drew.heap[W.heap.size + 2]? = _ := HR10.out
    have hn11 : (w9.setCell ⟨W.heap.size, 2, none⟩ (.int .i64 ((C.n : Int) + 1))).drew.heap[nb]? = _ := HN10.out
    have hb11 := HB10.out.trans (hd.mono HB10.out.size)
    clear hd c9 f9 HX10 HZ10 HR10 HN10 HB10
    show wpAnyH _ _ _ _ _ _ _ _ (w9.setCell ⟨W.heap.size, 2, none⟩ (.int .i64 ((C.n : Int) + 1))).drew
    generalize (w9.setCell ⟨W.heap.size, 2, none⟩ (.int .i64 ((C.n : Int) + 1))).drew = w11 at hx11 hz11 hr11 hn11 hb11 ⊢
    refine wpAnyH_take_d (i := 0) (v := six C.s (some ⟨g, off, none⟩) C.L.length c ((C.n : Int) + 1) (C.d : Nat) C.p C.f) 45 rfl rfl (by kernel_rfl) (by kernel_rfl) (by kernel_rfl) (fun _ _ _ h => h) (Or.inl ⟨by kernel_rfl, fun w' hS' => ?y0⟩) (⟨hx11, hn11⟩) ?_
    case y0 => (obtain ⟨s0, s1, s2, s3, s4, s5⟩ := heap6s hS'.1; clear hS'; go_simp)
    simp only [Act.put, List.setIfInBounds_toArray, List.set_cons_zero, List.set_cons_succ]
    refine wpAnyH_take_d (i := 1) (v := nv Xf) 46 rfl rfl (by kernel_rfl) (by kernel_rfl) (by kernel_rfl) (fun _ _ _ h => h) (Or.inl ⟨by kernel_rfl, fun w' hS' => ?y1⟩) (⟨hx11, hn11⟩) ?_
    case y1 => (have s0 := heap5 hS'.2; clear hS'; go_simp)
    simp only [Act.put, List.setIfInBounds_toArray, List.set_cons_zero, List.set_cons_succ]
    refine wpAnyH_ready (rs := [2]) (by kernel_rfl) (by simp) ?_
    refine AllReadyH.cons rfl (fun K hK => ?_) AllReadyH.nil
    refine step_store_six (by rfl) 31 (.tmp 4) (.tmp 45) (by rfl) size_rcur (W.heap.size + 1) (by rfl) (by rfl) hz11 ?_
    have q1 := set6_self hz11 C.s (some ⟨g, off, none⟩) C.L.length c ((C.n : Int) + 1) (C.d : Nat) C.p C.f
    have q2 := (set6_other (W := w11) (b := W.heap.size + 1) (k := W.heap.size) (by omega) C.s (some ⟨g, off, none⟩) C.L.length c ((C.n : Int) + 1) (C.d : Nat) C.p C.f).trans hx11
    have q3 := (set6_other (W := w11) (b := W.heap.size + 1) (k := W.heap.size + 2) (by omega) C.s (some ⟨g, off, none⟩) C.L.length c ((C.n : Int) + 1) (C.d : Nat) C.p C.f).trans hr11
    have q4 := (set6_other (W := w11) (b := W.heap.size + 1) (k := nb) (by omega) C.s (some ⟨g, off, none⟩) C.L.length c ((C.n : Int) + 1) (C.d : Nat) C.p C.f).trans hn11
    have q5 := below_set6 hb11 (Nat.le_succ _) C.s (some ⟨g, off, none⟩) C.L.length c ((C.n : Int) + 1) (C.d : Nat) C.p C.f
    generalize set6 w11 (W.heap.size + 1) C.s (some ⟨g, off, none⟩) C.L.length c ((C.n : Int) + 1) (C.d : Nat) C.p C.f = w12 at q1 q2 q3 q4 q5 ⊢
    refine hK.out _ _ (⟨q2, q4⟩) (fun _ => ?_)
    clear hK K
    try simp only [Act.put, List.setIfInBounds_toArray]
    refine wpAnyH_ready (rs := [3]) (by kernel_rfl) (by simp) ?_
    refine AllReadyH.cons rfl (fun K hK => ?_) AllReadyH.nil
    refine step_store_node (by rfl) 45 (.tmp 5) (.tmp 46) (by rfl) size_rnode (W.heap.size + 2) Xf (by rfl) (by rfl) q3 ?_
    have v1 := set5_self q3 Xf
    have v2 := (set5_other (W := w12) (b := W.heap.size + 2) (k := W.heap.size + 1) (by omega) Xf).trans q1
    have v3 := (set5_other (W := w12) (b := W.heap.size + 2) (k := W.heap.size) (by omega) Xf).trans q2
    have v4 := (set5_other (W := w12) (b := W.heap.size + 2) (k := nb) (by omega) Xf).trans q4
    have v5 := below_set5 q5 (b := W.heap.size + 2) (by omega) Xf
    generalize set5 w12 (W.heap.size + 2) Xf = w13 at v1 v2 v3 v4 v5 ⊢
    refine hK.out _ _ (⟨v3, v4⟩) (fun _ => ?_)
    clear hK K
    try simp only [Act.put]
    refine wpAnyH_done (by kernel_rfl) ?_ _
    refine hK1 _ _ ?_
    obtain ⟨g0, g1, g2, g3, g4, g5⟩ := heap6s v2
    obtain ⟨k0, k1, k2, k3, k4⟩ := heap5 v1
    clear q1 q2 q3 q4 q5 v1 v2 v3 v4 hx11 hz11 hr11 hn11 hb11
    go_wp2
    refine bodyPost_ret (v := .tuple #[six C.s (some ⟨g, off, none⟩) C.L.length c ((C.n : Int) + 1) (C.d : Nat) C.p C.f, nv Xf]) (by simp [results, Tryz.results45, go_sem, g0, g1, g2, g3, g4, g5, k0, k1, k2, k3, k4]) rfl ⟨rfl, v5⟩

theorem rtake_any (q : Bool) (hr : RcR C A W) (hk : C.Ok) : Calls Tryz.prog 45 #[rcv C A c, .bool q] W (Rd W (.tuple #[rcv (C.take q).1 A c, nv (C.take q).2])) := by
  cases q with
  | false => rw [Cu.take_false]; exact rtake_not hr hk
  | true =>
    cases hx : C.nxt 0 with
    | some t => rw [Cu.take_true hx]; exact rtake_yes hr hk hx
    | none =>
      have hl : C.left = 0 := by have := Cu.nxt_none hx hk.n; omega
      have he : C.take true = (C.fail 2, zn1) := by unfold Cu.take; rw [hx]
      rw [he]
      exact rtake_end hr hk hl

set_option maxRecDepth 100000 in
set_option maxHeartbeats 1000000 in
theorem rany_any (k : Int) (hr : RcR C A W) (hk : C.Ok) : Calls Tryz.prog 13 #[rcv C A c, .int .i64 k] W (Rd W (.tuple #[rcv (C.take (decide ((C.pk 0).1 = k))).1 A c, nv (C.take (decide ((C.pk 0).1 = k))).2])) := by
  obtain ⟨hB, hx, hz, hn⟩ := three_boxes W C A c
  have HP := Lib.hid (rpeek_any (A := A) (c := c) 0 (rc_after hr hB) hk)
  have HTK : Hid (∀ W' : World, RcR C A W' → Calls Tryz.prog 45 #[rcv C A c, .bool (decide ((C.pk 0).1 = k))] W' (Rd W' (.tuple #[rcv (C.take (decide ((C.pk 0).1 = k))).1 A c, nv (C.take (decide ((C.pk 0).1 = k))).2]))) := Lib.hid fun W' h' => rtake_any _ h' hk
  generalize hpk : C.pk 0 = pk at HP HTK ⊢
  obtain ⟨pk1, pk2⟩ := pk
  simp only at HP HTK ⊢
  unfold Rd at HP HTK ⊢
  have hbe : (pk1 == k) = decide (pk1 = k) := by rw [Bool.eq_iff_iff]; simp
  generalize decide (pk1 = k) = bq at HTK hbe ⊢
  generalize C.take bq = r at HTK ⊢
  obtain ⟨C', X⟩ := r
  simp only at HTK ⊢
  have HR := Lib.hid (rc_after hr hB)
  have HB := Lib.hid hB
  have HX := Lib.hid hx
  have HZ := Lib.hid hz
  have HN := Lib.hid hn
  clear hr hk hB hx hz hn hpk
  go_enter Tryz.func13, Tryz.ntmps13
  go_wp2_with fail
  refine HP.out.mono ?_
  rintro e w0 ⟨rfl, hb0⟩
  have hr0 := rc_after HR.out hb0
  have d6 := heap6 ((hb0.block _ (by simp; omega)).trans HX.out)
  have hz0 := (hb0.block _ (by simp)).trans HZ.out
  have hn0 := (hb0.block _ (by simp)).trans HN.out
  have HB0 := Lib.hid (HB.out.trans (hb0.mono HB.out.size))
  have HF0 := Lib.hid (HTK.out w0 hr0)
  have HZ0 := Lib.hid hz0
  have HN0 := Lib.hid hn0
  clear hb0 hr0 hz0 hn0 HTK HB HX HZ HN HP HR
  go_wp2_with fail
  refine HF0.out.mono ?_
  rintro e w1 ⟨rfl, hb⟩
  have hz1 := (hb.block _ (Array.getElem?_eq_some_iff.1 HZ0.out).1).trans HZ0.out
  have hn1 := (hb.block _ (Array.getElem?_eq_some_iff.1 HN0.out).1).trans HN0.out
  have HB1 := Lib.hid (HB0.out.trans (hb.mono HB0.out.size))
  clear hb d6 HB0 HZ0 HN0 HF0
  go_wp2_with (refine wpList_store_two 31 45 (.tmp 4) (.tmp 18) (.tmp 5) (.tmp 19) (by rfl) (by rfl) (by rfl) (by rfl) (by rfl) size_rcur size_rnode (W.heap.size + 1) C' A c X hz1 hn1 (by rfl) (by rfl) (by rfl) (by rfl) ?_; intro w2 g6 g5 hq)
  have hbq := hq _ _ HB1.out (by omega)
  have g := heap6 g6
  have k := heap5 g5
  obtain ⟨g0, g1, g2, g3, g4, g5'⟩ := g
  obtain ⟨k0, k1, k2, k3, k4⟩ := k
  clear g6 g5 hq
  go_wp2
  refine bodyPost_ret (v := .tuple #[rcv C' A c, nv X]) (by simp [results, Tryz.results13, go_sem, g0, g1, g2, g3, g4, g5', k0, k1, k2, k3, k4]) rfl ⟨rfl, hbq⟩
end
end Go.Proofs.YtjnclchbklehgaaGreatDoor
