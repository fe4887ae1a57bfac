/- tree.copied, tree.Make; alive. -/
import Derived.Test.YtfmlcddakfbleaaGreatDoorTreeChange
import Derived.Test.YtfmlcddakfbleaaGreatDoorTreeBuilder
namespace Go.Proofs.YtfmlcddakfbleaaGreatDoor
open Go.RowKit TreeMath

theorem low_below {n : Nat} {w W W' : World} {X : Nat → Prop} (h : Low n w X W) (hb : Below W.heap.size W W') : Low n w X W' := (Low.frames n w).off h (Off.of_below hb)
theorem low_wth {n : Nat} {w W W' : World} {X : Nat → Prop} (h : Low n w X W') (hn : n ≤ W.heap.size) : Low n w (wth X W W') W' := ⟨h.1, h.2.1, fun k hk => hk.elim (h.2.2 k) fun h => Nat.le_trans hn h.1⟩

/-- what copied answers -/
def CpV (P : Tr) (w : World) (e : Ending) (w' : World) : Prop := ∃ U, e = .returned (nv U) ∧ pl U = P ∧ Tn (nw w.heap.size w') w' U ∧ Below w.heap.size w w'

theorem eg_copied1 : ∀ args w, (callFunc 53 args).run Tryz.prog w = .ok (.enter 53 args) w := by
  intro args w; simp [go_sem]

def same1 (s : Unit) (x : Tr) : Tr × Unit := (x, s)
theorem cgs_map {f : Unit → Tr → Tr × Unit} (l : List Tr) (p : Tr → Tr) (h : ∀ x ∈ l, (cg f x ()).1 = p x) : (cgs f l ()).1 = l.map p := by
  induction l with
  | nil => rfl
  | cons x xs ih => rw [cgs_cons, List.map_cons]; simp only; rw [h x (by simp), ih (fun y hy => h y (by simp [hy]))]
theorem cg_same (T : Tr) : (cg same1 T ()).1 = pl T := by
  induction T using Tr.ind with | _ k g t a A c kids ih =>
  rw [cg_eq, pl_eq]
  by_cases hk : k = 1
  · rw [if_pos hk]; simp [same1, tok, cgs_map kids pl ih, hk]
  · rw [if_neg hk]; simp [cgs_map kids pl ih]

set_option maxHeartbeats 800000 in
theorem copy_any (T : Tr) (w : World) (hlk : lk T) (hw : wt T ≤ 9000) (hT : Tn (lo w.heap.size) w T) :
    Calls Tryz.prog 45 #[nv T, .func (.func 53) #[] #[]] w (CpV (pl T) w) := by
  refine (changed_any 53 #[] eg_copied1 same1 (fun _ _ => ⟨rfl, rfl, rfl⟩) w.heap.size w (fun _ => Low w.heap.size w) (fun _ => Low.frames _ _) (fun _ _ _ h => h)
    (fun s T X W _ hX hj _ => (copied1_any (tok T) W).mono ?_) T () no w (fun _ x hx => (hT.node x hx).rng) hlk hw hT (fun _ h => h.elim) (Low.begin w (Below.refl _ _))).mono ?_
  · rintro e W' ⟨rfl, hb⟩
    exact ⟨rfl, hb.size, Kept.below hb, low_wth (low_below hj hb) hj.2.1⟩
  · rintro e W' ⟨U, rfl, h1, h2, _, _, h5⟩
    exact ⟨U, rfl, by rw [h1, cg_same], h2, h5.1⟩

theorem CpV.after {P : Tr} {w W : World} {e : Ending} {w' : World} (h : CpV P W e w') (hb : Below w.heap.size w W) : CpV P w e w' := by
  obtain ⟨U, h1, h2, h3, h4⟩ := h
  exact ⟨U, h1, h2, h3.less hb.size, hb.trans (h4.mono hb.size)⟩

set_option maxHeartbeats 800000 in
theorem copied_any (T : Tr) (w : World) (hlk : lk T) (hw : wt T ≤ 9000) (hT : Tn (lo w.heap.size) w T) :
    Calls Tryz.prog 29 #[nv T] w (CpV (pl T) w) := by
  have HC := Lib.hid (copy_any T ((w.alloc (nbx T)).alloc (.cells z5 30)) hlk hw ((hT.below (below2 w _ _)).more (by simp; omega)))
  have HB := Lib.hid (below2 w (nbx T) (.cells z5 30))
  clear hT hw hlk
  go_enter Tryz.func29, Tryz.ntmps29
  go_wp2_with fail
  refine HC.out.mono ?_
  rintro e w1 ⟨U, rfl, h1, h2, h3⟩
  have hs1 : w.heap.size + 2 ≤ w1.heap.size := by have := h3.size; simpa using this
  have hb1 := (h3.block (w.heap.size + 1) (by simp)).trans (show ((w.alloc (nbx T)).alloc (.cells z5 30)).heap[w.heap.size + 1]? = some (.cells z5 30 (0, 0)) from by have := heap_alloc_new (w.alloc (nbx T)) (.cells z5 30); rwa [World.size_alloc] at this)
  have HB1 := Lib.hid hb1
  have hb2 := set5_self hb1 U
  have HW : Hid (CpV (pl T) w (.returned (nv U)) (set5 w1 (w.heap.size + 1) U)) := Lib.hid ⟨U, rfl, h1, h2.keep (fun b i hb => cell_of (set5_other (by have := hb.1; simp at this; omega) U)) (fun b hb => ⟨by have := hb.1; simp at this; omega, by rw [set5_size]; exact hb.2⟩), below_set5 (HB.out.trans (h3.mono (by simp; omega))) (by omega) _⟩
  obtain ⟨w2, hw2⟩ : ∃ w2, set5 w1 (w.heap.size + 1) U = w2 := ⟨_, rfl⟩
  rw [hw2] at hb2 HW
  have HW2 := Lib.hid hw2
  have g0 := cell_heap hb2 (i := 0)
  have g1 := cell_heap hb2 (i := 1)
  have g2 := cell_heap hb2 (i := 2)
  have g3 := cell_heap hb2 (i := 3)
  have g4 := cell_heap hb2 (i := 4)
  simp only [List.getElem?_toArray, List.getElem?_cons_zero, List.getElem?_cons_succ] at g0 g1 g2 g3 g4
  clear h1 h2 h3 hb1 hb2 hw2
  go_wp2_with (refine wpList_store_node (by rfl) 30 (.tmp 2) (.tmp 4) (by rfl) size_tnode (w.heap.size + 1) U (by rfl) (by rfl) HB1.out ?_; rw [HW2.out])
  exact bodyPost_ret (v := nv U) (by simp [results, Tryz.results29, go_sem, g0, g1, g2, g3, g4]) rfl HW.out

set_option maxHeartbeats 800000 in
theorem make_any (k : Int) (A : Option Addr) (c : Nat) (kids : List Tr) (w : World) (hlk : lk ⟨k, ⟨#[]⟩, ⟨#[]⟩, 0, A, c, kids⟩) (hw : wt ⟨k, ⟨#[]⟩, ⟨#[]⟩, 0, A, c, kids⟩ ≤ 9000) (hT : Tn (lo w.heap.size) w ⟨k, ⟨#[]⟩, ⟨#[]⟩, 0, A, c, kids⟩) :
    Calls Tryz.prog 8 #[.int .i64 k, .slice A kids.length c] w (CpV (pl ⟨k, ⟨#[]⟩, ⟨#[]⟩, 0, A, c, kids⟩) w) := by
  have HC := Lib.hid (copied_any ⟨k, ⟨#[]⟩, ⟨#[]⟩, 0, A, c, kids⟩ (w.alloc (.cells z5 30)) hlk hw ((hT.below (below1 w _)).more (by simp)))
  have HB := Lib.hid (below1 w (.cells z5 30))
  obtain ⟨P, hP⟩ : ∃ P, pl ⟨k, ⟨#[]⟩, ⟨#[]⟩, 0, A, c, kids⟩ = P := ⟨_, rfl⟩
  rw [hP] at HC ⊢
  clear hT hw hlk hP
  go_enter Tryz.func8, Tryz.ntmps8
  go_wp2_with fail
  refine HC.out.mono ?_
  rintro e w1 ⟨U, rfl, h1, h2, h3⟩
  have hs1 : w.heap.size + 1 ≤ w1.heap.size := by have := h3.size; simpa using this
  have hb1 := (h3.block w.heap.size (by simp)).trans (heap_alloc_new w (.cells z5 30))
  have HB1 := Lib.hid hb1
  have hb2 := set5_self hb1 U
  have HW : Hid (CpV P w (.returned (nv U)) (set5 w1 w.heap.size U)) := Lib.hid ⟨U, rfl, h1, h2.keep (fun b i hb => cell_of (set5_other (by have := hb.1; simp at this; omega) U)) (fun b hb => ⟨by have := hb.1; simp at this; omega, by rw [set5_size]; exact hb.2⟩), below_set5 (HB.out.trans (h3.mono (by simp))) (by omega) _⟩
  obtain ⟨w2, hw2⟩ : ∃ w2, set5 w1 w.heap.size U = w2 := ⟨_, rfl⟩
  rw [hw2] at hb2 HW
  have HW2 := Lib.hid hw2
  have g0 := cell_heap hb2 (i := 0)
  have g1 := cell_heap hb2 (i := 1)
  have g2 := cell_heap hb2 (i := 2)
  have g3 := cell_heap hb2 (i := 3)
  have g4 := cell_heap hb2 (i := 4)
  simp only [List.getElem?_toArray, List.getElem?_cons_zero, List.getElem?_cons_succ] at g0 g1 g2 g3 g4
  clear h1 h2 h3 hb1 hb2 hw2
  go_wp2_with (refine wpList_store_node (by rfl) 30 (.tmp 4) (.tmp 8) (by rfl) size_tnode w.heap.size U (by rfl) (by rfl) HB1.out ?_; rw [HW2.out])
  exact bodyPost_ret (v := nv U) (by simp [results, Tryz.results8, go_sem, g0, g1, g2, g3, g4]) rfl HW.out

/-- the chapter's example -/
def exL : Tr := ⟨1, ⟨#[]⟩, ⟨#[33]⟩, 0, none, 0, []⟩
def exR : Tr := ⟨1, ⟨#[32]⟩, ⟨#[97]⟩, 2, none, 0, []⟩
def exI : Tr := ⟨28, ⟨#[]⟩, ⟨#[]⟩, 0, none, 0, [exR]⟩
def exN : Tr := ⟨21, ⟨#[]⟩, ⟨#[]⟩, 0, none, 0, [exL, exI]⟩
theorem ns_exL : ns exL = [exL] := by rw [ns_eq]; rfl
theorem ns_exR : ns exR = [exR] := by rw [ns_eq]; rfl
theorem ns_exI : ns exI = [exI, exR] := by rw [ns_eq]; simp [exI, ns_exR]
theorem ns_exN : ns exN = [exN, exL, exI, exR] := by rw [ns_eq]; simp [exN, ns_exL, ns_exI]
theorem rgt_exN : rgt exN = true := by unfold rgt; rw [ns_exN]; decide
theorem lf_exN : lf exN = [exL, exR] := by unfold lf; rw [ns_exN]; rfl
theorem tx_exN : tx (lf exN) = ⟨#[33, 32, 97]⟩ := by rw [lf_exN]; rfl
theorem stb_exN : stb 0 (lf exN) = true := by rw [lf_exN]; first | rfl | kernel_rfl | (simp [stb, exL, exR, wrap64]; done)
theorem wt_exI : wt exI = 2 := by unfold wt; rw [ns_exI]; decide
theorem wt_exN : wt exN = 4 := by unfold wt; rw [ns_exN]; decide
theorem stb_pl (l : List Tr) : ∀ p, stb p (l.map pl) = stb p l := by
  induction l with
  | nil => intro p; rfl
  | cons x xs ih => intro p; rw [List.map_cons, stb, stb, ih, pl_eq]
theorem lk_of {T U : Tr} (h : pl T = pl U) (hU : lk U) : lk T := fun x hx hk => by
  have h1 : (ns T).map pl = (ns U).map pl := by rw [← ns_pl, ← ns_pl, h]
  have h2 : pl x ∈ (ns U).map pl := by rw [← h1]; exact List.mem_map.2 ⟨x, hx, rfl⟩
  obtain ⟨y, hy, he⟩ := List.mem_map.1 h2
  rw [pl_eq, pl_eq x] at he
  simp only [Tr.mk.injEq] at he
  have := hU y hy (by rw [he.1, hk])
  rw [this] at he
  simpa using he.2.2.2.2.symm
end Go.Proofs.YtfmlcddakfbleaaGreatDoor
