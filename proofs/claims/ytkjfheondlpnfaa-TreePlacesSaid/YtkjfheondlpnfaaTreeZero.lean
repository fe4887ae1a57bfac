/- tree.Strip and tree.Place where they answer the zero node. -/
import Derived.Test.YtkjfheondlpnfaaTreePlace
namespace Go.Proofs.Ytkjfheondlpnfaa
open Go.RowKit TreeMath

/-- the zero node -/
def zn : Tr := ⟨0, ⟨#[]⟩, ⟨#[]⟩, 0, none, 0, []⟩
theorem zn_made {w w' : World} (hb : Below w.heap.size w w') : CpV zn w (.returned (nv zn)) w' := ⟨zn, rfl, by rw [pl_eq]; rfl, tn_iff.2 ⟨by show rng 0; unfold rng; omega, fun h => absurd h (by simp [zn]), fun x hx => absurd hx (by simp [zn])⟩, hb⟩

set_option maxHeartbeats 1600000 in
theorem strip_zero (T : Tr) (w : World) (hr : rgt T = false) (hw : wt T ≤ 5000) (hT : Tn (lo w.heap.size) w T) :
    Calls Try.prog 25 #[nv T] w (CpV zn w) := by
  have HR := Lib.hid (right_any T ((w.alloc (nbx T)).alloc (.cells z5 25)) ((hT.below (below2 w _ _)).more (by simp; omega)) hw)
  have HB := Lib.hid (below2 w (nbx T) (.cells z5 25))
  rw [hr] at HR
  clear hT hw hr
  go_enter Try.func25, Try.ntmps25
  go_wp2_with fail
  refine HR.out.mono ?_
  rintro e w0 ⟨rfl, hb0⟩
  have hn0 := (hb0.block (w.heap.size + 1) (by simp)).trans (show ((w.alloc (nbx T)).alloc (.cells z5 25)).heap[w.heap.size + 1]? = some (.cells z5 25 (0, 0)) from by have := heap_alloc_new (w.alloc (nbx T)) (.cells z5 25); rwa [World.size_alloc] at this)
  have HN0 := Lib.hid hn0
  have HX := Lib.hid (set5_self hn0 zn)
  have HW : Hid (Below w.heap.size w (set5 w0 (w.heap.size + 1) zn)) := Lib.hid (below_set5 (HB.out.trans (hb0.mono (by simp; omega))) (by omega) zn)
  obtain ⟨w2, hw2⟩ : ∃ w2, set5 w0 (w.heap.size + 1) zn = w2 := ⟨_, rfl⟩
  rw [hw2] at HW HX
  have HW2 := Lib.hid hw2
  have g0 := cell_heap HX.out (i := 0)
  have g1 := cell_heap HX.out (i := 1)
  have g2 := cell_heap HX.out (i := 2)
  have g3 := cell_heap HX.out (i := 3)
  have g4 := cell_heap HX.out (i := 4)
  simp only [List.getElem?_toArray, List.getElem?_cons_zero, List.getElem?_cons_succ] at g0 g1 g2 g3 g4
  clear hb0 hn0 hw2
  go_wp2_with (refine wpList_store_node (by rfl) 25 (.tmp 2) (.tmp 6) (by rfl) size_tnode (w.heap.size + 1) zn (by rfl) (by rfl) HN0.out ?_; rw [HW2.out])
  exact bodyPost_ret (v := nv zn) (by simp [results, Try.results25, go_sem, g0, g1, g2, g3, g4]) rfl (zn_made HW.out)

set_option maxHeartbeats 1600000 in
theorem place_off (T : Tr) (p : Int) (w : World) (hp : p < 0 ∨ 2147483648 < p) :
    Calls Try.prog 24 #[nv T, .int .i64 p] w (CpV zn w) := by
  rcases hp with hp | hp
  · go_enter Try.func24, Try.ntmps24
    go_wp2
    refine bodyPost_ret (v := nv zn) (by simp [results, Try.results24, go_sem, nv, zn]) rfl (zn_made ?_)
    exact ((Below.refl _ w).alloc (Nat.le_refl _) _).alloc (by simp) _
  · have hq : ¬ p < 0 := by omega
    go_enter Try.func24, Try.ntmps24
    go_wp2
    refine bodyPost_ret (v := nv zn) (by simp [results, Try.results24, go_sem, nv, zn]) rfl (zn_made ?_)
    exact ((Below.refl _ w).alloc (Nat.le_refl _) _).alloc (by simp) _

set_option maxHeartbeats 1600000 in
theorem place_zero (T : Tr) (p : Int) (w : World) (hr : rgt T = false) (hp0 : 0 ≤ p) (hp1 : p ≤ 2147483648) (hw : wt T ≤ 5000) (hT : Tn (lo w.heap.size) w T) :
    Calls Try.prog 24 #[nv T, .int .i64 p] w (CpV zn w) := by
  have HR := Lib.hid (right_any T ((w.alloc (nbx T)).alloc (.cells z5 25)) ((hT.below (below2 w _ _)).more (by simp; omega)) hw)
  have HB := Lib.hid (below2 w (nbx T) (.cells z5 25))
  rw [hr] at HR
  have hq0 : ¬ p < 0 := by omega
  have hq1 : ¬ 2147483648 < p := by omega
  clear hT hw hr hp0 hp1
  go_enter Try.func24, Try.ntmps24
  go_wp2_with fail
  refine HR.out.mono ?_
  rintro e w0 ⟨rfl, hb0⟩
  have hn0 := (hb0.block (w.heap.size + 1) (by simp)).trans (show ((w.alloc (nbx T)).alloc (.cells z5 25)).heap[w.heap.size + 1]? = some (.cells z5 25 (0, 0)) from by have := heap_alloc_new (w.alloc (nbx T)) (.cells z5 25); rwa [World.size_alloc] at this)
  have HN0 := Lib.hid hn0
  have HX := Lib.hid (set5_self hn0 zn)
  have HW : Hid (Below w.heap.size w (set5 w0 (w.heap.size + 1) zn)) := Lib.hid (below_set5 (HB.out.trans (hb0.mono (by simp; omega))) (by omega) zn)
  obtain ⟨w2, hw2⟩ : ∃ w2, set5 w0 (w.heap.size + 1) zn = w2 := ⟨_, rfl⟩
  rw [hw2] at HW HX
  have HW2 := Lib.hid hw2
  have g0 := cell_heap HX.out (i := 0)
  have g1 := cell_heap HX.out (i := 1)
  have g2 := cell_heap HX.out (i := 2)
  have g3 := cell_heap HX.out (i := 3)
  have g4 := cell_heap HX.out (i := 4)
  simp only [List.getElem?_toArray, List.getElem?_cons_zero, List.getElem?_cons_succ] at g0 g1 g2 g3 g4
  clear hb0 hn0 hw2
  go_wp2_with (refine wpList_store_node (by rfl) 25 (.tmp 4) (.tmp 17) (by rfl) size_tnode (w.heap.size + 1) zn (by rfl) (by rfl) HN0.out ?_; rw [HW2.out])
  exact bodyPost_ret (v := nv zn) (by simp [results, Try.results24, go_sem, g0, g1, g2, g3, g4]) rfl (zn_made HW.out)
end Go.Proofs.Ytkjfheondlpnfaa
