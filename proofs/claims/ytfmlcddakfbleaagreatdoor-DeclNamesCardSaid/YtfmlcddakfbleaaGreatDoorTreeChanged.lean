/- tree.changed, for any function that changes leaves: a tree in lists of its own. -/
import Derived.Test.YtfmlcddakfbleaaGreatDoorTreeRight
import Derived.Test.YtfmlcddakfbleaaGreatDoorTreeBox
import Derived.Test.YtfmlcddakfbleaaGreatDoorTextStore
import Derived.Laws.MakeOwn
import Derived.Deep.RegionHeld3
import Derived.Shelf.Abstract
namespace Go.Proofs.YtfmlcddakfbleaaGreatDoor
open Go.RowKit TreeMath

/-- a node stored into a row -/
abbrev set5o (W : World) (b o : Nat) (T : Tr) : World := ((((W.setCell ⟨b, o, none⟩ (.int .i64 T.k)).setCell ⟨b, o + 1, none⟩ (.string T.g)).setCell ⟨b, o + 2, none⟩ (.string T.t)).setCell ⟨b, o + 3, none⟩ (.int .i64 T.a)).setCell ⟨b, o + 4, none⟩ (.slice T.A T.kids.length T.c)
theorem set5o_size (W : World) (b o : Nat) (T : Tr) : (set5o W b o T).heap.size = W.heap.size := by simp [World.setCell]
theorem set5o_other {W : World} {b k : Nat} (o : Nat) (h : k ≠ b) (T : Tr) : (set5o W b o T).heap[k]? = W.heap[k]? := by
  rw [set5o, Below.heap_setCell _ _ _ _ h, Below.heap_setCell _ _ _ _ h, Below.heap_setCell _ _ _ _ h, Below.heap_setCell _ _ _ _ h, Below.heap_setCell _ _ _ _ h]
theorem set5o_self {W : World} {b o : Nat} {t : TypeId} {cs : Array Value} (h : W.heap[b]? = some (.cells cs t (0, 0))) (T : Tr) :
    (set5o W b o T).heap[b]? = some (.cells (((((cs.setIfInBounds o (.int .i64 T.k)).setIfInBounds (o + 1) (.string T.g)).setIfInBounds (o + 2) (.string T.t)).setIfInBounds (o + 3) (.int .i64 T.a)).setIfInBounds (o + 4) (.slice T.A T.kids.length T.c)) t (0, 0)) :=
  heap_set (heap_set (heap_set (heap_set (heap_set h (i := o) (.int .i64 T.k)) (i := o + 1) (.string T.g)) (i := o + 2) (.string T.t)) (i := o + 3) (.int .i64 T.a)) (i := o + 4) (.slice T.A T.kids.length T.c)
theorem set5o_at {W : World} {b o : Nat} {t : TypeId} {cs : Array Value} (h : W.heap[b]? = some (.cells cs t (0, 0))) (hs : o + 5 ≤ cs.size) (T : Tr) : At5 (set5o W b o T) b o T := by
  have h5 := set5o_self (o := o) h T
  refine ⟨?_, ?_, ?_, ?_, ?_⟩ <;> rw [cell_heap h5] <;> simp [Array.getElem?_setIfInBounds] <;> omega
theorem set5o_far {W : World} {b o i : Nat} {t : TypeId} {cs : Array Value} (h : W.heap[b]? = some (.cells cs t (0, 0))) (hi : i < o ∨ o + 5 ≤ i) (T : Tr) : (set5o W b o T).cell? ⟨b, i, none⟩ = W.cell? ⟨b, i, none⟩ := by
  rw [cell_heap (set5o_self (o := o) h T), cell_heap h]
  simp only [Array.getElem?_setIfInBounds]
  rw [if_neg (by omega), if_neg (by omega), if_neg (by omega), if_neg (by omega), if_neg (by omega)]

theorem wp_store_at {o : Oper} {a : Act} {w : World} {K : Act → World → Prop} {Q : Exit → Act → World → Prop} (t : TypeId) (x y : Operand) (ho : o.op = .store t x y) (hsz : ∀ w : World, (sizeOf t).run Tryz.prog w = .ok 5 w) (b i : Nat) (T : Tr) (cs : Array Value) (t' : TypeId)
    (hx : a.eval x = .pointer (some ⟨b, i, none⟩)) (hy : a.eval y = nv T) (hc : w.heap[b]? = some (.cells cs t' (0, 0))) (hl : i + 5 ≤ cs.size) (hK : K (a.put o.dst undef) (set5o w b i T)) : o.wp Tryz.prog a w K Q := by
  have h1 := heap_set hc (i := i) (.int .i64 T.k)
  have h2 := heap_set h1 (i := i + 1) (.string T.g)
  have h3 := heap_set h2 (i := i + 2) (.string T.t)
  have h4 := heap_set h3 (i := i + 3) (.int .i64 T.a)
  have c0 : ∃ u, w.cell? ⟨b, i, none⟩ = some u := by rw [cell_heap hc]; exact ⟨_, Array.getElem?_eq_getElem (by omega)⟩
  have c1 : ∃ u, (w.setCell ⟨b, i, none⟩ (.int .i64 T.k)).cell? ⟨b, i + 1, none⟩ = some u := by rw [cell_heap h1]; exact ⟨_, Array.getElem?_eq_getElem (by simp; omega)⟩
  have c2 : ∃ u, ((w.setCell ⟨b, i, none⟩ (.int .i64 T.k)).setCell ⟨b, i + 1, none⟩ (.string T.g)).cell? ⟨b, i + 2, none⟩ = some u := by rw [cell_heap h2]; exact ⟨_, Array.getElem?_eq_getElem (by simp; omega)⟩
  have c3 : ∃ u, (((w.setCell ⟨b, i, none⟩ (.int .i64 T.k)).setCell ⟨b, i + 1, none⟩ (.string T.g)).setCell ⟨b, i + 2, none⟩ (.string T.t)).cell? ⟨b, i + 3, none⟩ = some u := by rw [cell_heap h3]; exact ⟨_, Array.getElem?_eq_getElem (by simp; omega)⟩
  have c4 : ∃ u, ((((w.setCell ⟨b, i, none⟩ (.int .i64 T.k)).setCell ⟨b, i + 1, none⟩ (.string T.g)).setCell ⟨b, i + 2, none⟩ (.string T.t)).setCell ⟨b, i + 3, none⟩ (.int .i64 T.a)).cell? ⟨b, i + 4, none⟩ = some u := by rw [cell_heap h4]; exact ⟨_, Array.getElem?_eq_getElem (by simp; omega)⟩
  obtain ⟨u0, c0⟩ := c0
  obtain ⟨u1, c1⟩ := c1
  obtain ⟨u2, c2⟩ := c2
  obtain ⟨u3, c3⟩ := c3
  obtain ⟨u4, c4⟩ := c4
  have f0 := frozen_heap hc (i := i)
  have f1 := frozen_heap h1 (i := i + 1)
  have f2 := frozen_heap h2 (i := i + 2)
  have f3 := frozen_heap h3 (i := i + 3)
  have f4 := frozen_heap h4 (i := i + 4)
  unfold Oper.wp
  simp only [execOp, ho, hx, hy]
  simp [go_sem, hsz, c0, c1, c2, c3, c4, f0, f1, f2, f3, f4]
  exact hK
theorem step_store_at {ops : Array Oper} {o : Oper} {a : Act} {w : World} {K : Act → World → Prop} {Q : Exit → Act → World → Prop} {E : Prop} (hg : o.guard = none) (t : TypeId) (x y : Operand) (ho : o.op = .store t x y) (hsz : ∀ w : World, (sizeOf t).run Tryz.prog w = .ok 5 w) (b i : Nat) (T : Tr) {cs : Array Value} {t' : TypeId}
    (hx : a.eval x = .pointer (some ⟨b, i, none⟩)) (hy : a.eval y = nv T) (hc : w.heap[b]? = some (.cells cs t' (0, 0))) (hl : i + 5 ≤ cs.size) (hK : K (a.put o.dst undef) (set5o w b i T)) :
    if Region.wanted o (yielded ops a.tmps) = true then Oper.wp Tryz.prog o a w K Q else E := by
  rw [if_pos (by simp [Region.wanted, hg])]
  exact wp_store_at t x y ho hsz b i T cs t' hx hy hc hl hK

theorem off_set5 {X : Nat → Prop} {b : Nat} (hb : X b) (W : World) (T : Tr) : Off X W (set5 W b T) :=
  ((((Off.setCell (p := ⟨b, 0, none⟩) hb _ _).trans (Off.setCell (p := ⟨b, 1, none⟩) hb _ _)).trans (Off.setCell (p := ⟨b, 2, none⟩) hb _ _)).trans (Off.setCell (p := ⟨b, 3, none⟩) hb _ _)).trans (Off.setCell (p := ⟨b, 4, none⟩) hb _ _)
theorem kept_set5 {X : Nat → Prop} {b : Nat} (hb : ¬ X b) (W : World) (T : Tr) : Kept X W (set5 W b T) := fun k hk _ => set5_other (fun e => by subst e; exact hb hk) T

/-- X, and what was laid since -/
def wth (X : Nat → Prop) (W W' : World) : Nat → Prop := fun k => X k ∨ W.heap.size ≤ k ∧ k < W'.heap.size

/-- a leaf's function: what it answers, and what becomes of what it reads and writes -/
def LeafF {σ : Type} (gf : Nat) (lb : Array Value) (f : σ → Tr → Tr × σ) (J : σ → As) : Prop :=
  ∀ (s : σ) (T : Tr) (X : Nat → Prop) (W : World), T.k = 1 → (∀ k, X k → k < W.heap.size) → J s X W → w1 T ≤ 9000 →
    Calls Tryz.prog gf (#[nv (tok T)] ++ lb) W fun e W' => e = .returned (nv (f s (tok T)).1) ∧ W.heap.size ≤ W'.heap.size ∧ Kept X W W' ∧ J (f s (tok T)).2 (wth X W W') W'
/-- leaves have no kids -/
def lk (T : Tr) : Prop := ∀ x ∈ ns T, x.k = 1 → x.kids = []
theorem lk_kid {T x : Tr} (h : lk T) (hx : x ∈ T.kids) : lk x := fun y hy => h y (ns_kid hx hy)
theorem lk_rgt {T : Tr} (h : rgt T = true) : lk T := fun _ hx hk => (snd_leaf (rgt_node h hx) hk).2.2

def ChV {σ : Type} (f : σ → Tr → Tr × σ) (J : σ → As) (T : Tr) (s : σ) (X : Nat → Prop) (W : World) (e : Ending) (W' : World) : Prop := ∃ U, e = .returned (nv U) ∧ pl U = (cg f T s).1 ∧ Tn (nw W.heap.size W') W' U ∧ W.heap.size ≤ W'.heap.size ∧ Kept X W W' ∧ J (cg f T s).2 (wth X W W') W'

abbrev z5 : Array Value := #[.int .i64 0, .string ⟨#[]⟩, .string ⟨#[]⟩, .int .i64 0, .slice none 0 0]

set_option maxRecDepth 100000 in
set_option maxHeartbeats 2000000 in
theorem changed_leaf {σ : Type} (gf : Nat) (lb : Array Value) (eg : ∀ args w, (callFunc gf args).run Tryz.prog w = .ok (.enter gf args) w) (f : σ → Tr → Tr × σ) (hf : ∀ s T, (f s (tok T)).1.kids = [] ∧ (f s (tok T)).1.A = none ∧ (f s (tok T)).1.c = 0)
    (J : σ → As) (hJ : ∀ s, Frames (J s)) (hL : LeafF gf lb f J) (T : Tr) (s : σ) (X : Nat → Prop) (W : World) (hra : rng (f s (tok T)).1.a) (hk : T.k = 1) (hkd : T.kids = []) (hw : wt T ≤ 9000) (hX : ∀ k, X k → k < W.heap.size) (h0 : J s X W) :
    Calls Tryz.prog 45 #[nv T, .func (.func gf) #[] lb] W (ChV f J T s X W) := by
  have hlt : ∀ k, (X k ∨ W.heap.size ≤ k ∧ k < W.heap.size + 2) → k < ((W.alloc (.cells (ncc (tok T)) 30)).alloc (.cells z5 30)).heap.size := fun k h => by
    rw [World.size_alloc, World.size_alloc]
    rcases h with h | h
    · have := hX k h; omega
    · omega
  have hc := hL s T (fun k => X k ∨ W.heap.size ≤ k ∧ k < W.heap.size + 2) ((W.alloc (.cells (ncc (tok T)) 30)).alloc (.cells z5 30)) hk hlt ((hJ s).more h0 ((Off.alloc _ _ _).trans (Off.alloc _ _ _)) (fun k h => h.imp id fun h => h.1)) (Nat.le_trans (wt_node (ns_self T)) hw)
  clear hlt
  have HC := Lib.hid hc
  have HF := Lib.hid (hf s T)
  have HCG : Hid ((cg f T s).1 = pl (f s (tok T)).1 ∧ (cg f T s).2 = (f s (tok T)).2) := Lib.hid (by
    rw [cg_eq, if_pos hk, hkd]
    simp only [cgs_nil]
    obtain ⟨h1, h2, h3⟩ := hf s T
    refine ⟨?_, trivial⟩
    rw [pl_eq, h1]
    rfl)
  obtain ⟨L, hLL⟩ : ∃ L, f s (tok T) = L := ⟨_, rfl⟩
  rw [hLL] at HC HF HCG hra
  obtain ⟨k, g, t, a, A, c, kids⟩ := T
  simp only at hk hkd
  subst hk hkd
  clear hc hL hLL h0 hf
  go_enter Tryz.func45, Tryz.ntmps45
  have hnx0 : ¬ X W.heap.size := fun h => by have := hX _ h; omega
  have hnx1 : ¬ X (W.heap.size + 1) := fun h => by have := hX _ h; omega
  go_wp2_with (first | (go_at_fn gf; refine HC.out.mono ?_; rintro r w2 ⟨rfl, hs2, hk2, hJ2⟩; refine Stay.out ?_))
  refine Stay.mk ?_
  have hb0 := (hk2 W.heap.size (.inr ⟨by omega, by omega⟩) (by simp; omega)).trans ((Below.heap_alloc _ _ _ (by simp)).trans (heap_alloc_new W _))
  have hb1 := (hk2 (W.heap.size + 1) (.inr ⟨by omega, by omega⟩) (by simp)).trans (show ((W.alloc (.cells (ncc (tok ⟨1, g, t, a, A, c, []⟩)) 30)).alloc (.cells z5 30)).heap[W.heap.size + 1]? = some (.cells z5 30 (0, 0)) from by have := heap_alloc_new (W.alloc (.cells (ncc (tok ⟨1, g, t, a, A, c, []⟩)) 30)) (.cells z5 30); rwa [World.size_alloc] at this)
  have hs2' : W.heap.size + 2 ≤ w2.heap.size := by simpa using hs2
  obtain ⟨w3, hw3⟩ : ∃ w3, set5 w2 W.heap.size L.1 = w3 := ⟨_, rfl⟩
  have hb3 := set5_self hb0 L.1
  have hb4 := (set5_other (W := w2) (b := W.heap.size) (k := W.heap.size + 1) (by omega) L.1).trans hb1
  rw [hw3] at hb3 hb4
  have c0 := cell_heap hb3 (i := 0)
  have c1 := cell_heap hb3 (i := 1)
  have c2 := cell_heap hb3 (i := 2)
  have c3 := cell_heap hb3 (i := 3)
  have c4 := cell_heap hb3 (i := 4)
  have r0 := cell_heap hb4 (i := 0)
  have r1 := cell_heap hb4 (i := 1)
  have r2 := cell_heap hb4 (i := 2)
  have r3 := cell_heap hb4 (i := 3)
  have r4 := cell_heap hb4 (i := 4)
  have fr : ∀ i, w3.frozen? ⟨W.heap.size + 1, i, none⟩ = false := fun i => frozen_heap hb4
  simp only [List.getElem?_toArray, List.getElem?_cons_zero, List.getElem?_cons_succ] at c0 c1 c2 c3 c4 r0 r1 r2 r3 r4
  have HS5 := Lib.hid (set5_self hb4 L.1)
  have HW3 := Lib.hid hw3
  have HB0 := Lib.hid hb0
  have HK2 := Lib.hid hk2
  clear hb0 hb1 hb3 hb4 hw3 hs2 hk2
  go_wp2_with (refine wpList_store_node (by rfl) 30 (.tmp 2) (.tmp 16) (by rfl) size_tnode W.heap.size L.1 (by rfl) (by rfl) HB0.out ?_; rw [HW3.out])
  go_loopw [26, 6, 7] (fun i _ _ wr => i = .int .i64 0 ∧ wr = w3) (fun _ _ _ _ => 0)
  case atStart => exact ⟨rfl, rfl⟩
  case round =>
    obtain ⟨rfl, rfl⟩ := hrel
    go_wp2
    have g0 := cell_heap HS5.out (i := 0)
    have g1 := cell_heap HS5.out (i := 1)
    have g2 := cell_heap HS5.out (i := 2)
    have g3 := cell_heap HS5.out (i := 3)
    have g4 := cell_heap HS5.out (i := 4)
    simp only [List.getElem?_toArray, List.getElem?_cons_zero, List.getElem?_cons_succ] at g0 g1 g2 g3 g4
    refine bodyPost_ret (v := nv L.1) (by simp [results, Tryz.results45, go_sem, g0, g1, g2, g3, g4]) rfl ?_
    obtain ⟨f1, f2, f3⟩ := HF.out
    have hkk : Kept X W w2 := Kept.trans (by simp; omega) (Kept.trans (by simp) (Kept.alloc X W _) (Kept.alloc X _ _)) (HK2.out.mono fun _ h => .inl h)
    refine ⟨L.1, rfl, HCG.out.1.symm, tn_iff.2 ⟨hra, fun h => by rw [f1] at h; simp at h, fun x hx => by rw [f1] at hx; cases hx⟩, ?_, ?_, ?_⟩
    · rw [set5_size, ← HW3.out, set5_size]; omega
    · refine Kept.trans (by omega) hkk ?_
      rw [← HW3.out]
      exact Kept.trans (by rw [set5_size]; exact Nat.le_refl _) (kept_set5 hnx0 _ _) (kept_set5 hnx1 _ _)
    · rw [HCG.out.2]
      have hsz : (set5 wr (W.heap.size + 1) L.1).heap.size = w2.heap.size := by rw [set5_size, ← HW3.out, set5_size]
      refine (hJ _).less (X := wth (fun k => X k ∨ W.heap.size ≤ k ∧ k < W.heap.size + 2) ((W.alloc (.cells (ncc (tok ⟨1, g, t, a, A, c, []⟩)) 30)).alloc (.cells z5 30)) w2) ?_ (fun k h => ?_)
      · rw [← HW3.out]
        exact (hJ _).off hJ2 ((off_set5 (.inl (.inr ⟨by omega, by omega⟩)) _ _).trans (off_set5 (.inl (.inr ⟨by omega, by omega⟩)) _ _))
      · rcases h with h | ⟨h1, h2⟩
        · exact .inl (.inl h)
        · rw [hsz] at h2
          by_cases hk : k < W.heap.size + 2
          · exact .inl (.inr ⟨h1, hk⟩)
          · exact .inr ⟨by simp; omega, h2⟩
end Go.Proofs.YtfmlcddakfbleaaGreatDoor
