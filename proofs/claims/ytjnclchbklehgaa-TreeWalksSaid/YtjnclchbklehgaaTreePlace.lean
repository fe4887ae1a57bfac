/- tree.Strip and tree.Place of a right tree. -/
import Derived.Test.YtjnclchbklehgaaTreeMake
namespace Go.Proofs.Ytjnclchbklehgaa
open Go.RowKit TreeMath

/-- a leaf told without gap and place -/
def bare (T : Tr) : Tr := { T with g := .empty, a := 0 }
set_option maxHeartbeats 400000 in
theorem strip1_any (T : Tr) (w : World) :
    Calls Try.prog 49 #[nv T] w fun r w' => r = .returned (nv (bare T)) ∧ Below w.heap.size w w' := by
  go_enter Try.func49, Try.ntmps49
  go_wp2
  refine bodyPost_ret (v := nv (bare T)) (by simp [results, Try.results49, go_sem, bare, nv]; try rfl) rfl ⟨rfl, ?_⟩
  exact (((Below.refl _ _).alloc (Nat.le_refl _) _).alloc (by simp) _)

/-- a tree without gaps and places -/
def stp (s : Unit) (x : Tr) : Tr × Unit := (bare x, s)
/-- a leaf at its place, and where the next begins -/
def plc (s : Int) (x : Tr) : Tr × Int := ({ x with a := wrap64 (s + x.g.size) }, wrap64 (wrap64 (s + x.g.size) + x.t.size))

theorem eg_strip1 : ∀ args w, (callFunc 49 args).run Try.prog w = .ok (.enter 49 args) w := by
  intro args w; simp [go_sem]
theorem eg_place1 : ∀ args w, (callFunc 48 args).run Try.prog w = .ok (.enter 48 args) w := by
  intro args w; simp [go_sem]

set_option maxHeartbeats 800000 in
theorem strip_ch (T : Tr) (w : World) (hlk : lk T) (hw : wt T ≤ 5000) (hT : Tn (lo w.heap.size) w T) :
    Calls Try.prog 47 #[nv T, .func (.func 49) #[] #[]] w (CpV (cg stp T ()).1 w) := by
  refine (changed_any 49 #[] eg_strip1 stp (fun _ _ => ⟨rfl, rfl, rfl⟩) w.heap.size w (fun _ => Low w.heap.size w) (fun _ => Low.frames _ _) (fun _ _ _ h => h)
    (fun s T X W _ hX hj _ => (strip1_any (tok T) W).mono ?_) T () no w (fun _ x hx => by show rng 0; unfold rng; omega) hlk hw hT (fun _ h => h.elim) (Low.begin w (Below.refl _ _))).mono ?_
  · rintro e W' ⟨rfl, hb⟩
    exact ⟨rfl, hb.size, Kept.below hb, low_wth (low_below hj hb) hj.2.1⟩
  · rintro e W' ⟨U, rfl, h1, h2, _, _, h5⟩
    exact ⟨U, rfl, h1, h2, h5.1⟩

set_option maxHeartbeats 1600000 in
theorem strip_any (T : Tr) (w : World) (hr : rgt T = true) (hw : wt T ≤ 5000) (hT : Tn (lo w.heap.size) w T) :
    Calls Try.prog 25 #[nv T] w (CpV (cg stp T ()).1 w) := by
  have HR := Lib.hid (right_any T ((w.alloc (nbx T)).alloc (.cells z5 25)) ((hT.below (below2 w _ _)).more (by simp; omega)) hw)
  have HC : Hid (∀ W, Below w.heap.size w W → Calls Try.prog 47 #[nv T, .func (.func 49) #[] #[]] W (CpV (cg stp T ()).1 W)) :=
    Lib.hid fun W hb => strip_ch T W (lk_rgt hr) hw ((hT.below hb).more hb.size)
  have HB := Lib.hid (below2 w (nbx T) (.cells z5 25))
  obtain ⟨P, hP⟩ : ∃ P, (cg stp T ()).1 = P := ⟨_, rfl⟩
  rw [hP] at HC ⊢
  rw [hr] at HR
  clear hT hw hr hP
  go_enter Try.func25, Try.ntmps25
  go_wp2_with fail
  refine HR.out.mono ?_
  rintro e w0 ⟨rfl, hb0⟩
  have hs0 : w.heap.size + 2 ≤ w0.heap.size := by have := hb0.size; simpa using this
  have hc0 := box5 ((Below.refl (w.alloc (nbx T)).heap.size _ |>.alloc (Nat.le_refl _) (.cells z5 25)).trans (hb0.mono (by simp)))
  have hn0 := (hb0.block (w.heap.size + 1) (by simp)).trans (show ((w.alloc (nbx T)).alloc (.cells z5 25)).heap[w.heap.size + 1]? = some (.cells z5 25 (0, 0)) from by have := heap_alloc_new (w.alloc (nbx T)) (.cells z5 25); rwa [World.size_alloc] at this)
  have HB0 := Lib.hid (HB.out.trans (hb0.mono (by simp; omega)))
  have HN0 := Lib.hid hn0
  clear hb0 hn0
  go_wp2_with fail
  refine (HC.out w0 HB0.out).mono ?_
  rintro e w1 ⟨U, rfl, h1, h2, h3⟩
  have hs1 : w.heap.size + 2 ≤ w1.heap.size := by have := h3.size; omega
  have hb1 := (h3.block (w.heap.size + 1) (by omega)).trans HN0.out
  have HB1 := Lib.hid hb1
  have hb2 := set5_self hb1 U
  have HW : Hid (CpV P w (.returned (nv U)) (set5 w1 (w.heap.size + 1) U)) := Lib.hid ⟨U, rfl, h1, (h2.keep (fun b i hb => cell_of (set5_other (by have := hb.1; omega) U)) (fun b hb => ⟨by have := hb.1; omega, by rw [set5_size]; exact hb.2⟩)), below_set5 (HB0.out.trans (h3.mono (by omega))) (by omega) _⟩
  obtain ⟨w2, hw2⟩ : ∃ w2, set5 w1 (w.heap.size + 1) U = w2 := ⟨_, rfl⟩
  rw [hw2] at hb2 HW
  have HW2 := Lib.hid hw2
  have g0 := cell_heap hb2 (i := 0)
  have g1 := cell_heap hb2 (i := 1)
  have g2 := cell_heap hb2 (i := 2)
  have g3 := cell_heap hb2 (i := 3)
  have g4 := cell_heap hb2 (i := 4)
  simp only [List.getElem?_toArray, List.getElem?_cons_zero, List.getElem?_cons_succ] at g0 g1 g2 g3 g4
  clear h1 h2 h3 hb1 hb2 hw2 hc0
  go_wp2_with (refine wpList_store_node (by rfl) 25 (.tmp 2) (.tmp 8) (by rfl) size_tnode (w.heap.size + 1) U (by rfl) (by rfl) HB1.out ?_; rw [HW2.out])
  exact bodyPost_ret (v := nv U) (by simp [results, Try.results25, go_sem, g0, g1, g2, g3, g4]) rfl HW.out

set_option maxHeartbeats 800000 in
theorem place1_any (T : Tr) (s : Int) (b : Nat) (W : World) (hb : W.heap[b]? = some (ibx s)) (_hsz : (T.g.size : Int) + T.t.size ≤ 250000) :
    Calls Try.prog 48 #[nv T, .pointer (some ⟨b, 0, none⟩)] W fun e w' => e = .returned (nv (plc s T).1) ∧ Off (fun k => k = b) W w' ∧ w'.heap[b]? = some (ibx (plc s T).2) := by
  have hlt : b < W.heap.size := (Array.getElem?_eq_some_iff.1 hb).1
  obtain ⟨v, hv⟩ : ∃ v, wrap64 (s + T.g.size) = v := ⟨_, rfl⟩
  obtain ⟨u, hu⟩ : ∃ u, wrap64 (v + T.t.size) = u := ⟨_, rfl⟩
  have he : plc s T = ({ T with a := v }, u) := by rw [← hu, ← hv]; rfl
  rw [he]
  have q0 : ((W.alloc (nbx T)).alloc (.cells z5 25)).cell? ⟨b, 0, none⟩ = some (.int .i64 s) := by
    rw [cell_of (Below.heap_alloc _ _ _ (by simp; omega)), cell_of (Below.heap_alloc _ _ _ hlt)]
    exact cell_heap hb (i := 0)
  have q1 := cell_heap hb (i := 0)
  have f1 := frozen_heap hb (i := 0)
  simp only [List.getElem?_toArray, List.getElem?_cons_zero] at q1
  have hne : b ≠ W.heap.size := by omega
  have hne2 : b ≠ W.heap.size + 1 := by omega
  clear he
  go_enter Try.func48, Try.ntmps48
  go_wp2
  refine bodyPost_ret (v := nv { T with a := v }) (by simp [results, Try.results48, go_sem, nv]) rfl ⟨rfl, ?_, ?_⟩
  · exact ((Off.setCell (X := fun k => k = b) (p := ⟨b, 0, none⟩) rfl W _).trans (Off.alloc _ _ _)).trans (Off.alloc _ _ _)
  · rw [Below.heap_alloc _ _ _ (by simp [World.setCell]; omega), Below.heap_alloc _ _ _ (by simp [World.setCell]; omega), heap_set hb]
    rfl

/-- Place's leaves, while it goes on: the box that keeps the place -/
def PlJ (n : Nat) (w : World) (b : Nat) (s : Int) : As := fun X W => Low n w X W ∧ Has b (ibx s) X W
theorem place_leaf {n : Nat} {w : World} {b : Nat} (hn : n ≤ b) : LeafF 48 #[.pointer (some ⟨b, 0, none⟩)] plc (PlJ n w b) := by
  intro s T X W _ hX hj hw
  have hlt := hj.2.lt
  refine (place1_any (tok T) s b W hj.2.2 (by unfold w1 at hw; show (T.g.size : Int) + T.t.size ≤ 250000; omega)).mono ?_
  rintro e W' ⟨rfl, ho, hb⟩
  refine ⟨rfl, ho.size, fun k hk hl => ho.block k hl (fun e => hj.2.1 (e ▸ hk)), ⟨⟨?_, ?_, ?_⟩, ?_, hb⟩⟩
  · obtain ⟨h1, h2, _⟩ := hj.1
    exact ⟨ho.os.trans h1.os, ho.tape.trans h1.tape, ho.output.trans h1.output, Nat.le_trans h1.size ho.size, fun k hk => (ho.block k (by omega) (by omega)).trans (h1.block k hk)⟩
  · exact Nat.le_trans hj.1.2.1 ho.size
  · exact fun k hk => hk.elim (hj.1.2.2 k) fun h => Nat.le_trans hj.1.2.1 h.1
  · exact fun h => h.elim hj.2.1 fun h => by omega
theorem PlJ.frames (n : Nat) (w : World) (b : Nat) (s : Int) : Frames (PlJ n w b s) := (Low.frames _ _).and (Has.frames _ _)

theorem wrap_rng (x : Int) : rng (wrap64 x) := by unfold rng wrap64; omega

set_option maxHeartbeats 800000 in
theorem place_ch (T : Tr) (s : Int) (w W : World) (b : Nat) (hlk : lk T) (hw : wt T ≤ 5000) (hT : Tn (lo w.heap.size) w T) (hW : Below w.heap.size w W) (hn : w.heap.size ≤ b) (hb : W.heap[b]? = some (ibx s)) :
    Calls Try.prog 47 #[nv T, .func (.func 48) #[] #[.pointer (some ⟨b, 0, none⟩)]] W fun e W' => ∃ U, e = .returned (nv U) ∧ pl U = (cg plc T s).1 ∧ Tn (nw W.heap.size W') W' U ∧ W.heap.size ≤ W'.heap.size ∧ Below w.heap.size w W' := by
  refine (changed_any 48 #[.pointer (some ⟨b, 0, none⟩)] eg_place1 plc (fun _ _ => ⟨rfl, rfl, rfl⟩) w.heap.size w (PlJ w.heap.size w b) (PlJ.frames _ _ _) (fun _ _ _ h => h.1)
    (place_leaf hn) T s no W (fun _ x _ => wrap_rng _) hlk hw hT (fun _ h => h.elim) ⟨Low.begin w hW, fun h => h, hb⟩).mono ?_
  rintro e W' ⟨U, rfl, h1, h2, h3, _, h5⟩
  exact ⟨U, rfl, h1, h2, h3, h5.1.1⟩

set_option maxHeartbeats 1600000 in
theorem place_any (T : Tr) (p : Int) (w : World) (hr : rgt T = true) (hp0 : 0 ≤ p) (hp1 : p ≤ 2147483648) (hw : wt T ≤ 5000) (hT : Tn (lo w.heap.size) w T) :
    Calls Try.prog 24 #[nv T, .int .i64 p] w (CpV (cg plc T p).1 w) := by
  have HR := Lib.hid (right_any T ((w.alloc (nbx T)).alloc (.cells z5 25)) ((hT.below (below2 w _ _)).more (by simp; omega)) hw)
  have HC : Hid (∀ W, Below w.heap.size w W → Calls Try.prog 47 #[nv T, .func (.func 48) #[] #[.pointer (some ⟨W.heap.size, 0, none⟩)]] (W.alloc (ibx p)) fun e W' => ∃ U, e = .returned (nv U) ∧ pl U = (cg plc T p).1 ∧ Tn (nw (W.alloc (ibx p)).heap.size W') W' U ∧ (W.alloc (ibx p)).heap.size ≤ W'.heap.size ∧ Below W.heap.size W W') :=
    Lib.hid fun W hb => place_ch T p W (W.alloc (ibx p)) W.heap.size (lk_rgt hr) hw ((hT.below hb).more hb.size) (below1 _ _) (Nat.le_refl _) (World.alloc_heap_new W _)
  have HB := Lib.hid (below2 w (nbx T) (.cells z5 25))
  obtain ⟨P, hP⟩ : ∃ P, (cg plc T p).1 = P := ⟨_, rfl⟩
  rw [hP] at HC ⊢
  rw [hr] at HR
  have hq0 : ¬ p < 0 := by omega
  have hq1 : ¬ 2147483648 < p := by omega
  clear hT hw hr hP hp0 hp1
  go_enter Try.func24, Try.ntmps24
  go_wp2_with fail
  refine HR.out.mono ?_
  rintro e w0 ⟨rfl, hb0⟩
  have hs0 : w.heap.size + 2 ≤ w0.heap.size := by have := hb0.size; simpa using this
  have hc0 := box5 ((Below.refl (w.alloc (nbx T)).heap.size _ |>.alloc (Nat.le_refl _) (.cells z5 25)).trans (hb0.mono (by simp)))
  have hn0 := (hb0.block (w.heap.size + 1) (by simp)).trans (show ((w.alloc (nbx T)).alloc (.cells z5 25)).heap[w.heap.size + 1]? = some (.cells z5 25 (0, 0)) from by have := heap_alloc_new (w.alloc (nbx T)) (.cells z5 25); rwa [World.size_alloc] at this)
  have HB0 := Lib.hid (HB.out.trans (hb0.mono (by simp; omega)))
  have HN0 := Lib.hid hn0
  clear hb0 hn0
  go_wp2_with fail
  refine (HC.out w0 HB0.out).mono ?_
  rintro e w1 ⟨U, rfl, h1, h2, h3s, h3⟩
  have hs1 : w.heap.size + 2 ≤ w1.heap.size := by have := h3.size; omega
  have hb1 := (h3.block (w.heap.size + 1) (by omega)).trans HN0.out
  have HB1 := Lib.hid hb1
  have hb2 := set5_self hb1 U
  have HW : Hid (CpV P w (.returned (nv U)) (set5 w1 (w.heap.size + 1) U)) := Lib.hid ⟨U, rfl, h1, (h2.keep (fun b i hb => cell_of (set5_other (by have := hb.1; simp at this; omega) U)) (fun b hb => ⟨by have := hb.1; simp at this; omega, by rw [set5_size]; exact hb.2⟩)), below_set5 (HB0.out.trans (h3.mono (by omega))) (by omega) _⟩
  obtain ⟨w2, hw2⟩ : ∃ w2, set5 w1 (w.heap.size + 1) U = w2 := ⟨_, rfl⟩
  rw [hw2] at hb2 HW
  have HW2 := Lib.hid hw2
  have g0 := cell_heap hb2 (i := 0)
  have g1 := cell_heap hb2 (i := 1)
  have g2 := cell_heap hb2 (i := 2)
  have g3 := cell_heap hb2 (i := 3)
  have g4 := cell_heap hb2 (i := 4)
  simp only [List.getElem?_toArray, List.getElem?_cons_zero, List.getElem?_cons_succ] at g0 g1 g2 g3 g4
  clear h1 h2 h3 h3s hb1 hb2 hw2 hc0
  go_wp2_with (refine wpList_store_node (by rfl) 25 (.tmp 4) (.tmp 21) (by rfl) size_tnode (w.heap.size + 1) U (by rfl) (by rfl) HB1.out ?_; rw [HW2.out])
  exact bodyPost_ret (v := nv U) (by simp [results, Try.results24, go_sem, g0, g1, g2, g3, g4]) rfl HW.out
end Go.Proofs.Ytjnclchbklehgaa
