/- tree.Strip and tree.Place of a right tree. -/
import Derived.Test.YthggchkpejhaiaaGreatDoorTreeMake
namespace Go.Proofs.YthggchkpejhaiaaGreatDoor
open Go.RowKit TreeMath

/-- a leaf told without gap and place -/
def bare (T : Tr) : Tr := { T with g := .empty, a := 0 }
set_option maxHeartbeats 400000 in
theorem strip1_any (T : Tr) (w : World) :
    Calls Tryz.prog 30 #[nv T] w fun r w' => r = .returned (nv (bare T)) ∧ Below w.heap.size w w' := by
  go_enter Tryz.func30, Tryz.ntmps30
  go_wp2
  refine bodyPost_ret (v := nv (bare T)) (by simp [results, Tryz.results30, go_sem, bare, nv]; try rfl) rfl ⟨rfl, ?_⟩
  exact (((Below.refl _ _).alloc (Nat.le_refl _) _).alloc (by simp) _)

/-- a tree without gaps and places -/
def stp (s : Unit) (x : Tr) : Tr × Unit := (bare x, s)
/-- a leaf at its place, and where the next begins -/
def plc (s : Int) (x : Tr) : Tr × Int := ({ x with a := wrap64 (s + x.g.size) }, wrap64 (wrap64 (s + x.g.size) + x.t.size))

theorem eg_strip1 : ∀ args w, (callFunc 30 args).run Tryz.prog w = .ok (.enter 30 args) w := by
  intro args w; simp [go_sem]



set_option maxHeartbeats 800000 in
theorem strip_ch (T : Tr) (w : World) (hlk : lk T) (hw : wt T ≤ 9000) (hT : Tn (lo w.heap.size) w T) :
    Calls Tryz.prog 29 #[nv T, .func (.func 30) #[] #[]] w (CpV (cg stp T ()).1 w) := by
  refine (changed_any 30 #[] eg_strip1 stp (fun _ _ => ⟨rfl, rfl, rfl⟩) w.heap.size w (fun _ => Low w.heap.size w) (fun _ => Low.frames _ _) (fun _ _ _ h => h)
    (fun s T X W _ hX hj _ => (strip1_any (tok T) W).mono ?_) T () no w (fun _ x hx => by show rng 0; unfold rng; omega) hlk hw hT (fun _ h => h.elim) (Low.begin w (Below.refl _ _))).mono ?_
  · rintro e W' ⟨rfl, hb⟩
    exact ⟨rfl, hb.size, Kept.below hb, low_wth (low_below hj hb) hj.2.1⟩
  · rintro e W' ⟨U, rfl, h1, h2, _, _, h5⟩
    exact ⟨U, rfl, h1, h2, h5.1⟩

set_option maxHeartbeats 1600000 in
theorem strip_any (T : Tr) (w : World) (hr : rgt T = true) (hw : wt T ≤ 9000) (hT : Tn (lo w.heap.size) w T) :
    Calls Tryz.prog 12 #[nv T] w (CpV (cg stp T ()).1 w) := by
  have HR := Lib.hid (right_any T ((w.alloc (nbx T)).alloc (.cells z5 26)) ((hT.below (below2 w _ _)).more (by simp; omega)) hw)
  have HC : Hid (∀ W, Below w.heap.size w W → Calls Tryz.prog 29 #[nv T, .func (.func 30) #[] #[]] W (CpV (cg stp T ()).1 W)) :=
    Lib.hid fun W hb => strip_ch T W (lk_rgt hr) hw ((hT.below hb).more hb.size)
  have HB := Lib.hid (below2 w (nbx T) (.cells z5 26))
  obtain ⟨P, hP⟩ : ∃ P, (cg stp T ()).1 = P := ⟨_, rfl⟩
  rw [hP] at HC ⊢
  rw [hr] at HR
  clear hT hw hr hP
  go_enter Tryz.func12, Tryz.ntmps12
  go_wp2_with fail
  refine HR.out.mono ?_
  rintro e w0 ⟨rfl, hb0⟩
  have hs0 : w.heap.size + 2 ≤ w0.heap.size := by have := hb0.size; simpa using this
  have hc0 := box5 ((Below.refl (w.alloc (nbx T)).heap.size _ |>.alloc (Nat.le_refl _) (.cells z5 26)).trans (hb0.mono (by simp)))
  have hn0 := (hb0.block (w.heap.size + 1) (by simp)).trans (show ((w.alloc (nbx T)).alloc (.cells z5 26)).heap[w.heap.size + 1]? = some (.cells z5 26 (0, 0)) from by have := heap_alloc_new (w.alloc (nbx T)) (.cells z5 26); rwa [World.size_alloc] at this)
  have HB0 := Lib.hid (HB.out.trans (hb0.mono (by simp; omega)))
  have HN0 := Lib.hid hn0
  clear hb0 hn0
  go_wp2_with fail
  refine (HC.out w0 HB0.out).mono ?_
  rintro e w1 ⟨U, rfl, h1, h2, h3⟩
  have hs1 : w.heap.size + 2 ≤ w1.heap.size := by have := h3.size; omega
  have hb1 := (h3.block (w.heap.size + 1) (by omega)).trans HN0.out
  have HB1 := Lib.hid hb1
  have hb2 := set5_self hb1 U
  have HW : Hid (CpV P w (.returned (nv U)) (set5 w1 (w.heap.size + 1) U)) := Lib.hid ⟨U, rfl, h1, (h2.keep (fun b i hb => cell_of (set5_other (by have := hb.1; omega) U)) (fun b hb => ⟨by have := hb.1; omega, by rw [set5_size]; exact hb.2⟩)), below_set5 (HB0.out.trans (h3.mono (by omega))) (by omega) _⟩
  obtain ⟨w2, hw2⟩ : ∃ w2, set5 w1 (w.heap.size + 1) U = w2 := ⟨_, rfl⟩
  rw [hw2] at hb2 HW
  have HW2 := Lib.hid hw2
  have g0 := cell_heap hb2 (i := 0)
  have g1 := cell_heap hb2 (i := 1)
  have g2 := cell_heap hb2 (i := 2)
  have g3 := cell_heap hb2 (i := 3)
  have g4 := cell_heap hb2 (i := 4)
  simp only [List.getElem?_toArray, List.getElem?_cons_zero, List.getElem?_cons_succ] at g0 g1 g2 g3 g4
  clear h1 h2 h3 hb1 hb2 hw2 hc0
  go_wp2_with (refine wpList_store_node (by rfl) 26 (.tmp 2) (.tmp 8) (by rfl) size_tnode (w.heap.size + 1) U (by rfl) (by rfl) HB1.out ?_; rw [HW2.out])
  exact bodyPost_ret (v := nv U) (by simp [results, Tryz.results12, go_sem, g0, g1, g2, g3, g4]) rfl HW.out

























/-- Place's leaves, while it goes on: the box that keeps the place -/
def PlJ (n : Nat) (w : World) (b : Nat) (s : Int) : As := fun X W => Low n w X W ∧ Has b (ibx s) X W











theorem PlJ.frames (n : Nat) (w : World) (b : Nat) (s : Int) : Frames (PlJ n w b s) := (Low.frames _ _).and (Has.frames _ _)

theorem wrap_rng (x : Int) : rng (wrap64 x) := by unfold rng wrap64; omega




















































end Go.Proofs.YthggchkpejhaiaaGreatDoor

namespace Go.Proofs.YthggchkpejhaiaaGreatDoor
open Go.RowKit TreeMath

section
variable {σ α : Type} (f : σ → Tr → Tr × σ) (q : Tr → α)
theorem prof_list {l : List Tr} (h : ∀ x ∈ l, ∀ s, (ns (cg f x s).1).map q = (ns x).map q) : ∀ s, ((cgs f l s).1.flatMap ns).map q = (l.flatMap ns).map q := by
  induction l with
  | nil => intro s; rfl
  | cons x xs ih =>
    intro s
    rw [cgs_cons, List.flatMap_cons, List.flatMap_cons, List.map_append, List.map_append, h x (by simp), ih (fun y hy => h y (by simp [hy]))]
/-- what is kept of each node -/
theorem prof_cg (hq1 : ∀ s x, q { (f s (tok x)).1 with A := none, c := 0, kids := [] } = q (tok x)) (hq2 : ∀ k g t a A c kids, k = 1 → kids = [] → q ⟨k, g, t, a, A, c, kids⟩ = q (tok ⟨k, g, t, a, A, c, kids⟩))
    (hq3 : ∀ k g t a A c (kids kids' : List Tr), k ≠ 1 → kids'.length = kids.length → q ⟨k, g, t, a, none, 0, kids'⟩ = q ⟨k, g, t, a, A, c, kids⟩) (T : Tr) :
    lk T → ∀ s, (ns (cg f T s).1).map q = (ns T).map q := by
  induction T using Tr.ind with | _ k g t a A c kids ih =>
  intro hlk s
  rw [cg_eq]
  by_cases hk : k = 1
  · have hkd : kids = [] := hlk _ (ns_self _) hk
    subst hkd
    rw [if_pos hk, ns_eq, ns_eq ⟨k, g, t, a, A, c, []⟩]
    simp only [cgs_nil, List.flatMap_nil, List.map_cons, List.map_nil]
    rw [hq2 _ _ _ _ _ _ _ hk rfl]
    exact congrArg (fun x => [x]) (hq1 s _)
  · rw [if_neg hk, ns_eq, ns_eq ⟨k, g, t, a, A, c, kids⟩, List.map_cons, List.map_cons]
    simp only
    rw [hq3 k g t a A c kids _ hk (cgs_length _ _ _), prof_list f q (fun x hx s => ih x hx (lk_kid hlk hx) s)]
end

/-- a node without its place and lists, if it is a leaf -/
abbrev PrT : Type := Int × ByteArray × ByteArray × Nat × Int
def prr (x : Tr) : PrT := (x.k, x.g, x.t, x.kids.length, if x.k = 1 then 0 else x.a)
def qr (x : Tr) : PrT := (x.k, if x.k = 1 then .empty else x.g, x.t, x.kids.length, if x.k = 1 then 0 else x.a)
theorem pr_plc {T : Tr} (h : lk T) (s : Int) : (ns (cg plc T s).1).map prr = (ns T).map prr :=
  prof_cg plc prr (fun _ _ => rfl) (fun k g t a A c kids hk hd => by subst hk hd; rfl) (fun k g t a A c kids kids' hk hd => by simp [prr, hd]) T h s
theorem qr_stp {T : Tr} (h : lk T) : (ns (cg stp T ()).1).map qr = (ns T).map qr :=
  prof_cg stp qr (fun _ _ => rfl) (fun k g t a A c kids hk hd => by subst hk hd; rfl) (fun k g t a A c kids kids' hk hd => by simp [qr, hd]) T h ()

theorem pr_w1 : ∀ (l m : List Tr), l.map prr = m.map prr → l.map w1 = m.map w1 := by
  intro l
  induction l with
  | nil => intro m h; cases m with | nil => rfl | cons _ _ => simp at h
  | cons x xs ih =>
    intro m h
    cases m with
    | nil => simp at h
    | cons y ys =>
      simp only [List.map_cons, List.cons.injEq] at h ⊢
      simp only [prr, Prod.mk.injEq] at h
      exact ⟨by unfold w1; rw [h.1.2.1, h.1.2.2.1], ih _ h.2⟩
theorem pr_tx : ∀ (l m : List Tr), l.map prr = m.map prr → tx (l.filter lfb) = tx (m.filter lfb) := by
  intro l
  induction l with
  | nil => intro m h; cases m with | nil => rfl | cons _ _ => simp at h
  | cons x xs ih =>
    intro m h
    cases m with
    | nil => simp at h
    | cons y ys =>
      simp only [List.map_cons, List.cons.injEq] at h
      simp only [prr, Prod.mk.injEq] at h
      have hb : lfb x = lfb y := by unfold lfb; rw [h.1.1]
      rw [List.filter_cons, List.filter_cons, hb]
      split
      · rw [tx, tx, h.1.2.1, h.1.2.2.1, ih _ h.2]
      · exact ih _ h.2
theorem qr_w1 : ∀ (l m : List Tr), l.map qr = m.map qr → (∀ x ∈ l, x.k = 1 → x.g = .empty) → (l.map w1).sum ≤ (m.map w1).sum := by
  intro l
  induction l with
  | nil => intro m h _; cases m with | nil => exact Nat.le_refl _ | cons _ _ => simp at h
  | cons x xs ih =>
    intro m h hg
    cases m with
    | nil => simp at h
    | cons y ys =>
      simp only [List.map_cons, List.cons.injEq] at h
      simp only [List.map_cons, List.sum_cons]
      have h1 := ih _ h.2 (fun z hz => hg z (by simp [hz]))
      have h2 : w1 x ≤ w1 y := by
        simp only [qr, Prod.mk.injEq] at h
        obtain ⟨⟨e1, e2, e3, -, -⟩, -⟩ := h
        unfold w1
        rw [e3]
        by_cases hk : x.k = 1
        · rw [hg x (by simp) hk]
          have : (ByteArray.empty).size = 0 := rfl
          omega
        · rw [if_neg hk, if_neg (e1 ▸ hk)] at e2
          rw [e2]
          exact Nat.le_refl _
      omega

/-- leaves, placed one after another -/
def plcs : Int → List Tr → List Tr
  | _, [] => []
  | s, x :: xs => (plc s (tok x)).1 :: plcs (plc s (tok x)).2 xs
theorem plcs_append (l m : List Tr) : ∀ s, plcs s (l ++ m) = plcs s l ++ plcs (sta s l) m := by
  induction l with
  | nil => intro s; rfl
  | cons x xs ih => intro s; rw [List.cons_append, plcs, plcs, ih, List.cons_append]; rfl
theorem sta_append (l m : List Tr) : ∀ s, sta s (l ++ m) = sta (sta s l) m := by
  induction l with
  | nil => intro s; rfl
  | cons x xs ih => intro s; exact ih _
theorem stb_plcs (l : List Tr) : ∀ s, stb s (plcs s l) = true := by
  induction l with
  | nil => intro s; rfl
  | cons x xs ih => intro s; rw [plcs, stb, Bool.and_eq_true]; exact ⟨by simp [plc, tok], ih _⟩
theorem plcs_pos (l : List Tr) : ∀ s : Int, 0 ≤ s → s + (tx l).size ≤ 4000000000 → ∀ y ∈ plcs s l, 0 ≤ y.a := by
  induction l with
  | nil => intro s _ _ y hy; cases hy
  | cons x xs ih =>
    intro s h0 h1 y hy
    rw [tx] at h1
    simp only [ByteArray.size_append] at h1
    have e1 : wrap64 (s + x.g.size) = s + x.g.size := by unfold wrap64; omega
    have e2 : wrap64 (s + x.g.size + x.t.size) = s + x.g.size + x.t.size := by unfold wrap64; omega
    rw [plcs, List.mem_cons] at hy
    rcases hy with rfl | hy
    · show 0 ≤ wrap64 (s + x.g.size)
      omega
    · refine ih (s + x.g.size + x.t.size) (by omega) (by omega) y ?_
      have h2 : (plc s (tok x)).2 = s + x.g.size + x.t.size := by show wrap64 (wrap64 (s + x.g.size) + x.t.size) = _; rw [e1, e2]
      rwa [h2] at hy
theorem lf_list {l : List Tr} (h : ∀ x ∈ l, ∀ s, lf (cg plc x s).1 = plcs s (lf x) ∧ (cg plc x s).2 = sta s (lf x)) : ∀ s, (cgs plc l s).1.flatMap lf = plcs s (l.flatMap lf) ∧ (cgs plc l s).2 = sta s (l.flatMap lf) := by
  induction l with
  | nil => intro s; exact ⟨rfl, rfl⟩
  | cons x xs ih =>
    intro s
    obtain ⟨h1, h2⟩ := h x (by simp) s
    obtain ⟨h3, h4⟩ := ih (fun y hy => h y (by simp [hy])) (cg plc x s).2
    rw [cgs_cons, List.flatMap_cons, List.flatMap_cons, plcs_append, sta_append, h1, ← h2, h3]
    exact ⟨rfl, h4⟩
theorem lf_plc (T : Tr) : lk T → ∀ s, lf (cg plc T s).1 = plcs s (lf T) ∧ (cg plc T s).2 = sta s (lf T) := by
  induction T using Tr.ind with | _ k g t a A c kids ih =>
  intro hlk s
  rw [cg_eq]
  by_cases hk : k = 1
  · have hkd : kids = [] := hlk _ (ns_self _) hk
    subst hkd
    rw [if_pos hk, lf_eq, lf_eq ⟨k, g, t, a, A, c, []⟩]
    simp only [cgs_nil, List.flatMap_nil, List.append_nil, if_pos hk]
    exact ⟨rfl, rfl⟩
  · obtain ⟨h1, h2⟩ := lf_list (fun x hx s => ih x hx (lk_kid hlk hx) s) s
    rw [if_neg hk, lf_eq, lf_eq ⟨k, g, t, a, A, c, kids⟩]
    simp only [if_neg hk, List.nil_append]
    exact ⟨h1, h2⟩

/-- a placed tree -/
theorem placed {T : Tr} (hr : rgt T = true) (hw : wt T ≤ 9000) (s : Int) (h0 : 0 ≤ s) (h1 : s ≤ 2147483648) :
    rgt (cg plc T s).1 = true ∧ cn (cg plc T s).1 = cn T ∧ wt (cg plc T s).1 = wt T ∧ tx (lf (cg plc T s).1) = tx (lf T) ∧ stb s (lf (cg plc T s).1) = true := by
  have hp := pr_plc (lk_rgt hr) s
  have hl := (lf_plc T (lk_rgt hr) s).1
  have hle := tx_le T
  refine ⟨List.all_eq_true.2 fun y hy => ?_, by have := congrArg List.length hp; simpa [cn] using this, congrArg List.sum (pr_w1 _ _ hp), pr_tx _ _ hp, by rw [hl]; exact stb_plcs _ _⟩
  have h2 : prr y ∈ (ns T).map prr := by rw [← hp]; exact List.mem_map.2 ⟨y, hy, rfl⟩
  obtain ⟨x, hx, he⟩ := List.mem_map.1 h2
  have hs := rgt_node hr hx
  simp only [prr, Prod.mk.injEq] at he
  obtain ⟨e1, e2, e3, e4, e5⟩ := he
  unfold snd at hs ⊢
  rw [← e1, ← e2, ← e3, ← e4]
  by_cases hk : x.k = 1
  · have ha : 0 ≤ y.a := plcs_pos (lf T) s h0 (by omega) y (by rw [← hl]; exact List.mem_filter.2 ⟨hy, by simp [lfb, ← e1, hk]⟩)
    rw [if_pos hk] at hs ⊢
    simp only [Bool.and_eq_true, decide_eq_true_eq] at hs ⊢
    exact ⟨⟨hs.1.1, ha⟩, hs.2⟩
  · rw [if_neg hk, if_neg (e1 ▸ hk)] at e5
    rw [← e5]
    exact hs
theorem stripped_list {l : List Tr} (h : ∀ x ∈ l, ∀ s, (cg stp (cg plc x s).1 ()).1 = (cg stp x ()).1) : ∀ s, (cgs stp (cgs plc l s).1 ()).1 = (cgs stp l ()).1 := by
  induction l with
  | nil => intro s; rfl
  | cons x xs ih =>
    intro s
    simp only [cgs_cons]
    rw [h x (by simp), ih (fun y hy => h y (by simp [hy]))]
/-- what is stripped doesn't hang on places -/
theorem strip_plc (T : Tr) : ∀ s, (cg stp (cg plc T s).1 ()).1 = (cg stp T ()).1 := by
  induction T using Tr.ind with | _ k g t a A c kids ih =>
  intro s
  by_cases hk : k = 1
  · have h1 := stripped_list (fun x hx s => ih x hx s) (plc s (tok ⟨k, g, t, a, A, c, kids⟩)).2
    have e1 : (cg plc ⟨k, g, t, a, A, c, kids⟩ s).1 = ⟨1, g, t, wrap64 (s + g.size), none, 0, (cgs plc kids (plc s (tok ⟨k, g, t, a, A, c, kids⟩)).2).1⟩ := by rw [cg_eq, if_pos hk]; rfl
    have e2 : ∀ k a A c m, k = 1 → (cg stp ⟨k, g, t, a, A, c, m⟩ ()).1 = ⟨1, .empty, t, 0, none, 0, (cgs stp m ()).1⟩ := fun k a A c m hk => by rw [cg_eq, if_pos hk]; rfl
    rw [e1, e2 _ _ _ _ _ rfl, e2 _ _ _ _ _ hk, h1]
  · have h1 := stripped_list (fun x hx s => ih x hx s) s
    rw [cg_eq plc, cg_eq stp ⟨k, g, t, a, A, c, kids⟩, if_neg hk, if_neg hk, cg_eq, if_neg hk]
    simp only
    rw [h1]
theorem bare_list {l : List Tr} (h : ∀ x ∈ l, ∀ y ∈ ns (cg stp x ()).1, y.k = 1 → y.g = .empty ∧ y.a = 0) : ∀ y ∈ (cgs stp l ()).1.flatMap ns, y.k = 1 → y.g = .empty ∧ y.a = 0 := by
  induction l with
  | nil => intro y hy; cases hy
  | cons x xs ih =>
    intro y hy
    rw [cgs_cons, List.flatMap_cons, List.mem_append] at hy
    exact hy.elim (h x (by simp) y) (ih (fun z hz => h z (by simp [hz])) y)
theorem bare_stp (T : Tr) : lk T → ∀ y ∈ ns (cg stp T ()).1, y.k = 1 → y.g = .empty ∧ y.a = 0 := by
  induction T using Tr.ind with | _ k g t a A c kids ih =>
  intro hlk
  rw [cg_eq]
  by_cases hk : k = 1
  · have hkd : kids = [] := hlk _ (ns_self _) hk
    subst hkd
    rw [if_pos hk, ns_eq]
    simp only [cgs_nil, List.flatMap_nil]
    intro y hy _
    obtain rfl := List.mem_singleton.1 hy
    exact ⟨rfl, rfl⟩
  · rw [if_neg hk, ns_eq]
    intro y hy hy1
    rcases List.mem_cons.1 hy with rfl | hy
    · exact absurd hy1 hk
    · exact bare_list (fun x hx => ih x hx (lk_kid hlk hx)) y hy hy1
/-- a stripped tree -/
theorem stripped {T : Tr} (hr : rgt T = true) : rgt (cg stp T ()).1 = true ∧ wt (cg stp T ()).1 ≤ wt T := by
  have hq := qr_stp (lk_rgt hr)
  have hb := bare_stp T (lk_rgt hr)
  refine ⟨List.all_eq_true.2 fun y hy => ?_, qr_w1 _ _ hq fun y hy hk => (hb y hy hk).1⟩
  have h2 : qr y ∈ (ns T).map qr := by rw [← hq]; exact List.mem_map.2 ⟨y, hy, rfl⟩
  obtain ⟨x, hx, he⟩ := List.mem_map.1 h2
  have hs := rgt_node hr hx
  simp only [qr, Prod.mk.injEq] at he
  obtain ⟨e1, e2, e3, e4, e5⟩ := he
  have hbb := hb y hy
  unfold snd at hs ⊢
  rw [← e1, ← e3, ← e4]
  rw [← e1] at hbb
  by_cases hk : x.k = 1
  · rw [if_pos hk] at hs ⊢
    simp only [Bool.and_eq_true, decide_eq_true_eq] at hs ⊢
    exact ⟨⟨hs.1.1, by rw [(hbb hk).2]; exact Int.le_refl _⟩, hs.2⟩
  · rw [if_neg hk, if_neg (e1 ▸ hk)] at e2 e5
    rw [← e2, ← e5]
    exact hs
end Go.Proofs.YthggchkpejhaiaaGreatDoor
