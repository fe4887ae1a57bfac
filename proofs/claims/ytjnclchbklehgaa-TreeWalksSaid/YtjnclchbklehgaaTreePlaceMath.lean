/- What a placed tree and a stripped one are: which nodes they have, that the one stands right, that the other doesn't hang on places. -/
import Derived.Test.YtjnclchbklehgaaTreePlace
namespace Go.Proofs.Ytjnclchbklehgaa
open Go.RowKit TreeMath

section
variable {σ α : Type} (f : σ → Tr → Tr × σ) (q : Tr → α)
theorem prof_list {l : List Tr} (h : ∀ x ∈ l, ∀ s, (ns (cg f x s).1).map q = (ns x).map q) : ∀ s, ((cgs f l s).1.flatMap ns).map q = (l.flatMap ns).map q := by
  induction l with
  | nil => intro s; rfl
  | cons x xs ih =>
    intro s
    rw [cgs_cons, List.flatMap_cons, List.flatMap_cons, List.map_append, List.map_append, h x (by simp), ih (fun y hy => h y (by simp [hy]))]
/-- what is kept of each node -/
theorem prof_cg (hq1 : ∀ s x, q { (f s (tok x)).1 with A := none, c := 0, kids := [] } = q (tok x)) (hq2 : ∀ k g t a A c kids, k = 1 → kids = [] → q ⟨k, g, t, a, A, c, kids⟩ = q (tok ⟨k, g, t, a, A, c, kids⟩))
    (hq3 : ∀ k g t a A c (kids kids' : List Tr), k ≠ 1 → kids'.length = kids.length → q ⟨k, g, t, a, none, 0, kids'⟩ = q ⟨k, g, t, a, A, c, kids⟩) (T : Tr) :
    lk T → ∀ s, (ns (cg f T s).1).map q = (ns T).map q := by
  induction T using Tr.ind with | _ k g t a A c kids ih =>
  intro hlk s
  rw [cg_eq]
  by_cases hk : k = 1
  · have hkd : kids = [] := hlk _ (ns_self _) hk
    subst hkd
    rw [if_pos hk, ns_eq, ns_eq ⟨k, g, t, a, A, c, []⟩]
    simp only [cgs_nil, List.flatMap_nil, List.map_cons, List.map_nil]
    rw [hq2 _ _ _ _ _ _ _ hk rfl]
    exact congrArg (fun x => [x]) (hq1 s _)
  · rw [if_neg hk, ns_eq, ns_eq ⟨k, g, t, a, A, c, kids⟩, List.map_cons, List.map_cons]
    simp only
    rw [hq3 k g t a A c kids _ hk (cgs_length _ _ _), prof_list f q (fun x hx s => ih x hx (lk_kid hlk hx) s)]
end

/-- a node without its place and lists, if it is a leaf -/
abbrev PrT : Type := Int × ByteArray × ByteArray × Nat × Int
def pr (x : Tr) : PrT := (x.k, x.g, x.t, x.kids.length, if x.k = 1 then 0 else x.a)
def qr (x : Tr) : PrT := (x.k, if x.k = 1 then .empty else x.g, x.t, x.kids.length, if x.k = 1 then 0 else x.a)
theorem pr_plc {T : Tr} (h : lk T) (s : Int) : (ns (cg plc T s).1).map pr = (ns T).map pr :=
  prof_cg plc pr (fun _ _ => rfl) (fun k g t a A c kids hk hd => by subst hk hd; rfl) (fun k g t a A c kids kids' hk hd => by simp [pr, hd]) T h s
theorem qr_stp {T : Tr} (h : lk T) : (ns (cg stp T ()).1).map qr = (ns T).map qr :=
  prof_cg stp qr (fun _ _ => rfl) (fun k g t a A c kids hk hd => by subst hk hd; rfl) (fun k g t a A c kids kids' hk hd => by simp [qr, hd]) T h ()

theorem pr_w1 : ∀ (l m : List Tr), l.map pr = m.map pr → l.map w1 = m.map w1 := by
  intro l
  induction l with
  | nil => intro m h; cases m with | nil => rfl | cons _ _ => simp at h
  | cons x xs ih =>
    intro m h
    cases m with
    | nil => simp at h
    | cons y ys =>
      simp only [List.map_cons, List.cons.injEq] at h ⊢
      simp only [pr, Prod.mk.injEq] at h
      exact ⟨by unfold w1; rw [h.1.2.1, h.1.2.2.1], ih _ h.2⟩
theorem pr_tx : ∀ (l m : List Tr), l.map pr = m.map pr → tx (l.filter lfb) = tx (m.filter lfb) := by
  intro l
  induction l with
  | nil => intro m h; cases m with | nil => rfl | cons _ _ => simp at h
  | cons x xs ih =>
    intro m h
    cases m with
    | nil => simp at h
    | cons y ys =>
      simp only [List.map_cons, List.cons.injEq] at h
      simp only [pr, Prod.mk.injEq] at h
      have hb : lfb x = lfb y := by unfold lfb; rw [h.1.1]
      rw [List.filter_cons, List.filter_cons, hb]
      split
      · rw [tx, tx, h.1.2.1, h.1.2.2.1, ih _ h.2]
      · exact ih _ h.2
theorem qr_w1 : ∀ (l m : List Tr), l.map qr = m.map qr → (∀ x ∈ l, x.k = 1 → x.g = .empty) → (l.map w1).sum ≤ (m.map w1).sum := by
  intro l
  induction l with
  | nil => intro m h _; cases m with | nil => exact Nat.le_refl _ | cons _ _ => simp at h
  | cons x xs ih =>
    intro m h hg
    cases m with
    | nil => simp at h
    | cons y ys =>
      simp only [List.map_cons, List.cons.injEq] at h
      simp only [List.map_cons, List.sum_cons]
      have h1 := ih _ h.2 (fun z hz => hg z (by simp [hz]))
      have h2 : w1 x ≤ w1 y := by
        simp only [qr, Prod.mk.injEq] at h
        obtain ⟨⟨e1, e2, e3, -, -⟩, -⟩ := h
        unfold w1
        rw [e3]
        by_cases hk : x.k = 1
        · rw [hg x (by simp) hk]
          have : (ByteArray.empty).size = 0 := rfl
          omega
        · rw [if_neg hk, if_neg (e1 ▸ hk)] at e2
          rw [e2]
          exact Nat.le_refl _
      omega

/-- leaves, placed one after another -/
def plcs : Int → List Tr → List Tr
  | _, [] => []
  | s, x :: xs => (plc s (tok x)).1 :: plcs (plc s (tok x)).2 xs
theorem plcs_append (l m : List Tr) : ∀ s, plcs s (l ++ m) = plcs s l ++ plcs (sta s l) m := by
  induction l with
  | nil => intro s; rfl
  | cons x xs ih => intro s; rw [List.cons_append, plcs, plcs, ih, List.cons_append]; rfl
theorem sta_append (l m : List Tr) : ∀ s, sta s (l ++ m) = sta (sta s l) m := by
  induction l with
  | nil => intro s; rfl
  | cons x xs ih => intro s; exact ih _
theorem stb_plcs (l : List Tr) : ∀ s, stb s (plcs s l) = true := by
  induction l with
  | nil => intro s; rfl
  | cons x xs ih => intro s; rw [plcs, stb, Bool.and_eq_true]; exact ⟨by simp [plc, tok], ih _⟩
theorem plcs_pos (l : List Tr) : ∀ s : Int, 0 ≤ s → s + (tx l).size ≤ 4000000000 → ∀ y ∈ plcs s l, 0 ≤ y.a := by
  induction l with
  | nil => intro s _ _ y hy; cases hy
  | cons x xs ih =>
    intro s h0 h1 y hy
    rw [tx] at h1
    simp only [ByteArray.size_append] at h1
    have e1 : wrap64 (s + x.g.size) = s + x.g.size := by unfold wrap64; omega
    have e2 : wrap64 (s + x.g.size + x.t.size) = s + x.g.size + x.t.size := by unfold wrap64; omega
    rw [plcs, List.mem_cons] at hy
    rcases hy with rfl | hy
    · show 0 ≤ wrap64 (s + x.g.size)
      omega
    · refine ih (s + x.g.size + x.t.size) (by omega) (by omega) y ?_
      have h2 : (plc s (tok x)).2 = s + x.g.size + x.t.size := by show wrap64 (wrap64 (s + x.g.size) + x.t.size) = _; rw [e1, e2]
      rwa [h2] at hy
theorem lf_list {l : List Tr} (h : ∀ x ∈ l, ∀ s, lf (cg plc x s).1 = plcs s (lf x) ∧ (cg plc x s).2 = sta s (lf x)) : ∀ s, (cgs plc l s).1.flatMap lf = plcs s (l.flatMap lf) ∧ (cgs plc l s).2 = sta s (l.flatMap lf) := by
  induction l with
  | nil => intro s; exact ⟨rfl, rfl⟩
  | cons x xs ih =>
    intro s
    obtain ⟨h1, h2⟩ := h x (by simp) s
    obtain ⟨h3, h4⟩ := ih (fun y hy => h y (by simp [hy])) (cg plc x s).2
    rw [cgs_cons, List.flatMap_cons, List.flatMap_cons, plcs_append, sta_append, h1, ← h2, h3]
    exact ⟨rfl, h4⟩
theorem lf_plc (T : Tr) : lk T → ∀ s, lf (cg plc T s).1 = plcs s (lf T) ∧ (cg plc T s).2 = sta s (lf T) := by
  induction T using Tr.ind with | _ k g t a A c kids ih =>
  intro hlk s
  rw [cg_eq]
  by_cases hk : k = 1
  · have hkd : kids = [] := hlk _ (ns_self _) hk
    subst hkd
    rw [if_pos hk, lf_eq, lf_eq ⟨k, g, t, a, A, c, []⟩]
    simp only [cgs_nil, List.flatMap_nil, List.append_nil, if_pos hk]
    exact ⟨rfl, rfl⟩
  · obtain ⟨h1, h2⟩ := lf_list (fun x hx s => ih x hx (lk_kid hlk hx) s) s
    rw [if_neg hk, lf_eq, lf_eq ⟨k, g, t, a, A, c, kids⟩]
    simp only [if_neg hk, List.nil_append]
    exact ⟨h1, h2⟩

/-- a placed tree -/
theorem placed {T : Tr} (hr : rgt T = true) (hw : wt T ≤ 5000) (s : Int) (h0 : 0 ≤ s) (h1 : s ≤ 2147483648) :
    rgt (cg plc T s).1 = true ∧ cn (cg plc T s).1 = cn T ∧ wt (cg plc T s).1 = wt T ∧ tx (lf (cg plc T s).1) = tx (lf T) ∧ stb s (lf (cg plc T s).1) = true := by
  have hp := pr_plc (lk_rgt hr) s
  have hl := (lf_plc T (lk_rgt hr) s).1
  have hle := tx_le T
  refine ⟨List.all_eq_true.2 fun y hy => ?_, by have := congrArg List.length hp; simpa [cn] using this, congrArg List.sum (pr_w1 _ _ hp), pr_tx _ _ hp, by rw [hl]; exact stb_plcs _ _⟩
  have h2 : pr y ∈ (ns T).map pr := by rw [← hp]; exact List.mem_map.2 ⟨y, hy, rfl⟩
  obtain ⟨x, hx, he⟩ := List.mem_map.1 h2
  have hs := rgt_node hr hx
  simp only [pr, Prod.mk.injEq] at he
  obtain ⟨e1, e2, e3, e4, e5⟩ := he
  unfold snd at hs ⊢
  rw [← e1, ← e2, ← e3, ← e4]
  by_cases hk : x.k = 1
  · have ha : 0 ≤ y.a := plcs_pos (lf T) s h0 (by omega) y (by rw [← hl]; exact List.mem_filter.2 ⟨hy, by simp [lfb, ← e1, hk]⟩)
    rw [if_pos hk] at hs ⊢
    simp only [Bool.and_eq_true, decide_eq_true_eq] at hs ⊢
    exact ⟨⟨hs.1.1, ha⟩, hs.2⟩
  · rw [if_neg hk, if_neg (e1 ▸ hk)] at e5
    rw [← e5]
    exact hs
theorem stripped_list {l : List Tr} (h : ∀ x ∈ l, ∀ s, (cg stp (cg plc x s).1 ()).1 = (cg stp x ()).1) : ∀ s, (cgs stp (cgs plc l s).1 ()).1 = (cgs stp l ()).1 := by
  induction l with
  | nil => intro s; rfl
  | cons x xs ih =>
    intro s
    simp only [cgs_cons]
    rw [h x (by simp), ih (fun y hy => h y (by simp [hy]))]
/-- what is stripped doesn't hang on places -/
theorem strip_plc (T : Tr) : ∀ s, (cg stp (cg plc T s).1 ()).1 = (cg stp T ()).1 := by
  induction T using Tr.ind with | _ k g t a A c kids ih =>
  intro s
  by_cases hk : k = 1
  · have h1 := stripped_list (fun x hx s => ih x hx s) (plc s (tok ⟨k, g, t, a, A, c, kids⟩)).2
    have e1 : (cg plc ⟨k, g, t, a, A, c, kids⟩ s).1 = ⟨1, g, t, wrap64 (s + g.size), none, 0, (cgs plc kids (plc s (tok ⟨k, g, t, a, A, c, kids⟩)).2).1⟩ := by rw [cg_eq, if_pos hk]; rfl
    have e2 : ∀ k a A c m, k = 1 → (cg stp ⟨k, g, t, a, A, c, m⟩ ()).1 = ⟨1, .empty, t, 0, none, 0, (cgs stp m ()).1⟩ := fun k a A c m hk => by rw [cg_eq, if_pos hk]; rfl
    rw [e1, e2 _ _ _ _ _ rfl, e2 _ _ _ _ _ hk, h1]
  · have h1 := stripped_list (fun x hx s => ih x hx s) s
    rw [cg_eq plc, cg_eq stp ⟨k, g, t, a, A, c, kids⟩, if_neg hk, if_neg hk, cg_eq, if_neg hk]
    simp only
    rw [h1]
theorem bare_list {l : List Tr} (h : ∀ x ∈ l, ∀ y ∈ ns (cg stp x ()).1, y.k = 1 → y.g = .empty ∧ y.a = 0) : ∀ y ∈ (cgs stp l ()).1.flatMap ns, y.k = 1 → y.g = .empty ∧ y.a = 0 := by
  induction l with
  | nil => intro y hy; cases hy
  | cons x xs ih =>
    intro y hy
    rw [cgs_cons, List.flatMap_cons, List.mem_append] at hy
    exact hy.elim (h x (by simp) y) (ih (fun z hz => h z (by simp [hz])) y)
theorem bare_stp (T : Tr) : lk T → ∀ y ∈ ns (cg stp T ()).1, y.k = 1 → y.g = .empty ∧ y.a = 0 := by
  induction T using Tr.ind with | _ k g t a A c kids ih =>
  intro hlk
  rw [cg_eq]
  by_cases hk : k = 1
  · have hkd : kids = [] := hlk _ (ns_self _) hk
    subst hkd
    rw [if_pos hk, ns_eq]
    simp only [cgs_nil, List.flatMap_nil]
    intro y hy _
    obtain rfl := List.mem_singleton.1 hy
    exact ⟨rfl, rfl⟩
  · rw [if_neg hk, ns_eq]
    intro y hy hy1
    rcases List.mem_cons.1 hy with rfl | hy
    · exact absurd hy1 hk
    · exact bare_list (fun x hx => ih x hx (lk_kid hlk hx)) y hy hy1
/-- a stripped tree -/
theorem stripped {T : Tr} (hr : rgt T = true) : rgt (cg stp T ()).1 = true ∧ wt (cg stp T ()).1 ≤ wt T := by
  have hq := qr_stp (lk_rgt hr)
  have hb := bare_stp T (lk_rgt hr)
  refine ⟨List.all_eq_true.2 fun y hy => ?_, qr_w1 _ _ hq fun y hy hk => (hb y hy hk).1⟩
  have h2 : qr y ∈ (ns T).map qr := by rw [← hq]; exact List.mem_map.2 ⟨y, hy, rfl⟩
  obtain ⟨x, hx, he⟩ := List.mem_map.1 h2
  have hs := rgt_node hr hx
  simp only [qr, Prod.mk.injEq] at he
  obtain ⟨e1, e2, e3, e4, e5⟩ := he
  have hbb := hb y hy
  unfold snd at hs ⊢
  rw [← e1, ← e3, ← e4]
  rw [← e1] at hbb
  by_cases hk : x.k = 1
  · rw [if_pos hk] at hs ⊢
    simp only [Bool.and_eq_true, decide_eq_true_eq] at hs ⊢
    exact ⟨⟨hs.1.1, by rw [(hbb hk).2]; exact Int.le_refl _⟩, hs.2⟩
  · rw [if_neg hk, if_neg (e1 ▸ hk)] at e2 e5
    rw [← e2, ← e5]
    exact hs
end Go.Proofs.Ytjnclchbklehgaa
