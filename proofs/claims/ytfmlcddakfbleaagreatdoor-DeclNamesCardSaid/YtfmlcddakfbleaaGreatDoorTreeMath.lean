/- Trees, plainly: their nodes, walk, leaves, text, size, what a tree is when its leaves are changed, when two are the same. No program. -/
import GoSem.Claim
namespace Go.Proofs.YtfmlcddakfbleaaGreatDoor.TreeMath

/-- a tree as it lies in memory: its kids' slice begins at A and has room for c -/
structure Tr where
  k : Int
  g : ByteArray
  t : ByteArray
  a : Int
  A : Option Addr
  c : Nat
  kids : List Tr

theorem Tr.ind {P : Tr → Prop} (h : ∀ k g t a A c kids, (∀ x ∈ kids, P x) → P ⟨k, g, t, a, A, c, kids⟩) : ∀ T, P T
  | ⟨k, g, t, a, A, c, kids⟩ => h k g t a A c kids fun x _ => Tr.ind h x

/-- a function of a tree, out of what it is for each kid -/
def fold {α : Type} (f : Int → ByteArray → ByteArray → Int → Option Addr → Nat → List Tr → List α → α) : Tr → α
  | ⟨k, g, t, a, A, c, kids⟩ => f k g t a A c kids (kids.map fun x => fold f x)
theorem fold_eq {α : Type} (f : Int → ByteArray → ByteArray → Int → Option Addr → Nat → List Tr → List α → α) (T : Tr) : fold f T = f T.k T.g T.t T.a T.A T.c T.kids (T.kids.map (fold f)) := by
  cases T
  rw [fold]

theorem fm_congr {α β : Type} {f g : α → List β} {l : List α} (h : ∀ x ∈ l, f x = g x) : l.flatMap f = l.flatMap g := by
  rw [List.flatMap_def, List.flatMap_def, List.map_congr_left h]

/-- its shape alone, wherever it lies -/
def pl (T : Tr) : Tr := fold (fun k g t a _ _ _ r => ⟨k, g, t, a, none, 0, r⟩) T
theorem pl_eq (T : Tr) : pl T = ⟨T.k, T.g, T.t, T.a, none, 0, T.kids.map pl⟩ := fold_eq _ T
theorem pl_pl (T : Tr) : pl (pl T) = pl T := by
  induction T using Tr.ind with | _ k g t a A c kids ih =>
  rw [pl_eq ⟨k, g, t, a, A, c, kids⟩, pl_eq]
  simp only [List.map_map, Tr.mk.injEq, true_and]
  exact List.map_congr_left ih

/-- its nodes with their depths, in the walk's order -/
def wk (d : Nat) (T : Tr) : List (Nat × Tr) := fold (α := Nat → List (Nat × Tr)) (fun k g t a A c kids r d => (d, ⟨k, g, t, a, A, c, kids⟩) :: r.flatMap fun f => f (d + 1)) T d
theorem wk_eq (d : Nat) (T : Tr) : wk d T = (d, T) :: T.kids.flatMap (wk (d + 1)) := by
  unfold wk
  rw [fold_eq]
  simp only [List.flatMap_map]
  cases T
  rfl

/-- its nodes -/
def ns (T : Tr) : List Tr := (wk 0 T).map (·.2)
theorem wk_snd (T : Tr) : ∀ d, (wk d T).map (·.2) = ns T := by
  induction T using Tr.ind with | _ k g t a A c kids ih =>
  intro d
  unfold ns
  rw [wk_eq, wk_eq]
  simp only [List.map_cons, List.map_flatMap, List.cons.injEq, true_and]
  exact fm_congr (fun x hx => (ih x hx _).trans (ih x hx _).symm)
theorem ns_eq (T : Tr) : ns T = T :: T.kids.flatMap ns := by
  unfold ns
  rw [wk_eq]
  simp only [List.map_cons, List.map_flatMap, List.cons.injEq, true_and]
  exact fm_congr (fun x _ => wk_snd x _)
theorem ns_self (T : Tr) : T ∈ ns T := by rw [ns_eq]; exact List.mem_cons_self
theorem ns_kid {T x y : Tr} (hx : x ∈ T.kids) (hy : y ∈ ns x) : y ∈ ns T := by rw [ns_eq]; exact List.mem_cons_of_mem _ (List.mem_flatMap.2 ⟨x, hx, hy⟩)
theorem wk_length (d : Nat) (T : Tr) : (wk d T).length = (ns T).length := by rw [← wk_snd T d, List.length_map]

/-- how many nodes -/
def cn (T : Tr) : Nat := (ns T).length
theorem cn_eq (T : Tr) : cn T = 1 + (T.kids.map cn).sum := by
  unfold cn
  rw [ns_eq, List.length_cons, List.length_flatMap]
  omega
/-- how much a tree weighs -/
def w1 (T : Tr) : Nat := 1 + (T.g.size + T.t.size) / 50
def wt (T : Tr) : Nat := ((ns T).map w1).sum
theorem wt_eq (T : Tr) : wt T = w1 T + (T.kids.map wt).sum := by
  unfold wt
  rw [ns_eq, List.map_cons, List.sum_cons, List.map_flatMap]
  congr 1
  generalize T.kids = l
  induction l with
  | nil => rfl
  | cons x xs ih => simp [List.flatMap_cons, ih]
theorem sum_le_mem {l : List Nat} {n : Nat} (h : n ∈ l) : n ≤ l.sum := by
  induction l with
  | nil => cases h
  | cons x xs ih =>
    rcases List.mem_cons.1 h with rfl | h
    · simp
    · have := ih h; simp; omega
theorem cn_wt (T : Tr) : cn T ≤ wt T := by
  unfold cn wt
  generalize ns T = l
  induction l with
  | nil => simp
  | cons x xs ih => simp [w1] at *; omega
theorem wt_kid {T x : Tr} (h : x ∈ T.kids) : wt x < wt T := by
  rw [wt_eq T]
  have := sum_le_mem (List.mem_map.2 ⟨x, h, rfl⟩ : wt x ∈ T.kids.map wt)
  unfold w1
  omega
theorem wt_node {T x : Tr} (h : x ∈ ns T) : w1 x ≤ wt T := sum_le_mem (List.mem_map.2 ⟨x, h, rfl⟩)
/-- a node's texts are no greater than its tree allows -/
theorem text_le {T x : Tr} (h : x ∈ ns T) : x.g.size + x.t.size < 50 * wt T := by
  have := wt_node h
  unfold w1 at this
  omega
theorem kids_le {T : Tr} : T.kids.length < wt T := by
  have h1 := cn_wt T
  rw [cn_eq] at h1
  have h2 : ∀ l : List Tr, l.length ≤ (l.map cn).sum := by
    intro l
    induction l with
    | nil => simp
    | cons x xs ih => have := cn_eq x; simp; omega
  have := h2 T.kids
  omega
/-- sizes of its leaves' texts, together -/
theorem texts_le (l : List Tr) : (l.map fun x => x.g.size + x.t.size).sum ≤ 50 * (l.map w1).sum := by
  induction l with
  | nil => simp
  | cons x xs ih => simp only [List.map_cons, List.sum_cons, w1] at *; omega

/-- is a node as one of its kind must be? -/
def snd (n : Tr) : Bool :=
  if n.k = 1 then decide (n.t.size ≠ 0) && decide (0 ≤ n.a) && decide (n.kids.length = 0)
  else decide (1 < n.k) && decide (n.k ≤ 32) && decide (n.g.size = 0) && decide (n.t.size = 0) && decide (n.a = 0)
/-- is a tree right? (all trees here have at most 20000 nodes) -/
def rgt (T : Tr) : Bool := (ns T).all snd
theorem rgt_eq (T : Tr) : rgt T = (snd T && T.kids.all rgt) := by
  unfold rgt
  rw [ns_eq, List.all_cons, List.all_flatMap]
theorem rgt_node {T x : Tr} (h : rgt T = true) (hx : x ∈ ns T) : snd x = true := List.all_eq_true.1 h x hx
theorem rgt_kid {T x : Tr} (h : rgt T = true) (hx : x ∈ T.kids) : rgt x = true := by
  rw [rgt_eq, Bool.and_eq_true] at h
  exact List.all_eq_true.1 h.2 x hx

/-- is it a leaf? -/
def lfb (n : Tr) : Bool := decide (n.k = 1)
/-- its leaves -/
def lf (T : Tr) : List Tr := (ns T).filter lfb
theorem lf_eq (T : Tr) : lf T = (if T.k = 1 then [T] else []) ++ T.kids.flatMap lf := by
  unfold lf
  rw [ns_eq, List.filter_cons, List.filter_flatMap]
  by_cases h : T.k = 1 <;> simp [lfb, h]
/-- a leaf told anew: a token -/
def tok (n : Tr) : Tr := ⟨1, n.g, n.t, n.a, none, 0, []⟩
theorem snd_leaf {n : Tr} (h : snd n = true) (hk : n.k = 1) : 0 < n.t.size ∧ 0 ≤ n.a ∧ n.kids = [] := by
  unfold snd at h
  rw [if_pos hk] at h
  simp only [Bool.and_eq_true, decide_eq_true_eq] at h
  exact ⟨by omega, h.1.2, List.eq_nil_of_length_eq_zero h.2⟩
theorem snd_other {n : Tr} (h : snd n = true) (hk : n.k ≠ 1) : 1 < n.k ∧ n.k ≤ 32 ∧ n.g.size = 0 ∧ n.t.size = 0 ∧ n.a = 0 := by
  unfold snd at h
  rw [if_neg hk] at h
  simp only [Bool.and_eq_true, decide_eq_true_eq] at h
  exact ⟨h.1.1.1.1, h.1.1.1.2, h.1.1.2, h.1.2, h.2⟩

/-- the text of leaves -/
def tx : List Tr → ByteArray
  | [] => .empty
  | x :: xs => (x.g ++ x.t) ++ tx xs
theorem tx_append (a b : List Tr) : tx (a ++ b) = tx a ++ tx b := by
  induction a with
  | nil => rw [List.nil_append, tx, ByteArray.empty_append]
  | cons x xs ih => simp only [List.cons_append, tx, ih, ByteArray.append_assoc]
theorem tx_snoc (a : List Tr) (x : Tr) : tx (a ++ [x]) = tx a ++ x.g ++ x.t := by
  rw [tx_append, tx, tx, ByteArray.append_empty, ByteArray.append_assoc]
theorem tx_size (l : List Tr) : (tx l).size = (l.map fun x => x.g.size + x.t.size).sum := by
  induction l with
  | nil => rfl
  | cons x xs ih => simp [tx, ih]
theorem sum_filter (p : Tr → Bool) (f : Tr → Nat) (l : List Tr) : ((l.filter p).map f).sum ≤ (l.map f).sum := by
  induction l with
  | nil => simp
  | cons x xs ih => rw [List.filter_cons]; split <;> simp <;> omega
theorem tx_le (T : Tr) : (tx (lf T)).size ≤ 50 * wt T := by
  rw [tx_size]
  exact Nat.le_trans (sum_filter _ _ _) (texts_le _)
theorem tx_pre {l m : List Tr} (h : l <+: m) : (tx l).size ≤ (tx m).size := by
  obtain ⟨q, rfl⟩ := h
  rw [tx_append]; simp

section
variable {σ : Type} (f : σ → Tr → Tr × σ)
def run {σ : Type} : List (σ → Tr × σ) → σ → List Tr × σ
  | [], s => ([], s)
  | x :: xs, s => ((x s).1 :: (run xs (x s).2).1, (run xs (x s).2).2)
/-- a tree whose leaves are changed by f in order, from a state on; all lists plain -/
def cg (T : Tr) (s : σ) : Tr × σ := fold (α := σ → Tr × σ) (fun k g t a _ _ _ r s => if k = 1 then
      ({ (f s ⟨1, g, t, a, none, 0, []⟩).1 with A := none, c := 0, kids := (run r (f s ⟨1, g, t, a, none, 0, []⟩).2).1 }, (run r (f s ⟨1, g, t, a, none, 0, []⟩).2).2)
    else (⟨k, g, t, a, none, 0, (run r s).1⟩, (run r s).2)) T s
def cgs (l : List Tr) (s : σ) : List Tr × σ := run (l.map (cg f)) s
theorem cg_eq (T : Tr) (s : σ) : cg f T s = if T.k = 1 then
      ({ (f s (tok T)).1 with A := none, c := 0, kids := (cgs f T.kids (f s (tok T)).2).1 }, (cgs f T.kids (f s (tok T)).2).2)
    else (⟨T.k, T.g, T.t, T.a, none, 0, (cgs f T.kids s).1⟩, (cgs f T.kids s).2) := by
  unfold cg cgs
  rw [fold_eq]
  rfl
theorem cgs_nil (s : σ) : cgs f [] s = ([], s) := rfl
theorem cgs_cons (x : Tr) (xs : List Tr) (s : σ) : cgs f (x :: xs) s = ((cg f x s).1 :: (cgs f xs (cg f x s).2).1, (cgs f xs (cg f x s).2).2) := rfl
theorem cgs_append (a b : List Tr) (s : σ) : cgs f (a ++ b) s = ((cgs f a s).1 ++ (cgs f b (cgs f a s).2).1, (cgs f b (cgs f a s).2).2) := by
  induction a generalizing s with
  | nil => simp [cgs_nil]
  | cons x xs ih => simp [cgs_cons, ih]
theorem cgs_length (l : List Tr) (s : σ) : (cgs f l s).1.length = l.length := by
  induction l generalizing s with
  | nil => rfl
  | cons x xs ih => simp [cgs_cons, ih]
end

/-- are two trees the same? -/
def zp : List (Tr → Bool) → List Tr → Bool
  | [], _ => true
  | _ :: _, [] => true
  | x :: xs, y :: ys => x y && zp xs ys
def sm (T U : Tr) : Bool := fold (α := Tr → Bool) (fun k g t a _ _ kids r U => decide (k = U.k) && decide (g = U.g) && decide (t = U.t) && decide (a = U.a) && decide (kids.length = U.kids.length) && zp r U.kids) T U
def sms (l m : List Tr) : Bool := zp (l.map sm) m
theorem sm_eq (T U : Tr) : sm T U = (decide (T.k = U.k) && decide (T.g = U.g) && decide (T.t = U.t) && decide (T.a = U.a) && decide (T.kids.length = U.kids.length) && sms T.kids U.kids) := by
  unfold sm sms
  rw [fold_eq]
  rfl
theorem sms_cons (x y : Tr) (xs ys : List Tr) : sms (x :: xs) (y :: ys) = (sm x y && sms xs ys) := rfl
theorem sms_at : ∀ (l m : List Tr) (k : Nat) (x y : Tr), l[k]? = some x → m[k]? = some y → sms l m = true → sm x y = true := by
  intro l
  induction l with
  | nil => intro m k x y h; simp at h
  | cons p ps ih =>
    intro m k x y hx hy hs
    cases m with
    | nil => simp at hy
    | cons q qs =>
      rw [sms_cons, Bool.and_eq_true] at hs
      cases k with
      | zero => simp at hx hy; subst hx hy; exact hs.1
      | succ k => simp at hx hy; exact ih qs k x y hx hy hs.2
theorem sms_of : ∀ (l m : List Tr), (∀ (k : Nat) (x y : Tr), l[k]? = some x → m[k]? = some y → sm x y = true) → sms l m = true := by
  intro l
  induction l with
  | nil => intro m _; cases m <;> rfl
  | cons p ps ih =>
    intro m h
    cases m with
    | nil => rfl
    | cons q qs =>
      rw [sms_cons, Bool.and_eq_true]
      exact ⟨h 0 p q rfl rfl, ih qs (fun k x y hx hy => h (k + 1) x y (by simpa using hx) (by simpa using hy))⟩
theorem sm_iff (T : Tr) : ∀ U, sm T U = true ↔ pl T = pl U := by
  induction T using Tr.ind with | _ k g t a A c kids ih =>
  intro U
  rw [sm_eq, pl_eq, pl_eq U]
  simp only [Bool.and_eq_true, decide_eq_true_eq, Tr.mk.injEq, true_and]
  constructor
  · rintro ⟨⟨⟨⟨⟨h1, h2⟩, h3⟩, h4⟩, h5⟩, h6⟩
    refine ⟨h1, h2, h3, h4, ?_⟩
    refine List.ext_getElem? fun i => ?_
    rw [List.getElem?_map, List.getElem?_map]
    by_cases hi : i < kids.length
    · have e1 : kids[i]? = some kids[i] := List.getElem?_eq_getElem hi
      have e2 : U.kids[i]? = some U.kids[i] := List.getElem?_eq_getElem (by omega)
      rw [e1, e2, Option.map_some, Option.map_some, (ih _ (List.getElem_mem hi) _).1 (sms_at _ _ _ _ _ e1 e2 h6)]
    · rw [List.getElem?_eq_none (by omega), List.getElem?_eq_none (by omega)]
  · rintro ⟨h1, h2, h3, h4, h5⟩
    have hl : kids.length = U.kids.length := by have := congrArg List.length h5; simpa using this
    refine ⟨⟨⟨⟨⟨h1, h2⟩, h3⟩, h4⟩, hl⟩, sms_of _ _ fun i x y hx hy => ?_⟩
    refine (ih x (List.mem_of_getElem? hx) y).2 ?_
    have h := congrArg (·[i]?) h5
    simp only [List.getElem?_map, hx, hy, Option.map_some, Option.some.injEq] at h
    exact h

/-- what does not hang on where a tree lies -/
theorem wk_pl (T : Tr) : ∀ d, wk d (pl T) = (wk d T).map fun p => (p.1, pl p.2) := by
  induction T using Tr.ind with | _ k g t a A c kids ih =>
  intro d
  rw [wk_eq, wk_eq, List.map_cons, List.map_flatMap]
  rw [pl_eq ⟨k, g, t, a, A, c, kids⟩]
  simp only [List.cons.injEq, true_and, List.flatMap_map]
  exact fm_congr (fun x hx => ih x hx _)
theorem ns_pl (T : Tr) : ns (pl T) = (ns T).map pl := by unfold ns; rw [wk_pl]; simp [Function.comp_def]
theorem cn_pl (T : Tr) : cn (pl T) = cn T := by unfold cn; rw [ns_pl, List.length_map]
theorem wt_pl (T : Tr) : wt (pl T) = wt T := by
  unfold wt; rw [ns_pl, List.map_map]
  congr 1
  exact List.map_congr_left fun x _ => by simp only [Function.comp, w1]; rw [pl_eq]
theorem snd_pl (T : Tr) : snd (pl T) = snd T := by unfold snd; rw [pl_eq]; simp
theorem rgt_pl (T : Tr) : rgt (pl T) = rgt T := by
  unfold rgt; rw [ns_pl, List.all_map]
  exact List.all_congr rfl (fun x => snd_pl x)
theorem lf_pl (T : Tr) : lf (pl T) = (lf T).map pl := by
  unfold lf; rw [ns_pl, List.filter_map]
  congr 1
  exact List.filter_congr fun x _ => by simp only [Function.comp, lfb]; rw [pl_eq]
theorem tx_pl (l : List Tr) : tx (l.map pl) = tx l := by
  induction l with
  | nil => rfl
  | cons x xs ih => rw [List.map_cons, tx, tx, ih, pl_eq]
theorem same_of {T U : Tr} (h : pl T = pl U) : rgt T = rgt U ∧ cn T = cn U ∧ wt T = wt U ∧ tx (lf T) = tx (lf U) ∧ (lf T).map pl = (lf U).map pl := by
  refine ⟨by rw [← rgt_pl, h, rgt_pl], by rw [← cn_pl, h, cn_pl], by rw [← wt_pl, h, wt_pl], ?_, by rw [← lf_pl, h, lf_pl]⟩
  rw [← tx_pl, ← lf_pl, h, lf_pl, tx_pl]
end Go.Proofs.YtfmlcddakfbleaaGreatDoor.TreeMath
