/- A real token, taken alone, is one token of its kind. Plain facts. -/
import Derived.Test.YtfmlcddakfbleaaGreatDoorLexChain
import Derived.Test.YtfmlcddakfbleaaGreatDoorMzTpl
namespace Go.Proofs.YtfmlcddakfbleaaGreatDoor
open Go.RowKit SignMath

theorem pr_not_lf : (pr.all fun c => lf (nb c)) = false := by decide
theorem all_pre {p q : List UInt8} {f : UInt8 → Bool} (h : p.isPrefixOf q = true) (hq : q.all f = true) : p.all f = true := by
  obtain ⟨r, rfl⟩ := List.isPrefixOf_iff_prefix.1 h
  rw [List.all_append, Bool.and_eq_true] at hq
  exact hq.1

theorem take_run (p : Int → Bool) (l : List UInt8) : l.take (rn p l 0) = l.takeWhile fun c => p (nb c) := by
  unfold rn
  rw [List.drop_zero, Nat.zero_add]
  exact (List.prefix_iff_eq_take.1 (List.takeWhile_prefix _)).symm
theorem run_run (p : Int → Bool) (l : List UInt8) : ((l.take (rn p l 0)).all fun c => p (nb c)) = true := by
  rw [take_run]; exact List.all_takeWhile

theorem ft_bk {x : List UInt8} (hb : bk (nb (x.headD 0)) = true) : ft x = (1, rn bk x 0) := by unfold ft; rw [if_pos hb]
theorem ft_sl {x : List UInt8} (hb : ¬ bk (nb (x.headD 0)) = true) (hs : x.headD 0 = 47) : ft x = sl x := by unfold ft; rw [if_neg hb, if_pos hs]
theorem ft_wo {x : List UInt8} (hb : ¬ bk (nb (x.headD 0)) = true) (hs : ¬ x.headD 0 = 47) (hl : lf (nb (x.headD 0)) = true) : ft x = wo x := by unfold ft; rw [if_neg hb, if_neg hs, if_pos hl]
theorem ft_mk {x : List UInt8} (hb : ¬ bk (nb (x.headD 0)) = true) (hs : ¬ x.headD 0 = 47) (hl : ¬ lf (nb (x.headD 0)) = true) : ft x = mk x := by unfold ft; rw [if_neg hb, if_neg hs, if_neg hl]

/-- a real token alone is one of its kind -/
theorem ft_alone {x : List UInt8} (hx : x ≠ []) (h3 : 2 < (ft x).1) (h7 : (ft x).1 ≠ 7) : ft (x.take (ft x).2) = ft x := by
  obtain ⟨c, r, rfl⟩ := List.exists_cons_of_ne_nil hx
  have hz := ft_size hx
  by_cases hb : bk (nb c) = true
  · have : ft (c :: r) = (1, rn bk (c :: r) 0) := by unfold ft; rw [List.headD_cons, if_pos hb]
    rw [this] at h3; simp at h3
  · by_cases hs : c = 47
    · have : ft (c :: r) = sl (c :: r) := by unfold ft; rw [List.headD_cons, if_neg hb, if_pos hs]
      rw [this] at h3 h7
      unfold sl at h3 h7
      exfalso
      split at h3
      · simp at h3
      · split at h3
        · split at h3
          · rename_i a b d; rw [if_neg a, if_pos b, if_pos d] at h7; exact h7 rfl
          · simp at h3
        · rename_i a b; rw [if_neg a, if_neg b] at h7; exact h7 rfl
    · have hd : ∀ z, 1 ≤ z → ((c :: r).take z).headD 0 = c := fun z hz => by
        obtain ⟨z, rfl⟩ : ∃ y, z = y + 1 := ⟨z - 1, by omega⟩
        rfl
      by_cases hl : lf (nb c) = true
      · have e : ft (c :: r) = wo (c :: r) := by unfold ft; rw [List.headD_cons, if_neg hb, if_neg hs, if_pos hl]
        have e2 : ft ((c :: r).take (ft (c :: r)).2) = wo ((c :: r).take (ft (c :: r)).2) := by
          exact ft_wo (by rw [hd _ hz.1]; exact hb) (by rw [hd _ hz.1]; exact hs) (by rw [hd _ hz.1]; exact hl)
        rw [e2, e]
        unfold wo
        by_cases hp : pr.isPrefixOf (c :: r) = true ∧ lfAt (c :: r) 18 = false
        · rw [if_pos hp]
          obtain ⟨q, hq⟩ := List.isPrefixOf_iff_prefix.1 hp.1
          have : (c :: r).take 18 = pr := by rw [← hq, show (18 : Nat) = pr.length from rfl]; exact List.take_left
          rw [this]
          rfl
        · rw [if_neg hp]
          dsimp only
          have hr := run_run lf (c :: r)
          generalize hy : (c :: r).take (rn lf (c :: r) 0) = y at hr
          have hle := rn_le lf (c :: r) 0 (Nat.zero_le _)
          have hyl : y.length = rn lf (c :: r) 0 := by rw [← hy, List.length_take]; omega
          have hn : ¬ (pr.isPrefixOf y = true ∧ lfAt y 18 = false) := fun h => by
            have := all_pre h.1 hr
            rw [pr_not_lf] at this; cases this
          have hry : rn lf y 0 = y.length := of_decide_eq_true ((rn_all lf y).trans hr)
          rw [if_neg hn, hry, List.take_length, hyl]
      · have e : ft (c :: r) = mk (c :: r) := by unfold ft; rw [List.headD_cons, if_neg hb, if_neg hs, if_neg hl]
        have e2 : ft ((c :: r).take (ft (c :: r)).2) = mk ((c :: r).take (ft (c :: r)).2) := by
          exact ft_mk (by rw [hd _ hz.1]; exact hb) (by rw [hd _ hz.1]; exact hs) (by rw [hd _ hz.1]; exact hl)
        rw [e2, e]
        rw [e] at h7
        by_cases ha : [38, 38].isPrefixOf (c :: r) = true
        · have e3 : mk (c :: r) = (6, 2) := by unfold mk; rw [if_pos ha]
          obtain ⟨q, hq⟩ := List.isPrefixOf_iff_prefix.1 ha
          rw [e3, show (c :: r).take 2 = [38, 38] from by rw [← hq]; rfl]
          rfl
        · by_cases hc : sg.contains c = true
          · have e3 : mk (c :: r) = (6, 1) := by unfold mk; rw [if_neg ha, List.headD_cons, if_pos hc]
            rw [e3]
            show mk [c] = (6, 1)
            unfold mk
            rw [if_neg (by simp), List.headD_cons, if_pos hc]
          · exfalso
            apply h7
            unfold mk
            rw [if_neg ha, List.headD_cons, if_neg hc]

/-- each token is the first one of what follows it -/
theorem tk_mem {l : List UInt8} : ∀ (m at_ : Nat), l.length - at_ ≤ m → ∀ t ∈ tk l at_, t.a < l.length ∧ t.k = (ft (l.drop t.a)).1 ∧ t.z = t.a + (ft (l.drop t.a)).2 := by
  intro m
  induction m with
  | zero => intro at_ h t ht; rw [tk_end (by omega)] at ht; cases ht
  | succ m ih =>
    intro at_ h t ht
    by_cases hl : at_ < l.length
    · have hz := ft_size (l := l.drop at_) (by intro e; have := congrArg List.length e; simp at this; omega)
      rw [tk_step hl] at ht
      rcases List.mem_cons.1 ht with rfl | ht
      · exact ⟨hl, rfl, rfl⟩
      · exact ih _ (by omega) t ht
    · rw [tk_end (by omega)] at ht; cases ht

end Go.Proofs.YtfmlcddakfbleaaGreatDoor

namespace Go.Proofs.YtfmlcddakfbleaaGreatDoor
open Go.RowKit SignMath

/-- a real token, and a blank behind it -/
theorem ft_blank {X : List UInt8} (Z : List UInt8) (hX : X ≠ []) {k : Nat} (h3 : 2 < k) (h7 : k ≠ 7) (h : ft X = (k, X.length)) : ft (X ++ 32 :: Z) = (k, X.length) := by
  obtain ⟨c, r, rfl⟩ := List.exists_cons_of_ne_nil hX
  have b32 : lf (nb 32) = false := by decide
  by_cases hb : bk (nb c) = true
  · have : ft (c :: r) = (1, rn bk (c :: r) 0) := ft_bk hb
    rw [this] at h
    injection h with h1 h2
    omega
  · by_cases hs : c = 47
    · exfalso
      rw [ft_sl (x := c :: r) hb hs] at h
      unfold sl at h
      split at h
      · injection h with h1 h2; omega
      · split at h
        · split at h
          · injection h with h1 h2; omega
          · injection h with h1 h2; omega
        · injection h with h1 h2; omega
    · by_cases hl : lf (nb c) = true
      · rw [ft_wo (x := c :: r) hb hs hl] at h
        rw [ft_wo (x := c :: r ++ 32 :: Z) hb hs hl]
        unfold wo at h ⊢
        by_cases hp : pr.isPrefixOf (c :: r) = true ∧ lfAt (c :: r) 18 = false
        · rw [if_pos hp] at h
          injection h with h1 h2
          obtain ⟨q, hq⟩ := List.isPrefixOf_iff_prefix.1 hp.1
          have hq0 : q = [] := by
            have := congrArg List.length hq
            rw [List.length_append] at this
            have e : pr.length = 18 := rfl
            exact List.eq_nil_of_length_eq_zero (by omega)
          rw [hq0, List.append_nil] at hq
          have hpp : pr.isPrefixOf (c :: r ++ 32 :: Z) = true := by rw [← hq]; exact List.isPrefixOf_iff_prefix.2 ⟨_, rfl⟩
          have hlf : lfAt (c :: r ++ 32 :: Z) 18 = false := by
            unfold lfAt
            rw [h2, List.getElem?_append_right (Nat.le_refl _), Nat.sub_self]
            exact b32
          rw [if_pos ⟨hpp, hlf⟩, ← h2, ← h1]
        · rw [if_neg hp] at h
          injection h with h1 h2
          have hall : ((c :: r).all fun c => lf (nb c)) = true := by
            rw [← rn_all]
            exact decide_eq_true h2
          have hn : ¬ (pr.isPrefixOf (c :: r ++ 32 :: Z) = true ∧ lfAt (c :: r ++ 32 :: Z) 18 = false) := fun hh => by
            obtain ⟨q, hq⟩ := List.isPrefixOf_iff_prefix.1 hh.1
            by_cases hlen : pr.length ≤ (c :: r).length
            · have hpre : pr <+: c :: r := by
                have := List.prefix_of_prefix_length_le (l₁ := pr) (l₂ := c :: r) (l₃ := c :: r ++ 32 :: Z) ⟨q, hq⟩ ⟨_, rfl⟩ hlen
                exact this
              have := all_pre (List.isPrefixOf_iff_prefix.2 hpre) hall
              rw [pr_not_lf] at this
              cases this
            · have e1 : (pr ++ q)[(c :: r).length]? = some 32 := by
                rw [hq, List.getElem?_append_right (Nat.le_refl _), Nat.sub_self]
                rfl
              rw [List.getElem?_append_left (by omega)] at e1
              have hm := List.mem_of_getElem? e1
              exact absurd hm (by decide)
          rw [if_neg hn]
          have hr : rn lf (c :: r ++ 32 :: Z) 0 = (c :: r).length := by
            unfold rn at h2 ⊢
            rw [List.drop_zero, Nat.zero_add, List.takeWhile_append, if_pos ((takeWhile_all (c :: r)).2 hall), List.takeWhile_cons]
            rw [if_neg (by rw [b32]; decide), List.append_nil]
          rw [hr, List.take_left, ← h1]
          rw [h2, List.take_length]
      · rw [ft_mk (x := c :: r) hb hs hl] at h
        rw [ft_mk (x := c :: r ++ 32 :: Z) hb hs hl]
        unfold mk at h ⊢
        by_cases hp : [38, 38].isPrefixOf (c :: r) = true
        · rw [if_pos hp] at h
          injection h with h1 h2
          obtain ⟨q, hq⟩ := List.isPrefixOf_iff_prefix.1 hp
          have hpp : [38, 38].isPrefixOf (c :: r ++ 32 :: Z) = true := by rw [← hq, List.append_assoc]; exact List.isPrefixOf_iff_prefix.2 ⟨_, rfl⟩
          rw [if_pos hpp, ← h1, ← h2]
        · rw [if_neg hp] at h
          by_cases hc : sg.contains ((c :: r).headD 0) = true
          · rw [if_pos hc] at h
            injection h with h1 h2
            have hr : r = [] := by
              simp only [List.length_cons] at h2
              exact List.eq_nil_of_length_eq_zero (by omega)
            subst hr
            have hpp : ¬ [38, 38].isPrefixOf ([c] ++ 32 :: Z) = true := by
              intro hh
              simp [List.isPrefixOf] at hh
            rw [if_neg hpp, if_pos (by exact hc), ← h1]
            rfl
          · rw [if_neg hc] at h
            injection h with h1 h2
            omega

/-- texts, each with a blank behind it -/
def tbl : List (Nat × List UInt8) → List UInt8
  | [] => []
  | x :: r => (x.2 ++ [32]) ++ tbl r
/-- their tokens, from a place on -/
def bts : Nat → List (Nat × List UInt8) → List Tk
  | _, [] => []
  | p, x :: r => ⟨x.1, p, p + x.2.length⟩ :: ⟨1, p + x.2.length, p + x.2.length + 1⟩ :: bts (p + x.2.length + 1) r
/-- a text that is one real token -/
def One (x : Nat × List UInt8) : Prop := x.2 ≠ [] ∧ 2 < x.1 ∧ x.1 ≠ 7 ∧ ft x.2 = (x.1, x.2.length)
theorem One.head {x : Nat × List UInt8} (h : One x) : ∃ c r, x.2 = c :: r ∧ bk (nb c) = false := by
  obtain ⟨h1, h2, h3, h4⟩ := h
  obtain ⟨c, r, e⟩ := List.exists_cons_of_ne_nil h1
  refine ⟨c, r, e, ?_⟩
  cases hb : bk (nb c) with
  | false => rfl
  | true =>
    rw [e] at h4
    have : ft (c :: r) = (1, rn bk (c :: r) 0) := ft_bk hb
    rw [this] at h4
    injection h4 with h5 h6
    omega
theorem tk_tbl : ∀ (l : List (Nat × List UInt8)) (P : List UInt8), (∀ x ∈ l, One x) → tk (P ++ tbl l) P.length = bts P.length l
  | [], P, _ => by
    rw [show tbl [] = [] from rfl, List.append_nil]
    exact tk_end (Nat.le_refl _)
  | x :: r, P, h => by
    have hx := h x List.mem_cons_self
    obtain ⟨h1, h2, h3, h4⟩ := hx
    have hr : ∀ y ∈ r, One y := fun y hy => h y (List.mem_cons_of_mem _ hy)
    have e0 : P ++ tbl (x :: r) = P ++ (x.2 ++ 32 :: tbl r) := by
      show P ++ ((x.2 ++ [32]) ++ tbl r) = _
      rw [List.append_assoc]; rfl
    have hpos : 0 < x.2.length := List.length_pos_iff.2 h1
    have hf1 : ft ((P ++ (x.2 ++ 32 :: tbl r)).drop P.length) = (x.1, x.2.length) := by
      rw [List.drop_left]
      exact ft_blank (tbl r) h1 h2 h3 h4
    have hf2 : ft ((P ++ (x.2 ++ 32 :: tbl r)).drop (P.length + x.2.length)) = (1, 1) := by
      rw [← List.append_assoc, show P.length + x.2.length = (P ++ x.2).length from by rw [List.length_append], List.drop_left]
      have hb : bk (nb ((32 :: tbl r).headD 0)) = true := by show bk (nb 32) = true; decide
      rw [ft_bk hb]
      have : rn bk (32 :: tbl r) 0 = 1 := by
        rw [rn_cons (by decide)]
        cases r with
        | nil => rw [show tbl [] = [] from rfl, rn_nil]
        | cons y r' =>
          obtain ⟨c, q, e, hc⟩ := (hr y List.mem_cons_self).head
          have : tbl (y :: r') = c :: (q ++ [32] ++ tbl r') := by show (y.2 ++ [32]) ++ tbl r' = _; rw [e]; rfl
          rw [this, rn_no hc]
      rw [this]
    have hlen : (P ++ (x.2 ++ 32 :: tbl r)).length = P.length + (x.2.length + ((tbl r).length + 1)) := by simp
    rw [e0, tk_step (by rw [hlen]; omega), hf1, tk_step (by rw [hlen]; simp only; omega), hf2]
    show (⟨x.1, P.length, P.length + x.2.length⟩ : Tk) :: (⟨1, P.length + x.2.length, P.length + x.2.length + 1⟩ : Tk) :: tk (P ++ (x.2 ++ 32 :: tbl r)) (P.length + x.2.length + 1) = _
    have ih := tk_tbl r (P ++ (x.2 ++ [32])) hr
    have e1 : P ++ (x.2 ++ 32 :: tbl r) = P ++ (x.2 ++ [32]) ++ tbl r := by simp
    have e2 : P.length + x.2.length + 1 = (P ++ (x.2 ++ [32])).length := by simp; omega
    rw [e1, e2, ih, ← e2]
    rfl
theorem bad_bts : ∀ (l : List (Nat × List UInt8)) (p : Nat), (∀ x ∈ l, One x) → bad (bts p l) = none
  | [], _, _ => rfl
  | x :: r, p, h => by
    have h1 := (h x List.mem_cons_self).2.2.1
    have ih := bad_bts r (p + x.2.length + 1) fun y hy => h y (List.mem_cons_of_mem _ hy)
    unfold bad at ih ⊢
    unfold bts
    rw [List.find?_cons_of_neg (by simpa using h1), List.find?_cons_of_neg (by simp)]
    exact ih
/-- the real ones alone -/
def rts : Nat → List (Nat × List UInt8) → List Tk
  | _, [] => []
  | p, x :: r => ⟨x.1, p, p + x.2.length⟩ :: rts (p + x.2.length + 1) r
theorem rls_bts : ∀ (l : List (Nat × List UInt8)) (p : Nat), (∀ x ∈ l, One x) → rls (bts p l) = rts p l
  | [], _, _ => rfl
  | x :: r, p, h => by
    have h1 := (h x List.mem_cons_self).2.1
    have ih := rls_bts r (p + x.2.length + 1) fun y hy => h y (List.mem_cons_of_mem _ hy)
    unfold rls at ih ⊢
    unfold bts rts
    rw [List.filter_cons_of_pos (by simpa using h1), List.filter_cons_of_neg (by simp), ih]
theorem rts_len : ∀ (l : List (Nat × List UInt8)) (p : Nat), (rts p l).length = l.length
  | [], _ => rfl
  | x :: r, p => by unfold rts; rw [List.length_cons, List.length_cons, rts_len r]
/-- kinds and texts -/
theorem rts_at : ∀ (l : List (Nat × List UInt8)) (P : List UInt8) (i : Nat), ((rts P.length l)[i]?).map (fun t => (t.k, ((P ++ tbl l).drop t.a).take (t.z - t.a))) = l[i]?
  | [], _, i => by simp [rts]
  | x :: r, P, i => by
    unfold rts
    cases i with
    | zero =>
      simp only [List.getElem?_cons_zero, Option.map_some, Option.some.injEq]
      rw [List.drop_left, Nat.add_sub_cancel_left]
      show (x.1, ((x.2 ++ [32]) ++ tbl r).take x.2.length) = x
      rw [List.append_assoc, List.take_left]
    | succ i =>
      simp only [List.getElem?_cons_succ]
      have ih := rts_at r (P ++ (x.2 ++ [32])) i
      have e1 : P ++ tbl (x :: r) = P ++ (x.2 ++ [32]) ++ tbl r := by show P ++ ((x.2 ++ [32]) ++ tbl r) = _; simp
      have e2 : P.length + x.2.length + 1 = (P ++ (x.2 ++ [32])).length := by simp; omega
      rw [e1, e2]
      exact ih
theorem tbl_len : ∀ (l : List (Nat × List UInt8)), (tbl l).length = (l.map fun x => x.2.length + 1).sum
  | [] => rfl
  | x :: r => by
    show ((x.2 ++ [32]) ++ tbl r).length = _
    rw [List.length_append, tbl_len r, List.length_append, List.map_cons, List.sum_cons]
    rfl
end Go.Proofs.YtfmlcddakfbleaaGreatDoor

namespace Go.Proofs.YtfmlcddakfbleaaGreatDoor
open Go.RowKit TreeMath

section
variable {σ α : Type} (f : σ → Tr → Tr × σ) (q : Tr → α)
theorem prof_list {l : List Tr} (h : ∀ x ∈ l, ∀ s, (ns (cg f x s).1).map q = (ns x).map q) : ∀ s, ((cgs f l s).1.flatMap ns).map q = (l.flatMap ns).map q := by
  induction l with
  | nil => intro s; rfl
  | cons x xs ih =>
    intro s
    rw [cgs_cons, List.flatMap_cons, List.flatMap_cons, List.map_append, List.map_append, h x (by simp), ih (fun y hy => h y (by simp [hy]))]
/-- what is kept of each node -/
theorem prof_cg (hq1 : ∀ s x, q { (f s (tok x)).1 with A := none, c := 0, kids := [] } = q (tok x)) (hq2 : ∀ k g t a A c kids, k = 1 → kids = [] → q ⟨k, g, t, a, A, c, kids⟩ = q (tok ⟨k, g, t, a, A, c, kids⟩))
    (hq3 : ∀ k g t a A c (kids kids' : List Tr), k ≠ 1 → kids'.length = kids.length → q ⟨k, g, t, a, none, 0, kids'⟩ = q ⟨k, g, t, a, A, c, kids⟩) (T : Tr) :
    lk T → ∀ s, (ns (cg f T s).1).map q = (ns T).map q := by
  induction T using Tr.ind with | _ k g t a A c kids ih =>
  intro hlk s
  rw [cg_eq]
  by_cases hk : k = 1
  · have hkd : kids = [] := hlk _ (ns_self _) hk
    subst hkd
    rw [if_pos hk, ns_eq, ns_eq ⟨k, g, t, a, A, c, []⟩]
    simp only [cgs_nil, List.flatMap_nil, List.map_cons, List.map_nil]
    rw [hq2 _ _ _ _ _ _ _ hk rfl]
    exact congrArg (fun x => [x]) (hq1 s _)
  · rw [if_neg hk, ns_eq, ns_eq ⟨k, g, t, a, A, c, kids⟩, List.map_cons, List.map_cons]
    simp only
    rw [hq3 k g t a A c kids _ hk (cgs_length _ _ _), prof_list f q (fun x hx s => ih x hx (lk_kid hlk hx) s)]
end

/-- a node without its place and lists, if it is a leaf -/
abbrev PrT : Type := Int × ByteArray × ByteArray × Nat × Int
def prr (x : Tr) : PrT := (x.k, x.g, x.t, x.kids.length, if x.k = 1 then 0 else x.a)
def qr (x : Tr) : PrT := (x.k, if x.k = 1 then .empty else x.g, x.t, x.kids.length, if x.k = 1 then 0 else x.a)
theorem pr_plc {T : Tr} (h : lk T) (s : Int) : (ns (cg plc T s).1).map prr = (ns T).map prr :=
  prof_cg plc prr (fun _ _ => rfl) (fun k g t a A c kids hk hd => by subst hk hd; rfl) (fun k g t a A c kids kids' hk hd => by simp [prr, hd]) T h s
theorem qr_stp {T : Tr} (h : lk T) : (ns (cg stp T ()).1).map qr = (ns T).map qr :=
  prof_cg stp qr (fun _ _ => rfl) (fun k g t a A c kids hk hd => by subst hk hd; rfl) (fun k g t a A c kids kids' hk hd => by simp [qr, hd]) T h ()

theorem pr_w1 : ∀ (l m : List Tr), l.map prr = m.map prr → l.map w1 = m.map w1 := by
  intro l
  induction l with
  | nil => intro m h; cases m with | nil => rfl | cons _ _ => simp at h
  | cons x xs ih =>
    intro m h
    cases m with
    | nil => simp at h
    | cons y ys =>
      simp only [List.map_cons, List.cons.injEq] at h ⊢
      simp only [prr, Prod.mk.injEq] at h
      exact ⟨by unfold w1; rw [h.1.2.1, h.1.2.2.1], ih _ h.2⟩
theorem pr_tx : ∀ (l m : List Tr), l.map prr = m.map prr → tx (l.filter lfb) = tx (m.filter lfb) := by
  intro l
  induction l with
  | nil => intro m h; cases m with | nil => rfl | cons _ _ => simp at h
  | cons x xs ih =>
    intro m h
    cases m with
    | nil => simp at h
    | cons y ys =>
      simp only [List.map_cons, List.cons.injEq] at h
      simp only [prr, Prod.mk.injEq] at h
      have hb : lfb x = lfb y := by unfold lfb; rw [h.1.1]
      rw [List.filter_cons, List.filter_cons, hb]
      split
      · rw [tx, tx, h.1.2.1, h.1.2.2.1, ih _ h.2]
      · exact ih _ h.2
theorem qr_w1 : ∀ (l m : List Tr), l.map qr = m.map qr → (∀ x ∈ l, x.k = 1 → x.g = .empty) → (l.map w1).sum ≤ (m.map w1).sum := by
  intro l
  induction l with
  | nil => intro m h _; cases m with | nil => exact Nat.le_refl _ | cons _ _ => simp at h
  | cons x xs ih =>
    intro m h hg
    cases m with
    | nil => simp at h
    | cons y ys =>
      simp only [List.map_cons, List.cons.injEq] at h
      simp only [List.map_cons, List.sum_cons]
      have h1 := ih _ h.2 (fun z hz => hg z (by simp [hz]))
      have h2 : w1 x ≤ w1 y := by
        simp only [qr, Prod.mk.injEq] at h
        obtain ⟨⟨e1, e2, e3, -, -⟩, -⟩ := h
        unfold w1
        rw [e3]
        by_cases hk : x.k = 1
        · rw [hg x (by simp) hk]
          have : (ByteArray.empty).size = 0 := rfl
          omega
        · rw [if_neg hk, if_neg (e1 ▸ hk)] at e2
          rw [e2]
          exact Nat.le_refl _
      omega

/-- leaves, placed one after another -/
def plcs : Int → List Tr → List Tr
  | _, [] => []
  | s, x :: xs => (plc s (tok x)).1 :: plcs (plc s (tok x)).2 xs
theorem plcs_append (l m : List Tr) : ∀ s, plcs s (l ++ m) = plcs s l ++ plcs (sta s l) m := by
  induction l with
  | nil => intro s; rfl
  | cons x xs ih => intro s; rw [List.cons_append, plcs, plcs, ih, List.cons_append]; rfl
theorem sta_append (l m : List Tr) : ∀ s, sta s (l ++ m) = sta (sta s l) m := by
  induction l with
  | nil => intro s; rfl
  | cons x xs ih => intro s; exact ih _
theorem stb_plcs (l : List Tr) : ∀ s, stb s (plcs s l) = true := by
  induction l with
  | nil => intro s; rfl
  | cons x xs ih => intro s; rw [plcs, stb, Bool.and_eq_true]; exact ⟨by simp [plc, tok], ih _⟩
theorem plcs_pos (l : List Tr) : ∀ s : Int, 0 ≤ s → s + (tx l).size ≤ 4000000000 → ∀ y ∈ plcs s l, 0 ≤ y.a := by
  induction l with
  | nil => intro s _ _ y hy; cases hy
  | cons x xs ih =>
    intro s h0 h1 y hy
    rw [tx] at h1
    simp only [ByteArray.size_append] at h1
    have e1 : wrap64 (s + x.g.size) = s + x.g.size := by unfold wrap64; omega
    have e2 : wrap64 (s + x.g.size + x.t.size) = s + x.g.size + x.t.size := by unfold wrap64; omega
    rw [plcs, List.mem_cons] at hy
    rcases hy with rfl | hy
    · show 0 ≤ wrap64 (s + x.g.size)
      omega
    · refine ih (s + x.g.size + x.t.size) (by omega) (by omega) y ?_
      have h2 : (plc s (tok x)).2 = s + x.g.size + x.t.size := by show wrap64 (wrap64 (s + x.g.size) + x.t.size) = _; rw [e1, e2]
      rwa [h2] at hy
theorem lf_list {l : List Tr} (h : ∀ x ∈ l, ∀ s, lf (cg plc x s).1 = plcs s (lf x) ∧ (cg plc x s).2 = sta s (lf x)) : ∀ s, (cgs plc l s).1.flatMap lf = plcs s (l.flatMap lf) ∧ (cgs plc l s).2 = sta s (l.flatMap lf) := by
  induction l with
  | nil => intro s; exact ⟨rfl, rfl⟩
  | cons x xs ih =>
    intro s
    obtain ⟨h1, h2⟩ := h x (by simp) s
    obtain ⟨h3, h4⟩ := ih (fun y hy => h y (by simp [hy])) (cg plc x s).2
    rw [cgs_cons, List.flatMap_cons, List.flatMap_cons, plcs_append, sta_append, h1, ← h2, h3]
    exact ⟨rfl, h4⟩
theorem lf_plc (T : Tr) : lk T → ∀ s, lf (cg plc T s).1 = plcs s (lf T) ∧ (cg plc T s).2 = sta s (lf T) := by
  induction T using Tr.ind with | _ k g t a A c kids ih =>
  intro hlk s
  rw [cg_eq]
  by_cases hk : k = 1
  · have hkd : kids = [] := hlk _ (ns_self _) hk
    subst hkd
    rw [if_pos hk, lf_eq, lf_eq ⟨k, g, t, a, A, c, []⟩]
    simp only [cgs_nil, List.flatMap_nil, List.append_nil, if_pos hk]
    exact ⟨rfl, rfl⟩
  · obtain ⟨h1, h2⟩ := lf_list (fun x hx s => ih x hx (lk_kid hlk hx) s) s
    rw [if_neg hk, lf_eq, lf_eq ⟨k, g, t, a, A, c, kids⟩]
    simp only [if_neg hk, List.nil_append]
    exact ⟨h1, h2⟩

/-- a placed tree -/
theorem placed {T : Tr} (hr : rgt T = true) (hw : wt T ≤ 9000) (s : Int) (h0 : 0 ≤ s) (h1 : s ≤ 2147483648) :
    rgt (cg plc T s).1 = true ∧ cn (cg plc T s).1 = cn T ∧ wt (cg plc T s).1 = wt T ∧ tx (lf (cg plc T s).1) = tx (lf T) ∧ stb s (lf (cg plc T s).1) = true := by
  have hp := pr_plc (lk_rgt hr) s
  have hl := (lf_plc T (lk_rgt hr) s).1
  have hle := tx_le T
  refine ⟨List.all_eq_true.2 fun y hy => ?_, by have := congrArg List.length hp; simpa [cn] using this, congrArg List.sum (pr_w1 _ _ hp), pr_tx _ _ hp, by rw [hl]; exact stb_plcs _ _⟩
  have h2 : prr y ∈ (ns T).map prr := by rw [← hp]; exact List.mem_map.2 ⟨y, hy, rfl⟩
  obtain ⟨x, hx, he⟩ := List.mem_map.1 h2
  have hs := rgt_node hr hx
  simp only [prr, Prod.mk.injEq] at he
  obtain ⟨e1, e2, e3, e4, e5⟩ := he
  unfold snd at hs ⊢
  rw [← e1, ← e2, ← e3, ← e4]
  by_cases hk : x.k = 1
  · have ha : 0 ≤ y.a := plcs_pos (lf T) s h0 (by omega) y (by rw [← hl]; exact List.mem_filter.2 ⟨hy, by simp [lfb, ← e1, hk]⟩)
    rw [if_pos hk] at hs ⊢
    simp only [Bool.and_eq_true, decide_eq_true_eq] at hs ⊢
    exact ⟨⟨hs.1.1, ha⟩, hs.2⟩
  · rw [if_neg hk, if_neg (e1 ▸ hk)] at e5
    rw [← e5]
    exact hs
theorem stripped_list {l : List Tr} (h : ∀ x ∈ l, ∀ s, (cg stp (cg plc x s).1 ()).1 = (cg stp x ()).1) : ∀ s, (cgs stp (cgs plc l s).1 ()).1 = (cgs stp l ()).1 := by
  induction l with
  | nil => intro s; rfl
  | cons x xs ih =>
    intro s
    simp only [cgs_cons]
    rw [h x (by simp), ih (fun y hy => h y (by simp [hy]))]
/-- what is stripped doesn't hang on places -/
theorem strip_plc (T : Tr) : ∀ s, (cg stp (cg plc T s).1 ()).1 = (cg stp T ()).1 := by
  induction T using Tr.ind with | _ k g t a A c kids ih =>
  intro s
  by_cases hk : k = 1
  · have h1 := stripped_list (fun x hx s => ih x hx s) (plc s (tok ⟨k, g, t, a, A, c, kids⟩)).2
    have e1 : (cg plc ⟨k, g, t, a, A, c, kids⟩ s).1 = ⟨1, g, t, wrap64 (s + g.size), none, 0, (cgs plc kids (plc s (tok ⟨k, g, t, a, A, c, kids⟩)).2).1⟩ := by rw [cg_eq, if_pos hk]; rfl
    have e2 : ∀ k a A c m, k = 1 → (cg stp ⟨k, g, t, a, A, c, m⟩ ()).1 = ⟨1, .empty, t, 0, none, 0, (cgs stp m ()).1⟩ := fun k a A c m hk => by rw [cg_eq, if_pos hk]; rfl
    rw [e1, e2 _ _ _ _ _ rfl, e2 _ _ _ _ _ hk, h1]
  · have h1 := stripped_list (fun x hx s => ih x hx s) s
    rw [cg_eq plc, cg_eq stp ⟨k, g, t, a, A, c, kids⟩, if_neg hk, if_neg hk, cg_eq, if_neg hk]
    simp only
    rw [h1]
theorem bare_list {l : List Tr} (h : ∀ x ∈ l, ∀ y ∈ ns (cg stp x ()).1, y.k = 1 → y.g = .empty ∧ y.a = 0) : ∀ y ∈ (cgs stp l ()).1.flatMap ns, y.k = 1 → y.g = .empty ∧ y.a = 0 := by
  induction l with
  | nil => intro y hy; cases hy
  | cons x xs ih =>
    intro y hy
    rw [cgs_cons, List.flatMap_cons, List.mem_append] at hy
    exact hy.elim (h x (by simp) y) (ih (fun z hz => h z (by simp [hz])) y)
theorem bare_stp (T : Tr) : lk T → ∀ y ∈ ns (cg stp T ()).1, y.k = 1 → y.g = .empty ∧ y.a = 0 := by
  induction T using Tr.ind with | _ k g t a A c kids ih =>
  intro hlk
  rw [cg_eq]
  by_cases hk : k = 1
  · have hkd : kids = [] := hlk _ (ns_self _) hk
    subst hkd
    rw [if_pos hk, ns_eq]
    simp only [cgs_nil, List.flatMap_nil]
    intro y hy _
    obtain rfl := List.mem_singleton.1 hy
    exact ⟨rfl, rfl⟩
  · rw [if_neg hk, ns_eq]
    intro y hy hy1
    rcases List.mem_cons.1 hy with rfl | hy
    · exact absurd hy1 hk
    · exact bare_list (fun x hx => ih x hx (lk_kid hlk hx)) y hy hy1
/-- a stripped tree -/
theorem stripped {T : Tr} (hr : rgt T = true) : rgt (cg stp T ()).1 = true ∧ wt (cg stp T ()).1 ≤ wt T := by
  have hq := qr_stp (lk_rgt hr)
  have hb := bare_stp T (lk_rgt hr)
  refine ⟨List.all_eq_true.2 fun y hy => ?_, qr_w1 _ _ hq fun y hy hk => (hb y hy hk).1⟩
  have h2 : qr y ∈ (ns T).map qr := by rw [← hq]; exact List.mem_map.2 ⟨y, hy, rfl⟩
  obtain ⟨x, hx, he⟩ := List.mem_map.1 h2
  have hs := rgt_node hr hx
  simp only [qr, Prod.mk.injEq] at he
  obtain ⟨e1, e2, e3, e4, e5⟩ := he
  have hbb := hb y hy
  unfold snd at hs ⊢
  rw [← e1, ← e3, ← e4]
  rw [← e1] at hbb
  by_cases hk : x.k = 1
  · rw [if_pos hk] at hs ⊢
    simp only [Bool.and_eq_true, decide_eq_true_eq] at hs ⊢
    exact ⟨⟨hs.1.1, by rw [(hbb hk).2]; exact Int.le_refl _⟩, hs.2⟩
  · rw [if_neg hk, if_neg (e1 ▸ hk)] at e2 e5
    rw [← e2, ← e5]
    exact hs
end Go.Proofs.YtfmlcddakfbleaaGreatDoor

namespace Go.Proofs.YtfmlcddakfbleaaGreatDoor
open Go.RowKit SignMath TreeMath

theorem real_one {s : ByteArray} {t : Tk} (hb : bad (tk (bs s) 0) = none) (ht : t ∈ rls (tk (bs s) 0)) : One (t.k, bs (s.extract t.a t.z)) := by
  obtain ⟨hm, h3⟩ := List.mem_filter.1 ht
  have h3 : 2 < t.k := of_decide_eq_true h3
  have h7 : t.k ≠ 7 := by
    have := List.find?_eq_none.1 hb t hm
    simpa using this
  obtain ⟨h1, h2, h4⟩ := tk_mem (l := bs s) _ 0 (Nat.le_refl _) t hm
  have hx : (bs s).drop t.a ≠ [] := by
    intro e
    have := congrArg List.length e
    rw [List.length_drop, List.length_nil] at this
    omega
  have hz := ft_size hx
  have hc : bs (s.extract t.a t.z) = ((bs s).drop t.a).take (ft ((bs s).drop t.a)).2 := by rw [bs_cut, h4, Nat.add_sub_cancel_left]
  have hl : (bs (s.extract t.a t.z)).length = (ft ((bs s).drop t.a)).2 := by rw [hc, List.length_take]; omega
  refine ⟨fun e => ?_, h3, h7, ?_⟩
  · have e' : bs (s.extract t.a t.z) = [] := e
    rw [e', List.length_nil] at hl
    omega
  · show ft (bs (s.extract t.a t.z)) = (t.k, (bs (s.extract t.a t.z)).length)
    rw [hl, h2, hc]
    exact ft_alone hx (by rw [← h2]; exact h3) (by rw [← h2]; exact h7)

def b32 : ByteArray := ⟨#[32]⟩
/-- leaves' texts, a blank behind each -/
def tbb : List Tr → ByteArray
  | [] => .empty
  | x :: r => (x.t ++ b32) ++ tbb r
theorem tbb_snoc (l : List Tr) (x : Tr) : tbb (l ++ [x]) = tbb l ++ (x.t ++ b32) := by
  induction l with
  | nil => show (x.t ++ b32) ++ .empty = .empty ++ (x.t ++ b32); rw [ByteArray.append_empty, ByteArray.empty_append]
  | cons y r ih => show (y.t ++ b32) ++ tbb (r ++ [x]) = ((y.t ++ b32) ++ tbb r) ++ _; rw [ih]; simp only [ByteArray.append_assoc]
def bl (s : ByteArray) : List (Nat × List UInt8) := (cu0 s).L.map fun t => (t.k, bs (s.extract t.a t.z))
theorem bs_app (a b : ByteArray) : bs (a ++ b) = bs a ++ bs b := by simp [bs, ByteArray.data_append]
theorem bs_tbb (s : ByteArray) : ∀ (L : List Tk) (e : Nat), bs (tbb (lvl s e L)) = tbl (L.map fun t => (t.k, bs (s.extract t.a t.z)))
  | [], _ => rfl
  | t :: r, e => by
    show bs ((s.extract t.a t.z ++ b32) ++ tbb (lvl s t.z r)) = (bs (s.extract t.a t.z) ++ [32]) ++ tbl _
    rw [bs_app, bs_app, bs_tbb s r]
    rfl
def blk (s : ByteArray) : ByteArray := tbb (lvl s 0 (cu0 s).L)
theorem bs_blk (s : ByteArray) : bs (blk s) = tbl (bl s) := bs_tbb s _ 0
theorem bl_one {s : ByteArray} (hb : bad (tk (bs s) 0) = none) : ∀ x ∈ bl s, One x := fun x hx => by
  obtain ⟨t, ht, rfl⟩ := List.mem_map.1 hx
  exact real_one hb ht
theorem tk_blk {s : ByteArray} (hb : bad (tk (bs s) 0) = none) : tk (bs (blk s)) 0 = bts 0 (bl s) := by
  rw [bs_blk]
  exact tk_tbl (bl s) [] (bl_one hb)
theorem cu0_blk {s : ByteArray} (hb : bad (tk (bs s) 0) = none) : (cu0 (blk s)).L = rts 0 (bl s) ∧ bad (tk (bs (blk s)) 0) = none := by
  refine ⟨?_, ?_⟩
  · show rls (tk (bs (blk s)) 0) = _
    rw [tk_blk hb, rls_bts _ _ (bl_one hb)]
  · rw [tk_blk hb, bad_bts _ _ (bl_one hb)]
theorem rel_blk {s : ByteArray} (hb : bad (tk (bs s) 0) = none) : Rel (cu0 s) (cu0 (blk s)) := by
  refine ⟨rfl, rfl, rfl, ?_, fun i => ?_⟩
  · rw [(cu0_blk hb).1, rts_len]
    unfold bl
    rw [List.length_map]
  · rw [(cu0_blk hb).1]
    have h := rts_at (bl s) [] i
    rw [List.nil_append, ← bs_blk] at h
    have h2 : (bl s)[i]? = ((cu0 s).L[i]?).map fun t => (t.k, bs (s.extract t.a t.z)) := by unfold bl; rw [List.getElem?_map]
    rw [h2] at h
    show _ = ((rts 0 (bl s))[i]?).map fun y => (y.k, (blk s).extract y.a y.z)
    cases hx : (cu0 s).L[i]? with
    | none =>
      rw [hx] at h
      cases hy : (rts 0 (bl s))[i]? with
      | none => rfl
      | some y => rw [show (rts ([] : List UInt8).length (bl s))[i]? = some y from hy] at h; cases h
    | some x =>
      rw [hx] at h
      cases hy : (rts 0 (bl s))[i]? with
      | none => rw [show (rts ([] : List UInt8).length (bl s))[i]? = none from hy] at h; cases h
      | some y =>
        rw [show (rts ([] : List UInt8).length (bl s))[i]? = some y from hy] at h
        simp only [Option.map_some, Option.some.injEq, Prod.mk.injEq] at h ⊢
        refine ⟨h.1.symm, ?_⟩
        refine WideShapes.bytes_inj ?_
        show bs (s.extract x.a x.z) = bs ((blk s).extract y.a y.z)
        rw [bs_cut (blk s), h.2]
theorem tbb_size : ∀ (l : List Tr), (∀ x ∈ l, 0 < x.t.size) → (tbb l).size ≤ 2 * (tx l).size
  | [], _ => Nat.zero_le _
  | x :: r, h => by
    have ih := tbb_size r fun y hy => h y (List.mem_cons_of_mem _ hy)
    have h1 := h x List.mem_cons_self
    show ((x.t ++ b32) ++ tbb r).size ≤ 2 * ((x.g ++ x.t) ++ tx r).size
    simp only [ByteArray.size_append]
    have : b32.size = 1 := rfl
    omega
theorem blk_size (s : ByteArray) : (blk s).size ≤ 2 * s.size := by
  have h1 := tbb_size (lvl s 0 (cu0 s).L) fun x hx => (lvl_mem s (cu0_od s) x hx).2.1
  have h2 := tx_lvl s (cu0_od s)
  have h3 := od_le (cu0_od s)
  rw [h2, ByteArray.size_extract] at h1
  unfold blk
  omega
theorem rtl_eq {s : ByteArray} (h : rok s = true) : rtl s = s.extract (lz 0 (cu0 s).L) s.size ∧ (cu0 s).L ≠ [] := by
  unfold rok at h
  simp only [Bool.and_eq_true, decide_eq_true_eq] at h
  obtain ⟨⟨⟨hs, hb⟩, hf⟩, hl⟩ := h
  have hk := cu0_ok s hs
  have hG := Got.exX (cu0 s) hk (Nat.zero_le _) (Nat.zero_le _)
  have hn : (exX (cu0 s)).1.n = (cu0 s).L.length := by
    have h1 := hG.ok.n
    rw [hG.L] at h1
    unfold Cu.left at hl
    rw [if_pos hf, hG.L] at hl
    omega
  refine ⟨?_, fun e => ?_⟩
  · unfold rtl Cu.en
    rw [if_pos ⟨hf, hl⟩]
    have e1 : (exX (cu0 s)).1.s = s := hG.s
    have e2 : (exX (cu0 s)).1.beh = lz 0 (cu0 s).L := by
      rw [Cu.beh_lz _ hG.ok.n, hn, hG.L, List.take_length]
    rw [e1, e2]
  · have h3 := hG.cn hf
    have hlv := hG.lv hf
    rw [hn, List.take_length, e] at hlv
    have h4 : TreeMath.cn (exX (cu0 s)).2 = 1 + ((exX (cu0 s)).2.kids.map TreeMath.cn).sum := cn_eq _
    have h5 := congrArg List.length hlv
    simp only [List.length_append] at h5
    have h6 : (lvl (cu0 s).s 0 []).length = 0 := rfl
    rw [h6] at h5
    simp only [List.map_cons, List.map_nil, List.sum_cons, List.sum_nil] at h3
    omega
theorem lz_rts : ∀ (l : List (Nat × List UInt8)) (p e : Nat), l ≠ [] → lz e (rts p l) + 1 = p + (tbl l).length
  | [x], p, e, _ => by
    show p + x.2.length + 1 = p + ((x.2 ++ [32]) ++ []).length
    simp
    omega
  | x :: y :: r, p, e, _ => by
    have ih := lz_rts (y :: r) (p + x.2.length + 1) (p + x.2.length) (by simp)
    show lz (p + x.2.length) (rts (p + x.2.length + 1) (y :: r)) + 1 = p + ((x.2 ++ [32]) ++ tbl (y :: r)).length
    rw [ih]
    simp only [List.length_append, List.length_cons, List.length_nil]
    omega
theorem tbl_last : ∀ (l : List (Nat × List UInt8)), l ≠ [] → (tbl l).drop ((tbl l).length - 1) = [32]
  | [x], _ => by
    show ((x.2 ++ [32]) ++ []).drop (((x.2 ++ [32]) ++ []).length - 1) = [32]
    rw [List.append_nil, List.length_append, show x.2.length + [(32 : UInt8)].length - 1 = x.2.length from rfl, List.drop_left]
  | x :: y :: r, _ => by
    have ih := tbl_last (y :: r) (by simp)
    have hp : 0 < (tbl (y :: r)).length := by show 0 < ((y.2 ++ [32]) ++ tbl r).length; simp; omega
    show ((x.2 ++ [32]) ++ tbl (y :: r)).drop (((x.2 ++ [32]) ++ tbl (y :: r)).length - 1) = [32]
    rw [List.length_append, show (x.2 ++ [(32 : UInt8)]).length + (tbl (y :: r)).length - 1 = (x.2 ++ [(32 : UInt8)]).length + ((tbl (y :: r)).length - 1) from by omega, List.drop_append]
    have e : (x.2 ++ [(32 : UInt8)]).drop ((x.2 ++ [(32 : UInt8)]).length + ((tbl (y :: r)).length - 1)) = [] := List.drop_eq_nil_of_le (by omega)
    rw [e, List.nil_append, Nat.add_sub_cancel_left]
    exact ih
theorem rok_blk {s : ByteArray} (h : rok s = true) (hs : s.size ≤ 1500) : rok (blk s) = true ∧ rtl (blk s) = b32 ∧ spt0 (rtr (blk s)) = spt0 (rtr s) := by
  have h0 := h
  unfold rok at h
  simp only [Bool.and_eq_true, decide_eq_true_eq] at h
  obtain ⟨⟨⟨hsz, hb⟩, hf⟩, hl⟩ := h
  have hbn : bad (tk (bs s) 0) = none := by simpa using hb
  have hR := rel_blk hbn
  obtain ⟨r1, r2⟩ := rel_exX _ _ hR
  have hbs := blk_size s
  have hok : rok (blk s) = true := by
    unfold rok
    simp only [Bool.and_eq_true, decide_eq_true_eq]
    refine ⟨⟨⟨by omega, ?_⟩, ?_⟩, ?_⟩
    · rw [(cu0_blk hbn).2]; rfl
    · rw [← r1.f]; exact hf
    · rw [← r1.left]; exact hl
  refine ⟨hok, ?_, r2.symm⟩
  obtain ⟨e1, e2⟩ := rtl_eq hok
  have hne : bl s ≠ [] := by
    intro e
    apply e2
    rw [(cu0_blk hbn).1, e]
    rfl
  rw [e1, (cu0_blk hbn).1]
  have hz := lz_rts (bl s) 0 0 hne
  have hbl : (tbl (bl s)).length = (blk s).size := by rw [← bs_blk]; exact bs_size _
  refine WideShapes.bytes_inj ?_
  show bs ((blk s).extract (lz 0 (rts 0 (bl s))) (blk s).size) = [32]
  rw [bs_end, bs_blk, show lz 0 (rts 0 (bl s)) = (tbl (bl s)).length - 1 from by omega]
  exact tbl_last _ hne
theorem spt0_pl (T : Tr) : spt0 (pl T) = spt0 T := by
  induction T using Tr.ind with | _ k g t a A c kids ih =>
  unfold spt0
  rw [cg_eq stp (pl ⟨k, g, t, a, A, c, kids⟩), cg_eq stp ⟨k, g, t, a, A, c, kids⟩]
  have e1 : (pl ⟨k, g, t, a, A, c, kids⟩).k = k := by rw [pl_eq]
  have e2 : (pl ⟨k, g, t, a, A, c, kids⟩).kids = kids.map pl := by rw [pl_eq]
  have e3 : tok (pl ⟨k, g, t, a, A, c, kids⟩) = tok ⟨k, g, t, a, A, c, kids⟩ := by rw [pl_eq]; rfl
  have e4 : (pl ⟨k, g, t, a, A, c, kids⟩).g = g ∧ (pl ⟨k, g, t, a, A, c, kids⟩).t = t ∧ (pl ⟨k, g, t, a, A, c, kids⟩).a = a := by rw [pl_eq]; exact ⟨rfl, rfl, rfl⟩
  rw [e1, e2, e3, e4.1, e4.2.1, e4.2.2]
  simp only [stp, spt0_kids, List.map_map]
  have hk : kids.map (spt0 ∘ pl) = kids.map spt0 := List.map_congr_left fun x hx => ih x hx
  rw [hk]
/-- what the law asks of the two trees -/
theorem blank_tbb {s : ByteArray} (h : rok s = true) {T : Tr} (hT : pl T = rtr s) : tbb (TreeMath.lf T) = blk s := by
  obtain ⟨h1, h2, h3, h4, h5⟩ := rok_facts h
  have hl : (TreeMath.lf T).map pl = lvl s 0 (cu0 s).L := by rw [← lf_pl, hT, h3]
  unfold blk
  rw [← hl]
  have : ∀ l : List Tr, tbb l = tbb (l.map pl) := by
    intro l
    induction l with
    | nil => rfl
    | cons x r ih => show (x.t ++ b32) ++ tbb r = ((pl x).t ++ b32) ++ tbb (r.map pl); rw [← ih, pl_eq]
  exact this _
theorem blank_same {s : ByteArray} (h : rok s = true) (hs : s.size ≤ 1500) {T U : Tr} (hT : pl T = rtr s) (hU : pl U = rtr (blk s)) : (cg stp T ()).1 = (cg stp U ()).1 := by
  obtain ⟨b1, b2, b3⟩ := rok_blk h hs
  show spt0 T = spt0 U
  rw [← spt0_pl T, ← spt0_pl U, hT, hU, b3]
end Go.Proofs.YtfmlcddakfbleaaGreatDoor
