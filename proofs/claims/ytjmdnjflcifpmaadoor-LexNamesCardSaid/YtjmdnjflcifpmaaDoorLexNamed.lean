/- All tokens of a text in which a word stands in place of a name. Plain facts. -/
import Derived.Test.YtjmdnjflcifpmaaDoorLexSwap
namespace Go.Proofs.YtjmdnjflcifpmaaDoor
open Go.RowKit SignMath

/-- System -/
def wSys : List UInt8 := [83, 121, 115, 116, 101, 109]
/-- out -/
def wOut : List UInt8 := [111, 117, 116]
/-- println -/
def wPri : List UInt8 := [112, 114, 105, 110, 116, 108, 110]

theorem tk_in {l : List UInt8} {p i : Nat} {t : Tk} (h : (tk l p)[i]? = some t) : p < l.length := by
  by_cases hl : p < l.length
  · exact hl
  · rw [tk_end (by omega)] at h; simp at h
theorem drop_ne {l : List UInt8} {p : Nat} (h : p < l.length) : l.drop p ≠ [] := by
  intro e; have := congrArg List.length e; simp at this; omega
theorem tk_from {l : List UInt8} : ∀ (i p : Nat) (t : Tk), (tk l p)[i]? = some t → p ≤ t.a
  | 0, p, t, h => by
    rw [tk_step (tk_in h)] at h
    simp at h; rw [← h]; exact Nat.le_refl _
  | i + 1, p, t, h => by
    have hp := tk_in h
    rw [tk_step hp, List.getElem?_cons_succ] at h
    have := tk_from i _ t h
    omega
theorem tk_zero {l : List UInt8} {p : Nat} {t : Tk} (h : (tk l p)[0]? = some t) : t.a = p := by
  rw [tk_step (tk_in h)] at h
  simp at h; rw [← h]
theorem tk_edge {l : List UInt8} : ∀ (i p : Nat) (t : Tk), (tk l p)[i + 1]? = some t → lfAt l t.a = true → lfAt l (t.a - 1) = false
  | 0, p, t, h, hl => by
    have hp := tk_in h
    rw [tk_step hp, List.getElem?_cons_succ] at h
    have e := tk_zero h
    have hz := ft_size (drop_ne hp)
    rw [e, ← lfAt_drop] at hl
    have := ft_edge (drop_ne hp) hl
    rw [lfAt_drop] at this
    rw [e, show p + (ft (l.drop p)).2 - 1 = p + ((ft (l.drop p)).2 - 1) from by omega]
    exact this
  | i + 1, p, t, h, hl => by
    rw [tk_step (tk_in h), List.getElem?_cons_succ] at h
    exact tk_edge i _ t h hl
theorem tk_drop {l : List UInt8} : ∀ (i p : Nat) (t : Tk), (tk l p)[i]? = some t → (tk l p).drop i = tk l t.a
  | 0, p, t, h => by rw [tk_zero h]; rfl
  | i + 1, p, t, h => by
    have hp := tk_in h
    rw [tk_step hp, List.getElem?_cons_succ] at h
    rw [tk_step hp, List.drop_succ_cons]
    exact tk_drop i _ t h

theorem wd_parts {W : List UInt8} (h : wd W = true) : Lt W ∧ (W.all fun c => lf (nb c)) = true := by
  cases W with
  | nil => rw [wd_nil] at h; cases h
  | cons c r =>
    have hc := wd_fst h
    unfold wd at h
    simp only [Bool.and_eq_true] at h
    exact ⟨⟨c, r, rfl, hc⟩, by simp only [List.all_cons, Bool.and_eq_true]; exact ⟨lf_of_lt hc, h.2.2⟩⟩
theorem Lt.app {W : List UInt8} (h : Lt W) (R : List UInt8) : Lt (W ++ R) := by
  obtain ⟨y, r, rfl, hy⟩ := h
  exact ⟨y, r ++ R, rfl, hy⟩
theorem run_word {W R : List UInt8} (hW : (W.all fun c => lf (nb c)) = true) (hR : lfAt R 0 = false) : rn lf (W ++ R) 0 = W.length := by
  rw [rn_app_all hW]
  cases R with
  | nil => rw [rn_nil]; rfl
  | cons c r => rw [rn_no (by rw [← hR]; rfl)]; rfl
theorem take_word {W R : List UInt8} (hW : (W.all fun c => lf (nb c)) = true) (hR : lfAt R 0 = false) : ((W ++ R).takeWhile fun c => lf (nb c)) = W := by
  rw [← take_run, run_word hW hR, List.take_left]

theorem ft_pr {x : List UInt8} (h : pr.isPrefixOf x = true ∧ lfAt x 18 = false) : ft x = (3, 18) := by
  obtain ⟨q, rfl⟩ := List.isPrefixOf_iff_prefix.1 h.1
  rw [ft_wo (x := pr ++ q) (show ¬ bk (nb 83) = true by decide) (show ¬ (83 : UInt8) = 47 by decide) (show lf (nb 83) = true by decide)]
  unfold wo
  rw [if_pos h]

theorem pr_move {X Y Y' : List UInt8} (hlast : lfAt X (X.length - 1) = false) (h18 : 18 ≤ X.length) (h : pr.isPrefixOf (X ++ Y) = true ∧ lfAt (X ++ Y) 18 = false) : pr.isPrefixOf (X ++ Y') = true ∧ lfAt (X ++ Y') 18 = false := by
  have h1 : pr <+: X := List.prefix_of_prefix_length_le (List.isPrefixOf_iff_prefix.1 h.1) (List.prefix_append X Y) h18
  have hlt : 18 < X.length := by
    rcases Nat.lt_or_ge 18 X.length with h2 | h2
    · exact h2
    · have e : pr = X := h1.eq_of_length (by have : pr.length = 18 := rfl
                                             omega)
      rw [← e] at hlast
      exact absurd hlast (by decide)
  refine ⟨List.isPrefixOf_iff_prefix.2 (h1.trans (List.prefix_append X Y')), ?_⟩
  have h2 := h.2
  unfold lfAt at h2 ⊢
  rw [List.getElem?_append_left hlt] at h2 ⊢
  exact h2

theorem pr_ends : ∀ j, j < 18 → 1 ≤ j → lfAt (pr.take j) (j - 1) = false → j = 7 ∨ j = 11 := by decide

theorem pr_swap {X W W' R : List UInt8} (hX : X ≠ []) (hlast : lfAt X (X.length - 1) = false) (hW' : wd W' = true) (hR : lfAt R 0 = false) (ho : W' ≠ wOut) (hp : W' ≠ wPri) (hn : (ft (X ++ (W ++ R))).2 ≤ X.length) :
    (pr.isPrefixOf (X ++ (W' ++ R)) = true ∧ lfAt (X ++ (W' ++ R)) 18 = false) ↔ (pr.isPrefixOf (X ++ (W ++ R)) = true ∧ lfAt (X ++ (W ++ R)) 18 = false) := by
  constructor
  · intro h
    rcases Nat.lt_or_ge X.length 18 with hl | hl
    · exfalso
      have h1 := List.isPrefixOf_iff_prefix.1 h.1
      have hXp : X <+: pr := List.prefix_of_prefix_length_le (List.prefix_append X _) h1 (Nat.le_of_lt hl)
      have hXe := List.prefix_iff_eq_take.1 hXp
      have hpos : 1 ≤ X.length := by cases X with
        | nil => exact absurd rfl hX
        | cons c r => simp
      have hj := pr_ends X.length hl hpos (by rw [← hXe]; exact hlast)
      have hw := take_word (wd_parts hW').2 hR
      have hd : pr.drop X.length <+: W' ++ R := by
        have h2 : pr.take X.length ++ pr.drop X.length <+: X ++ (W' ++ R) := by rw [List.take_append_drop]; exact h1
        rw [← hXe] at h2
        exact (List.prefix_append_right_inj X).1 h2
      obtain ⟨q, hq⟩ := hd
      rcases hj with hj | hj
      · rw [hj] at hq
        apply ho
        rw [← hw, ← hq]
        rfl
      · rw [hj] at hq
        apply hp
        have h18 := h.2
        unfold lfAt at h18
        rw [List.getElem?_append_right (by omega), hj, ← hq] at h18
        have hq0 : lfAt q 0 = false := h18
        rw [← hw, ← hq]
        exact take_word (W := wPri) (by decide) hq0
    · exact pr_move hlast hl h
  · intro h
    have e := ft_pr h
    rw [e] at hn
    exact pr_move hlast hn h

theorem tk_swap {P W W' R : List UInt8} (hW : wd W = true) (hW' : wd W' = true) (hR : lfAt R 0 = false) (ho : W' ≠ wOut) (hp : W' ≠ wPri) (hedge : P ≠ [] → lfAt P (P.length - 1) = false) :
    ∀ (i p : Nat) (t : Tk), (tk (P ++ (W ++ R)) p)[i]? = some t → t.a = P.length → tk (P ++ (W' ++ R)) p = (tk (P ++ (W ++ R)) p).take i ++ tk (P ++ (W' ++ R)) P.length
  | 0, p, t, h, ha => by
    have := tk_zero h
    rw [show p = P.length from by omega]; rfl
  | i + 1, p, t, h, ha => by
    have hl := tk_in h
    have ih := tk_swap (P := P) hW hW' hR ho hp hedge i (p + (ft ((P ++ (W ++ R)).drop p)).2) t
    rw [tk_step hl, List.getElem?_cons_succ] at h
    have hf := tk_from i _ t h
    have hz := ft_size (drop_ne hl)
    have hpP : p < P.length := by omega
    have e1 : (P ++ (W ++ R)).drop p = P.drop p ++ (W ++ R) := List.drop_append_of_le_length (by omega)
    have e2 : (P ++ (W' ++ R)).drop p = P.drop p ++ (W' ++ R) := List.drop_append_of_le_length (by omega)
    have hne := drop_ne hpP
    have hXl : (P.drop p).length = P.length - p := List.length_drop
    have hn : (ft (P.drop p ++ (W ++ R))).2 ≤ (P.drop p).length := by rw [← e1, hXl]; omega
    have hlast : lfAt (P.drop p) ((P.drop p).length - 1) = false := by
      rw [lfAt_drop, hXl, show p + (P.length - p - 1) = P.length - 1 from by omega]
      exact hedge (fun e => by rw [e] at hpP; simp at hpP)
    have hft := ft_swap hne ((wd_parts hW).1.app R) ((wd_parts hW').1.app R) hn (pr_swap hne hlast hW' hR ho hp hn)
    rw [← e1, ← e2] at hft
    rw [tk_step (l := P ++ (W' ++ R)) (at_ := p) (by simp; omega), hft, tk_step hl, List.take_succ_cons, List.cons_append, ih h ha]

theorem ft_name {W R : List UInt8} (hW : wd W = true) (hk : kwl W = false) (hR : lfAt R 0 = false) (hs : W ≠ wSys) : ft (W ++ R) = (4, W.length) := by
  have hp := wd_parts hW
  obtain ⟨y, r, he, hy⟩ := hp.1
  have hh : (W ++ R).headD 0 = y := by rw [he]; rfl
  rw [ft_wo (by rw [hh, lt_bk hy]; decide) (by rw [hh]; rintro rfl; exact absurd hy (by decide)) (by rw [hh]; exact lf_of_lt hy)]
  have hw := take_word hp.2 hR
  have hn : ¬ (pr.isPrefixOf (W ++ R) = true ∧ lfAt (W ++ R) 18 = false) := fun h => by
    obtain ⟨q, hq⟩ := List.isPrefixOf_iff_prefix.1 h.1
    apply hs
    rw [← hw, ← hq]
    rfl
  unfold wo
  rw [if_neg hn, run_word hp.2 hR, List.take_left]
  unfold wk
  rw [hk, hW]
  rfl

theorem ft_four {x : List UInt8} (h : (ft x).1 = 4) : (ft x).2 = rn lf x 0 ∧ wd (x.take (rn lf x 0)) = true := by
  by_cases hb : bk (nb (x.headD 0)) = true
  · rw [ft_bk hb] at h; simp at h
  · by_cases hs : x.headD 0 = 47
    · rw [ft_sl hb hs] at h
      unfold sl at h
      (repeat' split at h) <;> simp at h
    · by_cases hl : lf (nb (x.headD 0)) = true
      · rw [ft_wo hb hs hl] at h ⊢
        unfold wo at h ⊢
        split at h
        · simp at h
        · rename_i hp
          rw [if_neg hp]
          refine ⟨rfl, ?_⟩
          dsimp only at h
          unfold wk at h
          split at h
          · simp at h
          · split at h
            · rename_i hw; exact hw
            · split at h <;> simp at h
      · rw [ft_mk hb hs hl] at h
        unfold mk at h
        (repeat' split at h) <;> simp at h

theorem tk_shift {l l' : List UInt8} : ∀ (m p p' : Nat), l.length - p ≤ m → l'.drop p' = l.drop p → p ≤ l.length → p' ≤ l'.length → tk l' p' = (tk l p).map fun u => ⟨u.k, u.a + p' - p, u.z + p' - p⟩ := by
  intro m
  induction m with
  | zero =>
    intro p p' h e hp hp'
    have hl := congrArg List.length e
    rw [List.length_drop, List.length_drop] at hl
    rw [tk_end (by omega), tk_end (l := l) (by omega)]; rfl
  | succ m ih =>
    intro p p' h e hp hp'
    have hl := congrArg List.length e
    rw [List.length_drop, List.length_drop] at hl
    by_cases hlt : p < l.length
    · have hz := ft_size (drop_ne hlt)
      rw [List.length_drop] at hz
      rw [tk_step (l := l') (by omega), tk_step hlt, e, List.map_cons]
      have e2 : l'.drop (p' + (ft (l.drop p)).2) = l.drop (p + (ft (l.drop p)).2) := by rw [← List.drop_drop, ← List.drop_drop, e]
      rw [ih _ _ (by omega) e2 (by omega) (by omega)]
      congr 1
      · simp only [Tk.mk.injEq, true_and]; constructor <;> omega
      · apply List.map_congr_left
        intro u _
        simp only [Tk.mk.injEq, true_and]; constructor <;> omega
    · rw [tk_end (by omega), tk_end (l := l) (by omega)]; rfl

/-- A WORD IN PLACE OF A NAME. -/
theorem named {l N : List UInt8} {k : Nat} {t : Tk} (hk : (tk l 0)[k]? = some t) (h4 : t.k = 4) (hN : wd N = true) (hkw : kwl N = false) (h1 : N ≠ wSys) (h2 : N ≠ wOut) (h3 : N ≠ wPri) :
    t.a < t.z ∧ t.z ≤ l.length ∧ (∀ u ∈ (tk l 0).drop (k + 1), t.z ≤ u.a ∧ u.a ≤ u.z) ∧
    tk (l.take t.a ++ (N ++ l.drop t.z)) 0 = (tk l 0).take k ++ ⟨4, t.a, t.a + N.length⟩ :: ((tk l 0).drop (k + 1)).map (fun u => ⟨u.k, u.a + (t.a + N.length) - t.z, u.z + (t.a + N.length) - t.z⟩) := by
  obtain ⟨ha, hkd, hz⟩ := tk_mem (l := l) _ 0 (Nat.le_refl _) t (List.mem_of_getElem? hk)
  have hsz := ft_size (drop_ne ha)
  rw [List.length_drop] at hsz
  obtain ⟨hr, hw⟩ := ft_four (hkd.symm.trans h4)
  have hdk := tk_drop k 0 t hk
  have hdk1 : (tk l 0).drop (k + 1) = tk l t.z := by
    have e : (tk l 0).drop (k + 1) = ((tk l 0).drop k).drop 1 := List.drop_drop.symm
    rw [e, hdk, tk_step ha, List.drop_succ_cons, List.drop_zero, hz]
  have hsplit : l = l.take t.a ++ ((l.drop t.a).take (rn lf (l.drop t.a) 0) ++ l.drop t.z) := by
    have : l.drop t.z = (l.drop t.a).drop (rn lf (l.drop t.a) 0) := by rw [List.drop_drop]; congr 1; omega
    rw [this, List.take_append_drop, List.take_append_drop]
  have hRs : lfAt (l.drop t.z) 0 = false := by
    rw [lfAt_drop, Nat.add_zero]
    cases hq : lfAt l t.z with
    | false => rfl
    | true =>
      obtain ⟨c, hc, hcl⟩ := lfAt_true hq
      have : (l.drop t.a)[rn lf (l.drop t.a) 0]? = some c := by rw [List.getElem?_drop, ← hc]; congr 1; omega
      rw [run_end this] at hcl
      cases hcl
  have hPl : (l.take t.a).length = t.a := by rw [List.length_take]; omega
  have hedge : l.take t.a ≠ [] → lfAt (l.take t.a) ((l.take t.a).length - 1) = false := fun hne => by
    have hpos : 1 ≤ t.a := by
      rcases Nat.eq_zero_or_pos t.a with h | h
      · rw [h] at hne; simp at hne
      · exact h
    have hkp : ∃ j, k = j + 1 := by
      cases k with
      | zero => have := tk_zero hk; omega
      | succ j => exact ⟨j, rfl⟩
    obtain ⟨j, rfl⟩ := hkp
    have hlt : lfAt l t.a = true := by
      obtain ⟨y, r, he, hy⟩ := (wd_parts hw).1
      have e0 : ((l.drop t.a).take (rn lf (l.drop t.a) 0))[0]? = some y := by rw [he]; rfl
      rw [List.getElem?_take_of_lt (by omega), List.getElem?_drop, Nat.add_zero] at e0
      rw [lfAt_some e0]; exact lf_of_lt hy
    have := tk_edge j 0 t hk hlt
    rw [hPl]
    unfold lfAt at this ⊢
    rw [List.getElem?_take_of_lt (by omega)]
    exact this
  have hsw := tk_swap (P := l.take t.a) (W := (l.drop t.a).take (rn lf (l.drop t.a) 0)) (W' := N) (R := l.drop t.z) hw hN hRs h2 h3 hedge k 0 t (by rw [← hsplit]; exact hk) hPl.symm
  rw [← hsplit, hPl] at hsw
  have hn1 : t.a < (l.take t.a ++ (N ++ l.drop t.z)).length := by
    obtain ⟨y, r, he, _⟩ := (wd_parts hN).1
    rw [he]; simp; omega
  have hd1 : (l.take t.a ++ (N ++ l.drop t.z)).drop t.a = N ++ l.drop t.z := by
    have := List.drop_left (l₁ := l.take t.a) (l₂ := N ++ l.drop t.z)
    rwa [hPl] at this
  have hd2 : (l.take t.a ++ (N ++ l.drop t.z)).drop (t.a + N.length) = l.drop t.z := by
    rw [← List.drop_drop, hd1, List.drop_left]
  refine ⟨by omega, by omega, ?_, ?_⟩
  · intro u hu
    rw [hdk1] at hu
    obtain ⟨i, hi⟩ := List.getElem?_of_mem hu
    exact ⟨tk_from i _ u hi, by have := (tk_mem (l := l) _ _ (Nat.le_refl _) u hu).2.2; omega⟩
  · rw [hsw, tk_step hn1, hd1, ft_name hN hkw hRs h1, hdk1]
    dsimp only
    rw [tk_shift (l := l) _ t.z (t.a + N.length) (Nat.le_refl _) hd2 (by omega) (by simp; omega)]
end Go.Proofs.YtjmdnjflcifpmaaDoor
