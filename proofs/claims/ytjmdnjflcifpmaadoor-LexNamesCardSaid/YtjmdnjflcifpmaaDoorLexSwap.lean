/- A word in place of a word leaves all other tokens. Plain facts. -/
import Derived.Test.YtjmdnjflcifpmaaDoorLexTile
namespace Go.Proofs.YtjmdnjflcifpmaaDoor
open Go.RowKit SignMath

theorem lt_cases {n : Int} (h : lt n = true) : (97 ≤ n ∧ n ≤ 122) ∨ (65 ≤ n ∧ n ≤ 90) ∨ n = 95 := by
  unfold lt at h; simpa using h
theorem lt_bk {n : Int} (h : lt n = true) : bk n = false := by
  have := lt_cases h; unfold bk; simp; omega
theorem lt_nl {n : Int} (h : lt n = true) : nl n = true := by
  have := lt_cases h; unfold nl; simp; omega
theorem lt_ne {c : UInt8} (h : lt (nb c) = true) (d : UInt8) (hd : d = 38 ∨ d = 42 ∨ d = 47) : (d == c) = false := by
  rw [beq_eq_false_iff_ne]
  rintro rfl
  rcases hd with rfl | rfl | rfl <;> exact absurd h (by decide)
theorem bk_lf {n : Int} (h : bk n = true) : lf n = false := by
  unfold bk at h; unfold lf lt fg; simp at h ⊢; omega

/-- it begins with a letter -/
def Lt (Y : List UInt8) : Prop := ∃ y r, Y = y :: r ∧ lt (nb y) = true

theorem rn_app_all {p : Int → Bool} {X Y : List UInt8} (h : (X.all fun c => p (nb c)) = true) : rn p (X ++ Y) 0 = X.length + rn p Y 0 := by
  unfold rn
  rw [List.drop_zero, List.drop_zero, List.takeWhile_append, if_pos ((takeWhile_all X).2 h), List.length_append]; omega
theorem rn_app_some {p : Int → Bool} {X Y : List UInt8} (h : ¬ (X.all fun c => p (nb c)) = true) : rn p (X ++ Y) 0 = rn p X 0 := by
  unfold rn
  rw [List.drop_zero, List.drop_zero, List.takeWhile_append, if_neg (fun e => h ((takeWhile_all X).1 e))]
theorem rn_Lt {p : Int → Bool} {Y : List UInt8} (hY : Lt Y) (hp : ∀ n, lt n = true → p n = true) : 0 < rn p Y 0 := by
  obtain ⟨y, r, rfl, hy⟩ := hY
  rw [rn_cons (hp _ hy)]; omega
theorem rn_Lt0 {p : Int → Bool} {Y : List UInt8} (hY : Lt Y) (hp : ∀ n, lt n = true → p n = false) : rn p Y 0 = 0 := by
  obtain ⟨y, r, rfl, hy⟩ := hY
  exact rn_no (hp _ hy)

theorem index_swap {Y Y' : List UInt8} : ∀ (A : List UInt8), 0 ≤ Lib.index (A ++ Y) [42, 47] → (Lib.index (A ++ Y) [42, 47]).toNat + 2 ≤ A.length → Lib.index (A ++ Y') [42, 47] = Lib.index (A ++ Y) [42, 47]
  | [], _, h2 => by simp at h2
  | [b], _, h2 => by simp at h2
  | b :: d :: A, h1, h2 => by
    have ih := index_swap (Y := Y) (Y' := Y') (d :: A)
    have e : ∀ Z : List UInt8, Lib.index (b :: d :: A ++ Z) [42, 47] = if (42 == b && 47 == d) = true then 0 else if Lib.index (d :: A ++ Z) [42, 47] == -1 then -1 else Lib.index (d :: A ++ Z) [42, 47] + 1 := fun Z => by
      show Lib.index (b :: (d :: A ++ Z)) [42, 47] = _
      conv => lhs; unfold Lib.index
      simp [List.isPrefixOf]
    rw [e Y] at h1 h2 ⊢
    rw [e Y']
    by_cases hp : (42 == b && 47 == d) = true
    · rw [if_pos hp, if_pos hp]
    · rw [if_neg hp] at h1 h2 ⊢
      rw [if_neg hp]
      have hge := Lib.index_ge (d :: A ++ Y) [42, 47]
      by_cases h3 : Lib.index (d :: A ++ Y) [42, 47] = -1
      · rw [h3] at h1; simp at h1
      · rw [if_neg (by simpa using h3)] at h1 h2
        simp only [List.length_cons] at h2
        rw [ih (by omega) (by simp only [List.length_cons]; omega)]

theorem index_hit : ∀ (s : List UInt8), 0 ≤ Lib.index s [42, 47] → s[(Lib.index s [42, 47]).toNat + 1]? = some 47
  | [], h => by simp [Lib.index] at h
  | b :: s, h => by
    have ih := index_hit s
    have e : Lib.index (b :: s) [42, 47] = if [42, 47].isPrefixOf (b :: s) = true then 0 else if Lib.index s [42, 47] == -1 then -1 else Lib.index s [42, 47] + 1 := by
      conv => lhs; unfold Lib.index
    rw [e] at h ⊢
    by_cases hp : [42, 47].isPrefixOf (b :: s) = true
    · rw [if_pos hp]
      obtain ⟨r, hr⟩ := List.isPrefixOf_iff_prefix.1 hp
      rw [← hr]; rfl
    · rw [if_neg hp] at h ⊢
      have hge := Lib.index_ge s [42, 47]
      by_cases h3 : Lib.index s [42, 47] = -1
      · rw [h3] at h; simp at h
      · rw [if_neg (by simpa using h3)] at h ⊢
        rw [show (Lib.index s [42, 47] + 1).toNat = (Lib.index s [42, 47]).toNat + 1 from by omega, List.getElem?_cons_succ]
        exact ih (by omega)

/-- other bytes behind a token that is whole -/
theorem ft_swap {X Y Y' : List UInt8} (hX : X ≠ []) (hY : Lt Y) (hY' : Lt Y') (hn : (ft (X ++ Y)).2 ≤ X.length)
    (hpr : (pr.isPrefixOf (X ++ Y') = true ∧ lfAt (X ++ Y') 18 = false) ↔ (pr.isPrefixOf (X ++ Y) = true ∧ lfAt (X ++ Y) 18 = false)) : ft (X ++ Y') = ft (X ++ Y) := by
  obtain ⟨c, X, rfl⟩ := List.exists_cons_of_ne_nil hX
  by_cases hb : bk (nb c) = true
  · rw [ft_bk (x := c :: X ++ Y) hb, ft_bk (x := c :: X ++ Y') hb]
    by_cases ha : ((c :: X).all fun c => bk (nb c)) = true
    · rw [rn_app_all ha, rn_app_all ha, rn_Lt0 hY (fun _ => lt_bk), rn_Lt0 hY' (fun _ => lt_bk)]
    · rw [rn_app_some ha, rn_app_some ha]
  · by_cases hs : c = 47
    · rw [ft_sl (x := c :: X ++ Y) hb hs] at hn
      rw [ft_sl (x := c :: X ++ Y) hb hs, ft_sl (x := c :: X ++ Y') hb hs]
      subst hs
      cases X with
      | nil =>
        have key : ∀ Z, Lt Z → sl (47 :: ([] ++ Z)) = (7, 1) := fun Z hZ => by
          obtain ⟨y, r, rfl, hy⟩ := hZ
          exact sl_bad (by simp [List.isPrefixOf, lt_ne hy 47 (.inr (.inr rfl))]) (by simp [List.isPrefixOf, lt_ne hy 42 (.inr (.inl rfl))])
        exact (key Y' hY').trans (key Y hY).symm
      | cons d X =>
        have q1 : ∀ Z : List UInt8, [47, 47].isPrefixOf (47 :: (d :: X ++ Z)) = (47 == d) := fun Z => by simp [List.isPrefixOf]
        have q2 : ∀ Z : List UInt8, [47, 42].isPrefixOf (47 :: (d :: X ++ Z)) = (42 == d) := fun Z => by simp [List.isPrefixOf]
        cases h1 : (47 == d) with
        | true =>
          have r1 : sl (47 :: (d :: X ++ Y)) = (2, rn nl (47 :: d :: X ++ Y) 0) := sl_line ((q1 Y).trans h1)
          have r2 : sl (47 :: (d :: X ++ Y')) = (2, rn nl (47 :: d :: X ++ Y') 0) := sl_line ((q1 Y').trans h1)
          have hn' : (sl (47 :: (d :: X ++ Y))).2 ≤ (47 :: d :: X).length := hn
          rw [r1] at hn'
          show sl (47 :: (d :: X ++ Y')) = sl (47 :: (d :: X ++ Y))
          rw [r1, r2]
          by_cases ha : ((47 :: d :: X).all fun c => nl (nb c)) = true
          · rw [rn_app_all ha] at hn'
            have := rn_Lt hY (p := nl) (fun _ => lt_nl)
            dsimp only at hn'
            omega
          · rw [rn_app_some ha, rn_app_some ha]
        | false =>
          cases h2 : (42 == d) with
          | true =>
            have hn' : (sl (47 :: (d :: X ++ Y))).2 ≤ (47 :: d :: X).length := hn
            show sl (47 :: (d :: X ++ Y')) = sl (47 :: (d :: X ++ Y))
            have hd : ∀ Z : List UInt8, (47 :: (d :: X ++ Z)).drop 2 = X ++ Z := fun _ => rfl
            by_cases hi : Lib.index (X ++ Y) [42, 47] < 0
            · rw [sl_open ((q2 Y).trans h2) hi] at hn'
              obtain ⟨y, r, rfl, _⟩ := hY
              simp at hn'
              omega
            · have r1 := sl_star (l := 47 :: (d :: X ++ Y)) ((q2 Y).trans h2) (by rw [hd]; omega)
              rw [hd] at r1
              rw [r1] at hn'
              have e := index_swap (Y := Y) (Y' := Y') X (by omega) (by simp at hn'; omega)
              have r2 := sl_star (l := 47 :: (d :: X ++ Y')) ((q2 Y').trans h2) (by rw [hd, e]; omega)
              rw [hd] at r2
              rw [r1, r2, e]
          | false => exact (sl_bad ((q1 Y').trans h1) ((q2 Y').trans h2)).trans (sl_bad ((q1 Y).trans h1) ((q2 Y).trans h2)).symm
    · by_cases hl : lf (nb c) = true
      · rw [ft_wo (x := c :: X ++ Y) hb hs hl] at hn
        rw [ft_wo (x := c :: X ++ Y) hb hs hl, ft_wo (x := c :: X ++ Y') hb hs hl]
        unfold wo at hn ⊢
        by_cases hp : pr.isPrefixOf (c :: X ++ Y) = true ∧ lfAt (c :: X ++ Y) 18 = false
        · rw [if_pos hp, if_pos (hpr.2 hp)]
        · rw [if_neg hp] at hn
          rw [if_neg hp, if_neg (fun h => hp (hpr.1 h))]
          dsimp only at hn
          by_cases ha : ((c :: X).all fun c => lf (nb c)) = true
          · rw [rn_app_all ha] at hn
            have := rn_Lt hY (p := lf) (fun _ => lf_of_lt)
            omega
          · have hle := (rn_le lf (c :: X) 0 (Nat.zero_le _)).2
            rw [rn_app_some ha, rn_app_some ha, List.take_append_of_le_length hle, List.take_append_of_le_length hle]
      · rw [ft_mk (x := c :: X ++ Y) hb hs hl, ft_mk (x := c :: X ++ Y') hb hs hl]
        have key : [38, 38].isPrefixOf (c :: X ++ Y') = [38, 38].isPrefixOf (c :: X ++ Y) := by
          cases X with
          | nil =>
            obtain ⟨y, r, rfl, hy⟩ := hY
            obtain ⟨y', r', rfl, hy'⟩ := hY'
            simp [List.isPrefixOf, lt_ne hy 38 (.inl rfl), lt_ne hy' 38 (.inl rfl)]
          | cons d X => simp [List.isPrefixOf]
        unfold mk
        rw [key]
        rfl

theorem run_at {p : Int → Bool} {l : List UInt8} {i : Nat} (h : i < rn p l 0) : ∃ c, l[i]? = some c ∧ p (nb c) = true := by
  have hle := (rn_le p l 0 (Nat.zero_le _)).2
  have hr := run_run p l
  have hl : i < (l.take (rn p l 0)).length := by rw [List.length_take]; omega
  refine ⟨l[i]'(by omega), List.getElem?_eq_getElem _, ?_⟩
  have := List.all_eq_true.1 hr _ (List.getElem_mem hl)
  rwa [List.getElem_take] at this
theorem run_end {p : Int → Bool} : ∀ {l : List UInt8} {c : UInt8}, l[rn p l 0]? = some c → p (nb c) = false
  | [], c, h => by simp at h
  | b :: l, c, h => by
    cases hb : p (nb b) with
    | true =>
      rw [rn_cons hb, Nat.add_comm, List.getElem?_cons_succ] at h
      exact run_end h
    | false =>
      rw [rn_no hb] at h
      simp at h; rw [← h]; exact hb

theorem lfAt_drop (l : List UInt8) (p k : Nat) : lfAt (l.drop p) k = lfAt l (p + k) := by
  unfold lfAt; rw [List.getElem?_drop]
theorem lfAt_some {l : List UInt8} {k : Nat} {c : UInt8} (h : l[k]? = some c) : lfAt l k = lf (nb c) := by unfold lfAt; rw [h]
theorem lfAt_true {l : List UInt8} {k : Nat} (h : lfAt l k = true) : ∃ c, l[k]? = some c ∧ lf (nb c) = true := by
  unfold lfAt at h
  cases hk : l[k]? with
  | none => rw [hk] at h; cases h
  | some c => rw [hk] at h; exact ⟨c, rfl, h⟩

/-- where a letter or a figure follows a token, it does not end with one -/
theorem ft_edge {x : List UInt8} (hx : x ≠ []) (h : lfAt x (ft x).2 = true) : lfAt x ((ft x).2 - 1) = false := by
  obtain ⟨c, r, rfl⟩ := List.exists_cons_of_ne_nil hx
  by_cases hb : bk (nb c) = true
  · rw [ft_bk (x := c :: r) hb] at h ⊢
    dsimp only at h ⊢
    have h1 := rn_cons (p := bk) (c := c) (r := r) hb
    obtain ⟨d, hd, hp⟩ := run_at (p := bk) (l := c :: r) (i := rn bk (c :: r) 0 - 1) (by omega)
    rw [lfAt_some hd]; exact bk_lf hp
  · by_cases hs : c = 47
    · rw [ft_sl (x := c :: r) hb hs] at h ⊢
      subst hs
      unfold sl at h ⊢
      by_cases h1 : [47, 47].isPrefixOf (47 :: r) = true
      · rw [if_pos h1] at h ⊢
        dsimp only at h
        obtain ⟨d, hd, hp⟩ := lfAt_true h
        have := run_end hd
        have e : nb d = 10 := by unfold nl at this; simpa using this
        rw [e] at hp
        exact absurd hp (by decide)
      · rw [if_neg h1] at h ⊢
        by_cases h2 : [47, 42].isPrefixOf (47 :: r) = true
        · rw [if_pos h2] at h ⊢
          by_cases h3 : Lib.index ((47 :: r).drop 2) [42, 47] < 0
          · rw [if_pos h3] at h
            obtain ⟨d, hd, _⟩ := lfAt_true h
            rw [List.getElem?_eq_none (Nat.le_refl _)] at hd
            cases hd
          · rw [if_neg h3] at h ⊢
            dsimp only at h ⊢
            have := index_hit ((47 :: r).drop 2) (by omega)
            rw [List.getElem?_drop] at this
            rw [lfAt_some (c := 47) (by rw [← this]; congr 1; omega)]
            decide
        · rw [if_neg h2]
          show lf (nb 47) = false
          decide
    · by_cases hl : lf (nb c) = true
      · rw [ft_wo (x := c :: r) hb hs hl] at h ⊢
        unfold wo at h ⊢
        by_cases hp : pr.isPrefixOf (c :: r) = true ∧ lfAt (c :: r) 18 = false
        · rw [if_pos hp] at h
          rw [hp.2] at h
          cases h
        · rw [if_neg hp] at h
          obtain ⟨d, hd, hd2⟩ := lfAt_true h
          rw [run_end hd] at hd2
          cases hd2
      · rw [ft_mk (x := c :: r) hb hs hl]
        unfold mk
        split
        · rename_i ha
          obtain ⟨q, hq⟩ := List.isPrefixOf_iff_prefix.1 ha
          rw [← hq]
          show lf (nb 38) = false
          decide
        · have e : lfAt (c :: r) 0 = false := by
            rw [lfAt_some (c := c) rfl]; simpa using hl
          split <;> exact e
end Go.Proofs.YtjmdnjflcifpmaaDoor
