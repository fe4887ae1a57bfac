/- A real token, taken alone, is one token of its kind. Plain facts. -/
import Derived.Test.YthggchkpejhaiaaGreatDoorLexChain
namespace Go.Proofs.YthggchkpejhaiaaGreatDoor
open Go.RowKit SignMath

theorem pr_not_lf : (pr.all fun c => lf (nb c)) = false := by decide
theorem all_pre {p q : List UInt8} {f : UInt8 → Bool} (h : p.isPrefixOf q = true) (hq : q.all f = true) : p.all f = true := by
  obtain ⟨r, rfl⟩ := List.isPrefixOf_iff_prefix.1 h
  rw [List.all_append, Bool.and_eq_true] at hq
  exact hq.1

theorem take_run (p : Int → Bool) (l : List UInt8) : l.take (rn p l 0) = l.takeWhile fun c => p (nb c) := by
  unfold rn
  rw [List.drop_zero, Nat.zero_add]
  exact (List.prefix_iff_eq_take.1 (List.takeWhile_prefix _)).symm
theorem run_run (p : Int → Bool) (l : List UInt8) : ((l.take (rn p l 0)).all fun c => p (nb c)) = true := by
  rw [take_run]; exact List.all_takeWhile

theorem ft_bk {x : List UInt8} (hb : bk (nb (x.headD 0)) = true) : ft x = (1, rn bk x 0) := by unfold ft; rw [if_pos hb]
theorem ft_sl {x : List UInt8} (hb : ¬ bk (nb (x.headD 0)) = true) (hs : x.headD 0 = 47) : ft x = sl x := by unfold ft; rw [if_neg hb, if_pos hs]
theorem ft_wo {x : List UInt8} (hb : ¬ bk (nb (x.headD 0)) = true) (hs : ¬ x.headD 0 = 47) (hl : lf (nb (x.headD 0)) = true) : ft x = wo x := by unfold ft; rw [if_neg hb, if_neg hs, if_pos hl]
theorem ft_mk {x : List UInt8} (hb : ¬ bk (nb (x.headD 0)) = true) (hs : ¬ x.headD 0 = 47) (hl : ¬ lf (nb (x.headD 0)) = true) : ft x = mk x := by unfold ft; rw [if_neg hb, if_neg hs, if_neg hl]

/-- a real token alone is one of its kind -/
theorem ft_alone {x : List UInt8} (hx : x ≠ []) (h3 : 2 < (ft x).1) (h7 : (ft x).1 ≠ 7) : ft (x.take (ft x).2) = ft x := by
  obtain ⟨c, r, rfl⟩ := List.exists_cons_of_ne_nil hx
  have hz := ft_size hx
  by_cases hb : bk (nb c) = true
  · have : ft (c :: r) = (1, rn bk (c :: r) 0) := by unfold ft; rw [List.headD_cons, if_pos hb]
    rw [this] at h3; simp at h3
  · by_cases hs : c = 47
    · have : ft (c :: r) = sl (c :: r) := by unfold ft; rw [List.headD_cons, if_neg hb, if_pos hs]
      rw [this] at h3 h7
      unfold sl at h3 h7
      exfalso
      split at h3
      · simp at h3
      · split at h3
        · split at h3
          · rename_i a b d; rw [if_neg a, if_pos b, if_pos d] at h7; exact h7 rfl
          · simp at h3
        · rename_i a b; rw [if_neg a, if_neg b] at h7; exact h7 rfl
    · have hd : ∀ z, 1 ≤ z → ((c :: r).take z).headD 0 = c := fun z hz => by
        obtain ⟨z, rfl⟩ : ∃ y, z = y + 1 := ⟨z - 1, by omega⟩
        rfl
      by_cases hl : lf (nb c) = true
      · have e : ft (c :: r) = wo (c :: r) := by unfold ft; rw [List.headD_cons, if_neg hb, if_neg hs, if_pos hl]
        have e2 : ft ((c :: r).take (ft (c :: r)).2) = wo ((c :: r).take (ft (c :: r)).2) := by
          exact ft_wo (by rw [hd _ hz.1]; exact hb) (by rw [hd _ hz.1]; exact hs) (by rw [hd _ hz.1]; exact hl)
        rw [e2, e]
        unfold wo
        by_cases hp : pr.isPrefixOf (c :: r) = true ∧ lfAt (c :: r) 18 = false
        · rw [if_pos hp]
          obtain ⟨q, hq⟩ := List.isPrefixOf_iff_prefix.1 hp.1
          have : (c :: r).take 18 = pr := by rw [← hq, show (18 : Nat) = pr.length from rfl]; exact List.take_left
          rw [this]
          rfl
        · rw [if_neg hp]
          dsimp only
          have hr := run_run lf (c :: r)
          generalize hy : (c :: r).take (rn lf (c :: r) 0) = y at hr
          have hle := rn_le lf (c :: r) 0 (Nat.zero_le _)
          have hyl : y.length = rn lf (c :: r) 0 := by rw [← hy, List.length_take]; omega
          have hn : ¬ (pr.isPrefixOf y = true ∧ lfAt y 18 = false) := fun h => by
            have := all_pre h.1 hr
            rw [pr_not_lf] at this; cases this
          have hry : rn lf y 0 = y.length := of_decide_eq_true ((rn_all lf y).trans hr)
          rw [if_neg hn, hry, List.take_length, hyl]
      · have e : ft (c :: r) = mk (c :: r) := by unfold ft; rw [List.headD_cons, if_neg hb, if_neg hs, if_neg hl]
        have e2 : ft ((c :: r).take (ft (c :: r)).2) = mk ((c :: r).take (ft (c :: r)).2) := by
          exact ft_mk (by rw [hd _ hz.1]; exact hb) (by rw [hd _ hz.1]; exact hs) (by rw [hd _ hz.1]; exact hl)
        rw [e2, e]
        rw [e] at h7
        by_cases ha : [38, 38].isPrefixOf (c :: r) = true
        · have e3 : mk (c :: r) = (6, 2) := by unfold mk; rw [if_pos ha]
          obtain ⟨q, hq⟩ := List.isPrefixOf_iff_prefix.1 ha
          rw [e3, show (c :: r).take 2 = [38, 38] from by rw [← hq]; rfl]
          rfl
        · by_cases hc : sg.contains c = true
          · have e3 : mk (c :: r) = (6, 1) := by unfold mk; rw [if_neg ha, List.headD_cons, if_pos hc]
            rw [e3]
            show mk [c] = (6, 1)
            unfold mk
            rw [if_neg (by simp), List.headD_cons, if_pos hc]
          · exfalso
            apply h7
            unfold mk
            rw [if_neg ha, List.headD_cons, if_neg hc]

/-- each token is the first one of what follows it -/
theorem tk_mem {l : List UInt8} : ∀ (m at_ : Nat), l.length - at_ ≤ m → ∀ t ∈ tk l at_, t.a < l.length ∧ t.k = (ft (l.drop t.a)).1 ∧ t.z = t.a + (ft (l.drop t.a)).2 := by
  intro m
  induction m with
  | zero => intro at_ h t ht; rw [tk_end (by omega)] at ht; cases ht
  | succ m ih =>
    intro at_ h t ht
    by_cases hl : at_ < l.length
    · have hz := ft_size (l := l.drop at_) (by intro e; have := congrArg List.length e; simp at this; omega)
      rw [tk_step hl] at ht
      rcases List.mem_cons.1 ht with rfl | ht
      · exact ⟨hl, rfl, rfl⟩
      · exact ih _ (by omega) t ht
    · rw [tk_end (by omega)] at ht; cases ht

end Go.Proofs.YthggchkpejhaiaaGreatDoor
