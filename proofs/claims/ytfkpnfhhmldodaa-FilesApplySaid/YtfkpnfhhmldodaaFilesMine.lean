/- own: patches of their own memory. -/
import Derived.Test.YtfkpnfhhmldodaaFilesInvert
namespace Go.Proofs.Ytfkpnfhhmldodaa
open Go.RowKit EditMath FilesMath

/-- a whole slice of edits appended to an empty row of the call's own, in a drawn region -/
theorem step_append_eds {ops : Array Oper} {o : Oper} {a : Act} {K : Act → World → Prop} {Q : Exit → Act → World → Prop} {E : Prop} (hgd : o.guard = none) (s x : Operand)
    (ho : o.op = .call { callee := .builtin .append, args := #[s, x], argTypes := #[22, 22] }) (W : World) (base : Nat) (A : Option Addr) (c : Nat) (B : Nat) (A2 : Option Addr) (c2 : Nat) (l : List Ed)
    (hs : a.eval s = .slice A 0 c) (hx : a.eval x = .slice A2 l.length c2) (hown : Own W base A c []) (hr : Eds W B A2 l) (hnil : A2 = none → c2 = 0) (hn : l.length ≤ 20000) (hbase : base ≤ W.heap.size)
    (h : ∀ A' c' w', Own w' base A' c' l → W.grownBy w' (Value.slice A 0 c).ownBlock → K (a.put o.dst (.slice A' l.length c')) w') :
    if Region.wanted o (yielded ops a.tmps) = true then Oper.wp Try.prog o a W K Q else E := by
  have hw : Region.wanted o (yielded ops a.tmps) = true := by simp [Region.wanted, hgd]
  rw [if_pos hw]
  obtain ⟨i0, hi, hz0, hz1, hz2⟩ := info_parts info_edit
  cases A2 with
  | none =>
    have hl : l = [] := by
      cases l with
      | nil => rfl
      | cons e l => obtain ⟨b, off, hA, _⟩ := hr (by simp); cases hA
    subst hl
    have hc := hnil rfl
    subst hc
    have hrun := run_append_owned_none (P := Try.prog) (w := W) base 22 o.type 87 i0 3 Try.underlying22 hi _ _ _ hown
    unfold Oper.wp execOp
    simp only [ho, resolve, invoke, builtin, Sem.run_bind, Sem.run_pure, Result.andThen_ok, List.map_toArray, List.map_cons, List.map_nil, hs, hx]
    simp only [List.length_nil] at hrun ⊢
    rw [hrun]
    exact h A c W hown (World.grownBy.refl _ _)
  | some ad =>
    obtain ⟨v', w', hrun, h2, h3, _⟩ := run_append_own (P := Try.prog) W base 22 o.type 87 i0 _ 3 32 Try.underlying22 hi hz0 hz1 hz2 rfl (by decide) _ _ _ hown ad l.length c2 (ecells l) (ecells_length l) (eds_cells hr) (ecells_one l) (by unfold maxLen; simp; omega) (by simp; omega) hbase
    unfold Oper.wp execOp
    simp only [ho, resolve, invoke, builtin, Sem.run_bind, Sem.run_pure, Result.andThen_ok, List.map_toArray, List.map_cons, List.map_nil, hs, hx]
    simp only [List.length_nil] at hrun
    rw [hrun]
    have he : ecells [] ++ ecells l = ecells l := by simp [ecells]
    rw [he] at h2
    obtain ⟨A', c', rfl, _, ho'⟩ := own_form h2
    exact h A' c' w' ho' h3

theorem Own.made (w : World) (base : Nat) (h : base ≤ w.heap.size) : Own (w.alloc (.cells #[] 87)) base (some ⟨w.heap.size, 0, none⟩) 0 [] := World.ownsRow_made w #[] 0 h (by unfold maxLen; omega) rfl
/-- the same patches, in new memory -/
def MineV (m : List Pt) (w : World) (e : Ending) (w' : World) : Prop :=
  ∃ (A : Option Addr) (c : Nat) (M : List Pt), e = .returned (.slice A M.length c) ∧ Pts w' w'.heap.size A M ∧ M.length ≤ c ∧ (A = none → c = 0) ∧ M.map pd = m.map pd ∧ Below w.heap.size w w'

theorem PRow.made (w : World) (base : Nat) (h : base ≤ w.heap.size) : PRow (w.alloc (.cells #[] 122)) base (some ⟨w.heap.size, 0, none⟩) 0 [] := ⟨OwnP.made w base h, fun i p h => by simp at h⟩

set_option maxRecDepth 100000 in
set_option maxHeartbeats 4000000 in
theorem own4_any (A2 : Option Addr) (c2 : Nat) (m : List Pt) (w : World) (hlm : m.length ≤ 30) (hpl : ∀ (i : Nat) (p : Pt), m[i]? = some p → p.l.length ≤ 10000) (hr2 : Pts w w.heap.size A2 m) :
    Calls Try.prog 39 #[.slice A2 m.length c2] w (MineV m w) := by
  have HPL := Lib.hid hpl
  have HPR := Lib.hid hr2
  clear hpl hr2
  go_enter Try.func39, Try.ntmps39
  go_wp2
  go_loopw [3, 5, 9] (fun v _ i wr => ∃ (k : Nat) (A' : Option Addr) (c' : Nat) (M : List Pt), k ≤ m.length ∧ i = .int .i64 (k : Int) ∧ v = .slice A' M.length c' ∧ Below w.heap.size w wr ∧ PRow wr w.heap.size A' c' M ∧ M.length ≤ k ∧ Hid (M.map pd = (m.take k).map pd)) (fun _ _ i _ => m.length - (intOf i).toNat)
  case atStart => exact ⟨0, some ⟨w.heap.size, 0, none⟩, 0, [], Nat.zero_le _, rfl, rfl, below1 _ _, PRow.made w _ (Nat.le_refl _), Nat.le_refl _, Lib.hid rfl⟩
  case round =>
    obtain ⟨k, A', c', M, hk, rfl, rfl, hB, hown, hML, HMD⟩ := hrel
    by_cases hlt : k < m.length
    · have he : m[k]? = some m[k] := List.getElem?_eq_getElem hlt
      generalize m[k] = p at he
      obtain ⟨pn, pA, pc, pl⟩ := p
      have hpl := HPL.out k _ he
      obtain ⟨b, off, rfl, hb, c0, c1, hE, hcap, hnp⟩ := (HPR.out.below hB).at_ he
      simp only at c0 c1 hE hcap hnp hpl
      have z0 : (0 : Int) ≤ k := by omega
      have z1 : (k : Int) < m.length := by omega
      have hbs := hB.size
      have HST : Hid ((m.take (k + 1)).map pd = (m.take k).map pd ++ [(pn, pl)]) := Lib.hid (by rw [ptake_snoc he, List.map_append]; rfl)
      have HLT : Hid (∀ k', (Value.slice A' M.length c').ownBlock = some k' → k' < wr.heap.size) := Lib.hid (fun k' h => (hown.1.lt k' h).2)
      have HOW := Lib.hid hown
      have HEW : Hid (Eds (((wr.alloc (.cells #[.string pn, .slice pA pl.length pc] 122)).alloc (.cells #[] 87)).drew) wr.heap.size pA pl) := Lib.hid (((hE.more hbs).alloc (Nat.le_refl _) _).alloc (by simp) _)
      have HNP := Lib.hid hnp
      have HMD2 : Hid (Own (((wr.alloc (.cells #[.string pn, .slice pA pl.length pc] 122)).alloc (.cells #[] 87)).drew) (wr.heap.size + 1) (some ⟨wr.heap.size + 1, 0, none⟩) 0 []) := Lib.hid (by
        have := Own.made (wr.alloc (.cells #[.string pn, .slice pA pl.length pc] 122)) (wr.heap.size + 1) (by simp)
        rw [show ((wr.alloc (.cells #[.string pn, .slice pA pl.length pc] 122))).heap.size = wr.heap.size + 1 by simp] at this
        exact this)
      have hx0 : (wr.alloc (.cells #[.string pn, .slice pA pl.length pc] 122)).heap[wr.heap.size]? = some (.cells #[.string pn, .slice pA pl.length pc] 122 (0, 0)) := heap_alloc_new wr _
      have x0 : (wr.alloc (.cells #[.string pn, .slice pA pl.length pc] 122)).cell? ⟨wr.heap.size, 0, none⟩ = some (.string pn) := by rw [Lib.cell_of_heap hx0]; rfl
      have x1 : (wr.alloc (.cells #[.string pn, .slice pA pl.length pc] 122)).cell? ⟨wr.heap.size, 1, none⟩ = some (.slice pA pl.length pc) := by rw [Lib.cell_of_heap hx0]; rfl
      have hS : ((wr.alloc (.cells #[.string pn, .slice pA pl.length pc] 122))).drew.cell? ⟨wr.heap.size, 0, none⟩ = some (.string pn) ∧ ((wr.alloc (.cells #[.string pn, .slice pA pl.length pc] 122))).drew.cell? ⟨wr.heap.size, 1, none⟩ = some (.slice pA pl.length pc) := ⟨x0, x1⟩
      clear he hE hown hnp hx0
      go_wp2
      refine wp_region_held (S := fun w' => w'.cell? ⟨wr.heap.size, 0, none⟩ = some (.string pn) ∧ w'.cell? ⟨wr.heap.size, 1, none⟩ = some (.slice pA pl.length pc)) (by kernel_rfl) ?_
      show wpAnyH _ _ _ _ _ _ _ _ (wr.alloc (.cells #[.string pn, .slice pA pl.length pc] 122)).drew
      refine wpAnyH_take_d (i := 0) (v := .slice A' M.length c') 13 rfl rfl (by kernel_rfl) (by kernel_rfl) (by kernel_rfl) (fun _ _ _ h => h) (Or.inl ⟨by kernel_rfl, fun w' hS' => ?y0⟩) hS ?_
      case y0 => (obtain ⟨q0, q1⟩ := hS'; go_simp)
      simp only [Act.put, List.setIfInBounds_toArray, List.set_cons_zero, List.set_cons_succ]
      refine wpAnyH_take_d (i := 1) (v := .pointer (some ⟨wr.heap.size, 0, none⟩)) 14 rfl rfl (by kernel_rfl) (by kernel_rfl) (by kernel_rfl) (fun _ _ _ h => h) (Or.inl ⟨by kernel_rfl, fun w' hS' => ?y1⟩) hS ?_
      case y1 => (obtain ⟨q0, q1⟩ := hS'; go_simp)
      simp only [Act.put, List.setIfInBounds_toArray, List.set_cons_zero, List.set_cons_succ]
      refine wpAnyH_take_d (i := 2) (v := .string pn) 15 rfl rfl (by kernel_rfl) (by kernel_rfl) (by kernel_rfl) (fun _ _ _ h => h) (Or.inl ⟨by kernel_rfl, fun w' hS' => ?y2⟩) hS ?_
      case y2 => (obtain ⟨q0, q1⟩ := hS'; go_simp)
      simp only [Act.put, List.setIfInBounds_toArray, List.set_cons_zero, List.set_cons_succ]
      refine wpAnyH_take_d (i := 4) (v := .pointer (some ⟨wr.heap.size, 1, none⟩)) 17 rfl rfl (by kernel_rfl) (by kernel_rfl) (by kernel_rfl) (fun _ _ _ h => h) (Or.inl ⟨by kernel_rfl, fun w' hS' => ?y4⟩) hS ?_
      case y4 => (obtain ⟨q0, q1⟩ := hS'; go_simp)
      simp only [Act.put, List.setIfInBounds_toArray, List.set_cons_zero, List.set_cons_succ]
      refine wpAnyH_take_d (i := 5) (v := .slice pA pl.length pc) 18 rfl rfl (by kernel_rfl) (by kernel_rfl) (by kernel_rfl) (fun _ _ _ h => h) (Or.inl ⟨by kernel_rfl, fun w' hS' => ?y5⟩) hS ?_
      case y5 => (obtain ⟨q0, q1⟩ := hS'; go_simp)
      simp only [Act.put, List.setIfInBounds_toArray, List.set_cons_zero, List.set_cons_succ]
      refine wpAnyH_ready (rs := [3]) (by kernel_rfl) (by simp) ?_
      refine AllReadyH.cons rfl (fun K hK => ?_) AllReadyH.nil
      go_simp
      have hS1 : (fun w'' : World => w''.cell? ⟨wr.heap.size, 0, none⟩ = some (.string pn) ∧ w''.cell? ⟨wr.heap.size, 1, none⟩ = some (.slice pA pl.length pc)) (((wr.alloc (.cells #[.string pn, .slice pA pl.length pc] 122)).alloc (.cells #[] 87)).drew) := ⟨(World.cell?_alloc_lt _ _ _ (by simp)).trans x0, (World.cell?_alloc_lt _ _ _ (by simp)).trans x1⟩
      refine hK.out _ _ hS1 (fun _ => ?_)
      clear hK K
      try simp only [Act.put, List.setIfInBounds_toArray, List.set_cons_zero, List.set_cons_succ]
      refine wpAnyH_ready (rs := [6]) (by kernel_rfl) (by simp) ?_
      refine AllReadyH.cons rfl (fun K hK => ?_) AllReadyH.nil
      refine step_append_eds (by rfl) _ _ (by rfl) (((wr.alloc (.cells #[.string pn, .slice pA pl.length pc] 122)).alloc (.cells #[] 87)).drew) (wr.heap.size + 1) (some ⟨wr.heap.size + 1, 0, none⟩) 0 wr.heap.size pA pc pl (by rfl) (by rfl) HMD2.out HEW.out HNP.out (by omega) (by simp) ?_
      intro A5 c5 w5 hown5 hgrow5
      have hne5 : ∀ o, w5.cell? ⟨wr.heap.size, o, none⟩ = ((wr.alloc (.cells #[.string pn, .slice pA pl.length pc] 122)).alloc (.cells #[] 87)).cell? ⟨wr.heap.size, o, none⟩ := fun o => hgrow5.cell_far ⟨wr.heap.size, o, none⟩ (by simp; omega) (by intro h; simp [Value.ownBlock] at h)
      have hS5 : (fun w'' : World => w''.cell? ⟨wr.heap.size, 0, none⟩ = some (.string pn) ∧ w''.cell? ⟨wr.heap.size, 1, none⟩ = some (.slice pA pl.length pc)) w5 := ⟨(hne5 0).trans hS1.1, (hne5 1).trans hS1.2⟩
      refine hK.out _ _ hS5 (fun _ => ?_)
      clear hK K
      try simp only [Act.put, List.setIfInBounds_toArray, List.set_cons_zero, List.set_cons_succ]
      refine wpAnyH_take_d (i := 7) (v := .agg #[.string pn, .slice A5 pl.length c5]) 20 rfl rfl (by kernel_rfl) (by kernel_rfl) (by kernel_rfl) (fun _ _ _ h => h) (Or.inl ⟨by kernel_rfl, fun w' hS' => ?y7⟩) hS5 ?_
      case y7 => (obtain ⟨q0, q1⟩ := hS'; go_simp)
      simp only [Act.put, List.setIfInBounds_toArray, List.set_cons_zero, List.set_cons_succ]
      refine wpAnyH_ready (rs := [8]) (by kernel_rfl) (by simp) ?_
      refine AllReadyH.cons rfl (fun K hK => ?_) AllReadyH.nil
      go_simp
      have hb58 : wr.heap.size < w5.heap.size := Nat.lt_of_lt_of_le (by simp; omega) hgrow5.size
      have hS8 : (fun w'' : World => w''.cell? ⟨wr.heap.size, 0, none⟩ = some (.string pn) ∧ w''.cell? ⟨wr.heap.size, 1, none⟩ = some (.slice pA pl.length pc)) (w5.alloc (.cells #[.string pn, .slice A5 pl.length c5] 122)) := ⟨(World.cell?_alloc_lt _ _ _ hb58).trans hS5.1, (World.cell?_alloc_lt _ _ _ hb58).trans hS5.2⟩
      refine hK.out _ _ hS8 (fun _ => ?_)
      clear hK K
      try simp only [Act.put, List.setIfInBounds_toArray, List.set_cons_zero, List.set_cons_succ]
      refine wpAnyH_ready (rs := [9]) (by kernel_rfl) (by simp) ?_
      refine AllReadyH.cons rfl (fun K hK => ?_) AllReadyH.nil
      have hB56 : Below wr.heap.size wr w5 := Below.grown (⟨rfl, rfl, rfl, by simp; omega, fun i hi => (Below.heap_alloc _ _ _ (by simp; omega)).trans (Below.heap_alloc _ _ _ hi)⟩ : Below wr.heap.size wr (((wr.alloc (.cells #[.string pn, .slice pA pl.length pc] 122)).alloc (.cells #[] 87)).drew)) hgrow5 (by simp; omega) (fun k h => by simp [Value.ownBlock] at h; omega)
      have hO5 := (HOW.out.below hB56)
      refine step_append_OwnP (by rfl) _ _ (by rfl) (w5.alloc (.cells #[.string pn, .slice A5 pl.length c5] 122)) w.heap.size A' c' M ⟨pn, A5, c5, pl⟩ w5.heap.size (by rfl) (by rfl) (by exact heap_alloc_new _ _) (hO5.1.alloc _) (by omega) (by have := hB.size; simp; omega) ?_
      intro A6 c6 w6 hown6 hgrow6 hat6
      have hne6 : ∀ o, w6.cell? ⟨wr.heap.size, o, none⟩ = (w5.alloc (.cells #[.string pn, .slice A5 pl.length c5] 122)).cell? ⟨wr.heap.size, o, none⟩ := fun o => hgrow6.cell_far ⟨wr.heap.size, o, none⟩ (by simp; omega) (fun h => Nat.lt_irrefl _ (HLT.out _ h.symm))
      have hS6 : (fun w'' : World => w''.cell? ⟨wr.heap.size, 0, none⟩ = some (.string pn) ∧ w''.cell? ⟨wr.heap.size, 1, none⟩ = some (.slice pA pl.length pc)) w6 := ⟨(hne6 0).trans hS8.1, (hne6 1).trans hS8.2⟩
      refine hK.out _ _ hS6 (fun _ => ?_)
      clear hK K
      try simp only [Act.put, List.setIfInBounds_toArray, List.set_cons_zero, List.set_cons_succ]
      refine wpAnyH_take_d (i := 10) (v := .slice A6 (M ++ [(⟨pn, A5, c5, pl⟩ : Pt)]).length c6) 3 rfl rfl (by kernel_rfl) (by kernel_rfl) (by kernel_rfl) (fun _ _ _ h => h) (Or.inl ⟨by kernel_rfl, fun w' hS' => ?y10⟩) hS6 ?_
      case y10 => (obtain ⟨q0, q1⟩ := hS'; go_simp)
      simp only [Act.put, List.setIfInBounds_toArray, List.set_cons_zero, List.set_cons_succ]
      refine wpAnyH_done (by kernel_rfl) ?_ _
      obtain ⟨k1, k2, k3⟩ := hown5.capN
      have hrow6 := (hO5.below (below1 w5 (.cells #[.string pn, .slice A5 pl.length c5] 122))).grown (p := ⟨pn, A5, c5, pl⟩) ⟨hown5.eds.after (below1 _ _), k1, k2⟩
        (fun _ ad had => ⟨fun h => by have := HLT.out _ h; have := (k3 ad had).1; omega, by have := (k3 ad had).2; simp; omega⟩) hown6 hgrow6 hat6
      have hBB := hB.trans (hB56.mono hB.size)
      have hB6 : Below w.heap.size w w6 := (hO5.1.alloc _).belowApp (hBB.trans ((below1 w5 _).mono hBB.size)) hgrow6 (Nat.le_refl _) (by have := hBB.size; simp; omega)
      have HO6 := Lib.hid hrow6
      clear hrow6 hown6 hgrow6 hat6 hS hS1 hS5 hS8 hS6 hown5 hgrow5 hne5 hne6 hO5 hB56 hBB k1 k2 k3 x0 x1 c0 c1 HOW
      go_wp2
      go_roundw
      case rel => exact ⟨k + 1, A6, c6, _, by omega, by go_num, by simp, hB6, HO6.out, by simp; omega, Lib.hid (by rw [HST.out, ← HMD.out, List.map_append]; rfl)⟩
      case measure => simp [intOf]; omega
    · obtain rfl : k = m.length := by omega
      have HPT2 := Lib.hid hown
      clear hown
      go_wp2
      go_ret
      refine ⟨A', c', M, rfl, HPT2.out.pts, HPT2.out.1.cap.1, HPT2.out.1.cap.2, ?_, hB⟩
      rw [HMD.out, List.take_length]
end Go.Proofs.Ytfkpnfhhmldodaa
