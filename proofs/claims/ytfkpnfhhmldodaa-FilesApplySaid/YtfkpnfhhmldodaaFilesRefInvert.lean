/- Invert, as the document has it: the patches that lead back. -/
import Derived.Test.YtfkpnfhhmldodaaFilesInvert
import Derived.Test.YtfkpnfhhmldodaaEditRefInvert
import Derived.Test.YtfkpnfhhmldodaaEditRefMerge
namespace Go.Proofs.Ytfkpnfhhmldodaa
open Go.RowKit EditMath FilesMath

/-- a slice of patches that reads as this plain list, with a number -/
def PatI (L : List PD) (n : Int) (w : World) (e : Ending) (w' : World) : Prop :=
  ∃ (A : Option Addr) (c : Nat) (m : List Pt), e = .returned (.tuple #[.slice A m.length c, .int .i64 n]) ∧ Pts w' w'.heap.size A m ∧ m.map pd = L ∧ Below w.heap.size w w'

set_option maxRecDepth 100000 in
set_option maxHeartbeats 4000000 in
theorem refInvert4_any (A A2 : Option Addr) (c c2 : Nat) (l : List Fl) (m : List Pt) (w : World) (hl : l.length ≤ 30) (hnil : A = none → c = 0) (ht : tot l ≤ 50000) (hlm : m.length ≤ 30) (hpt : ptot m ≤ 50000) (hpl : ∀ (i : Nat) (p : Pt), m[i]? = some p → p.l.length ≤ 10000)
    (hr : Fls w w.heap.size A l) (hr2 : Pts w w.heap.size A2 m) :
    Calls Try.prog 43 #[.slice A l.length c, .slice A2 m.length c2] w (PatI (invL l (m.map pd)) (pbad l (m.map pd)) w) := by
  have HPA := Lib.hid (refApply4_any A A2 c c2 l m w hl hnil ht hlm hpt hpl hr hr2)
  by_cases hb : pbad l (m.map pd) = 0
  · obtain ⟨hR, h0, hnb⟩ := pbad_zero hb
    have hok := (prun_ok (l := l) (P := m.map pd) m.length (by simp) (by rw [List.take_of_length_le (by simp)]; exact h0))
    rw [List.take_of_length_le (by simp)] at hok
    unfold invL
    rw [hb, if_pos rfl]
    rw [hb] at HPA
    have HNB := Lib.hid hnb
    have HRG := Lib.hid (rgt_iff.1 hR)
    clear hb hR h0 hnb
    unfold Pbig at HNB
    generalize (prun l (m.map pd)).2 = nums at *
    obtain ⟨hnl, hok⟩ := hok
    have HNL := Lib.hid hnl
    have HOK := Lib.hid hok
    have HPL := Lib.hid hpl
    have HPT := Lib.hid (fun (i : Nat) (p : Pt) (h : m[i]? = some p) => Int.le_trans (ptot_at h) hpt)
    have HFR := Lib.hid hr
    have HPR := Lib.hid hr2
    clear hnl hok hpl hpt hr hr2
    go_enter Try.func43, Try.ntmps43
    go_wp2_with fail
    refine HPA.out.mono ?_
    rintro e w1 ⟨A1, c1, rfl, hN1, hb1⟩
    clear hN1 HPA
    go_wp2
    go_loopw [8, 9, 10, 11, 12] (fun v i _ _ _ wr => ∃ (j : Nat) (A' : Option Addr) (c' : Nat) (M : List Pt), j ≤ m.length ∧ i = .int .i64 (j : Int) ∧ v = .slice A' M.length c' ∧ Below w.heap.size w wr ∧ PRow wr w.heap.size A' c' M ∧ M.length ≤ j ∧ Hid (M.map pd = ((m.map pd).take j).map (bkP l))) (fun _ i _ _ _ _ => m.length - (intOf i).toNat)
    case atStart => exact ⟨0, none, 0, [], Nat.zero_le _, rfl, rfl, hb1, PRow.nil _ _, Nat.le_refl _, Lib.hid rfl⟩
    case round =>
      obtain ⟨j, A', c', M, hj, rfl, rfl, hB, hown, hML, HMD⟩ := hrel
      by_cases hlt : j < m.length
      · have he : m[j]? = some m[j] := List.getElem?_eq_getElem hlt
        generalize m[j] = p at he
        obtain ⟨pn, pA, pc, pl⟩ := p
        obtain ⟨q, hq, hplc, hrt⟩ := HOK.out j _ hlt (map_at he)
        simp only at hplc hrt
        have hql := plc_lt hplc
        obtain ⟨f, hf⟩ : ∃ f, l[q]? = some f := ⟨_, List.getElem?_eq_getElem hql⟩
        have hnb : ¬ pbig l q (pn, pl) := fun h => HNB.out ⟨j, q, _, hq, map_at he, h⟩
        unfold pbig at hnb
        rw [tsz_at hf] at hrt hnb
        have hfs := (HRG.out.2.2 q f hf).2.1
        have hpx := HPT.out j _ he
        have hpl := HPL.out j _ he
        simp only at hpx hpl hnb
        have htn := tx_nonneg pl
        obtain ⟨b, off, rfl, hb, c0, c1', hE, hcap, _⟩ := (HPR.out.below hB).at_ he
        obtain ⟨bb, off2, rfl, hbb, g0, g1⟩ := (HFR.out.below hB).at_ hf
        simp only at c0 c1' hE hcap
        have HPC := Lib.hid (place_any (some ⟨bb, off2, none⟩) c l pn wr hl (HFR.out.after hB))
        rw [plcI_hit hplc] at HPC
        have HMG := Lib.hid (fun W h => refMerge_N pA pc pl f.t.size hrt (by omega) W (by omega) h)
        have hbad : bad f.t (mg pl) = 0 := by unfold bad; rw [if_pos (rt_mg hrt), gr_mg f.t hrt, if_neg (by omega)]
        have HIV := Lib.hid (fun A4 c4 W h4 h => refInvert_okN f.t A4 c4 (mg pl) hbad (by have := tx_mg pl; omega) W (Nat.le_trans (mg_length pl) hpl) h4 h)
        rw [nodup_plain f.t (mg_plain hrt)] at HIV
        simp only [if_true] at HIV
        have HIE : Hid (iv f.t 0 (mg pl) = bkL f.t pl) := Lib.hid rfl
        rw [HIE.out] at HIV
        generalize mg pl = ml at *
        have HE := Lib.hid (hE.more hB.size)
        have HST := Lib.hid (bkP_take (l := l) (map_at he))
        have HTX := Lib.hid (txtOf_at hplc hf)
        have HO := Lib.hid hown
        clear he hf hq hplc hrt hE hnb hown hbad HIE
        have z0 : (0 : Int) ≤ j := by omega
        have z1 : (j : Int) < m.length := by omega
        have z2 : (0 : Int) ≤ q := by omega
        have z3 : (q : Int) < l.length := by omega
        have hbs := hB.size
        go_wp2_with fail
        refine HPC.out.mono ?_
        rintro r w3 ⟨rfl, rfl⟩
        go_wp2_with fail
        refine (HMG.out _ HE.out).mono ?_
        rintro r w4 ⟨A4, c4, rfl, hE4, hb4, hc4⟩
        go_wp2_with fail
        refine (HIV.out A4 c4 w4 hc4 hE4).mono ?_
        rintro r w5 ⟨A5, c5, rfl, hE5, hb5, k1, k2, k3⟩
        have hb45 : Below wr.heap.size wr w5 := hb4.trans (hb5.mono hb4.size)
        have hB5 : Below w.heap.size w w5 := hB.trans (hb45.mono hB.size)
        have HO5 := Lib.hid (HO.out.below hb45)
        have HE5 := Lib.hid hE5
        have n5 : w5.cell? ⟨b, off + j * 2, none⟩ = some (.string pn) := (hb45.cell (p := ⟨b, off + j * 2, none⟩) (by simp; omega)).trans c0
        have h45 : wr.heap.size ≤ w5.heap.size := hb45.size
        have h44 : wr.heap.size ≤ w4.heap.size := hb4.size
        have HLT : Hid (∀ k', (Value.slice A' M.length c').ownBlock = some k' → k' < wr.heap.size) := Lib.hid (fun k' h => (HO.out.1.lt k' h).2)
        clear hE4 hE5 HE HO g0 g1 c0 c1' HPC HMG HIV hb4 hb5 hc4
        go_wp2_with (at_builtin; refine wpList_append_OwnP (by rfl) _ _ (by rfl) (w5.alloc (.cells #[.string pn, .slice A5 (bkL f.t pl).length c5] 122)) w.heap.size A' c' M ⟨pn, A5, c5, bkL f.t pl⟩ w5.heap.size (by rfl) (by rfl) (by exact heap_alloc_new _ _) (HO5.out.1.alloc _) (by omega) (by have := hB5.size; simp; omega) ?_; intro A6 c6 w6 hown6 hgrow hat6)
        have hrow6 := (HO5.out.below (below1 w5 (.cells #[.string pn, .slice A5 (bkL f.t pl).length c5] 122))).grown (p := ⟨pn, A5, c5, bkL f.t pl⟩) ⟨HE5.out.after (below1 _ _), k1, k2⟩
          (fun _ ad had => ⟨fun h => by have := HLT.out _ h; have := (k3 ad had).1; omega, by have := (k3 ad had).2; simp; omega⟩) hown6 hgrow hat6
        have hB6 : Below w.heap.size w w6 := (HO5.out.1.alloc _).belowApp (hB5.trans ((below1 w5 _).mono hB5.size)) hgrow (Nat.le_refl _) (by have := hB5.size; simp; omega)
        have HO6 := Lib.hid hrow6
        clear hrow6 hown6 hgrow hat6
        go_roundw
        case rel => exact ⟨j + 1, A6, c6, _, by omega, by go_num, by simp, hB6, HO6.out, by simp; omega, Lib.hid (by rw [HST.out, ← HMD.out, List.map_append]; simp [pd, bkP, HTX.out])⟩
        case measure => simp [intOf]; omega
      · obtain rfl : j = m.length := by omega
        have HPT2 := Lib.hid hown
        clear hown
        go_wp2
        go_ret2
        refine ⟨A', c', M, rfl, HPT2.out.pts, ?_, hB⟩
        rw [HMD.out, List.take_of_length_le (by simp)]
  · unfold invL
    rw [if_neg hb]
    have hne : (pbad l (m.map pd) != 0) = true := by rw [bne_iff_ne]; exact hb
    generalize pbad l (m.map pd) = n at *
    clear hb
    go_enter Try.func43, Try.ntmps43
    go_wp2_with fail
    refine HPA.out.mono ?_
    rintro e w1 ⟨A1, c1, rfl, hN1, hb1⟩
    clear hN1
    go_wp2
    go_ret2
    exact ⟨none, 0, [], rfl, Pts.none_, rfl, hb1⟩
end Go.Proofs.Ytfkpnfhhmldodaa
