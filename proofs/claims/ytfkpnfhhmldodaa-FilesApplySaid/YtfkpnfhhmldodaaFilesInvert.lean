/- files.Invert: the patches that lead back, in new memory. -/
import Derived.Test.YtfkpnfhhmldodaaFilesPatches
import Derived.Test.YtfkpnfhhmldodaaFilesBackMath
import Derived.Test.YtfkpnfhhmldodaaFilesDiffs
import Derived.Test.YtfkpnfhhmldodaaEditInvert
import Derived.Test.YtfkpnfhhmldodaaEditMergeWalk
namespace Go.Proofs.Ytfkpnfhhmldodaa
open Go.RowKit EditMath FilesMath

/-- the text of the file of that name -/
def txtOf (l : List Fl) (n : ByteArray) : ByteArray := match plc l n with | some q => (match l[q]? with | some f => f.t | none => ⟨#[]⟩) | none => ⟨#[]⟩
theorem txtOf_at {l : List Fl} {n : ByteArray} {q : Nat} {f : Fl} (h : plc l n = some q) (hf : l[q]? = some f) : txtOf l n = f.t := by unfold txtOf; rw [h]; simp only; rw [hf]
/-- a patch back -/
def bkP (l : List Fl) (p : PD) : PD := (p.1, bkL (txtOf l p.1) p.2)
/-- what Invert answers -/
noncomputable def invL (l : List Fl) (P : List PD) : List PD := if pbad l P = 0 then P.map (bkP l) else []

set_option maxHeartbeats 800000 in
theorem plainBack_ok (s : ByteArray) (A : Option Addr) (c : Nat) (l : List Ed) (hb : rt l (s.size : Int) = true) (hg : (s.size : Int) + gr l ≤ 65536) (htx : (s.size : Int) + tx l ≤ 70000) (w : World) (hl : l.length ≤ 10000) (hc : l.length ≤ c) (hr : Eds w w.heap.size A l) :
    Calls Try.prog 76 #[.string s, .slice A l.length c] w (ListN (bkL s l) .nilIface w) := by
  have HM := Lib.hid (merge_ok A c l s.size hb (by have := tx_nonneg l; omega) w hl hc hr)
  have hb2 : bad s (mg l) = 0 := by unfold bad; rw [if_pos (rt_mg hb), gr_mg s hb, if_neg (by omega)]
  have hnd := nodup_plain s (mg_plain hb)
  have HI := Lib.hid (fun A1 c1 W => invert_okN s A1 c1 (mg l) hb2 (by have := tx_mg l; omega) W (Nat.le_trans (mg_length l) hl))
  rw [hnd] at HI
  simp only [if_true] at HI
  have HE : Hid (iv s 0 (mg l) = bkL s l) := Lib.hid rfl
  rw [HE.out] at HI
  generalize bkL s l = bk at *
  generalize mg l = ml at *
  clear hb2 hnd hb hg htx hr HE
  go_enter Try.func76, Try.ntmps76
  go_wp2_with fail
  refine HM.out.mono ?_
  rintro e w1 ⟨A1, c1, rfl, hE1, hb1⟩
  have HC := Lib.hid (HI.out A1 c1 w1 hE1)
  clear HI HM hE1
  go_wp2_with fail
  refine HC.out.mono ?_
  rintro e w2 ⟨A2, c2, rfl, hE2, hb2, k1, k2, k3⟩
  go_wp2
  go_ret2
  exact ⟨A2, c2, rfl, hE2, hb1.trans (hb2.mono hb1.size), k1, k2, fun a ha => ⟨Nat.le_trans hb1.size (k3 a ha).1, (k3 a ha).2⟩⟩

theorem bkP_take {l : List Fl} {P : List PD} {k : Nat} {p : PD} (h : P[k]? = some p) : (P.take (k + 1)).map (bkP l) = (P.take k).map (bkP l) ++ [bkP l p] := by
  rw [List.take_add_one, h]; simp

set_option maxRecDepth 100000 in
set_option maxHeartbeats 4000000 in
theorem invert4_any (A A2 : Option Addr) (c c2 : Nat) (l : List Fl) (m : List Pt) (w : World) (hl : l.length ≤ 30) (hc : l.length ≤ c) (ht : tot l ≤ 50000) (hlm : m.length ≤ 30) (hpt : ptot m ≤ 50000) (hpl : ∀ (i : Nat) (p : Pt), m[i]? = some p → p.l.length ≤ 10000)
    (hr : Fls w w.heap.size A l) (hr2 : Pts w w.heap.size A2 m) :
    Calls Try.prog 42 #[.slice A l.length c, .slice A2 m.length c2] w (PatV (invL l (m.map pd)) (pbad l (m.map pd)) w) := by
  have HPA := Lib.hid (patched_any A A2 c c2 l m w hl hc ht hlm hpt hpl hr hr2)
  by_cases hb : pbad l (m.map pd) = 0
  · obtain ⟨hR, h0, hnb⟩ := pbad_zero hb
    have hok := (prun_ok (l := l) (P := m.map pd) m.length (by simp) (by rw [List.take_of_length_le (by simp)]; exact h0))
    rw [List.take_of_length_le (by simp)] at hok
    unfold invL
    rw [hb, if_pos rfl]
    rw [hb, if_pos rfl] at HPA
    have HNB := Lib.hid hnb
    have HRG := Lib.hid (rgt_iff.1 hR)
    clear hb hR h0 hnb
    unfold Pbig at HNB
    generalize (prun l (m.map pd)).2 = nums at *
    obtain ⟨hnl, hok⟩ := hok
    have hnle : nums.length ≤ 30 := by omega
    have HNL := Lib.hid hnl
    have HOK := Lib.hid hok
    have HPL := Lib.hid hpl
    have HPT := Lib.hid (fun (i : Nat) (p : Pt) (h : m[i]? = some p) => Int.le_trans (ptot_at h) hpt)
    have HFR := Lib.hid hr
    have HPR := Lib.hid hr2
    clear hnl hok hpl hpt hr hr2
    go_enter Try.func42, Try.ntmps42
    go_wp2_with fail
    refine HPA.out.mono ?_
    rintro e w1 ⟨A1, c1, rfl, hN1, hb1⟩
    rw [show er 0 = Value.nilIface from rfl]
    have HNT := Lib.hid hN1
    have HFR1 := Lib.hid (HFR.out.after hb1)
    have HPR1 := Lib.hid (HPR.out.after hb1)
    clear hN1 HPA HFR HPR
    go_wp2
    go_loopw [8, 9, 10, 11, 12, 24] (fun v _ _ _ _ i wr => ∃ (j : Nat) (A' : Option Addr) (c' : Nat) (M : List Pt), j ≤ nums.length ∧ i = .int .i64 (j : Int) ∧ v = .slice A' M.length c' ∧ Below w1.heap.size w1 wr ∧ PRow wr w1.heap.size A' c' M ∧ M.length ≤ j ∧ Hid (M.map pd = ((m.map pd).take j).map (bkP l))) (fun _ _ _ _ _ i _ => nums.length - (intOf i).toNat)
    case atStart => exact ⟨0, none, 0, [], Nat.zero_le _, rfl, rfl, Below.refl _ _, PRow.nil _ _, Nat.le_refl _, Lib.hid rfl⟩
    case round =>
      obtain ⟨j, A', c', M, hj, rfl, rfl, hB, hown, hML, HMD⟩ := hrel
      by_cases hlt : j < nums.length
      · have hn : nums[j]? = some nums[j] := List.getElem?_eq_getElem hlt
        generalize nums[j] = q at hn
        have hjm : j < m.length := by have := HNL.out; omega
        have he : m[j]? = some m[j] := List.getElem?_eq_getElem hjm
        generalize m[j] = p at he
        obtain ⟨pn, pA, pc, pl⟩ := p
        obtain ⟨q', hq', hplc, hrt⟩ := HOK.out j _ hjm (map_at he)
        rw [hn] at hq'
        injection hq' with hq'
        subst hq'
        simp only at hplc hrt
        have hql := plc_lt hplc
        obtain ⟨f, hf⟩ : ∃ f, l[q]? = some f := ⟨_, List.getElem?_eq_getElem hql⟩
        have hnb : ¬ pbig l q (pn, pl) := fun h => HNB.out ⟨j, q, _, hn, map_at he, h⟩
        unfold pbig at hnb
        rw [tsz_at hf] at hrt hnb
        have hfs := (HRG.out.2.2 q f hf).2.1
        have hpx := HPT.out j _ he
        have hpl := HPL.out j _ he
        simp only at hpx hpl hnb
        obtain ⟨f', hf', hfn⟩ := plc_some hplc
        rw [hf] at hf'
        injection hf' with hf'
        subst hf'
        obtain ⟨b, off, rfl, hb, c0, c1', hE, hcap, _⟩ := (HPR1.out.below hB).at_ he
        obtain ⟨bb, off2, rfl, hbb, g0, g1⟩ := (HFR1.out.below hB).at_ hf
        obtain ⟨b3, off3, rfl, hb3, n0⟩ := (HNT.out.below hB).at_ hn
        simp only at c0 c1' hE hcap
        have HPB := fun (W : World) h => Lib.hid (plainBack_ok f.t pA pc pl hrt (by omega) (by omega) W (by omega) hcap h)
        have HE := Lib.hid (hE.more hB.size)
        have HST := Lib.hid (bkP_take (l := l) (map_at he))
        have HTX := Lib.hid (txtOf_at hplc hf)
        have HFN := Lib.hid hfn
        have HO := Lib.hid hown
        clear hn he hf hplc hrt hE hnb hfn hown
        have z0 : (0 : Int) ≤ j := by omega
        have z1 : (j : Int) < m.length := by omega
        have z2 : (0 : Int) ≤ q := by omega
        have z3 : (q : Int) < l.length := by omega
        have z4 : (j : Int) < nums.length := by omega
        have hdr : Below wr.heap.size wr wr.drew := ⟨rfl, rfl, rfl, Nat.le_refl _, fun _ _ => rfl⟩
        have hS : wr.drew.cell? ⟨bb, off2 + q * 2 + 1, none⟩ = some (.string f.t) ∧ wr.drew.cell? ⟨b, off + j * 2 + 1, none⟩ = some (.slice pA pl.length pc) := ⟨g1, c1'⟩
        have hbs := hB.size
        go_wp2
        refine wp_region_held (S := fun w' => w'.cell? ⟨bb, off2 + q * 2 + 1, none⟩ = some (.string f.t) ∧ w'.cell? ⟨b, off + j * 2 + 1, none⟩ = some (.slice pA pl.length pc)) (by kernel_rfl) ?_
        show wpAnyH _ _ _ _ _ _ _ _ wr.drew
        refine wpAnyH_take_d (i := 0) (v := .slice (some ⟨bb, off2, none⟩) l.length c) 30 rfl rfl (by kernel_rfl) (by kernel_rfl) (by kernel_rfl) (fun _ _ _ h => h) (Or.inl ⟨by kernel_rfl, fun w' hS' => ?y0⟩) hS ?_
        case y0 => (obtain ⟨q0, q1⟩ := hS'; go_simp)
        simp only [Act.put, List.setIfInBounds_toArray, List.set_cons_zero, List.set_cons_succ]
        refine wpAnyH_take_d (i := 1) (v := .int .i64 (q : Int)) 31 rfl rfl (by kernel_rfl) (by kernel_rfl) (by kernel_rfl) (fun _ _ _ h => h) (Or.inl ⟨by kernel_rfl, fun w' hS' => ?y1⟩) hS ?_
        case y1 => (obtain ⟨q0, q1⟩ := hS'; go_simp)
        simp only [Act.put, List.setIfInBounds_toArray, List.set_cons_zero, List.set_cons_succ]
        refine wpAnyH_take_d (i := 2) (v := .pointer (some ⟨bb, off2 + q * 2, none⟩)) 32 rfl rfl (by kernel_rfl) (by kernel_rfl) (by kernel_rfl) (fun _ _ _ h => h) (Or.inl ⟨by kernel_rfl, fun w' hS' => ?y2⟩) hS ?_
        case y2 => (obtain ⟨q0, q1⟩ := hS'; go_simp)
        simp only [Act.put, List.setIfInBounds_toArray, List.set_cons_zero, List.set_cons_succ]
        refine wpAnyH_take_d (i := 3) (v := .pointer (some ⟨bb, off2 + q * 2 + 1, none⟩)) 33 rfl rfl (by kernel_rfl) (by kernel_rfl) (by kernel_rfl) (fun _ _ _ h => h) (Or.inl ⟨by kernel_rfl, fun w' hS' => ?y3⟩) hS ?_
        case y3 => (obtain ⟨q0, q1⟩ := hS'; go_simp)
        simp only [Act.put, List.setIfInBounds_toArray, List.set_cons_zero, List.set_cons_succ]
        refine wpAnyH_take_d (i := 4) (v := .string f.t) 34 rfl rfl (by kernel_rfl) (by kernel_rfl) (by kernel_rfl) (fun _ _ _ h => h) (Or.inl ⟨by kernel_rfl, fun w' hS' => ?y4⟩) hS ?_
        case y4 => (obtain ⟨q0, q1⟩ := hS'; go_simp)
        simp only [Act.put, List.setIfInBounds_toArray, List.set_cons_zero, List.set_cons_succ]
        refine wpAnyH_take_d (i := 5) (v := .slice (some ⟨b, off, none⟩) m.length c2) 35 rfl rfl (by kernel_rfl) (by kernel_rfl) (by kernel_rfl) (fun _ _ _ h => h) (Or.inl ⟨by kernel_rfl, fun w' hS' => ?y5⟩) hS ?_
        case y5 => (obtain ⟨q0, q1⟩ := hS'; go_simp)
        simp only [Act.put, List.setIfInBounds_toArray, List.set_cons_zero, List.set_cons_succ]
        refine wpAnyH_take_d (i := 6) (v := .int .i64 (j : Int)) 36 rfl rfl (by kernel_rfl) (by kernel_rfl) (by kernel_rfl) (fun _ _ _ h => h) (Or.inl ⟨by kernel_rfl, fun w' hS' => ?y6⟩) hS ?_
        case y6 => (obtain ⟨q0, q1⟩ := hS'; go_simp)
        simp only [Act.put, List.setIfInBounds_toArray, List.set_cons_zero, List.set_cons_succ]
        refine wpAnyH_take_d (i := 7) (v := .pointer (some ⟨b, off + j * 2, none⟩)) 37 rfl rfl (by kernel_rfl) (by kernel_rfl) (by kernel_rfl) (fun _ _ _ h => h) (Or.inl ⟨by kernel_rfl, fun w' hS' => ?y7⟩) hS ?_
        case y7 => (obtain ⟨q0, q1⟩ := hS'; go_simp)
        simp only [Act.put, List.setIfInBounds_toArray, List.set_cons_zero, List.set_cons_succ]
        refine wpAnyH_take_d (i := 8) (v := .pointer (some ⟨b, off + j * 2 + 1, none⟩)) 38 rfl rfl (by kernel_rfl) (by kernel_rfl) (by kernel_rfl) (fun _ _ _ h => h) (Or.inl ⟨by kernel_rfl, fun w' hS' => ?y8⟩) hS ?_
        case y8 => (obtain ⟨q0, q1⟩ := hS'; go_simp)
        simp only [Act.put, List.setIfInBounds_toArray, List.set_cons_zero, List.set_cons_succ]
        refine wpAnyH_take_d (i := 9) (v := .slice pA pl.length pc) 39 rfl rfl (by kernel_rfl) (by kernel_rfl) (by kernel_rfl) (fun _ _ _ h => h) (Or.inl ⟨by kernel_rfl, fun w' hS' => ?y9⟩) hS ?_
        case y9 => (obtain ⟨q0, q1⟩ := hS'; go_simp)
        simp only [Act.put, List.setIfInBounds_toArray, List.set_cons_zero, List.set_cons_succ]
        refine wpAnyH_ready (rs := [10]) (by kernel_rfl) (by simp) ?_
        refine AllReadyH.cons rfl (fun K hK => ?_) AllReadyH.nil
        go_simp
        refine (HPB _ (HE.out.after hdr)).out.mono ?_
        rintro r w4 ⟨A4, c4, rfl, hE4, hb4, k1, k2, k3⟩
        have hb4' : Below wr.heap.size wr w4 := hdr.trans hb4
        have hS4 : (fun w'' : World => w''.cell? ⟨bb, off2 + q * 2 + 1, none⟩ = some (.string f.t) ∧ w''.cell? ⟨b, off + j * 2 + 1, none⟩ = some (.slice pA pl.length pc)) w4 := ⟨(hb4'.cell (p := ⟨bb, off2 + q * 2 + 1, none⟩) (by simp; omega)).trans g1, (hb4'.cell (p := ⟨b, off + j * 2 + 1, none⟩) (by simp; omega)).trans c1'⟩
        refine hK.out _ _ hS4 (fun _ => ?_)
        clear hK K
        try simp only [Act.put, List.setIfInBounds_toArray, List.set_cons_zero, List.set_cons_succ]
        refine wpAnyH_take_d (i := 11) (v := .tuple #[.slice A4 (bkL f.t pl).length c4, .nilIface]) 29 rfl rfl (by kernel_rfl) (by kernel_rfl) (by kernel_rfl) (fun _ _ _ h => h) (Or.inl ⟨by kernel_rfl, fun w' hS' => ?y11⟩) hS4 ?_
        case y11 => (obtain ⟨q0, q1⟩ := hS'; go_simp)
        simp only [Act.put, List.setIfInBounds_toArray, List.set_cons_zero, List.set_cons_succ]
        refine wpAnyH_take_d (i := 12) (v := .slice A4 (bkL f.t pl).length c4) 41 rfl rfl (by kernel_rfl) (by kernel_rfl) (by kernel_rfl) (fun _ _ _ h => h) (Or.inl ⟨by kernel_rfl, fun w' hS' => ?y12⟩) hS4 ?_
        case y12 => (obtain ⟨q0, q1⟩ := hS'; go_simp)
        simp only [Act.put, List.setIfInBounds_toArray, List.set_cons_zero, List.set_cons_succ]
        refine wpAnyH_take_d (i := 13) (v := .nilIface) 42 rfl rfl (by kernel_rfl) (by kernel_rfl) (by kernel_rfl) (fun _ _ _ h => h) (Or.inl ⟨by kernel_rfl, fun w' hS' => ?y13⟩) hS4 ?_
        case y13 => (obtain ⟨q0, q1⟩ := hS'; go_simp)
        simp only [Act.put, List.setIfInBounds_toArray, List.set_cons_zero, List.set_cons_succ]
        refine wpAnyH_take_d (i := 14) (v := .slice A4 (bkL f.t pl).length c4) 11 rfl rfl (by kernel_rfl) (by kernel_rfl) (by kernel_rfl) (fun _ _ _ h => h) (Or.inl ⟨by kernel_rfl, fun w' hS' => ?y14⟩) hS4 ?_
        case y14 => (obtain ⟨q0, q1⟩ := hS'; go_simp)
        simp only [Act.put, List.setIfInBounds_toArray, List.set_cons_zero, List.set_cons_succ]
        refine wpAnyH_take_d (i := 15) (v := .nilIface) 12 rfl rfl (by kernel_rfl) (by kernel_rfl) (by kernel_rfl) (fun _ _ _ h => h) (Or.inl ⟨by kernel_rfl, fun w' hS' => ?y15⟩) hS4 ?_
        case y15 => (obtain ⟨q0, q1⟩ := hS'; go_simp)
        simp only [Act.put, List.setIfInBounds_toArray, List.set_cons_zero, List.set_cons_succ]
        refine wpAnyH_done (by kernel_rfl) ?_ _
        have hB4 : Below w1.heap.size w1 w4 := hB.trans (hb4'.mono hB.size)
        have HO4 := Lib.hid (HO.out.below hb4')
        have HE4 := Lib.hid hE4
        have n4 : w4.cell? ⟨bb, off2 + q * 2, none⟩ = some (.string f.n) := (hb4'.cell (p := ⟨bb, off2 + q * 2, none⟩) (by simp; omega)).trans g0
        have h4s : wr.heap.size ≤ w4.heap.size := hb4'.size
        have HLT : Hid (∀ k', (Value.slice A' M.length c').ownBlock = some k' → k' < wr.heap.size) := Lib.hid (fun k' h => (HO.out.1.lt k' h).2)
        clear hS hS4 hE4 HE HO g0 g1 c0 c1' n0 HPB
        go_wp2_with (at_builtin; refine wpList_append_OwnP (by rfl) _ _ (by rfl) (w4.alloc (.cells #[.string f.n, .slice A4 (bkL f.t pl).length c4] 122)) w1.heap.size A' c' M ⟨f.n, A4, c4, bkL f.t pl⟩ w4.heap.size (by rfl) (by rfl) (by exact heap_alloc_new _ _) (HO4.out.1.alloc _) (by omega) (by have := hB4.size; simp; omega) ?_; intro A6 c6 w6 hown6 hgrow hat6)
        have hrow6 := (HO4.out.below (below1 w4 (.cells #[.string f.n, .slice A4 (bkL f.t pl).length c4] 122))).grown (p := ⟨f.n, A4, c4, bkL f.t pl⟩) ⟨HE4.out.after (below1 _ _), k1, k2⟩
          (fun _ ad had => ⟨fun h => by have := HLT.out _ h; have := (k3 ad had).1; simp at this; omega, by have := (k3 ad had).2; simp; omega⟩) hown6 hgrow hat6
        have hB6 : Below w1.heap.size w1 w6 := (HO4.out.1.alloc _).belowApp (hB4.trans ((below1 w4 _).mono hB4.size)) hgrow (Nat.le_refl _) (by have := hB4.size; simp; omega)
        have HO6 := Lib.hid hrow6
        clear hrow6 hown6 hgrow hat6
        go_roundw
        case rel => exact ⟨j + 1, A6, c6, _, by omega, by go_num, by simp, hB6, HO6.out, by simp; omega, Lib.hid (by rw [HST.out, ← HMD.out, List.map_append]; simp [pd, bkP, HTX.out, HFN.out])⟩
        case measure => simp [intOf]; omega
      · obtain rfl : j = nums.length := by omega
        have hmn := HNL.out
        have HPT2 := Lib.hid hown
        clear hown
        go_wp2
        go_ret2
        refine ⟨A', c', M, rfl, HPT2.out.pts, HPT2.out.1.cap.1, HPT2.out.1.cap.2, ?_, hb1.trans (hB.mono hb1.size)⟩
        rw [HMD.out, List.take_of_length_le (by simp; omega)]
  · unfold invL
    rw [if_neg hb]
    rw [if_neg hb] at HPA
    have hne : pbad l (m.map pd) ≠ 0 := hb
    generalize pbad l (m.map pd) = n at *
    have hen : er n = errn n := by unfold er; rw [if_neg hne]
    clear hb
    unfold PchV at HPA
    rw [hen] at HPA
    go_enter Try.func42, Try.ntmps42
    go_wp2_with fail
    refine HPA.out.mono ?_
    rintro e w1 ⟨A1, c1, rfl, hN1, hb1⟩
    go_wp2
    go_ret2
    exact ⟨none, 0, [], by rw [hen]; rfl, Pts.none_, Nat.zero_le _, (fun _ => rfl), rfl, hb1⟩
end Go.Proofs.Ytfkpnfhhmldodaa
