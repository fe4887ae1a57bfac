/- The law TreeTexts, walked: it returns true at any tree and any place. -/
import Derived.Test.YtjnclchbklehgaaTreeAlive
import Derived.Test.YtjnclchbklehgaaTreeDoc
import Derived.Test.YtjnclchbklehgaaTreeRefAsk
import Derived.Test.YtjnclchbklehgaaTreeCount
import Derived.Test.YtjnclchbklehgaaTreeSpan
namespace Go.Proofs.Ytjnclchbklehgaa
open Go.RowKit TreeMath

/-- the program's way to reckon where leaves stand, and the document's -/
theorem stb_rsb (p : Int) (hp : rng p) : ∀ (l : List Tr) (q : Int), (∀ x ∈ l, rng x.a) → 0 ≤ q → q + (tx l).size ≤ 300000 → stb (wrap64 (p + q)) l = rsb p q l := by
  intro l
  induction l with
  | nil => intro q _ _ _; rfl
  | cons x xs ih =>
    intro q hr h0 hs
    rw [tx] at hs
    simp only [ByteArray.size_append] at hs
    have hx := hr x (by simp)
    unfold rng at hx hp
    have e1 : wrap64 (wrap64 (p + q) + x.g.size) = wrap64 (p + (q + x.g.size)) := by unfold wrap64; omega
    have e2 : wrap64 (wrap64 (p + (q + x.g.size)) + x.t.size) = wrap64 (p + (q + x.g.size + x.t.size)) := by unfold wrap64; omega
    rw [stb, rsb, e1, e2, ih _ (fun y hy => hr y (by simp [hy])) (by omega) (by omega)]
    congr 1
    rw [Bool.eq_iff_iff, decide_eq_true_eq, decide_eq_true_eq]
    unfold wrap64
    omega
theorem stands_same {T U : Tr} (h : pl T = pl U) (p : Int) (hp : rng p) (hw : wt T ≤ 5000) (hr : ∀ x ∈ lf T, rng x.a) : stb p (lf T) = rsb p 0 (lf U) := by
  have hU : wt U ≤ 5000 := by rw [← (same_of h).2.2.1]; exact hw
  have hle := tx_le U
  have hr2 : ∀ x ∈ lf U, rng x.a := fun x hx => by
    have h1 : pl x ∈ (lf T).map pl := by rw [(same_of h).2.2.2.2]; exact List.mem_map.2 ⟨x, hx, rfl⟩
    obtain ⟨y, hy, he⟩ := List.mem_map.1 h1
    rw [pl_eq, pl_eq x] at he
    simp only [Tr.mk.injEq] at he
    rw [← he.2.2.2.1]
    exact hr y hy
  have h1 := stb_rsb p hp (lf U) 0 hr2 (Int.le_refl _) (by omega)
  have h2 : wrap64 (p + 0) = p := by unfold rng at hp; unfold wrap64; omega
  rw [h2] at h1
  rw [← h1, ← stb_pl, (same_of h).2.2.2.2, stb_pl]
theorem sp_pl (l : List Tr) : spf (l.map pl) = spf l ∧ spt (l.map pl) = spt l ∧ spo (l.map pl) = spo l := by
  refine ⟨?_, ?_, ?_⟩
  · unfold spf; cases l with | nil => rfl | cons x xs => simp [pl_eq]
  · unfold spt; rw [List.getLast?_map]; cases l.getLast? with | none => rfl | some x => simp [pl_eq]
  · unfold spo; cases l <;> rfl
theorem sp_same {T U : Tr} (h : pl T = pl U) : spf (lf T) = spf (lf U) ∧ spt (lf T) = spt (lf U) ∧ spo (lf T) = spo (lf U) := by
  obtain ⟨a1, a2, a3⟩ := sp_pl (lf T)
  obtain ⟨b1, b2, b3⟩ := sp_pl (lf U)
  rw [(same_of h).2.2.2.2] at a1 a2 a3
  exact ⟨by rw [← a1, b1], by rw [← a2, b2], by rw [← a3, b3]⟩

abbrev ubx (U : Tr) : Obj := .cells (ncc U) 29 (0, 0)
/-- the tree's box and the document's are there -/
def KW (w w2 : World) (T U : Tr) (W : World) : Prop := Below (w.alloc (nbx T)).heap.size (w.alloc (nbx T)) W ∧ Below (w2.alloc (ubx U)).heap.size (w2.alloc (ubx U)) W
theorem KW.step {w w2 W W' : World} {T U : Tr} (h : KW w w2 T U W) (hb : Below W.heap.size W W') : KW w w2 T U W' := ⟨h.1.trans (hb.mono h.1.size), h.2.trans (hb.mono h.2.size)⟩
theorem KW.low {w w2 W : World} {T U : Tr} (h : KW w w2 T U W) : Below w.heap.size w W := (below1 w _).trans (h.1.mono (by simp))
theorem KW.tn {w w2 W : World} {T U : Tr} (h : KW w w2 T U W) (hT : Tn (lo w.heap.size) w T) : Tn (lo W.heap.size) W T := (hT.below h.low).more h.low.size
theorem KW.un {w w2 W : World} {T U : Tr} (h : KW w w2 T U W) (hU : Tn (lo w2.heap.size) w2 U) : Tn (lo W.heap.size) W U := by
  have hb : Below w2.heap.size w2 W := (below1 w2 _).trans (h.2.mono (by simp))
  exact (hU.below hb).more hb.size

set_option maxRecDepth 100000 in
set_option maxHeartbeats 4000000 in
theorem treeTexts_walk (T : Tr) (p : Int) (w : World) (hp : rng p) (hz : Szd T) (hT : Tn (lo w.heap.size) w T) :
    Calls Try.prog 3 #[nv T, .int .i64 p] w fun e w' => e = .returned (.bool true) ∧ Below w.heap.size w w' := by
  have HT := Lib.hid hT
  have HZ := Lib.hid hz
  have HP := Lib.hid hp
  have HB0 := Lib.hid (below1 w (nbx T))
  clear hT hz hp
  go_enter Try.func3, Try.ntmps3
  go_wp2_with fail
  refine (alive_any _).mono ?_
  rintro e w1 ⟨rfl, hb1⟩
  have hc1 := box5 hb1
  have HB1 := Lib.hid (HB0.out.trans (hb1.mono (by simp)))
  have hT1 := (HT.out.below HB1.out).more HB1.out.size
  have HD := Lib.hid (doc_any T 2000 w1 (by omega) (by omega) HZ.out hT1)
  have HBX := Lib.hid hb1
  clear hb1 hT1
  go_wp2_with fail
  refine HD.out.mono ?_
  rintro r w2 ⟨U, l, rfl, hb2, hU, l1, l2, l3, l4⟩
  have L3 := Lib.hid l3
  have L4 := Lib.hid l4
  have HBX2 := Lib.hid (HBX.out.trans (hb2.mono HBX.out.size))
  have HB2 := Lib.hid (HB1.out.trans (hb2.mono HB1.out.size))
  have HU := Lib.hid hU
  clear l3 l4 hb2 hU hc1
  have hc2 := box5 HBX2.out
  by_cases hl : l < 0
  · go_wp2_with fail
    go_ret
    exact ⟨rfl, HB2.out.trans ((below1 w2 _).mono HB2.out.size)⟩
  · have hl0 : 0 ≤ l := by omega
    have hwt : (wt T : Int) ≤ 2000 := by
      by_cases h : (wt T : Int) ≤ 2000
      · exact h
      · have := L4.out (by omega); omega
    have hpl := (L3.out hwt).2
    have hwT : wt T ≤ 5000 := by omega
    have hsm := same_of hpl
    have hwU : wt U ≤ 5000 := by rw [hsm.2.2.1]; exact hwT
    have hra : ∀ x ∈ lf T, rng x.a := fun x hx => (HT.out.node x (List.mem_filter.1 hx).1).rng
    have hk3 : KW w w2 T U (w2.alloc (ubx U)) := ⟨HBX2.out.trans ((below1 w2 _).mono HBX2.out.size), Below.refl _ _⟩
    have HKB : Hid (∀ W, KW w w2 T U W → Below w.heap.size w W) := Lib.hid fun W h => h.low
    have hUa := HU.out.all
    have hst := stands_same hpl.symm p HP.out hwT hra
    obtain ⟨hf1, hf2, hf3⟩ := sp_same hpl.symm
    obtain ⟨F, hF⟩ : ∃ F, spf (lf T) = F := ⟨_, rfl⟩
    obtain ⟨E, hE⟩ : ∃ E, spt (lf T) = E := ⟨_, rfl⟩
    obtain ⟨O, hO⟩ : ∃ O, spo (lf T) = O := ⟨_, rfl⟩
    obtain ⟨Y, hY⟩ : ∃ Y, tx (lf T) = Y := ⟨_, rfl⟩
    obtain ⟨B, hBB⟩ : ∃ B, stb p (lf T) = B := ⟨_, rfl⟩
    obtain ⟨n, hn⟩ : ∃ n, cn T = n := ⟨_, rfl⟩
    have CR := Lib.hid (fun W (h : KW w w2 T U W) => right_any T W (h.tn HT.out) hwT)
    have CT := Lib.hid (fun W (h : KW w w2 T U W) => text_any T W (h.tn HT.out) hwT)
    have CS := Lib.hid (fun W (h : KW w w2 T U W) => stands_any T p W (h.tn HT.out) hwT)
    have CC := Lib.hid (fun W (h : KW w w2 T U W) => count_any T W (h.tn HT.out) hwT)
    have CSP := Lib.hid (fun W (h : KW w w2 T U W) => span_any T W (h.tn HT.out) hwT)
    have CRR := Lib.hid (fun W (h : KW w w2 T U W) => rright_any U W (h.un hUa) hwU)
    have CTR := Lib.hid (fun W (h : KW w w2 T U W) => rtext_any U W (h.un hUa) hwU)
    have CSR := Lib.hid (fun W (h : KW w w2 T U W) => rstands_any U p W (h.un hUa) hwU)
    have CSPR := Lib.hid (fun W (h : KW w w2 T U W) => rspan_any U W (h.un hUa) hwU)
    have CW : Hid (∀ W, KW w w2 T U W → Calls Try.prog 18 #[nv U, .int .i64 0, .slice none 0 0] W fun e w' => ∃ A c, e = .returned (.slice A n c) ∧ Below W.heap.size W w') := Lib.hid fun W h => by
      have hcn : cn U ≤ 5000 := Nat.le_trans (cn_wt U) hwU
      refine (rwalk_any W.heap.size U 0 [] (.slice none 0 0) W (Nat.zero_le _) hwU (by simp; omega) (Nat.le_refl _) (h.un hUa) (World.ownsRow_nil _ _ _ _)).mono ?_
      rintro e w' ⟨v', rfl, hr, hg⟩
      obtain ⟨A, c, rfl, _⟩ := hr.form
      refine ⟨A, c, ?_, ⟨hg.grown.os, hg.grown.tape, hg.grown.output, hg.grown.size, fun k hk => hg.grown.block k hk (by simp [Value.ownBlock])⟩⟩
      rw [List.nil_append, wk_length]
      have : (ns U).length = n := by rw [← hn, ← hsm.2.1]; rfl
      rw [this]
    rw [hY] at CT
    rw [hBB] at CS
    rw [hn] at CC
    rw [hF, hE, hO] at CSP
    rw [hsm.2.2.2.1, hY] at CTR
    rw [← hst, hBB] at CSR
    rw [← hf1, ← hf2, ← hf3, hF, hE, hO] at CSPR
    rw [hsm.1] at CRR
    have HHW := Lib.hid hl0
    clear hl hl0 hwt hpl hwT hsm hwU hra hUa hst hf1 hf2 hf3 hF hE hO hY hBB hn L3 L4 HU HT HZ HP HD HB1 HB2 HBX HB0 l1 l2
    cases hrg : rgt T with
    | false =>
      rw [hrg] at CR CT CS CC CSP CRR
      simp only [Bool.false_eq_true, if_false, Bool.false_and] at CT CS CC CSP
      clear hrg hc2 CTR CSR CSPR CW
      have hc3 := box5 hk3.1
      have hd3 := box5 hk3.2
      have hl0 := HHW.out
      go_wp2_with fail
      refine (CSP.out _ hk3).mono ?_
      rintro e w4 ⟨rfl, hb⟩
      have hk4 := hk3.step hb
      have hc4 := box5 hk4.1
      have hd4 := box5 hk4.2
      clear hb
      go_wp2_with fail
      refine (CRR.out _ hk4).mono ?_
      rintro e w5 ⟨rfl, hb⟩
      have hk5 := hk4.step hb
      have hc5 := box5 hk5.1
      have hd5 := box5 hk5.2
      clear hb
      clear hc3 hd3 hc4 hd4
      go_wp2_with fail
      refine (CR.out _ hk5).mono ?_
      rintro e w6 ⟨rfl, hb⟩
      have hk6 := hk5.step hb
      have hc6 := box5 hk6.1
      have hd6 := box5 hk6.2
      clear hb
      go_wp2_with fail
      refine (CT.out _ hk6).mono ?_
      rintro e w7 ⟨rfl, hb⟩
      have hk7 := hk6.step hb
      have hc7 := box5 hk7.1
      have hd7 := box5 hk7.2
      clear hb
      clear hc5 hd5 hc6 hd6
      go_wp2_with fail
      refine (CS.out _ hk7).mono ?_
      rintro e w8 ⟨rfl, hb⟩
      have hk8 := hk7.step hb
      have hc8 := box5 hk8.1
      have hd8 := box5 hk8.2
      clear hb
      go_wp2_with fail
      refine (CC.out _ hk8).mono ?_
      rintro e w9 ⟨rfl, hb⟩
      have hk9 := hk8.step hb
      have hc9 := box5 hk9.1
      have hd9 := box5 hk9.2
      clear hb
      go_wp2
      go_ret
      exact ⟨rfl, HKB.out _ hk9⟩
    | true =>
      rw [hrg] at CR CT CS CC CSP CRR
      simp only [if_true, Bool.true_and] at CT CS CC CSP
      clear hrg
      have hc3 := box5 hk3.1
      have hd3 := box5 hk3.2
      have hl0 := HHW.out
      go_wp2_with fail
      refine (CSP.out _ hk3).mono ?_
      rintro e w4 ⟨rfl, hb⟩
      have hk4 := hk3.step hb
      have hc4 := box5 hk4.1
      have hd4 := box5 hk4.2
      clear hb
      go_wp2_with fail
      refine (CRR.out _ hk4).mono ?_
      rintro e w5 ⟨rfl, hb⟩
      have hk5 := hk4.step hb
      have hc5 := box5 hk5.1
      have hd5 := box5 hk5.2
      clear hb
      clear hc3 hd3 hc4 hd4
      go_wp2_with fail
      refine (CSPR.out _ hk5).mono ?_
      rintro e w6 ⟨rfl, hb⟩
      have hk6 := hk5.step hb
      clear hb hc5 hd5 hc2
      go_wp2_with fail
      rename_i K0 hK0
      refine wp_region_noPanic (wp_region_held (S := KW w w2 T U) (by kernel_rfl) ?_)
      have hk7 : KW w w2 T U w6.drew := ⟨⟨hk6.1.os, hk6.1.tape, hk6.1.output, hk6.1.size, hk6.1.block⟩, ⟨hk6.2.os, hk6.2.tape, hk6.2.output, hk6.2.size, hk6.2.block⟩⟩
      show wpAnyH _ _ _ _ _ _ _ _ w6.drew
      generalize w6.drew = w7 at hk7 ⊢
      refine wpAnyH_take_d (i := 0) (v := nv T) 68 rfl rfl (by kernel_rfl) (by kernel_rfl) (by kernel_rfl) (fun _ _ _ h => h) (Or.inl ⟨by kernel_rfl, fun w' hS' => ?y0⟩) hk7 ?_
      case y0 => (obtain ⟨s0, s1, s2, s3, s4, -⟩ := box5 hS'.1; obtain ⟨u0, u1, u2, u3, u4, -⟩ := box5 hS'.2; clear hS'; go_simp)
      simp only [Act.put, List.setIfInBounds_toArray, List.set_cons_zero, List.set_cons_succ]
      refine wpAnyH_ready (rs := [1]) (by kernel_rfl) (by simp) ?_
      refine AllReadyH.cons rfl (fun K hK => ?_) AllReadyH.nil
      go_simp
      refine (CR.out _ hk7).mono ?_
      rintro e w8 ⟨rfl, hb⟩
      have hk8 := hk7.step hb
      clear hb
      refine hK.out _ _ hk8 (fun _ => ?_)
      clear hK K
      try simp only [Act.put, List.setIfInBounds_toArray, List.set_cons_zero, List.set_cons_succ]
      refine wpAnyH_take_d (i := 2) (v := .bool true) 70 rfl rfl (by kernel_rfl) (by kernel_rfl) (by kernel_rfl) (fun _ _ _ h => h) (Or.inl ⟨by kernel_rfl, fun w' hS' => ?y2⟩) hk8 ?_
      case y2 => (clear hS'; go_simp)
      simp only [Act.put, List.setIfInBounds_toArray, List.set_cons_zero, List.set_cons_succ]
      refine wpAnyH_take_d (i := 3) (v := nv T) 71 rfl rfl (by kernel_rfl) (by kernel_rfl) (by kernel_rfl) (fun _ _ _ h => h) (Or.inl ⟨by kernel_rfl, fun w' hS' => ?y3⟩) hk8 ?_
      case y3 => (obtain ⟨s0, s1, s2, s3, s4, -⟩ := box5 hS'.1; obtain ⟨u0, u1, u2, u3, u4, -⟩ := box5 hS'.2; clear hS'; go_simp)
      simp only [Act.put, List.setIfInBounds_toArray, List.set_cons_zero, List.set_cons_succ]
      refine wpAnyH_take_d (i := 5) (v := nv U) 73 rfl rfl (by kernel_rfl) (by kernel_rfl) (by kernel_rfl) (fun _ _ _ h => h) (Or.inl ⟨by kernel_rfl, fun w' hS' => ?y5⟩) hk8 ?_
      case y5 => (obtain ⟨s0, s1, s2, s3, s4, -⟩ := box5 hS'.1; obtain ⟨u0, u1, u2, u3, u4, -⟩ := box5 hS'.2; clear hS'; go_simp)
      simp only [Act.put, List.setIfInBounds_toArray, List.set_cons_zero, List.set_cons_succ]
      refine wpAnyH_ready (rs := [4]) (by kernel_rfl) (by simp) ?_
      refine AllReadyH.cons rfl (fun K hK => ?_) AllReadyH.nil
      go_simp
      refine (CT.out _ hk8).mono ?_
      rintro e w9 ⟨rfl, hb⟩
      have hk9 := hk8.step hb
      clear hb
      refine hK.out _ _ hk9 (fun _ => ?_)
      clear hK K
      try simp only [Act.put, List.setIfInBounds_toArray, List.set_cons_zero, List.set_cons_succ]
      refine wpAnyH_ready (rs := [6]) (by kernel_rfl) (by simp) ?_
      refine AllReadyH.cons rfl (fun K hK => ?_) AllReadyH.nil
      go_simp
      refine (CTR.out _ hk9).mono ?_
      rintro e w10 ⟨rfl, hb⟩
      have hk10 := hk9.step hb
      clear hb
      refine hK.out _ _ hk10 (fun _ => ?_)
      clear hK K
      try simp only [Act.put, List.setIfInBounds_toArray, List.set_cons_zero, List.set_cons_succ]
      refine wpAnyH_take_d (i := 7) (v := .bool true) 75 rfl rfl (by kernel_rfl) (by kernel_rfl) (by kernel_rfl) (fun _ _ _ h => h) (Or.inl ⟨by kernel_rfl, fun w' hS' => ?y7⟩) hk10 ?_
      case y7 => (clear hS'; go_simp)
      simp only [Act.put, List.setIfInBounds_toArray, List.set_cons_zero, List.set_cons_succ]
      refine wpAnyH_take_d (i := 8) (v := .bool true) 76 rfl rfl (by kernel_rfl) (by kernel_rfl) (by kernel_rfl) (fun _ _ _ h => h) (Or.inl ⟨by kernel_rfl, fun w' hS' => ?y8⟩) hk10 ?_
      case y8 => (clear hS'; go_simp)
      simp only [Act.put, List.setIfInBounds_toArray, List.set_cons_zero, List.set_cons_succ]
      refine wpAnyH_take_d (i := 9) (v := .bool true) 77 rfl rfl (by kernel_rfl) (by kernel_rfl) (by kernel_rfl) (fun _ _ _ h => h) (Or.inl ⟨by kernel_rfl, fun w' hS' => ?y9⟩) hk10 ?_
      case y9 => (clear hS'; go_simp)
      simp only [Act.put, List.setIfInBounds_toArray, List.set_cons_zero, List.set_cons_succ]
      refine wpAnyH_take_d (i := 10) (v := nv T) 78 rfl rfl (by kernel_rfl) (by kernel_rfl) (by kernel_rfl) (fun _ _ _ h => h) (Or.inl ⟨by kernel_rfl, fun w' hS' => ?y10⟩) hk10 ?_
      case y10 => (obtain ⟨s0, s1, s2, s3, s4, -⟩ := box5 hS'.1; obtain ⟨u0, u1, u2, u3, u4, -⟩ := box5 hS'.2; clear hS'; go_simp)
      simp only [Act.put, List.setIfInBounds_toArray, List.set_cons_zero, List.set_cons_succ]
      refine wpAnyH_take_d (i := 11) (v := .int .i64 p) 79 rfl rfl (by kernel_rfl) (by kernel_rfl) (by kernel_rfl) (fun _ _ _ h => h) (Or.inl ⟨by kernel_rfl, fun w' hS' => ?y11⟩) hk10 ?_
      case y11 => (clear hS'; go_simp)
      simp only [Act.put, List.setIfInBounds_toArray, List.set_cons_zero, List.set_cons_succ]
      refine wpAnyH_take_d (i := 13) (v := nv U) 81 rfl rfl (by kernel_rfl) (by kernel_rfl) (by kernel_rfl) (fun _ _ _ h => h) (Or.inl ⟨by kernel_rfl, fun w' hS' => ?y13⟩) hk10 ?_
      case y13 => (obtain ⟨s0, s1, s2, s3, s4, -⟩ := box5 hS'.1; obtain ⟨u0, u1, u2, u3, u4, -⟩ := box5 hS'.2; clear hS'; go_simp)
      simp only [Act.put, List.setIfInBounds_toArray, List.set_cons_zero, List.set_cons_succ]
      refine wpAnyH_take_d (i := 14) (v := .int .i64 p) 82 rfl rfl (by kernel_rfl) (by kernel_rfl) (by kernel_rfl) (fun _ _ _ h => h) (Or.inl ⟨by kernel_rfl, fun w' hS' => ?y14⟩) hk10 ?_
      case y14 => (clear hS'; go_simp)
      simp only [Act.put, List.setIfInBounds_toArray, List.set_cons_zero, List.set_cons_succ]
      refine wpAnyH_ready (rs := [12]) (by kernel_rfl) (by simp) ?_
      refine AllReadyH.cons rfl (fun K hK => ?_) AllReadyH.nil
      go_simp
      refine (CS.out _ hk10).mono ?_
      rintro e w11 ⟨rfl, hb⟩
      have hk11 := hk10.step hb
      clear hb
      refine hK.out _ _ hk11 (fun _ => ?_)
      clear hK K
      try simp only [Act.put, List.setIfInBounds_toArray, List.set_cons_zero, List.set_cons_succ]
      refine wpAnyH_ready (rs := [15]) (by kernel_rfl) (by simp) ?_
      refine AllReadyH.cons rfl (fun K hK => ?_) AllReadyH.nil
      go_simp
      refine (CSR.out _ hk11).mono ?_
      rintro e w12 ⟨rfl, hb⟩
      have hk12 := hk11.step hb
      clear hb
      refine hK.out _ _ hk12 (fun _ => ?_)
      clear hK K
      try simp only [Act.put, List.setIfInBounds_toArray, List.set_cons_zero, List.set_cons_succ]
      refine wpAnyH_take_d (i := 16) (v := .bool true) 84 rfl rfl (by kernel_rfl) (by kernel_rfl) (by kernel_rfl) (fun _ _ _ h => h) (Or.inl ⟨by kernel_rfl, fun w' hS' => ?y16⟩) hk12 ?_
      case y16 => (clear hS'; go_simp)
      simp only [Act.put, List.setIfInBounds_toArray, List.set_cons_zero, List.set_cons_succ]
      refine wpAnyH_take_d (i := 17) (v := .bool true) 85 rfl rfl (by kernel_rfl) (by kernel_rfl) (by kernel_rfl) (fun _ _ _ h => h) (Or.inl ⟨by kernel_rfl, fun w' hS' => ?y17⟩) hk12 ?_
      case y17 => (clear hS'; go_simp)
      simp only [Act.put, List.setIfInBounds_toArray, List.set_cons_zero, List.set_cons_succ]
      refine wpAnyH_take_d (i := 18) (v := .bool true) 86 rfl rfl (by kernel_rfl) (by kernel_rfl) (by kernel_rfl) (fun _ _ _ h => h) (Or.inl ⟨by kernel_rfl, fun w' hS' => ?y18⟩) hk12 ?_
      case y18 => (clear hS'; go_simp)
      simp only [Act.put, List.setIfInBounds_toArray, List.set_cons_zero, List.set_cons_succ]
      refine wpAnyH_take_d (i := 19) (v := .int .i64 F) 87 rfl rfl (by kernel_rfl) (by kernel_rfl) (by kernel_rfl) (fun _ _ _ h => h) (Or.inl ⟨by kernel_rfl, fun w' hS' => ?y19⟩) hk12 ?_
      case y19 => (clear hS'; go_simp)
      simp only [Act.put, List.setIfInBounds_toArray, List.set_cons_zero, List.set_cons_succ]
      refine wpAnyH_take_d (i := 20) (v := .int .i64 F) 88 rfl rfl (by kernel_rfl) (by kernel_rfl) (by kernel_rfl) (fun _ _ _ h => h) (Or.inl ⟨by kernel_rfl, fun w' hS' => ?y20⟩) hk12 ?_
      case y20 => (clear hS'; go_simp)
      simp only [Act.put, List.setIfInBounds_toArray, List.set_cons_zero, List.set_cons_succ]
      refine wpAnyH_take_d (i := 21) (v := .bool true) 89 rfl rfl (by kernel_rfl) (by kernel_rfl) (by kernel_rfl) (fun _ _ _ h => h) (Or.inl ⟨by kernel_rfl, fun w' hS' => ?y21⟩) hk12 ?_
      case y21 => (clear hS'; go_simp)
      simp only [Act.put, List.setIfInBounds_toArray, List.set_cons_zero, List.set_cons_succ]
      refine wpAnyH_take_d (i := 22) (v := .bool true) 90 rfl rfl (by kernel_rfl) (by kernel_rfl) (by kernel_rfl) (fun _ _ _ h => h) (Or.inl ⟨by kernel_rfl, fun w' hS' => ?y22⟩) hk12 ?_
      case y22 => (clear hS'; go_simp)
      simp only [Act.put, List.setIfInBounds_toArray, List.set_cons_zero, List.set_cons_succ]
      refine wpAnyH_take_d (i := 23) (v := .bool true) 91 rfl rfl (by kernel_rfl) (by kernel_rfl) (by kernel_rfl) (fun _ _ _ h => h) (Or.inl ⟨by kernel_rfl, fun w' hS' => ?y23⟩) hk12 ?_
      case y23 => (clear hS'; go_simp)
      simp only [Act.put, List.setIfInBounds_toArray, List.set_cons_zero, List.set_cons_succ]
      refine wpAnyH_take_d (i := 24) (v := .int .i64 E) 92 rfl rfl (by kernel_rfl) (by kernel_rfl) (by kernel_rfl) (fun _ _ _ h => h) (Or.inl ⟨by kernel_rfl, fun w' hS' => ?y24⟩) hk12 ?_
      case y24 => (clear hS'; go_simp)
      simp only [Act.put, List.setIfInBounds_toArray, List.set_cons_zero, List.set_cons_succ]
      refine wpAnyH_take_d (i := 25) (v := .int .i64 E) 93 rfl rfl (by kernel_rfl) (by kernel_rfl) (by kernel_rfl) (fun _ _ _ h => h) (Or.inl ⟨by kernel_rfl, fun w' hS' => ?y25⟩) hk12 ?_
      case y25 => (clear hS'; go_simp)
      simp only [Act.put, List.setIfInBounds_toArray, List.set_cons_zero, List.set_cons_succ]
      refine wpAnyH_take_d (i := 26) (v := .bool true) 94 rfl rfl (by kernel_rfl) (by kernel_rfl) (by kernel_rfl) (fun _ _ _ h => h) (Or.inl ⟨by kernel_rfl, fun w' hS' => ?y26⟩) hk12 ?_
      case y26 => (clear hS'; go_simp)
      simp only [Act.put, List.setIfInBounds_toArray, List.set_cons_zero, List.set_cons_succ]
      refine wpAnyH_take_d (i := 27) (v := .bool true) 95 rfl rfl (by kernel_rfl) (by kernel_rfl) (by kernel_rfl) (fun _ _ _ h => h) (Or.inl ⟨by kernel_rfl, fun w' hS' => ?y27⟩) hk12 ?_
      case y27 => (clear hS'; go_simp)
      simp only [Act.put, List.setIfInBounds_toArray, List.set_cons_zero, List.set_cons_succ]
      refine wpAnyH_take_d (i := 28) (v := .bool true) 96 rfl rfl (by kernel_rfl) (by kernel_rfl) (by kernel_rfl) (fun _ _ _ h => h) (Or.inl ⟨by kernel_rfl, fun w' hS' => ?y28⟩) hk12 ?_
      case y28 => (clear hS'; go_simp)
      simp only [Act.put, List.setIfInBounds_toArray, List.set_cons_zero, List.set_cons_succ]
      refine wpAnyH_take_d (i := 29) (v := .bool O) 97 rfl rfl (by kernel_rfl) (by kernel_rfl) (by kernel_rfl) (fun _ _ _ h => h) (Or.inl ⟨by kernel_rfl, fun w' hS' => ?y29⟩) hk12 ?_
      case y29 => (clear hS'; go_simp)
      simp only [Act.put, List.setIfInBounds_toArray, List.set_cons_zero, List.set_cons_succ]
      refine wpAnyH_take_d (i := 30) (v := .bool O) 98 rfl rfl (by kernel_rfl) (by kernel_rfl) (by kernel_rfl) (fun _ _ _ h => h) (Or.inl ⟨by kernel_rfl, fun w' hS' => ?y30⟩) hk12 ?_
      case y30 => (clear hS'; go_simp)
      simp only [Act.put, List.setIfInBounds_toArray, List.set_cons_zero, List.set_cons_succ]
      refine wpAnyH_take_d (i := 31) (v := .bool true) 99 rfl rfl (by kernel_rfl) (by kernel_rfl) (by kernel_rfl) (fun _ _ _ h => h) (Or.inl ⟨by kernel_rfl, fun w' hS' => ?y31⟩) hk12 ?_
      case y31 => (clear hS'; go_simp)
      simp only [Act.put, List.setIfInBounds_toArray, List.set_cons_zero, List.set_cons_succ]
      refine wpAnyH_take_d (i := 32) (v := .bool true) 100 rfl rfl (by kernel_rfl) (by kernel_rfl) (by kernel_rfl) (fun _ _ _ h => h) (Or.inl ⟨by kernel_rfl, fun w' hS' => ?y32⟩) hk12 ?_
      case y32 => (clear hS'; go_simp)
      simp only [Act.put, List.setIfInBounds_toArray, List.set_cons_zero, List.set_cons_succ]
      refine wpAnyH_take_d (i := 33) (v := .bool true) 101 rfl rfl (by kernel_rfl) (by kernel_rfl) (by kernel_rfl) (fun _ _ _ h => h) (Or.inl ⟨by kernel_rfl, fun w' hS' => ?y33⟩) hk12 ?_
      case y33 => (clear hS'; go_simp)
      simp only [Act.put, List.setIfInBounds_toArray, List.set_cons_zero, List.set_cons_succ]
      refine wpAnyH_take_d (i := 34) (v := nv T) 102 rfl rfl (by kernel_rfl) (by kernel_rfl) (by kernel_rfl) (fun _ _ _ h => h) (Or.inl ⟨by kernel_rfl, fun w' hS' => ?y34⟩) hk12 ?_
      case y34 => (obtain ⟨s0, s1, s2, s3, s4, -⟩ := box5 hS'.1; obtain ⟨u0, u1, u2, u3, u4, -⟩ := box5 hS'.2; clear hS'; go_simp)
      simp only [Act.put, List.setIfInBounds_toArray, List.set_cons_zero, List.set_cons_succ]
      refine wpAnyH_take_d (i := 36) (v := nv U) 104 rfl rfl (by kernel_rfl) (by kernel_rfl) (by kernel_rfl) (fun _ _ _ h => h) (Or.inl ⟨by kernel_rfl, fun w' hS' => ?y36⟩) hk12 ?_
      case y36 => (obtain ⟨s0, s1, s2, s3, s4, -⟩ := box5 hS'.1; obtain ⟨u0, u1, u2, u3, u4, -⟩ := box5 hS'.2; clear hS'; go_simp)
      simp only [Act.put, List.setIfInBounds_toArray, List.set_cons_zero, List.set_cons_succ]
      refine wpAnyH_ready (rs := [35]) (by kernel_rfl) (by simp) ?_
      refine AllReadyH.cons rfl (fun K hK => ?_) AllReadyH.nil
      go_simp
      refine (CC.out _ hk12).mono ?_
      rintro e w13 ⟨rfl, hb⟩
      have hk13 := hk12.step hb
      clear hb
      refine hK.out _ _ hk13 (fun _ => ?_)
      clear hK K
      try simp only [Act.put, List.setIfInBounds_toArray, List.set_cons_zero, List.set_cons_succ]
      refine wpAnyH_ready (rs := [37]) (by kernel_rfl) (by simp) ?_
      refine AllReadyH.cons rfl (fun K hK => ?_) AllReadyH.nil
      go_simp
      refine (CW.out _ hk13).mono ?_
      rintro e w14 ⟨Aw, cw, rfl, hb⟩
      have hk14 := hk13.step hb
      clear hb
      refine hK.out _ _ hk14 (fun _ => ?_)
      clear hK K
      try simp only [Act.put, List.setIfInBounds_toArray, List.set_cons_zero, List.set_cons_succ]
      refine wpAnyH_take_d (i := 38) (v := .int .i64 (n : Nat)) 106 rfl rfl (by kernel_rfl) (by kernel_rfl) (by kernel_rfl) (fun _ _ _ h => h) (Or.inl ⟨by kernel_rfl, fun w' hS' => ?y38⟩) hk14 ?_
      case y38 => (clear hS'; go_simp)
      simp only [Act.put, List.setIfInBounds_toArray, List.set_cons_zero, List.set_cons_succ]
      refine wpAnyH_take_d (i := 39) (v := .bool true) 107 rfl rfl (by kernel_rfl) (by kernel_rfl) (by kernel_rfl) (fun _ _ _ h => h) (Or.inl ⟨by kernel_rfl, fun w' hS' => ?y39⟩) hk14 ?_
      case y39 => (clear hS'; go_simp)
      simp only [Act.put, List.setIfInBounds_toArray, List.set_cons_zero, List.set_cons_succ]
      refine wpAnyH_take_d (i := 40) (v := .bool true) 108 rfl rfl (by kernel_rfl) (by kernel_rfl) (by kernel_rfl) (fun _ _ _ h => h) (Or.inl ⟨by kernel_rfl, fun w' hS' => ?y40⟩) hk14 ?_
      case y40 => (clear hS'; go_simp)
      simp only [Act.put, List.setIfInBounds_toArray, List.set_cons_zero, List.set_cons_succ]
      refine wpAnyH_take_d (i := 41) (v := .bool true) 4 rfl rfl (by kernel_rfl) (by kernel_rfl) (by kernel_rfl) (fun _ _ _ h => h) (Or.inl ⟨by kernel_rfl, fun w' hS' => ?y41⟩) hk14 ?_
      case y41 => (clear hS'; go_simp)
      simp only [Act.put, List.setIfInBounds_toArray, List.set_cons_zero, List.set_cons_succ]
      refine wpAnyH_done (by kernel_rfl) ?_ _
      refine hK0 _ _ ?_
      go_wp2
      go_ret
      exact ⟨rfl, HKB.out _ hk14⟩
end Go.Proofs.Ytjnclchbklehgaa
