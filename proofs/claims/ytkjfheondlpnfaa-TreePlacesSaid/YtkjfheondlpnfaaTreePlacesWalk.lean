/- The law TreePlaces, walked: it returns true at any two trees and any place. -/
import Derived.Test.YtkjfheondlpnfaaTreeAlive
import Derived.Test.YtkjfheondlpnfaaTreeIs
import Derived.Test.YtkjfheondlpnfaaTreeZero
import Derived.Test.YtkjfheondlpnfaaTreeRefStrip
import Derived.Test.YtkjfheondlpnfaaTreeRefAsk
import Derived.Test.YtkjfheondlpnfaaTreeBK
import Derived.Test.YtkjfheondlpnfaaTreeSameMath
import Derived.Test.YtkjfheondlpnfaaTextStore
namespace Go.Proofs.Ytkjfheondlpnfaa
open Go.RowKit TreeMath

/-- what Place and Strip answer -/
def plcOf (T : Tr) (p : Int) : Tr := if 0 ≤ p ∧ p ≤ 2147483648 ∧ rgt T = true then (cg plc T p).1 else zn
def stpOf (T : Tr) : Tr := if rgt T = true then (cg stp T ()).1 else zn
theorem place_all (T : Tr) (p : Int) (w : World) (hw : wt T ≤ 5000) (hT : Tn (lo w.heap.size) w T) : Calls Try.prog 24 #[nv T, .int .i64 p] w (CpV (plcOf T p) w) := by
  unfold plcOf
  by_cases h0 : 0 ≤ p
  · by_cases h1 : p ≤ 2147483648
    · by_cases hr : rgt T = true
      · rw [if_pos ⟨h0, h1, hr⟩]; exact place_any T p w hr h0 h1 hw hT
      · rw [if_neg (fun h => hr h.2.2)]; exact place_zero T p w (by simpa using hr) h0 h1 hw hT
    · rw [if_neg (fun h => h1 h.2.1)]; exact place_off T p w (.inr (by omega))
  · rw [if_neg (fun h => h0 h.1)]; exact place_off T p w (.inl (by omega))
theorem strip_all (T : Tr) (w : World) (hw : wt T ≤ 5000) (hT : Tn (lo w.heap.size) w T) : Calls Try.prog 25 #[nv T] w (CpV (stpOf T) w) := by
  unfold stpOf
  by_cases hr : rgt T = true
  · rw [if_pos hr]; exact strip_any T w hr hw hT
  · rw [if_neg hr]; exact strip_zero T w (by simpa using hr) hw hT

set_option maxRecDepth 100000 in
set_option maxHeartbeats 4000000 in
theorem treePlaces_walk (T O : Tr) (p : Int) (w : World) (hp : rng p) (hz : Szd T) (hzo : Szd O) (hT : Tn (lo w.heap.size) w T) (hO : Tn (lo w.heap.size) w O) :
    Calls Try.prog 5 #[nv T, nv O, .int .i64 p] w fun e w' => e = .returned (.bool true) ∧ Below w.heap.size w w' := by
  have HT := Lib.hid hT
  have HO := Lib.hid hO
  have HZ := Lib.hid hz
  have HZO := Lib.hid hzo
  have HP := Lib.hid hp
  have HB0 := Lib.hid (below2 w (nbx T) (nbx O))
  clear hT hO hz hzo hp
  go_enter Try.func5, Try.ntmps5
  go_wp2_with fail
  refine (alive_any _).mono ?_
  rintro e w1 ⟨rfl, hb1⟩
  have HA1 := Lib.hid hb1
  have HB1 := Lib.hid (HB0.out.trans (hb1.mono HB0.out.size))
  have hc1 := box5 (((Below.refl (w.alloc (nbx T)).heap.size _).alloc (Nat.le_refl _) (nbx O)).trans (hb1.mono (by simp)))
  have hd1 := box5 hb1
  rw [World.size_alloc] at hd1
  have hs1 : w.heap.size + 2 ≤ w1.heap.size := by have := hb1.size; simpa using this
  have HD := Lib.hid (doc_any T 1500 w1 (by omega) (by omega) HZ.out ((HT.out.below HB1.out).more HB1.out.size))
  clear hb1
  go_wp2_with fail
  refine HD.out.mono ?_
  rintro r w2 ⟨U, l, rfl, hb2, hU, l1, l2, l3, l4⟩
  have hA2 := HA1.out.trans (hb2.mono HA1.out.size)
  have HA2 := Lib.hid hA2
  have HB2 := Lib.hid (HB1.out.trans (hb2.mono HB1.out.size))
  have hc2 := box5 (((Below.refl (w.alloc (nbx T)).heap.size _).alloc (Nat.le_refl _) (nbx O)).trans (hA2.mono (by simp)))
  have hd2 := box5 hA2
  rw [World.size_alloc] at hd2
  have hs2 : w.heap.size + 2 ≤ w2.heap.size := by have := hA2.size; simpa using this
  have hB2' := HB2.out.trans ((below1 w2 (rbx U)).mono HB2.out.size)
  have HDO := Lib.hid (doc_any O 1500 (w2.alloc (rbx U)) (by omega) (by omega) HZO.out ((HO.out.below hB2').more hB2'.size))
  have HU := Lib.hid hU
  have L3 := Lib.hid l3
  have L4 := Lib.hid l4
  clear hb2 hA2 hU l3 l4 hB2' hc1 hd1
  go_wp2_with fail
  refine HDO.out.mono ?_
  rintro r w3 ⟨V, l', rfl, hb3, hV, m1, m2, m3, m4⟩
  have M3 := Lib.hid m3
  have M4 := Lib.hid m4
  have HV := Lib.hid hV
  have HX3 := Lib.hid hb3
  have hu3 := box5 hb3
  have hA3 := HA2.out.trans (((below1 w2 (rbx U)).trans (hb3.mono (by simp))).mono HA2.out.size)
  have HA3 := Lib.hid hA3
  have HB3 := Lib.hid (HB2.out.trans (((below1 w2 (rbx U)).trans (hb3.mono (by simp))).mono HB2.out.size))
  have hc3 := box5 (((Below.refl (w.alloc (nbx T)).heap.size _).alloc (Nat.le_refl _) (nbx O)).trans (hA3.mono (by simp)))
  have hd3 := box5 hA3
  rw [World.size_alloc] at hd3
  have hs3 : w2.heap.size + 1 ≤ w3.heap.size := by have := hb3.size; simpa using this
  clear hb3 hA3 hV m3 m4 hc2 hd2 HD HDO
  by_cases hl : l < 0
  · go_wp2_with fail
    go_ret
    exact ⟨rfl, HB3.out.trans ((below1 w3 _).mono HB3.out.size)⟩
  · by_cases hl' : l' < 0
    · go_wp2_with fail
      go_ret
      exact ⟨rfl, HB3.out.trans ((below1 w3 _).mono HB3.out.size)⟩
    · have hwT : (wt T : Int) ≤ 1500 := by
        by_cases h : (wt T : Int) ≤ 1500
        · exact h
        · have := L4.out (by omega); omega
      have hwO : (wt O : Int) ≤ 1500 := by
        by_cases h : (wt O : Int) ≤ 1500
        · exact h
        · have := M4.out (by omega); omega
      have hpU := (L3.out hwT).2
      have hpV := (M3.out hwO).2
      have hT5 : wt T ≤ 5000 := by omega
      have hO5 : wt O ≤ 5000 := by omega
      have hsU := same_of hpU
      have hsV := same_of hpV
      have hU5 : wt U ≤ 5000 := by rw [hsU.2.2.1]; exact hT5
      have hV5 : wt V ≤ 5000 := by rw [hsV.2.2.1]; exact hO5
      have HWT := Lib.hid hT5
      have HWU := Lib.hid hU5
      have HPU := Lib.hid hpU
      obtain ⟨rT, hrT⟩ : ∃ r, rgt T = r := ⟨_, rfl⟩
      obtain ⟨rO, hrO⟩ : ∃ r, rgt O = r := ⟨_, rfl⟩
      obtain ⟨S, hS⟩ : ∃ r, sm T O = r := ⟨_, rfl⟩
      have CPL : Hid (∀ W : World, Tn (lo W.heap.size) W T → Calls Try.prog 24 #[nv T, .int .i64 p] W (CpV (plcOf T p) W)) := Lib.hid fun W h => place_all T p W hT5 h
      have CST : Hid (∀ W : World, Tn (lo W.heap.size) W T → Calls Try.prog 25 #[nv T] W (CpV (stpOf T) W)) := Lib.hid fun W h => strip_all T W hT5 h
      have CRU : Hid (∀ W : World, Tn (lo W.heap.size) W U → Calls Try.prog 10 #[nv U] W fun e w' => e = .returned (.bool rT) ∧ Below W.heap.size W w') := Lib.hid fun W h => by rw [← hrT, ← hsU.1]; exact rright_any U W h hU5
      have CRV : Hid (∀ W : World, Tn (lo W.heap.size) W V → Calls Try.prog 10 #[nv V] W fun e w' => e = .returned (.bool rO) ∧ Below W.heap.size W w') := Lib.hid fun W h => by rw [← hrO, ← hsV.1]; exact rright_any V W h hV5
      have CSM : Hid (∀ W : World, Tn (lo W.heap.size) W T → Tn (lo W.heap.size) W O → Calls Try.prog 26 #[nv T, nv O] W fun e w' => e = .returned (.bool (rT && rO && S)) ∧ Below W.heap.size W w') := Lib.hid fun W h k => by rw [← hrT, ← hrO, ← hS]; exact same_any T O W hT5 hO5 h k
      have CTT : Hid (∀ W : World, Tn (lo W.heap.size) W T → Calls Try.prog 26 #[nv T, nv T] W fun e w' => e = .returned (.bool rT) ∧ Below W.heap.size W w') := Lib.hid fun W h => by
        have h2 := same_any T T W hT5 hT5 h h
        rw [(sm_iff T T).2 rfl, hrT, Bool.and_self, Bool.and_true] at h2
        exact h2
      have CRS : Hid (∀ W : World, Tn (lo W.heap.size) W U → Tn (lo W.heap.size) W V → Calls Try.prog 27 #[nv U, nv V] W fun e w' => e = .returned (.bool S) ∧ Below W.heap.size W w') := Lib.hid fun W h k => by rw [← hS, ← sm_pls hpU hpV]; exact rsame_any U V W hU5 hV5 h k
      have CIS : Hid (∀ (A B : Tr) (W : World), wt A ≤ 5000 → wt B ≤ 5000 → pl A = pl B → Tn (lo W.heap.size) W A → Tn (lo W.heap.size) W B → Calls Try.prog 21 #[nv A, nv B] W fun e w' => e = .returned (.bool true) ∧ Below W.heap.size W w') := Lib.hid fun A B W ha hb hp h k => by
        have := is_any A B W ha hb h k
        unfold AlV at this
        rwa [(sm_iff A B).2 hp] at this
      have CRST : Hid (rT = true → ∀ W : World, Tn (lo W.heap.size) W U → Calls Try.prog 28 #[nv U] W (CpV (cg stp T ()).1 W)) := Lib.hid fun hr W h => by
        rw [← cg_same_of stp hpU ()]
        exact rstrip_any U W (by rw [hsU.1, hrT, hr]) hU5 h
      have CRPL : Hid (rT = true → ∀ W : World, Tn (lo W.heap.size) W U → Calls Try.prog 29 #[nv U, .int .i64 p] W fun e w' => ∃ (Z : Tr) (q : Int), e = .returned (.tuple #[nv Z, .int .i64 q]) ∧ pl Z = (cg plc T p).1 ∧ Tn (nw W.heap.size w') w' Z ∧ Below W.heap.size W w') := Lib.hid fun hr W h => by
        refine (rplace_any U p W (by rw [hsU.1, hrT, hr]) hU5 h).mono ?_
        rintro e w' ⟨Z, rfl, h1, h2, h3⟩
        exact ⟨Z, _, rfl, by rw [h1, cg_same_of plc hpU], h2, h3⟩
      have HFL : Hid (rT = false → plcOf T p = zn ∧ stpOf T = zn) := Lib.hid fun hr => by
        unfold plcOf stpOf
        rw [hrT, hr]
        simp
      have HTR : Hid (rT = true → stpOf T = (cg stp T ()).1 ∧ ((p < 0 ∨ 2147483648 < p) → plcOf T p = zn) ∧ (0 ≤ p → p ≤ 2147483648 → plcOf T p = (cg plc T p).1)) := Lib.hid fun hr => by
        unfold plcOf stpOf
        rw [hrT, hr]
        refine ⟨by simp, fun h => if_neg (fun h2 => by omega), fun h1 h2 => if_pos ⟨h1, h2, rfl⟩⟩
      have HWS : Hid (rT = true → wt (cg stp T ()).1 ≤ 5000) := Lib.hid fun hr => Nat.le_trans (stripped (by rw [hrT, hr])).2 hT5
      have HWP : Hid (0 ≤ p → p ≤ 2147483648 → rT = true → wt (cg plc T p).1 ≤ 5000) := Lib.hid fun h0 h1 hr => by rw [(placed (by rw [hrT, hr]) hT5 p h0 h1).2.2.1]; exact hT5
      have hk0 : BK w [(w3.heap.size, rbx V), (w2.heap.size, rbx U), (w.heap.size + 1, nbx O), (w.heap.size, nbx T)] [T, O, U, V] 25 [] (w3.alloc (rbx V)) := by
        refine BK.alloc ?_ (rbx V)
        have hb0 := HA3.out
        have hn0 : w3.heap[w.heap.size]? = some (nbx T) := by
          rw [hb0.block _ (by simp; omega)]
          exact (Below.heap_alloc _ _ _ (by simp)).trans (heap_alloc_new w _)
        have hn1 : w3.heap[w.heap.size + 1]? = some (nbx O) := by
          rw [hb0.block _ (by simp)]
          have := heap_alloc_new (w.alloc (nbx T)) (nbx O)
          rwa [World.size_alloc] at this
        have hn2 : w3.heap[w2.heap.size]? = some (rbx U) := by
          rw [HX3.out.block _ (by simp)]
          exact heap_alloc_new w2 _
        have hT3 := (HT.out.below HB3.out).more HB3.out.size
        have hO3 := (HO.out.below HB3.out).more HB3.out.size
        have hb2 : Below w2.heap.size w2 w3 := (below1 w2 (rbx U)).trans (HX3.out.mono (by simp))
        have hU3 := (HU.out.all.below hb2).more hb2.size
        have hV3 := HV.out.all
        refine ⟨HB3.out, fun q hq => ?_, fun Q hQ => ?_, by simp, by simp, List.nodup_nil⟩
        · simp only [List.mem_cons, List.not_mem_nil, or_false] at hq
          rcases hq with rfl | rfl | rfl
          · exact hn2
          · exact hn1
          · exact hn0
        · have hQ3 : Tn (lo w3.heap.size) w3 Q := by
            simp only [List.mem_cons, List.not_mem_nil, or_false] at hQ
            rcases hQ with rfl | rfl | rfl | rfl
            · exact hT3
            · exact hO3
            · exact hU3
            · exact hV3
          exact hQ3.keep (fun _ _ _ => rfl) fun b hb => ⟨hb, by simp⟩
      have hk1 := hk0.drew
      have HK1 := Lib.hid hk1
      have tc3 := heap5 (hk0.has (w.heap.size, nbx T) (by simp))
      clear hwT hwO hpU hpV hT5 hO5 hsU hsV hU5 hV5 hrT hrO hS hk0 hk1 L3 L4 M3 M4 HU HV HT HO HZ HZO HP HB0 HB1 HB2 HB3 HA1 HA2 HA3 HX3 l1 l2 m1 m2
      clear hc3 hd3 hu3 hs1 hs2 hs3
      go_wp2_with fail
      rename_i K0 hK0
      refine at_act (fun A0 hA => ?_)
      have REST0 : ∀ (a b : Nat) (X Y : Tr) (x0 : World), pl X = plcOf T p → pl Y = stpOf T → BK w [(w.heap.size, nbx T), (w.heap.size + 1, nbx O), (w2.heap.size, rbx U), (w3.heap.size, rbx V), (a, nbx X), (b, nbx Y)] [T, O, U, V, X, Y] 25 [] x0 → K0 (((((((A0.put (some 34) (nv T)).put (some 35) (.int .i64 p)).put (some 37) (nv T)).put (some 36) (nv X)).put (some 38) (nv Y)).put (some 11) (.pointer (some ⟨a, 0, none⟩))).put (some 12) (.pointer (some ⟨b, 0, none⟩))) x0 := by
        subst hA
        intro a b X Y x0 hpX hpY hx0
        simp only [Act.put, List.setIfInBounds_toArray, List.set_cons_zero, List.set_cons_succ]
        refine hK0 _ _ ?_
        have tU := heap5 (hx0.has (w2.heap.size, rbx U) (by simp))
        go_wp2_with fail
        refine (CRU.out _ (hx0.tree (T := U) (by simp))).mono ?_
        rintro r x1 ⟨rfl, hb⟩
        have hx1 := hx0.step hb
        clear hb
        clear tU
        have tT := heap5 (hx1.has (w.heap.size, nbx T) (by simp))
        have tO := heap5 (hx1.has (w.heap.size + 1, nbx O) (by simp))
        go_wp2_with fail
        refine (CSM.out _ (hx1.tree (T := T) (by simp)) (hx1.tree (T := O) (by simp))).mono ?_
        rintro r x2 ⟨rfl, hb⟩
        have hx2 := hx1.step hb
        clear hb
        clear tT tO
        cases rT with
        | false =>
          have hXY := HFL.out (by first | rfl | trivial)
          have hX := pl_zn (hpX.trans hXY.1)
          have hY := pl_zn (hpY.trans hXY.2)
          clear hXY
          simp only [Bool.false_and]
          have tT := heap5 (hx2.has (w.heap.size, nbx T) (by simp))
          go_wp2_with fail
          refine (CTT.out _ (hx2.tree (T := T) (by simp))).mono ?_
          rintro r x3 ⟨rfl, hb⟩
          have hx3 := hx2.step hb
          clear hb
          clear tT
          have tT := heap5 (hx3.has (w.heap.size, nbx T) (by simp))
          have tU := heap5 (hx3.has (w2.heap.size, rbx U) (by simp))
          go_wp2_with fail
          refine (CIS.out T U _ HWT.out HWU.out HPU.out.symm (hx3.tree (T := T) (by simp)) (hx3.tree (T := U) (by simp))).mono ?_
          rintro r x4 ⟨rfl, hb⟩
          have hx4 := hx3.step hb
          clear hb
          clear tT tU
          have tX := heap5 (hx4.has (a, nbx X) (by simp))
          have tY := heap5 (hx4.has (b, nbx Y) (by simp))
          simp only [hX.1, hX.2] at tX
          simp only [hY.1, hY.2] at tY
          clear hX hY
          go_wp2_with fail
          go_ret
          exact ⟨rfl, hx4.low⟩
        | true =>
          cases rO with
          | false =>
            simp only [Bool.true_and, Bool.false_and]
            have tV := heap5 (hx2.has (w3.heap.size, rbx V) (by simp))
            go_wp2_with fail
            refine (CRV.out _ (hx2.tree (T := V) (by simp))).mono ?_
            rintro r x3 ⟨rfl, hb⟩
            have hx3 := hx2.step hb
            clear hb
            clear tV
            have tT := heap5 (hx3.has (w.heap.size, nbx T) (by simp))
            go_wp2_with fail
            refine (CTT.out _ (hx3.tree (T := T) (by simp))).mono ?_
            rintro r x4 ⟨rfl, hb⟩
            have hx4 := hx3.step hb
            clear hb
            clear tT
            have tT := heap5 (hx4.has (w.heap.size, nbx T) (by simp))
            have tU := heap5 (hx4.has (w2.heap.size, rbx U) (by simp))
            go_wp2_with fail
            refine (CIS.out T U _ HWT.out HWU.out HPU.out.symm (hx4.tree (T := T) (by simp)) (hx4.tree (T := U) (by simp))).mono ?_
            rintro r x5 ⟨rfl, hb⟩
            have hx5 := hx4.step hb
            clear hb
            clear tT tU
            go_wp2_with fail
            rename_i K1 hK1
            refine wp_region_noPanic (wp_region_held (S := fun W' : World => W'.heap[b]? = some (nbx Y) ∧ W'.heap[w2.heap.size]? = some (rbx U)) (by kernel_rfl) ?_)
            have hy0 := hx5.drew
            show wpAnyH _ _ _ _ _ _ _ _ x5.drew
            generalize x5.drew = y0 at hy0 ⊢
            refine wpAnyH_take_d (i := 0) (v := nv Y) 90 rfl rfl (by kernel_rfl) (by kernel_rfl) (by kernel_rfl) (fun _ _ _ h => h) (Or.inl ⟨by kernel_rfl, fun w' hS' => ?y0⟩) (⟨hy0.has (b, nbx Y) (by simp), hy0.has (w2.heap.size, rbx U) (by simp)⟩) ?_
            case y0 => (have s0 := heap5 (hS'.1); have s1 := heap5 (hS'.2); go_simp)
            simp only [Act.put, List.setIfInBounds_toArray, List.set_cons_zero, List.set_cons_succ]
            refine wpAnyH_take_d (i := 1) (v := nv U) 91 rfl rfl (by kernel_rfl) (by kernel_rfl) (by kernel_rfl) (fun _ _ _ h => h) (Or.inl ⟨by kernel_rfl, fun w' hS' => ?y1⟩) (⟨hy0.has (b, nbx Y) (by simp), hy0.has (w2.heap.size, rbx U) (by simp)⟩) ?_
            case y1 => (have s0 := heap5 (hS'.1); have s1 := heap5 (hS'.2); go_simp)
            simp only [Act.put, List.setIfInBounds_toArray, List.set_cons_zero, List.set_cons_succ]
            refine wpAnyH_ready (rs := [2]) (by kernel_rfl) (by simp) ?_
            refine AllReadyH.cons rfl (fun K hK => ?_) AllReadyH.nil
            go_simp
            refine (CRST.out (by first | rfl | trivial) _ (hy0.tree (T := U) (by simp))).mono ?_
            rintro r y1 ⟨Z, rfl, hpZ, hTZ, hbZ⟩
            have hy1 := hy0.call hbZ hTZ
            refine hK.out _ _ ⟨hy1.has (b, nbx Y) (by simp), hy1.has (w2.heap.size, rbx U) (by simp)⟩ (fun _ => ?_)
            clear hK K
            try simp only [Act.put, List.setIfInBounds_toArray, List.set_cons_zero, List.set_cons_succ]
            refine wpAnyH_ready (rs := [3]) (by kernel_rfl) (by simp) ?_
            refine AllReadyH.cons rfl (fun K hK => ?_) AllReadyH.nil
            go_simp
            have hwY : wt Y ≤ 5000 := by rw [← wt_pl, hpY, (HTR.out (by first | rfl | trivial)).1]; exact HWS.out (by first | rfl | trivial)
            have hpYZ : pl Y = pl Z := by rw [hpY, hpZ, (HTR.out (by first | rfl | trivial)).1]
            refine (CIS.out Y Z _ hwY (by rw [← wt_pl, ← hpYZ, wt_pl]; exact hwY) hpYZ (hy1.tree (T := Y) (by simp)) (hy1.tree (T := Z) (by simp))).mono ?_
            rintro r y2 ⟨rfl, hb⟩
            have hy2 := hy1.step hb
            clear hb hwY hpYZ
            refine hK.out _ _ ⟨hy2.has (b, nbx Y) (by simp), hy2.has (w2.heap.size, rbx U) (by simp)⟩ (fun _ => ?_)
            clear hK K
            try simp only [Act.put, List.setIfInBounds_toArray, List.set_cons_zero, List.set_cons_succ]
            refine wpAnyH_take_d (i := 4) (v := .bool false) 94 rfl rfl (by kernel_rfl) (by kernel_rfl) (by kernel_rfl) (fun _ _ _ h => h) (Or.inl ⟨by kernel_rfl, fun w' hS' => ?y4⟩) (⟨hy2.has (b, nbx Y) (by simp), hy2.has (w2.heap.size, rbx U) (by simp)⟩) ?_
            case y4 => (go_simp)
            simp only [Act.put, List.setIfInBounds_toArray, List.set_cons_zero, List.set_cons_succ]
            refine wpAnyH_done (by kernel_rfl) ?_ _
            refine hK1 _ _ ?_
            by_cases h0 : p < 0
            · have hoff : p < 0 ∨ 2147483648 < p := .inl h0
              have hX := pl_zn (hpX.trans ((HTR.out (by first | rfl | trivial)).2.1 hoff))
              have tX := heap5 (hy2.has (a, nbx X) (by simp))
              simp only [hX.1, hX.2] at tX
              go_wp2_with fail
              go_ret
              exact ⟨rfl, hy2.low⟩
            · have n0 : ¬ p < 0 := h0
              by_cases h1 : 2147483648 < p
              · have hoff : p < 0 ∨ 2147483648 < p := .inr h1
                have hX := pl_zn (hpX.trans ((HTR.out (by first | rfl | trivial)).2.1 hoff))
                have tX := heap5 (hy2.has (a, nbx X) (by simp))
                simp only [hX.1, hX.2] at tX
                go_wp2_with fail
                go_ret
                exact ⟨rfl, hy2.low⟩
              · have n1 : ¬ 2147483648 < p := h1
                have tU := heap5 (hy2.has (w2.heap.size, rbx U) (by simp))
                go_wp2_with fail
                refine (CRPL.out (by first | rfl | trivial) _ (hy2.tree (T := U) (by simp))).mono ?_
                rintro r y3 ⟨Z', q, rfl, hpZ', hTZ', hbZ'⟩
                have hy3 := (hy2.call hbZ' hTZ').alloc (rbx Z')
                clear tU
                have hpXZ : pl X = pl Z' := by rw [hpX, hpZ', (HTR.out (by first | rfl | trivial)).2.2 (by omega) (by omega)]
                have hwX : wt X ≤ 5000 := by rw [← wt_pl, hpX, (HTR.out (by first | rfl | trivial)).2.2 (by omega) (by omega)]; exact HWP.out (by omega) (by omega) (by first | rfl | trivial)
                have tX := heap5 (hy3.has (a, nbx X) (by simp))
                have tZ := heap5 (hy3.has (y3.heap.size, rbx Z') (by simp))
                have CI := Lib.hid (CIS.out X Z' _ hwX (by rw [← wt_pl, ← hpXZ, wt_pl]; exact hwX) hpXZ (hy3.tree (T := X) (by simp)) (hy3.tree (T := Z') (by simp)))
                clear hpXZ hwX
                go_wp2_with fail
                refine CI.out.mono ?_
                rintro r y4 ⟨rfl, hb⟩
                have hy4 := hy3.step hb
                clear hb tX tZ
                go_wp2_with fail
                go_ret
                exact ⟨rfl, hy4.low⟩
          | true =>
            simp only [Bool.true_and]
            have tV := heap5 (hx2.has (w3.heap.size, rbx V) (by simp))
            go_wp2_with fail
            refine (CRV.out _ (hx2.tree (T := V) (by simp))).mono ?_
            rintro r x3 ⟨rfl, hb⟩
            have hx3 := hx2.step hb
            clear hb
            clear tV
            have tU := heap5 (hx3.has (w2.heap.size, rbx U) (by simp))
            have tV := heap5 (hx3.has (w3.heap.size, rbx V) (by simp))
            go_wp2_with fail
            refine (CRS.out _ (hx3.tree (T := U) (by simp)) (hx3.tree (T := V) (by simp))).mono ?_
            rintro r x4 ⟨rfl, hb⟩
            have hx4 := hx3.step hb
            clear hb
            clear tU tV
            have hSS : (S != S) = false := by simp
            have tT := heap5 (hx4.has (w.heap.size, nbx T) (by simp))
            go_wp2_with fail
            refine (CTT.out _ (hx4.tree (T := T) (by simp))).mono ?_
            rintro r x5 ⟨rfl, hb⟩
            have hx5 := hx4.step hb
            clear hb
            clear tT
            have tT := heap5 (hx5.has (w.heap.size, nbx T) (by simp))
            have tU := heap5 (hx5.has (w2.heap.size, rbx U) (by simp))
            go_wp2_with fail
            refine (CIS.out T U _ HWT.out HWU.out HPU.out.symm (hx5.tree (T := T) (by simp)) (hx5.tree (T := U) (by simp))).mono ?_
            rintro r x6 ⟨rfl, hb⟩
            have hx6 := hx5.step hb
            clear hb
            clear tT tU
            go_wp2_with fail
            rename_i K1 hK1
            refine wp_region_noPanic (wp_region_held (S := fun W' : World => W'.heap[b]? = some (nbx Y) ∧ W'.heap[w2.heap.size]? = some (rbx U)) (by kernel_rfl) ?_)
            have hy0 := hx6.drew
            show wpAnyH _ _ _ _ _ _ _ _ x6.drew
            generalize x6.drew = y0 at hy0 ⊢
            refine wpAnyH_take_d (i := 0) (v := nv Y) 90 rfl rfl (by kernel_rfl) (by kernel_rfl) (by kernel_rfl) (fun _ _ _ h => h) (Or.inl ⟨by kernel_rfl, fun w' hS' => ?y0⟩) (⟨hy0.has (b, nbx Y) (by simp), hy0.has (w2.heap.size, rbx U) (by simp)⟩) ?_
            case y0 => (have s0 := heap5 (hS'.1); have s1 := heap5 (hS'.2); go_simp)
            simp only [Act.put, List.setIfInBounds_toArray, List.set_cons_zero, List.set_cons_succ]
            refine wpAnyH_take_d (i := 1) (v := nv U) 91 rfl rfl (by kernel_rfl) (by kernel_rfl) (by kernel_rfl) (fun _ _ _ h => h) (Or.inl ⟨by kernel_rfl, fun w' hS' => ?y1⟩) (⟨hy0.has (b, nbx Y) (by simp), hy0.has (w2.heap.size, rbx U) (by simp)⟩) ?_
            case y1 => (have s0 := heap5 (hS'.1); have s1 := heap5 (hS'.2); go_simp)
            simp only [Act.put, List.setIfInBounds_toArray, List.set_cons_zero, List.set_cons_succ]
            refine wpAnyH_ready (rs := [2]) (by kernel_rfl) (by simp) ?_
            refine AllReadyH.cons rfl (fun K hK => ?_) AllReadyH.nil
            go_simp
            refine (CRST.out (by first | rfl | trivial) _ (hy0.tree (T := U) (by simp))).mono ?_
            rintro r y1 ⟨Z, rfl, hpZ, hTZ, hbZ⟩
            have hy1 := hy0.call hbZ hTZ
            refine hK.out _ _ ⟨hy1.has (b, nbx Y) (by simp), hy1.has (w2.heap.size, rbx U) (by simp)⟩ (fun _ => ?_)
            clear hK K
            try simp only [Act.put, List.setIfInBounds_toArray, List.set_cons_zero, List.set_cons_succ]
            refine wpAnyH_ready (rs := [3]) (by kernel_rfl) (by simp) ?_
            refine AllReadyH.cons rfl (fun K hK => ?_) AllReadyH.nil
            go_simp
            have hwY : wt Y ≤ 5000 := by rw [← wt_pl, hpY, (HTR.out (by first | rfl | trivial)).1]; exact HWS.out (by first | rfl | trivial)
            have hpYZ : pl Y = pl Z := by rw [hpY, hpZ, (HTR.out (by first | rfl | trivial)).1]
            refine (CIS.out Y Z _ hwY (by rw [← wt_pl, ← hpYZ, wt_pl]; exact hwY) hpYZ (hy1.tree (T := Y) (by simp)) (hy1.tree (T := Z) (by simp))).mono ?_
            rintro r y2 ⟨rfl, hb⟩
            have hy2 := hy1.step hb
            clear hb hwY hpYZ
            refine hK.out _ _ ⟨hy2.has (b, nbx Y) (by simp), hy2.has (w2.heap.size, rbx U) (by simp)⟩ (fun _ => ?_)
            clear hK K
            try simp only [Act.put, List.setIfInBounds_toArray, List.set_cons_zero, List.set_cons_succ]
            refine wpAnyH_take_d (i := 4) (v := .bool false) 94 rfl rfl (by kernel_rfl) (by kernel_rfl) (by kernel_rfl) (fun _ _ _ h => h) (Or.inl ⟨by kernel_rfl, fun w' hS' => ?y4⟩) (⟨hy2.has (b, nbx Y) (by simp), hy2.has (w2.heap.size, rbx U) (by simp)⟩) ?_
            case y4 => (go_simp)
            simp only [Act.put, List.setIfInBounds_toArray, List.set_cons_zero, List.set_cons_succ]
            refine wpAnyH_done (by kernel_rfl) ?_ _
            refine hK1 _ _ ?_
            by_cases h0 : p < 0
            · have hoff : p < 0 ∨ 2147483648 < p := .inl h0
              have hX := pl_zn (hpX.trans ((HTR.out (by first | rfl | trivial)).2.1 hoff))
              have tX := heap5 (hy2.has (a, nbx X) (by simp))
              simp only [hX.1, hX.2] at tX
              go_wp2_with fail
              go_ret
              exact ⟨rfl, hy2.low⟩
            · have n0 : ¬ p < 0 := h0
              by_cases h1 : 2147483648 < p
              · have hoff : p < 0 ∨ 2147483648 < p := .inr h1
                have hX := pl_zn (hpX.trans ((HTR.out (by first | rfl | trivial)).2.1 hoff))
                have tX := heap5 (hy2.has (a, nbx X) (by simp))
                simp only [hX.1, hX.2] at tX
                go_wp2_with fail
                go_ret
                exact ⟨rfl, hy2.low⟩
              · have n1 : ¬ 2147483648 < p := h1
                have tU := heap5 (hy2.has (w2.heap.size, rbx U) (by simp))
                go_wp2_with fail
                refine (CRPL.out (by first | rfl | trivial) _ (hy2.tree (T := U) (by simp))).mono ?_
                rintro r y3 ⟨Z', q, rfl, hpZ', hTZ', hbZ'⟩
                have hy3 := (hy2.call hbZ' hTZ').alloc (rbx Z')
                clear tU
                have hpXZ : pl X = pl Z' := by rw [hpX, hpZ', (HTR.out (by first | rfl | trivial)).2.2 (by omega) (by omega)]
                have hwX : wt X ≤ 5000 := by rw [← wt_pl, hpX, (HTR.out (by first | rfl | trivial)).2.2 (by omega) (by omega)]; exact HWP.out (by omega) (by omega) (by first | rfl | trivial)
                have tX := heap5 (hy3.has (a, nbx X) (by simp))
                have tZ := heap5 (hy3.has (y3.heap.size, rbx Z') (by simp))
                have CI := Lib.hid (CIS.out X Z' _ hwX (by rw [← wt_pl, ← hpXZ, wt_pl]; exact hwX) hpXZ (hy3.tree (T := X) (by simp)) (hy3.tree (T := Z') (by simp)))
                clear hpXZ hwX
                go_wp2_with fail
                refine CI.out.mono ?_
                rintro r y4 ⟨rfl, hb⟩
                have hy4 := hy3.step hb
                clear hb tX tZ
                go_wp2_with fail
                go_ret
                exact ⟨rfl, hy4.low⟩
      subst hA
      simp only [Act.put, List.setIfInBounds_toArray, List.set_cons_zero, List.set_cons_succ] at REST0
      have REST := Lib.hid REST0
      clear REST0 CRU CRV CSM CTT CRS CIS CRST CRPL HFL HTR HWS HWP hK0
      refine wp_region_noPanic (wp_region_held (S := fun W' : World => W'.heap[w.heap.size]? = some (nbx T)) (by kernel_rfl) ?_)
      show wpAnyH _ _ _ _ _ _ _ _ (w3.alloc (rbx V)).drew
      have hk := HK1.out
      generalize (w3.alloc (rbx V)).drew = wd at hk ⊢
      refine wpAnyH_take_d (i := 0) (v := nv T) 34 rfl rfl (by kernel_rfl) (by kernel_rfl) (by kernel_rfl) (fun _ _ _ h => h) (Or.inl ⟨by kernel_rfl, fun w' hS' => ?y0⟩) (hk.has (w.heap.size, nbx T) (by simp)) ?_
      case y0 => (have s0 := heap5 (hS'); go_simp)
      simp only [Act.put, List.setIfInBounds_toArray, List.set_cons_zero, List.set_cons_succ]
      refine wpAnyH_take_d (i := 1) (v := .int .i64 p) 35 rfl rfl (by kernel_rfl) (by kernel_rfl) (by kernel_rfl) (fun _ _ _ h => h) (Or.inl ⟨by kernel_rfl, fun w' hS' => ?y1⟩) (hk.has (w.heap.size, nbx T) (by simp)) ?_
      case y1 => (go_simp)
      simp only [Act.put, List.setIfInBounds_toArray, List.set_cons_zero, List.set_cons_succ]
      refine wpAnyH_take_d (i := 3) (v := nv T) 37 rfl rfl (by kernel_rfl) (by kernel_rfl) (by kernel_rfl) (fun _ _ _ h => h) (Or.inl ⟨by kernel_rfl, fun w' hS' => ?y3⟩) (hk.has (w.heap.size, nbx T) (by simp)) ?_
      case y3 => (have s0 := heap5 (hS'); go_simp)
      simp only [Act.put, List.setIfInBounds_toArray, List.set_cons_zero, List.set_cons_succ]
      refine wpAnyH_ready (rs := [2, 5, 6]) (by kernel_rfl) (by simp) ?_
      refine AllReadyH.cons rfl (fun K hK => ?_) (AllReadyH.cons rfl (fun K hK => ?_) (AllReadyH.cons rfl (fun K hK => ?_) AllReadyH.nil))
      · go_simp
        refine (CPL.out _ (hk.tree (T := T) (by simp))).mono ?_
        rintro r v35 ⟨X, rfl, hpX, hTX, hbX⟩
        have hk35 := hk.call hbX hTX
        refine hK.out _ _ (hk35.has (w.heap.size, nbx T) (by simp)) (fun _ => ?_)
        clear hK K
        try simp only [Act.put, List.setIfInBounds_toArray, List.set_cons_zero, List.set_cons_succ]
        refine wpAnyH_ready (rs := [4, 5, 6]) (by kernel_rfl) (by simp) ?_
        refine AllReadyH.cons rfl (fun K hK => ?_) (AllReadyH.cons rfl (fun K hK => ?_) (AllReadyH.cons rfl (fun K hK => ?_) AllReadyH.nil))
        · go_simp
          refine (CST.out _ (hk35.tree (T := T) (by simp))).mono ?_
          rintro r v36 ⟨Y, rfl, hpY, hTY, hbY⟩
          have hk36 := hk35.call hbY hTY
          refine hK.out _ _ (hk36.has (w.heap.size, nbx T) (by simp)) (fun _ => ?_)
          clear hK K
          try simp only [Act.put, List.setIfInBounds_toArray, List.set_cons_zero, List.set_cons_succ]
          refine wpAnyH_ready (rs := [5, 6]) (by kernel_rfl) (by simp) ?_
          refine AllReadyH.cons rfl (fun K hK => ?_) (AllReadyH.cons rfl (fun K hK => ?_) AllReadyH.nil)
          · go_simp
            have hk37 := hk36.zero
            generalize v36.alloc (zbx 25) = v37 at hk37 ⊢
            refine hK.out _ _ (hk37.has (w.heap.size, nbx T) (by simp)) (fun _ => ?_)
            clear hK K
            try simp only [Act.put, List.setIfInBounds_toArray, List.set_cons_zero, List.set_cons_succ]
            refine wpAnyH_ready (rs := [6]) (by kernel_rfl) (by simp) ?_
            refine AllReadyH.cons rfl (fun K hK => ?_) AllReadyH.nil
            go_simp
            have hk38 := hk37.zero
            generalize v37.alloc (zbx 25) = v38 at hk38 ⊢
            refine hK.out _ _ (hk38.has (w.heap.size, nbx T) (by simp)) (fun _ => ?_)
            clear hK K
            try simp only [Act.put, List.setIfInBounds_toArray, List.set_cons_zero, List.set_cons_succ]
            have hsw := hk38.swap
            refine wpAnyH_ready (rs := [7]) (by kernel_rfl) (by simp) ?_
            refine AllReadyH.cons rfl (fun K hK => ?_) AllReadyH.nil
            refine step_store_node (by rfl) 25 (.tmp 11) (.tmp 36) (by rfl) size_tnode v36.heap.size X (by rfl) (by rfl) (hsw.zb v36.heap.size (by simp)).2 ?_
            have hq1 := hsw.store X
            generalize set5 v38 v36.heap.size X = q1 at hq1 ⊢
            refine hK.out _ _ (hq1.has (w.heap.size, nbx T) (by simp)) (fun _ => ?_)
            clear hK K
            try simp only [Act.put, List.setIfInBounds_toArray, List.set_cons_zero, List.set_cons_succ]
            refine wpAnyH_ready (rs := [8]) (by kernel_rfl) (by simp) ?_
            refine AllReadyH.cons rfl (fun K hK => ?_) AllReadyH.nil
            refine step_store_node (by rfl) 25 (.tmp 12) (.tmp 38) (by rfl) size_tnode v37.heap.size Y (by rfl) (by rfl) (hq1.zb v37.heap.size (by simp)).2 ?_
            have hq2 := hq1.store Y
            generalize set5 q1 v37.heap.size Y = q2 at hq2 ⊢
            refine hK.out _ _ (hq2.has (w.heap.size, nbx T) (by simp)) (fun _ => ?_)
            clear hK K
            try simp only [Act.put, List.setIfInBounds_toArray, List.set_cons_zero, List.set_cons_succ]
            refine wpAnyH_done (by kernel_rfl) ?_ _
            exact REST.out v36.heap.size v37.heap.size X Y q2 hpX hpY (hq2.sub (by simp) (by simp))
          · go_simp
            have hk39 := hk36.zero
            generalize v36.alloc (zbx 25) = v39 at hk39 ⊢
            refine hK.out _ _ (hk39.has (w.heap.size, nbx T) (by simp)) (fun _ => ?_)
            clear hK K
            try simp only [Act.put, List.setIfInBounds_toArray, List.set_cons_zero, List.set_cons_succ]
            refine wpAnyH_ready (rs := [5]) (by kernel_rfl) (by simp) ?_
            refine AllReadyH.cons rfl (fun K hK => ?_) AllReadyH.nil
            go_simp
            have hk40 := hk39.zero
            generalize v39.alloc (zbx 25) = v40 at hk40 ⊢
            refine hK.out _ _ (hk40.has (w.heap.size, nbx T) (by simp)) (fun _ => ?_)
            clear hK K
            try simp only [Act.put, List.setIfInBounds_toArray, List.set_cons_zero, List.set_cons_succ]
            refine wpAnyH_ready (rs := [7]) (by kernel_rfl) (by simp) ?_
            refine AllReadyH.cons rfl (fun K hK => ?_) AllReadyH.nil
            refine step_store_node (by rfl) 25 (.tmp 11) (.tmp 36) (by rfl) size_tnode v39.heap.size X (by rfl) (by rfl) (hk40.zb v39.heap.size (by simp)).2 ?_
            have hq1 := hk40.store X
            generalize set5 v40 v39.heap.size X = q1 at hq1 ⊢
            refine hK.out _ _ (hq1.has (w.heap.size, nbx T) (by simp)) (fun _ => ?_)
            clear hK K
            try simp only [Act.put, List.setIfInBounds_toArray, List.set_cons_zero, List.set_cons_succ]
            refine wpAnyH_ready (rs := [8]) (by kernel_rfl) (by simp) ?_
            refine AllReadyH.cons rfl (fun K hK => ?_) AllReadyH.nil
            refine step_store_node (by rfl) 25 (.tmp 12) (.tmp 38) (by rfl) size_tnode v36.heap.size Y (by rfl) (by rfl) (hq1.zb v36.heap.size (by simp)).2 ?_
            have hq2 := hq1.store Y
            generalize set5 q1 v36.heap.size Y = q2 at hq2 ⊢
            refine hK.out _ _ (hq2.has (w.heap.size, nbx T) (by simp)) (fun _ => ?_)
            clear hK K
            try simp only [Act.put, List.setIfInBounds_toArray, List.set_cons_zero, List.set_cons_succ]
            refine wpAnyH_done (by kernel_rfl) ?_ _
            exact REST.out v39.heap.size v36.heap.size X Y q2 hpX hpY (hq2.sub (by simp) (by simp))
        · go_simp
          have hk41 := hk35.zero
          generalize v35.alloc (zbx 25) = v41 at hk41 ⊢
          refine hK.out _ _ (hk41.has (w.heap.size, nbx T) (by simp)) (fun _ => ?_)
          clear hK K
          try simp only [Act.put, List.setIfInBounds_toArray, List.set_cons_zero, List.set_cons_succ]
          refine wpAnyH_ready (rs := [4, 6]) (by kernel_rfl) (by simp) ?_
          refine AllReadyH.cons rfl (fun K hK => ?_) (AllReadyH.cons rfl (fun K hK => ?_) AllReadyH.nil)
          · go_simp
            refine (CST.out _ (hk41.tree (T := T) (by simp))).mono ?_
            rintro r v42 ⟨Y, rfl, hpY, hTY, hbY⟩
            have hk42 := hk41.call hbY hTY
            refine hK.out _ _ (hk42.has (w.heap.size, nbx T) (by simp)) (fun _ => ?_)
            clear hK K
            try simp only [Act.put, List.setIfInBounds_toArray, List.set_cons_zero, List.set_cons_succ]
            refine wpAnyH_ready (rs := [6]) (by kernel_rfl) (by simp) ?_
            refine AllReadyH.cons rfl (fun K hK => ?_) AllReadyH.nil
            go_simp
            have hk43 := hk42.zero
            generalize v42.alloc (zbx 25) = v43 at hk43 ⊢
            refine hK.out _ _ (hk43.has (w.heap.size, nbx T) (by simp)) (fun _ => ?_)
            clear hK K
            try simp only [Act.put, List.setIfInBounds_toArray, List.set_cons_zero, List.set_cons_succ]
            have hsw := hk43.swap
            refine wpAnyH_ready (rs := [7]) (by kernel_rfl) (by simp) ?_
            refine AllReadyH.cons rfl (fun K hK => ?_) AllReadyH.nil
            refine step_store_node (by rfl) 25 (.tmp 11) (.tmp 36) (by rfl) size_tnode v35.heap.size X (by rfl) (by rfl) (hsw.zb v35.heap.size (by simp)).2 ?_
            have hq1 := hsw.store X
            generalize set5 v43 v35.heap.size X = q1 at hq1 ⊢
            refine hK.out _ _ (hq1.has (w.heap.size, nbx T) (by simp)) (fun _ => ?_)
            clear hK K
            try simp only [Act.put, List.setIfInBounds_toArray, List.set_cons_zero, List.set_cons_succ]
            refine wpAnyH_ready (rs := [8]) (by kernel_rfl) (by simp) ?_
            refine AllReadyH.cons rfl (fun K hK => ?_) AllReadyH.nil
            refine step_store_node (by rfl) 25 (.tmp 12) (.tmp 38) (by rfl) size_tnode v42.heap.size Y (by rfl) (by rfl) (hq1.zb v42.heap.size (by simp)).2 ?_
            have hq2 := hq1.store Y
            generalize set5 q1 v42.heap.size Y = q2 at hq2 ⊢
            refine hK.out _ _ (hq2.has (w.heap.size, nbx T) (by simp)) (fun _ => ?_)
            clear hK K
            try simp only [Act.put, List.setIfInBounds_toArray, List.set_cons_zero, List.set_cons_succ]
            refine wpAnyH_done (by kernel_rfl) ?_ _
            exact REST.out v35.heap.size v42.heap.size X Y q2 hpX hpY (hq2.sub (by simp) (by simp))
          · go_simp
            have hk44 := hk41.zero
            generalize v41.alloc (zbx 25) = v44 at hk44 ⊢
            refine hK.out _ _ (hk44.has (w.heap.size, nbx T) (by simp)) (fun _ => ?_)
            clear hK K
            try simp only [Act.put, List.setIfInBounds_toArray, List.set_cons_zero, List.set_cons_succ]
            refine wpAnyH_ready (rs := [4]) (by kernel_rfl) (by simp) ?_
            refine AllReadyH.cons rfl (fun K hK => ?_) AllReadyH.nil
            go_simp
            refine (CST.out _ (hk44.tree (T := T) (by simp))).mono ?_
            rintro r v45 ⟨Y, rfl, hpY, hTY, hbY⟩
            have hk45 := hk44.call hbY hTY
            refine hK.out _ _ (hk45.has (w.heap.size, nbx T) (by simp)) (fun _ => ?_)
            clear hK K
            try simp only [Act.put, List.setIfInBounds_toArray, List.set_cons_zero, List.set_cons_succ]
            have hsw := hk45.swap
            refine wpAnyH_ready (rs := [7]) (by kernel_rfl) (by simp) ?_
            refine AllReadyH.cons rfl (fun K hK => ?_) AllReadyH.nil
            refine step_store_node (by rfl) 25 (.tmp 11) (.tmp 36) (by rfl) size_tnode v35.heap.size X (by rfl) (by rfl) (hsw.zb v35.heap.size (by simp)).2 ?_
            have hq1 := hsw.store X
            generalize set5 v45 v35.heap.size X = q1 at hq1 ⊢
            refine hK.out _ _ (hq1.has (w.heap.size, nbx T) (by simp)) (fun _ => ?_)
            clear hK K
            try simp only [Act.put, List.setIfInBounds_toArray, List.set_cons_zero, List.set_cons_succ]
            refine wpAnyH_ready (rs := [8]) (by kernel_rfl) (by simp) ?_
            refine AllReadyH.cons rfl (fun K hK => ?_) AllReadyH.nil
            refine step_store_node (by rfl) 25 (.tmp 12) (.tmp 38) (by rfl) size_tnode v41.heap.size Y (by rfl) (by rfl) (hq1.zb v41.heap.size (by simp)).2 ?_
            have hq2 := hq1.store Y
            generalize set5 q1 v41.heap.size Y = q2 at hq2 ⊢
            refine hK.out _ _ (hq2.has (w.heap.size, nbx T) (by simp)) (fun _ => ?_)
            clear hK K
            try simp only [Act.put, List.setIfInBounds_toArray, List.set_cons_zero, List.set_cons_succ]
            refine wpAnyH_done (by kernel_rfl) ?_ _
            exact REST.out v35.heap.size v41.heap.size X Y q2 hpX hpY (hq2.sub (by simp) (by simp))
        · go_simp
          have hk46 := hk35.zero
          generalize v35.alloc (zbx 25) = v46 at hk46 ⊢
          refine hK.out _ _ (hk46.has (w.heap.size, nbx T) (by simp)) (fun _ => ?_)
          clear hK K
          try simp only [Act.put, List.setIfInBounds_toArray, List.set_cons_zero, List.set_cons_succ]
          refine wpAnyH_ready (rs := [4, 5]) (by kernel_rfl) (by simp) ?_
          refine AllReadyH.cons rfl (fun K hK => ?_) (AllReadyH.cons rfl (fun K hK => ?_) AllReadyH.nil)
          · go_simp
            refine (CST.out _ (hk46.tree (T := T) (by simp))).mono ?_
            rintro r v47 ⟨Y, rfl, hpY, hTY, hbY⟩
            have hk47 := hk46.call hbY hTY
            refine hK.out _ _ (hk47.has (w.heap.size, nbx T) (by simp)) (fun _ => ?_)
            clear hK K
            try simp only [Act.put, List.setIfInBounds_toArray, List.set_cons_zero, List.set_cons_succ]
            refine wpAnyH_ready (rs := [5]) (by kernel_rfl) (by simp) ?_
            refine AllReadyH.cons rfl (fun K hK => ?_) AllReadyH.nil
            go_simp
            have hk48 := hk47.zero
            generalize v47.alloc (zbx 25) = v48 at hk48 ⊢
            refine hK.out _ _ (hk48.has (w.heap.size, nbx T) (by simp)) (fun _ => ?_)
            clear hK K
            try simp only [Act.put, List.setIfInBounds_toArray, List.set_cons_zero, List.set_cons_succ]
            refine wpAnyH_ready (rs := [7]) (by kernel_rfl) (by simp) ?_
            refine AllReadyH.cons rfl (fun K hK => ?_) AllReadyH.nil
            refine step_store_node (by rfl) 25 (.tmp 11) (.tmp 36) (by rfl) size_tnode v47.heap.size X (by rfl) (by rfl) (hk48.zb v47.heap.size (by simp)).2 ?_
            have hq1 := hk48.store X
            generalize set5 v48 v47.heap.size X = q1 at hq1 ⊢
            refine hK.out _ _ (hq1.has (w.heap.size, nbx T) (by simp)) (fun _ => ?_)
            clear hK K
            try simp only [Act.put, List.setIfInBounds_toArray, List.set_cons_zero, List.set_cons_succ]
            refine wpAnyH_ready (rs := [8]) (by kernel_rfl) (by simp) ?_
            refine AllReadyH.cons rfl (fun K hK => ?_) AllReadyH.nil
            refine step_store_node (by rfl) 25 (.tmp 12) (.tmp 38) (by rfl) size_tnode v35.heap.size Y (by rfl) (by rfl) (hq1.zb v35.heap.size (by simp)).2 ?_
            have hq2 := hq1.store Y
            generalize set5 q1 v35.heap.size Y = q2 at hq2 ⊢
            refine hK.out _ _ (hq2.has (w.heap.size, nbx T) (by simp)) (fun _ => ?_)
            clear hK K
            try simp only [Act.put, List.setIfInBounds_toArray, List.set_cons_zero, List.set_cons_succ]
            refine wpAnyH_done (by kernel_rfl) ?_ _
            exact REST.out v47.heap.size v35.heap.size X Y q2 hpX hpY (hq2.sub (by simp) (by simp))
          · go_simp
            have hk49 := hk46.zero
            generalize v46.alloc (zbx 25) = v49 at hk49 ⊢
            refine hK.out _ _ (hk49.has (w.heap.size, nbx T) (by simp)) (fun _ => ?_)
            clear hK K
            try simp only [Act.put, List.setIfInBounds_toArray, List.set_cons_zero, List.set_cons_succ]
            refine wpAnyH_ready (rs := [4]) (by kernel_rfl) (by simp) ?_
            refine AllReadyH.cons rfl (fun K hK => ?_) AllReadyH.nil
            go_simp
            refine (CST.out _ (hk49.tree (T := T) (by simp))).mono ?_
            rintro r v50 ⟨Y, rfl, hpY, hTY, hbY⟩
            have hk50 := hk49.call hbY hTY
            refine hK.out _ _ (hk50.has (w.heap.size, nbx T) (by simp)) (fun _ => ?_)
            clear hK K
            try simp only [Act.put, List.setIfInBounds_toArray, List.set_cons_zero, List.set_cons_succ]
            refine wpAnyH_ready (rs := [7]) (by kernel_rfl) (by simp) ?_
            refine AllReadyH.cons rfl (fun K hK => ?_) AllReadyH.nil
            refine step_store_node (by rfl) 25 (.tmp 11) (.tmp 36) (by rfl) size_tnode v46.heap.size X (by rfl) (by rfl) (hk50.zb v46.heap.size (by simp)).2 ?_
            have hq1 := hk50.store X
            generalize set5 v50 v46.heap.size X = q1 at hq1 ⊢
            refine hK.out _ _ (hq1.has (w.heap.size, nbx T) (by simp)) (fun _ => ?_)
            clear hK K
            try simp only [Act.put, List.setIfInBounds_toArray, List.set_cons_zero, List.set_cons_succ]
            refine wpAnyH_ready (rs := [8]) (by kernel_rfl) (by simp) ?_
            refine AllReadyH.cons rfl (fun K hK => ?_) AllReadyH.nil
            refine step_store_node (by rfl) 25 (.tmp 12) (.tmp 38) (by rfl) size_tnode v35.heap.size Y (by rfl) (by rfl) (hq1.zb v35.heap.size (by simp)).2 ?_
            have hq2 := hq1.store Y
            generalize set5 q1 v35.heap.size Y = q2 at hq2 ⊢
            refine hK.out _ _ (hq2.has (w.heap.size, nbx T) (by simp)) (fun _ => ?_)
            clear hK K
            try simp only [Act.put, List.setIfInBounds_toArray, List.set_cons_zero, List.set_cons_succ]
            refine wpAnyH_done (by kernel_rfl) ?_ _
            exact REST.out v46.heap.size v35.heap.size X Y q2 hpX hpY (hq2.sub (by simp) (by simp))
      · go_simp
        have hk51 := hk.zero
        generalize wd.alloc (zbx 25) = v51 at hk51 ⊢
        refine hK.out _ _ (hk51.has (w.heap.size, nbx T) (by simp)) (fun _ => ?_)
        clear hK K
        try simp only [Act.put, List.setIfInBounds_toArray, List.set_cons_zero, List.set_cons_succ]
        refine wpAnyH_ready (rs := [2, 6]) (by kernel_rfl) (by simp) ?_
        refine AllReadyH.cons rfl (fun K hK => ?_) (AllReadyH.cons rfl (fun K hK => ?_) AllReadyH.nil)
        · go_simp
          refine (CPL.out _ (hk51.tree (T := T) (by simp))).mono ?_
          rintro r v52 ⟨X, rfl, hpX, hTX, hbX⟩
          have hk52 := hk51.call hbX hTX
          refine hK.out _ _ (hk52.has (w.heap.size, nbx T) (by simp)) (fun _ => ?_)
          clear hK K
          try simp only [Act.put, List.setIfInBounds_toArray, List.set_cons_zero, List.set_cons_succ]
          refine wpAnyH_ready (rs := [4, 6]) (by kernel_rfl) (by simp) ?_
          refine AllReadyH.cons rfl (fun K hK => ?_) (AllReadyH.cons rfl (fun K hK => ?_) AllReadyH.nil)
          · go_simp
            refine (CST.out _ (hk52.tree (T := T) (by simp))).mono ?_
            rintro r v53 ⟨Y, rfl, hpY, hTY, hbY⟩
            have hk53 := hk52.call hbY hTY
            refine hK.out _ _ (hk53.has (w.heap.size, nbx T) (by simp)) (fun _ => ?_)
            clear hK K
            try simp only [Act.put, List.setIfInBounds_toArray, List.set_cons_zero, List.set_cons_succ]
            refine wpAnyH_ready (rs := [6]) (by kernel_rfl) (by simp) ?_
            refine AllReadyH.cons rfl (fun K hK => ?_) AllReadyH.nil
            go_simp
            have hk54 := hk53.zero
            generalize v53.alloc (zbx 25) = v54 at hk54 ⊢
            refine hK.out _ _ (hk54.has (w.heap.size, nbx T) (by simp)) (fun _ => ?_)
            clear hK K
            try simp only [Act.put, List.setIfInBounds_toArray, List.set_cons_zero, List.set_cons_succ]
            have hsw := hk54.swap
            refine wpAnyH_ready (rs := [7]) (by kernel_rfl) (by simp) ?_
            refine AllReadyH.cons rfl (fun K hK => ?_) AllReadyH.nil
            refine step_store_node (by rfl) 25 (.tmp 11) (.tmp 36) (by rfl) size_tnode wd.heap.size X (by rfl) (by rfl) (hsw.zb wd.heap.size (by simp)).2 ?_
            have hq1 := hsw.store X
            generalize set5 v54 wd.heap.size X = q1 at hq1 ⊢
            refine hK.out _ _ (hq1.has (w.heap.size, nbx T) (by simp)) (fun _ => ?_)
            clear hK K
            try simp only [Act.put, List.setIfInBounds_toArray, List.set_cons_zero, List.set_cons_succ]
            refine wpAnyH_ready (rs := [8]) (by kernel_rfl) (by simp) ?_
            refine AllReadyH.cons rfl (fun K hK => ?_) AllReadyH.nil
            refine step_store_node (by rfl) 25 (.tmp 12) (.tmp 38) (by rfl) size_tnode v53.heap.size Y (by rfl) (by rfl) (hq1.zb v53.heap.size (by simp)).2 ?_
            have hq2 := hq1.store Y
            generalize set5 q1 v53.heap.size Y = q2 at hq2 ⊢
            refine hK.out _ _ (hq2.has (w.heap.size, nbx T) (by simp)) (fun _ => ?_)
            clear hK K
            try simp only [Act.put, List.setIfInBounds_toArray, List.set_cons_zero, List.set_cons_succ]
            refine wpAnyH_done (by kernel_rfl) ?_ _
            exact REST.out wd.heap.size v53.heap.size X Y q2 hpX hpY (hq2.sub (by simp) (by simp))
          · go_simp
            have hk55 := hk52.zero
            generalize v52.alloc (zbx 25) = v55 at hk55 ⊢
            refine hK.out _ _ (hk55.has (w.heap.size, nbx T) (by simp)) (fun _ => ?_)
            clear hK K
            try simp only [Act.put, List.setIfInBounds_toArray, List.set_cons_zero, List.set_cons_succ]
            refine wpAnyH_ready (rs := [4]) (by kernel_rfl) (by simp) ?_
            refine AllReadyH.cons rfl (fun K hK => ?_) AllReadyH.nil
            go_simp
            refine (CST.out _ (hk55.tree (T := T) (by simp))).mono ?_
            rintro r v56 ⟨Y, rfl, hpY, hTY, hbY⟩
            have hk56 := hk55.call hbY hTY
            refine hK.out _ _ (hk56.has (w.heap.size, nbx T) (by simp)) (fun _ => ?_)
            clear hK K
            try simp only [Act.put, List.setIfInBounds_toArray, List.set_cons_zero, List.set_cons_succ]
            have hsw := hk56.swap
            refine wpAnyH_ready (rs := [7]) (by kernel_rfl) (by simp) ?_
            refine AllReadyH.cons rfl (fun K hK => ?_) AllReadyH.nil
            refine step_store_node (by rfl) 25 (.tmp 11) (.tmp 36) (by rfl) size_tnode wd.heap.size X (by rfl) (by rfl) (hsw.zb wd.heap.size (by simp)).2 ?_
            have hq1 := hsw.store X
            generalize set5 v56 wd.heap.size X = q1 at hq1 ⊢
            refine hK.out _ _ (hq1.has (w.heap.size, nbx T) (by simp)) (fun _ => ?_)
            clear hK K
            try simp only [Act.put, List.setIfInBounds_toArray, List.set_cons_zero, List.set_cons_succ]
            refine wpAnyH_ready (rs := [8]) (by kernel_rfl) (by simp) ?_
            refine AllReadyH.cons rfl (fun K hK => ?_) AllReadyH.nil
            refine step_store_node (by rfl) 25 (.tmp 12) (.tmp 38) (by rfl) size_tnode v52.heap.size Y (by rfl) (by rfl) (hq1.zb v52.heap.size (by simp)).2 ?_
            have hq2 := hq1.store Y
            generalize set5 q1 v52.heap.size Y = q2 at hq2 ⊢
            refine hK.out _ _ (hq2.has (w.heap.size, nbx T) (by simp)) (fun _ => ?_)
            clear hK K
            try simp only [Act.put, List.setIfInBounds_toArray, List.set_cons_zero, List.set_cons_succ]
            refine wpAnyH_done (by kernel_rfl) ?_ _
            exact REST.out wd.heap.size v52.heap.size X Y q2 hpX hpY (hq2.sub (by simp) (by simp))
        · go_simp
          have hk57 := hk51.zero
          generalize v51.alloc (zbx 25) = v57 at hk57 ⊢
          refine hK.out _ _ (hk57.has (w.heap.size, nbx T) (by simp)) (fun _ => ?_)
          clear hK K
          try simp only [Act.put, List.setIfInBounds_toArray, List.set_cons_zero, List.set_cons_succ]
          refine wpAnyH_ready (rs := [2]) (by kernel_rfl) (by simp) ?_
          refine AllReadyH.cons rfl (fun K hK => ?_) AllReadyH.nil
          go_simp
          refine (CPL.out _ (hk57.tree (T := T) (by simp))).mono ?_
          rintro r v58 ⟨X, rfl, hpX, hTX, hbX⟩
          have hk58 := hk57.call hbX hTX
          refine hK.out _ _ (hk58.has (w.heap.size, nbx T) (by simp)) (fun _ => ?_)
          clear hK K
          try simp only [Act.put, List.setIfInBounds_toArray, List.set_cons_zero, List.set_cons_succ]
          refine wpAnyH_ready (rs := [4]) (by kernel_rfl) (by simp) ?_
          refine AllReadyH.cons rfl (fun K hK => ?_) AllReadyH.nil
          go_simp
          refine (CST.out _ (hk58.tree (T := T) (by simp))).mono ?_
          rintro r v59 ⟨Y, rfl, hpY, hTY, hbY⟩
          have hk59 := hk58.call hbY hTY
          refine hK.out _ _ (hk59.has (w.heap.size, nbx T) (by simp)) (fun _ => ?_)
          clear hK K
          try simp only [Act.put, List.setIfInBounds_toArray, List.set_cons_zero, List.set_cons_succ]
          have hsw := hk59.swap
          refine wpAnyH_ready (rs := [7]) (by kernel_rfl) (by simp) ?_
          refine AllReadyH.cons rfl (fun K hK => ?_) AllReadyH.nil
          refine step_store_node (by rfl) 25 (.tmp 11) (.tmp 36) (by rfl) size_tnode wd.heap.size X (by rfl) (by rfl) (hsw.zb wd.heap.size (by simp)).2 ?_
          have hq1 := hsw.store X
          generalize set5 v59 wd.heap.size X = q1 at hq1 ⊢
          refine hK.out _ _ (hq1.has (w.heap.size, nbx T) (by simp)) (fun _ => ?_)
          clear hK K
          try simp only [Act.put, List.setIfInBounds_toArray, List.set_cons_zero, List.set_cons_succ]
          refine wpAnyH_ready (rs := [8]) (by kernel_rfl) (by simp) ?_
          refine AllReadyH.cons rfl (fun K hK => ?_) AllReadyH.nil
          refine step_store_node (by rfl) 25 (.tmp 12) (.tmp 38) (by rfl) size_tnode v51.heap.size Y (by rfl) (by rfl) (hq1.zb v51.heap.size (by simp)).2 ?_
          have hq2 := hq1.store Y
          generalize set5 q1 v51.heap.size Y = q2 at hq2 ⊢
          refine hK.out _ _ (hq2.has (w.heap.size, nbx T) (by simp)) (fun _ => ?_)
          clear hK K
          try simp only [Act.put, List.setIfInBounds_toArray, List.set_cons_zero, List.set_cons_succ]
          refine wpAnyH_done (by kernel_rfl) ?_ _
          exact REST.out wd.heap.size v51.heap.size X Y q2 hpX hpY (hq2.sub (by simp) (by simp))
      · go_simp
        have hk60 := hk.zero
        generalize wd.alloc (zbx 25) = v60 at hk60 ⊢
        refine hK.out _ _ (hk60.has (w.heap.size, nbx T) (by simp)) (fun _ => ?_)
        clear hK K
        try simp only [Act.put, List.setIfInBounds_toArray, List.set_cons_zero, List.set_cons_succ]
        refine wpAnyH_ready (rs := [2, 5]) (by kernel_rfl) (by simp) ?_
        refine AllReadyH.cons rfl (fun K hK => ?_) (AllReadyH.cons rfl (fun K hK => ?_) AllReadyH.nil)
        · go_simp
          refine (CPL.out _ (hk60.tree (T := T) (by simp))).mono ?_
          rintro r v61 ⟨X, rfl, hpX, hTX, hbX⟩
          have hk61 := hk60.call hbX hTX
          refine hK.out _ _ (hk61.has (w.heap.size, nbx T) (by simp)) (fun _ => ?_)
          clear hK K
          try simp only [Act.put, List.setIfInBounds_toArray, List.set_cons_zero, List.set_cons_succ]
          refine wpAnyH_ready (rs := [4, 5]) (by kernel_rfl) (by simp) ?_
          refine AllReadyH.cons rfl (fun K hK => ?_) (AllReadyH.cons rfl (fun K hK => ?_) AllReadyH.nil)
          · go_simp
            refine (CST.out _ (hk61.tree (T := T) (by simp))).mono ?_
            rintro r v62 ⟨Y, rfl, hpY, hTY, hbY⟩
            have hk62 := hk61.call hbY hTY
            refine hK.out _ _ (hk62.has (w.heap.size, nbx T) (by simp)) (fun _ => ?_)
            clear hK K
            try simp only [Act.put, List.setIfInBounds_toArray, List.set_cons_zero, List.set_cons_succ]
            refine wpAnyH_ready (rs := [5]) (by kernel_rfl) (by simp) ?_
            refine AllReadyH.cons rfl (fun K hK => ?_) AllReadyH.nil
            go_simp
            have hk63 := hk62.zero
            generalize v62.alloc (zbx 25) = v63 at hk63 ⊢
            refine hK.out _ _ (hk63.has (w.heap.size, nbx T) (by simp)) (fun _ => ?_)
            clear hK K
            try simp only [Act.put, List.setIfInBounds_toArray, List.set_cons_zero, List.set_cons_succ]
            refine wpAnyH_ready (rs := [7]) (by kernel_rfl) (by simp) ?_
            refine AllReadyH.cons rfl (fun K hK => ?_) AllReadyH.nil
            refine step_store_node (by rfl) 25 (.tmp 11) (.tmp 36) (by rfl) size_tnode v62.heap.size X (by rfl) (by rfl) (hk63.zb v62.heap.size (by simp)).2 ?_
            have hq1 := hk63.store X
            generalize set5 v63 v62.heap.size X = q1 at hq1 ⊢
            refine hK.out _ _ (hq1.has (w.heap.size, nbx T) (by simp)) (fun _ => ?_)
            clear hK K
            try simp only [Act.put, List.setIfInBounds_toArray, List.set_cons_zero, List.set_cons_succ]
            refine wpAnyH_ready (rs := [8]) (by kernel_rfl) (by simp) ?_
            refine AllReadyH.cons rfl (fun K hK => ?_) AllReadyH.nil
            refine step_store_node (by rfl) 25 (.tmp 12) (.tmp 38) (by rfl) size_tnode wd.heap.size Y (by rfl) (by rfl) (hq1.zb wd.heap.size (by simp)).2 ?_
            have hq2 := hq1.store Y
            generalize set5 q1 wd.heap.size Y = q2 at hq2 ⊢
            refine hK.out _ _ (hq2.has (w.heap.size, nbx T) (by simp)) (fun _ => ?_)
            clear hK K
            try simp only [Act.put, List.setIfInBounds_toArray, List.set_cons_zero, List.set_cons_succ]
            refine wpAnyH_done (by kernel_rfl) ?_ _
            exact REST.out v62.heap.size wd.heap.size X Y q2 hpX hpY (hq2.sub (by simp) (by simp))
          · go_simp
            have hk64 := hk61.zero
            generalize v61.alloc (zbx 25) = v64 at hk64 ⊢
            refine hK.out _ _ (hk64.has (w.heap.size, nbx T) (by simp)) (fun _ => ?_)
            clear hK K
            try simp only [Act.put, List.setIfInBounds_toArray, List.set_cons_zero, List.set_cons_succ]
            refine wpAnyH_ready (rs := [4]) (by kernel_rfl) (by simp) ?_
            refine AllReadyH.cons rfl (fun K hK => ?_) AllReadyH.nil
            go_simp
            refine (CST.out _ (hk64.tree (T := T) (by simp))).mono ?_
            rintro r v65 ⟨Y, rfl, hpY, hTY, hbY⟩
            have hk65 := hk64.call hbY hTY
            refine hK.out _ _ (hk65.has (w.heap.size, nbx T) (by simp)) (fun _ => ?_)
            clear hK K
            try simp only [Act.put, List.setIfInBounds_toArray, List.set_cons_zero, List.set_cons_succ]
            refine wpAnyH_ready (rs := [7]) (by kernel_rfl) (by simp) ?_
            refine AllReadyH.cons rfl (fun K hK => ?_) AllReadyH.nil
            refine step_store_node (by rfl) 25 (.tmp 11) (.tmp 36) (by rfl) size_tnode v61.heap.size X (by rfl) (by rfl) (hk65.zb v61.heap.size (by simp)).2 ?_
            have hq1 := hk65.store X
            generalize set5 v65 v61.heap.size X = q1 at hq1 ⊢
            refine hK.out _ _ (hq1.has (w.heap.size, nbx T) (by simp)) (fun _ => ?_)
            clear hK K
            try simp only [Act.put, List.setIfInBounds_toArray, List.set_cons_zero, List.set_cons_succ]
            refine wpAnyH_ready (rs := [8]) (by kernel_rfl) (by simp) ?_
            refine AllReadyH.cons rfl (fun K hK => ?_) AllReadyH.nil
            refine step_store_node (by rfl) 25 (.tmp 12) (.tmp 38) (by rfl) size_tnode wd.heap.size Y (by rfl) (by rfl) (hq1.zb wd.heap.size (by simp)).2 ?_
            have hq2 := hq1.store Y
            generalize set5 q1 wd.heap.size Y = q2 at hq2 ⊢
            refine hK.out _ _ (hq2.has (w.heap.size, nbx T) (by simp)) (fun _ => ?_)
            clear hK K
            try simp only [Act.put, List.setIfInBounds_toArray, List.set_cons_zero, List.set_cons_succ]
            refine wpAnyH_done (by kernel_rfl) ?_ _
            exact REST.out v61.heap.size wd.heap.size X Y q2 hpX hpY (hq2.sub (by simp) (by simp))
        · go_simp
          have hk66 := hk60.zero
          generalize v60.alloc (zbx 25) = v66 at hk66 ⊢
          refine hK.out _ _ (hk66.has (w.heap.size, nbx T) (by simp)) (fun _ => ?_)
          clear hK K
          try simp only [Act.put, List.setIfInBounds_toArray, List.set_cons_zero, List.set_cons_succ]
          refine wpAnyH_ready (rs := [2]) (by kernel_rfl) (by simp) ?_
          refine AllReadyH.cons rfl (fun K hK => ?_) AllReadyH.nil
          go_simp
          refine (CPL.out _ (hk66.tree (T := T) (by simp))).mono ?_
          rintro r v67 ⟨X, rfl, hpX, hTX, hbX⟩
          have hk67 := hk66.call hbX hTX
          refine hK.out _ _ (hk67.has (w.heap.size, nbx T) (by simp)) (fun _ => ?_)
          clear hK K
          try simp only [Act.put, List.setIfInBounds_toArray, List.set_cons_zero, List.set_cons_succ]
          refine wpAnyH_ready (rs := [4]) (by kernel_rfl) (by simp) ?_
          refine AllReadyH.cons rfl (fun K hK => ?_) AllReadyH.nil
          go_simp
          refine (CST.out _ (hk67.tree (T := T) (by simp))).mono ?_
          rintro r v68 ⟨Y, rfl, hpY, hTY, hbY⟩
          have hk68 := hk67.call hbY hTY
          refine hK.out _ _ (hk68.has (w.heap.size, nbx T) (by simp)) (fun _ => ?_)
          clear hK K
          try simp only [Act.put, List.setIfInBounds_toArray, List.set_cons_zero, List.set_cons_succ]
          refine wpAnyH_ready (rs := [7]) (by kernel_rfl) (by simp) ?_
          refine AllReadyH.cons rfl (fun K hK => ?_) AllReadyH.nil
          refine step_store_node (by rfl) 25 (.tmp 11) (.tmp 36) (by rfl) size_tnode v60.heap.size X (by rfl) (by rfl) (hk68.zb v60.heap.size (by simp)).2 ?_
          have hq1 := hk68.store X
          generalize set5 v68 v60.heap.size X = q1 at hq1 ⊢
          refine hK.out _ _ (hq1.has (w.heap.size, nbx T) (by simp)) (fun _ => ?_)
          clear hK K
          try simp only [Act.put, List.setIfInBounds_toArray, List.set_cons_zero, List.set_cons_succ]
          refine wpAnyH_ready (rs := [8]) (by kernel_rfl) (by simp) ?_
          refine AllReadyH.cons rfl (fun K hK => ?_) AllReadyH.nil
          refine step_store_node (by rfl) 25 (.tmp 12) (.tmp 38) (by rfl) size_tnode wd.heap.size Y (by rfl) (by rfl) (hq1.zb wd.heap.size (by simp)).2 ?_
          have hq2 := hq1.store Y
          generalize set5 q1 wd.heap.size Y = q2 at hq2 ⊢
          refine hK.out _ _ (hq2.has (w.heap.size, nbx T) (by simp)) (fun _ => ?_)
          clear hK K
          try simp only [Act.put, List.setIfInBounds_toArray, List.set_cons_zero, List.set_cons_succ]
          refine wpAnyH_done (by kernel_rfl) ?_ _
          exact REST.out v60.heap.size wd.heap.size X Y q2 hpX hpY (hq2.sub (by simp) (by simp))
end Go.Proofs.Ytkjfheondlpnfaa
