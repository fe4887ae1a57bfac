/- The document's Same: are two trees the same? -/
import Derived.Test.YtjnclchbklehgaaGreatDoorTreeSame
import Derived.Test.YtjnclchbklehgaaGreatDoorTreeRefWalk
import Derived.Test.YtjnclchbklehgaaGreatDoorTextStore
namespace Go.Proofs.YtjnclchbklehgaaGreatDoor
open Go.RowKit TreeMath

abbrev rbx (T : Tr) : Obj := .cells (ncc T) 45 (0, 0)
theorem At5.row {w : World} {b o : Nat} {x : Tr} (h : At5 w b o x) : w.cell? ⟨b, o, none⟩ = some (.int .i64 x.k) ∧ w.cell? ⟨b, o + 1, none⟩ = some (.string x.g) ∧ w.cell? ⟨b, o + 2, none⟩ = some (.string x.t) ∧ w.cell? ⟨b, o + 3, none⟩ = some (.int .i64 x.a) ∧ w.cell? ⟨b, o + 4, none⟩ = some (.slice x.A x.kids.length x.c) := h
/-- what a round reads -/
def RsS (y b o b' o' : Nat) (T U x z : Tr) (W : World) : Prop := W.cell? ⟨y, 4, none⟩ = some (.slice T.A T.kids.length T.c) ∧ W.cell? ⟨y + 1, 4, none⟩ = some (.slice U.A U.kids.length U.c) ∧ At5 W b o x ∧ At5 W b' o' z

set_option maxRecDepth 100000 in
set_option maxHeartbeats 4000000 in
theorem rsame_any (T : Tr) : ∀ (U : Tr) (w : World), wt T ≤ 5000 → wt U ≤ 5000 → Tn (lo w.heap.size) w T → Tn (lo w.heap.size) w U →
    Calls Tryz.prog 47 #[nv T, nv U] w (AlV T U w) := by
  induction T using Tr.ind with | _ k g t a A c kids ih =>
  intro U w hw hv hT hU
  have hkl : kids.length < 5000 := by have := kids_le (T := ⟨k, g, t, a, A, c, kids⟩); simp only at this; omega
  have HT := Lib.hid hT
  have HU := Lib.hid hU
  have HI : Hid (∀ x ∈ kids, ∀ y ∈ U.kids, ∀ W, Below w.heap.size w W → Calls Tryz.prog 47 #[nv x, nv y] W (AlV x y W)) := Lib.hid fun x hx y hy W hb =>
    ih x hx y W (by have := wt_kid (T := ⟨k, g, t, a, A, c, kids⟩) hx; omega) (by have := wt_kid hy; omega) (((hT.kid hx).below hb).more hb.size) (((hU.kid hy).below hb).more hb.size)
  have HB := Lib.hid (below2 w (rbx ⟨k, g, t, a, A, c, kids⟩) (rbx U))
  have hs := sm_eq ⟨k, g, t, a, A, c, kids⟩ U
  clear ih hw hv hT hU
  unfold AlV
  obtain ⟨k', g', t', a', A', c', kids'⟩ := U
  simp only at HI hs
  by_cases hk : k = k'
  · subst hk
    by_cases hg : g = g'
    · subst hg
      by_cases ht : t = t'
      · subst ht
        by_cases ha : a = a'
        · subst ha
          by_cases hl : kids.length = kids'.length
          · have HV := Lib.hid hs
            simp only [decide_true, Bool.true_and, hl] at HV
            rw [HV.out]
            have e1 : ((kids.length : Int) != kids'.length) = false := by simp [hl]
            have HL := Lib.hid hl
            clear hs hl
            go_enter Tryz.func47, Tryz.ntmps47
            go_wp2
            go_loopw [5] (fun i wr => ∃ (j : Nat), i = .int .i64 j ∧ j ≤ kids.length ∧ Hid (sms (kids.take j) (kids'.take j) = true) ∧ Below ((w.alloc (rbx ⟨k, g, t, a, A, c, kids⟩)).alloc (rbx ⟨k, g, t, a, A', c', kids'⟩)).heap.size ((w.alloc (rbx ⟨k, g, t, a, A, c, kids⟩)).alloc (rbx ⟨k, g, t, a, A', c', kids'⟩)) wr) (fun i _ => kids.length + 1 - (intOf i).toNat)
            case atStart => exact ⟨0, rfl, Nat.zero_le _, Lib.hid rfl, Below.refl _ _⟩
            case round =>
              obtain ⟨j, rfl, hj, HJ, hW⟩ := hrel
              have hc := box5 (((Below.refl (w.alloc (rbx ⟨k, g, t, a, A, c, kids⟩)).heap.size _).alloc (Nat.le_refl _) (rbx ⟨k, g, t, a, A', c', kids'⟩)).trans (hW.mono (by simp)))
              have hd := box5 hW
              rw [World.size_alloc] at hd
              have hWw := HB.out.trans (hW.mono HB.out.size)
              by_cases hlt : j < kids.length
              · obtain ⟨x, hx⟩ : ∃ x, kids[j]? = some x := ⟨_, List.getElem?_eq_getElem hlt⟩
                obtain ⟨y, hy⟩ : ∃ y, kids'[j]? = some y := ⟨_, List.getElem?_eq_getElem (by have := HL.out; omega)⟩
                obtain ⟨b, off, rfl, hb, hcx⟩ := (HT.out.below hWw).at_ hx
                obtain ⟨b', off', rfl, hb', hcy⟩ := (HU.out.below hWw).at_ hy
                have HC := Lib.hid (fun W (h : Below w.heap.size w W) => HI.out x (List.mem_of_getElem? hx) y (List.mem_of_getElem? hy) W h)
                have HS : Hid (sm x y = false → sms kids kids' = false) := Lib.hid (sms_stop hx hy)
                have HN : Hid (sms (kids.take (j + 1)) (kids'.take (j + 1)) = (sms (kids.take j) (kids'.take j) && sm x y)) := Lib.hid (by
                  rw [List.take_add_one, List.take_add_one, hx, hy]
                  exact sms_snoc _ _ _ _ (by rw [List.length_take, List.length_take, HL.out]))
                have z4 : (0 : Int) ≤ j := by omega
                have z5 : (j : Int) < kids.length := by omega
                have z6 : (j : Int) < kids'.length := by have := HL.out; omega
                have hsz : w.heap.size + 2 ≤ wr.heap.size := by have := hW.size; simpa using this
                have HSS : Hid (∀ W', Below wr.heap.size wr W' → RsS w.heap.size b (off + j * 5) b' (off' + j * 5) ⟨k, g, t, a, some ⟨b, off, none⟩, c, kids⟩ ⟨k, g, t, a, some ⟨b', off', none⟩, c', kids'⟩ x y W') :=
                  Lib.hid fun W' h => ⟨(cell_of (h.block _ (by omega))).trans hc.2.2.2.2.1, (cell_of (h.block _ (by omega))).trans hd.2.2.2.2.1, hcx.keep fun i => cell_of (h.block _ (by have : b < w.heap.size := hb; omega)), hcy.keep fun i => cell_of (h.block _ (by have : b' < w.heap.size := hb'; omega))⟩
                have HWr := Lib.hid hW
                have HWw := Lib.hid hWw
                have hS : RsS w.heap.size b (off + j * 5) b' (off' + j * 5) ⟨k, g, t, a, some ⟨b, off, none⟩, c, kids⟩ ⟨k, g, t, a, some ⟨b', off', none⟩, c', kids'⟩ x y wr.drew := HSS.out wr.drew ⟨rfl, rfl, rfl, Nat.le_refl _, fun _ _ => rfl⟩
                unfold AlV at HC
                generalize sm x y = r at HC HS HN
                clear hcx hcy hx hy hb hb' hd hWw hW
                go_wp2_with fail
                rename_i K0 hK0
                refine wp_region_held (S := RsS w.heap.size b (off + j * 5) b' (off' + j * 5) ⟨k, g, t, a, some ⟨b, off, none⟩, c, kids⟩ ⟨k, g, t, a, some ⟨b', off', none⟩, c', kids'⟩ x y) (by kernel_rfl) ?_
                show wpAnyH _ _ _ _ _ _ _ _ wr.drew
                refine wpAnyH_take_d (i := 0) (v := .pointer (some ⟨w.heap.size, 4, none⟩)) 48 rfl rfl (by kernel_rfl) (by kernel_rfl) (by kernel_rfl) (fun _ _ _ h => h) (Or.inl ⟨by kernel_rfl, fun w' hS' => ?y0⟩) hS ?_
                case y0 => (obtain ⟨s4, u4, ⟨c0, c1, c2, c3, c4⟩, ⟨d0, d1, d2, d3, d4⟩⟩ := hS'; go_simp)
                simp only [Act.put, List.setIfInBounds_toArray, List.set_cons_zero, List.set_cons_succ]
                refine wpAnyH_take_d (i := 1) (v := .slice (some ⟨b, off, none⟩) kids.length c) 49 rfl rfl (by kernel_rfl) (by kernel_rfl) (by kernel_rfl) (fun _ _ _ h => h) (Or.inl ⟨by kernel_rfl, fun w' hS' => ?y1⟩) hS ?_
                case y1 => (obtain ⟨s4, u4, ⟨c0, c1, c2, c3, c4⟩, ⟨d0, d1, d2, d3, d4⟩⟩ := hS'; go_simp)
                simp only [Act.put, List.setIfInBounds_toArray, List.set_cons_zero, List.set_cons_succ]
                refine wpAnyH_take_d (i := 2) (v := .int .i64 (j : Nat)) 50 rfl rfl (by kernel_rfl) (by kernel_rfl) (by kernel_rfl) (fun _ _ _ h => h) (Or.inl ⟨by kernel_rfl, fun w' hS' => ?y2⟩) hS ?_
                case y2 => (obtain ⟨s4, u4, ⟨c0, c1, c2, c3, c4⟩, ⟨d0, d1, d2, d3, d4⟩⟩ := hS'; go_simp)
                simp only [Act.put, List.setIfInBounds_toArray, List.set_cons_zero, List.set_cons_succ]
                refine wpAnyH_take_d (i := 3) (v := .pointer (some ⟨b, off + j * 5, none⟩)) 51 rfl rfl (by kernel_rfl) (by kernel_rfl) (by kernel_rfl) (fun _ _ _ h => h) (Or.inl ⟨by kernel_rfl, fun w' hS' => ?y3⟩) hS ?_
                case y3 => (obtain ⟨s4, u4, ⟨c0, c1, c2, c3, c4⟩, ⟨d0, d1, d2, d3, d4⟩⟩ := hS'; go_simp)
                simp only [Act.put, List.setIfInBounds_toArray, List.set_cons_zero, List.set_cons_succ]
                refine wpAnyH_take_d (i := 4) (v := nv x) 52 rfl rfl (by kernel_rfl) (by kernel_rfl) (by kernel_rfl) (fun _ _ _ h => h) (Or.inl ⟨by kernel_rfl, fun w' hS' => ?y4⟩) hS ?_
                case y4 => (obtain ⟨s4, u4, ⟨c0, c1, c2, c3, c4⟩, ⟨d0, d1, d2, d3, d4⟩⟩ := hS'; go_simp)
                simp only [Act.put, List.setIfInBounds_toArray, List.set_cons_zero, List.set_cons_succ]
                refine wpAnyH_take_d (i := 5) (v := .pointer (some ⟨w.heap.size + 1, 4, none⟩)) 53 rfl rfl (by kernel_rfl) (by kernel_rfl) (by kernel_rfl) (fun _ _ _ h => h) (Or.inl ⟨by kernel_rfl, fun w' hS' => ?y5⟩) hS ?_
                case y5 => (obtain ⟨s4, u4, ⟨c0, c1, c2, c3, c4⟩, ⟨d0, d1, d2, d3, d4⟩⟩ := hS'; go_simp)
                simp only [Act.put, List.setIfInBounds_toArray, List.set_cons_zero, List.set_cons_succ]
                refine wpAnyH_take_d (i := 6) (v := .slice (some ⟨b', off', none⟩) kids'.length c') 54 rfl rfl (by kernel_rfl) (by kernel_rfl) (by kernel_rfl) (fun _ _ _ h => h) (Or.inl ⟨by kernel_rfl, fun w' hS' => ?y6⟩) hS ?_
                case y6 => (obtain ⟨s4, u4, ⟨c0, c1, c2, c3, c4⟩, ⟨d0, d1, d2, d3, d4⟩⟩ := hS'; go_simp)
                simp only [Act.put, List.setIfInBounds_toArray, List.set_cons_zero, List.set_cons_succ]
                refine wpAnyH_take_d (i := 7) (v := .int .i64 (j : Nat)) 55 rfl rfl (by kernel_rfl) (by kernel_rfl) (by kernel_rfl) (fun _ _ _ h => h) (Or.inl ⟨by kernel_rfl, fun w' hS' => ?y7⟩) hS ?_
                case y7 => (obtain ⟨s4, u4, ⟨c0, c1, c2, c3, c4⟩, ⟨d0, d1, d2, d3, d4⟩⟩ := hS'; go_simp)
                simp only [Act.put, List.setIfInBounds_toArray, List.set_cons_zero, List.set_cons_succ]
                refine wpAnyH_take_d (i := 8) (v := .pointer (some ⟨b', off' + j * 5, none⟩)) 56 rfl rfl (by kernel_rfl) (by kernel_rfl) (by kernel_rfl) (fun _ _ _ h => h) (Or.inl ⟨by kernel_rfl, fun w' hS' => ?y8⟩) hS ?_
                case y8 => (obtain ⟨s4, u4, ⟨c0, c1, c2, c3, c4⟩, ⟨d0, d1, d2, d3, d4⟩⟩ := hS'; go_simp)
                simp only [Act.put, List.setIfInBounds_toArray, List.set_cons_zero, List.set_cons_succ]
                refine wpAnyH_take_d (i := 9) (v := nv y) 57 rfl rfl (by kernel_rfl) (by kernel_rfl) (by kernel_rfl) (fun _ _ _ h => h) (Or.inl ⟨by kernel_rfl, fun w' hS' => ?y9⟩) hS ?_
                case y9 => (obtain ⟨s4, u4, ⟨c0, c1, c2, c3, c4⟩, ⟨d0, d1, d2, d3, d4⟩⟩ := hS'; go_simp)
                simp only [Act.put, List.setIfInBounds_toArray, List.set_cons_zero, List.set_cons_succ]
                refine wpAnyH_ready (rs := [10]) (by kernel_rfl) (by simp) ?_
                refine AllReadyH.cons rfl (fun K hK => ?_) AllReadyH.nil
                go_simp
                refine (HC.out wr.drew ⟨HWw.out.os, HWw.out.tape, HWw.out.output, HWw.out.size, HWw.out.block⟩).mono ?_
                rintro e w1 ⟨rfl, hb1⟩
                have hb2 : Below wr.heap.size wr w1 := ⟨hb1.os, hb1.tape, hb1.output, hb1.size, hb1.block⟩
                refine hK.out _ _ (HSS.out w1 hb2) (fun _ => ?_)
                clear hK K
                try simp only [Act.put, List.setIfInBounds_toArray, List.set_cons_zero, List.set_cons_succ]
                have hS1 := HSS.out w1 hb2
                refine wpAnyH_take_d (i := 11) (v := .bool !r) 59 rfl rfl (by kernel_rfl) (by kernel_rfl) (by kernel_rfl) (fun _ _ _ h => h) (Or.inl ⟨by kernel_rfl, fun w' hS' => ?y11⟩) hS1 ?_
                case y11 => (obtain ⟨s4, u4, ⟨c0, c1, c2, c3, c4⟩, ⟨d0, d1, d2, d3, d4⟩⟩ := hS'; go_simp)
                simp only [Act.put, List.setIfInBounds_toArray, List.set_cons_zero, List.set_cons_succ]
                refine wpAnyH_done (by kernel_rfl) ?_ _
                refine hK0 _ _ ?_
                have HE := Lib.hid (HWw.out.trans (hb2.mono HWw.out.size))
                have HE2 := Lib.hid (HWr.out.trans (hb2.mono HWr.out.size))
                clear hS hS1 hb1 hb2 hc
                cases r with
                | false =>
                  go_wp2
                  go_ret
                  exact ⟨by rw [HS.out (by trivial)]; rfl, HE.out⟩
                | true =>
                  go_wp2
                  go_roundw
                  case rel => exact ⟨j + 1, by go_num, by omega, Lib.hid (by rw [HN.out, HJ.out]; rfl), HE2.out⟩
                  case measure => simp [intOf]; omega
              · obtain rfl : j = kids.length := by omega
                have HS : Hid (sms kids kids' = true) := Lib.hid (by have := HJ.out; rwa [List.take_length, show kids'.take kids.length = kids' from by rw [HL.out, List.take_length]] at this)
                have HWw := Lib.hid hWw
                clear hW hWw hd
                go_wp2
                go_ret
                exact ⟨by rw [HS.out]; rfl, HWw.out⟩
          · have e1 : ((kids.length : Int) != kids'.length) = true := by simp; omega
            have HV := Lib.hid hs
            simp only [hl, decide_false, Bool.and_false, Bool.false_and] at HV
            rw [HV.out]
            clear hs hl
            go_enter Tryz.func47, Tryz.ntmps47
            go_wp2
            go_ret
            exact ⟨rfl, HB.out⟩
        · have e1 : (a != a') = true := by simp [ha]
          have HV := Lib.hid hs
          simp only [ha, decide_false, Bool.and_false, Bool.false_and] at HV
          rw [HV.out]
          clear hs ha
          go_enter Tryz.func47, Tryz.ntmps47
          go_wp2
          go_ret
          exact ⟨rfl, HB.out⟩
      · have e1 : (t.toList == t'.toList) = false := by simpa using bytes_ne ht
        have e2 : (t.toList != t'.toList) = true := by simpa using bytes_ne ht
        have HV := Lib.hid hs
        simp only [ht, decide_false, Bool.and_false, Bool.false_and] at HV
        rw [HV.out]
        clear hs
        go_enter Tryz.func47, Tryz.ntmps47
        go_wp2
        go_ret
        exact ⟨rfl, HB.out⟩
    · have e1 : (g.toList == g'.toList) = false := by simpa using bytes_ne hg
      have e2 : (g.toList != g'.toList) = true := by simpa using bytes_ne hg
      have HV := Lib.hid hs
      simp only [hg, decide_false, Bool.and_false, Bool.false_and] at HV
      rw [HV.out]
      clear hs
      go_enter Tryz.func47, Tryz.ntmps47
      go_wp2
      go_ret
      exact ⟨rfl, HB.out⟩
  · have e1 : (k != k') = true := by simp [hk]
    have HV := Lib.hid hs
    simp only [hk, decide_false, Bool.false_and] at HV
    rw [HV.out]
    clear hs hk
    go_enter Tryz.func47, Tryz.ntmps47
    go_wp2
    go_ret
    exact ⟨rfl, HB.out⟩
end Go.Proofs.YtjnclchbklehgaaGreatDoor
