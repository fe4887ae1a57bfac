/- Changed leaves do not hang on where a tree lies; what the law TreePlaces compares at its end. -/
import Derived.Test.YtfmlcddakfbleaaGreatDoorMzRel
import Derived.Test.YtfmlcddakfbleaaGreatDoorTreeSame
import Derived.Test.YtfmlcddakfbleaaGreatDoorMzColl
import Derived.Test.YtfmlcddakfbleaaGreatDoorTextStore
import Derived.Test.YtfmlcddakfbleaaGreatDoorTreeBox
import Derived.LoopN
namespace Go.Proofs.YtfmlcddakfbleaaGreatDoor
open Go.RowKit TreeMath

theorem cgs_pl {σ : Type} (f : σ → Tr → Tr × σ) {l : List Tr} (h : ∀ x ∈ l, ∀ s, cg f (pl x) s = cg f x s) : ∀ s, cgs f (l.map pl) s = cgs f l s := by
  induction l with
  | nil => intro s; rfl
  | cons x xs ih => intro s; rw [List.map_cons, cgs_cons, cgs_cons, h x (by simp), ih (fun y hy => h y (by simp [hy]))]
theorem cg_pl {σ : Type} (f : σ → Tr → Tr × σ) (T : Tr) : ∀ s, cg f (pl T) s = cg f T s := by
  induction T using Tr.ind with | _ k g t a A c kids ih =>
  intro s
  rw [pl_eq]
  rw [cg_eq f ⟨k, g, t, a, none, 0, kids.map pl⟩, cg_eq f ⟨k, g, t, a, A, c, kids⟩]
  simp only [tok, cgs_pl f ih]
theorem cg_same_of {σ : Type} (f : σ → Tr → Tr × σ) {T U : Tr} (h : pl U = pl T) (s : σ) : cg f U s = cg f T s := by rw [← cg_pl, h, cg_pl]
/-- all lists of a changed tree are plain -/
theorem pl_cgs {σ : Type} (f : σ → Tr → Tr × σ) {l : List Tr} (h : ∀ x ∈ l, ∀ s, pl (cg f x s).1 = (cg f x s).1) : ∀ s, (cgs f l s).1.map pl = (cgs f l s).1 := by
  induction l with
  | nil => intro s; rfl
  | cons x xs ih => intro s; rw [cgs_cons, List.map_cons, h x (by simp), ih (fun y hy => h y (by simp [hy]))]
theorem pl_cg {σ : Type} (f : σ → Tr → Tr × σ) (T : Tr) : ∀ s, pl (cg f T s).1 = (cg f T s).1 := by
  induction T using Tr.ind with | _ k g t a A c kids ih =>
  intro s
  rw [cg_eq]
  split
  · rw [pl_eq]; simp only [pl_cgs f ih]
  · rw [pl_eq]; simp only [pl_cgs f ih]
/-- two trees that read as the same plain one are the same -/
theorem sm_of {T U P : Tr} (h : pl T = P) (k : pl U = P) : sm T U = true := (sm_iff T U).2 (h.trans k.symm)
theorem sm_pls {T U T' U' : Tr} (h : pl T = pl T') (k : pl U = pl U') : sm T U = sm T' U' := by
  rw [Bool.eq_iff_iff, sm_iff, sm_iff, h, k]
end Go.Proofs.YtfmlcddakfbleaaGreatDoor

namespace Go.Proofs.YtfmlcddakfbleaaGreatDoor
open Go.RowKit TreeMath

abbrev rbx (T : Tr) : Obj := .cells (ncc T) 37 (0, 0)
theorem At5.row {w : World} {b o : Nat} {x : Tr} (h : At5 w b o x) : w.cell? ⟨b, o, none⟩ = some (.int .i64 x.k) ∧ w.cell? ⟨b, o + 1, none⟩ = some (.string x.g) ∧ w.cell? ⟨b, o + 2, none⟩ = some (.string x.t) ∧ w.cell? ⟨b, o + 3, none⟩ = some (.int .i64 x.a) ∧ w.cell? ⟨b, o + 4, none⟩ = some (.slice x.A x.kids.length x.c) := h
/-- what a round reads -/
def RsS (y b o b' o' : Nat) (T U x z : Tr) (W : World) : Prop := W.cell? ⟨y, 4, none⟩ = some (.slice T.A T.kids.length T.c) ∧ W.cell? ⟨y + 1, 4, none⟩ = some (.slice U.A U.kids.length U.c) ∧ At5 W b o x ∧ At5 W b' o' z

set_option maxRecDepth 100000 in
set_option maxHeartbeats 4000000 in
theorem rsame_any (T : Tr) : ∀ (U : Tr) (w : World), wt T ≤ 9000 → wt U ≤ 9000 → Tn (lo w.heap.size) w T → Tn (lo w.heap.size) w U →
    Calls Tryz.prog 39 #[nv T, nv U] w (AlV T U w) := by
  induction T using Tr.ind with | _ k g t a A c kids ih =>
  intro U w hw hv hT hU
  have hkl : kids.length < 9000 := by have := kids_le (T := ⟨k, g, t, a, A, c, kids⟩); simp only at this; omega
  have HT := Lib.hid hT
  have HU := Lib.hid hU
  have HI : Hid (∀ x ∈ kids, ∀ y ∈ U.kids, ∀ W, Below w.heap.size w W → Calls Tryz.prog 39 #[nv x, nv y] W (AlV x y W)) := Lib.hid fun x hx y hy W hb =>
    ih x hx y W (by have := wt_kid (T := ⟨k, g, t, a, A, c, kids⟩) hx; omega) (by have := wt_kid hy; omega) (((hT.kid hx).below hb).more hb.size) (((hU.kid hy).below hb).more hb.size)
  have HB := Lib.hid (below2 w (rbx ⟨k, g, t, a, A, c, kids⟩) (rbx U))
  have hs := sm_eq ⟨k, g, t, a, A, c, kids⟩ U
  clear ih hw hv hT hU
  unfold AlV
  obtain ⟨k', g', t', a', A', c', kids'⟩ := U
  simp only at HI hs
  by_cases hk : k = k'
  · subst hk
    by_cases hg : g = g'
    · subst hg
      by_cases ht : t = t'
      · subst ht
        by_cases ha : a = a'
        · subst ha
          by_cases hl : kids.length = kids'.length
          · have HV := Lib.hid hs
            simp only [decide_true, Bool.true_and, hl] at HV
            rw [HV.out]
            have e1 : ((kids.length : Int) != kids'.length) = false := by simp [hl]
            have HL := Lib.hid hl
            clear hs hl
            go_enter Tryz.func39, Tryz.ntmps39
            go_wp2
            go_loopw [5] (fun i wr => ∃ (j : Nat), i = .int .i64 j ∧ j ≤ kids.length ∧ Hid (sms (kids.take j) (kids'.take j) = true) ∧ Below ((w.alloc (rbx ⟨k, g, t, a, A, c, kids⟩)).alloc (rbx ⟨k, g, t, a, A', c', kids'⟩)).heap.size ((w.alloc (rbx ⟨k, g, t, a, A, c, kids⟩)).alloc (rbx ⟨k, g, t, a, A', c', kids'⟩)) wr) (fun i _ => kids.length + 1 - (intOf i).toNat)
            case atStart => exact ⟨0, rfl, Nat.zero_le _, Lib.hid rfl, Below.refl _ _⟩
            case round =>
              obtain ⟨j, rfl, hj, HJ, hW⟩ := hrel
              have hc := box5 (((Below.refl (w.alloc (rbx ⟨k, g, t, a, A, c, kids⟩)).heap.size _).alloc (Nat.le_refl _) (rbx ⟨k, g, t, a, A', c', kids'⟩)).trans (hW.mono (by simp)))
              have hd := box5 hW
              rw [World.size_alloc] at hd
              have hWw := HB.out.trans (hW.mono HB.out.size)
              by_cases hlt : j < kids.length
              · obtain ⟨x, hx⟩ : ∃ x, kids[j]? = some x := ⟨_, List.getElem?_eq_getElem hlt⟩
                obtain ⟨y, hy⟩ : ∃ y, kids'[j]? = some y := ⟨_, List.getElem?_eq_getElem (by have := HL.out; omega)⟩
                obtain ⟨b, off, rfl, hb, hcx⟩ := (HT.out.below hWw).at_ hx
                obtain ⟨b', off', rfl, hb', hcy⟩ := (HU.out.below hWw).at_ hy
                have HC := Lib.hid (fun W (h : Below w.heap.size w W) => HI.out x (List.mem_of_getElem? hx) y (List.mem_of_getElem? hy) W h)
                have HS : Hid (sm x y = false → sms kids kids' = false) := Lib.hid (sms_stop hx hy)
                have HN : Hid (sms (kids.take (j + 1)) (kids'.take (j + 1)) = (sms (kids.take j) (kids'.take j) && sm x y)) := Lib.hid (by
                  rw [List.take_add_one, List.take_add_one, hx, hy]
                  exact sms_snoc _ _ _ _ (by rw [List.length_take, List.length_take, HL.out]))
                have z4 : (0 : Int) ≤ j := by omega
                have z5 : (j : Int) < kids.length := by omega
                have z6 : (j : Int) < kids'.length := by have := HL.out; omega
                have hsz : w.heap.size + 2 ≤ wr.heap.size := by have := hW.size; simpa using this
                have HSS : Hid (∀ W', Below wr.heap.size wr W' → RsS w.heap.size b (off + j * 5) b' (off' + j * 5) ⟨k, g, t, a, some ⟨b, off, none⟩, c, kids⟩ ⟨k, g, t, a, some ⟨b', off', none⟩, c', kids'⟩ x y W') :=
                  Lib.hid fun W' h => ⟨(cell_of (h.block _ (by omega))).trans hc.2.2.2.2.1, (cell_of (h.block _ (by omega))).trans hd.2.2.2.2.1, hcx.keep fun i => cell_of (h.block _ (by have : b < w.heap.size := hb; omega)), hcy.keep fun i => cell_of (h.block _ (by have : b' < w.heap.size := hb'; omega))⟩
                have HWr := Lib.hid hW
                have HWw := Lib.hid hWw
                have hS : RsS w.heap.size b (off + j * 5) b' (off' + j * 5) ⟨k, g, t, a, some ⟨b, off, none⟩, c, kids⟩ ⟨k, g, t, a, some ⟨b', off', none⟩, c', kids'⟩ x y wr.drew := HSS.out wr.drew ⟨rfl, rfl, rfl, Nat.le_refl _, fun _ _ => rfl⟩
                unfold AlV at HC
                generalize sm x y = r at HC HS HN
                clear hcx hcy hx hy hb hb' hd hWw hW
                go_wp2_with fail
                rename_i K0 hK0
                refine wp_region_held (S := RsS w.heap.size b (off + j * 5) b' (off' + j * 5) ⟨k, g, t, a, some ⟨b, off, none⟩, c, kids⟩ ⟨k, g, t, a, some ⟨b', off', none⟩, c', kids'⟩ x y) (by kernel_rfl) ?_
                show wpAnyH _ _ _ _ _ _ _ _ wr.drew
                refine wpAnyH_take_d (i := 0) (v := .pointer (some ⟨w.heap.size, 4, none⟩)) 48 rfl rfl (by kernel_rfl) (by kernel_rfl) (by kernel_rfl) (fun _ _ _ h => h) (Or.inl ⟨by kernel_rfl, fun w' hS' => ?y0⟩) hS ?_
                case y0 => (obtain ⟨s4, u4, ⟨c0, c1, c2, c3, c4⟩, ⟨d0, d1, d2, d3, d4⟩⟩ := hS'; go_simp)
                simp only [Act.put, List.setIfInBounds_toArray, List.set_cons_zero, List.set_cons_succ]
                refine wpAnyH_take_d (i := 1) (v := .slice (some ⟨b, off, none⟩) kids.length c) 49 rfl rfl (by kernel_rfl) (by kernel_rfl) (by kernel_rfl) (fun _ _ _ h => h) (Or.inl ⟨by kernel_rfl, fun w' hS' => ?y1⟩) hS ?_
                case y1 => (obtain ⟨s4, u4, ⟨c0, c1, c2, c3, c4⟩, ⟨d0, d1, d2, d3, d4⟩⟩ := hS'; go_simp)
                simp only [Act.put, List.setIfInBounds_toArray, List.set_cons_zero, List.set_cons_succ]
                refine wpAnyH_take_d (i := 2) (v := .int .i64 (j : Nat)) 50 rfl rfl (by kernel_rfl) (by kernel_rfl) (by kernel_rfl) (fun _ _ _ h => h) (Or.inl ⟨by kernel_rfl, fun w' hS' => ?y2⟩) hS ?_
                case y2 => (obtain ⟨s4, u4, ⟨c0, c1, c2, c3, c4⟩, ⟨d0, d1, d2, d3, d4⟩⟩ := hS'; go_simp)
                simp only [Act.put, List.setIfInBounds_toArray, List.set_cons_zero, List.set_cons_succ]
                refine wpAnyH_take_d (i := 3) (v := .pointer (some ⟨b, off + j * 5, none⟩)) 51 rfl rfl (by kernel_rfl) (by kernel_rfl) (by kernel_rfl) (fun _ _ _ h => h) (Or.inl ⟨by kernel_rfl, fun w' hS' => ?y3⟩) hS ?_
                case y3 => (obtain ⟨s4, u4, ⟨c0, c1, c2, c3, c4⟩, ⟨d0, d1, d2, d3, d4⟩⟩ := hS'; go_simp)
                simp only [Act.put, List.setIfInBounds_toArray, List.set_cons_zero, List.set_cons_succ]
                refine wpAnyH_take_d (i := 4) (v := nv x) 52 rfl rfl (by kernel_rfl) (by kernel_rfl) (by kernel_rfl) (fun _ _ _ h => h) (Or.inl ⟨by kernel_rfl, fun w' hS' => ?y4⟩) hS ?_
                case y4 => (obtain ⟨s4, u4, ⟨c0, c1, c2, c3, c4⟩, ⟨d0, d1, d2, d3, d4⟩⟩ := hS'; go_simp)
                simp only [Act.put, List.setIfInBounds_toArray, List.set_cons_zero, List.set_cons_succ]
                refine wpAnyH_take_d (i := 5) (v := .pointer (some ⟨w.heap.size + 1, 4, none⟩)) 53 rfl rfl (by kernel_rfl) (by kernel_rfl) (by kernel_rfl) (fun _ _ _ h => h) (Or.inl ⟨by kernel_rfl, fun w' hS' => ?y5⟩) hS ?_
                case y5 => (obtain ⟨s4, u4, ⟨c0, c1, c2, c3, c4⟩, ⟨d0, d1, d2, d3, d4⟩⟩ := hS'; go_simp)
                simp only [Act.put, List.setIfInBounds_toArray, List.set_cons_zero, List.set_cons_succ]
                refine wpAnyH_take_d (i := 6) (v := .slice (some ⟨b', off', none⟩) kids'.length c') 54 rfl rfl (by kernel_rfl) (by kernel_rfl) (by kernel_rfl) (fun _ _ _ h => h) (Or.inl ⟨by kernel_rfl, fun w' hS' => ?y6⟩) hS ?_
                case y6 => (obtain ⟨s4, u4, ⟨c0, c1, c2, c3, c4⟩, ⟨d0, d1, d2, d3, d4⟩⟩ := hS'; go_simp)
                simp only [Act.put, List.setIfInBounds_toArray, List.set_cons_zero, List.set_cons_succ]
                refine wpAnyH_take_d (i := 7) (v := .int .i64 (j : Nat)) 55 rfl rfl (by kernel_rfl) (by kernel_rfl) (by kernel_rfl) (fun _ _ _ h => h) (Or.inl ⟨by kernel_rfl, fun w' hS' => ?y7⟩) hS ?_
                case y7 => (obtain ⟨s4, u4, ⟨c0, c1, c2, c3, c4⟩, ⟨d0, d1, d2, d3, d4⟩⟩ := hS'; go_simp)
                simp only [Act.put, List.setIfInBounds_toArray, List.set_cons_zero, List.set_cons_succ]
                refine wpAnyH_take_d (i := 8) (v := .pointer (some ⟨b', off' + j * 5, none⟩)) 56 rfl rfl (by kernel_rfl) (by kernel_rfl) (by kernel_rfl) (fun _ _ _ h => h) (Or.inl ⟨by kernel_rfl, fun w' hS' => ?y8⟩) hS ?_
                case y8 => (obtain ⟨s4, u4, ⟨c0, c1, c2, c3, c4⟩, ⟨d0, d1, d2, d3, d4⟩⟩ := hS'; go_simp)
                simp only [Act.put, List.setIfInBounds_toArray, List.set_cons_zero, List.set_cons_succ]
                refine wpAnyH_take_d (i := 9) (v := nv y) 57 rfl rfl (by kernel_rfl) (by kernel_rfl) (by kernel_rfl) (fun _ _ _ h => h) (Or.inl ⟨by kernel_rfl, fun w' hS' => ?y9⟩) hS ?_
                case y9 => (obtain ⟨s4, u4, ⟨c0, c1, c2, c3, c4⟩, ⟨d0, d1, d2, d3, d4⟩⟩ := hS'; go_simp)
                simp only [Act.put, List.setIfInBounds_toArray, List.set_cons_zero, List.set_cons_succ]
                refine wpAnyH_ready (rs := [10]) (by kernel_rfl) (by simp) ?_
                refine AllReadyH.cons rfl (fun K hK => ?_) AllReadyH.nil
                go_simp
                refine (HC.out wr.drew ⟨HWw.out.os, HWw.out.tape, HWw.out.output, HWw.out.size, HWw.out.block⟩).mono ?_
                rintro e w1 ⟨rfl, hb1⟩
                have hb2 : Below wr.heap.size wr w1 := ⟨hb1.os, hb1.tape, hb1.output, hb1.size, hb1.block⟩
                refine hK.out _ _ (HSS.out w1 hb2) (fun _ => ?_)
                clear hK K
                try simp only [Act.put, List.setIfInBounds_toArray, List.set_cons_zero, List.set_cons_succ]
                have hS1 := HSS.out w1 hb2
                refine wpAnyH_take_d (i := 11) (v := .bool !r) 59 rfl rfl (by kernel_rfl) (by kernel_rfl) (by kernel_rfl) (fun _ _ _ h => h) (Or.inl ⟨by kernel_rfl, fun w' hS' => ?y11⟩) hS1 ?_
                case y11 => (obtain ⟨s4, u4, ⟨c0, c1, c2, c3, c4⟩, ⟨d0, d1, d2, d3, d4⟩⟩ := hS'; go_simp)
                simp only [Act.put, List.setIfInBounds_toArray, List.set_cons_zero, List.set_cons_succ]
                refine wpAnyH_done (by kernel_rfl) ?_ _
                refine hK0 _ _ ?_
                have HE := Lib.hid (HWw.out.trans (hb2.mono HWw.out.size))
                have HE2 := Lib.hid (HWr.out.trans (hb2.mono HWr.out.size))
                clear hS hS1 hb1 hb2 hc
                cases r with
                | false =>
                  go_wp2
                  go_ret
                  exact ⟨by rw [HS.out (by trivial)]; rfl, HE.out⟩
                | true =>
                  go_wp2
                  go_roundw
                  case rel => exact ⟨j + 1, by go_num, by omega, Lib.hid (by rw [HN.out, HJ.out]; rfl), HE2.out⟩
                  case measure => simp [intOf]; omega
              · obtain rfl : j = kids.length := by omega
                have HS : Hid (sms kids kids' = true) := Lib.hid (by have := HJ.out; rwa [List.take_length, show kids'.take kids.length = kids' from by rw [HL.out, List.take_length]] at this)
                have HWw := Lib.hid hWw
                clear hW hWw hd
                go_wp2
                go_ret
                exact ⟨by rw [HS.out]; rfl, HWw.out⟩
          · have e1 : ((kids.length : Int) != kids'.length) = true := by simp; omega
            have HV := Lib.hid hs
            simp only [hl, decide_false, Bool.and_false, Bool.false_and] at HV
            rw [HV.out]
            clear hs hl
            go_enter Tryz.func39, Tryz.ntmps39
            go_wp2
            go_ret
            exact ⟨rfl, HB.out⟩
        · have e1 : (a != a') = true := by simp [ha]
          have HV := Lib.hid hs
          simp only [ha, decide_false, Bool.and_false, Bool.false_and] at HV
          rw [HV.out]
          clear hs ha
          go_enter Tryz.func39, Tryz.ntmps39
          go_wp2
          go_ret
          exact ⟨rfl, HB.out⟩
      · have e1 : (t.toList == t'.toList) = false := by simpa using bytes_ne ht
        have e2 : (t.toList != t'.toList) = true := by simpa using bytes_ne ht
        have HV := Lib.hid hs
        simp only [ht, decide_false, Bool.and_false, Bool.false_and] at HV
        rw [HV.out]
        clear hs
        go_enter Tryz.func39, Tryz.ntmps39
        go_wp2
        go_ret
        exact ⟨rfl, HB.out⟩
    · have e1 : (g.toList == g'.toList) = false := by simpa using bytes_ne hg
      have e2 : (g.toList != g'.toList) = true := by simpa using bytes_ne hg
      have HV := Lib.hid hs
      simp only [hg, decide_false, Bool.and_false, Bool.false_and] at HV
      rw [HV.out]
      clear hs
      go_enter Tryz.func39, Tryz.ntmps39
      go_wp2
      go_ret
      exact ⟨rfl, HB.out⟩
  · have e1 : (k != k') = true := by simp [hk]
    have HV := Lib.hid hs
    simp only [hk, decide_false, Bool.false_and] at HV
    rw [HV.out]
    clear hs hk
    go_enter Tryz.func39, Tryz.ntmps39
    go_wp2
    go_ret
    exact ⟨rfl, HB.out⟩
end Go.Proofs.YtfmlcddakfbleaaGreatDoor

namespace Go.Proofs.YtfmlcddakfbleaaGreatDoor
open Go.RowKit TreeMath

/-- each text of a size that a machine has -/
def Szd (T : Tr) : Prop := ∀ x ∈ ns T, (x.g.size : Int) ≤ 140737488355328 ∧ (x.t.size : Int) ≤ 140737488355328 ∧ (x.kids.length : Int) ≤ 9223372036854775807
theorem Szd.kid {T x : Tr} (h : Szd T) (hx : x ∈ T.kids) : Szd x := fun y hy => h y (ns_kid hx hy)
theorem wt_nodes {T : Tr} : ∀ x ∈ ns T, wt x ≤ wt T := by
  induction T using Tr.ind with | _ k g t a A c kids ih =>
  intro x hx
  rw [ns_eq] at hx
  rcases List.mem_cons.1 hx with rfl | hx
  · exact Nat.le_refl _
  · obtain ⟨y, hy, hx⟩ := List.mem_flatMap.1 hx
    exact Nat.le_trans (ih y hy x hx) (Nat.le_of_lt (wt_kid hy))
theorem Szd.of {T : Tr} (h : wt T ≤ 9000) : Szd T := fun x hx => by
  have := text_le hx
  have h2 := kids_le (T := x)
  have h3 := wt_nodes x hx
  omega

def DocV (T : Tr) (many : Int) (w : World) (e : Ending) (w' : World) : Prop := ∃ (U : Tr) (l : Int), e = .returned (.tuple #[nv U, .int .i64 l]) ∧ Below w.heap.size w w' ∧ Tn (nw w.heap.size w') w' U ∧
  -300000000000000 ≤ l ∧ l ≤ many - 1 ∧ ((wt T : Int) ≤ many → l = many - wt T ∧ pl U = pl T) ∧ (many < (wt T : Int) → l < 0)

theorem w1_int (T : Tr) : (w1 T : Int) = 1 + ((T.g.size : Int) + T.t.size) / 50 := by unfold w1; omega
theorem sum_take (l : List Tr) (f : Tr → Nat) (j : Nat) : ((l.take j).map f).sum ≤ (l.map f).sum := by
  have := congrArg (fun l => (l.map f).sum) (List.take_append_drop j l)
  simp only [List.map_append, List.sum_append] at this
  omega

/-- what holds ahead of each round -/
def DocI (k : Int) (g t : ByteArray) (a : Int) (kids : List Tr) (_many m1 : Int) (W : Nat) (j : Nat) (mj : Int) (m : List Tr) (A : Option Addr) (c : Nat) (wr : World) : Prop :=
  m.length = j ∧ W + 3 ≤ wr.heap.size ∧ wr.heap[W + 1]? = some (.cells #[.int .i64 0, .string ⟨#[]⟩, .string ⟨#[]⟩, .int .i64 0, .slice none 0 0] 37 (0, 0)) ∧
  wr.heap[W + 2]? = some (.cells #[.int .i64 k, .string g, .string t, .int .i64 a, .slice A m.length c] 37 (0, 0)) ∧ NRow 37 (W + 3) (.slice A m.length c) m wr ∧
  mj + j ≤ 19999 ∧ -300000000000000 ≤ mj ∧ (0 ≤ mj → mj = m1 - ((kids.take j).map wt).sum ∧ m.map pl = (kids.take j).map pl) ∧ (mj < 0 → m1 < ((kids.map wt).sum : Nat))

set_option maxRecDepth 100000 in
set_option maxHeartbeats 2000000 in
theorem doc_any (T : Tr) : ∀ (many : Int) (w : World), 0 ≤ many → many ≤ 20000 → Szd T → Tn (lo w.heap.size) w T →
    Calls Tryz.prog 12 #[nv T, .int .i64 many] w (DocV T many w) := by
  induction T using Tr.ind with | _ k g t a A c kids ih =>
  intro many w hm0 hm1 hz hT
  obtain ⟨s1, s2, hkl⟩ := hz _ (ns_self _)
  simp only at s1 s2 hkl
  have HZ := Lib.hid hz
  have HT := Lib.hid hT
  have HI := Lib.hid ih
  have HW := Lib.hid (wt_eq ⟨k, g, t, a, A, c, kids⟩)
  have HW1 := Lib.hid (w1_int ⟨k, g, t, a, A, c, kids⟩)
  have HRG := Lib.hid hT.rng
  clear hz hT ih
  go_enter Tryz.func12, Tryz.ntmps12
  go_wp2
  generalize hm : many - (1 + ((g.size : Int) + t.size) / 50) = m1
  have z1 : m1 ≤ 19999 := by omega
  have z2 : -300000000000000 ≤ m1 := by omega
  have HM := Lib.hid hm
  clear hm
  have hbw : Below w.heap.size w (((w.alloc (.cells (ncc ⟨k, g, t, a, A, c, kids⟩) 30)).alloc (.cells #[.int .i64 0, .string ⟨#[]⟩, .string ⟨#[]⟩, .int .i64 0, .slice none 0 0] 37)).alloc (.cells #[.int .i64 k, .string g, .string t, .int .i64 a, .slice none 0 0] 37)) := ((below1 w _).alloc (by simp) _).alloc (by simp; omega) _
  have hI0 : DocI k g t a kids many m1 w.heap.size 0 m1 [] none 0 (((w.alloc (.cells (ncc ⟨k, g, t, a, A, c, kids⟩) 30)).alloc (.cells #[.int .i64 0, .string ⟨#[]⟩, .string ⟨#[]⟩, .int .i64 0, .slice none 0 0] 37)).alloc (.cells #[.int .i64 k, .string g, .string t, .int .i64 a, .slice none 0 0] 37)) := by
    refine ⟨rfl, by simp, ?_, ?_, NRow.nil _ _ _, by omega, by omega, fun _ => ⟨by simp, by simp⟩, fun h => by omega⟩
    · exact (Below.heap_alloc _ _ _ (by simp)).trans (by have := heap_alloc_new (w.alloc (.cells (ncc ⟨k, g, t, a, A, c, kids⟩) 30)) (.cells #[.int .i64 0, .string ⟨#[]⟩, .string ⟨#[]⟩, .int .i64 0, .slice none 0 0] 37); simpa using this)
    · have := heap_alloc_new ((w.alloc (.cells (ncc ⟨k, g, t, a, A, c, kids⟩) 30)).alloc (.cells #[.int .i64 0, .string ⟨#[]⟩, .string ⟨#[]⟩, .int .i64 0, .slice none 0 0] 37)) (.cells #[.int .i64 k, .string g, .string t, .int .i64 a, .slice none 0 0] 37)
      simpa using this
  have HI0 := Lib.hid hI0
  clear hI0
  go_loopw [1, 33] (fun mv i wr => ∃ (j : Nat) (mj : Int) (m : List Tr) (A' : Option Addr) (c' : Nat), i = .int .i64 j ∧ j ≤ kids.length ∧ mv = .int .i64 mj ∧ Below w.heap.size w wr ∧ Hid (DocI k g t a kids many m1 w.heap.size j mj m A' c' wr)) (fun _ i _ => kids.length + 1 - (intOf i).toNat)
  case atStart => exact ⟨0, m1, [], none, 0, rfl, Nat.zero_le _, rfl, hbw, HI0⟩
  case round =>
    obtain ⟨j, mj, m, A', c', rfl, hj, rfl, hB, HD⟩ := hrel
    obtain ⟨hml, hsz, h1, h2, hrow, y1, y2, y3, y4⟩ := HD.out
    have HROW := Lib.hid hrow
    have Y3 := Lib.hid y3
    have Y4 := Lib.hid y4
    have H1 := Lib.hid h1
    have H2 := Lib.hid h2
    have p0 : wr.cell? ⟨w.heap.size + 1 + 1, 0, none⟩ = some (.int .i64 k) := by simp [World.cell?, h2]
    have p1 : wr.cell? ⟨w.heap.size + 1 + 1, 1, none⟩ = some (.string g) := by simp [World.cell?, h2]
    have p2 : wr.cell? ⟨w.heap.size + 1 + 1, 2, none⟩ = some (.string t) := by simp [World.cell?, h2]
    have p3 : wr.cell? ⟨w.heap.size + 1 + 1, 3, none⟩ = some (.int .i64 a) := by simp [World.cell?, h2]
    have p4 : wr.cell? ⟨w.heap.size + 1 + 1, 4, none⟩ = some (.slice A' m.length c') := by simp [World.cell?, h2]
    have r0 : wr.cell? ⟨w.heap.size + 1, 0, none⟩ = some (.int .i64 0) := by simp [World.cell?, h1]
    have r1 : wr.cell? ⟨w.heap.size + 1, 1, none⟩ = some (.string ⟨#[]⟩) := by simp [World.cell?, h1]
    have r2 : wr.cell? ⟨w.heap.size + 1, 2, none⟩ = some (.string ⟨#[]⟩) := by simp [World.cell?, h1]
    have r3 : wr.cell? ⟨w.heap.size + 1, 3, none⟩ = some (.int .i64 0) := by simp [World.cell?, h1]
    have r4 : wr.cell? ⟨w.heap.size + 1, 4, none⟩ = some (.slice none 0 0) := by simp [World.cell?, h1]
    have f1 : ∀ i, wr.frozen? ⟨w.heap.size + 1, i, none⟩ = false := fun i => by simp [World.frozen?, h1]
    have f2 : ∀ i, wr.frozen? ⟨w.heap.size + 1 + 1, i, none⟩ = false := fun i => by simp [World.frozen?, h2]
    clear hrow y3 y4 h1 h2 HI0 hbw
    have HML := Lib.hid hml
    have HTAKE := Lib.hid (sum_take kids wt j)
    clear hml
    by_cases hlt : j < kids.length
    · obtain ⟨e, he⟩ : ∃ e, kids[j]? = some e := ⟨_, List.getElem?_eq_getElem hlt⟩
      have hmem := List.mem_of_getElem? he
      have hzr : w.heap.size < wr.heap.size := by omega
      have hz1 : w.heap.size + 1 < wr.heap.size := by omega
      have hz2 : w.heap.size + 1 + 1 < wr.heap.size := by omega
      obtain ⟨b, off, rfl, hb, c0, c1, c2, c3, c4⟩ := (HT.out.below hB).at_ he
      have z4 : (0 : Int) ≤ j := by omega
      have z5 : (j : Int) < kids.length := by omega
      have HE := Lib.hid he
      by_cases hneg : mj < 0
      · clear he hmem hb
        have hb2 : Below w.heap.size w ((set5 wr (w.heap.size + 1) ⟨k, g, t, a, A', c', m⟩).alloc (.cells (ncc e) 30)) := (below_set5 hB (by omega) _).alloc (by rw [set5_size]; omega) _
        have hrow2 := HROW.out.keep (w' := (set5 wr (w.heap.size + 1) ⟨k, g, t, a, A', c', m⟩).alloc (.cells (ncc e) 30)) (by rw [World.size_alloc, set5_size]; omega) (fun b hb => (Below.heap_alloc _ _ _ (by rw [set5_size]; exact hb.2)).trans (set5_other (by have := hb.1; omega) _))
        have HB2 := Lib.hid hb2
        have HT2 := Lib.hid ((hrow2.tn (k := k) (g := g) (t := t) HRG.out).keep (fun _ _ _ => rfl) (fun b (hb : nw _ _ b) => (⟨by have := hb.1; omega, hb.2⟩ : nw w.heap.size _ b)))
        have HS2 := Lib.hid ((Below.heap_alloc _ (.cells (ncc e) 30) _ (by rw [set5_size]; omega)).trans (set5_self H1.out ⟨k, g, t, a, A', c', m⟩))
        clear hb2 hrow2
        go_wp2
        have g0 := cell_heap HS2.out (i := 0)
        have g1 := cell_heap HS2.out (i := 1)
        have g2 := cell_heap HS2.out (i := 2)
        have g3 := cell_heap HS2.out (i := 3)
        have g4 := cell_heap HS2.out (i := 4)
        simp only [List.getElem?_toArray, List.getElem?_cons_zero, List.getElem?_cons_succ] at g0 g1 g2 g3 g4
        refine bodyPost_ret (v := .tuple #[nv ⟨k, g, t, a, A', c', m⟩, .int .i64 (-1)]) (by simp [results, Tryz.results12, go_sem, g0, g1, g2, g3, g4]) rfl ?_
        have hwt := HW.out
        have hw1 := HW1.out
        have hm := HM.out
        have h4 := Y4.out hneg
        exact ⟨⟨k, g, t, a, A', c', m⟩, -1, rfl, HB2.out, HT2.out, by omega, by omega, fun h => by omega, fun _ => by omega⟩
      · have hmn : 0 ≤ mj := by omega
        have hmx : mj ≤ 20000 := by omega
        have HC := Lib.hid (HI.out e hmem mj ((wr.alloc (.cells (ncc e) 30)).alloc (.cells #[.int .i64 0, .string ⟨#[]⟩, .string ⟨#[]⟩, .int .i64 0, .slice none 0 0] 37)) hmn hmx (HZ.out.kid hmem) (((HT.out.kid hmem).below hB).more (Nat.le_of_lt hzr) |>.alloc (Nat.le_refl _) _ |>.more (by simp) |>.alloc (Nat.le_refl _) _ |>.more (by simp)))
        clear he hmem hb
        have HTK := Lib.hid (show ((kids.take (j + 1)).map wt).sum = ((kids.take j).map wt).sum + wt e by rw [List.take_add_one, HE.out]; simp)
        have HPK := Lib.hid (show (kids.take (j + 1)).map pl = (kids.take j).map pl ++ [pl e] by rw [List.take_add_one, HE.out]; simp)
        have HTK2 := Lib.hid (sum_take kids wt (j + 1))
        go_wp2_with fail
        refine HC.out.mono ?_
        rintro r w6 ⟨U, l, rfl, hb6, hU, l1, l2, l3, l4⟩
        have L3 := Lib.hid l3
        have L4 := Lib.hid l4
        clear l3 l4 p0 p1 p2 p3 p4 r0 r1 r2 r3 r4 f1 f2 c0 c1 c2 c3 c4
        have hs6 : wr.heap.size + 2 ≤ w6.heap.size := by have := hb6.size; simp at this; omega
        have hx6 : w6.heap[wr.heap.size + 1]? = some (.cells #[.int .i64 0, .string ⟨#[]⟩, .string ⟨#[]⟩, .int .i64 0, .slice none 0 0] 37 (0, 0)) := (hb6.block _ (by simp)).trans (by have := heap_alloc_new (wr.alloc (.cells (ncc e) 30)) (.cells #[.int .i64 0, .string ⟨#[]⟩, .string ⟨#[]⟩, .int .i64 0, .slice none 0 0] 37); simpa using this)
        have old6 : ∀ b, b < wr.heap.size → w6.heap[b]? = wr.heap[b]? := fun b hb => (hb6.block b (by simp; omega)).trans ((Below.heap_alloc _ _ _ (by simp; omega)).trans (Below.heap_alloc _ _ _ hb))
        obtain ⟨V, hV⟩ : ∃ V, (set5 w6 (wr.heap.size + 1) U).alloc (.cells (ncc U) 37) = V := ⟨_, rfl⟩
        have hsV : V.heap.size = w6.heap.size + 1 := by rw [← hV, World.size_alloc, set5_size]
        have oldV : ∀ b, b < w6.heap.size → b ≠ wr.heap.size + 1 → V.heap[b]? = w6.heap[b]? := fun b hb hne => by rw [← hV]; exact (Below.heap_alloc _ _ _ (by rw [set5_size]; exact hb)).trans (set5_other hne U)
        have hbV : Below wr.heap.size wr V := by
          rw [← hV]
          exact (below_set5 ((((below1 wr _).alloc (by simp) _).trans (hb6.mono (by simp; omega)))) (by omega) U).alloc (by rw [set5_size]; omega) _
        have hxV : V.heap[w6.heap.size]? = some (.cells (ncc U) 37 (0, 0)) := by rw [← hV]; have := heap_alloc_new (set5 w6 (wr.heap.size + 1) U) (.cells (ncc U) 37); rwa [set5_size] at this
        have hUV : Tn (nw wr.heap.size V) V U := hU.keep (fun b i hb => cell_of (oldV b hb.2 (by have := hb.1; simp at this; omega))) (fun b hb => ⟨by have := hb.1; simp at this; omega, by have := hb.2; omega⟩)
        have hrowV := HROW.out.below hbV
        have hUV2 := HROW.out.beside hbV.size (by omega) hUV
        obtain ⟨W7, hW7⟩ : ∃ W7, set5 w6 (wr.heap.size + 1) U = W7 := ⟨_, rfl⟩
        have hs7 : W7.heap.size = w6.heap.size := by rw [← hW7, set5_size]
        have ho7 := (set5_other (b := wr.heap.size + 1) (by omega) U).trans ((old6 (w.heap.size + 2) (by omega)).trans H2.out)
        have hx7 := set5_self hx6 U
        rw [hW7] at ho7 hx7 hV
        have y0 := cell_heap hx7 (i := 0)
        have y1 := cell_heap hx7 (i := 1)
        have y2 := cell_heap hx7 (i := 2)
        have y3 := cell_heap hx7 (i := 3)
        have y4 := cell_heap hx7 (i := 4)
        have y5 := cell_heap ho7 (i := 4)
        simp only [List.getElem?_toArray, List.getElem?_cons_zero, List.getElem?_cons_succ] at y0 y1 y2 y3 y4 y5
        have HW7 := Lib.hid hW7
        have HS7 := Lib.hid hs7
        have HX6 := Lib.hid hx6
        have HV := Lib.hid hV
        have OLD := Lib.hid (And.intro old6 oldV)
        have HSV := Lib.hid hsV
        have HBV := Lib.hid (And.intro hbV (And.intro hxV (And.intro hrowV hUV2)))
        clear hV old6 oldV hsV hbV hxV hrowV hUV2 hUV hU hx6 hW7 hs7 hx7 ho7
        go_wp2_with (first | (refine wpList_store_node (by rfl) 37 (.tmp 9) (.tmp 44) (by rfl) size_rnode (wr.heap.size + 1) U (by rfl) (by rfl) HX6.out ?_; rw [HW7.out]) | (at_builtin; refine Stay.out ?_))
        refine Stay.mk ?_
        refine (wpList_append_node (by rfl) _ _ 35 37 (by rfl) Tryz.underlying35 info_rnode _ (w.heap.size + 3) (.slice A' m.length c') m U W7.heap.size (by rfl) (by rfl) (by rw [HV.out, HS7.out]; exact HBV.out.2.1) (by rw [HV.out]; exact HBV.out.2.2.1) (by rw [HV.out]; exact HBV.out.2.2.2) (by have := HML.out; omega) (by rw [HV.out, HSV.out]; omega) ?_)
        rw [HV.out]; intro A2 c2 w9 hr9 hg9
        obtain ⟨old6, oldV⟩ := OLD.out
        obtain ⟨hbV, hxV, hrowV, hUV2⟩ := HBV.out
        have hsV := HSV.out
        have own9 : ∀ b, b < w.heap.size + 3 → some b ≠ (Value.slice A' m.length c').ownBlock := fun b hb q => by have := (hrowV.lt b q.symm).1; omega
        have ho9 : w9.heap[w.heap.size + 2]? = some (.cells #[.int .i64 k, .string g, .string t, .int .i64 a, .slice A' m.length c'] 37 (0, 0)) := (hg9.block _ (by omega) (own9 _ (by omega))).trans ((oldV _ (by omega) (by omega)).trans ((old6 _ (by omega)).trans H2.out))
        have hr9r : w9.heap[w.heap.size + 1]? = some (.cells #[.int .i64 0, .string ⟨#[]⟩, .string ⟨#[]⟩, .int .i64 0, .slice none 0 0] 37 (0, 0)) := (hg9.block _ (by omega) (own9 _ (by omega))).trans ((oldV _ (by omega) (by omega)).trans ((old6 _ (by omega)).trans H1.out))
        have hs9 : w.heap.size + 3 ≤ w9.heap.size := by have := hg9.size; omega
        have hB9 : Below w.heap.size w (w9.setCell ⟨w.heap.size + 1 + 1, 4, none⟩ (.slice A2 (m ++ [U]).length c2)) := (below_append (hB.trans (hbV.mono (by omega))) hg9 hrowV (by omega) (by omega)).setCell (by simp; omega) _
        have HD9 : Hid (DocI k g t a kids many m1 w.heap.size (j + 1) l (m ++ [U]) A2 c2 (w9.setCell ⟨w.heap.size + 1 + 1, 4, none⟩ (.slice A2 (m ++ [U]).length c2))) := Lib.hid (by
          refine ⟨by have := HML.out; simp; omega, by rw [World.setCell]; simp; omega, ?_, ?_, hr9.set (by simp) _, by push_cast; omega, l1, fun hl => ?_, fun hl => ?_⟩
          · exact (Below.heap_setCell _ _ _ _ (by simp)).trans hr9r
          · have := heap_set ho9 (i := 4) (.slice A2 (m ++ [U]).length c2)
            simpa using this
          · have hle : (wt e : Int) ≤ mj := by
              by_cases hh : (wt e : Int) ≤ mj
              · exact hh
              · have := L4.out (by omega); omega
            obtain ⟨e1, e2⟩ := L3.out hle
            obtain ⟨e3, e4⟩ := Y3.out hmn
            have := HTK.out
            exact ⟨by omega, by rw [HPK.out, List.map_append, e4, ← e2]; rfl⟩
          · have hgt : mj < (wt e : Int) := by
              by_cases hh : (wt e : Int) ≤ mj
              · have := (L3.out hh).1; omega
              · omega
            have h3 := (Y3.out hmn).1
            have := HTK.out
            have := HTK2.out
            omega)
        have HB9 := Lib.hid hB9
        have hlen : (m ++ [U]).length = m.length + 1 := by simp
        rw [hlen] at HB9 HD9
        clear hlen
        have c9 := cell_heap ho9 (i := 4)
        have f9 := frozen_heap ho9 (i := 4)
        simp only [List.getElem?_toArray, List.getElem?_cons_zero, List.getElem?_cons_succ] at c9
        clear old6 oldV hbV hxV hrowV hUV2 own9 ho9 hr9r hB9 hsV hr9 hg9 y0 y1 y2 y3 y4 y5
        go_wp2
        go_roundw
        case rel => exact ⟨j + 1, l, m ++ [U], A2, c2, by go_num, by omega, rfl, HB9.out, HD9⟩
        case measure => simp [intOf]; omega
    · obtain rfl : j = kids.length := by omega
      have hb2 : Below w.heap.size w (set5 wr (w.heap.size + 1) ⟨k, g, t, a, A', c', m⟩) := below_set5 hB (by omega) _
      have hrow2 := HROW.out.keep (w' := set5 wr (w.heap.size + 1) ⟨k, g, t, a, A', c', m⟩) (by rw [set5_size]; exact Nat.le_refl _) (fun b hb => by rw [set5_other (by have := hb.1; omega)])
      have HB2 := Lib.hid hb2
      have HT2 := Lib.hid ((hrow2.tn (k := k) (g := g) (t := t) HRG.out).keep (fun _ _ _ => rfl) (fun b (hb : nw _ _ b) => (⟨by have := hb.1; omega, hb.2⟩ : nw w.heap.size _ b)))
      have HS2 := Lib.hid (set5_self H1.out ⟨k, g, t, a, A', c', m⟩)
      clear hb2 hrow2
      go_wp2
      have g0 := cell_heap HS2.out (i := 0)
      have g1 := cell_heap HS2.out (i := 1)
      have g2 := cell_heap HS2.out (i := 2)
      have g3 := cell_heap HS2.out (i := 3)
      have g4 := cell_heap HS2.out (i := 4)
      simp only [List.getElem?_toArray, List.getElem?_cons_zero, List.getElem?_cons_succ] at g0 g1 g2 g3 g4
      refine bodyPost_ret (v := .tuple #[nv ⟨k, g, t, a, A', c', m⟩, .int .i64 mj]) (by simp [results, Tryz.results12, go_sem, g0, g1, g2, g3, g4]) rfl ?_
      have hwt := HW.out
      have hw1 := HW1.out
      have hm := HM.out
      have h3 := Y3.out
      have h4 := Y4.out
      simp only [List.take_length] at hwt hw1 h3
      refine ⟨⟨k, g, t, a, A', c', m⟩, mj, rfl, HB2.out, HT2.out, y2, by omega, fun h => ?_, fun h => ?_⟩
      · have hmn : 0 ≤ mj := by
          by_cases hn : mj < 0
          · have := h4 hn; omega
          · omega
        refine ⟨by have := (h3 hmn).1; omega, ?_⟩
        rw [pl_eq, pl_eq]
        simp only [Tr.mk.injEq, true_and]
        exact (h3 hmn).2
      · by_cases hn : 0 ≤ mj
        · have := (h3 hn).1; omega
        · omega
end Go.Proofs.YtfmlcddakfbleaaGreatDoor

namespace Go.Proofs.YtfmlcddakfbleaaGreatDoor
open Go.RowKit TreeMath

set_option maxHeartbeats 1600000 in
theorem is9_any (T U : Tr) (w : World) (hw : wt T ≤ 9000) (hv : wt U ≤ 9000) (hT : Tn (lo w.heap.size) w T) (hU : Tn (lo w.heap.size) w U) :
    Calls Tryz.prog 16 #[nv T, nv U] w (AlV T U w) := by
  have hB2 := below2 w (nbx T) (rbx U)
  have hT2 := (hT.below hB2).more hB2.size
  have hU2 := (hU.below hB2).more hB2.size
  have HD := Lib.hid (doc_any T 20000 ((w.alloc (nbx T)).alloc (rbx U)) (by omega) (by omega) (Szd.of hw) hT2)
  have HS : Hid (∀ (V : Tr) W, pl V = pl T → Below ((w.alloc (nbx T)).alloc (rbx U)).heap.size ((w.alloc (nbx T)).alloc (rbx U)) W → Tn (lo W.heap.size) W V → Calls Tryz.prog 39 #[nv V, nv U] W (AlV T U W)) :=
    Lib.hid fun V W hp hb hV => by
      have h1 := rsame_any V U W (by rw [(same_of hp).2.2.1]; exact hw) hv hV ((hU2.below hb).more hb.size)
      have h2 : sm V U = sm T U := by
        rw [Bool.eq_iff_iff, sm_iff, sm_iff, hp]
      unfold AlV at h1 ⊢
      rwa [h2] at h1
  have HB := Lib.hid hB2
  have HW := Lib.hid hw
  unfold AlV at HS ⊢
  obtain ⟨S, hS⟩ : ∃ S, sm T U = S := ⟨_, rfl⟩
  rw [hS] at HS ⊢
  clear hB2 hT2 hU2 hw hv hT hU hS
  go_enter Tryz.func16, Tryz.ntmps16
  go_wp2_with fail
  refine HD.out.mono ?_
  rintro r w1 ⟨V, l, rfl, hb1, hV, l1, l2, l3, l4⟩
  obtain ⟨hl, hp⟩ := l3 (by have := HW.out; omega)
  have hl0 : 0 ≤ l := by have := HW.out; omega
  have hb2 : Below ((w.alloc (nbx T)).alloc (rbx U)).heap.size ((w.alloc (nbx T)).alloc (rbx U)) (w1.alloc (rbx V)) := hb1.trans ((below1 w1 _).mono hb1.size)
  have hd1 := box5 hb1
  rw [World.size_alloc] at hd1
  have hsz : w.heap.size + 2 ≤ w1.heap.size := by have := hb1.size; simpa using this
  have HC := Lib.hid (HS.out V (w1.alloc (rbx V)) hp hb2 ((hV.all.below (below1 w1 _)).more (by simp)))
  have HB2 := Lib.hid hb2
  clear hp hl l1 l2 l3 l4 hb1 hb2 hV HD HS
  go_wp2_with fail
  refine HC.out.mono ?_
  rintro e w2 ⟨rfl, hb3⟩
  go_wp2
  go_ret
  exact ⟨rfl, HB.out.trans ((HB2.out.trans (hb3.mono HB2.out.size)).mono HB.out.size)⟩
end Go.Proofs.YtfmlcddakfbleaaGreatDoor
