/- tree.alike and tree.Same: are two trees the same? -/
import Derived.Test.YtfmlcddakfbleaaGreatDoorTreeRight
import Derived.LoopN
namespace Go.Proofs.YtfmlcddakfbleaaGreatDoor
open Go.RowKit TreeMath

theorem sms_snoc : ∀ (l m : List Tr) (x y : Tr), l.length = m.length → sms (l ++ [x]) (m ++ [y]) = (sms l m && sm x y) := by
  intro l
  induction l with
  | nil =>
    intro m x y h
    obtain rfl : m = [] := List.eq_nil_of_length_eq_zero h.symm
    rw [List.nil_append, List.nil_append, sms_cons]
    simp [sms, zp]
  | cons p ps ih =>
    intro m x y h
    cases m with
    | nil => simp at h
    | cons q qs => rw [List.cons_append, List.cons_append, sms_cons, sms_cons, ih qs x y (by simpa using h), Bool.and_assoc]
theorem sms_stop {l m : List Tr} {j : Nat} {x y : Tr} (hx : l[j]? = some x) (hy : m[j]? = some y) (h : sm x y = false) : sms l m = false := by
  cases hs : sms l m with
  | false => rfl
  | true => rw [sms_at l m j x y hx hy hs] at h; cases h

theorem bytes_ne {s t : ByteArray} (h : ¬ s = t) : ¬ s.toList = t.toList := fun he => h (by
  rw [ByteArray.toList_eq, ByteArray.toList_eq] at he
  obtain ⟨⟨x⟩⟩ := s
  obtain ⟨⟨y⟩⟩ := t
  simp only at he
  rw [he])
/-- what alike answers -/
def AlV (T U : Tr) (w : World) (e : Ending) (w' : World) : Prop := e = .returned (.bool (sm T U)) ∧ Below w.heap.size w w'

set_option maxRecDepth 100000 in
set_option maxHeartbeats 2000000 in
theorem equal_any (gf : Nat) (eg : ∀ args w, (callFunc gf args).run Tryz.prog w = .ok (.enter gf args) w) (l m : List Tr) (A B : Option Addr) (c d : Nat) (w : World) (_hl : l.length < 9000) (hm : m.length < 9000) (hA : Tks (lo w.heap.size) w A l) (hB : Tks (lo w.heap.size) w B m)
    (H : ∀ x ∈ l, ∀ y ∈ m, ∀ W, Below w.heap.size w W → Calls Tryz.prog gf #[nv x, nv y] W (AlV x y W)) :
    Calls Tryz.prog 68 #[.slice A l.length c, .slice B m.length d, .func (.func gf) #[] #[]] w
      fun e w' => e = .returned (.bool (decide (l.length = m.length) && sms l m)) ∧ Below w.heap.size w w' := by
  by_cases hlm : l.length = m.length
  · have HL := Lib.hid hlm
    have HA := Lib.hid hA
    have HB := Lib.hid hB
    have HI := Lib.hid H
    have HV : Hid ((decide (l.length = m.length) && sms l m) = sms l m) := Lib.hid (by simp [hlm])
    obtain ⟨n, hn⟩ : ∃ n, m.length = n := ⟨_, rfl⟩
    have hln : l.length = n := hlm.trans hn
    have HN := Lib.hid hn
    rw [HV.out, hln, hn]
    clear hA hB H hlm hn hln
    have HLN : Hid (l.length = n) := Lib.hid (HL.out.trans HN.out)
    have hn5 : n < 9000 := by have := HN.out; omega
    clear hm
    go_enter Tryz.func68, Tryz.ntmps68
    go_wp2
    go_loopw [17] (fun i wr => ∃ (j : Nat), i = .int .i64 j ∧ j ≤ n ∧ Hid (sms (l.take j) (m.take j) = true) ∧ Below w.heap.size w wr) (fun i _ => n - (intOf i).toNat)
    case atStart => exact ⟨0, rfl, Nat.zero_le _, Lib.hid rfl, Below.refl _ _⟩
    case round =>
      obtain ⟨j, rfl, hj, HJ, hW⟩ := hrel
      by_cases hlt : j < n
      · obtain ⟨x, hx⟩ : ∃ x, l[j]? = some x := ⟨_, List.getElem?_eq_getElem (by have := HLN.out; omega)⟩
        obtain ⟨y, hy⟩ : ∃ y, m[j]? = some y := ⟨_, List.getElem?_eq_getElem (by have := HN.out; omega)⟩
        obtain ⟨b, off, rfl, hb, hc⟩ := HA.out (by have := HLN.out; omega)
        obtain ⟨b', off', rfl, hb', hc'⟩ := HB.out (by have := HN.out; omega)
        have hcx := (hc j x hx).keep (w' := wr) fun i => cell_of (hW.block _ hb)
        have hcy := (hc' j y hy).keep (w' := wr) fun i => cell_of (hW.block _ hb')
        obtain ⟨c0, c1, c2, c3, c4⟩ := hcx
        obtain ⟨d0, d1, d2, d3, d4⟩ := hcy
        have HC := Lib.hid (HI.out x (List.mem_of_getElem? hx) y (List.mem_of_getElem? hy) ((wr.alloc (nbx x)).alloc (nbx y)) (hW.trans ((below2 wr _ _).mono hW.size)))
        have hbl : b < wr.heap.size := Nat.lt_of_lt_of_le hb hW.size
        have hbl' : b' < wr.heap.size := Nat.lt_of_lt_of_le hb' hW.size
        have HS : Hid (sm x y = false → sms l m = false) := Lib.hid (sms_stop hx hy)
        have HT : Hid (sms (l.take (j + 1)) (m.take (j + 1)) = (sms (l.take j) (m.take j) && sm x y)) := Lib.hid (by
          rw [List.take_add_one, List.take_add_one, hx, hy]
          exact sms_snoc _ _ _ _ (by rw [List.length_take, List.length_take, HL.out]))
        have z4 : (0 : Int) ≤ j := by omega
        have z5 : (j : Int) < n := by omega
        unfold AlV at HC
        generalize sm x y = r at HC HS HT
        clear hc hc' hx hy hb hb'
        cases r with
        | false =>
          go_wp2_with (first | (go_at_fn gf; refine HC.out.mono ?_; rintro e w1 ⟨rfl, hb1⟩))
          go_ret
          exact ⟨by rw [HS.out (by trivial)]; rfl, (hW.trans ((below2 wr _ _).mono hW.size)).trans (hb1.mono (by have := hW.size; simp; omega))⟩
        | true =>
          go_wp2_with (first | (go_at_fn gf; refine HC.out.mono ?_; rintro e w1 ⟨rfl, hb1⟩))
          go_roundw
          case rel => exact ⟨j + 1, by go_num, by omega, Lib.hid (by rw [HT.out, HJ.out]; rfl), (hW.trans ((below2 wr _ _).mono hW.size)).trans (hb1.mono (by have := hW.size; simp; omega))⟩
          case measure => simp [intOf]; omega
      · obtain rfl : j = n := by omega
        have HS : Hid (sms l m = true) := Lib.hid (by have := HJ.out; rwa [show l.take j = l from by rw [← HLN.out, List.take_length], show m.take j = m from by rw [← HN.out, List.take_length]] at this)
        go_wp2
        go_ret
        exact ⟨by rw [HS.out]; rfl, hW⟩
  · have HV : Hid ((decide (l.length = m.length) && sms l m) = false) := Lib.hid (by simp [hlm])
    rw [HV.out]
    have hne : ((l.length : Int) != m.length) = true := by simp; omega
    clear hA hB H hlm
    go_enter Tryz.func68, Tryz.ntmps68
    go_wp2
    go_ret
    exact ⟨rfl, Below.refl _ _⟩

theorem eg_alike : ∀ args w, (callFunc 44 args).run Tryz.prog w = .ok (.enter 44 args) w := by
  intro args w; simp [go_sem]

set_option maxRecDepth 100000 in
set_option maxHeartbeats 2000000 in
theorem alike_any (T : Tr) : ∀ (U : Tr) (w : World), wt T ≤ 9000 → wt U ≤ 9000 → Tn (lo w.heap.size) w T → Tn (lo w.heap.size) w U →
    Calls Tryz.prog 44 #[nv T, nv U] w (AlV T U w) := by
  induction T using Tr.ind with | _ k g t a A c kids ih =>
  intro U w hw hv hT hU
  have hkl : kids.length < 9000 := by have := kids_le (T := ⟨k, g, t, a, A, c, kids⟩); simp only at this; omega
  have hkm : U.kids.length < 9000 := by have := kids_le (T := U); omega
  have hB2 := below2 w (nbx ⟨k, g, t, a, A, c, kids⟩) (nbx U)
  have hT2 := (hT.below hB2).more hB2.size
  have hU2 := (hU.below hB2).more hB2.size
  have HE := Lib.hid (equal_any 44 eg_alike kids U.kids A U.A c U.c ((w.alloc (nbx ⟨k, g, t, a, A, c, kids⟩)).alloc (nbx U)) hkl hkm (tn_iff.1 hT2).2.1 (tn_iff.1 hU2).2.1 (fun x hx y hy W hb =>
    ih x hx y W (by have := wt_kid (T := ⟨k, g, t, a, A, c, kids⟩) hx; omega) (by have := wt_kid hy; omega) (((hT2.kid hx).below hb).more hb.size) (((hU2.kid hy).below hb).more hb.size)))
  have HB := Lib.hid hB2
  have hs := sm_eq ⟨k, g, t, a, A, c, kids⟩ U
  clear ih hw hv hT hU hT2 hU2 hkl hkm hB2
  unfold AlV
  obtain ⟨k', g', t', a', A', c', kids'⟩ := U
  simp only at HE hs
  by_cases hk : k = k'
  · subst hk
    by_cases hg : g = g'
    · subst hg
      by_cases ht : t = t'
      · subst ht
        by_cases ha : a = a'
        · subst ha
          have HV := Lib.hid hs
          simp only [decide_true, Bool.true_and] at HV
          rw [HV.out]
          clear hs
          go_enter Tryz.func44, Tryz.ntmps44
          go_wp2_with (go_at_call 68; refine HE.out.mono ?_; rintro e w1 ⟨rfl, hb1⟩)
          go_ret
          exact ⟨rfl, HB.out.trans (hb1.mono HB.out.size)⟩
        · have e1 : (a == a') = false := by simp [ha]
          have HV := Lib.hid hs
          simp only [ha, decide_false, Bool.and_false, Bool.false_and] at HV
          rw [HV.out]
          clear hs HE ha
          go_enter Tryz.func44, Tryz.ntmps44
          go_wp2
          go_ret
          exact ⟨rfl, HB.out⟩
      · have e1 : (t.toList == t'.toList) = false := by simpa using bytes_ne ht
        have HV := Lib.hid hs
        simp only [ht, decide_false, Bool.and_false, Bool.false_and] at HV
        rw [HV.out]
        clear hs HE
        go_enter Tryz.func44, Tryz.ntmps44
        go_wp2
        go_ret
        exact ⟨rfl, HB.out⟩
    · have e1 : (g.toList == g'.toList) = false := by simpa using bytes_ne hg
      have HV := Lib.hid hs
      simp only [hg, decide_false, Bool.and_false, Bool.false_and] at HV
      rw [HV.out]
      clear hs HE
      go_enter Tryz.func44, Tryz.ntmps44
      go_wp2
      go_ret
      exact ⟨rfl, HB.out⟩
  · have e1 : (k == k') = false := by simp [hk]
    have HV := Lib.hid hs
    simp only [hk, decide_false, Bool.false_and] at HV
    rw [HV.out]
    clear hs HE hk
    go_enter Tryz.func44, Tryz.ntmps44
    go_wp2
    go_ret
    exact ⟨rfl, HB.out⟩

set_option maxHeartbeats 1600000 in
theorem same_any (T U : Tr) (w : World) (hw : wt T ≤ 9000) (hv : wt U ≤ 9000) (hT : Tn (lo w.heap.size) w T) (hU : Tn (lo w.heap.size) w U) :
    Calls Tryz.prog 20 #[nv T, nv U] w fun e w' => e = .returned (.bool (rgt T && rgt U && sm T U)) ∧ Below w.heap.size w w' := by
  have hB2 := below2 w (nbx T) (nbx U)
  have hT2 := (hT.below hB2).more hB2.size
  have hU2 := (hU.below hB2).more hB2.size
  have HR := Lib.hid (right_any T ((w.alloc (nbx T)).alloc (nbx U)) hT2 hw)
  have HRU : Hid (∀ W, Below ((w.alloc (nbx T)).alloc (nbx U)).heap.size ((w.alloc (nbx T)).alloc (nbx U)) W → Calls Tryz.prog 30 #[nv U] W fun e w' => e = .returned (.bool (rgt U)) ∧ Below W.heap.size W w') :=
    Lib.hid fun W hb => right_any U W ((hU2.below hb).more hb.size) hv
  have HA : Hid (∀ W, Below ((w.alloc (nbx T)).alloc (nbx U)).heap.size ((w.alloc (nbx T)).alloc (nbx U)) W → Calls Tryz.prog 44 #[nv T, nv U] W (AlV T U W)) :=
    Lib.hid fun W hb => alike_any T U W hw hv ((hT2.below hb).more hb.size) ((hU2.below hb).more hb.size)
  have HB := Lib.hid hB2
  clear hB2 hT2 hU2 hw hv hT hU
  unfold AlV at HA
  obtain ⟨S, hS⟩ : ∃ S, sm T U = S := ⟨_, rfl⟩
  rw [hS] at HA ⊢
  clear hS
  cases hrt : rgt T with
  | false =>
    rw [hrt] at HR
    clear hrt HRU HA
    go_enter Tryz.func20, Tryz.ntmps20
    go_wp2_with fail
    refine HR.out.mono ?_
    rintro e w1 ⟨rfl, hb1⟩
    go_wp2
    go_ret
    exact ⟨rfl, HB.out.trans (hb1.mono HB.out.size)⟩
  | true =>
    rw [hrt] at HR
    clear hrt
    go_enter Tryz.func20, Tryz.ntmps20
    go_wp2_with fail
    refine HR.out.mono ?_
    rintro e w1 ⟨rfl, hb1⟩
    have HB1 := Lib.hid hb1
    have hc1 := box5 (((Below.refl (w.alloc (nbx T)).heap.size _).alloc (Nat.le_refl _) (nbx U)).trans (hb1.mono (by simp)))
    have hd1 := box5 hb1
    rw [World.size_alloc] at hd1
    have hs1 : w.heap.size + 2 ≤ w1.heap.size := by have := hb1.size; simpa using this
    clear hb1
    cases hru : rgt U with
    | false =>
      have HV := Lib.hid hru
      rw [hru] at HRU
      clear hru HA
      go_wp2_with fail
      refine (HRU.out w1 HB1.out).mono ?_
      rintro e w2 ⟨rfl, hb2⟩
      go_wp2
      go_ret
      exact ⟨by rw [HV.out]; rfl, HB.out.trans ((HB1.out.trans (hb2.mono HB1.out.size)).mono HB.out.size)⟩
    | true =>
      have HV := Lib.hid hru
      rw [hru] at HRU
      clear hru
      go_wp2_with fail
      refine (HRU.out w1 HB1.out).mono ?_
      rintro e w2 ⟨rfl, hb2⟩
      have HB2 := Lib.hid (HB1.out.trans (hb2.mono HB1.out.size))
      have hc2 := box5 (((Below.refl (w.alloc (nbx T)).heap.size _).alloc (Nat.le_refl _) (nbx U)).trans (HB2.out.mono (by simp)))
      have hd2 := box5 HB2.out
      rw [World.size_alloc] at hd2
      clear hb2 hc1 hd1
      go_wp2_with fail
      refine (HA.out w2 HB2.out).mono ?_
      rintro e w3 ⟨rfl, hb3⟩
      go_wp2
      go_ret
      exact ⟨by rw [HV.out]; rfl, HB.out.trans ((HB2.out.trans (hb3.mono HB2.out.size)).mono HB.out.size)⟩
end Go.Proofs.YtfmlcddakfbleaaGreatDoor
