/- The law FilesBack, walked. -/
import Derived.Test.YtfkpnfhhmldodaaFilesWays
import Derived.Test.YtfkpnfhhmldodaaFilesAlive
namespace Go.Proofs.Ytfkpnfhhmldodaa
open Go.RowKit EditMath FilesMath

/-- what the patches back are bounded by -/
theorem back_small {l : List Fl} {P : List PD} (h : Good l P) {m : List Pt} (hm : m.map pd = P.map (bkP l)) (hpl : ∀ p ∈ P, p.2.length ≤ 10000) :
    ptot m ≤ 50000 ∧ m.length ≤ 30 ∧ ∀ (i : Nat) (p : Pt), m[i]? = some p → p.l.length ≤ 10000 := by
  have hg := back_good h
  rw [← hm] at hg
  obtain ⟨h1, h2⟩ := good_ptot hg (fun p hp => by
    rw [hm] at hp
    obtain ⟨p', hp', rfl⟩ := List.mem_map.1 hp
    obtain ⟨q, f, hplc, hf, hrt, _⟩ := h.each p' hp'
    have h3 := tx_bkL f.t hrt
    have h4 := (h.right.2.2 q f hf).2.1
    show tx (bkL (txtOf l p'.1) p'.2) ≤ 4000
    rw [txtOf_at hplc hf]
    omega)
  refine ⟨h1, h2, fun i p hp => ?_⟩
  have hx : pd p ∈ m.map pd := List.mem_map_of_mem (List.mem_of_getElem? hp)
  rw [hm] at hx
  obtain ⟨p', hp', e⟩ := List.mem_map.1 hx
  have h3 : p.l = bkL (txtOf l p'.1) p'.2 := (congrArg Prod.snd e).symm
  rw [h3]
  exact Nat.le_trans (bkL_length _ _) (hpl p' hp')
theorem diff_small {a b : List Fl} (ha : Rgt a) (hb : Rgt b) {m : List Pt} (hm : m.map pd = dfs a b) : ptot m ≤ 50000 ∧ m.length ≤ 30 ∧ ∀ (i : Nat) (p : Pt), m[i]? = some p → p.l.length ≤ 10000 := by
  have hg := diff_good ha hb
  rw [← hm] at hg
  obtain ⟨h1, h2⟩ := good_ptot hg (fun p hp => by
    rw [hm] at hp
    obtain ⟨i, f, g, hf, hgg, _, rfl⟩ := dfs_mem hp
    have h3 := dfE_tx f.t g.t
    have h4 := (hb.2.2 i g hgg).2.1
    show tx [dfE f.t g.t] ≤ 4000
    omega)
  refine ⟨h1, h2, fun i p hp => ?_⟩
  have hx : pd p ∈ m.map pd := List.mem_map_of_mem (List.mem_of_getElem? hp)
  rw [hm] at hx
  obtain ⟨j, f, g, _, _, _, e⟩ := dfs_mem hx
  have h3 : p.l = [dfE f.t g.t] := congrArg Prod.snd e
  rw [h3]; simp

set_option maxRecDepth 100000 in
set_option maxHeartbeats 2000000 in
theorem filesBack_walk (A0 A1 : Option Addr) (c0 c1 : Nat) (l : List Fl) (m : List Pt) (hes0 : ∀ (i : Nat) (f : Fl), l[i]? = some f → (f.n.size : Int) ≤ 140737488355328 ∧ (f.t.size : Int) ≤ 140737488355328)
    (hes1 : ∀ (i : Nat) (p : Pt), m[i]? = some p → (p.n.size : Int) ≤ 140737488355328 ∧ ∀ (k : Nat) (e : Ed), p.l[k]? = some e → (e.s.size : Int) ≤ 140737488355328) (hll : ∀ (i : Nat) (p : Pt), m[i]? = some p → (p.l.length : Int) ≤ 9223372036854775807)
    (hl0 : (l.length : Int) ≤ 9223372036854775807) (hl1 : (m.length : Int) ≤ 9223372036854775807) (hc0 : l.length ≤ c0) (hn0 : A0 = none → c0 = 0) (w : World) (hr0 : Fls w w.heap.size A0 l) (hr1 : Pts w w.heap.size A1 m) :
    Calls Try.prog 11 #[.slice A0 l.length c0, .slice A1 m.length c1] w fun e w' => e = .returned (.bool true) ∧ Below w.heap.size w w' := by
  have HS0 := Lib.hid hes0
  have HS1 := Lib.hid hes1
  have HLL := Lib.hid hll
  have HR0 := Lib.hid hr0
  have HR1 := Lib.hid hr1
  have HN0 := Lib.hid hn0
  clear hes0 hes1 hll hr0 hr1 hn0
  go_enter Try.func11, Try.ntmps11
  go_wp2_with fail
  refine (alive4_any _).mono ?_
  rintro e w1 ⟨rfl, hB1⟩
  go_wp2_with fail
  refine (large4_any A0 c0 l _ HS0.out hl0 (HR0.out.after hB1)).mono ?_
  rintro e w2 ⟨hv, hb2⟩
  have hB2 := hB1.trans (hb2.mono hB1.size)
  clear hb2
  rcases hv with rfl | ⟨rfl, hla, hta⟩
  · go_wp2
    go_ret
    exact ⟨rfl, hB2⟩
  · go_wp2_with fail
    refine (many_any A1 c1 m _ HS1.out hl1 HLL.out (HR1.out.after hB2)).mono ?_
    rintro e w3 ⟨hv, hb3⟩
    have hB3 := hB2.trans (hb3.mono hB2.size)
    clear hb3
    rcases hv with rfl | ⟨rfl, hlm, hpt, hpl⟩
    · go_wp2
      go_ret
      exact ⟨rfl, hB3⟩
    · have hpl' : ∀ (i : Nat) (p : Pt), m[i]? = some p → p.l.length ≤ 10000 := fun i p hp => by have := hpl i p hp; omega
      have hla' : l.length ≤ 30 := by omega
      have hta' : tot l ≤ 50000 := by omega
      have hlm' : m.length ≤ 30 := by omega
      have hpt' : ptot m ≤ 50000 := by omega
      have HAP := fun (W : World) h h' => Lib.hid (apply4_any A0 A1 c0 c1 l m W hla' hc0 HN0.out hta' hlm' hpt' hpl' h h')
      have HIN := fun (W : World) h h' => Lib.hid (invert4_any A0 A1 c0 c1 l m W hla' hc0 hta' hlm' hpt' hpl' h h')
      have HPM : Hid (∀ p ∈ m.map pd, p.2.length ≤ 10000) := Lib.hid (fun p hp => by
        obtain ⟨q, hq, rfl⟩ := List.mem_map.1 hp
        obtain ⟨i, hi⟩ := List.getElem?_of_mem hq
        exact hpl' i q hi)
      clear hpl hpl' hla hta hlm hpt
      by_cases hb : pbad l (m.map pd) = 0
      · have hgd := good_of hb
        have HW := Lib.hid hgd
        have hiv : invL l (m.map pd) = (m.map pd).map (bkP l) := by unfold invL; rw [if_pos hb]
        rw [hiv, hb] at HIN
        rw [hb] at HAP
        have HRW := Lib.hid (apL_right hgd)
        have HNM := Lib.hid (apL_names hgd)
        have HBL := Lib.hid (back_leads hgd)
        have HBG := Lib.hid (pbad_good (back_good hgd))
        have HDG := Lib.hid (pbad_good (diff_good hgd.right (apL_right hgd)))
        have HDL := Lib.hid (diff_leads hgd.right (apL_right hgd) (apL_names hgd).symm)
        have HDN : Hid (dfN l (apL l (m.map pd)) = 0) := Lib.hid (by unfold dfN; rw [if_pos ⟨rgt_yes hgd.right, rgt_yes (apL_right hgd)⟩, if_pos (sameN_of (apL_names hgd).symm)])
        have HBS := fun m2 h2 => Lib.hid (back_small hgd (m := m2) h2 HPM.out)
        have HDS := fun m2 h2 => Lib.hid (diff_small hgd.right (apL_right hgd) (m := m2) h2)
        have hlw : (apL l (m.map pd)).length ≤ 30 := by have := HRW.out.2.1; omega
        have htw := rgt_tot HRW.out
        clear hgd hiv hb
        generalize hX : apL l (m.map pd) = X at *
        clear hX
        go_wp2_with fail
        refine (HAP _ (HR0.out.after hB3) (HR1.out.after hB3)).out.mono ?_
        rintro e w4 ⟨A4, c4, rfl, hF4, hc4, hn4, hb4⟩
        rw [show er 0 = Value.nilIface from rfl]
        have hB4 := hB3.trans (hb4.mono hB3.size)
        have HF4 := Lib.hid hF4
        have HN4 := Lib.hid hn4
        clear hb4 hF4 hn4
        go_wp2_with fail
        refine (HIN _ (HR0.out.after hB4) (HR1.out.after hB4)).out.mono ?_
        rintro e w5 ⟨A5, c5, m5, rfl, hP5, _, _, hm5, hb5⟩
        rw [show er 0 = Value.nilIface from rfl]
        have hB5 := hB4.trans (hb5.mono hB4.size)
        have HF5 := Lib.hid (HF4.out.after hb5)
        have HP5 := Lib.hid hP5
        have HM5 := Lib.hid hm5
        clear hb5 hP5 hm5 HF4
        go_wp2_with fail
        refine (diff_any A0 A4 c0 c4 l X _ hla' hlw hc0 hc4 hta' htw (HR0.out.after hB5) HF5.out).mono ?_
        have hdl : dfL l X = dfs l X := by unfold dfL; rw [if_pos HDN.out]
        rw [hdl, HDN.out]
        clear hdl
        rintro e w6 ⟨A6, c6, m6, rfl, hP6, _, _, hm6, hb6⟩
        rw [show er 0 = Value.nilIface from rfl]
        have hB6 := hB5.trans (hb6.mono hB5.size)
        have HF6 := Lib.hid (HF5.out.after hb6)
        have HP56 := Lib.hid (HP5.out.after hb6)
        have HP6 := Lib.hid hP6
        have HM6 := Lib.hid hm6
        clear hb6 hP6 hm6 HF5 HP5
        obtain ⟨b1, b2, b3⟩ := (HBS m5 HM5.out).out
        obtain ⟨d1, d2, d3⟩ := (HDS m6 HM6.out).out
        have HA5 := fun (W : World) h h' => Lib.hid (apply4_any A4 A5 c4 c5 X m5 W hlw hc4 HN4.out htw b2 b1 b3 h h')
        have HA6 := fun (W : World) h h' => Lib.hid (apply4_any A0 A6 c0 c6 l m6 W hla' hc0 HN0.out hta' d2 d1 d3 h h')
        rw [HM5.out, HBG.out, HBL.out] at HA5
        rw [HM6.out, HDG.out, HDL.out] at HA6
        clear b1 b2 b3 d1 d2 d3
        go_wp2_with fail
        refine (HA5 _ HF6.out HP56.out).out.mono ?_
        rintro e w7 ⟨A7, c7, rfl, hF7, _, _, hb7⟩
        rw [show er 0 = Value.nilIface from rfl]
        have hB7 := hB6.trans (hb7.mono hB6.size)
        have HF67 := Lib.hid (HF6.out.after hb7)
        have HP67 := Lib.hid (HP6.out.after hb7)
        have HF7 := Lib.hid hF7
        clear hb7 hF7 HF6 HP6
        go_wp2_with fail
        refine (HA6 _ (HR0.out.after hB7) HP67.out).out.mono ?_
        rintro e w8 ⟨A8, c8, rfl, hF8, _, _, hb8⟩
        rw [show er 0 = Value.nilIface from rfl]
        have hB8 := hB7.trans (hb8.mono hB7.size)
        have HF68 := Lib.hid (HF67.out.after hb8)
        have HF78 := Lib.hid (HF7.out.after hb8)
        have HF8 := Lib.hid hF8
        clear hb8 hF8 HF67 HF7 HA5 HA6 HAP HIN HBS HDS
        go_wp2_with fail
        refine (files_same A7 A0 c7 c0 l _ hla' HF78.out (HR0.out.after hB8)).mono ?_
        rintro e w9 ⟨rfl, hb9⟩
        have hB9 := hB8.trans (hb9.mono hB8.size)
        go_wp2_with fail
        refine (files_same A8 A4 c8 c4 X _ hlw (HF8.out.after hb9) (HF68.out.after hb9)).mono ?_
        rintro e w10 ⟨rfl, hb10⟩
        go_wp2
        go_ret
        exact ⟨rfl, hB9.trans (hb10.mono hB9.size)⟩
      · have hal : apL l (m.map pd) = [] := by unfold apL; rw [if_neg hb]
        rw [hal] at HAP
        have hne : pbad l (m.map pd) ≠ 0 := hb
        generalize pbad l (m.map pd) = n at *
        have hen : er n = errn n := by unfold er; rw [if_neg hne]
        clear hb hal hne HIN
        go_wp2_with fail
        refine (HAP _ (HR0.out.after hB3) (HR1.out.after hB3)).out.mono ?_
        rintro e w4 ⟨A4, c4, rfl, hF4, hc4, hn4, hb4⟩
        rw [hen]
        clear hF4 hn4 hen HAP
        go_wp2
        go_ret
        exact ⟨rfl, hB3.trans (hb4.mono hB3.size)⟩
end Go.Proofs.Ytfkpnfhhmldodaa
