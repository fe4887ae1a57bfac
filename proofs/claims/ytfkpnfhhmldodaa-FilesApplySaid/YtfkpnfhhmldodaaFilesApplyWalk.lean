/- The law FilesApply, walked. -/
import Derived.Test.YtfkpnfhhmldodaaFilesMine
import Derived.Test.YtfkpnfhhmldodaaFilesRefInvert
import Derived.Test.YtfkpnfhhmldodaaFilesWays
import Derived.Test.YtfkpnfhhmldodaaFilesPats
import Derived.Test.YtfkpnfhhmldodaaFilesAlive
namespace Go.Proofs.Ytfkpnfhhmldodaa
open Go.RowKit EditMath FilesMath

theorem pbad_nonneg (l : List Fl) (P : List PD) : 0 ≤ pbad l P := by
  unfold pbad
  split
  · split
    · split <;> omega
    · suffices h : ∀ (Q : List PD) (st : Int × List Nat), 0 ≤ st.1 → 0 ≤ (Q.foldl (pstep l) st).1 from h P (0, []) (by simp)
      intro Q
      induction Q with
      | nil => intro st h; exact h
      | cons p Q ih =>
        intro st h
        rw [List.foldl_cons]
        refine ih _ ?_
        unfold pstep
        split
        · split
          · simp
          · split
            · simp
            · split <;> simp
        · exact h
  · omega

/-- how long the patches back are -/
theorem invL_small {l : List Fl} {P : List PD} (hpl : ∀ p ∈ P, p.2.length ≤ 10000) (hP : P.length ≤ 30) : (invL l P).length ≤ 100 ∧ ∀ (i : Nat) (x : PD), (invL l P)[i]? = some x → x.2.length ≤ 20000 := by
  unfold invL
  split
  · refine ⟨by rw [List.length_map]; omega, fun i x hx => ?_⟩
    rw [List.getElem?_map, Option.map_eq_some_iff] at hx
    obtain ⟨p, hp, rfl⟩ := hx
    have := hpl p (List.mem_of_getElem? hp)
    exact Nat.le_trans (bkL_length _ _) (by omega)
  · exact ⟨by simp, fun i x h => by simp at h⟩
theorem apL_small {l : List Fl} {P : List PD} (hl : l.length ≤ 30) : (apL l P).length ≤ 30 := by
  unfold apL
  split
  · rw [apS_length]; exact hl
  · simp
theorem ptot_pd : ∀ (a b : List Pt), a.map pd = b.map pd → ptot a = ptot b
  | [], [], _ => rfl
  | [], _ :: _, h => by simp at h
  | _ :: _, [], h => by simp at h
  | x :: a, y :: b, h => by
    simp only [List.map_cons, List.cons.injEq] at h
    have := ptot_pd a b h.2
    have h1 : x.n = y.n := congrArg Prod.fst h.1
    have h2 : x.l = y.l := congrArg Prod.snd h.1
    simp only [ptot, h1, h2, this]

set_option maxRecDepth 100000 in
set_option maxHeartbeats 2000000 in
theorem filesApply_walk (A0 A1 : Option Addr) (c0 c1 : Nat) (l : List Fl) (m : List Pt) (hes0 : ∀ (i : Nat) (f : Fl), l[i]? = some f → (f.n.size : Int) ≤ 140737488355328 ∧ (f.t.size : Int) ≤ 140737488355328)
    (hes1 : ∀ (i : Nat) (p : Pt), m[i]? = some p → (p.n.size : Int) ≤ 140737488355328 ∧ ∀ (k : Nat) (e : Ed), p.l[k]? = some e → (e.s.size : Int) ≤ 140737488355328) (hll : ∀ (i : Nat) (p : Pt), m[i]? = some p → (p.l.length : Int) ≤ 9223372036854775807)
    (hl0 : (l.length : Int) ≤ 9223372036854775807) (hl1 : (m.length : Int) ≤ 9223372036854775807) (_hc0 : l.length ≤ c0) (hn0 : A0 = none → c0 = 0) (w : World) (hr0 : Fls w w.heap.size A0 l) (hr1 : Pts w w.heap.size A1 m) :
    Calls Try.prog 8 #[.slice A0 l.length c0, .slice A1 m.length c1] w fun e w' => e = .returned (.bool true) ∧ Below w.heap.size w w' := by
  have HS0 := Lib.hid hes0
  have HS1 := Lib.hid hes1
  have HLL := Lib.hid hll
  have HR0 := Lib.hid hr0
  have HR1 := Lib.hid hr1
  have HN0 := Lib.hid hn0
  clear hes0 hes1 hll hr0 hr1 hn0
  go_enter Try.func8, Try.ntmps8
  go_wp2_with fail
  refine (alive4_any _).mono ?_
  rintro e w1 ⟨rfl, hB1⟩
  go_wp2_with fail
  refine (large4_any A0 c0 l _ HS0.out hl0 (HR0.out.after hB1)).mono ?_
  rintro e w2 ⟨hv, hb2⟩
  have hB2 := hB1.trans (hb2.mono hB1.size)
  clear hb2
  rcases hv with rfl | ⟨rfl, hla, hta⟩
  · go_wp2
    go_ret
    exact ⟨rfl, hB2⟩
  · go_wp2_with fail
    refine (many_any A1 c1 m _ HS1.out hl1 HLL.out (HR1.out.after hB2)).mono ?_
    rintro e w3 ⟨hv, hb3⟩
    have hB3 := hB2.trans (hb3.mono hB2.size)
    clear hb3
    rcases hv with rfl | ⟨rfl, hlm, hpt, hpl⟩
    · go_wp2
      go_ret
      exact ⟨rfl, hB3⟩
    · have hpl' : ∀ (i : Nat) (p : Pt), m[i]? = some p → p.l.length ≤ 10000 := fun i p hp => by have := hpl i p hp; omega
      have hla' : l.length ≤ 30 := by omega
      have hta' : tot l ≤ 50000 := by omega
      have hlm' : m.length ≤ 30 := by omega
      have hpt' : ptot m ≤ 50000 := by omega
      have HPM : Hid (∀ p ∈ m.map pd, p.2.length ≤ 10000) := Lib.hid (fun p hp => by
        obtain ⟨q, hq, rfl⟩ := List.mem_map.1 hp
        obtain ⟨i, hi⟩ := List.getElem?_of_mem hq
        exact hpl' i q hi)
      have HRA := fun (W : World) h h' => Lib.hid (refApply4_any A0 A1 c0 c1 l m W hla' HN0.out hta' hlm' hpt' hpl' h h')
      have HRI := fun (W : World) h h' => Lib.hid (refInvert4_any A0 A1 c0 c1 l m W hla' HN0.out hta' hlm' hpt' hpl' h h')
      have HMI := fun (W : World) h => Lib.hid (own4_any A1 c1 m W hlm' hpl' h)
      have HPL := Lib.hid hpl'
      have HNN := pbad_nonneg l (m.map pd)
      have HIS := Lib.hid (invL_small (l := l) HPM.out (by rw [List.length_map]; exact hlm'))
      have hAS := apL_small (l := l) (P := m.map pd) hla'
      clear hpl hpl' hla hta hlm hpt
      have hF3 := HR0.out.after hB3
      have HF0 := Lib.hid (hF3.alloc (Nat.le_refl _) (.cells #[] 58))
      clear hF3
      go_wp2_with (at_builtin; refine wpList_append_fls (by rfl) _ _ (by rfl) _ w3.heap.size (some ⟨w3.heap.size, 0, none⟩) 0 w3.heap.size A0 c0 l (by rfl) (by rfl) (OwnF.made w3 _ (Nat.le_refl _)) HF0.out HN0.out (by omega) (by simp) ?_; intro A4 c4 w4 hown4 hgrow4)
      have hb34 : Below w3.heap.size w3 w4 := (OwnF.made w3 w3.heap.size (Nat.le_refl _)).belowApp (m := []) (below1 w3 _) hgrow4 (Nat.le_refl _) (by simp)
      have hB4 := hB3.trans (hb34.mono hB3.size)
      have HF4 := Lib.hid hown4.fls
      obtain ⟨hc4, hn4⟩ := hown4.cap
      have HN4 := Lib.hid hn4
      clear hown4 hgrow4 HF0 hb34 hn4
      refine (HMI w4 (HR1.out.after hB4)).out.mono ?_
      rintro e w5 ⟨A5, c5, M, rfl, hP5, hc5, hn5, hm5, hb5⟩
      have hB5 := hB4.trans (hb5.mono hB4.size)
      have HF5 := Lib.hid (HF4.out.after hb5)
      have HP5 := Lib.hid hP5
      have hML : M.length = m.length := by have := congrArg List.length hm5; simpa using this
      have hMP : ptot M ≤ 50000 := by rw [ptot_pd M m hm5]; exact hpt'
      have hML' : M.length ≤ 30 := by omega
      have HMPL : Hid (∀ (i : Nat) (p : Pt), M[i]? = some p → p.l.length ≤ 10000) := Lib.hid (fun i p hp => by
        have hx : pd p ∈ M.map pd := List.mem_map_of_mem (List.mem_of_getElem? hp)
        rw [hm5] at hx
        exact HPM.out _ hx)
      have HAP := fun (W : World) h h' => Lib.hid (apply4_any A4 A5 c4 c5 l M W hla' hc4 HN4.out hta' hML' hMP HMPL.out h h')
      have HIN := fun (W : World) h h' => Lib.hid (invert4_any A4 A5 c4 c5 l M W hla' hc4 hta' hML' hMP HMPL.out h h')
      rw [hm5] at HAP HIN
      have HM5 := Lib.hid hm5
      clear hb5 hP5 hm5 hML hMP HF4 HMI hn5 hc5
      generalize hX : apL l (m.map pd) = X at *
      generalize hI : invL l (m.map pd) = I at *
      generalize hN : pbad l (m.map pd) = n at *
      clear hX hI hN
      have hnn : (n == n) = true := by simp
      go_wp2_with fail
      refine (HAP _ HF5.out HP5.out).out.mono ?_
      rintro e w6 ⟨A6, c6, rfl, hF6, _, _, hb6⟩
      have hB6 := hB5.trans (hb6.mono hB5.size)
      have HF56 := Lib.hid (HF5.out.after hb6)
      have HP56 := Lib.hid (HP5.out.after hb6)
      have HF6 := Lib.hid hF6
      clear hF6 hb6 HF5 HP5
      go_wp2_with fail
      refine (HRA _ (HR0.out.after hB6) (HR1.out.after hB6)).out.mono ?_
      rintro e w7 ⟨A7, c7, rfl, hF7, hb7⟩
      have hB7 := hB6.trans (hb7.mono hB6.size)
      have HF57 := Lib.hid (HF56.out.after hb7)
      have HP57 := Lib.hid (HP56.out.after hb7)
      have HF67 := Lib.hid (HF6.out.after hb7)
      have HF7 := Lib.hid hF7
      clear hF7 hb7 HF56 HP56 HF6
      go_wp2_with fail
      refine (HIN _ HF57.out HP57.out).out.mono ?_
      rintro e w8 ⟨A8, c8, m8, rfl, hP8, _, _, hm8, hb8⟩
      have hB8 := hB7.trans (hb8.mono hB7.size)
      have HF58 := Lib.hid (HF57.out.after hb8)
      have HP58 := Lib.hid (HP57.out.after hb8)
      have HF68 := Lib.hid (HF67.out.after hb8)
      have HF78 := Lib.hid (HF7.out.after hb8)
      have HP8 := Lib.hid hP8
      have HM8 := Lib.hid hm8
      clear hP8 hm8 hb8 HF57 HP57 HF67 HF7
      go_wp2_with fail
      refine (HRI _ (HR0.out.after hB8) (HR1.out.after hB8)).out.mono ?_
      rintro e w9 ⟨A9, c9, m9, rfl, hP9, hm9, hb9⟩
      have hB9 := hB8.trans (hb9.mono hB8.size)
      have HF59 := Lib.hid (HF58.out.after hb9)
      have HP59 := Lib.hid (HP58.out.after hb9)
      have HF69 := Lib.hid (HF68.out.after hb9)
      have HF79 := Lib.hid (HF78.out.after hb9)
      have HP89 := Lib.hid (HP8.out.after hb9)
      have HP9 := Lib.hid hP9
      have HM9 := Lib.hid hm9
      clear hP9 hm9 hb9 HF58 HP58 HF68 HF78 HP8 HAP HIN HRA HRI
      have HNE := fun (W : World) => Lib.hid (num_er n HNN W)
      go_wp2_with fail
      refine (HNE _).out.mono ?_
      rintro e w10 ⟨rfl, rfl⟩
      go_wp2_with fail
      refine (files_same A6 A7 c6 c7 X _ hAS HF69.out HF79.out).mono ?_
      rintro e w11 ⟨rfl, hb11⟩
      have hB11 := hB9.trans (hb11.mono hB9.size)
      have HP811 := Lib.hid (HP89.out.after hb11)
      have HP911 := Lib.hid (HP9.out.after hb11)
      have HF511 := Lib.hid (HF59.out.after hb11)
      have HP511 := Lib.hid (HP59.out.after hb11)
      clear hb11 HF69 HF79 HP89 HP9 HF59 HP59
      go_wp2_with fail
      refine (HNE _).out.mono ?_
      rintro e w12 ⟨rfl, rfl⟩
      have hl8 : m8.length ≤ 100 := by have := congrArg List.length HM8.out; rw [List.length_map] at this; have := HIS.out.1; omega
      have HL8 : Hid (∀ (i : Nat) (p : Pt), m8[i]? = some p → p.l.length ≤ 20000) := Lib.hid (fun i p hp => HIS.out.2 i (pd p) (by rw [← HM8.out, List.getElem?_map, hp]; rfl))
      go_wp2_with fail
      refine (patches_same A8 A9 c8 c9 m8 m9 _ hl8 HL8.out (HM8.out.trans HM9.out.symm) HP811.out HP911.out).mono ?_
      rintro e w13 ⟨rfl, hb13⟩
      have hB13 := hB11.trans (hb13.mono hB11.size)
      have HF513 := Lib.hid (HF511.out.after hb13)
      have HP513 := Lib.hid (HP511.out.after hb13)
      clear hb13 HP811 HP911 HF511 HP511
      go_wp2_with fail
      refine (files_same A4 A0 c4 c0 l _ hla' HF513.out (HR0.out.after hB13)).mono ?_
      rintro e w14 ⟨rfl, hb14⟩
      have hB14 := hB13.trans (hb14.mono hB13.size)
      have HP514 := Lib.hid (HP513.out.after hb14)
      clear hb14 HF513 HP513
      have HLM : Hid (∀ (i : Nat) (p : Pt), M[i]? = some p → p.l.length ≤ 20000) := Lib.hid (fun i p hp => by have := HMPL.out i p hp; omega)
      go_wp2_with fail
      refine (patches_same A5 A1 c5 c1 M m _ (by omega) HLM.out HM5.out HP514.out (HR1.out.after hB14)).mono ?_
      rintro e w15 ⟨rfl, hb15⟩
      go_wp2
      go_ret
      exact ⟨rfl, hB14.trans (hb15.mono hB14.size)⟩
end Go.Proofs.Ytfkpnfhhmldodaa
