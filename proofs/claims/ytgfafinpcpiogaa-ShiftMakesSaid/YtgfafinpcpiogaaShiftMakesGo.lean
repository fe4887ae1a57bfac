/- The law ShiftMakes, walked. -/
import Derived.Test.YtgfafinpcpiogaaShiftMakesWalk
namespace Go.Proofs.Ytgfafinpcpiogaa
open Go.RowKit Go.Shelf EditMath ShiftMath

set_option maxRecDepth 100000 in
set_option maxHeartbeats 800000 in
theorem shiftMakes_walk (s : ByteArray) (hs : (s.size : Int) ≤ 140737488355328) (A0 A1 : Option Addr) (c0 c1 : Nat) (a b : List Ed) (hes0 : ∀ (i : Nat) (e : Ed), a[i]? = some e → (e.s.size : Int) ≤ 140737488355328) (hes1 : ∀ (i : Nat) (e : Ed), b[i]? = some e → (e.s.size : Int) ≤ 140737488355328)
    (hl0 : (a.length : Int) ≤ 9223372036854775807) (hl1 : (b.length : Int) ≤ 9223372036854775807) (w : World) (hr0 : Eds w w.heap.size A0 a) (hr1 : Eds w w.heap.size A1 b) :
    Calls Try.prog 6 #[.string s, .slice A0 a.length c0, .slice A1 b.length c1] w fun e w' => e = .returned (.bool true) ∧ Below w.heap.size w w' := by
  have HS0 := Lib.hid hes0
  have HS1 := Lib.hid hes1
  have HR0 := Lib.hid hr0
  have HR1 := Lib.hid hr1
  clear hes0 hes1 hr0 hr1
  go_enter Try.func6, Try.ntmps6
  go_wp2_with fail
  refine (alive_any _).mono ?_
  rintro e w1 ⟨rfl, hb1⟩
  go_wp2_with fail
  refine (large3_any s.size A0 c0 a HS0.out hl0 _ (HR0.out.after hb1)).mono ?_
  rintro e w2 ⟨hv, hb2⟩
  have hB2 := hb1.trans (hb2.mono hb1.size)
  clear hb1 hb2
  rcases hv with rfl | ⟨rfl, hla, htx, hsz⟩
  · go_wp2
    go_ret
    exact ⟨rfl, hB2⟩
  · go_wp2_with fail
    refine (large3_any 0 A1 c1 b HS1.out hl1 _ (HR1.out.after hB2)).mono ?_
    rintro e w3 ⟨hv, hb3⟩
    have hB3 := hB2.trans (hb3.mono hB2.size)
    clear hb3 hB2
    rcases hv with rfl | ⟨rfl, hlb, htx1, _⟩
    · go_wp2
      go_ret
      exact ⟨rfl, hB3⟩
    · clear HS0 HS1 hl0 hl1
      have t0 := tx_nonneg a
      have t1 := tx_nonneg b
      by_cases hba : bad s a = 0
      · obtain ⟨ha, _⟩ := bad_zero hba
        obtain ⟨T, hT⟩ : ∃ T : ByteArray, T.data.toList = ap s.data.toList 0 a := ⟨⟨(ap s.data.toList 0 a).toArray⟩, rfl⟩
        have hTs : (T.size : Int) = s.size + gr a := by
          have q1 := ap_length s.data.toList a 0 s.size ha rfl (Nat.zero_le _) (fun e he => by have := ((rt_parts ha).2.1 0 e he).1; simpa using this)
          rw [← hT] at q1
          have : T.data.toList.length = T.size := rfl
          have : s.data.toList.length = s.size := rfl
          omega
        have HA1 : ∀ (c : Nat) (W : World), Eds W W.heap.size A0 a → Hid (Calls Try.prog 27 #[.string s, .slice A0 a.length c] W fun e w' => e = .returned (.tuple #[.string T, .nilIface]) ∧ Below W.heap.size W w') := fun c W h => Lib.hid (by
          have := apply_ok s A0 c a hba (by omega) W (by omega) h
          rw [← hT] at this
          exact this)
        obtain ⟨g1, g2, _⟩ := gr_bounds ha
        have HTs := Lib.hid hTs
        have HT := Lib.hid hT
        clear hTs hT
        go_wp2_with fail
        refine (HA1 c0 _ (HR0.out.after hB3)).out.mono ?_
        rintro e w4 ⟨rfl, hb4⟩
        have hB4 := hB3.trans (hb4.mono hB3.size)
        clear hb4
        by_cases hbb : bad T b = 0
        · obtain ⟨hb, _⟩ := bad_zero hbb
          rw [HTs.out] at hb
          obtain ⟨L, hL1, hL2, hL3, hL4, hL5, hJ⟩ := join_makes s a b hla hlb hsz htx htx1 ha hb
          obtain ⟨U, hU⟩ : ∃ U : ByteArray, U.data.toList = ap T.data.toList 0 b := ⟨⟨(ap T.data.toList 0 b).toArray⟩, rfl⟩
          have HJ := fun A0 A1 c0 c1 W h h' => Lib.hid (hJ A0 A1 c0 c1 W h h')
          have HA2 : ∀ (c : Nat) (W : World), Eds W W.heap.size A1 b → Hid (Calls Try.prog 27 #[.string T, .slice A1 b.length c] W fun e w' => e = .returned (.tuple #[.string U, .nilIface]) ∧ Below W.heap.size W w') := fun c W h => Lib.hid (by
            have := apply_ok T A1 c b hbb (by rw [HTs.out]; omega) W (by omega) h
            rw [← hU] at this
            exact this)
          have HA3 : ∀ (A : Option Addr) (c : Nat) (W : World), Eds W W.heap.size A L → Hid (Calls Try.prog 27 #[.string s, .slice A L.length c] W fun e w' => e = .returned (.tuple #[.string U, .nilIface]) ∧ Below W.heap.size W w') := fun A c W h => Lib.hid (by
            have := apply_ok s A c L hL3 (by omega) W hL1 h
            rw [hL5, ← HT.out, ← hU] at this
            exact this)
          have HP := fun A c W h => Lib.hid (plain_any A c L s.size W hL1 h)
          rw [hL4] at HP
          have HG := fun (x : Int) (A : Option Addr) (c : Nat) (W : World) h => Lib.hid (goes_ok A c a s.size x W (by omega) h ha (by omega) (small_of ha (by omega) (by omega)))
          have hK := fun (x : Nat) (hx : x < s.size) (p : Pc) hf => goes_byte (s := s.data.toList) ha (x := x) hx (p := p) hf
          rw [← HT.out] at hK
          have HK := Lib.hid hK
          clear hK hJ hL1 hL2 hL3 hL4 hL5 hU hbb hba HT
          go_wp2_with fail
          refine (HA2 c1 _ (HR1.out.after hB4)).out.mono ?_
          rintro e w5 ⟨rfl, hb5⟩
          have hB5 := hB4.trans (hb5.mono hB4.size)
          clear hb5
          go_wp2_with fail
          refine (HJ A0 A1 c0 c1 _ (HR0.out.after hB5) (HR1.out.after hB5)).out.mono ?_
          rintro e w6 ⟨A6, c6, rfl, he6, hb6⟩
          have hB6 := hB5.trans (hb6.mono hB5.size)
          have HL6 := Lib.hid he6
          clear hb6 he6
          rw [show errV 0 = Value.nilIface from rfl]
          go_wp2_with fail
          refine (HA3 A6 c6 _ HL6.out).out.mono ?_
          rintro e w7 ⟨rfl, hb7⟩
          have hB7 := hB6.trans (hb7.mono hB6.size)
          have HL7 := Lib.hid (HL6.out.after hb7)
          clear hb7
          go_wp2_with fail
          refine (HP A6 c6 _ HL7.out).out.mono ?_
          rintro e w8 ⟨rfl, hb8⟩
          have hB8 := hB7.trans (hb8.mono hB7.size)
          clear hb8 HL7 HL6 HJ HA1 HA2 HA3
          go_wp2
          go_loopw [14, 15, 16, 86] (fun _ _ _ i wr => ∃ x : Nat, x ≤ s.size ∧ i = .int .i64 (x : Int) ∧ Below w.heap.size w wr) (fun _ _ _ i _ => s.size + 1 - (intOf i).toNat)
          case atStart => exact ⟨0, Nat.zero_le _, rfl, hB8⟩
          case round =>
            obtain ⟨x, hx, rfl, hB⟩ := hrel
            by_cases hlt : x < s.size
            · have z1 : (0 : Int) ≤ x := by omega
              have z2 : (x : Int) < s.size := by omega
              have hG := (HG x A0 c0 wr (HR0.out.after hB)).out
              cases hf : ((pcs a s.size).filter went).find? (inP x) with
              | none =>
                rw [show goesR ((pcs a s.size).filter went) x = .tuple #[.int .i64 0, errn 5] by unfold goesR; rw [hf]] at hG
                have HGG := Lib.hid hG
                clear hG hf
                go_wp2_with fail
                refine HGG.out.mono ?_
                rintro e w9 ⟨rfl, hb9⟩
                go_wp2
                go_quiet (fail)
                go_wp2
                go_roundw
                case rel => exact ⟨x + 1, by omega, by go_num, below_drewN (hB.trans (hb9.mono hB.size)) _⟩
                case measure => simp [intOf]; omega
              | some p =>
                obtain ⟨i, hi, hi2, hi3⟩ := HK.out x hlt p hf
                rw [show goesR ((pcs a s.size).filter went) x = .tuple #[.int .i64 (i : Int), .nilIface] by unfold goesR; rw [hf]; simp only [hi]] at hG
                have hsx : s.data.toList[x]? = some (s.data.toList[x]'hlt) := List.getElem?_eq_getElem hlt
                generalize s.data.toList[x]'hlt = u at hsx
                have r1 := run_idx (s := T) (i := i) (u := u) (hi3.trans hsx)
                have r2 := run_idx (s := s) (i := x) hsx
                have z3 : (0 : Int) ≤ i := by omega
                have z4 : (i : Int) < T.size := by have : T.data.toList.length = T.size := rfl; omega
                have z6 : decide (T.size ≤ i) = false := decide_eq_false (by omega)
                have z7 : decide ((i : Int) < 0) = false := decide_eq_false (by omega)
                have z5 : ((u.toNat : Int) != u.toNat) = false := by simp
                have HGG := Lib.hid hG
                clear hG hf hi hi2 hi3 hsx
                go_wp2_with fail
                refine HGG.out.mono ?_
                rintro e w9 ⟨rfl, hb9⟩
                go_wp2
                go_quiet (fail)
                go_wp2
                go_roundw
                case rel => exact ⟨x + 1, by omega, by go_num, below_drewN (hB.trans (hb9.mono hB.size)) _⟩
                case measure => simp [intOf]; omega
            · obtain rfl : x = s.size := by omega
              go_wp2
              go_ret
              exact ⟨rfl, hB⟩
        · have hb2 : bad T b = 2 := by
            rcases bad_cases T b with h | ⟨h, _⟩ | ⟨_, h, h'⟩
            · exact absurd h hbb
            · exact h
            · have := (gr_small h).2
              rw [HTs.out] at h'
              omega
          have hbF : rt b ((s.size : Int) + gr a) = false := by
            rw [← HTs.out]
            rcases bad_cases T b with h | ⟨_, h⟩ | ⟨h, _⟩
            · exact absurd h hbb
            · exact h
            · rw [hb2] at h; cases h
          have HA2 : ∀ (c : Nat) (W : World), Eds W W.heap.size A1 b → Hid (Calls Try.prog 27 #[.string T, .slice A1 b.length c] W fun e w' => e = .returned (.tuple #[.string ⟨#[]⟩, errn 2]) ∧ Below W.heap.size W w') := fun c W h => Lib.hid (by
            have := apply_bad T A1 c b hbb (by rw [HTs.out]; omega) W (by omega) h
            rw [hb2] at this
            exact this)
          have HJ := fun (W : World) h h' => Lib.hid (join_bad2 A0 A1 c0 c1 a b s.size W hla hlb h h' (by omega) hsz htx (by omega) (by omega) ha hbF)
          clear hbF hbb hb2 hba ha HT
          go_wp2_with fail
          refine (HA2 c1 _ (HR1.out.after hB4)).out.mono ?_
          rintro e w5 ⟨rfl, hb5⟩
          have hB5 := hB4.trans (hb5.mono hB4.size)
          clear hb5
          go_wp2_with fail
          refine (HJ _ (HR0.out.after hB5) (HR1.out.after hB5)).out.mono ?_
          rintro e w6 ⟨rfl, hb6⟩
          go_wp2
          go_ret
          exact ⟨rfl, hB5.trans (hb6.mono hB5.size)⟩
      · have HA1 := fun (W : World) h => Lib.hid (apply_bad s A0 c0 a hba (by omega) W (by omega) h)
        clear hba
        generalize bad s a = n at HA1
        go_wp2_with fail
        refine (HA1 _ (HR0.out.after hB3)).out.mono ?_
        rintro e w4 ⟨rfl, hb4⟩
        go_wp2
        go_ret
        exact ⟨rfl, hB3.trans (hb4.mono hB3.size)⟩
end Go.Proofs.Ytgfafinpcpiogaa
