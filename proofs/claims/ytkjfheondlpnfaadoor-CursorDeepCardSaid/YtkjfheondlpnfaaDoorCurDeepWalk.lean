/- The law CursorDeep, walked. -/
import Derived.Test.YtkjfheondlpnfaaDoorCurAlive
namespace Go.Proofs.YtkjfheondlpnfaaDoor
open Go.RowKit SignMath TreeMath

theorem assert_cur (w : World) (v : Value) : (Instr.typeAssert (.iface 46 v) 25 46 true).run Tryd.prog w = .ok (.tuple #[v, .bool true]) w := by kernel_rfl
set_option maxRecDepth 100000 in
set_option maxHeartbeats 400000 in
theorem cnum_errno (n : Int) (hn : 0 < n) (w : World) :
    Calls Tryd.prog 32 #[errn n] w fun e w' => e = .returned (.int .i64 n) ∧ w = w' := by
  have h1 : (n != 0) = true := by rw [bne_iff_ne]; omega
  have ha := assert_cur
  go_enter Tryd.func32, Tryd.ntmps32
  go_wp2
  go_ret
  exact ⟨rfl, rfl⟩
theorem cnum_nil (w : World) : Calls Tryd.prog 32 #[.nilIface] w fun e w' => e = .returned (.int .i64 0) ∧ w = w' := by
  go_enter Tryd.func32, Tryd.ntmps32
  go_wp2
  go_ret
  exact ⟨rfl, rfl⟩
set_option maxHeartbeats 400000 in
theorem cis_errno (n m : Int) (hn : 0 < n) (w : World) :
    Calls Tryd.prog 16 #[errn n, .int .i64 m] w fun e w' => e = .returned (.bool (n == m)) ∧ Below w.heap.size w w' := by
  go_enter Tryd.func16, Tryd.ntmps16
  go_wp2_with (go_at_call 32; refine (cnum_errno n hn _).mono ?_; rintro e w' ⟨rfl, rfl⟩)
  go_ret
  exact ⟨rfl, Below.refl _ _⟩
theorem cis_nil (m : Int) (w : World) :
    Calls Tryd.prog 16 #[.nilIface, .int .i64 m] w fun e w' => e = .returned (.bool ((0 : Int) == m)) ∧ Below w.heap.size w w' := by
  go_enter Tryd.func16, Tryd.ntmps16
  go_wp2_with (go_at_call 32; refine (cnum_nil _).mono ?_; rintro e w' ⟨rfl, rfl⟩)
  go_ret
  exact ⟨rfl, Below.refl _ _⟩

/-- the cursor through x, within d constructs, with that fault -/
def cdx (d : Nat) (f : Int) : Cu := ⟨⟨#[120]⟩, [⟨4, 0, 1⟩], 0, d, f, 0⟩
theorem cx_toks : tk [120] 0 = [⟨4, 0, 1⟩] := by decide +kernel
theorem cx_is : cu0 ⟨#[120]⟩ = cdx 0 0 := by
  unfold cu0
  rw [show tk (bs ⟨#[120]⟩) 0 = _ from cx_toks]
  rfl
/-- behind so many downs -/
def cd (i : Nat) : Cu := if i ≤ 200 then cdx i 0 else cdx 200 3
theorem cd_down (i : Nat) : (cd i).down = (cd (i + 1), decide (i < 200)) := by
  unfold cd
  by_cases h : i < 200
  · have h1 : ¬ 200 ≤ i := by omega
    rw [if_pos (by omega), if_pos (by omega), decide_eq_true h]
    simp [Cu.down, cdx, h1]
  · rw [if_neg (show ¬ i + 1 ≤ 200 by omega), decide_eq_false h]
    by_cases h2 : i = 200
    · subst h2
      rfl
    · rw [if_neg (by omega)]
      rfl
theorem cd_d (i : Nat) : (cd i).d = min 200 i := by
  unfold cd cdx
  split
  · simp only; omega
  · simp only; omega
theorem cd_ok (i : Nat) : (cd i).Ok := by
  have h0 : (cdx 0 0).Ok := by rw [← cx_is]; exact cu0_ok _ (by decide)
  unfold cd
  split
  · exact ⟨h0.n, h0.sz, h0.len, h0.tok, h0.ord, by show i ≤ 1000; omega, h0.f, h0.p⟩
  · exact ⟨h0.n, h0.sz, h0.len, h0.tok, h0.ord, by show 200 ≤ 1000; omega, ⟨by show (0 : Int) ≤ 3; omega, by show (3 : Int) ≤ 15; omega⟩, h0.p⟩
theorem cd_fl (i : Nat) : (cd i).fl = .tuple #[.int .i64 0, if 200 < i then errn 3 else .nilIface] := by
  unfold cd
  by_cases h : i ≤ 200
  · rw [if_pos h, if_neg (show ¬ 200 < i by omega)]
    rfl
  · rw [if_neg h, if_pos (show 200 < i by omega)]
    rfl
/-- behind so many ups -/
def cup (C : Cu) (j : Nat) : Cu := { C with d := C.d - j }
theorem cup_up (C : Cu) (j : Nat) : (cup C j).up = cup C (j + 1) := by
  unfold cup Cu.up
  simp only [Cu.mk.injEq, true_and, and_true]
  omega
theorem cup_ok {C : Cu} (h : C.Ok) (j : Nat) : (cup C j).Ok := ⟨h.n, h.sz, h.len, h.tok, h.ord, by have := h.d; show C.d - j ≤ 1000; omega, h.f, h.p⟩
theorem u260 (x : Int) : ∃ n : Nat, n < 260 ∧ wrap64 ((IntKind.u64.wrap x).tmod 260) = n := by
  have h0 : 0 ≤ IntKind.u64.wrap x := by simp [IntKind.wrap, IntKind.signed, IntKind.bits]; omega
  generalize IntKind.u64.wrap x = y at h0
  have h1 : y.tmod 260 = y % 260 := Int.tmod_eq_emod_of_nonneg h0
  rw [h1]
  refine ⟨(y % 260).toNat, by omega, ?_⟩
  unfold wrap64
  omega

set_option maxRecDepth 100000 in
set_option maxHeartbeats 8000000 in
theorem cursorDeep_walk (d u : Int) (w : World) (hL : LaidX w) : Calls Tryd.prog 4 #[.int .i64 d, .int .i64 u] w fun e w' => e = .returned (.bool true) ∧ Below w.heap.size w w' := by
  have HL := Lib.hid hL
  have HN : Hid (∀ w1, LaidX w1 → Calls Tryd.prog 6 #[.string ⟨#[120]⟩] w1 fun e w' => ∃ b A c, e = .returned (.tuple #[.pointer (some ⟨b, 0, none⟩), .int .i64 0, .nilIface]) ∧ w1.heap.size ≤ b ∧ CuM b A c (cdx 0 0) w' ∧ Below w1.heap.size w1 w') :=
    Lib.hid fun w1 h => new_small ⟨#[120]⟩ (cdx 0 0) (by decide) (by rw [show tk (bs ⟨#[120]⟩) 0 = _ from cx_toks]; decide) cx_is w1 h
  clear hL
  go_enter Tryd.func4, Tryd.ntmps4
  go_wp2_with fail
  refine (curAlive_any w HL.out).mono ?_
  rintro e w1 ⟨rfl, hb1⟩
  have HB1 := Lib.hid hb1
  have HN1 := Lib.hid (HN.out w1 (HL.out.below hb1))
  clear hb1 HN
  go_wp2_with fail
  refine HN1.out.mono ?_
  rintro e w2 ⟨b, A, c, rfl, hwb, hm2, hb2⟩
  have HB2 := Lib.hid (HB1.out.trans (hb2.mono HB1.out.size))
  have HM2 := Lib.hid hm2
  have hnb : w.heap.size ≤ b := Nat.le_trans HB1.out.size hwb
  have HNB := Lib.hid hnb
  clear hwb hm2 hb2 hnb HN1
  go_wp2
  obtain ⟨n, hn, hde⟩ := u260 d
  obtain ⟨m, hm, hue⟩ := u260 u
  rw [hde, hue]
  clear hde hue
  have HNN := Lib.hid (And.intro hn hm)
  clear hn hm
  go_loopw [8, 33, 35, 36, 37, 38, 39, 40, 41] (fun _ i _ _ _ _ _ _ _ wr => ∃ k : Nat, i = .int .i64 (k : Nat) ∧ k ≤ n ∧ w.heap.size ≤ wr.heap.size ∧ Hid (Below w.heap.size w wr) ∧ Hid (CuM b A c (cd k) wr)) (fun _ i _ _ _ _ _ _ _ _ => n + 1 - (intOf i).toNat)
  case atStart => exact ⟨0, rfl, Nat.zero_le _, HB2.out.size, HB2, HM2⟩
  case round =>
    obtain ⟨k, rfl, hk, hsr, HBr, HMr⟩ := hrel
    have zn : (n : Int) < 260 := by have := HNN.out.1; omega
    by_cases hlt : k < n
    · have hd := down_any HMr.out (cd_ok k)
      rw [cd_down] at hd
      have z1 : (k : Int) < (n : Nat) := by omega
      have hof : ∀ W' : World, Of b wr W' → Below w.heap.size w W' := fun W' ho => HBr.out.trans (of_low ho HNB.out hsr)
      have HOF := Lib.hid hof
      clear hof HM2 HB2 HMr HBr
      by_cases h2 : k < 200
      · rw [decide_eq_true h2] at hd
        have HD := Lib.hid hd
        have z2 : (k : Int) < 200 := by omega
        clear hd
        go_wp2_with fail
        refine HD.out.mono ?_
        rintro e w3 ⟨rfl, hm3, ho3⟩
        have HB3 := Lib.hid (HOF.out w3 ho3)
        have HM3 := Lib.hid hm3
        clear hm3 ho3
        go_wp2
        go_roundw
        case rel => exact ⟨k + 1, by go_num, by omega, HB3.out.size, HB3, HM3⟩
        case measure => simp [intOf]; omega
      · rw [decide_eq_false h2] at hd
        have HD := Lib.hid hd
        have z2 : ¬ (k : Int) < 200 := by omega
        clear hd
        go_wp2_with fail
        refine HD.out.mono ?_
        rintro e w3 ⟨rfl, hm3, ho3⟩
        have HB3 := Lib.hid (HOF.out w3 ho3)
        have HM3 := Lib.hid hm3
        clear hm3 ho3
        go_wp2
        go_roundw
        case rel => exact ⟨k + 1, by go_num, by omega, HB3.out.size, HB3, HM3⟩
        case measure => simp [intOf]; omega
    · obtain rfl : k = n := by omega
      have hfl := failed_any HMr.out
      rw [cd_fl] at hfl
      obtain ⟨B, hB⟩ : ∃ B, decide (200 < k) = B := ⟨_, rfl⟩
      obtain ⟨E, hE⟩ : ∃ E, (if 200 < k then errn 3 else Value.nilIface) = E := ⟨_, rfl⟩
      have hBi : decide ((200 : Int) < (k : Nat)) = B := by rw [← hB]; simp only [decide_eq_decide]; omega
      have HIS : Hid (∀ W : World, Calls Tryd.prog 16 #[E, .int .i64 3] W fun e w' => e = .returned (.bool B) ∧ Below W.heap.size W w') := Lib.hid fun W => by
        rw [← hE, ← hB]
        by_cases h : 200 < k
        · rw [if_pos h, decide_eq_true h]; exact cis_errno 3 3 (by omega) W
        · rw [if_neg h, decide_eq_false h]; exact cis_nil 3 W
      rw [hE] at hfl
      have HF := Lib.hid hfl
      obtain ⟨q, hq⟩ : ∃ q, (cd k).d = q := ⟨_, rfl⟩
      have hqk := cd_d k
      rw [hq] at hqk
      have hmin : min (200 : Int) (k : Nat) = (q : Nat) := by omega
      have hbb : (B != B) = false := by cases B <;> rfl
      have hqq : (((q : Nat) : Int) != (q : Nat)) = false := by simp
      have HDP : Hid (∀ W : World, CuM b A c (cd k) W → Calls Tryd.prog 17 #[.pointer (some ⟨b, 0, none⟩)] W fun e w' => e = .returned (.int .i64 (q : Nat)) ∧ Below W.heap.size W w') := Lib.hid fun W h => by have := deep_any h; rwa [hq] at this
      have hq2 : q ≤ 200 := by omega
      unfold Rd at HF
      clear hfl hB hE hqk HM2 HB2
      go_wp2_with fail
      refine HF.out.mono ?_
      rintro e w3 ⟨rfl, hb3⟩
      have HB3 := Lib.hid (HBr.out.trans (hb3.mono hsr))
      have HM3 := Lib.hid (HMr.out.below hb3)
      clear hb3 HF
      go_wp2_with fail
      refine (HIS.out w3).mono ?_
      rintro e w4 ⟨rfl, hb4⟩
      have HB4 := Lib.hid (HB3.out.trans (hb4.mono HB3.out.size))
      have HM4 := Lib.hid (HM3.out.below hb4)
      clear hb4
      go_wp2_with fail
      refine (HDP.out w4 HM4.out).mono ?_
      rintro e w5 ⟨rfl, hb5⟩
      have HB5 := Lib.hid (HB4.out.trans (hb5.mono HB4.out.size))
      have HM5 : Hid (CuM b A c (cup (cd k) 0) w5) := Lib.hid (HM4.out.below hb5)
      clear hb5 HIS HDP HBr HMr HB3 HM3 HB4 HM4 hsr
      go_wp2
      go_loopw [64] (fun i wr => ∃ j : Nat, i = .int .i64 (j : Nat) ∧ j ≤ m ∧ w.heap.size ≤ wr.heap.size ∧ Hid (Below w.heap.size w wr) ∧ Hid (CuM b A c (cup (cd k) j) wr)) (fun i _ => m + 1 - (intOf i).toNat)
      case atStart => exact ⟨0, rfl, Nat.zero_le _, HB5.out.size, HB5, HM5⟩
      case round =>
        obtain ⟨j, rfl, hj, hsr, HBr, HMr⟩ := hrel
        have zm : (m : Int) < 260 := by have := HNN.out.2; omega
        by_cases hlt : j < m
        · have hu := up_any HMr.out (cup_ok (cd_ok k) j)
          rw [cup_up] at hu
          have HU := Lib.hid hu
          have z1 : (j : Int) < (m : Nat) := by omega
          have hof : ∀ W' : World, Of b wr W' → Below w.heap.size w W' := fun W' ho => HBr.out.trans (of_low ho HNB.out hsr)
          have HOF := Lib.hid hof
          clear hof HMr HBr hu HB5 HM5
          go_wp2_with fail
          refine HU.out.mono ?_
          rintro e w6 ⟨⟨v, rfl⟩, hm6, ho6⟩
          have HB6 := Lib.hid (HOF.out w6 ho6)
          have HM6 := Lib.hid hm6
          clear hm6 ho6
          go_wp2
          go_roundw
          case rel => exact ⟨j + 1, by go_num, by omega, HB6.out.size, HB6, HM6⟩
          case measure => simp [intOf]; omega
        · obtain rfl : j = m := by omega
          have HDP : Hid (∀ W : World, CuM b A c (cup (cd k) j) W → Calls Tryd.prog 17 #[.pointer (some ⟨b, 0, none⟩)] W fun e w' => e = .returned (.int .i64 ((q - j : Nat) : Int)) ∧ Below W.heap.size W w') := Lib.hid fun W h => by have := deep_any h; unfold Rd at this; rwa [show (cup (cd k) j).d = q - j from by rw [← hq]; rfl] at this
          have hmax : max (0 : Int) (((q : Nat) : Int) - (j : Nat)) = ((q - j : Nat) : Int) := by omega
          have hqj : ((((q - j : Nat) : Int)) == ((q - j : Nat) : Int)) = true := by simp
          have hj2 : j < 260 := HNN.out.2
          have y1 : ((j : Nat) : Int) < 260 := by omega
          have y2 : ((q : Nat) : Int) ≤ 200 := by omega
          have hfd : ∀ W : World, (Instr.field 35 (nv zn1) 0).run Tryd.prog W = .ok (.int .i64 0) W := fun W => by kernel_rfl
          clear HB5 HM5 hq
          go_wp2_with fail
          refine (up_nil wr).mono ?_
          rintro e w6 ⟨⟨v6, rfl⟩, hb⟩
          have HB6 := Lib.hid (HBr.out.trans (hb.mono HBr.out.size))
          have HM6 := Lib.hid (HMr.out.below hb)
          clear hb HBr HMr
          go_wp2_with fail
          refine (fail_nil w6 2).mono ?_
          rintro e w7 ⟨⟨v, rfl⟩, hb⟩
          have HB7 := Lib.hid (HB6.out.trans (hb.mono HB6.out.size))
          have HM7 := Lib.hid (HM6.out.below hb)
          clear hb HB6 HM6
          go_wp2_with fail
          refine (failed_nil w7).mono ?_
          rintro e w8 ⟨rfl, hb⟩
          have HB8 := Lib.hid (HB7.out.trans (hb.mono HB7.out.size))
          have HM8 := Lib.hid (HM7.out.below hb)
          clear hb HB7 HM7
          go_wp2_with fail
          refine (peek_nil w8).mono ?_
          rintro e w9 ⟨rfl, hb⟩
          have HB9 := Lib.hid (HB8.out.trans (hb.mono HB8.out.size))
          have HM9 := Lib.hid (HM8.out.below hb)
          clear hb HB8 HM8
          go_wp2_with fail
          refine (HDP.out w9 HM9.out).mono ?_
          rintro e w10 ⟨rfl, hb⟩
          have HB10 := Lib.hid (HB9.out.trans (hb.mono HB9.out.size))
          have HM10 := Lib.hid (HM9.out.below hb)
          clear hb HB9 HM9
          go_wp2_with fail
          refine (cis_errno 2 2 (by omega) w10).mono ?_
          rintro e w11 ⟨rfl, hb⟩
          have HB11 := Lib.hid (HB10.out.trans (hb.mono HB10.out.size))
          have HM11 := Lib.hid (HM10.out.below hb)
          clear hb HB10 HM10
          go_wp2_with fail
          refine (down_nil w11).mono ?_
          rintro e w12 ⟨rfl, hb⟩
          have HB12 := Lib.hid (HB11.out.trans (hb.mono HB11.out.size))
          have HM12 := Lib.hid (HM11.out.below hb)
          clear hb HB11 HM11
          go_wp2_with fail
          refine (at_nil w12).mono ?_
          rintro e w13 ⟨rfl, hb⟩
          have HB13 := Lib.hid (HB12.out.trans (hb.mono HB12.out.size))
          have HM13 := Lib.hid (HM12.out.below hb)
          clear hb HB12 HM12
          go_wp2_with fail
          refine (left_nil w13).mono ?_
          rintro e w14 ⟨rfl, hb⟩
          have HB14 := Lib.hid (HB13.out.trans (hb.mono HB13.out.size))
          have HM14 := Lib.hid (HM13.out.below hb)
          clear hb HB13 HM13
          go_wp2_with fail
          refine (deep_nil w14).mono ?_
          rintro e w15 ⟨rfl, hb⟩
          have HB15 := Lib.hid (HB14.out.trans (hb.mono HB14.out.size))
          have HM15 := Lib.hid (HM14.out.below hb)
          clear hb HB14 HM14
          go_wp2_with fail
          refine (end_nil w15).mono ?_
          rintro e w16 ⟨rfl, hb⟩
          have HB16 := Lib.hid (HB15.out.trans (hb.mono HB15.out.size))
          have HM16 := Lib.hid (HM15.out.below hb)
          clear hb HB15 HM15
          go_wp2_with fail
          refine (is_nil w16 ⟨#[120]⟩).mono ?_
          rintro e w17 ⟨rfl, hb⟩
          have HB17 := Lib.hid (HB16.out.trans (hb.mono HB16.out.size))
          have HM17 := Lib.hid (HM16.out.below hb)
          clear hb HB16 HM16
          go_wp2_with fail
          refine (any_nil w17 4).mono ?_
          rintro e w18 ⟨rfl, hb⟩
          have HB18 := Lib.hid (HB17.out.trans (hb.mono HB17.out.size))
          have HM18 := Lib.hid (HM17.out.below hb)
          clear hb HB17 HM17
          go_wp2_with fail
          refine (want_nil w18 ⟨#[120]⟩).mono ?_
          rintro e w19 ⟨rfl, hb⟩
          have HB19 := Lib.hid (HB18.out.trans (hb.mono HB18.out.size))
          have HM19 := Lib.hid (HM18.out.below hb)
          clear hb HB18 HM18
          go_wp2_with fail
          go_ret
          exact ⟨rfl, HB19.out⟩
end Go.Proofs.YtkjfheondlpnfaaDoor
