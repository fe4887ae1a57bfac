/- The law ShiftGoes, walked. -/
import Derived.Test.YtgfafinpcpiogaaShiftSmall
import Derived.BigQuiet
import Derived.Deep.QuietTactic
import Derived.Laws.StructEq
import Derived.ChangeKeysEq
namespace Go.Proofs.Ytgfafinpcpiogaa
open Go.RowKit EditMath ShiftMath

def one : Ed := ⟨1, 2, ⟨#[120, 121]⟩⟩
theorem one_rt : rt [one] 3 = true := by decide
theorem one_small : Small [one] := small_of one_rt (by decide) (by decide)
theorem one_eds (w : World) : Eds (w.alloc (.cells #[.int .i64 1, .int .i64 2, .string ⟨#[120, 121]⟩] 87)) (w.alloc (.cells #[.int .i64 1, .int .i64 2, .string ⟨#[120, 121]⟩] 87)).heap.size (some ⟨w.heap.size, 0, none⟩) [one] := by
  intro _
  refine ⟨w.heap.size, 0, rfl, by simp, fun i e he => ?_⟩
  match i, he with
  | 0, he => simp at he; subst he; simp [one]
  | i + 1, he => simp at he
theorem one_2 : goesR ((pcs [one] 3).filter went) 2 = .tuple #[.int .i64 3, .nilIface] := by
  rw [show (pcs [one] 3).filter went = [⟨0, 0, 1, bnil⟩, ⟨3, 2, 3, bnil⟩] from by rfl]; rfl
theorem one_1 : goesR ((pcs [one] 3).filter went) 1 = .tuple #[.int .i64 0, errn 5] := by
  rw [show (pcs [one] 3).filter went = [⟨0, 0, 1, bnil⟩, ⟨3, 2, 3, bnil⟩] from by rfl]; rfl

set_option maxHeartbeats 400000 in
theorem alive_any (w : World) : Calls Try.prog 12 #[] w fun e w' => e = .returned (.bool true) ∧ Below w.heap.size w w' := by
  have H1 : Hid (∀ W, Below (w.alloc (.cells #[.int .i64 1, .int .i64 2, .string ⟨#[120, 121]⟩] 87)).heap.size (w.alloc (.cells #[.int .i64 1, .int .i64 2, .string ⟨#[120, 121]⟩] 87)) W → Calls Try.prog 14 #[.slice (some ⟨w.heap.size, 0, none⟩) 1 1, .int .i64 3, .int .i64 2] W fun e w' => e = .returned (.tuple #[.int .i64 3, .nilIface]) ∧ Below W.heap.size W w') :=
    Lib.hid fun W hW => by have := goes_ok _ 1 [one] 3 2 W (by decide) ((one_eds w).after hW) one_rt (by decide) one_small; rw [one_2] at this; exact this
  have H2 : Hid (∀ W, Below (w.alloc (.cells #[.int .i64 1, .int .i64 2, .string ⟨#[120, 121]⟩] 87)).heap.size (w.alloc (.cells #[.int .i64 1, .int .i64 2, .string ⟨#[120, 121]⟩] 87)) W → Calls Try.prog 14 #[.slice (some ⟨w.heap.size, 0, none⟩) 1 1, .int .i64 3, .int .i64 1] W fun e w' => e = .returned (.tuple #[.int .i64 0, errn 5]) ∧ Below W.heap.size W w') :=
    Lib.hid fun W hW => by have := goes_ok _ 1 [one] 3 1 W (by decide) ((one_eds w).after hW) one_rt (by decide) one_small; rw [one_1] at this; exact this
  go_enter Try.func12, Try.ntmps12
  go_wp2_with fail
  refine (H1.out _ (Below.refl _ _)).mono ?_
  rintro e w1 ⟨rfl, hb1⟩
  go_wp2_with fail
  refine (H2.out _ hb1).mono ?_
  rintro e w2 ⟨rfl, hb2⟩
  go_wp2_with fail
  refine (is_errno 5 5 (by omega) _).mono ?_
  rintro e w3 ⟨rfl, rfl⟩
  go_wp2
  go_ret
  exact ⟨rfl, (below1 w _).trans ((hb1.trans (hb2.mono hb1.size)).mono (by simp))⟩

/-- an error by its number -/
def errV (n : Int) : Value := if n = 0 then .nilIface else errn n
theorem num_errV (n : Int) (h : 0 ≤ n) (w : World) : Calls Try.prog 19 #[errV n] w fun e w' => e = .returned (.int .i64 n) ∧ w = w' := by
  unfold errV
  split
  · rename_i e; rw [e]; exact num_nil w
  · exact num_errno n (by omega) w

def Pair (w : World) (f g : Nat) (args : Array Value) : Prop := ∃ a n : Int, 0 ≤ n ∧
  (∀ W, Below w.heap.size w W → Calls Try.prog f args W fun e w' => e = .returned (.tuple #[.int .i64 a, errV n]) ∧ Below W.heap.size W w') ∧
  (∀ W, Below w.heap.size w W → Calls Try.prog g args W fun e w' => e = .returned (.tuple #[.int .i64 a, .int .i64 n]) ∧ Below W.heap.size W w')

theorem src_len {l : List Ed} {size : Int} (hR : rt l size = true) (hsz : size ≤ 500) (htx : tx l ≤ 500) : (srcOf (pcs l size)).length ≤ 10000000 := by
  have h := (pcs_pos hR).2.2
  have g := (gr_bounds hR).1
  omega

theorem goes_pair (A : Option Addr) (c : Nat) (l : List Ed) (size x : Int) (w : World) (hl : l.length ≤ 31) (hsz : size ≤ 500) (htx : tx l ≤ 500) (hr : Eds w w.heap.size A l) :
    Pair w 14 16 #[.slice A l.length c, .int .i64 size, .int .i64 x] := by
  cases hR : rt l size with
  | false => exact ⟨0, 2, by omega, fun W hW => goes_bad A c l size x W (by omega) (hr.after hW) hR, fun W hW => refGoes_bad A c l size x W (by omega) (hr.after hW) hR⟩
  | true =>
    have hs : Small l := small_of hR (by omega) (by omega)
    obtain ⟨hP, hW, _⟩ := pcs_pos hR
    have h1 := fun W hW => goes_ok A c l size x W (by omega) (hr.after hW) hR (by omega) hs
    have h2 := fun W hW => refGoes_ok A c l size x W (by omega) (hr.after hW) hR (by omega) hs (src_len hR hsz htx)
    by_cases hx : 0 ≤ x
    · have key := goes_eq hx (pcs l size) 0 (by omega) hP hW
      cases hf : ((pcs l size).filter went).find? (inP x) with
      | some p =>
        rw [hf] at key
        obtain ⟨i, hi, e⟩ := key
        refine ⟨i, 0, by omega, fun W hW => ?_, fun W hW => ?_⟩
        · have := h1 W hW; rw [goesR, hf] at this; simp only at this; rw [show x + (p.a - p.f) = (i : Int) by omega] at this; exact this
        · have := h2 W hW; rw [rgR, if_pos hx, hi] at this; exact this
      | none =>
        rw [hf] at key
        refine ⟨0, 5, by omega, fun W hW => ?_, fun W hW => ?_⟩
        · have := h1 W hW; rw [goesR, hf] at this; exact this
        · have := h2 W hW; rw [rgR, if_pos hx, key] at this; exact this
    · have hf : ((pcs l size).filter went).find? (inP x) = none := find_none fun p hp => by
        obtain ⟨hp1, hp2⟩ := List.mem_filter.1 hp
        have := (hW p hp1).1 hp2
        rw [inP, decide_eq_false (by omega), Bool.false_and]
      refine ⟨0, 5, by omega, fun W hW => ?_, fun W hW => ?_⟩
      · have := h1 W hW; rw [goesR, hf] at this; exact this
      · have := h2 W hW; rw [rgR, if_neg hx] at this; exact this

theorem came_pair (A : Option Addr) (c : Nat) (l : List Ed) (size x : Int) (w : World) (hl : l.length ≤ 31) (hsz : size ≤ 500) (htx : tx l ≤ 500) (hr : Eds w w.heap.size A l) (hx1 : x ≤ 9223372036854775807) :
    Pair w 15 17 #[.slice A l.length c, .int .i64 size, .int .i64 x] := by
  cases hR : rt l size with
  | false => exact ⟨0, 2, by omega, fun W hW => came_bad A c l size x W (by omega) (hr.after hW) hR, fun W hW => refCame_bad A c l size x W (by omega) (hr.after hW) hR⟩
  | true =>
    have hs : Small l := small_of hR (by omega) (by omega)
    obtain ⟨hP, hW, _⟩ := pcs_pos hR
    have h2 := fun W hW => refCame_ok A c l size x W (by omega) (hr.after hW) hR (by omega) hs (src_len hR hsz htx) hx1
    by_cases hx : 0 ≤ x
    · have h1 := fun W hW => came_ok A c l size x W (by omega) (hr.after hW) hR (by omega) hs hx hx1
      have key := came_eq (pcs l size) 0 hx hP hW
      rw [Int.sub_zero] at key
      cases hf : ((pcs l size).filter went).find? (inC x) with
      | some p =>
        rw [hf] at key
        refine ⟨x - (p.a - p.f), 0, by omega, fun W hW => ?_, fun W hW => ?_⟩
        · have := h1 W hW; rw [cameR, hf] at this; exact this
        · have := h2 W hW; rw [rcR, if_pos hx, key.1] at this; simp only at this; rw [if_neg (by have := key.2; omega)] at this; exact this
      | none =>
        rw [hf] at key
        refine ⟨0, 5, by omega, fun W hW => ?_, fun W hW => ?_⟩
        · have := h1 W hW; rw [cameR, hf] at this; exact this
        · have := h2 W hW
          rw [rcR, if_pos hx] at this
          cases hy : (srcOf (pcs l size))[x.toNat]? with
          | none => rw [hy] at this; exact this
          | some y => rw [hy] at this; simp only at this; rw [if_pos (key y hy)] at this; exact this
    · refine ⟨0, 5, by omega, fun W hW => came_neg A c l size x W (by omega) (hr.after hW) hR (by omega), fun W hW => ?_⟩
      have := h2 W hW; rw [rcR, if_neg hx] at this; exact this

theorem same_sp (p : Int × Int) (w : World) : (binOp .neq 39 (.agg #[.int .i64 p.1, .int .i64 p.2]) (.agg #[.int .i64 p.1, .int .i64 p.2])).run Try.prog w = .ok (.bool false) w := by
  obtain ⟨i0, hi, _, _, _⟩ := info_parts info_int
  have u3 := Try.underlying3
  have a3 := Try.isAgg3
  have z3 := Try.sizeOf3
  have hU : Try.prog.underlying 39 = some (.array 2 3) := by kernel_rfl
  have hC : Try.prog.cellsOf 3 = 1 := by kernel_rfl
  rw [run_neq_struct, show (10000 : Nat) = 9998 + 1 + 1 from rfl, run_equalIn_array w (9998 + 1) _ _ hU hi, hC, show List.range 2 = [0, 1] from rfl]
  simp only [Op.eqItems, Sem.run_bind]
  go_simp

set_option maxRecDepth 100000 in
set_option maxHeartbeats 1600000 in
theorem shiftGoes_walk (A : Option Addr) (c : Nat) (l : List Ed) (size x : Int) (hx1 : x ≤ 9223372036854775807) (hc : l.length ≤ c) (hes : ∀ (i : Nat) (e : Ed), l[i]? = some e → (e.s.size : Int) ≤ 140737488355328) (hl : (l.length : Int) ≤ 9223372036854775807) (w : World) (hr : Eds w w.heap.size A l) :
    Calls Try.prog 3 #[.slice A l.length c, .int .i64 size, .int .i64 x] w fun e w' => e = .returned (.bool true) ∧ Below w.heap.size w w' := by
  have HS := Lib.hid hes
  clear hes
  go_enter Try.func3, Try.ntmps3
  go_wp2_with fail
  refine (alive_any _).mono ?_
  rintro e w1 ⟨rfl, hb1⟩
  go_wp2_with fail
  refine (large3_any size A c l HS.out hl _ (hr.after hb1)).mono ?_
  rintro e w2 ⟨hv, hb2⟩
  have hB2 := hb1.trans (hb2.mono hb1.size)
  clear hb1 hb2
  rcases hv with rfl | ⟨rfl, hl31, htx, hsz⟩
  · go_wp2
    go_ret
    exact ⟨rfl, hB2⟩
  · clear hl
    obtain ⟨a, n, hn, G1, G2⟩ := goes_pair A c l size x w hl31 hsz htx hr
    obtain ⟨d, m, hm, C1, C2⟩ := came_pair A c l size x w hl31 hsz htx hr hx1
    have HG1 := Lib.hid G1
    have HG2 := Lib.hid G2
    have HC1 := Lib.hid C1
    have HC2 := Lib.hid C2
    have hnn : (n != n) = false := by simp
    have hmm : (m != m) = false := by simp
    have haa : (a != a) = false := by simp
    have hdd : (d != d) = false := by simp
    have HSp : Hid (rt l size = false → ∀ W, Below w.heap.size w W → Calls Try.prog 18 #[.slice A l.length c, .int .i64 size] W fun e w' => e = .returned (.tuple #[.slice none 0 0, errn 2]) ∧ Below W.heap.size W w') := Lib.hid fun h W hW => spans_bad A c l size W (by omega) (hr.after hW) h
    have HSq : Hid (rt l size = true → ∀ W, Below w.heap.size w W → Calls Try.prog 18 #[.slice A l.length c, .int .i64 size] W (SpV ((pld l).map spI) W)) := Lib.hid fun h W hW => spans_ok A c l size W (by omega) (hr.after hW) h (small_of h (by omega) (by omega))
    have HSr : Hid (rt l size = true → ∀ W, Below w.heap.size w W → Calls Try.prog 22 #[.slice A l.length c] W (RsV ((pld l).map spI) W)) := Lib.hid fun h W hW => refSpans_any A c l W (by omega) hc (hr.after hW) (small_of h (by omega) (by omega))
    have HRR : Hid (∀ W, Below w.heap.size w W → Calls Try.prog 20 #[.slice A l.length c, .int .i64 size] W fun e w' => e = .returned (.bool (rt l size)) ∧ Below W.heap.size W w') := Lib.hid fun W hW => refRight_any A c l size W (by omega) (hr.after hW)
    have hLn : ((pld l).map spI).length ≤ 31 := by rw [List.length_map, pld_length]; exact hl31
    clear G1 G2 C1 C2 hr
    generalize (pld l).map spI = L at *
    go_wp2_with fail
    refine (HG1.out _ hB2).mono ?_
    rintro e w3 ⟨rfl, hb3⟩
    have hB3 := hB2.trans (hb3.mono hB2.size)
    go_wp2_with fail
    refine (HC1.out _ hB3).mono ?_
    rintro e w4 ⟨rfl, hb4⟩
    have hB4 := hB3.trans (hb4.mono hB3.size)
    go_wp2_with fail
    refine (HG2.out _ hB4).mono ?_
    rintro e w5 ⟨rfl, hb5⟩
    have hB5 := hB4.trans (hb5.mono hB4.size)
    go_wp2_with fail
    refine (HC2.out _ hB5).mono ?_
    rintro e w6 ⟨rfl, hb6⟩
    have hB6 := hB5.trans (hb6.mono hB5.size)
    clear hb3 hb4 hb5 hb6
    cases hq : rt l size with
    | false =>
      have HR2 := HRR.out
      rw [hq] at HR2
      have HR3 := Lib.hid HR2
      have HSb := Lib.hid (HSp.out hq)
      clear hq HR2 HRR HSq HSr
      go_wp2_with fail
      refine (HSb.out _ hB6).mono ?_
      rintro e w7 ⟨rfl, hb7⟩
      have hB7 := hB6.trans (hb7.mono hB6.size)
      go_wp2_with fail
      refine (num_errV n hn _).mono ?_
      rintro e w8 ⟨rfl, rfl⟩
      go_wp2_with fail
      refine (num_errV m hm _).mono ?_
      rintro e w8 ⟨rfl, rfl⟩
      go_wp2_with fail
      refine (HR3.out _ hB7).mono ?_
      rintro e w8 ⟨rfl, hb8⟩
      have hB8 := hB7.trans (hb8.mono hB7.size)
      go_wp2_with fail
      refine (is_errno 2 2 (by omega) _).mono ?_
      rintro e w9 ⟨rfl, rfl⟩
      go_wp2
      go_ret
      exact ⟨rfl, hB8⟩
    | true =>
      have HR2 := HRR.out
      rw [hq] at HR2
      have HR3 := Lib.hid HR2
      have HSb := Lib.hid (HSq.out hq)
      have HSc := Lib.hid (HSr.out hq)
      clear hq HR2 HRR HSq HSr HSp
      go_wp2_with fail
      refine (HSb.out _ hB6).mono ?_
      rintro e w7 ⟨A7, c7, rfl, hd7, hb7⟩
      have hB7 := hB6.trans (hb7.mono hB6.size)
      have HD7 := Lib.hid hd7
      clear hd7
      go_wp2_with fail
      refine (num_errV n hn _).mono ?_
      rintro e w8 ⟨rfl, rfl⟩
      go_wp2_with fail
      refine (num_errV m hm _).mono ?_
      rintro e w8 ⟨rfl, rfl⟩
      go_wp2_with fail
      refine (HR3.out _ hB7).mono ?_
      rintro e w8 ⟨rfl, hb8⟩
      have hB8 := hB7.trans (hb8.mono hB7.size)
      go_wp2_with fail
      refine (HSc.out _ hB8).mono ?_
      rintro e w9 ⟨A9, c9, rfl, hd9, hb9⟩
      have hB9 := hB8.trans (hb9.mono hB8.size)
      have HD9 := Lib.hid hd9
      have HD := Lib.hid ((HD7.out.after hb8).after hb9)
      clear hd9 HD7 hb8 hb9 hb7 HSb HSc HR3 HG1 HG2 HC1 HC2
      go_wp2
      go_loopw [102] (fun i wr => ∃ k : Nat, k ≤ L.length ∧ i = .int .i64 (k : Int) ∧ Below w9.heap.size w9 wr) (fun i _ => L.length - (intOf i).toNat)
      case atStart => exact ⟨0, Nat.zero_le _, rfl, Below.refl _ _⟩
      case round =>
        obtain ⟨k, hk, rfl, hW⟩ := hrel
        by_cases hlt : k < L.length
        · obtain ⟨p, hp⟩ : ∃ p, L[k]? = some p := ⟨L[k], List.getElem?_eq_getElem hlt⟩
          obtain ⟨b, off, rfl, _, hc1⟩ := (HD.out.below hW) (by rw [scells_length]; omega)
          obtain ⟨b', off', rfl, _, hc2⟩ := (HD9.out.below hW) (by rw [scells_length]; omega)
          obtain ⟨s1, s2⟩ := scells_at L k p hp
          have c1 := hc1 _ _ s1
          have c2 := hc1 _ _ s2
          have c3 := hc2 _ _ s1
          have c4 := hc2 _ _ s2
          rw [← Nat.add_assoc] at c2 c4
          clear hc1 hc2 s1 s2 hp
          have z1 : (0 : Int) ≤ k := by omega
          have z2 : (k : Int) < L.length := by omega
          have hsame := same_sp p
          have hm0 : Try.prog.eqGuardType Try.prog.depth 39 = false := by kernel_rfl
          go_wp2
          go_quiet (fail)
          go_wp2
          go_roundw
          case rel => exact ⟨k + 1, by omega, by go_num, below_drewN hW _⟩
          case measure => simp [intOf]; omega
        · go_wp2
          go_ret
          exact ⟨rfl, hB9.trans (hW.mono hB9.size)⟩
end Go.Proofs.Ytgfafinpcpiogaa
