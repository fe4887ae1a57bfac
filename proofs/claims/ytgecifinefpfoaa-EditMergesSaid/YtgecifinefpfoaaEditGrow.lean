/- Plain and Grow as the document has them, Grow as the program has it, what is too large, an error's number. -/
import Derived.Test.YtgecifinefpfoaaEditAsk
namespace Go.Proofs.Ytgecifinefpfoaa
open Go.RowKit EditMath

def pp (l : List Ed) : Bool := !l.any idl && each (fun a b => !tch a b) l

theorem pp_parts {l : List Ed} (h : pp l = true) : (∀ (i : Nat) (e : Ed), l[i]? = some e → idl e = false) ∧ (∀ (i : Nat) (a b : Ed), l[i]? = some a → l[i + 1]? = some b → tch a b = false) := by
  simp only [pp, Bool.and_eq_true, Bool.not_eq_true'] at h
  refine ⟨fun i e he => ?_, fun i a b ha hb => by simpa using each_at h.2 ha hb⟩
  cases q : idl e with
  | false => rfl
  | true => rw [any_yes he q] at h; exact absurd h.1 (by simp)

theorem pp_mk {l : List Ed} (h1 : ∀ (i : Nat) (e : Ed), l[i]? = some e → idl e = false) (h2 : ∀ (i : Nat) (a b : Ed), l[i]? = some a → l[i + 1]? = some b → tch a b = false) : pp l = true := by
  simp only [pp, Bool.and_eq_true, Bool.not_eq_true']
  exact ⟨any_no h1, each_mk fun i a b ha hb => by simp [h2 i a b ha hb]⟩

theorem pp_first {l : List Ed} {k : Nat} {e : Ed} (he : l[k]? = some e) (hk : k = 0) (hq : idl e = false) : pp (l.take (k + 1)) = true := by
  subst hk
  rw [take_snoc he]
  simp [pp, each, hq]

theorem pp_next {l : List Ed} {m k : Nat} {d e : Ed} (hm : m + 1 = k) (hd : l[m]? = some d) (he : l[k]? = some e) (hN : pp (l.take k) = true) (hq : idl e = false) (h1 : tch d e = false) : pp (l.take (k + 1)) = true := by
  obtain ⟨b, c⟩ := pp_parts hN
  refine pp_mk (fun i x hx => ?_) (fun i x y hx hy => ?_)
  · obtain ⟨hx', hi⟩ := take_at hx
    by_cases h : i = k
    · subst h; rw [he] at hx'; injection hx' with hx'; subst hx'; exact hq
    · exact b i x (by rw [List.getElem?_take_of_lt (by omega)]; exact hx')
  · obtain ⟨hx', _⟩ := take_at hx
    obtain ⟨hy', hi⟩ := take_at hy
    by_cases h : i = m
    · subst h; subst hm
      rw [hd] at hx'; rw [he] at hy'; injection hx' with hx'; injection hy' with hy'; subst hx' hy'
      exact h1
    · exact c i x y (by rw [List.getElem?_take_of_lt (by omega)]; exact hx') (by rw [List.getElem?_take_of_lt (by omega)]; exact hy')

theorem pl_pp (l : List Ed) (size : Int) : pl l size = (rt l size && pp l) := rfl
theorem pl_bad1 {l : List Ed} {k : Nat} {e : Ed} {size : Int} (he : l[k]? = some e) (h : idl e = true) : pl l size = false := by
  simp [pl, any_yes he h]
theorem pl_bad2 {l : List Ed} {m k : Nat} {d e : Ed} {size : Int} (hm : m + 1 = k) (hd : l[m]? = some d) (he : l[k]? = some e) (h : tch d e = true) : pl l size = false := by
  subst hm
  have : each (fun a b => !tch a b) l = false := each_no hd he (by simp [h])
  simp [pl, this]

set_option maxRecDepth 100000 in
set_option maxHeartbeats 1600000 in
theorem refPlain_any (A : Option Addr) (c : Nat) (l : List Ed) (size : Int) (w : World) (hl : l.length ≤ 100) (hr : Eds w w.heap.size A l) :
    Calls Try.prog 12 #[.slice A l.length c, .int .i64 size] w fun e w' => e = .returned (.bool (pl l size)) ∧ Below w.heap.size w w' := by
  have HRR : Hid (∀ W, Below w.heap.size w W → Calls Try.prog 9 #[.slice A l.length c, .int .i64 size] W fun e w' => e = .returned (.bool (rt l size)) ∧ Below W.heap.size W w') :=
    Lib.hid fun W hb => refRight_any A c l size W hl (hr.after hb)
  go_enter Try.func12, Try.ntmps12
  go_wp2
  go_loopw [5] (fun i wr => ∃ k : Nat, k ≤ l.length ∧ i = .int .i64 (k : Int) ∧ Below w.heap.size w wr ∧ Hid (pp (l.take k) = true)) (fun i _ => l.length + 1 - (intOf i).toNat)
  case atStart => exact ⟨0, Nat.zero_le _, rfl, Below.refl _ _, Lib.hid (by simp [pp, each])⟩
  case round =>
    obtain ⟨k, hk, rfl, hB, HN⟩ := hrel
    by_cases hlt : k < l.length
    · have he : l[k]? = some l[k] := List.getElem?_eq_getElem hlt
      generalize l[k] = e at he
      have HE := Lib.hid he
      have z2 : (k : Int) < l.length := by omega
      by_cases hid1 : e.f = e.t ∧ e.s.size = 0
      · obtain ⟨b, off, rfl, hb, c0, c1, c2⟩ := (hr.below hB).at_ he
        have x1 : (e.f == e.t) = true := beq_iff_eq.2 hid1.1
        have x2 : ((e.s.size : Int) == 0) = true := beq_iff_eq.2 (by omega)
        have HI := Lib.hid hid1
        clear he hid1 hr
        go_wp2
        go_quiet (fail)
        go_wp2
        go_ret
        exact ⟨ret_bool (pl_bad1 HE.out (by simp [idl, HI.out])).symm, below_drewN hB _⟩
      · have HI : Hid (idl e = false) := Lib.hid (by rw [Bool.eq_false_iff]; intro h; simp only [idl, Bool.and_eq_true, decide_eq_true_eq] at h; exact hid1 h)
        have hx : ((e.f == e.t) = false) ∨ ((e.f == e.t) = true ∧ ((e.s.size : Int) == 0) = false) := by
          by_cases h : e.f = e.t
          · exact .inr ⟨beq_iff_eq.2 h, beq_eq_false_iff_ne.2 (fun h' => hid1 ⟨h, by omega⟩)⟩
          · exact .inl (beq_eq_false_iff_ne.2 h)
        clear hid1
        by_cases hk0 : k = 0
        · have HK := Lib.hid hk0
          have hg : decide (0 < (k : Int)) = false := by simp; omega
          have hg2 : decide (0 < k) = false := by simp; omega
          obtain ⟨b, off, rfl, hb, c0, c1, c2⟩ := (hr.below hB).at_ he
          clear he hr hk0
          rcases hx with x1 | ⟨x1, x2⟩
          all_goals
            go_wp2
            go_quiet (fail)
            go_wp2
            go_roundw
            case rel => exact ⟨k + 1, by omega, by go_num, below_drewN hB _, Lib.hid (pp_first HE.out HK.out HI.out)⟩
            case measure => simp [intOf]; omega
        · obtain ⟨m, hm⟩ : ∃ m, m + 1 = k := ⟨k - 1, by omega⟩
          have hd : l[m]? = some l[m] := List.getElem?_eq_getElem (by omega)
          generalize l[m] = d at hd
          have HD := Lib.hid hd
          have hg : decide (0 < (k : Int)) = true := by simp; omega
          have hg2 : decide (0 < k) = true := by simp; omega
          have hz : (k : Int) - 1 = m := by omega
          have z1 : (0 : Int) ≤ m := by omega
          have z2 : (m : Int) < l.length := by omega
          have z6 : IntKind.i64.wrap (m : Int) = m := IntWalk.i64_in _ (by omega)
          obtain ⟨b, off, rfl, hb, ⟨c0, c1, c2⟩, ⟨d0, d1, d2⟩⟩ := (hr.below hB).at2 he hd
          have HM := Lib.hid hm
          clear he hr hd hk0 hm d0 d2
          cases x4 : (e.f == d.t) with
          | true =>
            have HT : Hid (tch d e = true) := Lib.hid (by simp [tch, (beq_iff_eq.1 x4)])
            rcases hx with x1 | ⟨x1, x2⟩
            all_goals
              go_wp2
              go_quiet (fail)
              go_wp2
              go_ret
              exact ⟨ret_bool (pl_bad2 HM.out HD.out HE.out HT.out).symm, below_drewN hB _⟩
          | false =>
            have HT : Hid (tch d e = false) := Lib.hid (by simp [tch]; exact fun h => (beq_eq_false_iff_ne.1 x4) h.symm)
            rcases hx with x1 | ⟨x1, x2⟩
            all_goals
              go_wp2
              go_quiet (fail)
              go_wp2
              clear hz z6
              go_roundw
              case rel => exact ⟨k + 1, by omega, by go_num, below_drewN hB _, Lib.hid (pp_next HM.out HD.out HE.out HN.out HI.out HT.out)⟩
              case measure => simp [intOf]; omega
    · obtain rfl : k = l.length := by omega
      have HF : Hid (rt l size = pl l size) := Lib.hid (by
        have := HN.out
        rw [List.take_length] at this
        rw [pl_pp, this, Bool.and_true])
      clear hr
      generalize rt l size = r at HRR HF
      go_wp2_with fail
      refine (HRR.out _ hB).mono ?_
      rintro e w1 ⟨rfl, hb1⟩
      go_wp2
      go_ret
      exact ⟨ret_bool HF.out, hB.trans (hb1.mono hB.size)⟩

theorem grow_sum (g n t f : Int) : wrap64 (wrap64 (wrap64 (wrap64 g + n) - t) + f) = wrap64 (g + (n - (t - f))) := by
  unfold wrap64; omega
theorem wrap64_none : wrap64 0 = 0 := by unfold wrap64; rfl

set_option maxRecDepth 100000 in
set_option maxHeartbeats 1600000 in
theorem refGrow_any (A : Option Addr) (c : Nat) (l : List Ed) (w : World) (hl : l.length ≤ 100) (hr : Eds w w.heap.size A l) :
    Calls Try.prog 14 #[.slice A l.length c] w fun e w' => e = .returned (.int .i64 (wrap64 (gr l))) ∧ Below w.heap.size w w' := by
  go_enter Try.func14, Try.ntmps14
  go_wp2
  go_loopw [3, 4] (fun n i wr => ∃ k : Nat, k ≤ l.length ∧ i = .int .i64 (k : Int) ∧ Below w.heap.size w wr ∧ n = .int .i64 (wrap64 (gr (l.take k)))) (fun _ i _ => l.length + 1 - (intOf i).toNat)
  case atStart => exact ⟨0, Nat.zero_le _, rfl, Below.refl _ _, by simp only [List.take_zero, gr, wrap64_none]⟩
  case round =>
    obtain ⟨k, hk, rfl, hB, rfl⟩ := hrel
    by_cases hlt : k < l.length
    · have he : l[k]? = some l[k] := List.getElem?_eq_getElem hlt
      generalize l[k] = e at he
      have HE := Lib.hid he
      have z2 : (k : Int) < l.length := by omega
      obtain ⟨b, off, rfl, hb, c0, c1, c2⟩ := (hr.below hB).at_ he
      have HG := Lib.hid (gr_snoc he)
      generalize gr (l.take k) = g at HG ⊢
      clear he hr
      go_wp2
      go_quiet (fail)
      go_wp2
      go_roundw
      case rel => exact ⟨k + 1, by omega, by go_num, below_drewN hB _, by rw [HG.out, grow_sum]; rfl⟩
      case measure => simp [intOf]; omega
    · obtain rfl : k = l.length := by omega
      go_wp2
      go_ret
      exact ⟨ret_int (by rw [List.take_length]), hB⟩

abbrev errn (n : Int) : Value := .iface 31 (.int .i64 n)

/-- what Grow answers -/
def growV (l : List Ed) (size : Int) : Value := if rt l size = true then .tuple #[.int .i64 (gr l), .nilIface] else .tuple #[.int .i64 0, errn 2]

theorem ret_t2 {a a' : Int} {v : Value} (h : a = a') : Ending.returned (.tuple #[.int .i64 a, v]) = .returned (.tuple #[.int .i64 a', v]) := by rw [h]

set_option maxRecDepth 100000 in
set_option maxHeartbeats 1600000 in
theorem grow_any (A : Option Addr) (c : Nat) (l : List Ed) (size : Int) (hsz : size ≤ 9223372036854775807) (htx : tx l ≤ 70000) (w : World) (hl : l.length ≤ 100) (hr : Eds w w.heap.size A l) :
    Calls Try.prog 8 #[.slice A l.length c, .int .i64 size] w fun e w' => e = .returned (growV l size) ∧ Below w.heap.size w w' := by
  have HC := Lib.hid (right_any A c l size w hl hr)
  cases hq : rt l size with
  | false =>
    have HV : Hid (growV l size = .tuple #[.int .i64 0, errn 2]) := Lib.hid (by simp [growV, hq])
    rw [hq] at HC
    rw [HV.out]
    clear hq hr
    go_enter Try.func8, Try.ntmps8
    go_wp2_with fail
    refine HC.out.mono ?_
    rintro e w1 ⟨rfl, hb1⟩
    go_wp2
    go_ret2
    exact ⟨rfl, hb1⟩
  | true =>
    have HV : Hid (growV l size = .tuple #[.int .i64 (gr l), .nilIface]) := Lib.hid (by simp [growV, hq])
    rw [hq] at HC
    have HQ := Lib.hid hq
    rw [HV.out]
    clear hq
    go_enter Try.func8, Try.ntmps8
    go_wp2_with fail
    refine HC.out.mono ?_
    rintro e w1 ⟨rfl, hb1⟩
    go_wp2
    go_loopw [6, 8, 16] (fun n _ i wr => ∃ k : Nat, k ≤ l.length ∧ i = .int .i64 (k : Int) ∧ Below w.heap.size w wr ∧ n = .int .i64 (gr (l.take k))) (fun _ _ i _ => l.length + 1 - (intOf i).toNat)
    case atStart => exact ⟨0, Nat.zero_le _, rfl, hb1, rfl⟩
    case round =>
      obtain ⟨k, hk, rfl, hB, rfl⟩ := hrel
      by_cases hlt : k < l.length
      · have he : l[k]? = some l[k] := List.getElem?_eq_getElem hlt
        generalize l[k] = e at he
        have z2 : (k : Int) < l.length := by omega
        obtain ⟨b, off, rfl, hb, c0, c1, c2⟩ := (hr.below hB).at_ he
        have HG := Lib.hid (gr_snoc he)
        obtain ⟨s0, s1, s2⟩ := (rt_parts HQ.out).2.1 k e he
        have hle : (e.s.size : Int) ≤ 70000 := by
          have h1 := tx_snoc he
          have h2 := tx_take_le l (k + 1)
          have h3 := tx_nonneg (l.take k)
          omega
        have b1 := gr_bounds (rt_take HQ.out (k + 1))
        have b2 := tx_take_le l (k + 1)
        have b3 := tx_nonneg (l.take (k + 1))
        obtain ⟨b4, b5, _⟩ := b1
        have b6 : gr (l.take k) + gr1 e ≤ 70000 := by rw [← HG.out]; omega
        have b7 : -9223372036854775807 ≤ gr (l.take k) + gr1 e := by rw [← HG.out]; omega
        have hbb : b < wr.heap.size := Nat.lt_of_lt_of_le hb hB.size
        have hne : b ≠ wr.heap.size := by omega
        clear b2 b3 b4 b5 HC
        generalize gr (l.take k) = g at HG b6 b7 ⊢
        clear he hr
        go_wp2_with fail
        refine (growth_any e _ s0 s1 (by omega) hle).mono ?_
        rintro r w2 ⟨rfl, hb2⟩
        generalize hg1 : gr1 e = g1 at HG b6 b7 ⊢
        clear hg1
        go_wp2
        go_roundw
        case rel => exact ⟨k + 1, by omega, by go_num, (hB.alloc hB.size _).trans (hb2.mono (by have := hB.size; simp; omega)), by rw [HG.out]⟩
        case measure => simp [intOf]; omega
      · obtain rfl : k = l.length := by omega
        go_wp2
        go_ret2
        exact ⟨ret_t2 (by rw [List.take_length]), hB⟩

set_option maxHeartbeats 400000 in
theorem num_nil (w : World) :
    Calls Try.prog 19 #[.nilIface] w fun e w' => e = .returned (.int .i64 0) ∧ w = w' := by
  go_enter Try.func19, Try.ntmps19
  go_wp2
  go_ret
  exact ⟨rfl, rfl⟩

theorem assert_errno (w : World) (v : Value) : (Instr.typeAssert (.iface 31 v) 26 31 true).run Try.prog w = .ok (.tuple #[v, .bool true]) w := by kernel_rfl

set_option maxRecDepth 100000 in
set_option maxHeartbeats 400000 in
theorem num_errno (n : Int) (hn : 0 < n) (w : World) :
    Calls Try.prog 19 #[errn n] w fun e w' => e = .returned (.int .i64 n) ∧ w = w' := by
  have h1 : (n != 0) = true := by rw [bne_iff_ne]; omega
  have ha := assert_errno
  go_enter Try.func19, Try.ntmps19
  go_wp2
  go_ret
  exact ⟨rfl, rfl⟩

set_option maxHeartbeats 400000 in
theorem is_errno (n m : Int) (hn : 0 < n) (w : World) :
    Calls Try.prog 13 #[errn n, .int .i64 m] w fun e w' => e = .returned (.bool (n == m)) ∧ w = w' := by
  go_enter Try.func13, Try.ntmps13
  go_wp2_with (go_at_call 19; refine (num_errno n hn _).mono ?_; rintro e w' ⟨rfl, rfl⟩)
  go_ret
  exact ⟨rfl, rfl⟩

/-- what the law's own bound says -/
def LargeV (s : ByteArray) (l : List Ed) (w : World) (e : Ending) (w' : World) : Prop :=
  (e = .returned (.bool true) ∨ (e = .returned (.bool false) ∧ l.length ≤ 41 ∧ (s.size : Int) + tx l ≤ 70000)) ∧ Below w.heap.size w w'

set_option maxRecDepth 100000 in
set_option maxHeartbeats 1600000 in
theorem large_any (s : ByteArray) (hs : (s.size : Int) ≤ 140737488355328) (A : Option Addr) (c : Nat) (l : List Ed) (hes : ∀ (i : Nat) (e : Ed), l[i]? = some e → (e.s.size : Int) ≤ 140737488355328) (hl : (l.length : Int) ≤ 9223372036854775807) (w : World) (hr : Eds w w.heap.size A l) :
    Calls Try.prog 7 #[.string s, .slice A l.length c] w (LargeV s l w) := by
  have HS := Lib.hid hes
  clear hes
  go_enter Try.func7, Try.ntmps7
  go_wp2
  go_loopw [5, 6, 7, 12] (fun n _ _ i wr => ∃ k : Nat, k ≤ l.length ∧ k ≤ 41 ∧ i = .int .i64 (k : Int) ∧ Below w.heap.size w wr ∧ n = .int .i64 ((s.size : Int) + tx (l.take k)) ∧ (k = 0 ∨ (s.size : Int) + tx (l.take k) ≤ 70000)) (fun _ _ _ i _ => l.length + 1 - (intOf i).toNat)
  case atStart => exact ⟨0, Nat.zero_le _, by omega, rfl, Below.refl _ _, by simp [tx], .inl rfl⟩
  case round =>
    obtain ⟨k, hk, hk41, rfl, hB, rfl, hz⟩ := hrel
    have hn0 := tx_nonneg (l.take k)
    have hn1 : (s.size : Int) + tx (l.take k) ≤ 140737488355328 := by
      rcases hz with h | h
      · subst h; simp [tx]; omega
      · omega
    by_cases hlt : k < l.length
    · have he : l[k]? = some l[k] := List.getElem?_eq_getElem hlt
      generalize l[k] = e at he
      have z2 : (k : Int) < l.length := by omega
      obtain ⟨b, off, rfl, hb, c0, c1, c2⟩ := (hr.below hB).at_ he
      have HG := Lib.hid (tx_snoc he)
      have hle := HS.out k e he
      have hbb : b < wr.heap.size := Nat.lt_of_lt_of_le hb hB.size
      have hne : b ≠ wr.heap.size := by omega
      generalize tx (l.take k) = g at HG hz hn0 hn1 ⊢
      clear he hr hz
      cases x1 : decide (40 < (k : Int)) with
      | true =>
        go_wp2
        go_ret
        exact ⟨.inl rfl, hB.alloc hB.size _⟩
      | false =>
        have hk40 : k < 41 := by simp at x1; omega
        cases x2 : decide (70000 < (s.size : Int) + g + (e.s.size : Int)) with
        | true =>
          go_wp2
          go_ret
          exact ⟨.inl rfl, hB.alloc hB.size _⟩
        | false =>
          have h70 : (s.size : Int) + g + (e.s.size : Int) ≤ 70000 := by simp only [decide_eq_false_iff_not] at x2; omega
          go_wp2
          go_roundw
          case rel => exact ⟨k + 1, by omega, by omega, by go_num, hB.alloc hB.size _, by rw [HG.out]; go_num, .inr (by rw [HG.out]; omega)⟩
          case measure => simp [intOf]; omega
    · obtain rfl : k = l.length := by omega
      rw [List.take_length] at hn0 hn1 hz ⊢
      clear hr
      cases x2 : decide (70000 < (s.size : Int) + tx l) with
      | true =>
        go_wp2
        go_ret
        exact ⟨.inl rfl, hB⟩
      | false =>
        go_wp2
        go_ret
        exact ⟨.inr ⟨rfl, hk41, by simp only [decide_eq_false_iff_not] at x2; omega⟩, hB⟩

end Go.Proofs.Ytgecifinefpfoaa
