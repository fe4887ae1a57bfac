/- Grow as the document has it and as the program has it; an error's number. -/
import Derived.Test.YtfkpnfhhmldodaaEditAsk
namespace Go.Proofs.Ytfkpnfhhmldodaa
open Go.RowKit EditMath

theorem grow_sum (g n t f : Int) : wrap64 (wrap64 (wrap64 (wrap64 g + n) - t) + f) = wrap64 (g + (n - (t - f))) := by
  unfold wrap64; omega
theorem wrap64_none : wrap64 0 = 0 := by unfold wrap64; rfl

set_option maxRecDepth 100000 in
set_option maxHeartbeats 1600000 in
theorem refGrow_any (A : Option Addr) (c : Nat) (l : List Ed) (w : World) (hl : l.length ≤ 10000) (hr : Eds w w.heap.size A l) :
    Calls Try.prog 55 #[.slice A l.length c] w fun e w' => e = .returned (.int .i64 (wrap64 (gr l))) ∧ Below w.heap.size w w' := by
  go_enter Try.func55, Try.ntmps55
  go_wp2
  go_loopw [3, 4] (fun n i wr => ∃ k : Nat, k ≤ l.length ∧ i = .int .i64 (k : Int) ∧ Below w.heap.size w wr ∧ n = .int .i64 (wrap64 (gr (l.take k)))) (fun _ i _ => l.length + 1 - (intOf i).toNat)
  case atStart => exact ⟨0, Nat.zero_le _, rfl, Below.refl _ _, by simp only [List.take_zero, gr, wrap64_none]⟩
  case round =>
    obtain ⟨k, hk, rfl, hB, rfl⟩ := hrel
    by_cases hlt : k < l.length
    · have he : l[k]? = some l[k] := List.getElem?_eq_getElem hlt
      generalize l[k] = e at he
      have HE := Lib.hid he
      have z2 : (k : Int) < l.length := by omega
      obtain ⟨b, off, rfl, hb, c0, c1, c2⟩ := (hr.below hB).at_ he
      have HG := Lib.hid (gr_snoc he)
      generalize gr (l.take k) = g at HG ⊢
      clear he hr
      go_wp2
      go_quiet (fail)
      go_wp2
      go_roundw
      case rel => exact ⟨k + 1, by omega, by go_num, below_drewN hB _, by rw [HG.out, grow_sum]; rfl⟩
      case measure => simp [intOf]; omega
    · obtain rfl : k = l.length := by omega
      go_wp2
      go_ret
      exact ⟨ret_int (by rw [List.take_length]), hB⟩

abbrev errn (n : Int) : Value := .iface 37 (.int .i64 n)

/-- what Grow answers -/
def growV (l : List Ed) (size : Int) : Value := if rt l size = true then .tuple #[.int .i64 (gr l), .nilIface] else .tuple #[.int .i64 0, errn 2]

theorem ret_t2 {a a' : Int} {v : Value} (h : a = a') : Ending.returned (.tuple #[.int .i64 a, v]) = .returned (.tuple #[.int .i64 a', v]) := by rw [h]

set_option maxRecDepth 100000 in
set_option maxHeartbeats 1600000 in
theorem grow_any (A : Option Addr) (c : Nat) (l : List Ed) (size : Int) (hsz : size ≤ 9223372036854775807) (htx : tx l ≤ 70000) (w : World) (hl : l.length ≤ 10000) (hr : Eds w w.heap.size A l) :
    Calls Try.prog 58 #[.slice A l.length c, .int .i64 size] w fun e w' => e = .returned (growV l size) ∧ Below w.heap.size w w' := by
  have HC := Lib.hid (right_any A c l size w hl hr)
  cases hq : rt l size with
  | false =>
    have HV : Hid (growV l size = .tuple #[.int .i64 0, errn 2]) := Lib.hid (by simp [growV, hq])
    rw [hq] at HC
    rw [HV.out]
    clear hq hr
    go_enter Try.func58, Try.ntmps58
    go_wp2_with fail
    refine HC.out.mono ?_
    rintro e w1 ⟨rfl, hb1⟩
    go_wp2
    go_ret2
    exact ⟨rfl, hb1⟩
  | true =>
    have HV : Hid (growV l size = .tuple #[.int .i64 (gr l), .nilIface]) := Lib.hid (by simp [growV, hq])
    rw [hq] at HC
    have HQ := Lib.hid hq
    rw [HV.out]
    clear hq
    go_enter Try.func58, Try.ntmps58
    go_wp2_with fail
    refine HC.out.mono ?_
    rintro e w1 ⟨rfl, hb1⟩
    go_wp2
    go_loopw [6, 8, 16] (fun n _ i wr => ∃ k : Nat, k ≤ l.length ∧ i = .int .i64 (k : Int) ∧ Below w.heap.size w wr ∧ n = .int .i64 (gr (l.take k))) (fun _ _ i _ => l.length + 1 - (intOf i).toNat)
    case atStart => exact ⟨0, Nat.zero_le _, rfl, hb1, rfl⟩
    case round =>
      obtain ⟨k, hk, rfl, hB, rfl⟩ := hrel
      by_cases hlt : k < l.length
      · have he : l[k]? = some l[k] := List.getElem?_eq_getElem hlt
        generalize l[k] = e at he
        have z2 : (k : Int) < l.length := by omega
        obtain ⟨b, off, rfl, hb, c0, c1, c2⟩ := (hr.below hB).at_ he
        have HG := Lib.hid (gr_snoc he)
        obtain ⟨s0, s1, s2⟩ := (rt_parts HQ.out).2.1 k e he
        have hle : (e.s.size : Int) ≤ 70000 := by
          have h1 := tx_snoc he
          have h2 := tx_take_le l (k + 1)
          have h3 := tx_nonneg (l.take k)
          omega
        have b1 := gr_bounds (rt_take HQ.out (k + 1))
        have b2 := tx_take_le l (k + 1)
        have b3 := tx_nonneg (l.take (k + 1))
        obtain ⟨b4, b5, _⟩ := b1
        have b6 : gr (l.take k) + gr1 e ≤ 70000 := by rw [← HG.out]; omega
        have b7 : -9223372036854775807 ≤ gr (l.take k) + gr1 e := by rw [← HG.out]; omega
        have hbb : b < wr.heap.size := Nat.lt_of_lt_of_le hb hB.size
        have hne : b ≠ wr.heap.size := by omega
        clear b2 b3 b4 b5 HC
        generalize gr (l.take k) = g at HG b6 b7 ⊢
        clear he hr
        go_wp2_with fail
        refine (growth_any e _ s0 s1 (by omega) hle).mono ?_
        rintro r w2 ⟨rfl, hb2⟩
        generalize hg1 : gr1 e = g1 at HG b6 b7 ⊢
        clear hg1
        go_wp2
        go_roundw
        case rel => exact ⟨k + 1, by omega, by go_num, (hB.alloc hB.size _).trans (hb2.mono (by have := hB.size; simp; omega)), by rw [HG.out]⟩
        case measure => simp [intOf]; omega
      · obtain rfl : k = l.length := by omega
        go_wp2
        go_ret2
        exact ⟨ret_t2 (by rw [List.take_length]), hB⟩

set_option maxHeartbeats 400000 in
theorem num_nil (w : World) :
    Calls Try.prog 19 #[.nilIface] w fun e w' => e = .returned (.int .i64 0) ∧ w = w' := by
  go_enter Try.func19, Try.ntmps19
  go_wp2
  go_ret
  exact ⟨rfl, rfl⟩

theorem assert_errno (w : World) (v : Value) : (Instr.typeAssert (.iface 37 v) 26 37 true).run Try.prog w = .ok (.tuple #[v, .bool true]) w := by kernel_rfl

set_option maxRecDepth 100000 in
set_option maxHeartbeats 400000 in
theorem num_errno (n : Int) (hn : 0 < n) (w : World) :
    Calls Try.prog 19 #[errn n] w fun e w' => e = .returned (.int .i64 n) ∧ w = w' := by
  have h1 : (n != 0) = true := by rw [bne_iff_ne]; omega
  have ha := assert_errno
  go_enter Try.func19, Try.ntmps19
  go_wp2
  go_ret
  exact ⟨rfl, rfl⟩

set_option maxHeartbeats 400000 in
theorem is_errno (n m : Int) (hn : 0 < n) (w : World) :
    Calls Try.prog 21 #[errn n, .int .i64 m] w fun e w' => e = .returned (.bool (n == m)) ∧ w = w' := by
  go_enter Try.func21, Try.ntmps21
  go_wp2_with (go_at_call 19; refine (num_errno n hn _).mono ?_; rintro e w' ⟨rfl, rfl⟩)
  go_ret
  exact ⟨rfl, rfl⟩

end Go.Proofs.Ytfkpnfhhmldodaa
