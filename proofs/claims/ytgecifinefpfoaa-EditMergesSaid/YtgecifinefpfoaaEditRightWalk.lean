/- The law EditRight, walked. -/
import Derived.Test.YtgecifinefpfoaaEditApply
namespace Go.Proofs.Ytgecifinefpfoaa
open Go.RowKit EditMath

def one : Ed := ⟨1, 2, ⟨#[120]⟩⟩
theorem one_bad : bad ⟨#[97, 98, 99]⟩ [one] = 0 := by decide
theorem one_ap : ap [97, 98, 99] 0 [one] = [97, 120, 99] := by decide
theorem one_tx : (((⟨#[97, 98, 99]⟩ : ByteArray).size : Nat) : Int) + tx [one] ≤ 70000 := by decide

theorem one_eds (w : World) : Eds (w.alloc (.cells #[.int .i64 1, .int .i64 2, .string ⟨#[120]⟩] 47)) (w.alloc (.cells #[.int .i64 1, .int .i64 2, .string ⟨#[120]⟩] 47)).heap.size (some ⟨w.heap.size, 0, none⟩) [one] := by
  intro _
  refine ⟨w.heap.size, 0, rfl, by simp, fun i e he => ?_⟩
  match i, he with
  | 0, he => simp at he; subst he; simp [one]
  | i + 1, he => simp at he

set_option maxHeartbeats 400000 in
theorem alive_any (w : World) : Calls Try.prog 6 #[] w fun e w' => e = .returned (.bool true) ∧ Below w.heap.size w w' := by
  have HC := Lib.hid (apply_ok ⟨#[97, 98, 99]⟩ _ 1 [one] one_bad one_tx _ (by decide) (one_eds w))
  rw [one_ap] at HC
  go_enter Try.func6, Try.ntmps6
  go_wp2_with fail
  refine HC.out.mono ?_
  rintro e w1 ⟨rfl, hb1⟩
  go_wp2
  go_ret
  exact ⟨rfl, (below1 w _).trans (hb1.mono (by simp))⟩

set_option maxRecDepth 100000 in
set_option maxHeartbeats 1600000 in
theorem editRight_walk (A : Option Addr) (c : Nat) (l : List Ed) (size : Int) (hsz : size ≤ 9223372036854775807) (hes : ∀ (i : Nat) (e : Ed), l[i]? = some e → (e.s.size : Int) ≤ 140737488355328) (hl : (l.length : Int) ≤ 9223372036854775807) (w : World) (hr : Eds w w.heap.size A l) :
    Calls Try.prog 3 #[.slice A l.length c, .int .i64 size] w fun e w' => e = .returned (.bool true) ∧ Below w.heap.size w w' := by
  have HS := Lib.hid hes
  clear hes
  go_enter Try.func3, Try.ntmps3
  go_wp2_with fail
  refine (alive_any _).mono ?_
  rintro e w1 ⟨rfl, hb1⟩
  go_wp2_with fail
  refine (large_any _ (by decide) A c l HS.out hl _ (hr.after hb1)).mono ?_
  rintro e w2 ⟨hv, hb2⟩
  have hB2 := hb1.trans (hb2.mono hb1.size)
  clear hb1 hb2
  rcases hv with rfl | ⟨rfl, hl41, htx⟩
  · go_wp2
    go_ret
    exact ⟨rfl, hB2⟩
  · have htx' : tx l ≤ 70000 := by omega
    clear htx hl
    go_wp2_with fail
    refine (grow_any A c l size hsz htx' _ (by omega) (hr.after hB2)).mono ?_
    rintro e w3 ⟨rfl, hb3⟩
    have hB3 := hB2.trans (hb3.mono hB2.size)
    have HR := Lib.hid hr
    have R3 := Lib.hid (right_any A c l size)
    have R4 := Lib.hid (refRight_any A c l size)
    have R5 := Lib.hid (plain_any A c l size)
    have R6 := Lib.hid (refPlain_any A c l size)
    have R7 := Lib.hid (refGrow_any A c l)
    have HG : Hid (rt l size = true → wrap64 (gr l) = gr l) := Lib.hid (fun h => by
      obtain ⟨a, b, _⟩ := gr_bounds h
      have := tx_nonneg l
      exact IntWalk.wrap64_in _ (by omega))
    clear hb3 hr
    unfold growV
    generalize pl l size = p at *
    generalize gr l = g at *
    cases hq : rt l size with
    | true =>
      have HQ := Lib.hid hq
      rw [hq] at R3 R4
      rw [if_pos rfl]
      have hg := HG.out hq
      rw [hg] at R7
      clear hq HG hg
      go_wp2_with fail
      refine (R4.out _ (by omega) (HR.out.after hB3)).mono ?_
      rintro e w4 ⟨rfl, hb4⟩
      have hB4 := hB3.trans (hb4.mono hB3.size)
      go_wp2_with fail
      refine (R3.out _ (by omega) (HR.out.after hB4)).mono ?_
      rintro e w5 ⟨rfl, hb5⟩
      have hB5 := hB4.trans (hb5.mono hB4.size)
      go_wp2_with fail
      refine (R5.out _ (by omega) (HR.out.after hB5)).mono ?_
      rintro e w6 ⟨rfl, hb6⟩
      have hB6 := hB5.trans (hb6.mono hB5.size)
      go_wp2_with fail
      refine (R6.out _ (by omega) (HR.out.after hB6)).mono ?_
      rintro e w7 ⟨rfl, hb7⟩
      have hB7 := hB6.trans (hb7.mono hB6.size)
      have hpp : (p != p) = false := by simp
      clear hb4 hb5 hb6 hb7
      go_wp2_with fail
      refine (R7.out _ (by omega) (HR.out.after hB7)).mono ?_
      rintro e w8 ⟨rfl, hb8⟩
      have hgg : (g == g) = true := by simp
      go_wp2
      go_ret
      exact ⟨rfl, hB7.trans (hb8.mono hB7.size)⟩
    | false =>
      have HQ := Lib.hid hq
      rw [hq] at R3 R4
      rw [if_neg (by simp)]
      clear hq HG R7
      go_wp2_with fail
      refine (R4.out _ (by omega) (HR.out.after hB3)).mono ?_
      rintro e w4 ⟨rfl, hb4⟩
      have hB4 := hB3.trans (hb4.mono hB3.size)
      go_wp2_with fail
      refine (R3.out _ (by omega) (HR.out.after hB4)).mono ?_
      rintro e w5 ⟨rfl, hb5⟩
      have hB5 := hB4.trans (hb5.mono hB4.size)
      go_wp2_with fail
      refine (R5.out _ (by omega) (HR.out.after hB5)).mono ?_
      rintro e w6 ⟨rfl, hb6⟩
      have hB6 := hB5.trans (hb6.mono hB5.size)
      go_wp2_with fail
      refine (R6.out _ (by omega) (HR.out.after hB6)).mono ?_
      rintro e w7 ⟨rfl, hb7⟩
      have hB7 := hB6.trans (hb7.mono hB6.size)
      have hpp : (p != p) = false := by simp
      clear hb4 hb5 hb6 hb7
      go_wp2_with fail
      refine (is_errno 2 2 (by omega) _).mono ?_
      rintro e w8 ⟨rfl, rfl⟩
      go_wp2
      go_ret
      exact ⟨rfl, hB7⟩

end Go.Proofs.Ytgecifinefpfoaa
