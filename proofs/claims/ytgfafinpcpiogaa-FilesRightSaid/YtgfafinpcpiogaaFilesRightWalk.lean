/- The law FilesRight, walked. -/
import Derived.Test.YtgfafinpcpiogaaFilesCopy
namespace Go.Proofs.Ytgfafinpcpiogaa
open Go.RowKit EditMath FilesMath

set_option maxRecDepth 100000 in
set_option maxHeartbeats 2000000 in
theorem filesRight_walk (A0 : Option Addr) (c0 : Nat) (l : List Fl) (n : ByteArray) (_hn : (n.size : Int) ≤ 140737488355328) (hes : ∀ (i : Nat) (f : Fl), l[i]? = some f → (f.n.size : Int) ≤ 140737488355328 ∧ (f.t.size : Int) ≤ 140737488355328)
    (hl : (l.length : Int) ≤ 9223372036854775807) (hc : l.length ≤ c0) (hnil : A0 = none → c0 = 0) (w : World) (hr : Fls w w.heap.size A0 l) :
    Calls Try.prog 7 #[.slice A0 l.length c0, .string n] w fun e w' => e = .returned (.bool true) ∧ Below w.heap.size w w' := by
  have HS := Lib.hid hes
  have HR := Lib.hid hr
  have HN := Lib.hid hnil
  clear hes hr hnil
  go_enter Try.func7, Try.ntmps7
  go_wp2_with fail
  refine (alive4_any _).mono ?_
  rintro e w1 ⟨rfl, hb1⟩
  go_wp2_with fail
  refine (large4_any A0 c0 l _ HS.out hl (HR.out.after hb1)).mono ?_
  rintro e w2 ⟨hv, hb2⟩
  have hB2 := hb1.trans (hb2.mono hb1.size)
  clear hb1 hb2
  rcases hv with rfl | ⟨rfl, hl21, htot⟩
  · go_wp2
    go_ret
    exact ⟨rfl, hB2⟩
  · by_cases h5 : (500 : Int) < n.size
    · have d0 : decide ((500 : Int) < n.size) = true := decide_eq_true h5
      go_wp2
      go_ret
      exact ⟨rfl, hB2⟩
    · have d0 : decide ((500 : Int) < n.size) = false := decide_eq_false h5
      have t0 := sz_nonneg l
      have t1 := sz_le l
      go_wp2_with fail
      refine (find4_any A0 c0 l n _ (by omega) hc (by omega) (HR.out.after hB2)).mono ?_
      rintro e w3 ⟨he3, hb3⟩
      have hB3 := hB2.trans (hb3.mono hB2.size)
      clear hb3
      subst he3
      have HF : ∀ X : Value, Hid (X = X) := fun X => Lib.hid rfl
      have hfv : ∃ (a : Int) (b : Value), findV l n = .tuple #[.int .i64 a, b] ∧ ((rgt l = false ∧ a = 0 ∧ b = errn 2) ∨ (rgt l = true ∧ 0 ≤ plcI l n ∧ a = plcI l n ∧ b = .nilIface) ∨ (rgt l = true ∧ plcI l n < 0 ∧ a = 0 ∧ b = errn 5)) := by
        unfold findV
        cases hq : rgt l with
        | false => exact ⟨0, errn 2, by simp, .inl ⟨rfl, rfl, rfl⟩⟩
        | true =>
          by_cases hp : 0 ≤ plcI l n
          · exact ⟨plcI l n, .nilIface, by rw [if_pos rfl, if_pos hp], .inr (.inl ⟨rfl, hp, rfl, rfl⟩)⟩
          · exact ⟨0, errn 5, by rw [if_pos rfl, if_neg hp], .inr (.inr ⟨rfl, by omega, rfl, rfl⟩)⟩
      obtain ⟨a, b, hab, hcases⟩ := hfv
      rw [hab]
      have HCS := Lib.hid hcases
      clear hcases hab HF
      go_wp2
      go_loopw [7, 9, 29] (fun s _ i wr => ∃ k : Nat, k ≤ l.length ∧ i = .int .i64 k ∧ s = .int .i64 (sz (l.take k)) ∧ Below w.heap.size w wr) (fun _ _ i _ => l.length - (intOf i).toNat)
      case atStart => exact ⟨0, Nat.zero_le _, rfl, by simp [sz], hB3⟩
      case round =>
        obtain ⟨k, hk, rfl, rfl, hB⟩ := hrel
        by_cases hlt : k < l.length
        · have he : l[k]? = some l[k] := List.getElem?_eq_getElem hlt
          generalize l[k] = e at he
          obtain ⟨b, off, rfl, hb, c0, c1⟩ := (HR.out.below hB).at_ he
          have HT := Lib.hid (sz_snoc he)
          have t4 := sz_nonneg (l.take k)
          have t5 := sz_take_le l k
          have t6 := (tot_at he).2
          clear he
          have z1 : (0 : Int) ≤ k := by omega
          have z2 : (k : Int) < l.length := by omega
          have hB1 : Below wr.heap.size wr (wr.alloc (.cells #[.string e.n, .string e.t] 58)) := below1 _ _
          generalize htt : sz (l.take k) = t at *
          have HTT := Lib.hid htt
          clear htt
          go_wp2
          go_roundw
          case rel => exact ⟨k + 1, by omega, by go_num, by rw [HT.out], hB.trans (hB1.mono hB.size)⟩
          case measure => simp [intOf]; omega
        · obtain rfl : k = l.length := by omega
          rw [take_len]
          have hq0 : (sz l != sz l) = false := by simp
          go_wp2_with fail
          refine (copy4_any A0 c0 l _ (by omega) HN.out (HR.out.after hB)).mono ?_
          rintro e w4 ⟨g, rfl, hg, hrow, hb4⟩
          have hB4 := hB.trans (hb4.mono hB.size)
          have HF4 := Lib.hid (row_fls hrow)
          clear hrow hb4
          go_wp2_with fail
          refine (files_same (some ⟨g, 0, none⟩) A0 l.length c0 l _ (by omega) HF4.out (HR.out.after hB4)).mono ?_
          rintro e w5 ⟨rfl, hb5⟩
          have hB5 := hB4.trans (hb5.mono hB4.size)
          clear hb5
          go_wp2_with fail
          refine (size4_any A0 c0 l _ (by omega) (by omega) (HR.out.after hB5)).mono ?_
          rintro e w6 ⟨rfl, hb6⟩
          have hB6 := hB5.trans (hb6.mono hB5.size)
          clear hb6
          go_wp2_with fail
          refine (right4_any A0 c0 l _ (by omega) hc (sizes_of (by omega)) (HR.out.after hB6)).mono ?_
          rintro e w7 ⟨rfl, hb7⟩
          have hB7 := hB6.trans (hb7.mono hB6.size)
          clear hb7
          go_wp2_with fail
          refine (refRight4_any A0 c0 l _ (by omega) (sizes_of (by omega)) (HR.out.after hB7)).mono ?_
          rintro e w8 ⟨rfl, rfl⟩
          have hq1 : (rgt l != rgt l) = false := by simp
          have HRR := Lib.hid (refRight4_any A0 c0 l w7 (by omega) (sizes_of (by omega)) (HR.out.after hB7))
          have HPL := Lib.hid (place_any A0 c0 l n w7 (by omega) (HR.out.after hB7))
          generalize rgt l = R at *
          generalize plcI l n = p at *
          rcases HCS.out with ⟨rfl, rfl, rfl⟩ | ⟨rfl, hp, rfl, rfl⟩ | ⟨rfl, hp, rfl, rfl⟩
          · go_wp2_with fail
            refine HRR.out.mono ?_
            rintro e w9 ⟨rfl, rfl⟩
            go_wp2_with fail
            refine (is_errno 2 2 (by omega) _).mono ?_
            rintro e w9 ⟨rfl, rfl⟩
            go_wp2
            go_ret
            exact ⟨rfl, hB7⟩
          · have d1 : decide (a < 0) = false := decide_eq_false (by omega)
            have d2 : (a == a) = true := by simp
            go_wp2_with fail
            refine HRR.out.mono ?_
            rintro e w9 ⟨rfl, rfl⟩
            go_wp2_with fail
            refine HPL.out.mono ?_
            rintro e w9 ⟨rfl, rfl⟩
            go_wp2
            go_ret
            exact ⟨rfl, hB7⟩
          · have d1 : ¬ 0 ≤ p := by omega
            have d2 : decide (0 ≤ p) = false := decide_eq_false (by omega)
            go_wp2_with fail
            refine HRR.out.mono ?_
            rintro e w9 ⟨rfl, rfl⟩
            go_wp2_with fail
            refine HPL.out.mono ?_
            rintro e w9 ⟨rfl, rfl⟩
            go_wp2_with fail
            refine (is_errno 5 5 (by omega) _).mono ?_
            rintro e w9 ⟨rfl, rfl⟩
            go_wp2
            go_ret
            exact ⟨rfl, hB7⟩
end Go.Proofs.Ytgfafinpcpiogaa
