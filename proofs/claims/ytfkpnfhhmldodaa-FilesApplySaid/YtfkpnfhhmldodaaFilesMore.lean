/- Contracts: what is too large, how many bytes there are, Find, and two slices that read as one list. -/
import Derived.Test.YtfkpnfhhmldodaaFilesRight
import Derived.Test.YtfkpnfhhmldodaaFilesSmall
import Derived.Test.YtfkpnfhhmldodaaEditGrowA
import Derived.Test.YtfkpnfhhmldodaaEditSame
namespace Go.Proofs.Ytfkpnfhhmldodaa
open Go.RowKit EditMath FilesMath

def LargeV4 (l : List Fl) (w : World) (e : Ending) (w' : World) : Prop := (e = .returned (.bool true) ∨ (e = .returned (.bool false) ∧ l.length ≤ 21 ∧ tot l ≤ 40000)) ∧ Below w.heap.size w w'

theorem take_len {α : Type} (l : List α) : l.take l.length = l := List.take_length

set_option maxRecDepth 100000 in
set_option maxHeartbeats 1000000 in
theorem large4_any (A : Option Addr) (c : Nat) (l : List Fl) (w : World) (hes : ∀ (i : Nat) (f : Fl), l[i]? = some f → (f.n.size : Int) ≤ 140737488355328 ∧ (f.t.size : Int) ≤ 140737488355328) (_hl : (l.length : Int) ≤ 9223372036854775807) (hr : Fls w w.heap.size A l) :
    Calls Try.prog 30 #[.slice A l.length c] w (LargeV4 l w) := by
  have HS := Lib.hid hes
  clear hes
  go_enter Try.func30, Try.ntmps30
  go_wp2
  go_loopw [3, 4, 5, 8] (fun s _ _ i wr => ∃ k : Nat, k ≤ l.length ∧ k ≤ 21 ∧ i = .int .i64 k ∧ s = .int .i64 (tot (l.take k)) ∧ tot (l.take k) ≤ 40000 ∧ Below w.heap.size w wr) (fun _ _ _ i _ => l.length - (intOf i).toNat)
  case atStart => exact ⟨0, Nat.zero_le _, by omega, rfl, by simp [tot], by simp [tot], Below.refl _ _⟩
  case round =>
    obtain ⟨k, hk, hk21, rfl, rfl, ht, hB⟩ := hrel
    by_cases hlt : k < l.length
    · have he : l[k]? = some l[k] := List.getElem?_eq_getElem hlt
      generalize l[k] = e at he
      obtain ⟨s1, s2⟩ := HS.out k e he
      obtain ⟨b, off, rfl, hb, c0, c1⟩ := (hr.below hB).at_ he
      have HT := Lib.hid (tot_snoc he)
      have t0 := tot_nonneg (l.take k)
      clear he
      generalize htt : tot (l.take k) = t at *
      have HTT := Lib.hid htt
      clear htt
      have z1 : (0 : Int) ≤ k := by omega
      have z2 : (k : Int) < l.length := by omega
      have hB1 : Below wr.heap.size wr (wr.alloc (.cells #[.string e.n, .string e.t] 58)) := below1 _ _
      by_cases h20 : (20 : Int) < k
      · have d0 : decide ((20 : Int) < k) = true := decide_eq_true h20
        go_wp2
        go_ret
        exact ⟨.inl rfl, hB.trans (hB1.mono hB.size)⟩
      · have d0 : decide ((20 : Int) < k) = false := decide_eq_false h20
        by_cases h4 : (40000 : Int) < t + (e.n.size + e.t.size)
        · have d1 : decide ((40000 : Int) < t + (e.n.size + e.t.size)) = true := decide_eq_true h4
          go_wp2
          go_ret
          exact ⟨.inl rfl, hB.trans (hB1.mono hB.size)⟩
        · have d1 : decide ((40000 : Int) < t + (e.n.size + e.t.size)) = false := decide_eq_false h4
          go_wp2
          go_roundw
          case rel => exact ⟨k + 1, by omega, by omega, by go_num, by rw [HT.out], by rw [HT.out]; omega, hB.trans (hB1.mono hB.size)⟩
          case measure => simp [intOf]; omega
    · obtain rfl : k = l.length := by omega
      rw [take_len] at ht
      go_wp2
      go_ret
      exact ⟨.inr ⟨rfl, hk21, ht⟩, hB⟩

set_option maxRecDepth 100000 in
set_option maxHeartbeats 1000000 in
theorem size4_any (A : Option Addr) (c : Nat) (l : List Fl) (w : World) (hl : l.length ≤ 30) (ht : tot l ≤ 100000) (hr : Fls w w.heap.size A l) :
    Calls Try.prog 34 #[.slice A l.length c] w fun e w' => e = .returned (.int .i64 (sz l)) ∧ Below w.heap.size w w' := by
  have hz := sz_le l
  go_enter Try.func34, Try.ntmps34
  go_wp2
  go_loopw [3, 5, 8] (fun s _ i wr => ∃ k : Nat, k ≤ l.length ∧ i = .int .i64 k ∧ s = .int .i64 (sz (l.take k)) ∧ Below w.heap.size w wr) (fun _ _ i _ => l.length - (intOf i).toNat)
  case atStart => exact ⟨0, Nat.zero_le _, rfl, by simp [sz], Below.refl _ _⟩
  case round =>
    obtain ⟨k, hk, rfl, rfl, hB⟩ := hrel
    by_cases hlt : k < l.length
    · have he : l[k]? = some l[k] := List.getElem?_eq_getElem hlt
      generalize l[k] = e at he
      obtain ⟨b, off, rfl, hb, c0, c1⟩ := (hr.below hB).at_ he
      have HT := Lib.hid (sz_snoc he)
      have t0 := sz_nonneg (l.take k)
      have t1 := sz_take_le l k
      have t2 := (tot_at he).2
      clear he
      have z1 : (0 : Int) ≤ k := by omega
      have z2 : (k : Int) < l.length := by omega
      have hB1 : Below wr.heap.size wr (wr.alloc (.cells #[.string e.n, .string e.t] 58)) := below1 _ _
      generalize htt : sz (l.take k) = t at *
      have HTT := Lib.hid htt
      clear htt
      go_wp2
      go_roundw
      case rel => exact ⟨k + 1, by omega, by go_num, by rw [HT.out], hB.trans (hB1.mono hB.size)⟩
      case measure => simp [intOf]; omega
    · obtain rfl : k = l.length := by omega
      go_wp2
      go_ret
      exact ⟨ret_int (by rw [take_len]), hB⟩

theorem sizes_of {l : List Fl} (h : tot l ≤ 50000) : ∀ (i : Nat) (f : Fl), l[i]? = some f → (f.n.size : Int) ≤ 50000 ∧ (f.t.size : Int) ≤ 50000 := fun _ _ hf => by
  have := tot_at hf
  omega

/-- what Find answers -/
noncomputable def findV (l : List Fl) (n : ByteArray) : Value := if rgt l = true then (if 0 ≤ plcI l n then .tuple #[.int .i64 (plcI l n), .nilIface] else .tuple #[.int .i64 0, errn 5]) else .tuple #[.int .i64 0, errn 2]

set_option maxHeartbeats 1000000 in
theorem find4_any (A : Option Addr) (c : Nat) (l : List Fl) (n : ByteArray) (w : World) (hl : l.length ≤ 30) (hc : l.length ≤ c) (ht : tot l ≤ 50000) (hr : Fls w w.heap.size A l) :
    Calls Try.prog 31 #[.slice A l.length c, .string n] w fun e w' => e = .returned (findV l n) ∧ Below w.heap.size w w' := by
  have HR := Lib.hid (right4_any A c l w hl hc (sizes_of ht) hr)
  have HN := fun (W : World) (h : Below w.heap.size w W) => Lib.hid (numberOf_any A c l n W hl (hr.after h))
  unfold findV
  cases hR : rgt l with
  | false =>
    rw [hR] at HR
    rw [if_neg (by simp)]
    clear hR
    go_enter Try.func31, Try.ntmps31
    go_wp2_with fail
    refine HR.out.mono ?_
    rintro e w1 ⟨rfl, hb1⟩
    go_wp2
    go_ret2
    exact ⟨rfl, hb1⟩
  | true =>
    rw [hR] at HR
    rw [if_pos rfl]
    clear hR
    generalize plcI l n = p at *
    by_cases hp : 0 ≤ p
    · have d0 : decide (p < 0) = false := decide_eq_false (by omega)
      rw [if_pos hp]
      go_enter Try.func31, Try.ntmps31
      go_wp2_with fail
      refine HR.out.mono ?_
      rintro e w1 ⟨rfl, hb1⟩
      go_wp2_with fail
      refine (HN w1 hb1).out.mono ?_
      rintro e w2 ⟨rfl, hb2⟩
      go_wp2
      go_ret2
      exact ⟨rfl, hb1.trans (hb2.mono hb1.size)⟩
    · have d0 : decide (p < 0) = true := decide_eq_true (by omega)
      rw [if_neg hp]
      go_enter Try.func31, Try.ntmps31
      go_wp2_with fail
      refine HR.out.mono ?_
      rintro e w1 ⟨rfl, hb1⟩
      go_wp2_with fail
      refine (HN w1 hb1).out.mono ?_
      rintro e w2 ⟨rfl, hb2⟩
      go_wp2
      go_ret2
      exact ⟨rfl, hb1.trans (hb2.mono hb1.size)⟩

theorem same_fl (e : Fl) (w : World) : (binOp .neq 58 (.agg #[.string e.n, .string e.t]) (.agg #[.string e.n, .string e.t])).run Try.prog w = .ok (.bool false) w := by
  have u9 := Try.underlying9
  have a9 := Try.isAgg9
  have z9 := Try.sizeOf9
  have hS : Try.prog.underlying 58 = some (.struct (Try.prog.fieldsOf 58)) := by kernel_rfl
  have hp : Try.prog.stoodInHeld 58 = false := by kernel_rfl
  rw [run_neq_struct, show (10000 : Nat) = 9999 + 1 from rfl, run_equalIn_agg w 9999 58 _ _ hS hp]
  simp only [Program.fieldsOf, Try.underlying58]
  go_simp

set_option maxHeartbeats 1000000 in
theorem files_same (A A2 : Option Addr) (c c2 : Nat) (l : List Fl) (w : World) (hl : l.length ≤ 30) (hr : Fls w w.heap.size A l) (hr2 : Fls w w.heap.size A2 l) :
    Calls Try.prog 33 #[.slice A l.length c, .slice A2 l.length c2] w fun e w' => e = .returned (.bool true) ∧ Below w.heap.size w w' := by
  have hn : (((l.length : Nat) : Int) != l.length) = false := by simp
  have hm : Try.prog.eqGuardType Try.prog.depth 58 = false := by kernel_rfl
  go_enter Try.func33, Try.ntmps33
  go_wp2
  go_loopw [5, 13] (fun _ i wr => ∃ k : Nat, k ≤ l.length ∧ i = .int .i64 (k : Int) ∧ Below w.heap.size w wr) (fun _ i _ => l.length + 1 - (intOf i).toNat)
  case atStart => exact ⟨0, Nat.zero_le _, rfl, Below.refl _ _⟩
  case round =>
    obtain ⟨k, hk, rfl, hB⟩ := hrel
    by_cases hlt : k < l.length
    · have he : l[k]? = some l[k] := List.getElem?_eq_getElem hlt
      generalize l[k] = e at he
      have z1 : (0 : Int) ≤ k := by omega
      have z2 : (k : Int) < l.length := by omega
      obtain ⟨b, off, rfl, hb, c0, c1⟩ := (hr.below hB).at_ he
      obtain ⟨b2, off2, rfl, hb2, d0, d1⟩ := (hr2.below hB).at_ he
      have hs := same_fl e
      clear he hr hr2
      go_wp2
      go_quiet (fail)
      go_wp2
      go_roundw
      case rel => exact ⟨k + 1, by omega, by go_num, below_drewN hB _⟩
      case measure => simp [intOf]; omega
    · obtain rfl : k = l.length := by omega
      go_wp2
      go_ret
      exact ⟨rfl, hB⟩
end Go.Proofs.Ytfkpnfhhmldodaa
