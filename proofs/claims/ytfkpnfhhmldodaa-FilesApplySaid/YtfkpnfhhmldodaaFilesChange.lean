/- Contracts: commonStart, commonEnd, change. -/
import Derived.Test.YtfkpnfhhmldodaaFilesMore
import Derived.Test.YtfkpnfhhmldodaaFilesDiffMath
import Derived.Test.YtfkpnfhhmldodaaEditRefMerge
import Derived.StillTailTactics
namespace Go.Proofs.Ytfkpnfhhmldodaa
open Go.RowKit EditMath FilesMath

theorem ix_sub {s : ByteArray} {n : Nat} {u : UInt8} (hn : n < s.size) (h : s.data.toList[s.size - 1 - n]? = some u) (W : World) : (Instr.index 9 (.string s) (.int .i64 ((s.size : Int) - 1 - (n : Int)))).run Try.prog W = .ok (.int .u8 u.toNat) W := by
  have := run_ix (s := s) (i := s.size - 1 - n) h W
  rw [show ((s.size - 1 - n : Nat) : Int) = (s.size : Int) - 1 - n by omega] at this
  exact this
theorem u8_beq (a b : UInt8) : ((a.toNat : Int) == b.toNat) = decide (a = b) := by
  rw [beqd, Bool.eq_iff_iff, decide_eq_true_eq, decide_eq_true_eq]
  constructor
  · intro h; exact UInt8.toNat_inj.1 (by omega)
  · intro h; rw [h]

set_option maxRecDepth 100000 in
set_option maxHeartbeats 2000000 in
theorem commonStart_any (a b : ByteArray) (ha : (a.size : Int) ≤ 50000) (_hb : (b.size : Int) ≤ 50000) (w : World) :
    Calls Try.prog 108 #[.string a, .string b] w fun e w' => e = .returned (.int .i64 (dfF a b)) ∧ Below w.heap.size w w' := by
  go_enter Try.func108, Try.ntmps108
  go_wp2
  go_loopw [5] (fun i wr => ∃ k : Nat, k ≤ a.size ∧ k ≤ b.size ∧ i = .int .i64 k ∧ Below w.heap.size w wr ∧ Hid (∀ i, i < k → a.data.toList[i]? = b.data.toList[i]?)) (fun i _ => a.size - (intOf i).toNat)
  case atStart => exact ⟨0, Nat.zero_le _, Nat.zero_le _, rfl, Below.refl _ _, Lib.hid (fun i hi => absurd hi (Nat.not_lt_zero _))⟩
  case round =>
    obtain ⟨k, hka, hkb, rfl, hB, HN⟩ := hrel
    have z0 : (0 : Int) ≤ k := by omega
    by_cases h1 : k < a.size
    · have z1 : (k : Int) < a.size := by omega
      by_cases h2 : k < b.size
      · have z2 : (k : Int) < b.size := by omega
        have e1 : a.data.toList[k]? = some (a.data.toList[k]'h1) := List.getElem?_eq_getElem h1
        have e2 : b.data.toList[k]? = some (b.data.toList[k]'h2) := List.getElem?_eq_getElem h2
        generalize a.data.toList[k]'h1 = x at e1
        generalize b.data.toList[k]'h2 = y at e2
        have r1 := run_ix e1
        have r2 := run_ix e2
        have hu := u8_beq x y
        have HE1 := Lib.hid e1
        have HE2 := Lib.hid e2
        clear e1 e2
        by_cases hxy : x = y
        · rw [decide_eq_true hxy] at hu
          have HXY := Lib.hid hxy
          clear hxy
          go_wp2
          go_quiet (fail)
          go_wp2
          go_roundw
          case rel =>
            refine ⟨k + 1, by omega, by omega, by go_num, below_drewN hB _, Lib.hid (fun i hi => ?_)⟩
            by_cases e : i = k
            · subst e; rw [HE1.out, HE2.out, HXY.out]
            · exact HN.out i (by omega)
          case measure => simp [intOf]; omega
        · rw [decide_eq_false hxy] at hu
          have HXY := Lib.hid hxy
          clear hxy
          go_wp2
          go_quiet (fail)
          go_wp2
          go_ret
          refine ⟨ret_int ?_, below_drewN hB _⟩
          have := cst_of k a.data.toList b.data.toList hka hkb HN.out (fun q => by have q2 := q.2.2; rw [HE1.out, HE2.out] at q2; injection q2 with q2; exact HXY.out q2)
          unfold dfF
          rw [this]
      · have z2 : decide ((k : Int) < b.size) = false := decide_eq_false (by omega)
        go_wp2
        go_quiet (fail)
        go_wp2
        go_ret
        refine ⟨ret_int ?_, below_drewN hB _⟩
        have := cst_of k a.data.toList b.data.toList hka hkb HN.out (fun q => h2 q.2.1)
        unfold dfF
        rw [this]
    · have z2 : decide ((k : Int) < a.size) = false := decide_eq_false (by omega)
      go_wp2
      go_quiet (fail)
      go_wp2
      go_ret
      refine ⟨ret_int ?_, below_drewN hB _⟩
      have := cst_of k a.data.toList b.data.toList hka hkb HN.out (fun q => h1 q.1)
      unfold dfF
      rw [this]

set_option maxRecDepth 100000 in
set_option maxHeartbeats 2000000 in
theorem commonEnd_any (a b : ByteArray) (ha : (a.size : Int) ≤ 50000) (hb : (b.size : Int) ≤ 50000) (w : World) :
    Calls Try.prog 109 #[.string a, .string b] w fun e w' => e = .returned (.int .i64 (cen a.data.toList b.data.toList)) ∧ Below w.heap.size w w' := by
  go_enter Try.func109, Try.ntmps109
  go_wp2
  go_loopw [5] (fun i wr => ∃ k : Nat, k ≤ a.size ∧ k ≤ b.size ∧ i = .int .i64 k ∧ Below w.heap.size w wr ∧ Hid (∀ i, i < k → a.data.toList[a.data.toList.length - 1 - i]? = b.data.toList[b.data.toList.length - 1 - i]?)) (fun i _ => a.size - (intOf i).toNat)
  case atStart => exact ⟨0, Nat.zero_le _, Nat.zero_le _, rfl, Below.refl _ _, Lib.hid (fun i hi => absurd hi (Nat.not_lt_zero _))⟩
  case round =>
    obtain ⟨k, hka, hkb, rfl, hB, HN⟩ := hrel
    have z0 : (0 : Int) ≤ k := by omega
    by_cases h1 : k < a.size
    · have z1 : (k : Int) < a.size := by omega
      by_cases h2 : k < b.size
      · have z2 : (k : Int) < b.size := by omega
        have e1 : a.data.toList[a.size - 1 - k]? = some (a.data.toList[a.size - 1 - k]'(show a.size - 1 - k < a.size by omega)) := List.getElem?_eq_getElem _
        have e2 : b.data.toList[b.size - 1 - k]? = some (b.data.toList[b.size - 1 - k]'(show b.size - 1 - k < b.size by omega)) := List.getElem?_eq_getElem _
        generalize a.data.toList[a.size - 1 - k]'(show a.size - 1 - k < a.size by omega) = x at e1
        generalize b.data.toList[b.size - 1 - k]'(show b.size - 1 - k < b.size by omega) = y at e2
        have r1 := ix_sub h1 e1
        have r2 := ix_sub h2 e2
        have hu := u8_beq x y
        have HE1 : Hid (a.data.toList[a.data.toList.length - 1 - k]? = some x) := Lib.hid e1
        have HE2 : Hid (b.data.toList[b.data.toList.length - 1 - k]? = some y) := Lib.hid e2
        clear e1 e2
        by_cases hxy : x = y
        · rw [decide_eq_true hxy] at hu
          have HXY := Lib.hid hxy
          clear hxy
          go_wp2
          go_quiet (fail)
          go_wp2
          go_roundw
          case rel =>
            refine ⟨k + 1, by omega, by omega, by go_num, below_drewN hB _, Lib.hid (fun i hi => ?_)⟩
            by_cases e : i = k
            · subst e; rw [HE1.out, HE2.out, HXY.out]
            · exact HN.out i (by omega)
          case measure => simp [intOf]; omega
        · rw [decide_eq_false hxy] at hu
          have HXY := Lib.hid hxy
          clear hxy
          go_wp2
          go_quiet (fail)
          go_wp2
          go_ret
          refine ⟨ret_int ?_, below_drewN hB _⟩
          rw [cen_of (n := k) hka hkb HN.out (fun q => by have q2 := q.2.2; rw [HE1.out, HE2.out] at q2; injection q2 with q2; exact HXY.out q2)]
      · have z2 : decide ((k : Int) < b.size) = false := decide_eq_false (by omega)
        go_wp2
        go_quiet (fail)
        go_wp2
        go_ret
        refine ⟨ret_int ?_, below_drewN hB _⟩
        rw [cen_of (n := k) hka hkb HN.out (fun q => h2 q.2.1)]
    · have z2 : decide ((k : Int) < a.size) = false := decide_eq_false (by omega)
      go_wp2
      go_quiet (fail)
      go_wp2
      go_ret
      refine ⟨ret_int ?_, below_drewN hB _⟩
      rw [cen_of (n := k) hka hkb HN.out (fun q => h1 q.1)]

theorem cut_data (s : ByteArray) (a e : Nat) : (s.extract a e).data.toList = (s.data.toList.take e).drop a := by
  rw [ByteArray.data_extract]
  simp [Array.toList_extract, List.extract_eq_take_drop, List.drop_take]
theorem drop_data (s : ByteArray) (n : Nat) : (s.extract n s.size).data.toList = s.data.toList.drop n := by
  rw [cut_data]
  congr 1
  exact List.take_of_length_le (Nat.le_refl _)
theorem drop_size (s : ByteArray) (n : Nat) : (s.extract n s.size).size ≤ s.size := by rw [ByteArray.size_extract]; omega

set_option maxRecDepth 100000 in
set_option maxHeartbeats 2000000 in
theorem change_any (a b : ByteArray) (ha : (a.size : Int) ≤ 50000) (hb : (b.size : Int) ≤ 50000) (w : World) :
    Calls Try.prog 81 #[.string a, .string b] w fun e w' => e = .returned (edv (dfE a b)) ∧ Below w.heap.size w w' := by
  obtain ⟨l1, l2⟩ := dfF_le a b
  obtain ⟨m1, m2⟩ := dfM_le a b
  have HC := fun W => Lib.hid (commonStart_any a b ha hb W)
  have HD := fun W => Lib.hid (commonEnd_any (a.extract (dfF a b) a.size) (b.extract (dfF a b) b.size) (by have := drop_size a (dfF a b); omega) (by have := drop_size b (dfF a b); omega) W)
  rw [drop_data, drop_data] at HD
  have HV : Hid (edv (dfE a b) = edv ⟨dfF a b, (a.size : Int) - dfM a b, b.extract (dfF a b) (b.size - dfM a b)⟩) := Lib.hid rfl
  rw [show cen (a.data.toList.drop (dfF a b)) (b.data.toList.drop (dfF a b)) = dfM a b from rfl] at HD
  generalize dfE a b = v at HV ⊢
  generalize dfM a b = m at *
  generalize dfF a b = n at *
  rw [HV.out]
  clear HV v
  have z1 : (0 : Int) ≤ n := by omega
  have z2 : (n : Int) ≤ a.size := by omega
  have z3 : (n : Int) ≤ b.size := by omega
  have z4 : (n : Int) ≤ (b.size : Int) - m := by omega
  have z5 : (b.size : Int) - m ≤ b.size := by omega
  have z6 : ((b.size : Int) - m).toNat = b.size - m := by omega
  go_enter Try.func81, Try.ntmps81
  go_wp2_with fail
  refine (HC _).out.mono ?_
  rintro r w1 ⟨rfl, hb1⟩
  go_wp2
  go_still_tail 6, (by kernel_rfl)
  change wpList _ _ _ _ _ w1.drew
  go_wp2_with fail
  refine (HD _).out.mono ?_
  rintro r w2 ⟨rfl, hb2⟩
  have hB0 : Below w.heap.size w (w.alloc (.cells #[.int .i64 0, .int .i64 0, .string ⟨#[]⟩] 87)) := below1 _ _
  have hbd : Below w1.heap.size w1 w2 := Below.trans (⟨rfl, rfl, rfl, Nat.le_refl _, fun _ _ => rfl⟩ : Below w1.heap.size w1 w1.drew) hb2
  have hB1 : Below (w.heap.size + 1) (w.alloc (.cells #[.int .i64 0, .int .i64 0, .string ⟨#[]⟩] 87)) w2 := by
    have h0 : (w.alloc (.cells #[.int .i64 0, .int .i64 0, .string ⟨#[]⟩] 87)).heap.size = w.heap.size + 1 := by simp
    have h1 := hb1
    rw [h0] at h1
    exact h1.trans (hbd.mono (by have := h1.size; rw [h0] at this; exact this))
  have hx : w2.heap[w.heap.size]? = some (.cells #[.int .i64 0, .int .i64 0, .string ⟨#[]⟩] 87 (0, 0)) := (hB1.block w.heap.size (by omega)).trans (heap_alloc_new w _)
  obtain ⟨x0, x1, x2⟩ := cells_three hx
  have f0 := Lib.frozen_of_heap hx 0
  have f1 := Lib.frozen_of_heap hx 1
  have f2 := Lib.frozen_of_heap hx 2
  have hbf : Below w.heap.size w w2 := hB0.trans (hB1.mono (by omega))
  have hbx : Box w2 w.heap.size ⟨0, 0, ⟨#[]⟩⟩ := hx
  obtain ⟨r0, r1, r2⟩ := (Box.set hbx ⟨n, (a.size : Int) - m, b.extract n (b.size - m)⟩).cells
  have HR0 := Lib.hid r0
  have HR1 := Lib.hid r1
  have HR2 := Lib.hid r2
  clear r0 r1 r2 hbx
  go_wp2
  have r0 := HR0.out
  have r1 := HR1.out
  have r2 := HR2.out
  refine bodyPost_ret (v := edv ⟨n, (a.size : Int) - m, b.extract n (b.size - m)⟩) (by simp [results, Try.results81, go_sem, r0, r1, r2]) rfl ⟨rfl, ?_⟩
  exact ((hbf.setCell (p := ⟨w.heap.size, 0, none⟩) (Nat.le_refl _) _).setCell (p := ⟨w.heap.size, 1, none⟩) (Nat.le_refl _) _).setCell (p := ⟨w.heap.size, 2, none⟩) (Nat.le_refl _) _
end Go.Proofs.Ytfkpnfhhmldodaa
