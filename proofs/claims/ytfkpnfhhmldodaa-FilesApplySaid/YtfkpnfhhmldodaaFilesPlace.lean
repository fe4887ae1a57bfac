/- Contracts: where a file stands, and which names are right, by the document. -/
import Derived.Test.YtfkpnfhhmldodaaFilesAsk
namespace Go.Proofs.Ytfkpnfhhmldodaa
open Go.RowKit EditMath FilesMath

theorem enters100 : ∀ args w, (callFunc 100 args).run Try.prog w = .ok (.enter 100 args) w := enters_of Try.func100 (by kernel_rfl) rfl

theorem str_beq (a b : ByteArray) : (a.toList == b.toList) = decide (a = b) := by
  rw [Bool.eq_iff_iff, decide_eq_true_eq, beq_iff_eq, ByteArray.toList_eq, ByteArray.toList_eq]
  exact ⟨fun h => WideShapes.bytes_inj h, fun h => by rw [h]⟩

set_option maxHeartbeats 400000 in
theorem numberOf1_any (f : Fl) (n : ByteArray) (g : Nat) (w : World) (hg : w.cell? ⟨g, 0, none⟩ = some (.string n)) (hlt : g < w.heap.size) :
    Calls Try.prog 100 #[flv f, .pointer (some ⟨g, 0, none⟩)] w fun e w' => e = .returned (.bool (decide (f.n = n))) ∧ Below w.heap.size w w' := by
  have hb := str_beq f.n n
  have hB1 : Below w.heap.size w (w.alloc (.cells #[.string f.n, .string f.t] 58)) := below1 _ _
  have hg1 : (w.alloc (.cells #[.string f.n, .string f.t] 58)).cell? ⟨g, 0, none⟩ = some (.string n) := (hB1.cell (p := ⟨g, 0, none⟩) hlt).trans hg
  go_enter Try.func100, Try.ntmps100
  go_wp2
  go_ret
  exact ⟨rfl, hB1⟩

set_option maxRecDepth 100000 in
set_option maxHeartbeats 1000000 in
theorem indexF_any (A : Option Addr) (c : Nat) (l : List Fl) (n : ByteArray) (g : Nat) (w : World) (hl : l.length ≤ 30) (hr : Fls w w.heap.size A l) (hg : w.cell? ⟨g, 0, none⟩ = some (.string n)) (hlt : g < w.heap.size) :
    Calls Try.prog 99 #[.slice A l.length c, .func (.func 100) #[] #[.pointer (some ⟨g, 0, none⟩)]] w fun e w' => e = .returned (.int .i64 (plcI l n)) ∧ Below w.heap.size w w' := by
  have eg := enters100
  have HG := Lib.hid hg
  clear hg
  go_enter Try.func99, Try.ntmps99
  go_wp2
  go_loopw [5, 8] (fun _ i wr => ∃ k : Nat, k ≤ l.length ∧ i = .int .i64 k ∧ Below w.heap.size w wr ∧ Hid (∀ (i : Nat) (x : Fl), i < k → l[i]? = some x → x.n ≠ n)) (fun _ i _ => l.length - (intOf i).toNat)
  case atStart => exact ⟨0, Nat.zero_le _, rfl, Below.refl _ _, Lib.hid (fun i x hi _ => absurd hi (Nat.not_lt_zero _))⟩
  case round =>
    obtain ⟨k, hk, rfl, hB, HN⟩ := hrel
    by_cases hlt2 : k < l.length
    · have he : l[k]? = some l[k] := List.getElem?_eq_getElem hlt2
      generalize l[k] = e at he
      obtain ⟨b, off, rfl, hb, c0, c1⟩ := (hr.below hB).at_ he
      have HC := Lib.hid (numberOf1_any e n g wr ((hB.cell (p := ⟨g, 0, none⟩) hlt).trans HG.out) (Nat.lt_of_lt_of_le hlt hB.size))
      have HE := Lib.hid he
      clear he
      by_cases hq : e.n = n
      · have HQ := Lib.hid hq
        clear hq
        go_wp2_with (go_at_fn 100; refine HC.out.mono ?_; rw [decide_eq_true HQ.out]; rintro r w1 ⟨rfl, hb1⟩)
        go_ret
        exact ⟨ret_int (plcI_hit (plc_hit HE.out HQ.out HN.out)).symm, hB.trans (hb1.mono hB.size)⟩
      · have HQ := Lib.hid hq
        clear hq
        go_wp2_with (go_at_fn 100; refine HC.out.mono ?_; rw [decide_eq_false HQ.out]; rintro r w1 ⟨rfl, hb1⟩)
        go_roundw
        case rel =>
          refine ⟨k + 1, by omega, by go_num, hB.trans (hb1.mono hB.size), Lib.hid (fun i x hi hx => ?_)⟩
          by_cases e : i = k
          · subst e; rw [HE.out] at hx; injection hx with hx; subst hx; exact HQ.out
          · exact HN.out i x (by omega) hx
        case measure => simp [intOf]; omega
    · obtain rfl : k = l.length := by omega
      go_wp2
      go_ret
      exact ⟨ret_int (plcI_miss (plc_miss fun i x hx => HN.out i x (List.getElem?_eq_some_iff.1 hx).1 hx)).symm, hB⟩

set_option maxHeartbeats 400000 in
theorem numberOf_any (A : Option Addr) (c : Nat) (l : List Fl) (n : ByteArray) (w : World) (hl : l.length ≤ 30) (hr : Fls w w.heap.size A l) :
    Calls Try.prog 71 #[.slice A l.length c, .string n] w fun e w' => e = .returned (.int .i64 (plcI l n)) ∧ Below w.heap.size w w' := by
  have hB1 : Below w.heap.size w (w.alloc (.cells #[.string n] 9)) := below1 _ _
  have hcell : (w.alloc (.cells #[.string n] 9)).cell? ⟨w.heap.size, 0, none⟩ = some (.string n) := by rw [Lib.cell_of_heap (heap_alloc_new w _)]; rfl
  have HC := Lib.hid (indexF_any A c l n w.heap.size (w.alloc (.cells #[.string n] 9)) hl (hr.after hB1) hcell (by simp))
  clear hcell hr
  go_enter Try.func71, Try.ntmps71
  go_wp2_with fail
  refine HC.out.mono ?_
  rintro e w1 ⟨rfl, hb1⟩
  go_wp2
  go_ret
  exact ⟨rfl, hB1.trans (hb1.mono hB1.size)⟩

set_option maxHeartbeats 1000000 in
theorem place_any (A : Option Addr) (c : Nat) (l : List Fl) (n : ByteArray) (w : World) (hl : l.length ≤ 30) (hr : Fls w w.heap.size A l) :
    Calls Try.prog 37 #[.slice A l.length c, .string n] w fun e w' => e = .returned (.int .i64 (plcI l n)) ∧ w = w' := by
  go_enter Try.func37, Try.ntmps37
  go_wp2
  go_loopw [5] (fun i wr => ∃ k : Nat, k ≤ l.length ∧ i = .int .i64 k ∧ w = wr ∧ Hid (∀ (i : Nat) (x : Fl), i < k → l[i]? = some x → x.n ≠ n)) (fun i _ => l.length - (intOf i).toNat)
  case atStart => exact ⟨0, Nat.zero_le _, rfl, rfl, Lib.hid (fun i x hi _ => absurd hi (Nat.not_lt_zero _))⟩
  case round =>
    obtain ⟨k, hk, rfl, rfl, HN⟩ := hrel
    by_cases hlt2 : k < l.length
    · have he : l[k]? = some l[k] := List.getElem?_eq_getElem hlt2
      generalize l[k] = e at he
      obtain ⟨b, off, rfl, hb, c0, c1⟩ := hr.at_ he
      have HE := Lib.hid he
      have hs := str_beq e.n n
      clear he
      by_cases hq : e.n = n
      · rw [decide_eq_true hq] at hs
        have HQ := Lib.hid hq
        clear hq
        go_wp2
        go_ret
        exact ⟨ret_int (plcI_hit (plc_hit HE.out HQ.out HN.out)).symm, rfl⟩
      · rw [decide_eq_false hq] at hs
        have HQ := Lib.hid hq
        clear hq
        go_wp2
        go_roundw
        case rel =>
          refine ⟨k + 1, by omega, by go_num, by first | trivial | rfl, Lib.hid (fun i x hi hx => ?_)⟩
          by_cases e : i = k
          · subst e; rw [HE.out] at hx; injection hx with hx; subst hx; exact HQ.out
          · exact HN.out i x (by omega) hx
        case measure => simp [intOf]; omega
    · obtain rfl : k = l.length := by omega
      go_wp2
      go_ret
      exact ⟨ret_int (plcI_miss (plc_miss fun i x hx => HN.out i x (List.getElem?_eq_some_iff.1 hx).1 hx)).symm, rfl⟩
end Go.Proofs.Ytfkpnfhhmldodaa
