/- Edits: two slices that read as one list are the same. -/
import Derived.Test.YtfkpnfhhmldodaaEditSmall
import Derived.BigQuiet
import Derived.Deep.QuietTactic
import Derived.Laws.StructEq
namespace Go.Proofs.Ytfkpnfhhmldodaa
open Go.RowKit EditMath

theorem same_ed (e : Ed) (w : World) : (binOp .neq 87 (.agg #[.int .i64 e.f, .int .i64 e.t, .string e.s]) (.agg #[.int .i64 e.f, .int .i64 e.t, .string e.s])).run Try.prog w = .ok (.bool false) w := by
  have u3 := Try.underlying3
  have a3 := Try.isAgg3
  have z3 := Try.sizeOf3
  have u9 := Try.underlying9
  have a9 := Try.isAgg9
  have z9 := Try.sizeOf9
  have hS : Try.prog.underlying 87 = some (.struct (Try.prog.fieldsOf 87)) := by kernel_rfl
  have hp : Try.prog.stoodInHeld 87 = false := by kernel_rfl
  rw [run_neq_struct, show (10000 : Nat) = 9999 + 1 from rfl, run_equalIn_agg w 9999 87 _ _ hS hp]
  simp only [Program.fieldsOf, Try.underlying87]
  go_simp

set_option maxHeartbeats 1000000 in
theorem edits_same (A A2 : Option Addr) (c c2 : Nat) (l : List Ed) (w : World) (hl : l.length ≤ 20000) (hr : Eds w w.heap.size A l) (hr2 : Eds w w.heap.size A2 l) :
    Calls Try.prog 26 #[.slice A l.length c, .slice A2 l.length c2] w fun e w' => e = .returned (.bool true) ∧ Below w.heap.size w w' := by
  have hn : (((l.length : Nat) : Int) != l.length) = false := by simp
  have hm : Try.prog.eqGuardType Try.prog.depth 87 = false := by kernel_rfl
  go_enter Try.func26, Try.ntmps26
  go_wp2
  go_loopw [5, 13] (fun _ i wr => ∃ k : Nat, k ≤ l.length ∧ i = .int .i64 (k : Int) ∧ Below w.heap.size w wr) (fun _ i _ => l.length + 1 - (intOf i).toNat)
  case atStart => exact ⟨0, Nat.zero_le _, rfl, Below.refl _ _⟩
  case round =>
    obtain ⟨k, hk, rfl, hB⟩ := hrel
    by_cases hlt : k < l.length
    · have he : l[k]? = some l[k] := List.getElem?_eq_getElem hlt
      generalize l[k] = e at he
      have z1 : (0 : Int) ≤ k := by omega
      have z2 : (k : Int) < l.length := by omega
      obtain ⟨b, off, rfl, hb, c0, c1, c2⟩ := (hr.below hB).at_ he
      obtain ⟨b2, off2, rfl, hb2, d0, d1, d2⟩ := (hr2.below hB).at_ he
      have hs := same_ed e
      clear he hr hr2
      go_wp2
      go_quiet (fail)
      go_wp2
      go_roundw
      case rel => exact ⟨k + 1, by omega, by go_num, below_drewN hB _⟩
      case measure => simp [intOf]; omega
    · obtain rfl : k = l.length := by omega
      go_wp2
      go_ret
      exact ⟨rfl, hB⟩

end Go.Proofs.Ytfkpnfhhmldodaa
