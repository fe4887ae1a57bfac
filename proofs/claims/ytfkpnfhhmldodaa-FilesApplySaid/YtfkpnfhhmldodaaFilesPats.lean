/- Two slices of patches that read as one plain list are the same. -/
import Derived.Test.YtfkpnfhhmldodaaFilesDiffs
import Derived.Test.YtfkpnfhhmldodaaEditSame
namespace Go.Proofs.Ytfkpnfhhmldodaa
open Go.RowKit EditMath FilesMath

set_option maxRecDepth 100000 in
set_option maxHeartbeats 2000000 in
theorem patches_same (A A2 : Option Addr) (c c2 : Nat) (m m2 : List Pt) (w : World) (hl : m.length ≤ 100) (hll : ∀ (i : Nat) (p : Pt), m[i]? = some p → p.l.length ≤ 20000) (hmm : m.map pd = m2.map pd) (hr : Pts w w.heap.size A m) (hr2 : Pts w w.heap.size A2 m2) :
    Calls Try.prog 44 #[.slice A m.length c, .slice A2 m2.length c2] w fun e w' => e = .returned (.bool true) ∧ Below w.heap.size w w' := by
  have hln : m.length = m2.length := by have := congrArg List.length hmm; simpa using this
  have hn : (((m.length : Nat) : Int) != m2.length) = false := by simp [hln]
  have HLL := Lib.hid hll
  have HMM := Lib.hid hmm
  have HLN := Lib.hid hln
  clear hll hmm hln
  go_enter Try.func44, Try.ntmps44
  go_wp2
  go_loopw [5, 13] (fun _ i wr => ∃ k : Nat, k ≤ m.length ∧ i = .int .i64 (k : Int) ∧ Below w.heap.size w wr) (fun _ i _ => m.length + 1 - (intOf i).toNat)
  case atStart => exact ⟨0, Nat.zero_le _, rfl, Below.refl _ _⟩
  case round =>
    obtain ⟨k, hk, rfl, hB⟩ := hrel
    by_cases hlt : k < m.length
    · have hlt2 : k < m2.length := by rw [← HLN.out]; exact hlt
      have he : m[k]? = some m[k] := List.getElem?_eq_getElem hlt
      have hf : m2[k]? = some m2[k] := List.getElem?_eq_getElem hlt2
      generalize m[k] = p at he
      generalize m2[k] = q at hf
      have hpq : pd p = pd q := by
        have h1 : (m.map pd)[k]? = some (pd p) := by rw [List.getElem?_map, he]; rfl
        have h2 : (m2.map pd)[k]? = some (pd q) := by rw [List.getElem?_map, hf]; rfl
        rw [HMM.out, h2] at h1
        injection h1 with h1
        exact h1.symm
      obtain ⟨pn, pA, pc, pl⟩ := p
      obtain ⟨qn, qA, qc, ql⟩ := q
      simp only [pd, Prod.mk.injEq] at hpq
      obtain ⟨rfl, rfl⟩ := hpq
      have z0 : (0 : Int) ≤ k := by omega
      have z1 : (k : Int) < m.length := by omega
      have z2 : (k : Int) < m2.length := by omega
      obtain ⟨b, off, rfl, hb, c0, c1, e1, _, _⟩ := (hr.below hB).at_ he
      obtain ⟨b2, off2, rfl, hb2, d0, d1, e2, _, _⟩ := (hr2.below hB).at_ hf
      simp only at c0 c1 d0 d1 e1 e2
      have hs := str_beq pn pn
      rw [decide_eq_true rfl] at hs
      have hs2 : (pn.toList != pn.toList) = false := by simp
      have HC := fun (W : World) (h : Below wr.heap.size wr W) => Lib.hid (edits_same pA qA pc qc pl W (HLL.out k _ he) ((e1.more hB.size).after h) ((e2.more hB.size).after h))
      clear he hf hr hr2 e1 e2
      go_wp2
      go_still_tail 22, (by kernel_rfl)
      change wpList _ _ _ _ _ wr.drew
      have hdr : Below wr.heap.size wr wr.drew := ⟨rfl, rfl, rfl, Nat.le_refl _, fun _ _ => rfl⟩
      go_wp2_with fail
      refine (HC _ hdr).out.mono ?_
      rintro r w1 ⟨rfl, hb1⟩
      go_wp2
      go_roundw
      case rel => exact ⟨k + 1, by omega, by go_num, hB.trans ((hdr.trans hb1).mono hB.size)⟩
      case measure => simp [intOf]; omega
    · obtain rfl : k = m.length := by omega
      go_wp2
      go_ret
      exact ⟨rfl, hB⟩
end Go.Proofs.Ytfkpnfhhmldodaa
