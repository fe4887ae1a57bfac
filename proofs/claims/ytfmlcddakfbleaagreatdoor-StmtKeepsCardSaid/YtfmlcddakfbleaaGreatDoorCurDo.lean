/- A cursor's calls that change it. -/
import Derived.Test.YtfmlcddakfbleaaGreatDoorCurPeek
namespace Go.Proofs.YtfmlcddakfbleaaGreatDoor
open Go.RowKit SignMath TreeMath

/-- only block b is changed, and new ones are laid -/
abbrev Of (b : Nat) (W W' : World) : Prop := Off (· = b) W W'
theorem of_below {b : Nat} {W W' : World} (h : Below W.heap.size W W') : Of b W W' := Off.of_below h
theorem of_set (b i : Nat) (W : World) (v : Value) : Of b W (W.setCell ⟨b, i, none⟩ v) := Off.setCell (X := (· = b)) (p := ⟨b, i, none⟩) rfl W v
/-- the cursor behind a failure -/
def Cu.fail (C : Cu) (e : Int) : Cu := if C.f = 0 then { C with f := if 1 ≤ e ∧ e ≤ 15 then e else 2, p := (C.at : Nat) } else C
/-- one construct more, or a failure -/
def Cu.down (C : Cu) : Cu × Bool := if C.f = 0 then (if 200 ≤ C.d then (C.fail 3, false) else ({ C with d := C.d + 1 }, true)) else (C, false)
def Cu.up (C : Cu) : Cu := { C with d := C.d - 1 }
theorem Cu.fail_L (C : Cu) (e : Int) : (C.fail e).L = C.L := by unfold Cu.fail; split <;> rfl
theorem Cu.Ok.fail {C : Cu} (h : C.Ok) (e : Int) : (C.fail e).Ok := by
  unfold Cu.fail
  split
  · have := h.at_le
    have h2 := h.sz
    refine ⟨h.n, h.sz, h.len, h.tok, h.ord, h.d, ?_, ?_⟩
    · simp only
      split <;> omega
    · simp only
      omega
  · exact h
theorem Cu.Ok.down {C : Cu} (h : C.Ok) : C.down.1.Ok := by
  unfold Cu.down
  split
  · split
    · exact h.fail 3
    · exact ⟨h.n, h.sz, h.len, h.tok, h.ord, by simp only; omega, h.f, h.p⟩
  · exact h
theorem Cu.Ok.up {C : Cu} (h : C.Ok) : C.up.Ok := ⟨h.n, h.sz, h.len, h.tok, h.ord, by have := h.d; show C.d - 1 ≤ 1000; omega, h.f, h.p⟩

section
variable {b : Nat} {A : Option Addr} {c : Nat} {C : Cu} {W : World}
/-- what a call leaves behind -/
def CuV (b : Nat) (A : Option Addr) (c : Nat) (C' : Cu) (W : World) (P : Ending → Prop) (e : Ending) (W' : World) : Prop := P e ∧ CuM b A c C' W' ∧ Of b W W'

set_option maxHeartbeats 2000000 in
theorem fail_any (n : Int) (_hn : rng n) (h : CuM b A c C W) (hk : C.Ok) : Calls Tryz.prog 26 #[.pointer (some ⟨b, 0, none⟩), .int .i64 n] W (CuV b A c (C.fail n) W fun e => ∃ v, e = .returned v) := by
  obtain ⟨c0, c1, c2, c3, c4, c5⟩ := h.cells
  have HA := Lib.hid (at_any h hk)
  have HM := Lib.hid h
  unfold Cu.fail CuV
  unfold Rd at HA
  by_cases hf : C.f = 0
  · rw [if_pos hf]
    rw [hf] at c4
    have hend : ∀ (m : Int) (w1 : World), (if 1 ≤ n ∧ n ≤ 15 then n else 2) = m → Below W.heap.size W w1 → CuM b A c { C with f := m, p := (C.at : Nat) } ((w1.setCell ⟨b, 5, none⟩ (.int .i64 (C.at : Nat))).setCell ⟨b, 4, none⟩ (.int .i64 m)) ∧ Of b W ((w1.setCell ⟨b, 5, none⟩ (.int .i64 (C.at : Nat))).setCell ⟨b, 4, none⟩ (.int .i64 m)) := fun m w1 _ hb => by
      have h1 := (HM.out.below hb).set (C' := { C with p := (C.at : Nat) }) 5 (.int .i64 (C.at : Nat)) rfl rfl
      have h2 := h1.set (C' := { C with f := m, p := (C.at : Nat) }) 4 (.int .i64 m) rfl rfl
      exact ⟨h2, (of_below hb).trans ((of_set b 5 _ _).trans (of_set b 4 _ _))⟩
    have HE := Lib.hid hend
    clear hend h hk hf
    generalize C.at = q at HA HE
    by_cases h1 : n < 1
    · have hm : (if 1 ≤ n ∧ n ≤ 15 then n else 2) = 2 := if_neg (fun hh => by omega)
      have HMM := Lib.hid hm
      clear hm
      go_enter Tryz.func26, Tryz.ntmps26
      go_wp2_with fail
      refine HA.out.mono ?_
      rintro e w1 ⟨rfl, hb⟩
      have hm1 := HM.out.below hb
      obtain ⟨d0, d1, d2, d3, d4, d5⟩ := hm1.cells
      have fr := hm1.frz
      have HH := Lib.hid (HE.out 2 w1 HMM.out hb)
      clear hb hm1 c0 c1 c2 c3 c4 c5
      go_wp2
      refine bodyPost_end (results_none rfl _ _ _) rfl ?_
      exact ⟨⟨_, rfl⟩, HH.out⟩
    · by_cases h2 : 15 < n
      · have hm : (if 1 ≤ n ∧ n ≤ 15 then n else 2) = 2 := if_neg (fun hh => by omega)
        have HMM := Lib.hid hm
        clear hm
        go_enter Tryz.func26, Tryz.ntmps26
        go_wp2_with fail
        refine HA.out.mono ?_
        rintro e w1 ⟨rfl, hb⟩
        have hm1 := HM.out.below hb
        obtain ⟨d0, d1, d2, d3, d4, d5⟩ := hm1.cells
        have fr := hm1.frz
        have HH := Lib.hid (HE.out 2 w1 HMM.out hb)
        clear hb hm1 c0 c1 c2 c3 c4 c5
        go_wp2
        refine bodyPost_end (results_none rfl _ _ _) rfl ?_
        exact ⟨⟨_, rfl⟩, HH.out⟩
      · have hm : (if 1 ≤ n ∧ n ≤ 15 then n else 2) = n := if_pos ⟨by omega, by omega⟩
        have HMM := Lib.hid hm
        clear hm
        go_enter Tryz.func26, Tryz.ntmps26
        go_wp2_with fail
        refine HA.out.mono ?_
        rintro e w1 ⟨rfl, hb⟩
        have hm1 := HM.out.below hb
        obtain ⟨d0, d1, d2, d3, d4, d5⟩ := hm1.cells
        have fr := hm1.frz
        have HH := Lib.hid (HE.out n w1 HMM.out hb)
        clear hb hm1 c0 c1 c2 c3 c4 c5
        go_wp2
        refine bodyPost_end (results_none rfl _ _ _) rfl ?_
        exact ⟨⟨_, rfl⟩, HH.out⟩
  · rw [if_neg hf]
    have hb : (C.f == 0) = false := by rw [beq_eq_false_iff_ne]; exact hf
    have hb2 : (C.f != 0) = true := by simp [bne, hb]
    clear h hk hf HA
    go_enter Tryz.func26, Tryz.ntmps26
    go_wp2
    refine bodyPost_ret (results_none rfl _ _ _) rfl ?_
    exact ⟨⟨_, rfl⟩, HM.out, Off.refl _ _⟩

set_option maxHeartbeats 2000000 in
theorem down_any (h : CuM b A c C W) (hk : C.Ok) : Calls Tryz.prog 101 #[.pointer (some ⟨b, 0, none⟩)] W (CuV b A c C.down.1 W fun e => e = .returned (.bool C.down.2)) := by
  obtain ⟨c0, c1, c2, c3, c4, c5⟩ := h.cells
  have fr := h.frz
  have HF := Lib.hid (fail_any 3 ⟨by omega, by omega⟩ h hk)
  have HM := Lib.hid h
  have hd := hk.d
  unfold Cu.down
  unfold CuV at HF ⊢
  by_cases hf : C.f = 0
  · rw [if_pos hf]
    rw [hf] at c4
    by_cases h2 : 200 ≤ C.d
    · rw [if_pos h2]
      have z1 : (200 : Int) ≤ (C.d : Nat) := by omega
      clear h hk hf h2 hd
      go_enter Tryz.func101, Tryz.ntmps101
      go_wp2_with fail
      refine HF.out.mono ?_
      rintro e w1 ⟨⟨v, rfl⟩, hm, ho⟩
      have HH := Lib.hid (And.intro hm ho)
      clear hm ho c0 c1 c2 c3 c4 c5
      go_wp2
      go_ret
      exact ⟨rfl, HH.out⟩
    · rw [if_neg h2]
      have z1 : ¬ ((200 : Int) ≤ (C.d : Nat)) := by omega
      have z2 : ((C.d : Nat) : Int) ≤ 1000 := by omega
      have h1 := h.set (C' := { C with d := C.d + 1 }) 3 (.int .i64 ((C.d + 1 : Nat))) rfl rfl
      have HH := Lib.hid (And.intro h1 (of_set b 3 W (.int .i64 ((C.d + 1 : Nat)))))
      rw [Int.natCast_add, Int.natCast_one] at HH
      clear h hk hf h1 h2 hd HF
      go_enter Tryz.func101, Tryz.ntmps101
      go_wp2
      go_ret
      exact ⟨rfl, HH.out⟩
  · rw [if_neg hf]
    have hb : (C.f == 0) = false := by rw [beq_eq_false_iff_ne]; exact hf
    have hb2 : (C.f != 0) = true := by simp [bne, hb]
    clear h hk hf HF
    go_enter Tryz.func101, Tryz.ntmps101
    go_wp2
    go_ret
    exact ⟨rfl, HM.out, Off.refl _ _⟩

set_option maxHeartbeats 2000000 in
theorem up_any (h : CuM b A c C W) (hk : C.Ok) : Calls Tryz.prog 102 #[.pointer (some ⟨b, 0, none⟩)] W (CuV b A c C.up W fun e => ∃ v, e = .returned v) := by
  obtain ⟨c0, c1, c2, c3, c4, c5⟩ := h.cells
  have fr := h.frz
  have hd := hk.d
  have HM := Lib.hid h
  unfold Cu.up CuV
  by_cases h2 : C.d = 0
  · rw [h2] at c3
    have HE : Hid (({ C with d := C.d - 1 } : Cu) = C) := Lib.hid (by rw [h2]; cases C; simp only at h2; subst h2; rfl)
    clear h hk h2 hd
    go_enter Tryz.func102, Tryz.ntmps102
    go_wp2
    refine bodyPost_end (results_none rfl _ _ _) rfl ?_
    rw [HE.out]
    exact ⟨⟨_, rfl⟩, HM.out, Off.refl _ _⟩
  · have z1 : (0 : Int) < (C.d : Nat) := by omega
    have z2 : ((C.d : Nat) : Int) ≤ 1000 := by omega
    have h1 := h.set (C' := { C with d := C.d - 1 }) 3 (.int .i64 ((C.d - 1 : Nat))) rfl rfl
    have HH := Lib.hid (And.intro h1 (of_set b 3 W (.int .i64 ((C.d - 1 : Nat)))))
    rw [show ((C.d - 1 : Nat) : Int) = (C.d : Nat) - 1 by omega] at HH
    clear h hk h1 h2 hd
    go_enter Tryz.func102, Tryz.ntmps102
    go_wp2
    refine bodyPost_end (results_none rfl _ _ _) rfl ?_
    exact ⟨⟨_, rfl⟩, HH.out⟩
end
end Go.Proofs.YtfmlcddakfbleaaGreatDoor
