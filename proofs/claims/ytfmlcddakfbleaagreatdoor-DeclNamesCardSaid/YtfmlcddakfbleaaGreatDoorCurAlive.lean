/- The chapter's example: the cursor through a = 1. -/
import Derived.Test.YtfmlcddakfbleaaGreatDoorMzCuB
namespace Go.Proofs.YtfmlcddakfbleaaGreatDoor
open Go.RowKit SignMath TreeMath

theorem of_low {n b : Nat} {W W' : World} (h : Of b W W') (hn : n ≤ b) (hs : n ≤ W.heap.size) : Below n W W' :=
  ⟨h.os, h.tape, h.output, h.size, fun k hk => h.block k (by omega) (by show ¬ k = b; omega)⟩

def ca0 : Cu := ⟨⟨#[97, 32, 61, 32, 49]⟩, [⟨4, 0, 1⟩, ⟨6, 2, 3⟩, ⟨5, 4, 5⟩], 0, 0, 0, 0⟩
def xa1 : Tr := ⟨1, ⟨#[]⟩, ⟨#[97]⟩, 0, none, 0, []⟩
def xa2 : Tr := ⟨1, ⟨#[32]⟩, ⟨#[61]⟩, 2, none, 0, []⟩
def xa3 : Tr := ⟨1, ⟨#[32]⟩, ⟨#[49]⟩, 4, none, 0, []⟩
theorem ca0_toks : tk [97, 32, 61, 32, 49] 0 = [⟨4, 0, 1⟩, ⟨1, 1, 2⟩, ⟨6, 2, 3⟩, ⟨1, 3, 4⟩, ⟨5, 4, 5⟩] := by decide +kernel
theorem ca0_is : cu0 ⟨#[97, 32, 61, 32, 49]⟩ = ca0 := by
  unfold cu0
  rw [show tk (bs ⟨#[97, 32, 61, 32, 49]⟩) 0 = _ from ca0_toks]
  rfl
theorem ca1_is : ca0.take (ca0.anyb 4) = ({ ca0 with n := 1 }, xa1) := by kernel_rfl
theorem ca2_is : ({ ca0 with n := 1 } : Cu).take (({ ca0 with n := 1 } : Cu).isb 0 ⟨#[61]⟩) = ({ ca0 with n := 2 }, xa2) := by kernel_rfl
theorem ca3_is : ({ ca0 with n := 2 } : Cu).take (({ ca0 with n := 2 } : Cu).anyb 5) = ({ ca0 with n := 3 }, xa3) := by kernel_rfl

/-- New of a small clean text -/
theorem new_small (s : ByteArray) (C : Cu) (hs : s.size ≤ 4000) (hb : bad (tk (bs s) 0) = none) (hC : cu0 s = C) (w : World) (hL : LaidX w) :
    Calls Tryz.prog 22 #[.string s] w fun e w' => ∃ b A c, e = .returned (.tuple #[.pointer (some ⟨b, 0, none⟩), .int .i64 0, .nilIface]) ∧ w.heap.size ≤ b ∧ CuM b A c C w' ∧ Below w.heap.size w w' := by
  have h := new_any s w hL
  unfold NewV at h
  simp only [if_neg (show ¬ 4000 < s.size by omega), hb, hC] at h
  exact h





















































































end Go.Proofs.YtfmlcddakfbleaaGreatDoor
