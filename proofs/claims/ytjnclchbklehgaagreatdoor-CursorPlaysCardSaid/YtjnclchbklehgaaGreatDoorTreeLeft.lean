/- The document's answer on which trees are right. -/
import Derived.Test.YtjnclchbklehgaaGreatDoorMzBox
import Derived.LoopN
namespace Go.Proofs.YtjnclchbklehgaaGreatDoor
open Go.RowKit TreeMath

/-- what left answers -/
def lfv (T : Tr) (m : Int) : Int := if rgt T = true ∧ (cn T : Int) ≤ m then m - cn T else -1
/-- the same of a list -/
def lfl (l : List Tr) (m : Int) : Int := if l.all rgt = true ∧ ((l.map cn).sum : Int) ≤ m then m - ((l.map cn).sum : Nat) else -1

theorem lfl_snoc (l : List Tr) (x : Tr) (m : Int) (_hm : 0 ≤ m) (h : 0 ≤ lfl l m) : lfl (l ++ [x]) m = lfv x (lfl l m) := by
  unfold lfl at *
  by_cases h1 : l.all rgt = true ∧ ((l.map cn).sum : Int) ≤ m
  · rw [if_pos h1]
    unfold lfv
    simp only [List.all_append, List.map_append, List.sum_append, List.all_cons, List.all_nil, Bool.and_true, List.map_cons, List.map_nil, List.sum_cons, List.sum_nil, Nat.add_zero, Bool.and_eq_true]
    by_cases h2 : rgt x = true ∧ (cn x : Int) ≤ m - ((l.map cn).sum : Nat)
    · rw [if_pos h2, if_pos ⟨⟨h1.1, h2.1⟩, by omega⟩]; omega
    · rw [if_neg h2, if_neg (fun h3 => h2 ⟨h3.1.2, by omega⟩)]
  · rw [if_neg h1] at h; omega
theorem lfl_stop (l k : List Tr) (m : Int) (h : lfl l m < 0) : lfl (l ++ k) m = -1 := by
  unfold lfl at *
  by_cases h1 : l.all rgt = true ∧ ((l.map cn).sum : Int) ≤ m
  · rw [if_pos h1] at h; omega
  · rw [if_neg]
    rintro ⟨h2, h3⟩
    rw [List.all_append, Bool.and_eq_true] at h2
    rw [List.map_append, List.sum_append] at h3
    exact h1 ⟨h2.1, by omega⟩
theorem lfv_eq (T : Tr) (m : Int) (hs : snd T = true) (_hm : 1 ≤ m) : lfv T m = lfl T.kids (m - 1) := by
  unfold lfv lfl
  rw [rgt_eq, hs, Bool.true_and, cn_eq]
  by_cases h : T.kids.all rgt = true ∧ (((T.kids.map cn).sum : Nat) : Int) ≤ m - 1
  · rw [if_pos h, if_pos ⟨h.1, by omega⟩]; omega
  · rw [if_neg h, if_neg (fun h3 => h ⟨h3.1, by omega⟩)]
theorem lfv_bad (T : Tr) (m : Int) (hs : snd T = false) : lfv T m = -1 := by
  unfold lfv
  rw [rgt_eq, hs]
  simp
theorem lfv_none (T : Tr) (m : Int) (hm : m < 1) : lfv T m = -1 := by
  unfold lfv
  rw [if_neg]
  rintro ⟨_, h⟩
  rw [cn_eq] at h
  omega
theorem lfv_le (T : Tr) (m : Int) : -1 ≤ lfv T m ∧ (0 ≤ m → lfv T m ≤ m) := by unfold lfv; split <;> omega
theorem lfl_le (l : List Tr) (m : Int) : -1 ≤ lfl l m ∧ (0 ≤ m → lfl l m ≤ m) := by unfold lfl; split <;> omega
theorem snd_of (T : Tr) : snd T = (decide (1 ≤ T.k) && decide (T.k ≤ 32) && (if T.k = 1 then decide (T.t.size ≠ 0) && decide (0 ≤ T.a) && decide (T.kids.length = 0) else decide (T.t.size = 0) && decide (T.g.size = 0) && decide (T.a = 0))) := by
  unfold snd
  by_cases h : T.k = 1
  · simp [h]
  · simp only [h, if_false]
    by_cases h1 : 1 < T.k
    · simp [h1, show 1 ≤ T.k by omega]
      cases decide (T.k ≤ 32) <;> cases decide (T.g = ByteArray.empty) <;> cases decide (T.t = ByteArray.empty) <;> simp
    · simp [h1, show ¬ 1 ≤ T.k by omega]















































































































end Go.Proofs.YtjnclchbklehgaaGreatDoor
