/- The first token of a text, its kind and its size; all tokens of a text. Plain facts, no program. -/
import Derived.Test.YtfmlcddakfbleaaGreatDoorSignWords
import Derived.Lib.Index
namespace Go.Proofs.YtfmlcddakfbleaaGreatDoor
open Go.RowKit SignMath

/-- no end of a line -/
def nl (n : Int) : Bool := decide (n ≠ 10)
/-- System.out.println -/
def pr : List UInt8 := [83, 121, 115, 116, 101, 109, 46, 111, 117, 116, 46, 112, 114, 105, 110, 116, 108, 110]
/-- the signs of one byte -/
def sg : List UInt8 := [123, 125, 40, 41, 91, 93, 59, 44, 46, 61, 60, 43, 45, 42, 33]
def kwl (l : List UInt8) : Bool := kw ⟨l.toArray⟩
theorem kwl_bs (s : ByteArray) : kwl (bs s) = kw s := rfl

/-- the kind of letters and figures -/
def wk (l : List UInt8) : Nat := if kwl l = true then 3 else if wd l = true then 4 else if (num l).isSome = true then 5 else 7
/-- does a letter or a figure stand at a place? -/
def lfAt (l : List UInt8) (k : Nat) : Bool := match l[k]? with | some c => lf (nb c) | none => false

/-- behind a slash -/
def sl (l : List UInt8) : Nat × Nat :=
  if [47, 47].isPrefixOf l = true then (2, rn nl l 0)
  else if [47, 42].isPrefixOf l = true then (if Lib.index (l.drop 2) [42, 47] < 0 then (7, l.length) else (2, (Lib.index (l.drop 2) [42, 47]).toNat + 4))
  else (7, 1)
/-- at a letter or a figure -/
def wo (l : List UInt8) : Nat × Nat :=
  if pr.isPrefixOf l = true ∧ lfAt l 18 = false then (3, 18) else (wk (l.take (rn lf l 0)), rn lf l 0)
/-- at another byte -/
def mk (l : List UInt8) : Nat × Nat :=
  if [38, 38].isPrefixOf l = true then (6, 2) else if sg.contains (l.headD 0) = true then (6, 1) else (7, 1)
/-- the first token of a text that has one: its kind, its size -/
def ft (l : List UInt8) : Nat × Nat :=
  if bk (nb (l.headD 0)) = true then (1, rn bk l 0)
  else if l.headD 0 = 47 then sl l
  else if lf (nb (l.headD 0)) = true then wo l
  else mk l

theorem kws_head : ∀ x ∈ kws, ∃ c r, x.data.toList = c :: r ∧ lt (nb c) = true ∧ x.size ≤ 10 ∧ (x.data.toList.all fun c => lf (nb c)) = true := by
  intro x hx
  simp only [kws, List.mem_cons, List.not_mem_nil, or_false] at hx
  rcases hx with rfl | rfl | rfl | rfl | rfl | rfl | rfl | rfl | rfl | rfl | rfl | rfl | rfl | rfl | rfl | rfl | rfl | rfl <;> exact ⟨_, _, rfl, by decide, by decide, by decide⟩

theorem kwl_mem {l : List UInt8} (h : kwl l = true) : ∃ x ∈ kws, x.data.toList = l := by
  unfold kwl kw at h
  obtain ⟨x, hx, he⟩ := List.any_eq_true.1 h
  exact ⟨x, hx, by rw [of_decide_eq_true he]⟩

theorem kwl_wd {l : List UInt8} (h : kwl l = true) : wd l = true := by
  obtain ⟨x, hx, rfl⟩ := kwl_mem h
  obtain ⟨c, r, he, hc, hz, ha⟩ := kws_head x hx
  have hl : x.data.toList.length ≤ 64 := by have : x.data.toList.length = x.size := by simp
                                            omega
  rw [he] at hl ha ⊢
  unfold wd
  simp only [List.all_cons, Bool.and_eq_true] at ha
  simp [hc, ha.2]
  simpa using hl

theorem wd_fst {c : UInt8} {r : List UInt8} (h : wd (c :: r) = true) : lt (nb c) = true := by
  unfold wd at h; simp at h; exact h.2.1

theorem fg_not_lt {n : Int} (h : fg n = true) : lt n = false := by
  cases hl : lt n with
  | false => rfl
  | true => rw [lt_not_fg hl] at h; cases h

theorem num_fst {c : UInt8} {r : List UInt8} (h : (num (c :: r)).isSome = true) : fg (nb c) = true := by
  unfold num at h
  split at h
  · rename_i hh; have := hh.2.1; unfold fgs at this; simp at this; exact this.1
  · cases h

/-- at a letter: no number -/
theorem wk_lt {c : UInt8} {r : List UInt8} (h : lt (nb c) = true) : wk (c :: r) = if kwl (c :: r) = true then 3 else if wd (c :: r) = true then 4 else 7 := by
  unfold wk
  have : (num (c :: r)).isSome = false := by
    cases hn : (num (c :: r)).isSome with
    | false => rfl
    | true => have := num_fst hn; rw [lt_not_fg h] at this; cases this
  rw [this]; rfl
/-- at a figure: no word -/
theorem wk_fg {c : UInt8} {r : List UInt8} (h : fg (nb c) = true) : wk (c :: r) = if (num (c :: r)).isSome = true then 5 else 7 := by
  unfold wk
  have hw : wd (c :: r) = false := by
    cases hn : wd (c :: r) with
    | false => rfl
    | true => have := wd_fst hn; rw [fg_not_lt h] at this; cases this
  have hk : kwl (c :: r) = false := by
    cases hn : kwl (c :: r) with
    | false => rfl
    | true => rw [kwl_wd hn] at hw; cases hw
  rw [hw, hk]; rfl

/-- a run that begins with a byte of its kind -/
theorem rn_cons {p : Int → Bool} {c : UInt8} {r : List UInt8} (h : p (nb c) = true) : rn p (c :: r) 0 = 1 + rn p r 0 := by
  unfold rn; simp [h]; omega
theorem rn_nil (p : Int → Bool) : rn p [] 0 = 0 := by simp [rn]
theorem rn_no {p : Int → Bool} {c : UInt8} {r : List UInt8} (h : p (nb c) = false) : rn p (c :: r) 0 = 0 := by
  unfold rn; simp [h]

theorem sl_bad {l : List UInt8} (a : [47, 47].isPrefixOf l = false) (b : [47, 42].isPrefixOf l = false) : sl l = (7, 1) := by unfold sl; rw [a, b]; rfl
theorem sl_line {l : List UInt8} (a : [47, 47].isPrefixOf l = true) : sl l = (2, rn nl l 0) := by unfold sl; rw [a]; rfl
theorem not_both {l : List UInt8} (b : [47, 42].isPrefixOf l = true) : [47, 47].isPrefixOf l = false := by
  obtain ⟨r, rfl⟩ := List.isPrefixOf_iff_prefix.1 b
  rfl
theorem sl_open {l : List UInt8} (b : [47, 42].isPrefixOf l = true) (h : Lib.index (l.drop 2) [42, 47] < 0) : sl l = (7, l.length) := by
  unfold sl; rw [if_neg (by rw [not_both b]; decide), if_pos b, if_pos h]
theorem sl_star {l : List UInt8} (b : [47, 42].isPrefixOf l = true) (h : 0 ≤ Lib.index (l.drop 2) [42, 47]) : sl l = (2, (Lib.index (l.drop 2) [42, 47]).toNat + 4) := by
  unfold sl; rw [if_neg (by rw [not_both b]; decide), if_pos b, if_neg (by omega)]

/-- the end of a list of bytes ahead of which a text stands -/
theorem pre_len {p l : List UInt8} (h : p.isPrefixOf l = true) : p.length ≤ l.length := (List.isPrefixOf_iff_prefix.1 h).length_le

theorem index_lt {s : List UInt8} (h : 0 ≤ Lib.index s [42, 47]) : (Lib.index s [42, 47]).toNat + 2 ≤ s.length := by
  induction s with
  | nil => simp [Lib.index] at h
  | cons b l ih =>
    unfold Lib.index at h ⊢
    split
    · rename_i hp
      have := pre_len hp
      simpa using this
    · rename_i hp
      rw [if_neg hp] at h
      split
      · rename_i h1; rw [if_pos h1] at h; omega
      · rename_i h1
        rw [if_neg h1] at h
        have h2 := Lib.index_ge l [42, 47]
        have h3 : Lib.index l [42, 47] ≠ -1 := by simpa using h1
        have := ih (by omega)
        simp
        omega

/-- a token has a byte, and ends within its text -/
theorem ft_size {l : List UInt8} (h : l ≠ []) : 1 ≤ (ft l).2 ∧ (ft l).2 ≤ l.length := by
  obtain ⟨c, r, rfl⟩ := List.exists_cons_of_ne_nil h
  have h1 : 1 ≤ (c :: r).length := by simp
  unfold ft
  split
  · rename_i hb
    have := rn_le bk (c :: r) 0 (Nat.zero_le _)
    have h2 := rn_cons (p := bk) (c := c) (r := r) (by simpa using hb)
    dsimp only; omega
  · split
    · rename_i hs
      have hs : c = 47 := by simpa using hs
      unfold sl
      split
      · have := rn_le nl (c :: r) 0 (Nat.zero_le _)
        have h2 := rn_cons (p := nl) (c := c) (r := r) (by rw [hs]; decide)
        dsimp only; omega
      · split
        · rename_i hp
          split
          · dsimp only; omega
          · rename_i hi
            have := index_lt (s := (c :: r).drop 2) (by omega)
            have h2 := pre_len hp
            simp only [List.length_drop, List.length_cons, List.length_nil] at this h2 ⊢
            omega
        · dsimp only; omega
    · split
      · rename_i hl
        unfold wo
        split
        · rename_i hp
          have := pre_len hp.1
          have e : pr.length = 18 := rfl
          dsimp only; omega
        · have := rn_le lf (c :: r) 0 (Nat.zero_le _)
          have h2 := rn_cons (p := lf) (c := c) (r := r) (by simpa using hl)
          dsimp only; omega
      · unfold mk
        split
        · rename_i hp
          have := pre_len hp
          simpa using this
        · split <;> (dsimp only; omega)

theorem wk_range (l : List UInt8) : 3 ≤ wk l ∧ wk l ≤ 7 := by
  unfold wk; (repeat' split) <;> omega
theorem ft_kind (l : List UInt8) : 1 ≤ (ft l).1 ∧ (ft l).1 ≤ 7 := by
  have := wk_range (l.take (rn lf l 0))
  unfold ft sl wo mk
  (repeat' split) <;> simp <;> omega

/-- a token, by its kind and its places -/
structure Tk where
  k : Nat
  a : Nat
  z : Nat
deriving DecidableEq

/-- the tokens from a place on, at most n -/
def tks (l : List UInt8) : Nat → Nat → List Tk
  | 0, _ => []
  | n + 1, at_ => if at_ < l.length then ⟨(ft (l.drop at_)).1, at_, at_ + (ft (l.drop at_)).2⟩ :: tks l n (at_ + (ft (l.drop at_)).2) else []
/-- the tokens of a text, from a place on -/
def tk (l : List UInt8) (at_ : Nat) : List Tk := tks l (l.length - at_) at_

theorem tks_more (l : List UInt8) : ∀ (n m at_ : Nat), l.length - at_ ≤ n → l.length - at_ ≤ m → tks l n at_ = tks l m at_ := by
  intro n
  induction n with
  | zero =>
    intro m at_ h _
    cases m with
    | zero => rfl
    | succ m => simp only [tks]; rw [if_neg (by omega)]
  | succ n ih =>
    intro m at_ h h2
    cases m with
    | zero => simp only [tks]; rw [if_neg (by omega)]
    | succ m =>
      simp only [tks]
      split
      · rename_i hl
        have hz := ft_size (l := l.drop at_) (by intro e; have := congrArg List.length e; simp at this; omega)
        rw [ih m _ (by omega) (by omega)]
      · rfl

theorem tk_end {l : List UInt8} {at_ : Nat} (h : l.length ≤ at_) : tk l at_ = [] := by
  unfold tk; rw [show l.length - at_ = 0 by omega]; rfl
theorem tk_step {l : List UInt8} {at_ : Nat} (h : at_ < l.length) : tk l at_ = ⟨(ft (l.drop at_)).1, at_, at_ + (ft (l.drop at_)).2⟩ :: tk l (at_ + (ft (l.drop at_)).2) := by
  unfold tk
  obtain ⟨n, hn⟩ : ∃ n, l.length - at_ = n + 1 := ⟨l.length - at_ - 1, by omega⟩
  rw [hn]
  simp only [tks]
  rw [if_pos h]
  have hz := ft_size (l := l.drop at_) (by intro e; have := congrArg List.length e; simp at this; omega)
  rw [tks_more l n _ _ (by omega) (Nat.le_refl _)]
end Go.Proofs.YtfmlcddakfbleaaGreatDoor
