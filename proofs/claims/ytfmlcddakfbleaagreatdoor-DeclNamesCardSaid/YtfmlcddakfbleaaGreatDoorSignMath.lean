/- Plain facts on bytes, words and numbers: which bytes are letters, figures and blanks, where bytes of a kind end, which lists are words and numbers. No program. -/
import Derived.Lib.AtoiAllCases
import Derived.Lib.ItoaMem
namespace Go.Proofs.YtfmlcddakfbleaaGreatDoor.SignMath
open Go.Lib

def lt (n : Int) : Bool := decide (97 ≤ n ∧ n ≤ 122 ∨ 65 ≤ n ∧ n ≤ 90 ∨ n = 95)
def fg (n : Int) : Bool := decide (48 ≤ n ∧ n ≤ 57)
def bk (n : Int) : Bool := decide (n = 9 ∨ n = 10 ∨ n = 13 ∨ n = 32)
def lf (n : Int) : Bool := lt n || fg n

/-- a byte's number -/
def nb (c : UInt8) : Int := (c.toNat : Int)

/-- where the bytes from k on end for which p holds -/
def rn (p : Int → Bool) (l : List UInt8) (k : Nat) : Nat := k + ((l.drop k).takeWhile fun c => p (nb c)).length

theorem rn_end (p : Int → Bool) (l : List UInt8) (k : Nat) (h : l.length ≤ k) : rn p l k = k := by
  unfold rn; rw [List.drop_eq_nil_of_le h]; rfl
theorem rn_stop (p : Int → Bool) (l : List UInt8) (k : Nat) (h : k < l.length) (hp : p (nb l[k]) = false) : rn p l k = k := by
  unfold rn; rw [List.drop_eq_getElem_cons h, List.takeWhile_cons]; simp [hp]
theorem rn_step (p : Int → Bool) (l : List UInt8) (k : Nat) (h : k < l.length) (hp : p (nb l[k]) = true) : rn p l k = rn p l (k + 1) := by
  unfold rn
  rw [List.drop_eq_getElem_cons h, List.takeWhile_cons, if_pos hp, List.length_cons]; omega
theorem rn_le (p : Int → Bool) (l : List UInt8) (k : Nat) (h : k ≤ l.length) : k ≤ rn p l k ∧ rn p l k ≤ l.length := by
  unfold rn
  have := (List.takeWhile_prefix (fun c => p (nb c)) (l := l.drop k)).length_le
  rw [List.length_drop] at this
  omega
theorem takeWhile_all {p : UInt8 → Bool} : ∀ (l : List UInt8), (l.takeWhile p).length = l.length ↔ l.all p = true
  | [] => by simp
  | c :: r => by
    rw [List.takeWhile_cons]
    by_cases h : p c = true
    · rw [if_pos h]; simp [h]; simpa using takeWhile_all r
    · rw [if_neg h]; simp [h]
theorem rn_all (p : Int → Bool) (l : List UInt8) : decide (rn p l 0 = l.length) = l.all fun c => p (nb c) := by
  unfold rn
  rw [List.drop_zero, Nat.zero_add, Bool.eq_iff_iff, decide_eq_true_iff]
  exact takeWhile_all l

/-- a word -/
def wd (l : List UInt8) : Bool := decide (l.length ≤ 64) && (match l with | [] => false | c :: r => lt (nb c) && r.all fun c => lf (nb c))

theorem lf_of_lt {n : Int} (h : lt n = true) : lf n = true := by unfold lf; rw [h]; rfl
theorem lt_not_fg {n : Int} (h : lt n = true) : fg n = false := by
  unfold lt at h; unfold fg; simp at h ⊢; omega

theorem wd_nil : wd [] = false := by simp [wd]
theorem wd_long {l : List UInt8} (h : 64 < l.length) : wd l = false := by unfold wd; rw [decide_eq_false (by omega)]; rfl
theorem wd_head {c : UInt8} {r : List UInt8} (h : lt (nb c) = false) : wd (c :: r) = false := by simp [wd, h]
theorem wd_run {c : UInt8} {r : List UInt8} (h : lt (nb c) = true) (hl : (c :: r).length ≤ 64) : wd (c :: r) = decide (rn lf (c :: r) 0 = (c :: r).length) := by
  rw [rn_all]; simp only [wd, h, List.all_cons, lf_of_lt h, decide_eq_true hl, Bool.true_and]

/-- a word's byte at place i -/
def wb (n : Int) (i : Nat) : Bool := lt n || (fg n && decide (0 < i))
theorem wd_all (l : List UInt8) : wd l = (decide (0 < l.length ∧ l.length ≤ 64) && decide (∀ (i : Nat) (h : i < l.length), wb (nb l[i]) i = true)) := by
  rw [Bool.eq_iff_iff]
  cases l with
  | nil => simp [wd]
  | cons c r =>
    simp only [wd, Bool.and_eq_true, decide_eq_true_iff, List.all_eq_true, List.length_cons]
    refine ⟨fun ⟨h1, h2, h3⟩ => ⟨⟨by omega, h1⟩, fun i hi => ?_⟩, fun ⟨⟨_, h1⟩, h2⟩ => ⟨h1, ?_, fun x hx => ?_⟩⟩
    · cases i with
      | zero => simp [wb, h2]
      | succ i =>
        have := h3 _ (List.getElem_mem (by simpa using hi : i < r.length))
        simp only [List.getElem_cons_succ]
        unfold lf at this; unfold wb; simpa using this
    · have := h2 0 (by omega); simpa [wb] using this
    · obtain ⟨i, hi, rfl⟩ := List.getElem_of_mem hx
      have := h2 (i + 1) (by omega)
      simp only [List.getElem_cons_succ] at this
      unfold wb at this; unfold lf; simpa using this

/-- a word with a byte more -/
theorem wd_snoc {l : List UInt8} (c : UInt8) (h : wd l = true) : wd (l ++ [c]) = (decide (l.length < 64) && (lt (nb c) || fg (nb c))) := by
  cases l with
  | nil => simp [wd] at h
  | cons a r =>
    have h' := h
    simp only [wd, Bool.and_eq_true, decide_eq_true_iff] at h'
    obtain ⟨h1, h2, h3⟩ := h'
    simp only [List.length_cons] at h1
    simp only [wd, List.cons_append, List.all_append, h2, h3, List.all_cons, List.all_nil, Bool.true_and, Bool.and_true, List.length_cons, List.length_append, List.length_nil]
    congr 1

/-- a number's value -/
def vl (l : List UInt8) : Nat := l.foldl (fun a c => a * 10 + (c.toNat - 48)) 0
def fgs (l : List UInt8) : Bool := l.all fun c => fg (nb c)
/-- no number: empty, too long, or a needless nought ahead -/
def nought (l : List UInt8) : Bool := decide (l.length = 0) || decide (10 < l.length) || (decide (1 < l.length) && decide (l.head? = some 48))
def num (l : List UInt8) : Option Nat := if nought l = false ∧ fgs l = true ∧ vl l ≤ 2147483647 then some (vl l) else none

theorem vl_snoc (l : List UInt8) (c : UInt8) : vl (l ++ [c]) = vl l * 10 + (c.toNat - 48) := by unfold vl; rw [List.foldl_append]; rfl
theorem fgs_snoc (l : List UInt8) (c : UInt8) : fgs (l ++ [c]) = (fgs l && fg (nb c)) := by unfold fgs; rw [List.all_append]; simp
theorem fg_iff (c : UInt8) : fg (nb c) = true ↔ 48 ≤ c.toNat ∧ c.toNat ≤ 57 := by unfold fg nb; rw [decide_eq_true_iff]; omega
theorem fg_digit {d : Nat} (h : d < 10) : fg (nb (UInt8.ofNat (48 + d))) = true ∧ (UInt8.ofNat (48 + d)).toNat - 48 = d := by
  rw [fg_iff]
  have : (UInt8.ofNat (48 + d)).toNat = 48 + d := by simp; omega
  omega
theorem digit_back (c : UInt8) (h : fg (nb c) = true) : UInt8.ofNat (48 + (c.toNat - 48)) = c := by
  rw [fg_iff] at h
  apply UInt8.toNat_inj.1
  simp; omega
theorem ind_snoc {motive : List UInt8 → Prop} (h0 : motive []) (h1 : ∀ l c, motive l → motive (l ++ [c])) (l : List UInt8) : motive l := by
  suffices h : ∀ r : List UInt8, motive r.reverse by simpa using h l.reverse
  intro r
  induction r with
  | nil => exact h0
  | cons c r ih => rw [List.reverse_cons]; exact h1 _ _ ih

theorem vl_dec (u : Nat) : vl (decDigits u) = u ∧ fgs (decDigits u) = true ∧ 0 < (decDigits u).length ∧ (10 ≤ u → (decDigits u).head? ≠ some 48) ∧ (u ≠ 0 → (decDigits u).head? ≠ some 48) := by
  induction u using Nat.strongRecOn with
  | _ u ih =>
    by_cases h : u < 10
    · rw [decDigits, dif_pos h]
      obtain ⟨h1, h2⟩ := fg_digit h
      refine ⟨by simp [vl] at h2 ⊢; omega, by simp [fgs] at h1 ⊢; exact h1, by simp, fun h' => by omega, fun h' e => ?_⟩
      simp at e
      have := congrArg UInt8.toNat e
      have e3 : (UInt8.ofNat (48 + u)).toNat = 48 + u := by simp; omega
      simp at this e3
      omega
    · obtain ⟨h1, h2, h3, h4, h5⟩ := ih (u / 10) (by omega)
      obtain ⟨k1, k2⟩ := fg_digit (d := u % 10) (by omega)
      rw [decDigits, dif_neg h]
      have hh : (decDigits (u / 10) ++ [UInt8.ofNat (48 + u % 10)]).head? = (decDigits (u / 10)).head? := by
        cases hc : decDigits (u / 10) with
        | nil => rw [hc] at h3; simp at h3
        | cons a r => rfl
      refine ⟨by rw [vl_snoc, h1, k2]; omega, by rw [fgs_snoc, h2, k1]; rfl, by simp, fun _ => by rw [hh]; exact h5 (by omega), fun _ => by rw [hh]; exact h5 (by omega)⟩

theorem vl_pos : ∀ (l : List UInt8), fgs l = true → l ≠ [] → l.head? ≠ some 48 → 1 ≤ vl l := by
  refine ind_snoc (by simp) ?_
  intro l c ih hf _ hh
  rw [fgs_snoc, Bool.and_eq_true] at hf
  rw [vl_snoc]
  cases l with
  | nil =>
    have := (fg_iff c).1 hf.2
    have hc : c ≠ 48 := fun e => hh (by simp [e])
    have : c.toNat ≠ 48 := fun e => hc (UInt8.toNat_inj.1 e)
    have e0 : vl [] = 0 := rfl
    omega
  | cons a r =>
    have := ih hf.1 (by simp) (by simpa using hh)
    omega

/-- a numeral without a needless nought is that of its value -/
theorem dec_vl : ∀ (l : List UInt8), fgs l = true → l ≠ [] → (1 < l.length → l.head? ≠ some 48) → decDigits (vl l) = l := by
  refine ind_snoc (by simp) ?_
  intro l c ih hf _ hh
  rw [fgs_snoc, Bool.and_eq_true] at hf
  have hc := (fg_iff c).1 hf.2
  have hd := digit_back c hf.2
  rw [vl_snoc]
  cases l with
  | nil =>
    have e0 : vl [] = 0 := rfl
    rw [e0, Nat.zero_mul, Nat.zero_add, decDigits, dif_pos (by omega), hd]; rfl
  | cons a r =>
    have h48 : (a :: r).head? ≠ some 48 := by have := hh (by simp); simpa using this
    have hp := vl_pos (a :: r) hf.1 (by simp) h48
    rw [decDigits, dif_neg (by omega), show (vl (a :: r) * 10 + (c.toNat - 48)) / 10 = vl (a :: r) by omega, show (vl (a :: r) * 10 + (c.toNat - 48)) % 10 = c.toNat - 48 by omega, ih hf.1 (by simp) (fun _ => h48), hd]

theorem foldl_le (l : List UInt8) : ∀ a : Nat, a ≤ l.foldl (fun a c => a * 10 + (c.toNat - 48)) a := by
  induction l with
  | nil => intro a; exact Nat.le_refl _
  | cons c r ih => intro a; rw [List.foldl_cons]; exact Nat.le_trans (by omega) (ih _)

theorem parse_ok : ∀ (l : List UInt8) (a : Nat), (l.all fun c => fg (nb c)) = true → l.foldl (fun a c => a * 10 + (c.toNat - 48)) a ≤ 2147483647 → parseUint10 a l = .ok (l.foldl (fun a c => a * 10 + (c.toNat - 48)) a)
  | [], a, _, _ => rfl
  | c :: r, a, h, hv => by
    rw [List.all_cons, Bool.and_eq_true] at h
    have hc := (fg_iff c).1 h.1
    have h1 := foldl_le r (a * 10 + (c.toNat - 48))
    rw [List.foldl_cons] at hv ⊢
    simp only [parseUint10]
    rw [if_pos hc, if_neg (by omega), if_neg (by omega)]
    exact parse_ok r _ h.2 hv

/-- what the library reads of a number -/
theorem num_some {l : List UInt8} {n : Nat} (h : num l = some n) : atoiAll l = .ok (n : Int) ∧ n ≤ 2147483647 ∧ itoa (n : Int) = l := by
  unfold num at h
  split at h
  · rename_i hc
    obtain ⟨h1, h2, h3⟩ := hc
    injection h with h
    subst h
    cases l with
    | nil => simp [nought] at h1
    | cons c r =>
      have hf : fg (nb c) = true := by unfold fgs at h2; rw [List.all_cons, Bool.and_eq_true] at h2; exact h2.1
      have hc := (fg_iff c).1 hf
      refine ⟨?_, h3, ?_⟩
      · rw [atoiAll_plain c r (by omega) (by omega)]
        have hp := parse_ok (c :: r) 0 h2 h3
        unfold parseMag
        rw [if_neg (by simp), hp]
        unfold signless
        show (if 9223372036854775808 ≤ vl (c :: r) then _ else _) = _
        rw [if_neg (by omega)]
        rfl
      · rw [itoa_nonneg]
        refine dec_vl _ h2 (by simp) (fun hl hh => ?_)
        simp [nought] at h1
        simp at hl hh
        exact h1.2 hl hh
  · cases h

theorem num_of {l : List UInt8} {v : Int} (h0 : 0 ≤ v) (h1 : v ≤ 2147483647) (hi : itoa v = l) : num l = some v.toNat := by
  obtain ⟨u, rfl⟩ := Int.eq_ofNat_of_zero_le h0
  rw [itoa_nonneg] at hi
  subst hi
  obtain ⟨k1, k2, k3, k4, _⟩ := vl_dec u
  have hn : nought (decDigits u) = false := by
    have hl : (decDigits u).length ≤ 10 := by
      rw [decDigits_length]
      rcases Nat.lt_or_ge 10 (nDigits u) with h | h
      · exfalso
        have h10 : ∀ k u : Nat, k < nDigits u → 10 ^ k ≤ u ∨ k = 0 := by
          intro k
          induction k with
          | zero => intro u _; right; rfl
          | succ k ih =>
            intro u hu
            left
            by_cases hs : u < 10
            · rw [nDigits_small hs] at hu; omega
            · rw [nDigits_big hs] at hu
              rcases ih (u / 10) (by omega) with h | h
              · rw [Nat.pow_succ]; omega
              · subst h; simp; omega
        rcases h10 10 u h with h | h
        · simp at h; omega
        · omega
      · exact h
    unfold nought
    rw [decide_eq_false (by omega), decide_eq_false (by omega)]
    simp only [Bool.false_or, Bool.and_eq_false_iff, decide_eq_false_iff_not]
    by_cases hu : 10 ≤ u
    · exact Or.inr (k4 hu)
    · left
      rw [decDigits_length, nDigits_small (by omega)]; omega
  unfold num
  rw [if_pos ⟨hn, k2, by rw [k1]; omega⟩, k1]
  rfl

theorem num_le {l : List UInt8} {n : Nat} (h : num l = some n) : n ≤ 2147483647 := (num_some h).2.1

theorem vl_lt : ∀ (l : List UInt8), fgs l = true → vl l < 10 ^ l.length := by
  refine ind_snoc (by intro _; decide) ?_
  intro l c ih hf
  rw [fgs_snoc, Bool.and_eq_true] at hf
  have hc := (fg_iff c).1 hf.2
  have := ih hf.1
  rw [vl_snoc, List.length_append, List.length_singleton, Nat.pow_succ]
  omega
end Go.Proofs.YtfmlcddakfbleaaGreatDoor.SignMath
