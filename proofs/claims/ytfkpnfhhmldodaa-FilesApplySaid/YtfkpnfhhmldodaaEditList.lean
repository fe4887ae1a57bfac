/- Contracts of the functions that go through a list of edits and ask each. -/
import Derived.Test.YtfkpnfhhmldodaaEditSmall
import Derived.BigQuiet
import Derived.Deep.QuietTactic
import Derived.StillTailTactics
import Derived.Shelf.Abstract
namespace Go.Proofs.Ytfkpnfhhmldodaa
open Go.RowKit EditMath

/-- what is asked of a question about one edit -/
def Asks (g : Nat) (lb : Array Value) (p : Ed → Bool) (l : List Ed) (w : World) : Prop :=
  ∀ (W : World) (x : Ed), x ∈ l → Below w.heap.size w W → Calls Try.prog g (#[edv x] ++ lb) W fun e w' => e = .returned (.bool (p x)) ∧ Below W.heap.size W w'

/-- the first place at which a question holds -/
def idx (p : Ed → Bool) (l : List Ed) : Int := match l.findIdx? p with | some i => (i : Int) | none => -1

theorem idx_hit {p : Ed → Bool} {l : List Ed} {k : Nat} {e : Ed} (he : l[k]? = some e) (hp : p e = true) (h : ∀ (i : Nat) (x : Ed), i < k → l[i]? = some x → p x = false) : idx p l = k := by
  unfold idx
  have hk := (List.getElem?_eq_some_iff.1 he).1
  have hx := (List.getElem?_eq_some_iff.1 he).2
  have : l.findIdx? p = some k := by
    rw [List.findIdx?_eq_some_iff_getElem]
    exact ⟨hk, by rw [hx]; exact hp, fun j hj => by simp [h j l[j] hj (List.getElem?_eq_getElem (by omega))]⟩
  rw [this]

theorem idx_miss {p : Ed → Bool} {l : List Ed} (h : ∀ (i : Nat) (x : Ed), l[i]? = some x → p x = false) : idx p l = -1 := by
  unfold idx
  have : l.findIdx? p = none := by
    rw [List.findIdx?_eq_none_iff]
    intro x hx
    obtain ⟨i, hi⟩ := List.getElem?_of_mem hx
    exact h i x hi
  rw [this]

theorem idx_any (p : Ed → Bool) (l : List Ed) : decide (0 ≤ idx p l) = l.any p := by
  unfold idx
  cases h : l.findIdx? p with
  | none =>
    rw [List.findIdx?_eq_none_iff] at h
    symm
    simpa using h
  | some i =>
    have := List.findIdx?_eq_some_iff_getElem.1 h
    obtain ⟨hi, hp, _⟩ := this
    symm
    simp
    exact ⟨l[i], List.getElem_mem hi, hp⟩

set_option maxRecDepth 100000 in
set_option maxHeartbeats 1000000 in
theorem indexFunc_any (A : Option Addr) (c : Nat) (l : List Ed) (g : Nat) (lb : Array Value) (eg : ∀ args w, (callFunc g args).run Try.prog w = .ok (.enter g args) w) (p : Ed → Bool) (w : World) (hl : l.length ≤ 10000) (hr : Eds w w.heap.size A l) (hp : Asks g lb p l w) :
    Calls Try.prog 98 #[.slice A l.length c, .func (.func g) #[] lb] w fun e w' => e = .returned (.int .i64 (idx p l)) ∧ Below w.heap.size w w' := by
  have HP := Lib.hid hp
  clear hp
  go_enter Try.func98, Try.ntmps98
  go_wp2
  go_loopw [5, 8] (fun _ i wr => ∃ k : Nat, k ≤ l.length ∧ i = .int .i64 k ∧ Below w.heap.size w wr ∧ Hid (∀ (i : Nat) (x : Ed), i < k → l[i]? = some x → p x = false)) (fun _ i _ => l.length - (intOf i).toNat)
  case atStart => exact ⟨0, Nat.zero_le _, rfl, Below.refl _ _, Lib.hid (fun i x hi _ => absurd hi (Nat.not_lt_zero _))⟩
  case round =>
    obtain ⟨k, hk, rfl, hB, HN⟩ := hrel
    by_cases hlt : k < l.length
    · have he : l[k]? = some l[k] := List.getElem?_eq_getElem hlt
      generalize l[k] = e at he
      obtain ⟨b, off, rfl, hb, c0, c1, c2⟩ := (hr.below hB).at_ he
      have hcall := HP.out wr e (List.mem_of_getElem? he) hB
      have HC := Lib.hid hcall
      have HE := Lib.hid he
      clear hcall he
      cases hq : p e with
      | true =>
        have HQ := Lib.hid hq
        clear hq
        go_wp2_with (go_at_fn g; refine HC.out.mono ?_; rw [HQ.out]; rintro r w1 ⟨rfl, hb1⟩)
        go_ret
        exact ⟨ret_int (idx_hit HE.out HQ.out HN.out).symm, hB.trans (hb1.mono hB.size)⟩
      | false =>
        have HQ := Lib.hid hq
        clear hq
        go_wp2_with (go_at_fn g; refine HC.out.mono ?_; rw [HQ.out]; rintro r w1 ⟨rfl, hb1⟩)
        go_roundw
        case rel =>
          refine ⟨k + 1, by omega, by go_num, hB.trans (hb1.mono hB.size), Lib.hid (fun i x hi hx => ?_)⟩
          by_cases e : i = k
          · subst e; rw [HE.out] at hx; injection hx with hx; subst hx; exact HQ.out
          · exact HN.out i x (by omega) hx
        case measure => simp [intOf]; omega
    · obtain rfl : k = l.length := by omega
      go_wp2
      go_ret
      exact ⟨ret_int (idx_miss fun i x hx => HN.out i x (List.getElem?_eq_some_iff.1 hx).1 hx).symm, hB⟩

set_option maxRecDepth 100000 in
set_option maxHeartbeats 400000 in
theorem containsFunc_any (A : Option Addr) (c : Nat) (l : List Ed) (g : Nat) (lb : Array Value) (eg : ∀ args w, (callFunc g args).run Try.prog w = .ok (.enter g args) w) (p : Ed → Bool) (w : World) (hl : l.length ≤ 10000) (hr : Eds w w.heap.size A l) (hp : Asks g lb p l w) :
    Calls Try.prog 66 #[.slice A l.length c, .func (.func g) #[] lb] w fun e w' => e = .returned (.bool (l.any p)) ∧ Below w.heap.size w w' := by
  have HC := Lib.hid (indexFunc_any A c l g lb eg p w hl hr hp)
  clear hp hr eg
  have HI := Lib.hid (idx_any p l)
  generalize idx p l = r at HI HC
  generalize l.any p = q at HI ⊢
  go_enter Try.func66, Try.ntmps66
  go_wp2_with fail
  refine HC.out.mono ?_
  rintro e w1 ⟨rfl, hb1⟩
  go_wp2
  go_ret
  exact ⟨ret_bool HI.out, hb1⟩

/-- what is asked of a question about two edits -/
def Asks2 (g : Nat) (r : Ed → Ed → Bool) (w : World) : Prop :=
  ∀ (W : World) (x y : Ed), Below w.heap.size w W → Calls Try.prog g #[edv x, edv y] W fun e w' => e = .returned (.bool (r x y)) ∧ Below W.heap.size W w'

set_option maxRecDepth 100000 in
set_option maxHeartbeats 1000000 in
theorem eachNext_any (A : Option Addr) (c : Nat) (l : List Ed) (g : Nat) (eg : ∀ args w, (callFunc g args).run Try.prog w = .ok (.enter g args) w) (r : Ed → Ed → Bool) (w : World) (hl : l.length ≤ 10000) (hr : Eds w w.heap.size A l) (hp : Asks2 g r w) :
    Calls Try.prog 68 #[.slice A l.length c, .func (.func g) #[] #[]] w fun e w' => e = .returned (.bool (each r l)) ∧ Below w.heap.size w w' := by
  have HP := Lib.hid hp
  clear hp
  go_enter Try.func68, Try.ntmps68
  go_wp2
  go_loopw [5] (fun i wr => ∃ k : Nat, (k ≤ l.length ∨ k = 0) ∧ i = .int .i64 ((k : Int) + 1) ∧ Below w.heap.size w wr ∧ Hid (∀ (i : Nat) (x y : Ed), i < k → l[i]? = some x → l[i + 1]? = some y → r x y = true)) (fun i _ => l.length + 1 - (intOf i).toNat)
  case atStart => exact ⟨0, .inr rfl, rfl, Below.refl _ _, Lib.hid (fun i x y hi _ => absurd hi (Nat.not_lt_zero _))⟩
  case round =>
    obtain ⟨k, hk, rfl, hB, HN⟩ := hrel
    by_cases hlt : k + 1 < l.length
    · have he : l[k]? = some l[k] := List.getElem?_eq_getElem (by omega)
      have hd : l[k + 1]? = some l[k + 1] := List.getElem?_eq_getElem hlt
      generalize l[k] = e at he
      generalize l[k + 1] = d at hd
      obtain ⟨b, off, rfl, hb, ⟨c0, c1, c2⟩, ⟨d0, d1, d2⟩⟩ := (hr.below hB).at2 he hd
      have HC := Lib.hid (HP.out wr.drew e d hB.drew)
      have HE := Lib.hid he
      have HD := Lib.hid hd
      clear he hd hk
      have hz : (k : Int) + 1 - 1 = k := by omega
      have z1 : (0 : Int) ≤ k := by omega
      have z2 : (k : Int) < l.length := by omega
      have z3 : (0 : Int) ≤ (k : Int) + 1 := by omega
      have z4 : (k : Int) + 1 < l.length := by omega
      have z5 : ((k : Int) + 1).toNat = k + 1 := by omega
      have z6 : IntKind.i64.wrap (k : Int) = k := IntWalk.i64_in _ (by omega)
      cases hq : r e d with
      | true =>
        have HQ := Lib.hid hq
        clear hq
        go_wp2
        go_still_tail 10, (by kernel_rfl)
        change wpList _ _ _ _ _ wr.drew
        clear z5 z6 hz
        go_wp2_with (go_at_fn g; refine HC.out.mono ?_; rw [HQ.out]; rintro r w1 ⟨rfl, hb1⟩)
        go_roundw
        case rel =>
          refine ⟨k + 1, by omega, by go_num, hB.drew.trans (hb1.mono hB.size), Lib.hid (fun i x y hi hx hy => ?_)⟩
          by_cases e : i = k
          · subst e; rw [HE.out] at hx; rw [HD.out] at hy; injection hx with hx; injection hy with hy; subst hx hy; exact HQ.out
          · exact HN.out i x y (by omega) hx hy
        case measure => simp [intOf]; omega
      | false =>
        have HQ := Lib.hid hq
        clear hq
        go_wp2
        go_still_tail 10, (by kernel_rfl)
        change wpList _ _ _ _ _ wr.drew
        clear z5 z6 hz
        go_wp2_with (go_at_fn g; refine HC.out.mono ?_; rw [HQ.out]; rintro r w1 ⟨rfl, hb1⟩)
        go_ret
        exact ⟨ret_bool (each_no HE.out HD.out HQ.out).symm, hB.drew.trans (hb1.mono hB.size)⟩
    · go_wp2
      go_ret
      exact ⟨ret_bool (each_mk fun i x y hx hy => HN.out i x y (by have := (List.getElem?_eq_some_iff.1 hy).1; omega) hx hy).symm, hB⟩

end Go.Proofs.Ytfkpnfhhmldodaa
