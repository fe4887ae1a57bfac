/- tree.Path: a question about one node, IndexFunc, the way down. -/
import Derived.Test.YtjnclchbklehgaaTreeSpan
import Derived.Test.YtjnclchbklehgaaTreeMake
import Derived.BigQuiet
import Derived.Deep.QuietTactic
import Derived.StillTailTactics
import Derived.Shelf.Abstract
namespace Go.Proofs.Ytjnclchbklehgaa
open Go.RowKit Go.Shelf TreeMath

/-- has a node that byte? -/
def hasB (a : Int) (T : Tr) : Bool := spo (lf T) && (decide (spf (lf T) ≤ a) && decide (a < spt (lf T)))

theorem eg_path1 : ∀ args w, (callFunc 45 args).run Try.prog w = .ok (.enter 45 args) w := by
  intro args w; simp [go_sem]

set_option maxRecDepth 100000 in
set_option maxHeartbeats 400000 in
theorem has_any (a : Int) (g : Nat) (T : Tr) (w : World) (hT : Tn (lo w.heap.size) w T) (hw : wt T ≤ 5000) (hg : w.heap[g]? = some (ibx a)) :
    Calls Try.prog 45 #[nv T, .pointer (some ⟨g, 0, none⟩)] w fun e w' => e = .returned (.bool (hasB a T)) ∧ Below w.heap.size w w' := by
  have hlt : g < w.heap.size := (Array.getElem?_eq_some_iff.1 hg).1
  have HS := Lib.hid (span1_any T (w.alloc (nbx T)) ((hT.below (below1 w _)).more (by simp)) hw)
  have HG := Lib.hid ((Below.heap_alloc w (nbx T) g hlt).trans hg)
  clear hT hw hg
  unfold hasB
  generalize spf (lf T) = F at HS ⊢
  generalize spt (lf T) = E at HS ⊢
  generalize spo (lf T) = O at HS ⊢
  go_enter Try.func45, Try.ntmps45
  go_wp2_with fail
  refine HS.out.mono ?_
  rintro e w1 ⟨rfl, hb1⟩
  have c0 : w1.cell? ⟨g, 0, none⟩ = some (.int .i64 a) := by
    have := (hb1.block g (by simp; omega)).trans HG.out
    simp [World.cell?, this]
  have HB := Lib.hid ((below1 w (nbx T)).trans (hb1.mono (by simp)))
  clear hb1 HS HG hlt
  cases O with
  | false =>
    go_wp2
    go_ret
    exact ⟨by simp, HB.out⟩
  | true =>
    by_cases h1 : F ≤ a
    · by_cases h2 : a < E
      · go_wp2
        go_ret
        exact ⟨by simp [h1, h2], HB.out⟩
      · go_wp2
        go_ret
        exact ⟨by simp [h1], HB.out⟩
    · go_wp2
      go_ret
      exact ⟨by simp; omega, HB.out⟩

/-- what is asked of a question about one node -/
def AsksT (g : Nat) (lb : Array Value) (p : Tr → Bool) (l : List Tr) (w : World) : Prop :=
  ∀ (W : World) (x : Tr), x ∈ l → Below w.heap.size w W → Calls Try.prog g (#[nv x] ++ lb) W fun e w' => e = .returned (.bool (p x)) ∧ Below W.heap.size W w'

/-- the first place at which a question holds -/
def idxT (p : Tr → Bool) (l : List Tr) : Int := match l.findIdx? p with | some i => (i : Int) | none => -1
theorem idxT_hit {p : Tr → Bool} {l : List Tr} {k : Nat} {e : Tr} (he : l[k]? = some e) (hp : p e = true) (h : ∀ (i : Nat) (x : Tr), i < k → l[i]? = some x → p x = false) : idxT p l = k := by
  unfold idxT
  have hk := (List.getElem?_eq_some_iff.1 he).1
  have hx := (List.getElem?_eq_some_iff.1 he).2
  have : l.findIdx? p = some k := by
    rw [List.findIdx?_eq_some_iff_getElem]
    exact ⟨hk, by rw [hx]; exact hp, fun j hj => by simp [h j l[j] hj (List.getElem?_eq_getElem (by omega))]⟩
  rw [this]
theorem idxT_miss {p : Tr → Bool} {l : List Tr} (h : ∀ (i : Nat) (x : Tr), l[i]? = some x → p x = false) : idxT p l = -1 := by
  unfold idxT
  have : l.findIdx? p = none := by
    rw [List.findIdx?_eq_none_iff]
    intro x hx
    obtain ⟨i, hi⟩ := List.getElem?_of_mem hx
    exact h i x hi
  rw [this]

set_option maxRecDepth 100000 in
set_option maxHeartbeats 1000000 in
theorem indexT_any (A : Option Addr) (c : Nat) (l : List Tr) (g : Nat) (lb : Array Value) (eg : ∀ args w, (callFunc g args).run Try.prog w = .ok (.enter g args) w) (p : Tr → Bool) (w : World) (hl : l.length ≤ 10000) (hr : Tks (lo w.heap.size) w A l) (hp : AsksT g lb p l w) :
    Calls Try.prog 46 #[.slice A l.length c, .func (.func g) #[] lb] w fun e w' => e = .returned (.int .i64 (idxT p l)) ∧ Below w.heap.size w w' := by
  have HP := Lib.hid hp
  clear hp
  go_enter Try.func46, Try.ntmps46
  go_wp2
  go_loopw [5, 8] (fun _ i wr => ∃ k : Nat, k ≤ l.length ∧ i = .int .i64 k ∧ Below w.heap.size w wr ∧ Hid (∀ (i : Nat) (x : Tr), i < k → l[i]? = some x → p x = false)) (fun _ i _ => l.length - (intOf i).toNat)
  case atStart => exact ⟨0, Nat.zero_le _, rfl, Below.refl _ _, Lib.hid (fun i x hi _ => absurd hi (Nat.not_lt_zero _))⟩
  case round =>
    obtain ⟨k, hk, rfl, hB, HN⟩ := hrel
    by_cases hlt : k < l.length
    · have he : l[k]? = some l[k] := List.getElem?_eq_getElem hlt
      generalize l[k] = e at he
      obtain ⟨b, off, rfl, hb, hc⟩ := hr (by omega)
      obtain ⟨c0, c1, c2, c3, c4⟩ := (hc k e he).keep fun i => cell_of (hB.block b hb)
      have hcall := HP.out wr e (List.mem_of_getElem? he) hB
      have HC := Lib.hid hcall
      have HE := Lib.hid he
      clear hcall he
      cases hq : p e with
      | true =>
        have HQ := Lib.hid hq
        clear hq
        go_wp2_with (go_at_fn g; refine HC.out.mono ?_; rw [HQ.out]; rintro r w1 ⟨rfl, hb1⟩)
        go_ret
        exact ⟨ret_int (idxT_hit HE.out HQ.out HN.out).symm, hB.trans (hb1.mono hB.size)⟩
      | false =>
        have HQ := Lib.hid hq
        clear hq
        go_wp2_with (go_at_fn g; refine HC.out.mono ?_; rw [HQ.out]; rintro r w1 ⟨rfl, hb1⟩)
        go_roundw
        case rel =>
          refine ⟨k + 1, by omega, by go_num, hB.trans (hb1.mono hB.size), Lib.hid (fun i x hi hx => ?_)⟩
          by_cases e : i = k
          · subst e; rw [HE.out] at hx; injection hx with hx; subst hx; exact HQ.out
          · exact HN.out i x (by omega) hx
        case measure => simp [intOf]; omega
    · obtain rfl : k = l.length := by omega
      go_wp2
      go_ret
      exact ⟨ret_int (idxT_miss fun i x hx => HN.out i x (List.getElem?_eq_some_iff.1 hx).1 hx).symm, hB⟩
end Go.Proofs.Ytjnclchbklehgaa
