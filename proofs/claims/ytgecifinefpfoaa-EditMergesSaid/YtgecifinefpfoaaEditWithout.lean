/- A list without what changes nothing: the document's; Clone; the question that is asked of each edit. -/
import Derived.Test.YtgecifinefpfoaaEditRefMerge
import Derived.Test.YtgecifinefpfoaaEditAppliesWalk
import Derived.Lib.SliceRun
namespace Go.Proofs.Ytgecifinefpfoaa
open Go.RowKit EditMath

/-- the document's loop -/
def RWoI (w : World) (s : ByteArray) (l : List Ed) (v i : Value) (wr : World) : Prop :=
  ∃ (k : Nat) (A' : Option Addr) (c' : Nat), k ≤ l.length ∧ i = .int .i64 (k : Int) ∧ v = .slice A' (wo s (l.take k)).length c' ∧ Below w.heap.size w wr ∧ Own wr w.heap.size A' c' (wo s (l.take k))

theorem wo_length (s : ByteArray) (l : List Ed) : (wo s l).length ≤ l.length := List.length_filter_le _ _

set_option maxRecDepth 100000 in
set_option maxHeartbeats 2000000 in
theorem refWithout_any (s : ByteArray) (A : Option Addr) (c : Nat) (l : List Ed) (hb : rt l s.size = true) (hs : (s.size : Int) ≤ 70000) (w : World) (hl : l.length ≤ 100) (hr : Eds w w.heap.size A l) :
    Calls Try.prog 24 #[.string s, .slice A l.length c] w (ListR (wo s l) w) := by
  have HT := Lib.hid hb
  clear hb
  go_enter Try.func24, Try.ntmps24
  go_wp2
  go_loopw [5, 6] (fun v i wr => RWoI w s l v i wr) (fun _ i _ => l.length + 1 - (intOf i).toNat)
  case atStart => exact ⟨0, none, 0, Nat.zero_le _, rfl, rfl, Below.refl _ _, Own.nil _ _⟩
  case round =>
    obtain ⟨k, A', c', hk, rfl, rfl, hB, hown⟩ := hrel
    by_cases hlt : k < l.length
    · have he : l[k]? = some l[k] := List.getElem?_eq_getElem hlt
      generalize l[k] = e at he
      have HI := Lib.hid (wo_snoc (s := s) he)
      have z1 : (0 : Int) ≤ k := by omega
      have z2 : (k : Int) < l.length := by omega
      obtain ⟨s0, s1, s2⟩ := (rt_parts HT.out).2.1 k e he
      have hml : (wo s (l.take k)).length ≤ 1000 := by have := wo_length s (l.take k); rw [List.length_take] at this; omega
      have HR := Lib.hid hr
      obtain ⟨b, off, rfl, hbl, c0, c1, c2⟩ := (hr.below hB).at_ he
      have HO := Lib.hid hown
      have HE := Lib.hid he
      clear he hr hown
      generalize wo s (l.take k) = M at *
      have hch : chg s e = !((s.extract e.f.toNat e.t.toNat).toList == e.s.toList) := rfl
      have HCH := Lib.hid hch
      clear hch
      cases hq : ((s.extract e.f.toNat e.t.toNat).toList == e.s.toList) with
      | true =>
        have hq2 : ((s.extract e.f.toNat e.t.toNat).toList != e.s.toList) = false := by simp only [bne, hq]; rfl
        have HQ : Hid (chg s e = false) := Lib.hid (by rw [HCH.out, hq]; rfl)
        clear HCH
        go_wp2
        go_quiet (fail)
        go_wp2
        go_roundw
        case rel =>
          refine ⟨k + 1, A', c', by omega, by go_num, ?_, below_drewN hB _, ?_⟩
          · rw [HI.out, HQ.out]; simp
          · rw [HI.out, HQ.out]; simpa using HO.out.drewN nq
        case measure => simp [intOf]; omega
      | false =>
        have hq2 : ((s.extract e.f.toNat e.t.toNat).toList != e.s.toList) = true := by simp only [bne, hq]; rfl
        have HQ : Hid (chg s e = true) := Lib.hid (by rw [HCH.out, hq]; rfl)
        clear HCH
        go_wp2
        go_quiet (fail)
        have hBW : Below w.heap.size w (wr.drewN nq) := below_drewN hB _
        have HOW := Lib.hid (HO.out.drewN nq)
        obtain ⟨_, d0, d1, d2⟩ := (HR.out.below hBW).here HE.out
        clear HO hB c0 c1 c2
        generalize wr.drewN nq = w2 at *
        go_wp2_with (at_builtin; refine wpList_append_ed (by rfl) _ _ (by rfl) w2 w.heap.size A' c' M e (by rfl) (by rfl) HOW.out hml hBW.size ?_; intro A5 c5 w5 hown5 hgrow5 _ _)
        have hB5 := below_append hBW hgrow5 HOW.out (Nat.le_refl _) hBW.size
        have HO5 := Lib.hid hown5
        clear hgrow5 hown5
        go_roundw
        case rel =>
          refine ⟨k + 1, A5, c5, by omega, by go_num, ?_, hB5, ?_⟩
          · rw [HI.out, HQ.out]; simp
          · rw [HI.out, HQ.out]; simpa using HO5.out
        case measure => simp [intOf]; omega
    · obtain rfl : k = l.length := by omega
      rw [List.take_length] at hown ⊢
      clear hr
      go_wp2
      go_ret
      exact ⟨A', c', rfl, hown.eds, hB⟩

/-- where a row of the call's own ends -/
theorem Own.cap {w : World} {base c : Nat} {A : Option Addr} {m : List Ed} (h : Own w base A c m) : m.length ≤ c := by
  rcases h.2 with ⟨hv, hn⟩ | ⟨g, cap, cur, hv, _, _, hc, _⟩
  · omega
  · injection hv with _ _ hv; omega
theorem Own.nilcap {w : World} {base c : Nat} {A : Option Addr} {m : List Ed} (h : Own w base A c m) : A = none → c = 0 := by
  intro hA
  rcases h.2 with ⟨hv, hn⟩ | ⟨g, cap, cur, hv, _⟩
  · injection hv with _ _ hv
  · injection hv with hv; rw [hA] at hv; cases hv

/-- a list of edits in memory of the call's own -/
def ListO (m : List Ed) (w : World) (e : Ending) (w' : World) : Prop :=
  ∃ A c, e = .returned (.slice A m.length c) ∧ Own w' w.heap.size A c m ∧ Below w.heap.size w w'

set_option maxHeartbeats 800000 in
theorem clone_any (A : Option Addr) (c : Nat) (l : List Ed) (hnil : A = none → c = 0) (w : World) (hl : l.length ≤ 1000) (hr : Eds w w.heap.size A l) :
    Calls Try.prog 40 #[.slice A l.length c] w (ListO l w) := by
  have HNIL := Lib.hid hnil
  have HR := Lib.hid hr
  cases A with
  | none =>
    have hz : l = [] := by
      cases l with
      | nil => rfl
      | cons e l => obtain ⟨b, off, hA, _⟩ := hr (by simp); cases hA
    subst hz
    clear hr hnil
    have hq : ∀ W, (binOp .eql 22 (.slice none 0 c) (.slice none 0 0)).run Try.prog W = .ok (.bool true) W := fun W => Lib.run_eql_slice_nil (P := Try.prog) W 22 47 none 0 c 0 0 Try.underlying22
    go_enter Try.func40, Try.ntmps40
    go_wp2
    go_ret
    exact ⟨none, 0, rfl, Own.nil _ _, Below.refl _ _⟩
  | some ad =>
    clear hr hnil
    have hq : ∀ W, (binOp .eql 22 (.slice (some ad) l.length c) (.slice none 0 0)).run Try.prog W = .ok (.bool false) W := fun W => Lib.run_eql_slice_nil (P := Try.prog) W 22 47 (some ad) l.length c 0 0 Try.underlying22
    go_enter Try.func40, Try.ntmps40
    go_wp2_with (at_builtin; refine wpList_append_eds (by rfl) _ _ (by rfl) _ w.heap.size (some ⟨w.heap.size, 0, none⟩) 0 w.heap.size (some ad) c l (by rfl) (by rfl) (empty_own w _ (Nat.le_refl _)) (HR.out.alloc (Nat.le_refl _) _) HNIL.out (by omega) (by simp) ?_; intro A3 c3 w3 hown3 hgrow3)
    have hb3 : Below w.heap.size w w3 := below_append (m := []) ((Below.refl _ w).alloc (Nat.le_refl _) _) hgrow3 (empty_own w _ (Nat.le_refl _)) (Nat.le_refl _) (by simp)
    go_ret
    exact ⟨A3, c3, rfl, hown3, hb3⟩

set_option maxHeartbeats 800000 in
theorem without1_any (s : ByteArray) (e : Ed) (hs : (s.size : Int) ≤ 70000) (s0 : 0 ≤ e.f) (s1 : e.f ≤ e.t) (s2 : e.t ≤ (s.size : Int)) (B : Nat) (w : World) (hB : B < w.heap.size) (hc : w.cell? ⟨B, 0, none⟩ = some (.string s)) :
    Calls Try.prog 41 #[edv e, .pointer (some ⟨B, 0, none⟩)] w fun r w' => r = .returned (.bool (!chg s e)) ∧ Below w.heap.size w w' := by
  have hne : B ≠ w.heap.size := by omega
  have hch : (!chg s e) = ((s.extract e.f.toNat e.t.toNat).toList == e.s.toList) := by simp [chg]
  rw [hch]
  clear hch
  go_enter Try.func41, Try.ntmps41
  go_wp2
  go_quiet (fail)
  go_wp2
  go_ret
  exact ⟨rfl, below_drewN (below1 _ _) _⟩

end Go.Proofs.Ytgecifinefpfoaa
