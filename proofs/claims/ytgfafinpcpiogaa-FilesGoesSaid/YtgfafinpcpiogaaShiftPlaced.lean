/- The iterator over edits and where their new bytes stand, for every loop body. -/
import Derived.Test.YtgfafinpcpiogaaShiftFrame
import Derived.Test.YtgfafinpcpiogaaShiftMath
import Derived.Test.YtgfafinpcpiogaaEditSmall
import Derived.RangeFuncCalls
import Derived.RangeFuncLeaves
import Derived.Shelf.Abstract
import Derived.Shelf.RegionOpen
import Derived.OwnWalkIn
import Derived.TacticsInMore
import Derived.LoopNIn
import Derived.LoopIn
namespace Go.Proofs.Ytgfafinpcpiogaa
open Go.RowKit Go.Shelf EditMath ShiftMath

attribute [local go_sem] Oper.semAt_some

abbrev spv (x : Ed × Int) : Value := .agg #[.int .i64 (x.1.f + x.2), .int .i64 (x.1.f + x.2 + x.1.s.size)]

/-- what the iterator reads: its box, the list -/
def PlC (Bn : Nat) (A : Option Addr) (c : Nat) (l : List Ed) : As := fun X W => Has Bn (.cells #[.slice A l.length c] 22 (0, 0)) X W ∧ ∃ B, Eds W B A l ∧ B ≤ W.heap.size

set_option maxRecDepth 100000 in
set_option maxHeartbeats 1000000 in
theorem placed_iter (Bn : Nat) (A : Option Addr) (c : Nat) (l : List Ed) (hl : l.length ≤ 20000) (hs : Small l) :
    Iter Try.prog 87 #[.pointer (some ⟨Bn, 0, none⟩)] (fun x : Ed × Int => #[edv x.1, spv x]) (pld l) (PlC Bn A c l) := by
  intro n m lp J Jx W hJ hJx hC hY h0
  have HS := Lib.hid hs
  have HY := Lib.hid hY
  have HC := Lib.hid hC
  have HJ := Lib.hid hJ
  have HJx := Lib.hid hJx
  clear hs hY hC hJ hJx
  obtain ⟨hbox, B, hE, hBs⟩ := HC.out _ _ _ h0
  have hcell : W.cell? ⟨Bn, 0, none⟩ = some (.slice A l.length c) := Boxed.cell hbox.2
  refine callsIn_of_wp Try.func87 rfl trivial ?_ rfl
  simp only [Try.ntmps87, List.size_toArray, List.length_cons, List.length_nil, Nat.reduceAdd, Nat.reduceSub, Array.replicate_succ, Array.replicate_zero, List.push_toArray, List.append_toArray, List.nil_append, List.cons_append]
  gi_wp2
  gi_loopw [3, 10] (fun s i wr => ∃ k : Nat, i = .int .i64 k ∧ k ≤ l.length ∧ s = .int .i64 (gr (l.take k)) ∧ J ((pld l).take k) no wr) (fun s i wr => l.length - (intOf i).toNat)
  case atStart =>
    exact ⟨0, rfl, Nat.zero_le _, rfl, h0⟩
  case round =>
    obtain ⟨k, rfl, hk, rfl, hJs⟩ := hrel
    by_cases hlt : k < l.length
    · obtain ⟨e, he⟩ : ∃ e, l[k]? = some e := ⟨l[k], List.getElem?_eq_getElem hlt⟩
      obtain ⟨e0, e1, e2, e3, e4, e5, e6⟩ := HS.out k e he
      obtain ⟨_, B', hE', hB'⟩ := HC.out _ _ _ hJs
      obtain ⟨b, off, rfl, hb, c0, c1, c2⟩ := hE'.at_ he
      have HE := Lib.hid he
      have HEE := Lib.hid hE'
      clear he hE' hE hbox hcell
      have HP := Lib.hid (pref_mk (pld_mk HE.out))
      have HJ2 : J ((pld l).take k) (fun j => j = wr.heap.size ∨ j = wr.heap.size + 1) ((wr.alloc (.cells #[.int .i64 e.f, .int .i64 e.t, .string e.s] 87)).alloc (.cells #[.int .i64 (e.f + gr (l.take k)), .int .i64 (e.f + gr (l.take k) + e.s.size)] 39)) :=
        (HJ.out _).more hJs ((Off.alloc _ _ _).trans (Off.alloc _ _ _)) (fun j hj => .inr (by omega))
      obtain ⟨fn, tmps, assign, body, hy, hR⟩ := HY.out _ (e, gr (l.take k)) _ _ (fun j hj => hj.elim (fun ej => ⟨_, by rw [ej]; exact (Below.heap_alloc _ _ _ (by simp)).trans (World.alloc_heap_new wr _), rfl⟩) (fun ej => ⟨_, by rw [ej]; have := World.alloc_heap_new (wr.alloc (.cells #[.int .i64 e.f, .int .i64 e.t, .string e.s] 87)) (.cells #[.int .i64 (e.f + gr (l.take k)), .int .i64 (e.f + gr (l.take k) + e.s.size)] 39); rwa [World.size_alloc] at this, rfl⟩)) HJ2 HP.out
      dsimp only [edv, spv] at hy
      gi_wp2
      refine round_any (hR.mono ?_)
      rintro r W3 ⟨hs3, hk3, (⟨rfl, hJ3⟩ | ⟨rfl, hJx3⟩)⟩
      · have d1 : W3.cell? ⟨wr.heap.size + 1, 1, none⟩ = some (.int .i64 (e.f + gr (l.take k) + e.s.size)) := (hk3.cell (.inr rfl) (by simp)).trans (by simp [go_sem])
        have d2 : W3.cell? ⟨wr.heap.size, 1, none⟩ = some (.int .i64 e.t) := (hk3.cell (.inl rfl) (by simp; omega)).trans (by simp [go_sem])
        have hJ4 := (HJ.out _).less hJ3 (X' := no) (fun _ h => h.elim)
        clear hJ3 hk3 hy
        gi_wp2
        go_roundw
        case rel =>
          refine ⟨k + 1, by go_num, by omega, ?_, ?_⟩
          · rw [gr_snoc HE.out]; unfold gr1; go_num
          · rw [show (pld l).take (k + 1) = (pld l).take k ++ [(e, gr (l.take k))] from by rw [List.take_add_one, pld_mk HE.out]; rfl]; exact hJ4
        case measure => simp [intOf]; omega
      · have hJx4 := (HJx.out _).less hJx3 (X' := no) (fun _ h => h.elim)
        gi_wp2
        refine bodyPost_ret (results_none rfl _ _ _) rfl ?_
        exact ⟨⟨_, rfl⟩, .inr ⟨_, HP.out, hJx4⟩⟩
    · gi_wp2
      go_end0
      refine ⟨⟨_, rfl⟩, .inl ?_⟩
      rw [List.take_of_length_le (by rw [pld_length]; omega)] at hJs
      exact hJs

set_option maxHeartbeats 400000 in
/-- shift.placed(list): the list is boxed; the function value captures the box. -/
theorem placed_any (v : Value) (w : World) (hv : ∃ A n c, v = .slice A n c) :
    Calls Try.prog 53 #[v] w fun e w' => e = .returned (.func (.func 87) #[] #[.pointer (some ⟨w.heap.size, 0, none⟩)]) ∧ w.alloc (.cells #[v] 22) = w' := by
  obtain ⟨A, n, c, rfl⟩ := hv
  have hmf : ∀ (fn : Fn) (first cap : Array Value) (w : World), (Instr.makeFunc fn first cap).run Try.prog w = .ok (.func fn first cap) w := fun _ _ _ _ => rfl
  go_enter Try.func53, Try.ntmps53
  go_wp2
  go_ret
  exact ⟨rfl, rfl⟩

set_option maxHeartbeats 400000 in
theorem pieces_any (A : Option Addr) (n c : Nat) (size : Int) (w : World) :
    Calls Try.prog 59 #[.slice A n c, .int .i64 size] w fun e w' =>
      e = .returned (.func (.func 90) #[] #[.pointer (some ⟨w.heap.size, 0, none⟩), .pointer (some ⟨w.heap.size + 1, 0, none⟩)]) ∧ (w.alloc (.cells #[.slice A n c] 22)).alloc (.cells #[.int .i64 size] 3) = w' := by
  have hmf : ∀ (fn : Fn) (first cap : Array Value) (w : World), (Instr.makeFunc fn first cap).run Try.prog w = .ok (.func fn first cap) w := fun _ _ _ _ => rfl
  go_enter Try.func59, Try.ntmps59
  go_wp2
  go_ret
  exact ⟨rfl, rfl⟩

set_option maxHeartbeats 400000 in
theorem going_any (A : Option Addr) (n c : Nat) (size : Int) (w : World) :
    Calls Try.prog 50 #[.slice A n c, .int .i64 size] w fun e w' =>
      e = .returned (.func (.func 85) #[] #[.pointer (some ⟨w.heap.size, 0, none⟩), .pointer (some ⟨w.heap.size + 1, 0, none⟩)]) ∧ (w.alloc (.cells #[.slice A n c] 22)).alloc (.cells #[.int .i64 size] 3) = w' := by
  have hmf : ∀ (fn : Fn) (first cap : Array Value) (w : World), (Instr.makeFunc fn first cap).run Try.prog w = .ok (.func fn first cap) w := fun _ _ _ _ => rfl
  go_enter Try.func50, Try.ntmps50
  go_wp2
  go_ret
  exact ⟨rfl, rfl⟩

abbrev pcv (p : Pc) : Value := .agg #[.int .i64 p.a, .int .i64 p.f, .int .i64 p.t, .string p.s]

set_option maxHeartbeats 400000 in
theorem went_any (p : Pc) (w : World) :
    Calls Try.prog 86 #[pcv p] w fun r w' => r = .returned (.bool (went p)) ∧ Below w.heap.size w w' := by
  go_enter Try.func86, Try.ntmps86
  go_wp2
  go_ret
  exact ⟨ret_bool (by simp only [went, ← bytes_none]), below1 _ _⟩

set_option maxHeartbeats 400000 in
theorem shift_any (p : Pc) (w : World) (h0 : -100000000 ≤ p.a) (h1 : p.a ≤ 100000000) (h2 : -100000000 ≤ p.f) (h3 : p.f ≤ 100000000) :
    Calls Try.prog 51 #[pcv p] w fun r w' => r = .returned (.int .i64 (p.a - p.f)) ∧ Below w.heap.size w w' := by
  go_enter Try.func51, Try.ntmps51
  go_wp2
  go_ret
  exact ⟨rfl, below1 _ _⟩

end Go.Proofs.Ytgfafinpcpiogaa
