/- sign.Keywords: the iterator hands all keywords, in their order, to any loop. -/
import Derived.Test.YtbgjjklglkhnlaaDoorSignLaws
import Derived.Test.YtbgjjklglkhnlaaDoorShiftFrame
import Derived.Test.YtbgjjklglkhnlaaDoorTextBridge
import Derived.RangeFuncCalls
import Derived.RangeFuncLeaves
import Derived.Shelf.Abstract
import Derived.Shelf.RegionOpen
import Derived.OwnWalkIn
import Derived.TacticsInMore
import Derived.LoopNIn
import Derived.LoopIn
namespace Go.Proofs.YtbgjjklglkhnlaaDoor
open Go.RowKit Go.Shelf SignMath

attribute [local go_sem] Oper.semAt_some

/-- what the iterator reads -/
def KwC : As := fun X W => ∃ t fr, Has 0 (.cells kwc.toArray t fr) X W

/-- an array that is loaded whole, within a fence -/
theorem wpListIn_load_row {F : Fence} {n : Nat} {P : Program} {ops : Array Oper} {rest : List Oper} {o : Oper} {a : Act} {w : World} {Q : Exit → Act → World → Prop} (hgd : o.guard = none) (ty : TypeId) (x : Operand) (ho : o.op = .load ty x)
    (g : Nat) (hx : a.eval x = .pointer (some ⟨g, 0, none⟩)) (t : TypeId) (cs : Array Value) (fr : Nat × Nat) (d : TypeDesc) (hg : w.heap[g]? = some (.cells cs t fr))
    (hu : P.underlying ty = some d) (hd : (match d with | .struct _ | .array _ _ => true | _ => false) = true) (hi : (P.info? ty).map (·.size) = some cs.size)
    (h : wpListIn F n P ops Q rest (a.put o.dst (.agg cs)) w) : wpListIn F n P ops Q (o :: rest) a w := by
  refine wpListIn_plain hgd fun K hK' => ?_
  unfold Oper.wpIn
  refine ⟨by simp [Oper.about, ho], ?_⟩
  rw [Oper.semAt_plain F _ _ (by rw [ho]; intro c hc'; cases hc')]
  unfold execOp
  simp only [ho, hx, Instr.loadAt, Instr.sureAddr, Sem.run_bind, Sem.run_pure, Result.andThen_ok, run_loadVar_row w g t ty cs fr d hg hu hd hi]
  exact hK' _ _ h

set_option maxRecDepth 100000 in
set_option maxHeartbeats 1000000 in
theorem keys_iter : Iter Tryd.prog 30 #[] (fun x : ByteArray => #[.string x]) kws KwC := by
  intro n m lp J Jx W hJ hJx hC hY h0
  have HY := Lib.hid hY
  have HC := Lib.hid hC
  have HJ := Lib.hid hJ
  have HJx := Lib.hid hJx
  clear hY hC hJ hJx
  obtain ⟨t, fr, _, hg⟩ := HC.out _ _ _ h0
  have HG := Lib.hid hg
  clear hg
  refine callsIn_of_wp Tryd.func30 rfl trivial ?_ rfl
  simp only [Tryd.ntmps30, List.size_toArray, List.length_cons, List.length_nil, Nat.reduceAdd, Nat.reduceSub, Array.replicate_succ, Array.replicate_zero, List.push_toArray, List.append_toArray, List.nil_append, List.cons_append]
  gi_wp2_with (with_reducible refine wpListIn_load_row rfl 45 (.global 0) rfl 0 rfl t kwc.toArray fr _ HG.out Tryd.underlying45 rfl (by kernel_rfl) ?_)
  gi_loopw [3, 5] (fun _ i wr => ∃ k : Nat, i = .int .i64 k ∧ k ≤ 18 ∧ J (kws.take k) no wr) (fun _ i _ => 18 - (intOf i).toNat)
  case atStart => exact ⟨0, rfl, Nat.zero_le _, h0⟩
  case round =>
    obtain ⟨k, rfl, hk, hJs⟩ := hrel
    by_cases hlt : k < 18
    · have hx : kws[k]? = some kws[k] := List.getElem?_eq_getElem hlt
      generalize kws[k] = x at hx
      have hi := index_words hx wr
      have HT : Hid (kws.take (k + 1) = kws.take k ++ [x]) := Lib.hid (by rw [List.take_add_one, hx]; rfl)
      have HP : Hid (kws.take k ++ [x] <+: kws) := Lib.hid (by rw [← HT.out]; exact List.take_prefix _ _)
      clear hx
      obtain ⟨fn, tmps, assign, body, hy, hR⟩ := HY.out _ x no wr (fun _ h => h.elim) hJs HP.out
      gi_wp2
      refine round_any (hR.mono ?_)
      rintro r W3 ⟨hs3, hk3, (⟨rfl, hJ3⟩ | ⟨rfl, hJx3⟩)⟩
      · clear hk3 hy
        gi_wp2
        go_roundw
        case rel => exact ⟨k + 1, by go_num, by omega, by rw [HT.out]; exact hJ3⟩
        case measure => simp [intOf]; omega
      · gi_wp2
        refine bodyPost_ret (results_none rfl _ _ _) rfl ?_
        exact ⟨⟨_, rfl⟩, .inr ⟨_, HP.out, hJx3⟩⟩
    · gi_wp2
      go_end0
      refine ⟨⟨_, rfl⟩, .inl ?_⟩
      rw [List.take_of_length_le (by rw [kws_length]; omega)] at hJs
      exact hJs

set_option maxHeartbeats 400000 in
theorem keywords_any (w : World) : Calls Tryd.prog 23 #[] w fun e w' => e = .returned (.func (.func 30) #[] #[]) ∧ w = w' := by
  go_enter Tryd.func23, Tryd.ntmps23
  go_wp2
  go_ret
  exact ⟨rfl, rfl⟩
end Go.Proofs.YtbgjjklglkhnlaaDoor
