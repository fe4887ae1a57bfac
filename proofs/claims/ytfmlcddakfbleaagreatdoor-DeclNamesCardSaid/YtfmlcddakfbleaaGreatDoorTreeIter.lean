/- The iterators over a tree's nodes, and over its leaves, for any loop body. -/
import Derived.Test.YtfmlcddakfbleaaGreatDoorTreeVisit
namespace Go.Proofs.YtfmlcddakfbleaaGreatDoor
open Go.RowKit Go.Shelf TreeMath

attribute [local go_sem] Oper.semAt_some

theorem eg_nodes : ∀ args w, (callFunc 74 args).run Tryz.prog w = .ok (.enter 74 args) w := by
  intro args w; simp [go_sem]
theorem eg_leaves : ∀ args w, (callFunc 56 args).run Tryz.prog w = .ok (.enter 56 args) w := by
  intro args w; simp [go_sem]

set_option maxRecDepth 100000 in
set_option maxHeartbeats 2000000 in
theorem nodes_iter (T : Tr) (w₀ : World) (b : Nat) (hT : Tn (lo w₀.heap.size) w₀ T) (hw : wt T ≤ 9000) :
    Iter Tryz.prog 74 #[.pointer (some ⟨b, 0, none⟩)] wv (wk 0 T) (fun X W => Low w₀.heap.size w₀ X W ∧ Has b (.cells (ncc T) 30 (0, 0)) X W) := by
  intro n m lp J Jx W hJ hJx hC hY h0
  have HV := Lib.hid (visit_any w₀.heap.size w₀ n m lp J Jx (wk 0 T) hJ hJx (fun pre X W h => (hC pre X W h).1) hY T 0 [] no W (Nat.zero_le _) hw hT (by simp) (fun _ h => h.elim) h0)
  have hb1 := (hC _ _ _ h0).2.2
  have q0 : W.cell? ⟨b, 0, none⟩ = some (.int .i64 T.k) := by simp [World.cell?, hb1]
  have q1 : W.cell? ⟨b, 1, none⟩ = some (.string T.g) := by simp [World.cell?, hb1]
  have q2 : W.cell? ⟨b, 2, none⟩ = some (.string T.t) := by simp [World.cell?, hb1]
  have q3 : W.cell? ⟨b, 3, none⟩ = some (.int .i64 T.a) := by simp [World.cell?, hb1]
  have q4 : W.cell? ⟨b, 4, none⟩ = some (.slice T.A T.kids.length T.c) := by simp [World.cell?, hb1]
  clear hJ hJx hC hY h0 hT hw hb1
  refine callsIn_of_wp Tryz.func74 rfl trivial ?_ rfl
  simp only [Tryz.ntmps74, List.size_toArray, List.length_cons, List.length_nil, Nat.reduceAdd, Nat.reduceSub, Array.replicate_succ, Array.replicate_zero, List.push_toArray, List.append_toArray, List.nil_append, List.cons_append]
  gi_wp2
  refine ⟨trivial, fun h => by simp [Fence.wide] at h, (callsIn_wide.2 (callsIn_wide.1 HV.out)).mono ?_⟩
  rintro r W4 ⟨hs4, hk4, (⟨rfl, hJ4⟩ | ⟨rfl, q, hq, hJx4⟩)⟩
  · gi_wp2
    refine bodyPost_end (results_none rfl _ _ _) rfl ?_
    exact ⟨⟨_, rfl⟩, .inl (by simpa using hJ4)⟩
  · gi_wp2
    refine bodyPost_end (results_none rfl _ _ _) rfl ?_
    exact ⟨⟨_, rfl⟩, .inr ⟨q, hq, hJx4⟩⟩
end Go.Proofs.YtfmlcddakfbleaaGreatDoor
