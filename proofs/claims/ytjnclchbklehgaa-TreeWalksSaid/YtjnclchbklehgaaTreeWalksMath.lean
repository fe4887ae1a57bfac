/- The law TreeWalks: plain facts, and the iterator of a tree that isn't right. -/
import Derived.Test.YtjnclchbklehgaaTreeRefPath
import Derived.Test.YtjnclchbklehgaaTreeWalkAll
import Derived.Test.YtjnclchbklehgaaTreeTextsWalk
namespace Go.Proofs.Ytjnclchbklehgaa
open Go.RowKit Go.Shelf TreeMath

theorem hasB_pl (a : Int) (T : Tr) : hasB a (pl T) = hasB a T := by
  unfold hasB
  rw [lf_pl, (sp_pl _).1, (sp_pl _).2.1, (sp_pl _).2.2]
theorem pth_of {a : Int} {l : List Tr} (h : ∀ x ∈ l, pthT a (pl x) = pthT a x) : pth a (l.map pl) = pth a l := by
  unfold pth
  induction l with
  | nil => rfl
  | cons y l ih =>
    rw [List.map_cons, List.find?_cons, List.find?_cons, hasB_pl]
    cases hasB a y with
    | false => exact ih fun x hx => h x (by simp [hx])
    | true => simp [h y (by simp)]
theorem pthT_pl (a : Int) (T : Tr) : pthT a (pl T) = pthT a T := by
  induction T using Tr.ind with | _ k g t a' A c kids ih =>
  rw [pthT_eq, pthT_eq, pl_eq]
  simp only
  rw [pth_of ih]
theorem rpt_pl (a : Int) (T : Tr) : rpt a (pl T) = rpt a T := by unfold rpt; rw [hasB_pl, pthT_pl]
theorem rpt_same {T U : Tr} (h : pl T = pl U) (a : Int) : rpt a T = rpt a U := by rw [← rpt_pl, h, rpt_pl]

set_option maxHeartbeats 400000 in
theorem walk0_iter (E : Nat × Tr → As) (C : As) : IterG Try.prog 40 #[] wv (fun l => l = []) (fun l => l = []) E C := by
  intro n m lp J Jx W hJ hJx hC hY h0
  refine callsIn_of_wp Try.func40 rfl trivial ?_ rfl
  simp only [Try.ntmps40, List.size_toArray, List.length_cons, List.length_nil, Nat.reduceAdd, Nat.reduceSub, Array.replicate_succ, Array.replicate_zero, List.push_toArray, List.append_toArray, List.nil_append, List.cons_append]
  gi_wp2
  refine bodyPost_end (results_none rfl _ _ _) rfl ?_
  exact ⟨⟨_, rfl⟩, .inl h0⟩
end Go.Proofs.Ytjnclchbklehgaa
