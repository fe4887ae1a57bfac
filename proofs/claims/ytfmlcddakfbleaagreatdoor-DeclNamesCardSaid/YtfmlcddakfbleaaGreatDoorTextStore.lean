/- A store of a bool, as one operation, over any program. -/
import Derived.WalkKit
import Derived.Deep.RegionHeld3
namespace Go.Proofs.YtfmlcddakfbleaaGreatDoor
open Go.RowKit

theorem wp_store_bool {P : Program} {o : Oper} {a : Act} {w : World} {K : Act → World → Prop} {Q : Exit → Act → World → Prop} (t : TypeId) (x y : Operand) (ho : o.op = .store t x y) (hsz : ∀ w : World, (sizeOf t).run P w = .ok 1 w) (ad : Addr) (b : Bool) (u : Value)
    (hx : a.eval x = .pointer (some ad)) (hy : a.eval y = .bool b) (hc : w.cell? ad = some u) (hf : w.frozen? ad = false) (hK : K (a.put o.dst undef) (w.setCell ad (.bool b))) : o.wp P a w K Q := by
  unfold Oper.wp
  simp only [execOp, ho, hx, hy]
  simp [go_sem, hsz, hc, hf]
  exact hK

/-- the same, as one step of a region that draws its order -/
theorem step_store_bool {P : Program} {ops : Array Oper} {o : Oper} {a : Act} {w : World} {K : Act → World → Prop} {Q : Exit → Act → World → Prop} {E : Prop} (hg : o.guard = none) (t : TypeId) (x y : Operand) (ho : o.op = .store t x y) (hsz : ∀ w : World, (sizeOf t).run P w = .ok 1 w) (ad : Addr) (b : Bool) (u : Value)
    (hx : a.eval x = .pointer (some ad)) (hy : a.eval y = .bool b) (hc : w.cell? ad = some u) (hf : w.frozen? ad = false) (hK : K (a.put o.dst undef) (w.setCell ad (.bool b))) :
    if Region.wanted o (yielded ops a.tmps) = true then Oper.wp P o a w K Q else E := by
  have hw : Region.wanted o (yielded ops a.tmps) = true := by simp [Region.wanted, hg]
  rw [if_pos hw]
  exact wp_store_bool t x y ho hsz ad b u hx hy hc hf hK

/-- an operation that is taken first; its slot is named -/
theorem wpAnyH_take_d {P : Program} {md : Region.Mode} {ops : Array Oper} {Q : Exit → Act → World → Prop} {S : World → Prop} {i : Nat} {oi : Oper} {v : Value} {fuel : Nat} {listed : Array Bool} {a : Act} {w : World} (d : Tmp) (hi : ops[i]? = some oi) (hd : oi.dst = some d)
    (hs : Region.noSelect ops = true) (hf : Region.free md ops listed i = true) (hr : (Region.ready md ops listed).contains i = true)
    (hQ : ∀ c a w, Q (.panic c) (a.put (some d) v) w → Q (.panic c) a w) (hy : YieldsIf P ops S oi v a) (hS : S w)
    (h : wpAnyH P md ops Q S fuel (listed.setIfInBounds i true) (a.put (some d) v) w) : wpAnyH P md ops Q S (fuel + 1) listed a w :=
  wpAnyH_take hi hs hf hr (by rw [hd]; exact hQ) hy hS (by rw [hd]; exact h)

/-- the last operation of a region that draws its order: a bool is stored -/
theorem wpAnyH_store {P : Program} {md : Region.Mode} {ops : Array Oper} {Q : Exit → Act → World → Prop} {S : World → Prop} {fuel : Nat} {listed : Array Bool} {a : Act} {w : World} (i : Nat) (t : TypeId) (x y : Operand)
    (hr : Region.ready md ops listed = [i]) (hop : (ops[i]?).map (fun o => (o.op, o.dst, o.guard)) = some (.store t x y, none, none)) (hsz : ∀ w : World, (sizeOf t).run P w = .ok 1 w) (ad : Addr) (b : Bool)
    (hx : a.eval x = .pointer (some ad)) (hy : a.eval y = .bool b) (hc : ∃ u, w.cell? ad = some u) (hf : w.frozen? ad = false) (hS : S (w.setCell ad (.bool b))) (hr' : Region.ready md ops (listed.setIfInBounds i true) = []) (hQ : Q .normal a (w.setCell ad (.bool b))) :
    wpAnyH P md ops Q S (fuel + 1) listed a w := by
  obtain ⟨u, hc⟩ := hc
  obtain ⟨o, ho, he⟩ := Option.map_eq_some_iff.1 hop
  injection he with h1 h2
  injection h2 with h2 h3
  refine wpAnyH_ready (rs := [i]) hr (by simp) (AllReadyH.cons ho (fun K hK => step_store_bool h3 t x y h1 hsz ad b u hx hy hc hf ?_) AllReadyH.nil)
  rw [h2]
  exact hK.out _ _ hS (fun _ => wpAnyH_done hr' hQ _)

end Go.Proofs.YtfmlcddakfbleaaGreatDoor
