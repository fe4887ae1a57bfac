/- The document's Right, Walk and Leaves. -/
import Derived.Test.YtjnclchbklehgaaGreatDoorTreeLeft
import Derived.Test.YtjnclchbklehgaaGreatDoorMzBox
namespace Go.Proofs.YtjnclchbklehgaaGreatDoor
open Go.RowKit TreeMath


















def ics (p : Nat × Tr) : List Value := [.int .i64 (p.1 : Nat), .int .i64 p.2.k, .string p.2.g, .string p.2.t, .int .i64 p.2.a, .slice p.2.A p.2.kids.length p.2.c]
def icells (l : List (Nat × Tr)) : List Value := l.flatMap ics
theorem icells_append (a b : List (Nat × Tr)) : icells (a ++ b) = icells a ++ icells b := by simp [icells]
theorem icells_one (p : Nat × Tr) : icells [p] = ics p := by simp [icells]




/-- what a call that appends to a row leaves -/
structure Gw (v v' : Value) (w w' : World) : Prop where
  grown : w.grownBy w' v.ownBlock
  own : v'.ownBlock = v.ownBlock ∨ ∀ k, v'.ownBlock = some k → w.heap.size ≤ k
theorem Gw.trans {v v' v'' : Value} {a b c : World} (h : Gw v v' a b) (k : Gw v' v'' b c) : Gw v v'' a c := by
  refine ⟨⟨k.grown.os.trans h.grown.os, k.grown.tape.trans h.grown.tape, k.grown.output.trans h.grown.output, Nat.le_trans h.grown.size k.grown.size, fun i hi hne => ?_⟩, ?_⟩
  · refine (k.grown.block i (Nat.lt_of_lt_of_le hi h.grown.size) ?_).trans (h.grown.block i hi hne)
    rcases h.own with e | e
    · rw [e]; exact hne
    · intro q; have := e i q.symm; omega
  · rcases k.own with e | e
    · rw [e]; exact h.own
    · exact .inr fun i hi => Nat.le_trans h.grown.size (e i hi)
theorem Gw.refl (v : Value) (w : World) : Gw v v w w := ⟨World.grownBy.refl _ _, .inl rfl⟩
theorem Gw.alloc (v : Value) (w : World) (o : Obj) : Gw v v w (w.alloc o) := ⟨World.grownBy_alloc _ _ _, .inl rfl⟩















theorem rfm_take {β : Type} (f : Tr → List β) {l : List Tr} {j : Nat} {e : Tr} (h : l[j]? = some e) : (l.take (j + 1)).flatMap f = (l.take j).flatMap f ++ f e := by
  rw [List.take_add_one, h]; simp
theorem rfm_len {l : List Tr} (d j : Nat) : ((l.take j).flatMap (wk d)).length ≤ (l.map cn).sum := by
  rw [List.length_flatMap]
  have h : ((l.take j).map fun x => (wk d x).length) = (l.take j).map cn := List.map_congr_left fun x _ => wk_length d x
  rw [h]
  have := congrArg (fun l => (l.map cn).sum) (List.take_append_drop j l)
  simp only [List.map_append, List.sum_append] at this
  omega
theorem Gw.tn {v v' : Value} {base : Nat} {w w' : World} {T : Tr} (h : Gw v v' w w') (hb : base ≤ w.heap.size) (hv : ∀ k, v.ownBlock = some k → base ≤ k) (hT : Tn (lo base) w T) : Tn (lo base) w' T :=
  hT.keep (fun b _ hp => cell_of (h.grown.block b (Nat.lt_of_lt_of_le hp hb) (fun q => by have := hv b q.symm; have : b < base := hp; omega))) fun _ h => h








































































end Go.Proofs.YtjnclchbklehgaaGreatDoor
