/- Trees in memory: what it means that a slice of nodes reads as trees, and how it is kept; a row of nodes that a call owns. -/
import Derived.Test.YtfmlcddakfbleaaGreatDoorRows
import Derived.Test.YtfmlcddakfbleaaGreatDoorTreeMath
import Derived.Below
import Derived.Laws.OwnMore
import Derived.Deep.AppendLies
import Derived.Deep.Draws
import Derived.WalkKit
import Derived.WalkSpells
import Derived.WalkLawsBesides
import Derived.Lib.Hide
import Derived.Maps.AppendAt
import Derived.Laws.AppendOwnNone
import Derived.OwnWalk
namespace Go.Proofs.YtfmlcddakfbleaaGreatDoor
open Go.RowKit TreeMath

abbrev nv (T : Tr) : Value := .agg #[.int .i64 T.k, .string T.g, .string T.t, .int .i64 T.a, .slice T.A T.kids.length T.c]
abbrev ncc (T : Tr) : Array Value := #[.int .i64 T.k, .string T.g, .string T.t, .int .i64 T.a, .slice T.A T.kids.length T.c]
def ncs (T : Tr) : List Value := [.int .i64 T.k, .string T.g, .string T.t, .int .i64 T.a, .slice T.A T.kids.length T.c]
def ncells (l : List Tr) : List Value := l.flatMap ncs

theorem ncells_length (l : List Tr) : (ncells l).length = l.length * 5 := by
  unfold ncells
  induction l with
  | nil => rfl
  | cons p ps ih => simp [List.flatMap_cons, ncs, ih]; omega
theorem ncells_snoc (l : List Tr) (x : Tr) : ncells (l ++ [x]) = ncells l ++ ncs x := by simp [ncells]

/-- a node's five cells stand at b, o -/
def At5 (w : World) (b o : Nat) (T : Tr) : Prop :=
  w.cell? ⟨b, o, none⟩ = some (.int .i64 T.k) ∧ w.cell? ⟨b, o + 1, none⟩ = some (.string T.g) ∧ w.cell? ⟨b, o + 2, none⟩ = some (.string T.t) ∧ w.cell? ⟨b, o + 3, none⟩ = some (.int .i64 T.a) ∧ w.cell? ⟨b, o + 4, none⟩ = some (.slice T.A T.kids.length T.c)

theorem ncells_at : ∀ (l : List Tr) (i : Nat) (x : Tr), l[i]? = some x → ∀ (j : Nat) (u : Value), (ncs x)[j]? = some u → (ncells l)[i * 5 + j]? = some u := by
  intro l
  induction l with
  | nil => intro i p h; simp at h
  | cons q ps ih =>
    intro i x h j u hu
    have hj : j < 5 := by have := (List.getElem?_eq_some_iff.1 hu).1; simpa [ncs] using this
    have he : ncells (q :: ps) = ncs q ++ ncells ps := by simp [ncells, List.flatMap_cons]
    have hl : (ncs q).length = 5 := rfl
    rw [he]
    cases i with
    | zero => simp at h; subst h; rw [List.getElem?_append_left (by omega)]; simpa using hu
    | succ i =>
      simp at h
      rw [List.getElem?_append_right (by omega), hl, show (i + 1) * 5 + j - 5 = i * 5 + j from by omega]
      exact ih i x h j u hu

theorem ncells_one (l : List Tr) : ∀ u ∈ ncells l, u.oneCell' = true := by
  intro u hu
  obtain ⟨x, _, hx⟩ := List.mem_flatMap.1 hu
  simp [ncs] at hx
  rcases hx with rfl | rfl | rfl | rfl | rfl <;> rfl

/-- cells that stand in a block from a place on are these nodes' -/
theorem at5_of {w : World} {b off : Nat} {l : List Tr} (h : ∀ (j : Nat) (u : Value), (ncells l)[j]? = some u → w.cell? ⟨b, off + j, none⟩ = some u) {i : Nat} {x : Tr} (hx : l[i]? = some x) : At5 w b (off + i * 5) x := by
  have h' := fun j u hu => h _ u (ncells_at l i x hx j u hu)
  refine ⟨?_, ?_, ?_, ?_, ?_⟩
  · simpa using h' 0 _ rfl
  · have := h' 1 _ rfl; rwa [← Nat.add_assoc] at this
  · have := h' 2 _ rfl; rwa [← Nat.add_assoc] at this
  · have := h' 3 _ rfl; rwa [← Nat.add_assoc] at this
  · have := h' 4 _ rfl; rwa [← Nat.add_assoc] at this

/-- a slice of nodes lies in one of the blocks S -/
def Tks (S : Nat → Prop) (w : World) (A : Option Addr) (l : List Tr) : Prop :=
  0 < l.length → ∃ b off, A = some ⟨b, off, none⟩ ∧ S b ∧ ∀ (i : Nat) (e : Tr), l[i]? = some e → At5 w b (off + i * 5) e

def rng (a : Int) : Prop := -9223372036854775808 ≤ a ∧ a ≤ 9223372036854775807

/-- a tree's kids, and theirs, lie in the blocks S -/
def Tn (S : Nat → Prop) (w : World) (T : Tr) : Prop := fold (α := Prop) (fun _ _ _ a A _ kids r => rng a ∧ Tks S w A kids ∧ ∀ p ∈ r, p) T
theorem tn_iff {S : Nat → Prop} {w : World} {T : Tr} : Tn S w T ↔ rng T.a ∧ Tks S w T.A T.kids ∧ ∀ x ∈ T.kids, Tn S w x := by
  unfold Tn
  rw [fold_eq]
  simp only [List.mem_map, forall_exists_index, and_imp, forall_apply_eq_imp_iff₂]

section
variable {S S' : Nat → Prop} {w w' : World} {A : Option Addr} {l : List Tr} {T : Tr}
theorem At5.keep {b o : Nat} (h : At5 w b o T) (hk : ∀ i, w'.cell? ⟨b, i, none⟩ = w.cell? ⟨b, i, none⟩) : At5 w' b o T :=
  ⟨(hk _).trans h.1, (hk _).trans h.2.1, (hk _).trans h.2.2.1, (hk _).trans h.2.2.2.1, (hk _).trans h.2.2.2.2⟩
theorem Tks.keep (h : Tks S w A l) (hk : ∀ b i, S b → w'.cell? ⟨b, i, none⟩ = w.cell? ⟨b, i, none⟩) (hS : ∀ b, S b → S' b) : Tks S' w' A l := fun hn => by
  obtain ⟨b, off, e, hb, hc⟩ := h hn
  exact ⟨b, off, e, hS b hb, fun i d hd => (hc i d hd).keep fun i => hk b i hb⟩
theorem Tn.keep (hk : ∀ b i, S b → w'.cell? ⟨b, i, none⟩ = w.cell? ⟨b, i, none⟩) (hS : ∀ b, S b → S' b) (h : Tn S w T) : Tn S' w' T := by
  revert h
  induction T using Tr.ind with | _ k g t a A c kids ih =>
  rw [tn_iff, tn_iff]
  rintro ⟨h1, h2, h3⟩
  exact ⟨h1, h2.keep hk hS, fun x hx => ih x hx (h3 x hx)⟩
theorem Tn.kid {x : Tr} (h : Tn S w T) (hx : x ∈ T.kids) : Tn S w x := (tn_iff.1 h).2.2 x hx
theorem Tn.rng (h : Tn S w T) : rng T.a := (tn_iff.1 h).1
theorem Tn.at_ {i : Nat} {x : Tr} (h : Tn S w T) (hx : T.kids[i]? = some x) : ∃ b off, T.A = some ⟨b, off, none⟩ ∧ S b ∧ At5 w b (off + i * 5) x := by
  have hl := (List.getElem?_eq_some_iff.1 hx).1
  obtain ⟨b, off, e, hb, hc⟩ := (tn_iff.1 h).2.1 (by omega)
  exact ⟨b, off, e, hb, hc i x hx⟩
theorem Tn.node (h : Tn S w T) : ∀ x ∈ ns T, Tn S w x := by
  revert h
  induction T using Tr.ind with | _ k g t a A c kids ih =>
  intro h x hx
  rw [ns_eq] at hx
  rcases List.mem_cons.1 hx with rfl | hx
  · exact h
  · obtain ⟨y, hy, hx⟩ := List.mem_flatMap.1 hx
    exact ih y hy (h.kid hy) x hx
end

/-- below block B -/
abbrev lo (B : Nat) : Nat → Prop := fun b => b < B
/-- among the blocks from B on, of w -/
abbrev nw (B : Nat) (w : World) : Nat → Prop := fun b => B ≤ b ∧ b < w.heap.size

section
variable {w w' : World} {B B' : Nat} {T : Tr}
theorem cell_of {b i : Nat} (h : w'.heap[b]? = w.heap[b]?) : w'.cell? ⟨b, i, none⟩ = w.cell? ⟨b, i, none⟩ := World.cell?_of_block (a := ⟨b, i, none⟩) h
theorem Tn.below (h : Tn (lo B) w T) (hb : Below B w w') : Tn (lo B) w' T := h.keep (fun _ _ hp => cell_of (hb.block _ hp)) fun _ h => h
theorem Tn.more (h : Tn (lo B) w T) (hB : B ≤ B') : Tn (lo B') w T := h.keep (fun _ _ _ => rfl) fun _ h => Nat.lt_of_lt_of_le h hB
theorem Tn.after (h : Tn (lo w.heap.size) w T) (hb : Below w.heap.size w w') : Tn (lo w'.heap.size) w' T := (h.below hb).more hb.size
theorem Tn.alloc (h : Tn (lo B) w T) (hB : B ≤ w.heap.size) (o : Obj) : Tn (lo B) (w.alloc o) T := h.keep (fun _ _ hp => cell_of (Below.heap_alloc w o _ (Nat.lt_of_lt_of_le hp hB))) fun _ h => h
theorem Tn.all (h : Tn (nw B w) w T) : Tn (lo w.heap.size) w T := h.keep (fun _ _ _ => rfl) fun _ h => h.2
theorem Tn.new (h : Tn (nw B w) w T) (hb : Below w.heap.size w w') : Tn (nw B w') w' T := h.keep (fun _ _ hp => cell_of (hb.block _ hp.2)) fun _ h => ⟨h.1, Nat.lt_of_lt_of_le h.2 hb.size⟩
theorem Tn.less (h : Tn (nw B w) w T) (hB : B' ≤ B) : Tn (nw B' w) w T := h.keep (fun _ _ _ => rfl) fun _ h => ⟨Nat.le_trans hB h.1, h.2⟩
end

/-- a row of nodes of the call's own; what lies below them lies beside it, from block base on -/
structure NRow (e : TypeId) (base : Nat) (v : Value) (m : List Tr) (w : World) : Prop where
  row : w.ownsRow base e 5 v m.length (ncells m)
  kids : ∀ x ∈ m, Tn (fun b => nw base w b ∧ v.ownBlock ≠ some b) w x

section
variable {e : TypeId} {base : Nat} {v : Value} {m : List Tr} {w w' : World}
theorem NRow.nil (e : TypeId) (base : Nat) (w : World) : NRow e base (.slice none 0 0) [] w := ⟨World.ownsRow_nil _ _ _ _, by simp⟩
theorem NRow.lt (h : NRow e base v m w) : ∀ k, v.ownBlock = some k → base ≤ k ∧ k < w.heap.size := World.ownsRow.lt h.row
theorem NRow.form (h : NRow e base v m w) : ∃ A c, v = .slice A m.length c := by
  rcases h.row.2 with ⟨hv, hn⟩ | ⟨g, cap, cur, hv, _⟩
  · exact ⟨none, 0, by rw [hv, hn]⟩
  · exact ⟨_, _, hv⟩
theorem NRow.keep (h : NRow e base v m w) (hs : w.heap.size ≤ w'.heap.size) (hk : ∀ b, nw base w b → w'.heap[b]? = w.heap[b]?) : NRow e base v m w' := by
  refine ⟨⟨h.row.1, ?_⟩, fun x hx => (h.kids x hx).keep (fun b i hb => cell_of (hk b hb.1)) fun b hb => ⟨⟨hb.1.1, Nat.lt_of_lt_of_le hb.1.2 hs⟩, hb.2⟩⟩
  rcases h.row.2 with h2 | ⟨g, cap, cur, hv, hb, hg, r⟩
  · exact .inl h2
  · exact .inr ⟨g, cap, cur, hv, hb, (hk g ⟨hb, (Array.getElem?_eq_some_iff.1 hg).1⟩).trans hg, r⟩
theorem NRow.below (h : NRow e base v m w) (hb : Below w.heap.size w w') : NRow e base v m w' := h.keep hb.size fun b hn => hb.block b hn.2
theorem NRow.set (h : NRow e base v m w) {p : Addr} (hp : p.block < base) (u : Value) : NRow e base v m (w.setCell p u) :=
  h.keep (by simp [World.setCell]) fun b hb => Below.heap_setCell _ _ _ _ (by have := hb.1; omega)
theorem NRow.reads {A : Option Addr} {c : Nat} (h : NRow e base (.slice A m.length c) m w) : Tks (nw base w) w A m := fun hn => by
  rcases h.row.2 with ⟨hv, h0⟩ | ⟨g, cap, cur, hv, hb, hg, _⟩
  · omega
  · injection hv with hA hm hc
    subst hA
    have hc := World.ownsRow.cells h.row (g := g) rfl
    refine ⟨g, 0, rfl, ⟨hb, (Array.getElem?_eq_some_iff.1 hg).1⟩, fun i x hx => at5_of (fun j u hu => ?_) hx⟩
    have := hc j u hu
    rwa [Addr.add_lit] at this
/-- the node of these kids -/
theorem NRow.tn {A : Option Addr} {c : Nat} (h : NRow e base (.slice A m.length c) m w) {k a : Int} {g t : ByteArray} (ha : rng a) : Tn (nw base w) w ⟨k, g, t, a, A, c, m⟩ :=
  tn_iff.2 ⟨ha, h.reads, fun x hx => (h.kids x hx).keep (fun _ _ _ => rfl) fun _ hb => hb.1⟩
end

def nodeZero : Value := .agg #[.int .i64 0, .string ⟨#[]⟩, .string ⟨#[]⟩, .int .i64 0, .slice none 0 0]
theorem info_tnode : (Tryz.prog.info? 30).map (fun i => (i.zero, i.size, i.bytes)) = some (some (.agg #[.int .i64 0, .string ⟨#[]⟩, .string ⟨#[]⟩, .int .i64 0, .slice none 0 0]), 5, 72) := by kernel_rfl

/-- behind an append: the row with one node more -/
theorem NRow.grown {e : TypeId} {base : Nat} {v v' : Value} {m : List Tr} {x : Tr} {V w' : World} (h : NRow e base v m V) (hx : Tn (fun b => nw base V b ∧ v.ownBlock ≠ some b) V x)
    (hown : w'.ownsRow base e 5 v' (m.length + 1) (ncells m ++ ncs x)) (hg : V.grownBy w' v.ownBlock) (hat : v'.ownBlock = v.ownBlock ∨ v'.ownBlock = some V.heap.size) : NRow e base v' (m ++ [x]) w' := by
  refine ⟨by rw [List.length_append, ncells_snoc]; exact hown, fun y hy => ?_⟩
  have h1 : Tn (fun b => nw base V b ∧ v.ownBlock ≠ some b) V y := by
    rcases List.mem_append.1 hy with hy | hy
    · exact h.kids y hy
    · rw [List.mem_singleton.1 hy]; exact hx
  refine h1.keep (fun b i hb => cell_of (hg.block b hb.1.2 (fun q => hb.2 q.symm))) fun b hb => ⟨⟨hb.1.1, Nat.lt_of_lt_of_le hb.1.2 hg.size⟩, ?_⟩
  rcases hat with hat | hat
  · rw [hat]; exact hb.2
  · rw [hat]; intro q; injection q with q; have := hb.1.2; omega
/-- a tree made since lies beside the row -/
theorem NRow.beside {e : TypeId} {base : Nat} {v : Value} {m : List Tr} {x : Tr} {w V : World} (h : NRow e base v m w) (_hB : w.heap.size ≤ V.heap.size) (hb : base ≤ w.heap.size) (hx : Tn (nw w.heap.size V) V x) : Tn (fun b => nw base V b ∧ v.ownBlock ≠ some b) V x :=
  hx.keep (fun _ _ _ => rfl) fun b hb' => ⟨⟨Nat.le_trans hb hb'.1, hb'.2⟩, fun q => by have := (h.lt b q).2; have := hb'.1; omega⟩

/-- one node appended, in a plain region -/
theorem wpList_append_node {ops : Array Oper} {rest : List Oper} {o : Oper} {a : Act} {Q : Exit → Act → World → Prop} (hgd : o.guard = none) (s x : Operand) (t e : TypeId)
    (ho : o.op = .call { callee := .builtin .append, args := #[s, x], argTypes := #[t, t] }) (ht : Tryz.prog.underlying t = some (.slice e)) (hinfo : (Tryz.prog.info? e).map (fun i => (i.zero, i.size, i.bytes)) = some (some (.agg #[.int .i64 0, .string ⟨#[]⟩, .string ⟨#[]⟩, .int .i64 0, .slice none 0 0]), 5, 72))
    (V : World) (base : Nat) (v : Value) (m : List Tr) (T : Tr) (X : Nat)
    (hs : a.eval s = v) (hx : a.eval x = .slice (some ⟨X, 0, none⟩) 1 1) (hblk : V.heap[X]? = some (.cells (ncc T) e (0, 0))) (hrow : NRow e base v m V) (hT : Tn (fun b => nw base V b ∧ v.ownBlock ≠ some b) V T) (hn : m.length ≤ 20000) (hbase : base ≤ V.heap.size)
    (h : ∀ A' c' w', NRow e base (.slice A' (m ++ [T]).length c') (m ++ [T]) w' → V.grownBy w' v.ownBlock → wpList Tryz.prog ops Q rest (a.put o.dst (.slice A' (m ++ [T]).length c')) w') :
    wpList Tryz.prog ops Q (o :: rest) a V := by
  obtain ⟨i0, hi, hz0, hz1, hz2⟩ := info_parts hinfo
  refine wpList_append_own_at V hgd s x t ho base e i0 _ 5 72 ht hi hz0 hz1 hz2 rfl (by decide) _ _ _ hs hrow.row ⟨X, 0, none⟩ 1 1 (ncs T) hx rfl (World.news_of_block hblk) (by intro u hu; simp [ncs] at hu; rcases hu with rfl | rfl | rfl | rfl | rfl <;> rfl) (by unfold maxLen; omega) (by omega) hbase ?_
  intro v' w' hown hg _ hat
  have hr := hrow.grown hT hown hg hat
  obtain ⟨A', c', rfl⟩ := hr.form
  exact h A' c' w' hr hg

/-- the same, at a step of a region that draws its order -/
theorem step_append_node {ops : Array Oper} {o : Oper} {a : Act} {K : Act → World → Prop} {Q : Exit → Act → World → Prop} {F : Prop} (hgd : o.guard = none) (s x : Operand) (t e : TypeId)
    (ho : o.op = .call { callee := .builtin .append, args := #[s, x], argTypes := #[t, t] }) (ht : Tryz.prog.underlying t = some (.slice e)) (hinfo : (Tryz.prog.info? e).map (fun i => (i.zero, i.size, i.bytes)) = some (some (.agg #[.int .i64 0, .string ⟨#[]⟩, .string ⟨#[]⟩, .int .i64 0, .slice none 0 0]), 5, 72))
    (V : World) (base : Nat) (v : Value) (m : List Tr) (T : Tr) (X : Nat)
    (hs : a.eval s = v) (hx : a.eval x = .slice (some ⟨X, 0, none⟩) 1 1) (hblk : V.heap[X]? = some (.cells (ncc T) e (0, 0))) (hrow : NRow e base v m V) (hT : Tn (fun b => nw base V b ∧ v.ownBlock ≠ some b) V T) (hn : m.length ≤ 20000) (hbase : base ≤ V.heap.size)
    (h : ∀ A' c' w', NRow e base (.slice A' (m ++ [T]).length c') (m ++ [T]) w' → V.grownBy w' v.ownBlock → K (a.put o.dst (.slice A' (m ++ [T]).length c')) w') :
    if Region.wanted o (yielded ops a.tmps) = true then Oper.wp Tryz.prog o a V K Q else F := by
  have hw : Region.wanted o (yielded ops a.tmps) = true := by simp [Region.wanted, hgd]
  rw [if_pos hw]
  obtain ⟨i0, hi, hz0, hz1, hz2⟩ := info_parts hinfo
  obtain ⟨v', w', hr, hown, hg, _, hat⟩ := run_append_own_at (P := Tryz.prog) V base t o.type e i0 _ 5 72 ht hi hz0 hz1 hz2 rfl (by decide) _ _ _ hrow.row ⟨X, 0, none⟩ 1 1 (ncs T) rfl
    (World.news_of_block hblk) (by intro u hu; simp [ncs] at hu; rcases hu with rfl | rfl | rfl | rfl | rfl <;> rfl) (by unfold maxLen; omega) (by omega) hbase
  have hr2 := hrow.grown hT hown hg hat
  obtain ⟨A', c', rfl⟩ := hr2.form
  unfold Oper.wp execOp
  simp only [ho, resolve, invoke, builtin, Sem.run_bind, Sem.run_pure, Result.andThen_ok, List.map_toArray, List.map_cons, List.map_nil, hs, hx, hr]
  exact h A' c' w' hr2 hg

/-- behind an append: what lay before base is as it was -/
theorem below_append {w W w' : World} {e : TypeId} {B base : Nat} {v : Value} {m : List Tr} (hB : Below B w W) (hg : W.grownBy w' v.ownBlock) (hrow : NRow e base v m W) (hb : B ≤ base) (hW : B ≤ W.heap.size) : Below B w w' :=
  hB.grown hg hW (fun k e => by have := (hrow.lt k e).1; omega)

theorem below_drewN {B : Nat} {a w : World} (h : Below B a w) (n : Nat) : Below B a (w.drewN n) := ⟨h.os, h.tape, h.output, h.size, h.block⟩
theorem below1 (w : World) (o : Obj) : Below w.heap.size w (w.alloc o) := (Below.refl _ w).alloc (Nat.le_refl _) _
theorem ret_int {k : IntKind} {a b : Int} (h : a = b) : Ending.returned (.int k a) = .returned (.int k b) := by rw [h]
theorem ret_bool {a b : Bool} (h : a = b) : Ending.returned (.bool a) = .returned (.bool b) := by rw [h]
end Go.Proofs.YtfmlcddakfbleaaGreatDoor
