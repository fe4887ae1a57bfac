/- What a law holds on the way: boxes with what they hold, trees that read so, boxes of its own that are not stored into yet. -/
import Derived.Test.YtfmlcddakfbleaaGreatDoorTreeMake
namespace Go.Proofs.YtfmlcddakfbleaaGreatDoor
open Go.RowKit TreeMath

abbrev zbx (t : TypeId) : Obj := .cells #[.int .i64 0, .string ⟨#[]⟩, .string ⟨#[]⟩, .int .i64 0, .slice none 0 0] t (0, 0)
/-- since w: the boxes bs hold what they hold, the trees ts read so, the boxes zs are still zero -/
structure BK (w : World) (bs : List (Nat × Obj)) (ts : List Tr) (t : TypeId) (zs : List Nat) (W : World) : Prop where
  low : Below w.heap.size w W
  has : ∀ q ∈ bs, W.heap[q.1]? = some q.2
  tn : ∀ T ∈ ts, Tn (fun b => b < W.heap.size ∧ b ∉ zs) W T
  zb : ∀ z ∈ zs, w.heap.size ≤ z ∧ W.heap[z]? = some (zbx t)
  ne : ∀ q ∈ bs, q.1 ∉ zs
  nd : zs.Nodup

section
variable {w W W' : World} {bs bs' : List (Nat × Obj)} {ts ts' : List Tr} {t : TypeId} {zs : List Nat}
theorem BK.size (h : BK w bs ts t zs W) : w.heap.size ≤ W.heap.size := h.low.size
theorem BK.lt (h : BK w bs ts t zs W) {b : Nat} {o : Obj} (hb : (b, o) ∈ bs) : b < W.heap.size := (Array.getElem?_eq_some_iff.1 (h.has _ hb)).1
theorem BK.zlt (h : BK w bs ts t zs W) {z : Nat} (hz : z ∈ zs) : z < W.heap.size := (Array.getElem?_eq_some_iff.1 (h.zb _ hz).2).1
theorem BK.tree (h : BK w bs ts t zs W) {T : Tr} (hT : T ∈ ts) : Tn (lo W.heap.size) W T := (h.tn T hT).keep (fun _ _ _ => rfl) fun _ hb => hb.1
theorem BK.begin (w : World) : BK w [] [] t [] w := ⟨Below.refl _ _, by simp, by simp, by simp, by simp, List.nodup_nil⟩
theorem BK.step (h : BK w bs ts t zs W) (hb : Below W.heap.size W W') : BK w bs ts t zs W' :=
  ⟨h.low.trans (hb.mono h.size), fun q hq => (hb.block _ (h.lt hq)).trans (h.has q hq), fun T hT => (h.tn T hT).keep (fun _ _ hp => cell_of (hb.block _ hp.1)) fun _ hp => ⟨Nat.lt_of_lt_of_le hp.1 hb.size, hp.2⟩,
    fun z hz => ⟨(h.zb z hz).1, (hb.block _ (h.zlt hz)).trans (h.zb z hz).2⟩, h.ne, h.nd⟩
theorem BK.more (h : BK w bs ts t zs W) {T : Tr} (hT : Tn (lo W.heap.size) W T) (hz : zs = []) : BK w bs (T :: ts) t zs W :=
  ⟨h.low, h.has, fun X hX => by
    rcases List.mem_cons.1 hX with rfl | hX
    · exact hT.keep (fun _ _ _ => rfl) fun b hb => ⟨hb, by rw [hz]; simp⟩
    · exact h.tn X hX, h.zb, h.ne, h.nd⟩
/-- a call that made a tree -/
theorem BK.call (h : BK w bs ts t zs W) {X : Tr} (hb : Below W.heap.size W W') (hX : Tn (nw W.heap.size W') W' X) : BK w bs (X :: ts) t zs W' := by
  have h' := h.step hb
  refine ⟨h'.low, h'.has, fun Y hY => ?_, h'.zb, h'.ne, h'.nd⟩
  rcases List.mem_cons.1 hY with rfl | hY
  · exact hX.keep (fun _ _ _ => rfl) fun b hb => ⟨hb.2, fun hz => by have := h.zlt hz; have := hb.1; omega⟩
  · exact h'.tn Y hY
/-- a box that is laid -/
theorem BK.alloc (h : BK w bs ts t zs W) (o : Obj) : BK w ((W.heap.size, o) :: bs) ts t zs (W.alloc o) := by
  have h' := h.step (below1 W o)
  refine ⟨h'.low, fun q hq => ?_, h'.tn, h'.zb, fun q hq => ?_, h'.nd⟩
  · rcases List.mem_cons.1 hq with rfl | hq
    · exact heap_alloc_new W o
    · exact h'.has q hq
  · rcases List.mem_cons.1 hq with rfl | hq
    · exact fun hz => by have := h.zlt hz; simp at this
    · exact h'.ne q hq
/-- a box that is laid, to be stored into -/
theorem BK.zero (h : BK w bs ts t zs W) : BK w bs ts t (W.heap.size :: zs) (W.alloc (zbx t)) := by
  have h' := h.step (below1 W (zbx t))
  refine ⟨h'.low, h'.has, fun T hT => (h.tn T hT).keep (fun _ _ hp => cell_of (Below.heap_alloc W _ _ hp.1)) fun b hb => ⟨by have := hb.1; simp; omega, fun hz => ?_⟩, fun z hz => ?_, fun q hq hz => ?_, ?_⟩
  · rcases List.mem_cons.1 hz with rfl | hz
    · have := hb.1; omega
    · exact hb.2 hz
  · rcases List.mem_cons.1 hz with rfl | hz
    · exact ⟨h.size, heap_alloc_new W _⟩
    · exact h'.zb z hz
  · rcases List.mem_cons.1 hz with hz | hz
    · have := h.lt (b := q.1) (o := q.2) hq; omega
    · exact h.ne q hq hz
  · exact List.nodup_cons.2 ⟨fun hz => by have := h.zlt hz; omega, h.nd⟩
/-- a box that is stored into -/
theorem BK.store {z : Nat} (X : Tr) (h : BK w bs ts t (z :: zs) W) : BK w ((z, .cells (ncc X) t (0, 0)) :: bs) ts t zs (set5 W z X) := by
  have hz := h.zb z (by simp)
  have hn := List.nodup_cons.1 h.nd
  refine ⟨below_set5 h.low hz.1 X, fun q hq => ?_, fun T hT => (h.tn T hT).keep (fun b _ hb => cell_of (set5_other (fun e => hb.2 (by simp [e])) X)) fun b hb => ⟨by rw [set5_size]; exact hb.1, fun hm => hb.2 (by simp [hm])⟩,
    fun y hy => ⟨(h.zb y (by simp [hy])).1, (set5_other (fun e : y = z => hn.1 (e ▸ hy)) X).trans (h.zb y (by simp [hy])).2⟩, fun q hq hm => ?_, hn.2⟩
  · rcases List.mem_cons.1 hq with rfl | hq
    · exact set5_self hz.2 X
    · exact (set5_other (fun e => h.ne q hq (by simp [e])) X).trans (h.has q hq)
  · rcases List.mem_cons.1 hq with rfl | hq
    · exact hn.1 hm
    · exact h.ne q hq (by simp [hm])
theorem BK.swap {y z : Nat} (h : BK w bs ts t (y :: z :: zs) W) : BK w bs ts t (z :: y :: zs) W := by
  have hm : ∀ b, b ∈ z :: y :: zs ↔ b ∈ y :: z :: zs := fun b => by simp only [List.mem_cons]; exact ⟨fun h => h.elim (fun h => .inr (.inl h)) (fun h => h.elim .inl fun h => .inr (.inr h)), fun h => h.elim (fun h => .inr (.inl h)) (fun h => h.elim .inl fun h => .inr (.inr h))⟩
  refine ⟨h.low, h.has, fun T hT => (h.tn T hT).keep (fun _ _ _ => rfl) fun b hb => ⟨hb.1, fun hh => hb.2 ((hm b).1 hh)⟩, fun b hb => h.zb b ((hm b).1 hb), fun q hq hh => h.ne q hq ((hm _).1 hh), ?_⟩
  have := h.nd
  simp only [List.nodup_cons, List.mem_cons, not_or] at this ⊢
  exact ⟨⟨fun e => this.1.1 e.symm, this.2.1⟩, this.1.2, this.2.2⟩
theorem BK.sub (h : BK w bs ts t zs W) (hb : ∀ q ∈ bs', q ∈ bs) (ht : ∀ T ∈ ts', T ∈ ts) : BK w bs' ts' t zs W :=
  ⟨h.low, fun q hq => h.has q (hb q hq), fun T hT => h.tn T (ht T hT), h.zb, fun q hq => h.ne q (hb q hq), h.nd⟩
theorem BK.drew (h : BK w bs ts t zs W) : BK w bs ts t zs W.drew := h.step ⟨rfl, rfl, rfl, Nat.le_refl _, fun _ _ => rfl⟩
end

/-- a box's cells -/
theorem heap5 {W : World} {b : Nat} {T : Tr} {t : TypeId} (h : W.heap[b]? = some (.cells (ncc T) t (0, 0))) : W.cell? ⟨b, 0, none⟩ = some (.int .i64 T.k) ∧ W.cell? ⟨b, 1, none⟩ = some (.string T.g) ∧ W.cell? ⟨b, 2, none⟩ = some (.string T.t) ∧ W.cell? ⟨b, 3, none⟩ = some (.int .i64 T.a) ∧ W.cell? ⟨b, 4, none⟩ = some (.slice T.A T.kids.length T.c) :=
  ⟨cell_heap h, cell_heap h, cell_heap h, cell_heap h, cell_heap h⟩
theorem at_act {P : Program} {c : Code} {Q : Exit → Act → World → Prop} {a : Act} {w : World} (h : ∀ A, A = a → Code.wp P c Q A w) : Code.wp P c Q a w := h a rfl
end Go.Proofs.YtfmlcddakfbleaaGreatDoor
