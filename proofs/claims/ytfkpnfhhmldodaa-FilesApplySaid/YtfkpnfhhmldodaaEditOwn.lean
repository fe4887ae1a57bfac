/- A row of edits that a call owns: an edit appended to it, a whole slice of edits appended to none. -/
import Derived.Test.YtfkpnfhhmldodaaEditMem
import Derived.Maps.AppendAt
import Derived.Deep.AppendLies
import Derived.Laws.AppendOwnNone
import Derived.OwnWalk
namespace Go.Proofs.Ytfkpnfhhmldodaa
open Go.RowKit EditMath

theorem info_edit : (Try.prog.info? 87).map (fun i => (i.zero, i.size, i.bytes)) = some (some (.agg #[.int .i64 0, .int .i64 0, .string ⟨#[]⟩]), 3, 32) := by kernel_rfl

/-- a row of the call's own that holds m -/
def Own (w : World) (base : Nat) (A : Option Addr) (c : Nat) (m : List Ed) : Prop := w.ownsRow base 87 3 (.slice A m.length c) m.length (ecells m)

theorem Own.nil (w : World) (base : Nat) : Own w base none 0 [] := World.ownsRow_nil _ _ _ _

theorem own_form {w : World} {base : Nat} {v : Value} {n : Nat} {m : List Ed} (h : w.ownsRow base 87 3 v n (ecells m)) : ∃ A c, v = .slice A m.length c ∧ n = m.length ∧ Own w base A c m := by
  have hn : n = m.length := by have := h.1; rw [ecells_length] at this; omega
  subst hn
  rcases h.2 with ⟨hv, hn⟩ | ⟨g, cap, cur, hv, _⟩
  · exact ⟨none, 0, by rw [hv, hn], rfl, by unfold Own; rw [hn]; rw [hv, hn] at h; exact h⟩
  · exact ⟨some ⟨g, 0, none⟩, cap, hv, rfl, by unfold Own; rw [hv] at h; exact h⟩

section
variable {w w' : World} {base c : Nat} {A : Option Addr} {m : List Ed}
theorem Own.eds (h : Own w base A c m) : Eds w w.heap.size A m := by
  intro hn
  rcases h.2 with ⟨hv, h0⟩ | ⟨g, cap, cur, hv, hb, hg, _, _, _, _⟩
  · omega
  · injection hv with hA hm hc
    subst hA
    have hc := World.ownsRow.cells h (g := g) rfl
    refine ⟨g, 0, rfl, (Array.getElem?_eq_some_iff.1 hg).1, fun i e he => ?_⟩
    obtain ⟨h1, h2, h3⟩ := ecells_at m i e he
    have hadd : ∀ n, (⟨g, 0, none⟩ : Addr).add n = ⟨g, 0 + n, none⟩ := fun n => Addr.add_lit _ _ _
    have k1 := hc _ _ h1
    have k2 := hc _ _ h2
    have k3 := hc _ _ h3
    rw [hadd] at k1 k2 k3
    exact ⟨k1, by rw [Nat.add_assoc]; exact k2, by rw [Nat.add_assoc]; exact k3⟩

theorem Own.alloc (h : Own w base A c m) (o : Obj) : Own (w.alloc o) base A c m := World.ownsRow.alloc h o
theorem Own.drew (h : Own w base A c m) : Own w.drew base A c m := h
theorem Own.drewN (h : Own w base A c m) (n : Nat) : Own (w.drewN n) base A c m := h
theorem Own.lt (h : Own w base A c m) : ∀ k, (Value.slice A m.length c).ownBlock = some k → base ≤ k ∧ k < w.heap.size := World.ownsRow.lt h
/-- kept by a call that leaves all that lay -/
theorem Own.below (h : Own w base A c m) (hb : Below w.heap.size w w') : Own w' base A c m :=
  World.ownsRow.kept h (row := none) ⟨hb.os, hb.tape, hb.output, hb.size, fun k hk _ => hb.block k hk⟩ (by cases hv : (Value.slice A m.length c).ownBlock <;> simp)
end

theorem three_new (w : World) (e : Ed) : ∀ (j : Nat) (u : Value), (ecs e)[j]? = some u → (w.alloc (.cells #[.int .i64 e.f, .int .i64 e.t, .string e.s] 87)).cell? ((⟨w.heap.size, 0, none⟩ : Addr).add j) = some u := by
  intro j u h
  match j, h with
  | 0, h => simp [ecs] at h; subst h; simp [Addr.add]
  | 1, h => simp [ecs] at h; subst h; simp [Addr.add]
  | 2, h => simp [ecs] at h; subst h; simp [Addr.add]
  | j + 3, h => simp [ecs] at h

/-- one edit appended -/
theorem wpList_append_ed {ops : Array Oper} {rest : List Oper} {o : Oper} {a : Act} {Q : Exit → Act → World → Prop} (hgd : o.guard = none) (s x : Operand)
    (ho : o.op = .call { callee := .builtin .append, args := #[s, x], argTypes := #[22, 22] }) (W : World) (base : Nat) (A : Option Addr) (c : Nat) (m : List Ed) (e : Ed)
    (hs : a.eval s = .slice A m.length c) (hx : a.eval x = .slice (some ⟨W.heap.size, 0, none⟩) 1 1) (hown : Own W base A c m) (hn : m.length ≤ 20000) (hbase : base ≤ W.heap.size)
    (h : ∀ A' c' w', Own w' base A' c' (m ++ [e]) → W.grownBy w' (Value.slice A m.length c).ownBlock → W.heap.size < w'.heap.size → w'.heap[W.heap.size]? = some (.cells #[.int .i64 e.f, .int .i64 e.t, .string e.s] 87) → wpList Try.prog ops Q rest (a.put o.dst (.slice A' (m ++ [e]).length c')) w') :
    wpList Try.prog ops Q (o :: rest) a (W.alloc (.cells #[.int .i64 e.f, .int .i64 e.t, .string e.s] 87)) := by
  obtain ⟨i0, hi, hz0, hz1, hz2⟩ := info_parts info_edit
  refine wpList_append_own _ hgd s x 22 ho base 87 i0 _ 3 32 Try.underlying22 hi hz0 hz1 hz2 rfl (by decide) _ _ _ hs (hown.alloc _) ⟨W.heap.size, 0, none⟩ 1 1 (ecs e) hx rfl (three_new W e) (by intro u hu; simp [ecs] at hu; rcases hu with rfl | rfl | rfl <;> rfl) (by unfold maxLen; omega) (by omega) (by simp; omega) ?_
  intro v' w' hown' hgrow _
  have he : ecells m ++ ecs e = ecells (m ++ [e]) := by rw [ecells_append]; simp [ecells]
  rw [he] at hown'
  obtain ⟨A', c', rfl, _, ho'⟩ := own_form hown'
  refine h A' c' w' ho' ((World.grownBy_alloc W _ _).trans hgrow) (by have := hgrow.size; simp at this; omega) ?_
  rw [hgrow.block W.heap.size (by simp) (fun e => by have := hown.lt _ e.symm; omega)]
  exact heap_alloc_new W _

/-- one edit appended, at a step of a region that draws its order -/
theorem step_append_ed {ops : Array Oper} {o : Oper} {a : Act} {K : Act → World → Prop} {Q : Exit → Act → World → Prop} {E : Prop} (hgd : o.guard = none) (s x : Operand)
    (ho : o.op = .call { callee := .builtin .append, args := #[s, x], argTypes := #[22, 22] }) (V : World) (base : Nat) (A : Option Addr) (c : Nat) (m : List Ed) (e : Ed) (X : Nat)
    (hs : a.eval s = .slice A m.length c) (hx : a.eval x = .slice (some ⟨X, 0, none⟩) 1 1) (hblk : V.heap[X]? = some (.cells #[.int .i64 e.f, .int .i64 e.t, .string e.s] 87 (0, 0))) (hown : Own V base A c m) (hn : m.length ≤ 20000) (hbase : base ≤ V.heap.size)
    (h : ∀ A' c' w', Own w' base A' c' (m ++ [e]) → V.grownBy w' (Value.slice A m.length c).ownBlock → K (a.put o.dst (.slice A' (m ++ [e]).length c')) w') :
    if Region.wanted o (yielded ops a.tmps) = true then Oper.wp Try.prog o a V K Q else E := by
  obtain ⟨i0, hi, hz0, hz1, hz2⟩ := info_parts info_edit
  have hw : Region.wanted o (yielded ops a.tmps) = true := by simp [Region.wanted, hgd]
  rw [if_pos hw]
  obtain ⟨v', w', hr, h2, h3, _, _⟩ := run_append_own_at (P := Try.prog) V base 22 o.type 87 i0 _ 3 32 Try.underlying22 hi hz0 hz1 hz2 rfl (by decide) _ _ _ hown ⟨X, 0, none⟩ 1 1 (ecs e) rfl
    (World.news_of_block (cs := #[.int .i64 e.f, .int .i64 e.t, .string e.s]) hblk) (by intro u hu; simp [ecs] at hu; rcases hu with rfl | rfl | rfl <;> rfl) (by unfold maxLen; omega) (by omega) hbase
  unfold Oper.wp execOp
  simp only [ho, resolve, invoke, builtin, Sem.run_bind, Sem.run_pure, Result.andThen_ok, List.map_toArray, List.map_cons, List.map_nil, hs, hx, hr]
  have he : ecells m ++ ecs e = ecells (m ++ [e]) := by rw [ecells_append]; simp [ecells]
  rw [he] at h2
  obtain ⟨A', c', rfl, _, ho'⟩ := own_form h2
  exact h A' c' w' ho' h3

/-- where a slice of edits lies, its cells lie -/
theorem eds_cells {w : World} {B : Nat} {ad : Addr} {l : List Ed} (h : Eds w B (some ad) l) : ∀ (j : Nat) (u : Value), (ecells l)[j]? = some u → w.cell? (ad.add j) = some u := by
  intro j u hu
  obtain ⟨i, e, he, hj⟩ := ecells_split l j u hu
  obtain ⟨b, off, hA, _, c0, c1, c2⟩ := h.at_ he
  injection hA with hA
  subst hA
  have hadd : ∀ n, (⟨b, off, none⟩ : Addr).add n = ⟨b, off + n, none⟩ := fun n => Addr.add_lit _ _ _
  rw [hadd]
  rcases hj with ⟨rfl, rfl⟩ | ⟨rfl, rfl⟩ | ⟨rfl, rfl⟩
  · exact c0
  · rw [← Nat.add_assoc]; exact c1
  · rw [← Nat.add_assoc]; exact c2

/-- a whole slice of edits appended to an empty row of the call's own -/
theorem wpList_append_eds {ops : Array Oper} {rest : List Oper} {o : Oper} {a : Act} {Q : Exit → Act → World → Prop} (hgd : o.guard = none) (s x : Operand)
    (ho : o.op = .call { callee := .builtin .append, args := #[s, x], argTypes := #[22, 22] }) (W : World) (base : Nat) (A : Option Addr) (c : Nat) (B : Nat) (A2 : Option Addr) (c2 : Nat) (l : List Ed)
    (hs : a.eval s = .slice A 0 c) (hx : a.eval x = .slice A2 l.length c2) (hown : Own W base A c []) (hr : Eds W B A2 l) (hnil : A2 = none → c2 = 0) (hn : l.length ≤ 20000) (hbase : base ≤ W.heap.size)
    (h : ∀ A' c' w', Own w' base A' c' l → W.grownBy w' (Value.slice A 0 c).ownBlock → wpList Try.prog ops Q rest (a.put o.dst (.slice A' l.length c')) w') :
    wpList Try.prog ops Q (o :: rest) a W := by
  obtain ⟨i0, hi, hz0, hz1, hz2⟩ := info_parts info_edit
  cases A2 with
  | none =>
    have hl : l = [] := by
      cases l with
      | nil => rfl
      | cons e l => obtain ⟨b, off, hA, _⟩ := hr (by simp); cases hA
    subst hl
    have hc := hnil rfl
    subst hc
    exact wpList_append_own_none hgd s x 22 ho base 87 i0 3 Try.underlying22 hi _ _ _ hs hown hx (h A c W hown (World.grownBy.refl _ _))
  | some ad =>
    refine wpList_append_own _ hgd s x 22 ho base 87 i0 _ 3 32 Try.underlying22 hi hz0 hz1 hz2 rfl (by decide) _ _ _ hs hown ad l.length c2 (ecells l) hx (ecells_length l) (eds_cells hr) (ecells_one l) (by unfold maxLen; simp; omega) (by simp; omega) hbase ?_
    intro v' w' hown' hgrow _
    have he : ecells [] ++ ecells l = ecells l := by simp [ecells]
    rw [he] at hown'
    obtain ⟨A', c', rfl, _, ho'⟩ := own_form hown'
    exact h A' c' w' ho' hgrow

/-- behind an append: what lay before base is as it was -/
theorem below_append {w W w' : World} {B base : Nat} {A : Option Addr} {c : Nat} {m : List Ed} (hB : Below B w W) (hg : W.grownBy w' (Value.slice A m.length c).ownBlock) (hown : Own W base A c m) (hb : B ≤ base) (hW : B ≤ W.heap.size) : Below B w w' :=
  hB.grown hg hW (fun k e => by have := (hown.lt k e).1; omega)

end Go.Proofs.Ytfkpnfhhmldodaa
