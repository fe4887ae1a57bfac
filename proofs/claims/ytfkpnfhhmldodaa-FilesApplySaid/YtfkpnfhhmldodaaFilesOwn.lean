/- Rows of patches and of files that a call owns: one appended. -/
import Derived.Test.YtfkpnfhhmldodaaFilesMem
import Derived.Test.YtfkpnfhhmldodaaEditOwn
namespace Go.Proofs.Ytfkpnfhhmldodaa
open Go.RowKit EditMath FilesMath

theorem info_OwnP : (Try.prog.info? 122).map (fun i => (i.zero, i.size, i.bytes)) = some (some (.agg #[.string ⟨#[]⟩, .slice none 0 0]), 2, 40) := by kernel_rfl
def pcs2 (e : Pt) : List Value := [.string e.n, .slice e.A e.l.length e.c]
def pcells (l : List Pt) : List Value := l.flatMap pcs2
theorem pcells_length (l : List Pt) : (pcells l).length = l.length * 2 := by
  unfold pcells
  induction l with
  | nil => rfl
  | cons p ps ih => simp [List.flatMap_cons, pcs2, ih]; omega
theorem pcells_append (a b : List Pt) : pcells (a ++ b) = pcells a ++ pcells b := by unfold pcells; simp
theorem pcells_at : ∀ (l : List Pt) (i : Nat) (e : Pt), l[i]? = some e → (pcells l)[i * 2]? = some (.string e.n) ∧ (pcells l)[i * 2 + 1]? = some (.slice e.A e.l.length e.c) := by
  intro l
  induction l with
  | nil => intro i p h; simp at h
  | cons q ps ih =>
    intro i e h
    have he : pcells (q :: ps) = pcs2 q ++ pcells ps := by simp [pcells, List.flatMap_cons]
    cases i with
    | zero => simp at h; subst h; rw [he]; exact ⟨rfl, rfl⟩
    | succ i =>
      simp at h
      obtain ⟨h1, h2⟩ := ih i e h
      rw [he]
      exact ⟨by rw [show (i + 1) * 2 = i * 2 + 1 + 1 from by omega]; simpa [pcs2] using h1, by rw [show (i + 1) * 2 + 1 = i * 2 + 1 + 1 + 1 from by omega]; simpa [pcs2] using h2⟩
theorem pcells_split (l : List Pt) (j : Nat) (v : Value) (h : (pcells l)[j]? = some v) : ∃ (i : Nat) (e : Pt), l[i]? = some e ∧ ((j = i * 2 ∧ v = .string e.n) ∨ (j = i * 2 + 1 ∧ v = .slice e.A e.l.length e.c)) := by
  have hj : j < l.length * 2 := by rw [← pcells_length]; exact (List.getElem?_eq_some_iff.1 h).1
  have hi : j / 2 < l.length := by omega
  obtain ⟨h1, h2⟩ := pcells_at l (j / 2) l[j / 2] (List.getElem?_eq_getElem hi)
  refine ⟨j / 2, l[j / 2], List.getElem?_eq_getElem hi, ?_⟩
  rcases (show j = j / 2 * 2 ∨ j = j / 2 * 2 + 1 from by omega) with e | e
  · rw [← e, h] at h1; injection h1 with h1; exact .inl ⟨e, h1⟩
  · rw [← e, h] at h2; injection h2 with h2; exact .inr ⟨e, h2⟩
theorem pcells_one (l : List Pt) : ∀ u ∈ pcells l, u.oneCell' = true := by
  intro u hu
  obtain ⟨j, hj⟩ := List.getElem?_of_mem hu
  obtain ⟨i, e, _, h | h⟩ := pcells_split l j u hj <;> rw [h.2] <;> rfl

/-- a row of the call's own that holds m -/
def OwnP (w : World) (base : Nat) (A : Option Addr) (c : Nat) (m : List Pt) : Prop := w.ownsRow base 122 2 (.slice A m.length c) m.length (pcells m)
theorem OwnP.nil (w : World) (base : Nat) : OwnP w base none 0 [] := World.ownsRow_nil _ _ _ _
theorem OwnP.made (w : World) (base : Nat) (h : base ≤ w.heap.size) : OwnP (w.alloc (.cells #[] 122)) base (some ⟨w.heap.size, 0, none⟩) 0 [] := World.ownsRow_made w #[] 0 h (by unfold maxLen; omega) rfl
theorem OwnP.form {w : World} {base : Nat} {v : Value} {n : Nat} {m : List Pt} (h : w.ownsRow base 122 2 v n (pcells m)) : ∃ A c, v = .slice A m.length c ∧ n = m.length ∧ OwnP w base A c m := by
  have hn : n = m.length := by have := h.1; rw [pcells_length] at this; omega
  subst hn
  rcases h.2 with ⟨hv, hn⟩ | ⟨g, cap, cur, hv, _⟩
  · exact ⟨none, 0, by rw [hv, hn], rfl, by unfold OwnP; rw [hn]; rw [hv, hn] at h; exact h⟩
  · exact ⟨some ⟨g, 0, none⟩, cap, hv, rfl, by unfold OwnP; rw [hv] at h; exact h⟩
theorem OwnP.reads {w : World} {base c : Nat} {A : Option Addr} {m : List Pt} (h : OwnP w base A c m) : 0 < m.length → ∃ b off, A = some ⟨b, off, none⟩ ∧ b < w.heap.size ∧ ∀ (i : Nat) (e : Pt), m[i]? = some e →
    w.cell? ⟨b, off + i * 2, none⟩ = some (.string e.n) ∧ w.cell? ⟨b, off + i * 2 + 1, none⟩ = some (.slice e.A e.l.length e.c) := by
  intro hn
  rcases h.2 with ⟨hv, h0⟩ | ⟨g, cap, cur, hv, hb, hg, _, _, _, _⟩
  · omega
  · injection hv with hA hm hc
    subst hA
    have hc := World.ownsRow.cells h (g := g) rfl
    refine ⟨g, 0, rfl, (Array.getElem?_eq_some_iff.1 hg).1, fun i e he => ?_⟩
    obtain ⟨h1, h2⟩ := pcells_at m i e he
    have hadd : ∀ n, (⟨g, 0, none⟩ : Addr).add n = ⟨g, 0 + n, none⟩ := fun n => Addr.add_lit _ _ _
    have k1 := hc _ _ h1
    have k2 := hc _ _ h2
    rw [hadd] at k1 k2
    exact ⟨k1, by rw [Nat.add_assoc]; exact k2⟩
theorem OwnP.cap {w : World} {base c : Nat} {A : Option Addr} {m : List Pt} (h : OwnP w base A c m) : m.length ≤ c ∧ (A = none → c = 0) := by
  rcases h.2 with ⟨hv, h0⟩ | ⟨g, cap, cur, hv, _, _, hc, _⟩
  · injection hv with hA hm hc
    exact ⟨by omega, fun _ => hc⟩
  · injection hv with hA hm hc'
    exact ⟨by omega, fun q => by rw [hA] at q; cases q⟩
theorem OwnP.alloc {w : World} {base c : Nat} {A : Option Addr} {m : List Pt} (h : OwnP w base A c m) (o : Obj) : OwnP (w.alloc o) base A c m := World.ownsRow.alloc h o
theorem OwnP.drew {w : World} {base c : Nat} {A : Option Addr} {m : List Pt} (h : OwnP w base A c m) : OwnP w.drew base A c m := h
theorem OwnP.drewN {w : World} {base c : Nat} {A : Option Addr} {m : List Pt} (h : OwnP w base A c m) (n : Nat) : OwnP (w.drewN n) base A c m := h
theorem OwnP.lt {w : World} {base c : Nat} {A : Option Addr} {m : List Pt} (h : OwnP w base A c m) : ∀ k, (Value.slice A m.length c).ownBlock = some k → base ≤ k ∧ k < w.heap.size := World.ownsRow.lt h
theorem OwnP.below {w w' : World} {base c : Nat} {A : Option Addr} {m : List Pt} (h : OwnP w base A c m) (hb : Below w.heap.size w w') : OwnP w' base A c m :=
  World.ownsRow.kept h (row := none) ⟨hb.os, hb.tape, hb.output, hb.size, fun k hk _ => hb.block k hk⟩ (by cases hv : (Value.slice A m.length c).ownBlock <;> simp)
theorem OwnP.belowApp {w W w' : World} {B base : Nat} {A : Option Addr} {c : Nat} {m : List Pt} (hown : OwnP W base A c m) (hB : Below B w W) (hg : W.grownBy w' (Value.slice A m.length c).ownBlock) (hb : B ≤ base) (hW : B ≤ W.heap.size) : Below B w w' :=
  hB.grown hg hW (fun k e => by have := (hown.lt k e).1; omega)

/-- one appended -/
theorem wp_append_OwnP {o : Oper} {a : Act} {K : Act → World → Prop} {Q : Exit → Act → World → Prop} (s x : Operand)
    (ho : o.op = .call { callee := .builtin .append, args := #[s, x], argTypes := #[64, 64] }) (V : World) (base : Nat) (A : Option Addr) (c : Nat) (m : List Pt) (e : Pt) (X : Nat)
    (hs : a.eval s = .slice A m.length c) (hx : a.eval x = .slice (some ⟨X, 0, none⟩) 1 1) (hblk : V.heap[X]? = some (.cells #[.string e.n, .slice e.A e.l.length e.c] 122 (0, 0))) (hown : OwnP V base A c m) (hn : m.length ≤ 20000) (hbase : base ≤ V.heap.size)
    (h : ∀ A' c' w', OwnP w' base A' c' (m ++ [e]) → V.grownBy w' (Value.slice A m.length c).ownBlock → ((Value.slice A' (m ++ [e]).length c').ownBlock = (Value.slice A m.length c).ownBlock ∨ (Value.slice A' (m ++ [e]).length c').ownBlock = some V.heap.size) → K (a.put o.dst (.slice A' (m ++ [e]).length c')) w') :
    Oper.wp Try.prog o a V K Q := by
  obtain ⟨i0, hi, hz0, hz1, hz2⟩ := info_parts info_OwnP
  obtain ⟨v', w', hr, h2, h3, _, h4⟩ := run_append_own_at (P := Try.prog) V base 64 o.type 122 i0 _ 2 40 Try.underlying64 hi hz0 hz1 hz2 rfl (by decide) _ _ _ hown ⟨X, 0, none⟩ 1 1 (pcs2 e) rfl
    (World.news_of_block (cs := #[.string e.n, .slice e.A e.l.length e.c]) hblk) (by intro u hu; simp [pcs2] at hu; rcases hu with rfl | rfl <;> rfl) (by unfold maxLen; omega) (by omega) hbase
  unfold Oper.wp execOp
  simp only [ho, resolve, invoke, builtin, Sem.run_bind, Sem.run_pure, Result.andThen_ok, List.map_toArray, List.map_cons, List.map_nil, hs, hx, hr]
  have he : pcells m ++ pcs2 e = pcells (m ++ [e]) := by rw [pcells_append]; simp [pcells]
  rw [he] at h2
  obtain ⟨A', c', rfl, _, ho'⟩ := OwnP.form h2
  exact h A' c' w' ho' h3 h4

theorem wpList_append_OwnP {ops : Array Oper} {rest : List Oper} {o : Oper} {a : Act} {Q : Exit → Act → World → Prop} (hgd : o.guard = none) (s x : Operand)
    (ho : o.op = .call { callee := .builtin .append, args := #[s, x], argTypes := #[64, 64] }) (V : World) (base : Nat) (A : Option Addr) (c : Nat) (m : List Pt) (e : Pt) (X : Nat)
    (hs : a.eval s = .slice A m.length c) (hx : a.eval x = .slice (some ⟨X, 0, none⟩) 1 1) (hblk : V.heap[X]? = some (.cells #[.string e.n, .slice e.A e.l.length e.c] 122 (0, 0))) (hown : OwnP V base A c m) (hn : m.length ≤ 20000) (hbase : base ≤ V.heap.size)
    (h : ∀ A' c' w', OwnP w' base A' c' (m ++ [e]) → V.grownBy w' (Value.slice A m.length c).ownBlock → ((Value.slice A' (m ++ [e]).length c').ownBlock = (Value.slice A m.length c).ownBlock ∨ (Value.slice A' (m ++ [e]).length c').ownBlock = some V.heap.size) → wpList Try.prog ops Q rest (a.put o.dst (.slice A' (m ++ [e]).length c')) w') :
    wpList Try.prog ops Q (o :: rest) a V := by
  refine wpList_plain hgd fun K hK => ?_
  exact wp_append_OwnP s x ho V base A c m e X hs hx hblk hown hn hbase (fun A' c' w' h1 h2 h3 => hK _ _ (h A' c' w' h1 h2 h3))

theorem step_append_OwnP {ops : Array Oper} {o : Oper} {a : Act} {K : Act → World → Prop} {Q : Exit → Act → World → Prop} {F : Prop} (hgd : o.guard = none) (s x : Operand)
    (ho : o.op = .call { callee := .builtin .append, args := #[s, x], argTypes := #[64, 64] }) (V : World) (base : Nat) (A : Option Addr) (c : Nat) (m : List Pt) (e : Pt) (X : Nat)
    (hs : a.eval s = .slice A m.length c) (hx : a.eval x = .slice (some ⟨X, 0, none⟩) 1 1) (hblk : V.heap[X]? = some (.cells #[.string e.n, .slice e.A e.l.length e.c] 122 (0, 0))) (hown : OwnP V base A c m) (hn : m.length ≤ 20000) (hbase : base ≤ V.heap.size)
    (h : ∀ A' c' w', OwnP w' base A' c' (m ++ [e]) → V.grownBy w' (Value.slice A m.length c).ownBlock → ((Value.slice A' (m ++ [e]).length c').ownBlock = (Value.slice A m.length c).ownBlock ∨ (Value.slice A' (m ++ [e]).length c').ownBlock = some V.heap.size) → K (a.put o.dst (.slice A' (m ++ [e]).length c')) w') :
    if Region.wanted o (yielded ops a.tmps) = true then Oper.wp Try.prog o a V K Q else F := by
  have hw : Region.wanted o (yielded ops a.tmps) = true := by simp [Region.wanted, hgd]
  rw [if_pos hw]
  exact wp_append_OwnP s x ho V base A c m e X hs hx hblk hown hn hbase h

theorem info_OwnF : (Try.prog.info? 58).map (fun i => (i.zero, i.size, i.bytes)) = some (some (.agg #[.string ⟨#[]⟩, .string ⟨#[]⟩]), 2, 32) := by kernel_rfl
def fcs (e : Fl) : List Value := [.string e.n, .string e.t]
def fcells (l : List Fl) : List Value := l.flatMap fcs
theorem fcells_length (l : List Fl) : (fcells l).length = l.length * 2 := by
  unfold fcells
  induction l with
  | nil => rfl
  | cons p ps ih => simp [List.flatMap_cons, fcs, ih]; omega
theorem fcells_append (a b : List Fl) : fcells (a ++ b) = fcells a ++ fcells b := by unfold fcells; simp
theorem fcells_at : ∀ (l : List Fl) (i : Nat) (e : Fl), l[i]? = some e → (fcells l)[i * 2]? = some (.string e.n) ∧ (fcells l)[i * 2 + 1]? = some (.string e.t) := by
  intro l
  induction l with
  | nil => intro i p h; simp at h
  | cons q ps ih =>
    intro i e h
    have he : fcells (q :: ps) = fcs q ++ fcells ps := by simp [fcells, List.flatMap_cons]
    cases i with
    | zero => simp at h; subst h; rw [he]; exact ⟨rfl, rfl⟩
    | succ i =>
      simp at h
      obtain ⟨h1, h2⟩ := ih i e h
      rw [he]
      exact ⟨by rw [show (i + 1) * 2 = i * 2 + 1 + 1 from by omega]; simpa [fcs] using h1, by rw [show (i + 1) * 2 + 1 = i * 2 + 1 + 1 + 1 from by omega]; simpa [fcs] using h2⟩
theorem fcells_split (l : List Fl) (j : Nat) (v : Value) (h : (fcells l)[j]? = some v) : ∃ (i : Nat) (e : Fl), l[i]? = some e ∧ ((j = i * 2 ∧ v = .string e.n) ∨ (j = i * 2 + 1 ∧ v = .string e.t)) := by
  have hj : j < l.length * 2 := by rw [← fcells_length]; exact (List.getElem?_eq_some_iff.1 h).1
  have hi : j / 2 < l.length := by omega
  obtain ⟨h1, h2⟩ := fcells_at l (j / 2) l[j / 2] (List.getElem?_eq_getElem hi)
  refine ⟨j / 2, l[j / 2], List.getElem?_eq_getElem hi, ?_⟩
  rcases (show j = j / 2 * 2 ∨ j = j / 2 * 2 + 1 from by omega) with e | e
  · rw [← e, h] at h1; injection h1 with h1; exact .inl ⟨e, h1⟩
  · rw [← e, h] at h2; injection h2 with h2; exact .inr ⟨e, h2⟩
theorem fcells_one (l : List Fl) : ∀ u ∈ fcells l, u.oneCell' = true := by
  intro u hu
  obtain ⟨j, hj⟩ := List.getElem?_of_mem hu
  obtain ⟨i, e, _, h | h⟩ := fcells_split l j u hj <;> rw [h.2] <;> rfl

/-- a row of the call's own that holds m -/
def OwnF (w : World) (base : Nat) (A : Option Addr) (c : Nat) (m : List Fl) : Prop := w.ownsRow base 58 2 (.slice A m.length c) m.length (fcells m)
theorem OwnF.nil (w : World) (base : Nat) : OwnF w base none 0 [] := World.ownsRow_nil _ _ _ _
theorem OwnF.made (w : World) (base : Nat) (h : base ≤ w.heap.size) : OwnF (w.alloc (.cells #[] 58)) base (some ⟨w.heap.size, 0, none⟩) 0 [] := World.ownsRow_made w #[] 0 h (by unfold maxLen; omega) rfl
theorem OwnF.form {w : World} {base : Nat} {v : Value} {n : Nat} {m : List Fl} (h : w.ownsRow base 58 2 v n (fcells m)) : ∃ A c, v = .slice A m.length c ∧ n = m.length ∧ OwnF w base A c m := by
  have hn : n = m.length := by have := h.1; rw [fcells_length] at this; omega
  subst hn
  rcases h.2 with ⟨hv, hn⟩ | ⟨g, cap, cur, hv, _⟩
  · exact ⟨none, 0, by rw [hv, hn], rfl, by unfold OwnF; rw [hn]; rw [hv, hn] at h; exact h⟩
  · exact ⟨some ⟨g, 0, none⟩, cap, hv, rfl, by unfold OwnF; rw [hv] at h; exact h⟩
theorem OwnF.reads {w : World} {base c : Nat} {A : Option Addr} {m : List Fl} (h : OwnF w base A c m) : 0 < m.length → ∃ b off, A = some ⟨b, off, none⟩ ∧ b < w.heap.size ∧ ∀ (i : Nat) (e : Fl), m[i]? = some e →
    w.cell? ⟨b, off + i * 2, none⟩ = some (.string e.n) ∧ w.cell? ⟨b, off + i * 2 + 1, none⟩ = some (.string e.t) := by
  intro hn
  rcases h.2 with ⟨hv, h0⟩ | ⟨g, cap, cur, hv, hb, hg, _, _, _, _⟩
  · omega
  · injection hv with hA hm hc
    subst hA
    have hc := World.ownsRow.cells h (g := g) rfl
    refine ⟨g, 0, rfl, (Array.getElem?_eq_some_iff.1 hg).1, fun i e he => ?_⟩
    obtain ⟨h1, h2⟩ := fcells_at m i e he
    have hadd : ∀ n, (⟨g, 0, none⟩ : Addr).add n = ⟨g, 0 + n, none⟩ := fun n => Addr.add_lit _ _ _
    have k1 := hc _ _ h1
    have k2 := hc _ _ h2
    rw [hadd] at k1 k2
    exact ⟨k1, by rw [Nat.add_assoc]; exact k2⟩
theorem OwnF.cap {w : World} {base c : Nat} {A : Option Addr} {m : List Fl} (h : OwnF w base A c m) : m.length ≤ c ∧ (A = none → c = 0) := by
  rcases h.2 with ⟨hv, h0⟩ | ⟨g, cap, cur, hv, _, _, hc, _⟩
  · injection hv with hA hm hc
    exact ⟨by omega, fun _ => hc⟩
  · injection hv with hA hm hc'
    exact ⟨by omega, fun q => by rw [hA] at q; cases q⟩
theorem OwnF.alloc {w : World} {base c : Nat} {A : Option Addr} {m : List Fl} (h : OwnF w base A c m) (o : Obj) : OwnF (w.alloc o) base A c m := World.ownsRow.alloc h o
theorem OwnF.drew {w : World} {base c : Nat} {A : Option Addr} {m : List Fl} (h : OwnF w base A c m) : OwnF w.drew base A c m := h
theorem OwnF.drewN {w : World} {base c : Nat} {A : Option Addr} {m : List Fl} (h : OwnF w base A c m) (n : Nat) : OwnF (w.drewN n) base A c m := h
theorem OwnF.lt {w : World} {base c : Nat} {A : Option Addr} {m : List Fl} (h : OwnF w base A c m) : ∀ k, (Value.slice A m.length c).ownBlock = some k → base ≤ k ∧ k < w.heap.size := World.ownsRow.lt h
theorem OwnF.below {w w' : World} {base c : Nat} {A : Option Addr} {m : List Fl} (h : OwnF w base A c m) (hb : Below w.heap.size w w') : OwnF w' base A c m :=
  World.ownsRow.kept h (row := none) ⟨hb.os, hb.tape, hb.output, hb.size, fun k hk _ => hb.block k hk⟩ (by cases hv : (Value.slice A m.length c).ownBlock <;> simp)
theorem OwnF.belowApp {w W w' : World} {B base : Nat} {A : Option Addr} {c : Nat} {m : List Fl} (hown : OwnF W base A c m) (hB : Below B w W) (hg : W.grownBy w' (Value.slice A m.length c).ownBlock) (hb : B ≤ base) (hW : B ≤ W.heap.size) : Below B w w' :=
  hB.grown hg hW (fun k e => by have := (hown.lt k e).1; omega)

/-- one appended -/
theorem wp_append_OwnF {o : Oper} {a : Act} {K : Act → World → Prop} {Q : Exit → Act → World → Prop} (s x : Operand)
    (ho : o.op = .call { callee := .builtin .append, args := #[s, x], argTypes := #[54, 54] }) (V : World) (base : Nat) (A : Option Addr) (c : Nat) (m : List Fl) (e : Fl) (X : Nat)
    (hs : a.eval s = .slice A m.length c) (hx : a.eval x = .slice (some ⟨X, 0, none⟩) 1 1) (hblk : V.heap[X]? = some (.cells #[.string e.n, .string e.t] 58 (0, 0))) (hown : OwnF V base A c m) (hn : m.length ≤ 20000) (hbase : base ≤ V.heap.size)
    (h : ∀ A' c' w', OwnF w' base A' c' (m ++ [e]) → V.grownBy w' (Value.slice A m.length c).ownBlock → ((Value.slice A' (m ++ [e]).length c').ownBlock = (Value.slice A m.length c).ownBlock ∨ (Value.slice A' (m ++ [e]).length c').ownBlock = some V.heap.size) → K (a.put o.dst (.slice A' (m ++ [e]).length c')) w') :
    Oper.wp Try.prog o a V K Q := by
  obtain ⟨i0, hi, hz0, hz1, hz2⟩ := info_parts info_OwnF
  obtain ⟨v', w', hr, h2, h3, _, h4⟩ := run_append_own_at (P := Try.prog) V base 54 o.type 58 i0 _ 2 32 Try.underlying54 hi hz0 hz1 hz2 rfl (by decide) _ _ _ hown ⟨X, 0, none⟩ 1 1 (fcs e) rfl
    (World.news_of_block (cs := #[.string e.n, .string e.t]) hblk) (by intro u hu; simp [fcs] at hu; rcases hu with rfl | rfl <;> rfl) (by unfold maxLen; omega) (by omega) hbase
  unfold Oper.wp execOp
  simp only [ho, resolve, invoke, builtin, Sem.run_bind, Sem.run_pure, Result.andThen_ok, List.map_toArray, List.map_cons, List.map_nil, hs, hx, hr]
  have he : fcells m ++ fcs e = fcells (m ++ [e]) := by rw [fcells_append]; simp [fcells]
  rw [he] at h2
  obtain ⟨A', c', rfl, _, ho'⟩ := OwnF.form h2
  exact h A' c' w' ho' h3 h4

theorem wpList_append_OwnF {ops : Array Oper} {rest : List Oper} {o : Oper} {a : Act} {Q : Exit → Act → World → Prop} (hgd : o.guard = none) (s x : Operand)
    (ho : o.op = .call { callee := .builtin .append, args := #[s, x], argTypes := #[54, 54] }) (V : World) (base : Nat) (A : Option Addr) (c : Nat) (m : List Fl) (e : Fl) (X : Nat)
    (hs : a.eval s = .slice A m.length c) (hx : a.eval x = .slice (some ⟨X, 0, none⟩) 1 1) (hblk : V.heap[X]? = some (.cells #[.string e.n, .string e.t] 58 (0, 0))) (hown : OwnF V base A c m) (hn : m.length ≤ 20000) (hbase : base ≤ V.heap.size)
    (h : ∀ A' c' w', OwnF w' base A' c' (m ++ [e]) → V.grownBy w' (Value.slice A m.length c).ownBlock → ((Value.slice A' (m ++ [e]).length c').ownBlock = (Value.slice A m.length c).ownBlock ∨ (Value.slice A' (m ++ [e]).length c').ownBlock = some V.heap.size) → wpList Try.prog ops Q rest (a.put o.dst (.slice A' (m ++ [e]).length c')) w') :
    wpList Try.prog ops Q (o :: rest) a V := by
  refine wpList_plain hgd fun K hK => ?_
  exact wp_append_OwnF s x ho V base A c m e X hs hx hblk hown hn hbase (fun A' c' w' h1 h2 h3 => hK _ _ (h A' c' w' h1 h2 h3))

theorem step_append_OwnF {ops : Array Oper} {o : Oper} {a : Act} {K : Act → World → Prop} {Q : Exit → Act → World → Prop} {F : Prop} (hgd : o.guard = none) (s x : Operand)
    (ho : o.op = .call { callee := .builtin .append, args := #[s, x], argTypes := #[54, 54] }) (V : World) (base : Nat) (A : Option Addr) (c : Nat) (m : List Fl) (e : Fl) (X : Nat)
    (hs : a.eval s = .slice A m.length c) (hx : a.eval x = .slice (some ⟨X, 0, none⟩) 1 1) (hblk : V.heap[X]? = some (.cells #[.string e.n, .string e.t] 58 (0, 0))) (hown : OwnF V base A c m) (hn : m.length ≤ 20000) (hbase : base ≤ V.heap.size)
    (h : ∀ A' c' w', OwnF w' base A' c' (m ++ [e]) → V.grownBy w' (Value.slice A m.length c).ownBlock → ((Value.slice A' (m ++ [e]).length c').ownBlock = (Value.slice A m.length c).ownBlock ∨ (Value.slice A' (m ++ [e]).length c').ownBlock = some V.heap.size) → K (a.put o.dst (.slice A' (m ++ [e]).length c')) w') :
    if Region.wanted o (yielded ops a.tmps) = true then Oper.wp Try.prog o a V K Q else F := by
  have hw : Region.wanted o (yielded ops a.tmps) = true := by simp [Region.wanted, hgd]
  rw [if_pos hw]
  exact wp_append_OwnF s x ho V base A c m e X hs hx hblk hown hn hbase h

theorem OwnF.fls {w : World} {base c : Nat} {A : Option Addr} {m : List Fl} (h : OwnF w base A c m) : Fls w w.heap.size A m := h.reads
theorem OwnP.pts {w : World} {base c : Nat} {A : Option Addr} {m : List Pt} (h : OwnP w base A c m) (hp : ∀ (i : Nat) (e : Pt), m[i]? = some e → PtOk w w.heap.size e) : Pts w w.heap.size A m := ⟨h.reads, hp⟩
theorem PtOk.below {w w' : World} {p : Pt} (h : PtOk w w.heap.size p) (hb : Below w.heap.size w w') : PtOk w' w'.heap.size p := ⟨h.1.after hb, h.2⟩
theorem Eds.part2 {w w' : World} {B B' : Nat} {A : Option Addr} {l : List Ed} (h : Eds w B A l) (hB : B ≤ B') (hk : 0 < l.length → ∀ ad, A = some ad → ∀ off, w'.cell? ⟨ad.block, off, none⟩ = w.cell? ⟨ad.block, off, none⟩) : Eds w' B' A l := fun hn => by
  obtain ⟨b, off, e, hb, hc⟩ := h hn
  have k := hk hn _ e
  refine ⟨b, off, e, by omega, fun i d hd => ?_⟩
  obtain ⟨c0, c1, c2⟩ := hc i d hd
  exact ⟨(k _).trans c0, (k _).trans c1, (k _).trans c2⟩
/-- the edits of a patch lie apart from a row -/
def Apart (w : World) (v : Value) (p : Pt) : Prop := 0 < p.l.length → ∀ ad, p.A = some ad → v.ownBlock ≠ some ad.block ∧ ad.block < w.heap.size
/-- a row of patches of the call's own, whose edits can be read and lie apart from it -/
def PRow (w : World) (base : Nat) (A : Option Addr) (c : Nat) (m : List Pt) : Prop := OwnP w base A c m ∧ ∀ (i : Nat) (p : Pt), m[i]? = some p → PtOk w w.heap.size p ∧ Apart w (.slice A m.length c) p
theorem PRow.nil (w : World) (base : Nat) : PRow w base none 0 [] := ⟨OwnP.nil _ _, fun i p h => by simp at h⟩
theorem PRow.pts {w : World} {base c : Nat} {A : Option Addr} {m : List Pt} (h : PRow w base A c m) : Pts w w.heap.size A m := h.1.pts fun i e he => (h.2 i e he).1
theorem PRow.below {w w' : World} {base c : Nat} {A : Option Addr} {m : List Pt} (h : PRow w base A c m) (hb : Below w.heap.size w w') : PRow w' base A c m :=
  ⟨h.1.below hb, fun i p hp => ⟨(h.2 i p hp).1.below hb, fun hn ad ha => ⟨((h.2 i p hp).2 hn ad ha).1, Nat.lt_of_lt_of_le ((h.2 i p hp).2 hn ad ha).2 hb.size⟩⟩⟩
theorem PRow.grown {V w' : World} {base c c' : Nat} {A A' : Option Addr} {m : List Pt} {p : Pt} (h : PRow V base A c m) (hp : PtOk V V.heap.size p) (ha : Apart V (.slice A m.length c) p)
    (hown : OwnP w' base A' c' (m ++ [p])) (hg : V.grownBy w' (Value.slice A m.length c).ownBlock) (hat : (Value.slice A' (m ++ [p]).length c').ownBlock = (Value.slice A m.length c).ownBlock ∨ (Value.slice A' (m ++ [p]).length c').ownBlock = some V.heap.size) : PRow w' base A' c' (m ++ [p]) := by
  have key : ∀ q : Pt, PtOk V V.heap.size q → Apart V (.slice A m.length c) q → PtOk w' w'.heap.size q ∧ Apart w' (.slice A' (m ++ [p]).length c') q := by
    intro q hq hap
    refine ⟨⟨hq.1.part2 hg.size (fun hn ad hA off => ?_), hq.2⟩, fun hn ad hA => ?_⟩
    · obtain ⟨h1, h2⟩ := hap hn ad hA
      exact World.cell?_of_block (a := ⟨ad.block, off, none⟩) (hg.block ad.block h2 (fun e => h1 e.symm))
    · obtain ⟨h1, h2⟩ := hap hn ad hA
      refine ⟨fun e => ?_, Nat.lt_of_lt_of_le h2 hg.size⟩
      rcases hat with k | k
      · exact h1 (k.symm.trans e)
      · rw [k] at e; injection e with e; omega
  refine ⟨hown, fun i q hq => ?_⟩
  by_cases hi : i < m.length
  · rw [List.getElem?_append_left hi] at hq
    exact key q (h.2 i q hq).1 (h.2 i q hq).2
  · rw [List.getElem?_append_right (by omega)] at hq
    have h0 : i - m.length = 0 := by
      have := (List.getElem?_eq_some_iff.1 hq).1
      simp at this
      omega
    rw [h0] at hq
    simp at hq
    subst hq
    exact key p hp ha
end Go.Proofs.Ytfkpnfhhmldodaa
