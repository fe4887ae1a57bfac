/- slices.AppendSeq, slices.Collect over leaves, slices.Values of a row of leaves, tree.Leaves. -/
import Derived.Test.YtjnclchbklehgaaTreeLeaves
import Derived.Test.YtjnclchbklehgaaTreeRight
import Derived.Test.YtjnclchbklehgaaTreeChanged
import Derived.Test.YtjnclchbklehgaaTreeRefAsk
import Derived.Test.YtjnclchbklehgaaTreeSpan
import Derived.Test.YtjnclchbklehgaaShiftRow
import Derived.Test.YtjnclchbklehgaaTextStore
namespace Go.Proofs.Ytjnclchbklehgaa
open Go.RowKit Go.Shelf TreeMath

attribute [local go_sem] Oper.semAt_some

theorem own_set {w : World} {base : Nat} {e : TypeId} {size n g cap : Nat} {xs : List Value} (h : w.ownsRow base e size (.slice (some ⟨g, 0, none⟩) n cap) n xs) {j : Nat} (u : Value) (_hj : j < xs.length) : (w.setCell ⟨g, j, none⟩ u).ownsRow base e size (.slice (some ⟨g, 0, none⟩) n cap) n (xs.set j u) := by
  obtain ⟨hl, h⟩ := h
  refine ⟨by simpa using hl, ?_⟩
  rcases h with ⟨h, _⟩ | ⟨g', cap', cur, hv, hb, hgb, h1, h2, hcs, htk⟩
  · cases h
  · cases hv
    refine .inr ⟨g, cap, cur.setIfInBounds j u, rfl, hb, ?_, h1, h2, by simpa using hcs, ?_⟩
    · obtain ⟨hlt, hk⟩ := Array.getElem?_eq_some_iff.1 hgb
      show (w.heap.modify g _)[g]? = _
      rw [Array.getElem?_eq_getElem (by rw [Array.size_modify]; exact hlt), Array.getElem_modify_self, hk]
      rfl
    · rw [Array.toList_setIfInBounds, ← htk, List.take_set]

theorem set_ncs (l : List Value) (z x : Tr) (n : Nat) (h : l.length = n) : ((((((l ++ ncs z).set n (.int .i64 x.k)).set (n + 1) (.string x.g)).set (n + 2) (.string x.t)).set (n + 3) (.int .i64 x.a)).set (n + 4) (.slice x.A x.kids.length x.c)) = l ++ ncs x := by
  subst h
  simp [ncs, List.set_append_right]

/-- a row whose last node is stored into -/
theorem own_last {w : World} {base : Nat} {e : TypeId} {v : Value} {m : List Tr} {z : Tr} {n : Nat} (hn : m.length = n) (h : w.ownsRow base e 5 v (n + 1) (ncells m ++ ncs z)) : ∃ g c cur, v = .slice (some ⟨g, 0, none⟩) (n + 1) c ∧ w.heap[g]? = some (.cells cur e (0, 0)) ∧ n * 5 + 5 ≤ cur.size ∧
    ∀ x, (set5o w g (n * 5) x).ownsRow base e 5 v (n + 1) (ncells (m ++ [x])) := by
  subst hn
  obtain ⟨g, c, cur, hv, hgb, hsz⟩ : ∃ g c cur, v = .slice (some ⟨g, 0, none⟩) (m.length + 1) c ∧ w.heap[g]? = some (.cells cur e (0, 0)) ∧ m.length * 5 + 5 ≤ cur.size := by
    obtain ⟨hl, h2⟩ := h
    rcases h2 with ⟨_, h0⟩ | ⟨g, cap, cur, hv, hb, hgb, h1, h2, hcs, htk⟩
    · omega
    · refine ⟨g, cap, cur, hv, hgb, ?_⟩
      rw [hcs]; omega
  subst hv
  refine ⟨g, c, cur, rfl, hgb, hsz, fun x => ?_⟩
  have hl : (ncells m ++ ncs z).length = m.length * 5 + 5 := by rw [List.length_append, ncells_length]; rfl
  have h1 := own_set h (j := m.length * 5) (.int .i64 x.k) (by omega)
  have h2 := own_set h1 (j := m.length * 5 + 1) (.string x.g) (by simp only [List.length_set]; omega)
  have h3 := own_set h2 (j := m.length * 5 + 2) (.string x.t) (by simp only [List.length_set]; omega)
  have h4 := own_set h3 (j := m.length * 5 + 3) (.int .i64 x.a) (by simp only [List.length_set]; omega)
  have h5 := own_set h4 (j := m.length * 5 + 4) (.slice x.A x.kids.length x.c) (by simp only [List.length_set]; omega)
  rw [set_ncs _ z x _ (ncells_length m)] at h5
  rw [ncells_snoc]
  exact h5

/-- a row's block is no box of another type -/
theorem row_ne {base : Nat} {e t : TypeId} {size : Nat} {v u : Value} {n : Nat} {cs : List Value} {X : Nat → Prop} {W : World} {b : Nat} (h : W.ownsRow base e size v n cs) (hb : Has b (.cells #[u] t (0, 0)) X W) (hte : t ≠ e) : some b ≠ v.ownBlock := by
  intro hh
  rcases h.2 with ⟨rfl, _⟩ | ⟨g, cap, cur, rfl, _, hg, _⟩
  · cases hh
  · injection hh with hh
    subst hh
    have := hb.2.symm.trans hg
    injection this with this
    injection this with _ h2 _
    exact hte h2

abbrev lvc (pre : List Tr) : List Value := ncells (pre.map tok)
theorem lvc_length (pre : List Tr) : (pre.map tok).length = pre.length := List.length_map ..
/-- what a round holds -/
structure Cs (w : World) (y bp : Nat) (p : Tr) (X : Nat → Prop) (W1 : World) (u v : Value) (n : Nat) (cs : List Value) (W : World) : Prop where
  size : W1.heap.size ≤ W.heap.size
  kept : Kept X W1 W
  low : Low w.heap.size w X W
  hy : Has y (.cells #[u] 23 (0, 0)) X W
  row : Row w.heap.size 25 5 v n cs X W
  hb : Has bp (tbx p) X W
  apart : v.ownBlock ≠ some bp

section
variable {w W1 W W' : World} {y bp : Nat} {p : Tr} {X : Nat → Prop} {u v : Value} {n : Nat} {cs : List Value}
theorem Cs.off (h : Cs w y bp p X W1 u v n cs W) (ho : Off no W W') : Cs w y bp p X W1 u v n cs W' := by
  have ho' : Off X W W' := ho.mono fun _ h => h.elim
  exact ⟨Nat.le_trans h.size ho.size, Kept.trans h.size h.kept (Kept.of_off ho fun _ _ h => h.elim), (Low.frames _ _).off h.low ho', (Has.frames _ _).off h.hy ho', (Row.frames _ _ _ _ _ _).off h.row ho', (Has.frames _ _).off h.hb ho', h.apart⟩
theorem Cs.sety (h : Cs w y bp p X W1 u v n cs W) (hyn : w.heap.size ≤ y) (hne : y ≠ bp) (u' : Value) : Cs w y bp p X W1 u' v n cs (W.setCell ⟨y, 0, none⟩ u') := by
  refine ⟨by rw [size_set]; exact h.size, Kept.trans h.size h.kept (Kept.set h.hy.1 _ _), h.low.set hyn _, h.hy.set, ?_, h.hb.other (fun e => hne e.symm), h.apart⟩
  exact ⟨World.ownsRow.kept h.row.1 (grownBy_setCell' W y u') (.inr (fun hh => row_ne h.row.1 h.hy (by decide) hh.symm)), h.row.2⟩
theorem Cs.append (h : Cs w y bp p X W1 u v n cs W) (hXb : XOk X W1) {v' : Value} {n' : Nat} {cs' : List Value} (hown : W'.ownsRow w.heap.size 25 5 v' n' cs') (hg : W.grownBy W' v.ownBlock) (hat : v'.ownBlock = v.ownBlock ∨ v'.ownBlock = some W.heap.size) :
    Cs w y bp p X W1 u v' n' cs' W' := by
  obtain ⟨h1, h2⟩ := Row.appended h.row hXb h.size hown hg hat
  refine ⟨Nat.le_trans h.size hg.size, Kept.trans h.size h.kept h2, ⟨h.low.1.grown hg h.low.2.1 (fun k hk => (World.ownsRow.lt h.row.1 k hk).1), Nat.le_trans h.low.2.1 hg.size, h.low.2.2⟩,
    ⟨h.hy.1, (hg.block _ h.hy.lt (row_ne h.row.1 h.hy (by decide))).trans h.hy.2⟩, h1, ⟨h.hb.1, (hg.block _ h.hb.lt (fun e => h.apart e.symm)).trans h.hb.2⟩, fun e => ?_⟩
  rcases hat with hat | hat
  · exact h.apart (hat ▸ e)
  · rw [hat] at e; injection e with e; have := h.hb.lt; omega
theorem Cs.last {m : List Tr} {z : Tr} {n : Nat} (hn : m.length = n) (h : Cs w y bp p X W1 u v (n + 1) (ncells m ++ ncs z) W) : ∃ g c cur, v = .slice (some ⟨g, 0, none⟩) (n + 1) c ∧ W.heap[g]? = some (.cells cur 25 (0, 0)) ∧ n * 5 + 5 ≤ cur.size ∧
    ∀ x, Cs w y bp p X W1 u v (n + 1) (ncells (m ++ [x])) (set5o W g (n * 5) x) := by
  obtain ⟨g, c, cur, hv, hg, hs, hx⟩ := own_last hn h.row.1
  have hgo : v.ownBlock = some g := by rw [hv]; rfl
  have hgX := h.row.2 g hgo
  have hgy : y ≠ g := fun e => row_ne h.row.1 h.hy (by decide) (by rw [hgo, e])
  have hgb : bp ≠ g := fun e => h.apart (by rw [hgo, e])
  have hgn : w.heap.size ≤ g := (World.ownsRow.lt h.row.1 g hgo).1
  refine ⟨g, c, cur, hv, hg, hs, fun x => ⟨by rw [set5o_size]; exact h.size, Kept.trans h.size h.kept fun k hk _ => set5o_other _ (fun e : k = g => hgX (e ▸ hk)) x, ?_, ⟨h.hy.1, (set5o_other _ hgy x).trans h.hy.2⟩, ⟨hx x, h.row.2⟩, ⟨h.hb.1, (set5o_other _ hgb x).trans h.hb.2⟩, h.apart⟩⟩
  exact ((((h.low.set (p := ⟨g, n * 5, none⟩) hgn _).set (p := ⟨g, n * 5 + 1, none⟩) hgn _).set (p := ⟨g, n * 5 + 2, none⟩) hgn _).set (p := ⟨g, n * 5 + 3, none⟩) hgn _).set (p := ⟨g, n * 5 + 4, none⟩) hgn _
end

/-- a slice of leaves, in new memory -/
def ClV (L : List Tr) (w : World) (e : Ending) (w' : World) : Prop := ∃ A c, e = .returned (.slice A L.length c) ∧ Tks (nw w.heap.size w') w' A (L.map tok) ∧ Below w.heap.size w w'

def ClI (w : World) (y : Nat) (pre : List Tr) : As := fun X W => Low w.heap.size w X W ∧ ∃ v, Has y (.cells #[v] 23 (0, 0)) X W ∧ Row w.heap.size 25 5 v pre.length (lvc pre) X W
theorem ClI.frames (w : World) (y : Nat) (pre : List Tr) : Frames (ClI w y pre) := (Low.frames _ _).and (Frames.ex fun _ => (Has.frames _ _).and (Row.frames _ _ _ _ _ _))
abbrev clFrm (y bp : Nat) (v : Value) (p : Tr) : Act := { tmps := #[.slice none 0 0, v, .pointer (some ⟨y, 0, none⟩), undef, .slice none 0 0, .pointer (some ⟨bp, 0, none⟩), v, nv (tok p), undef, undef, undef, undef, undef, undef, undef], defers := [] }
def ClA (w : World) (y : Nat) (v : Value) (pre : List Tr) (p : Tr) (a' : Act) : As := fun X W => ∃ bp, (Low w.heap.size w X W ∧ ∃ u, Has y (.cells #[u] 23 (0, 0)) X W ∧ Row w.heap.size 25 5 u pre.length (lvc pre) X W ∧ u.ownBlock ≠ some bp) ∧ Has bp (tbx p) X W ∧ y ≠ bp ∧ a' = clFrm y bp v p
theorem ClA.frames (w : World) (y : Nat) (v : Value) (pre : List Tr) (p : Tr) (a' : Act) : Frames (ClA w y v pre p a') :=
  Frames.ex fun _ => ((Low.frames _ _).and (Frames.ex fun _ => (Has.frames _ _).and ((Row.frames _ _ _ _ _ _).and (Frames.pure _)))).and ((Has.frames _ _).and ((Frames.pure _).and (Frames.pure _)))

/-- a row of leaves that nobody of X has, nor block s -/
def TkA (A : Option Addr) (l : List Tr) (s : Nat) : As := fun X W => Tks (fun k => ¬ X k ∧ k < W.heap.size ∧ k ≠ s) W A l
theorem TkA.frames (A : Option Addr) (l : List Tr) (s : Nat) : Frames (TkA A l s) := fun X X' W W' h ho hx =>
  Tks.keep h (fun b i hb => cell_of (ho.block b hb.2.1 hb.1)) fun b hb => ⟨fun hX => (hx b hX).elim hb.1 (fun hle => by have := hb.2.1; omega), Nat.lt_of_lt_of_le hb.2.1 ho.size, hb.2.2⟩
theorem lrow_form {e : TypeId} {base : Nat} {v : Value} {m : List Tr} {w : World} (h : LRow e base v m w) : ∃ A c, v = .slice A m.length c ∧ Tks (nw base w) w A m := by
  rcases h.2 with ⟨hv, hn⟩ | ⟨g, cap, cur, hv, hb, hg, _⟩
  · exact ⟨none, 0, by rw [hv, hn], fun h0 => by omega⟩
  · refine ⟨some ⟨g, 0, none⟩, cap, hv, fun _ => ⟨g, 0, rfl, ⟨hb, (Array.getElem?_eq_some_iff.1 hg).1⟩, fun i p hp => at5_of (fun j u hu => ?_) hp⟩⟩
    rw [hv] at h
    have := World.ownsRow.cells h (g := g) rfl _ _ hu
    rwa [Addr.add_lit] at this

abbrev zbx0 : Obj := .cells #[.int .i64 0, .string ⟨#[]⟩, .string ⟨#[]⟩, .int .i64 0, .slice none 0 0] 25 (0, 0)
def zn0 : Tr := ⟨0, ⟨#[]⟩, ⟨#[]⟩, 0, none, 0, []⟩
/-- cells appended, at a step of a region that draws its order -/
theorem step_append_row {ops : Array Oper} {o : Oper} {a : Act} {K : Act → World → Prop} {Q : Exit → Act → World → Prop} {F : Prop} (hgd : o.guard = none) (s x : Operand) (t e : TypeId)
    (ho : o.op = .call { callee := .builtin .append, args := #[s, x], argTypes := #[t, t] }) (ht : Try.prog.underlying t = some (.slice e)) (hinfo : (Try.prog.info? e).map (fun i => (i.zero, i.size, i.bytes)) = some (some (.agg #[.int .i64 0, .string ⟨#[]⟩, .string ⟨#[]⟩, .int .i64 0, .slice none 0 0]), 5, 72))
    (V : World) (base : Nat) (v : Value) (n : Nat) (cs : List Value) (X : Nat)
    (hs : a.eval s = v) (hx : a.eval x = .slice (some ⟨X, 0, none⟩) 1 1) (news : List Value) (hblk : V.heap[X]? = some (.cells news.toArray e (0, 0))) (hl : news.length = 5) (hone : ∀ u ∈ news, u.oneCell' = true) (hrow : V.ownsRow base e 5 v n cs) (hn : n ≤ 20000) (hbase : base ≤ V.heap.size)
    (h : ∀ v' w', w'.ownsRow base e 5 v' (n + 1) (cs ++ news) → V.grownBy w' v.ownBlock → (v'.ownBlock = v.ownBlock ∨ v'.ownBlock = some V.heap.size) → K (a.put o.dst v') w') :
    if Region.wanted o (yielded ops a.tmps) = true then Oper.wp Try.prog o a V K Q else F := by
  have hw : Region.wanted o (yielded ops a.tmps) = true := by simp [Region.wanted, hgd]
  rw [if_pos hw]
  obtain ⟨i0, hi, hz0, hz1, hz2⟩ := info_parts hinfo
  obtain ⟨v', w', hr, hown, hg, _, hat⟩ := run_append_own_at (P := Try.prog) V base t o.type e i0 _ 5 72 ht hi hz0 hz1 hz2 rfl (by decide) _ _ _ hrow ⟨X, 0, none⟩ 1 1 news (by omega)
    (World.news_of_block hblk) hone (by unfold maxLen; omega) (by omega) hbase
  unfold Oper.wp execOp
  simp only [ho, resolve, invoke, builtin, Sem.run_bind, Sem.run_pure, Result.andThen_ok, List.map_toArray, List.map_cons, List.map_nil, hs, hx, hr]
  exact h v' w' hown hg hat

/-- a box's cells -/
theorem heap5t {W : World} {b : Nat} {T : Tr} {t : TypeId} (h : W.heap[b]? = some (.cells (ncc T) t (0, 0))) : W.cell? ⟨b, 0, none⟩ = some (.int .i64 T.k) ∧ W.cell? ⟨b, 1, none⟩ = some (.string T.g) ∧ W.cell? ⟨b, 2, none⟩ = some (.string T.t) ∧ W.cell? ⟨b, 3, none⟩ = some (.int .i64 T.a) ∧ W.cell? ⟨b, 4, none⟩ = some (.slice T.A T.kids.length T.c) :=
  ⟨cell_heap h, cell_heap h, cell_heap h, cell_heap h, cell_heap h⟩

set_option maxRecDepth 100000 in
set_option maxHeartbeats 2000000 in
theorem appendSeq_any {gf : Nat} {lb : Array Value} {xs : List Tr} {C : As} (hit : Iter Try.prog gf lb (fun p : Tr => #[nv (tok p)]) xs C) (eg : ∀ args w, (callFunc gf args).run Try.prog w = .ok (.enter gf args) w) (w : World)
    (hC : ∀ X W, Low w.heap.size w X W → C X W) (hxs : xs.length ≤ 20000) :
    Calls Try.prog 56 #[.slice none 0 0, .func (.func gf) #[] lb] w (ClV xs w) := by
  have HC := Lib.hid hC
  clear hC
  refine (callsIn_wide (n := 8)).1 ?_
  refine callsIn_of_wp_marks Try.func56 rfl trivial ?_ rfl
  simp only [Try.ntmps56, List.size_toArray, List.length_cons, List.length_nil, Nat.reduceAdd, Nat.reduceSub, Array.replicate_succ, Array.replicate_zero, List.push_toArray, List.append_toArray, List.nil_append, List.cons_append]
  gi_wp2
  refine range_out hit rfl eg (fun _ => rfl) (ClI w w.heap.size) (fun _ _ _ _ => False) (ClA w w.heap.size (.func (.func gf) #[] lb)) ?fI ?fX ?fA ?hC ?h0 ?assign ?body ?done ?stop
  case fI => exact fun pre => ClI.frames _ _ _
  case fX => exact fun c pre => Frames.pure _
  case fA => exact fun pre p a' => ClA.frames _ _ _ _ _ _
  case hC => exact fun pre X W1 h => HC.out X W1 h.1
  case h0 => exact ⟨⟨below1 w _, by simp, fun _ h => h.elim⟩, .slice none 0 0, Has.newAt (fun h => h) rfl _, World.ownsRow_nil _ _ _ _, fun k hk => by cases hk⟩
  case assign =>
    rintro lq X pre p W1 K hX hXb ⟨hlow, v, hy, hrow⟩ hp hK
    gi_wp2
    exact hK _ _ (by simp) (Kept.alloc _ _ _) ⟨W1.heap.size, ⟨(Low.frames _ _).off hlow (Off.alloc _ _ _), v, hy.alloc _, (Row.frames _ _ _ _ _ _).off hrow (Off.alloc _ _ _), fun e => by have := (World.ownsRow.lt hrow.1 _ e).2; omega⟩, Has.new hXb _, by have := hy.lt; omega, rfl⟩
  case body =>
    rintro lq X pre p a' W1 hX hXb hr2 ⟨bp, ⟨hlow, u, hy, hrow, hap⟩, hbp, hne, rfl⟩ hp
    have hlen : pre.length < 20000 := by have := hp.length_le; simp at this; omega
    obtain ⟨A0, c0, rfl⟩ := own_slice hrow.1
    have hs0 : Cs w w.heap.size bp p X W1 (.slice A0 pre.length c0) (.slice A0 pre.length c0) pre.length (lvc pre) W1 := ⟨Nat.le_refl _, Kept.refl _ _, hlow, hy, hrow, hbp, hap⟩
    have hs1 := hs0.off (Off.drew no W1)
    have HXB := Lib.hid hXb
    clear hp hs0 hlow hy hrow hap hbp hr2 hXb
    gi_wp2
    refine wpIn_region_held (fun W' => W'.heap[bp]? = some (tbx p)) (by kernel_rfl) (by kernel_rfl) ?hQ ?_
    case hQ => rintro ⟨_, _, h⟩; exact h
    show wpAnyH _ _ _ _ _ _ _ _ W1.drew
    generalize W1.drew = v0 at hs1 ⊢
    refine wpAnyH_take_d (i := 1) (v := nv (tok p)) 9 rfl rfl (by kernel_rfl) (by kernel_rfl) (by kernel_rfl) (fun _ _ _ h => h) (Or.inl ⟨by kernel_rfl, fun w' hS' => ?y1⟩) (hs1.hb.2) ?_
    case y1 => (have s0 := heap5t hS'; go_simp)
    simp only [Act.put, List.setIfInBounds_toArray, List.set_cons_zero, List.set_cons_succ]
    refine wpAnyH_ready (rs := [0, 3]) (by kernel_rfl) (by simp) ?_
    refine AllReadyH.cons rfl (fun K hK => ?_) (AllReadyH.cons rfl (fun K hK => ?_) AllReadyH.nil)
    · have cy := hs1.hy.cell (i := 0)
      simp only [List.getElem?_toArray, List.getElem?_cons_zero] at cy
      go_simp
      clear cy
      refine hK.out _ _ hs1.hb.2 (fun _ => ?_)
      clear hK K
      try simp only [Act.put, List.setIfInBounds_toArray, List.set_cons_zero, List.set_cons_succ]
      refine wpAnyH_take_d (i := 2) (v := .int .i64 (pre.length : Nat)) 10 rfl rfl (by kernel_rfl) (by kernel_rfl) (by kernel_rfl) (fun _ _ _ h => h) (Or.inl ⟨by kernel_rfl, fun w' hS' => ?y2⟩) (hs1.hb.2) ?_
      case y2 => (go_simp)
      simp only [Act.put, List.setIfInBounds_toArray, List.set_cons_zero, List.set_cons_succ]
      refine wpAnyH_ready (rs := [3]) (by kernel_rfl) (by simp) ?_
      refine AllReadyH.cons rfl (fun K hK => ?_) AllReadyH.nil
      go_simp
      have hs2 := hs1.off (Off.alloc no v0 (zbx0))
      refine hK.out _ _ hs2.hb.2 (fun _ => ?_)
      clear hK K
      try simp only [Act.put, List.setIfInBounds_toArray, List.set_cons_zero, List.set_cons_succ]
      refine wpAnyH_ready (rs := [4]) (by kernel_rfl) (by simp) ?_
      refine AllReadyH.cons rfl (fun K hK => ?_) AllReadyH.nil
      refine step_append_row (by rfl) _ _ 23 25 (by rfl) Try.underlying23 info_tnode _ w.heap.size (.slice A0 pre.length c0) pre.length (lvc pre) v0.heap.size (by rfl) (by rfl) (ncs zn0) (World.alloc_heap_new v0 _) rfl (by intro u hu; simp [ncs, zn0] at hu; rcases hu with rfl | rfl | rfl | rfl | rfl <;> rfl) hs2.row.1 (by omega) hs2.low.2.1 ?_
      intro v' w3 hown hg hat
      have hs3 := hs2.append HXB.out hown hg hat
      clear hown hg hat
      obtain ⟨g, c, cur, rfl, hgc, hsz, hst⟩ := hs3.last (lvc_length pre)
      have z1 : (0 : Int) ≤ (pre.length : Nat) := by omega
      have z2 : ((pre.length : Nat) : Int) < ((pre.length + 1 : Nat) : Int) := by omega
      refine hK.out _ _ hs3.hb.2 (fun _ => ?_)
      clear hK K
      try simp only [Act.put, List.setIfInBounds_toArray, List.set_cons_zero, List.set_cons_succ]
      refine wpAnyH_take_d (i := 5) (v := .pointer (some ⟨g, pre.length * 5, none⟩)) 13 rfl rfl (by kernel_rfl) (by kernel_rfl) (by kernel_rfl) (fun _ _ _ h => h) (Or.inl ⟨by kernel_rfl, fun w' hS' => ?y5⟩) (hs3.hb.2) ?_
      case y5 => (go_simp; intro h; omega)
      simp only [Act.put, List.setIfInBounds_toArray, List.set_cons_zero, List.set_cons_succ]
      refine wpAnyH_ready (rs := [6, 7]) (by kernel_rfl) (by simp) ?_
      refine AllReadyH.cons rfl (fun K hK => ?_) (AllReadyH.cons rfl (fun K hK => ?_) AllReadyH.nil)
      · refine step_store_at (by rfl) 25 (.tmp 13) (.tmp 9) (by rfl) size_tnode g (pre.length * 5) (tok p) (by rfl) (by rfl) hgc hsz ?_
        have hs4 := hst (tok p)
        generalize set5o w3 g (pre.length * 5) (tok p) = w4 at hs4 ⊢
        refine hK.out _ _ hs4.hb.2 (fun _ => ?_)
        clear hK K
        try simp only [Act.put, List.setIfInBounds_toArray, List.set_cons_zero, List.set_cons_succ]
        refine wpAnyH_ready (rs := [7]) (by kernel_rfl) (by simp) ?_
        refine AllReadyH.cons rfl (fun K hK => ?_) AllReadyH.nil
        have cy := hs4.hy.cell (i := 0)
        simp only [List.getElem?_toArray, List.getElem?_cons_zero] at cy
        have fy := hs4.hy.frozen (i := 0)
        go_simp
        have hs5 := hs4.sety (Nat.le_refl _) hne (.slice (some ⟨g, 0, none⟩) (pre.length + 1) c)
        generalize w4.setCell ⟨w.heap.size, 0, none⟩ (.slice (some ⟨g, 0, none⟩) (pre.length + 1) c) = w5 at hs5 ⊢
        refine hK.out _ _ hs5.hb.2 (fun _ => ?_)
        clear hK K
        try simp only [Act.put, List.setIfInBounds_toArray, List.set_cons_zero, List.set_cons_succ]
        refine wpAnyH_done (by kernel_rfl) ?_ _
        gi_wp2
        refine ⟨hs5.size, hs5.kept, hs5.low, _, hs5.hy, ?_⟩
        rw [List.length_append]
        have hr5 := hs5.row
        have he5 : lvc (pre ++ [p]) = ncells (pre.map tok ++ [tok p]) := by simp [lvc]
        rw [he5]
        exact hr5
      · have cy := hs3.hy.cell (i := 0)
        simp only [List.getElem?_toArray, List.getElem?_cons_zero] at cy
        have fy := hs3.hy.frozen (i := 0)
        go_simp
        clear cy fy
        have hs4 := hs3.sety (Nat.le_refl _) hne (.slice (some ⟨g, 0, none⟩) (pre.length + 1) c)
        generalize w3.setCell ⟨w.heap.size, 0, none⟩ (.slice (some ⟨g, 0, none⟩) (pre.length + 1) c) = w4 at hs4 ⊢
        obtain ⟨g', c', cur', hv', hgc', hsz', hst'⟩ := hs4.last (lvc_length pre)
        obtain ⟨rfl, rfl⟩ : g' = g ∧ c' = c := by injection hv' with h1 h2 h3; injection h1 with h1; injection h1 with h1; exact ⟨h1.symm, h3.symm⟩
        refine hK.out _ _ hs4.hb.2 (fun _ => ?_)
        clear hK K
        try simp only [Act.put, List.setIfInBounds_toArray, List.set_cons_zero, List.set_cons_succ]
        refine wpAnyH_ready (rs := [6]) (by kernel_rfl) (by simp) ?_
        refine AllReadyH.cons rfl (fun K hK => ?_) AllReadyH.nil
        refine step_store_at (by rfl) 25 (.tmp 13) (.tmp 9) (by rfl) size_tnode g' (pre.length * 5) (tok p) (by rfl) (by rfl) hgc' hsz' ?_
        have hs5 := hst' (tok p)
        generalize set5o w4 g' (pre.length * 5) (tok p) = w5 at hs5 ⊢
        refine hK.out _ _ hs5.hb.2 (fun _ => ?_)
        clear hK K
        try simp only [Act.put, List.setIfInBounds_toArray, List.set_cons_zero, List.set_cons_succ]
        refine wpAnyH_done (by kernel_rfl) ?_ _
        gi_wp2
        refine ⟨hs5.size, hs5.kept, hs5.low, _, hs5.hy, ?_⟩
        rw [List.length_append]
        have hr5 := hs5.row
        have he5 : lvc (pre ++ [p]) = ncells (pre.map tok ++ [tok p]) := by simp [lvc]
        rw [he5]
        exact hr5
    · go_simp
      have hs2 := hs1.off (Off.alloc no v0 (zbx0))
      refine hK.out _ _ hs2.hb.2 (fun _ => ?_)
      clear hK K
      try simp only [Act.put, List.setIfInBounds_toArray, List.set_cons_zero, List.set_cons_succ]
      refine wpAnyH_ready (rs := [0]) (by kernel_rfl) (by simp) ?_
      refine AllReadyH.cons rfl (fun K hK => ?_) AllReadyH.nil
      have cy := hs2.hy.cell (i := 0)
      simp only [List.getElem?_toArray, List.getElem?_cons_zero] at cy
      go_simp
      clear cy
      refine hK.out _ _ hs2.hb.2 (fun _ => ?_)
      clear hK K
      try simp only [Act.put, List.setIfInBounds_toArray, List.set_cons_zero, List.set_cons_succ]
      refine wpAnyH_take_d (i := 2) (v := .int .i64 (pre.length : Nat)) 10 rfl rfl (by kernel_rfl) (by kernel_rfl) (by kernel_rfl) (fun _ _ _ h => h) (Or.inl ⟨by kernel_rfl, fun w' hS' => ?y2⟩) (hs2.hb.2) ?_
      case y2 => (go_simp)
      simp only [Act.put, List.setIfInBounds_toArray, List.set_cons_zero, List.set_cons_succ]
      refine wpAnyH_ready (rs := [4]) (by kernel_rfl) (by simp) ?_
      refine AllReadyH.cons rfl (fun K hK => ?_) AllReadyH.nil
      refine step_append_row (by rfl) _ _ 23 25 (by rfl) Try.underlying23 info_tnode _ w.heap.size (.slice A0 pre.length c0) pre.length (lvc pre) v0.heap.size (by rfl) (by rfl) (ncs zn0) (World.alloc_heap_new v0 _) rfl (by intro u hu; simp [ncs, zn0] at hu; rcases hu with rfl | rfl | rfl | rfl | rfl <;> rfl) hs2.row.1 (by omega) hs2.low.2.1 ?_
      intro v' w3 hown hg hat
      have hs3 := hs2.append HXB.out hown hg hat
      clear hown hg hat
      obtain ⟨g, c, cur, rfl, hgc, hsz, hst⟩ := hs3.last (lvc_length pre)
      have z1 : (0 : Int) ≤ (pre.length : Nat) := by omega
      have z2 : ((pre.length : Nat) : Int) < ((pre.length + 1 : Nat) : Int) := by omega
      refine hK.out _ _ hs3.hb.2 (fun _ => ?_)
      clear hK K
      try simp only [Act.put, List.setIfInBounds_toArray, List.set_cons_zero, List.set_cons_succ]
      refine wpAnyH_take_d (i := 5) (v := .pointer (some ⟨g, pre.length * 5, none⟩)) 13 rfl rfl (by kernel_rfl) (by kernel_rfl) (by kernel_rfl) (fun _ _ _ h => h) (Or.inl ⟨by kernel_rfl, fun w' hS' => ?y5⟩) (hs3.hb.2) ?_
      case y5 => (go_simp; intro h; omega)
      simp only [Act.put, List.setIfInBounds_toArray, List.set_cons_zero, List.set_cons_succ]
      refine wpAnyH_ready (rs := [6, 7]) (by kernel_rfl) (by simp) ?_
      refine AllReadyH.cons rfl (fun K hK => ?_) (AllReadyH.cons rfl (fun K hK => ?_) AllReadyH.nil)
      · refine step_store_at (by rfl) 25 (.tmp 13) (.tmp 9) (by rfl) size_tnode g (pre.length * 5) (tok p) (by rfl) (by rfl) hgc hsz ?_
        have hs4 := hst (tok p)
        generalize set5o w3 g (pre.length * 5) (tok p) = w4 at hs4 ⊢
        refine hK.out _ _ hs4.hb.2 (fun _ => ?_)
        clear hK K
        try simp only [Act.put, List.setIfInBounds_toArray, List.set_cons_zero, List.set_cons_succ]
        refine wpAnyH_ready (rs := [7]) (by kernel_rfl) (by simp) ?_
        refine AllReadyH.cons rfl (fun K hK => ?_) AllReadyH.nil
        have cy := hs4.hy.cell (i := 0)
        simp only [List.getElem?_toArray, List.getElem?_cons_zero] at cy
        have fy := hs4.hy.frozen (i := 0)
        go_simp
        have hs5 := hs4.sety (Nat.le_refl _) hne (.slice (some ⟨g, 0, none⟩) (pre.length + 1) c)
        generalize w4.setCell ⟨w.heap.size, 0, none⟩ (.slice (some ⟨g, 0, none⟩) (pre.length + 1) c) = w5 at hs5 ⊢
        refine hK.out _ _ hs5.hb.2 (fun _ => ?_)
        clear hK K
        try simp only [Act.put, List.setIfInBounds_toArray, List.set_cons_zero, List.set_cons_succ]
        refine wpAnyH_done (by kernel_rfl) ?_ _
        gi_wp2
        refine ⟨hs5.size, hs5.kept, hs5.low, _, hs5.hy, ?_⟩
        rw [List.length_append]
        have hr5 := hs5.row
        have he5 : lvc (pre ++ [p]) = ncells (pre.map tok ++ [tok p]) := by simp [lvc]
        rw [he5]
        exact hr5
      · have cy := hs3.hy.cell (i := 0)
        simp only [List.getElem?_toArray, List.getElem?_cons_zero] at cy
        have fy := hs3.hy.frozen (i := 0)
        go_simp
        clear cy fy
        have hs4 := hs3.sety (Nat.le_refl _) hne (.slice (some ⟨g, 0, none⟩) (pre.length + 1) c)
        generalize w3.setCell ⟨w.heap.size, 0, none⟩ (.slice (some ⟨g, 0, none⟩) (pre.length + 1) c) = w4 at hs4 ⊢
        obtain ⟨g', c', cur', hv', hgc', hsz', hst'⟩ := hs4.last (lvc_length pre)
        obtain ⟨rfl, rfl⟩ : g' = g ∧ c' = c := by injection hv' with h1 h2 h3; injection h1 with h1; injection h1 with h1; exact ⟨h1.symm, h3.symm⟩
        refine hK.out _ _ hs4.hb.2 (fun _ => ?_)
        clear hK K
        try simp only [Act.put, List.setIfInBounds_toArray, List.set_cons_zero, List.set_cons_succ]
        refine wpAnyH_ready (rs := [6]) (by kernel_rfl) (by simp) ?_
        refine AllReadyH.cons rfl (fun K hK => ?_) AllReadyH.nil
        refine step_store_at (by rfl) 25 (.tmp 13) (.tmp 9) (by rfl) size_tnode g' (pre.length * 5) (tok p) (by rfl) (by rfl) hgc' hsz' ?_
        have hs5 := hst' (tok p)
        generalize set5o w4 g' (pre.length * 5) (tok p) = w5 at hs5 ⊢
        refine hK.out _ _ hs5.hb.2 (fun _ => ?_)
        clear hK K
        try simp only [Act.put, List.setIfInBounds_toArray, List.set_cons_zero, List.set_cons_succ]
        refine wpAnyH_done (by kernel_rfl) ?_ _
        gi_wp2
        refine ⟨hs5.size, hs5.kept, hs5.low, _, hs5.hy, ?_⟩
        rw [List.length_append]
        have hr5 := hs5.row
        have he5 : lvc (pre ++ [p]) = ncells (pre.map tok ++ [tok p]) := by simp [lvc]
        rw [he5]
        exact hr5
  case done =>
    rintro D W1 ⟨hlow, v, hy, hrow⟩ hD
    obtain ⟨A0, c0, rfl⟩ := own_slice hrow.1
    have q0 := hy.cell (i := 0)
    simp only [List.getElem?_toArray, List.getElem?_cons_zero] at q0
    gi_wp2
    refine ⟨by simp, .inl ⟨_, _, rfl, run_takeDeferred hD, ?_⟩⟩
    have ho : Off (· = D) W1 (W1.putObj D (.deferred none)) := Off.putObj (X := (· = D)) rfl _ _
    have hrow2 := (Row.frames _ _ _ _ _ _).off hrow ho
    have hr3 := hrow2.1
    rw [← lvc_length xs] at hr3
    obtain ⟨A, c, he, hk⟩ := lrow_form hr3
    injection he with h1 h2 h3
    subst h1 h3
    exact ⟨.slice A0 xs.length c0, by simp [results, Try.results56, go_sem], A0, c0, rfl, hk, ((Low.frames _ _).off hlow ho).1⟩
  case stop =>
    rintro D c pre W1 hp h hD
    exact h.elim

set_option maxHeartbeats 400000 in
theorem collect_any {gf : Nat} {lb : Array Value} {xs : List Tr} {C : As} (hit : Iter Try.prog gf lb (fun p : Tr => #[nv (tok p)]) xs C) (eg : ∀ args w, (callFunc gf args).run Try.prog w = .ok (.enter gf args) w) (w : World)
    (hC : ∀ X W, Low w.heap.size w X W → C X W) (hxs : xs.length ≤ 20000) :
    Calls Try.prog 43 #[.func (.func gf) #[] lb] w (ClV xs w) := by
  have H := Lib.hid (appendSeq_any hit eg w hC hxs)
  clear hC
  go_enter Try.func43, Try.ntmps43
  go_wp2_with fail
  refine H.out.mono ?_
  rintro e w1 ⟨A, c, rfl, hd, hb⟩
  have HD := Lib.hid hd
  clear hd
  go_wp2
  go_ret
  exact ⟨A, c, rfl, HD.out, hb⟩

theorem eg_values : ∀ args w, (callFunc 57 args).run Try.prog w = .ok (.enter 57 args) w := by
  intro args w; simp [go_sem]
abbrev slb (A : Option Addr) (n c : Nat) : Obj := .cells #[.slice A n c] 23 (0, 0)
set_option maxHeartbeats 400000 in
theorem values_any (A : Option Addr) (n c : Nat) (w : World) :
    Calls Try.prog 44 #[.slice A n c] w fun e w' => e = .returned (.func (.func 57) #[] #[.pointer (some ⟨w.heap.size, 0, none⟩)]) ∧ w.alloc (slb A n c) = w' := by
  have hmf : ∀ (fn : Fn) (first cap : Array Value) (w : World), (Instr.makeFunc fn first cap).run Try.prog w = .ok (.func fn first cap) w := fun _ _ _ _ => rfl
  go_enter Try.func44, Try.ntmps44
  go_wp2
  go_ret
  exact ⟨rfl, rfl⟩

set_option maxRecDepth 100000 in
set_option maxHeartbeats 2000000 in
theorem values_iter (xs : List Tr) (b : Nat) (A : Option Addr) (c : Nat) (hl : xs.length ≤ 20000) :
    Iter Try.prog 57 #[.pointer (some ⟨b, 0, none⟩)] (fun x : Tr => #[nv (tok x)]) xs (fun X W => (∃ s, TkA A (xs.map tok) s X W) ∧ Has b (slb A xs.length c) X W) := by
  intro n m lp J Jx W hJ hJx hC hY h0
  have HY := Lib.hid hY
  have HC := Lib.hid hC
  have HJ := Lib.hid hJ
  have HJx := Lib.hid hJx
  have q0 := (hC _ _ _ h0).2.cell (i := 0)
  simp only [List.getElem?_toArray, List.getElem?_cons_zero] at q0
  clear hY hC hJ hJx
  refine callsIn_of_wp Try.func57 rfl trivial ?_ rfl
  simp only [Try.ntmps57, List.size_toArray, List.length_cons, List.length_nil, Nat.reduceAdd, Nat.reduceSub, Array.replicate_succ, Array.replicate_zero, List.push_toArray, List.append_toArray, List.nil_append, List.cons_append]
  gi_wp2
  gi_loopw [7] (fun i wr => ∃ k : Nat, i = .int .i64 k ∧ k ≤ xs.length ∧ J (xs.take k) no wr) (fun i _ => xs.length + 1 - (intOf i).toNat)
  case atStart => exact ⟨0, rfl, Nat.zero_le _, by simpa using h0⟩
  case round =>
    clear q0 h0
    obtain ⟨k, rfl, hk, hJr⟩ := hrel
    by_cases hlt : k < xs.length
    · obtain ⟨x, hx⟩ : ∃ x, xs[k]? = some x := ⟨_, List.getElem?_eq_getElem hlt⟩
      obtain ⟨s0, hlow⟩ := (HC.out _ _ _ hJr).1
      have hx' : (xs.map tok)[k]? = some (tok x) := by rw [List.getElem?_map, hx]; rfl
      obtain ⟨b', off, rfl, hb', c0, c1, c2, c3, c4⟩ := Tks.at_ hlow hx'
      have hpre : xs.take (k + 1) = xs.take k ++ [x] := by rw [List.take_add_one, hx]; rfl
      have HPRE := Lib.hid hpre
      have HPX : Hid (xs.take k ++ [x] <+: xs) := Lib.hid (by rw [← hpre]; exact List.take_prefix _ _)
      have hJ1 := (HJ.out _).off hJr (Off.alloc no wr (tbx x))
      obtain ⟨fn, tmps, assign, body, hy, hR⟩ := HY.out (xs.take k) x no (wr.alloc (tbx x)) (fun _ h => h.elim) hJ1 HPX.out
      have z1 : (k : Int) < xs.length := by omega
      have z2 : (0 : Int) ≤ k := by omega
      clear hx hx' hpre hJ1 hlow hb' hJr
      gi_wp2
      refine round_any (hR.mono ?_)
      rintro r W3 ⟨hs3, hk3, (⟨rfl, hJ3⟩ | ⟨rfl, hJx3⟩)⟩
      · clear hk3 hy c0 c1 c2 c3 c4
        have HJ3 : Hid (J (xs.take (k + 1)) no W3) := Lib.hid (by rw [HPRE.out]; exact hJ3)
        clear hJ3 hs3
        gi_wp2
        go_roundw
        case rel => exact ⟨k + 1, by go_num, by omega, HJ3.out⟩
        case measure => simp [intOf]; omega
      · gi_wp2
        refine bodyPost_ret (results_none rfl _ _ _) rfl ?_
        exact ⟨⟨_, rfl⟩, .inr ⟨_, HPX.out, hJx3⟩⟩
    · obtain rfl : k = xs.length := by omega
      gi_wp2
      go_end0
      refine ⟨⟨_, rfl⟩, .inl ?_⟩
      rwa [List.take_length] at hJr

/-- what tree.Leaves hands on -/
def lvs (T : Tr) : List Tr := if rgt T = true then lf T else []
theorem lvs_len {T : Tr} (hw : wt T ≤ 5000) : (lvs T).length ≤ 5000 := by
  unfold lvs
  split
  · have h1 : (lf T).length ≤ (ns T).length := List.length_filter_le _ _
    have h2 := cn_wt T
    unfold cn at h2
    omega
  · simp
def LvsV (T : Tr) (w : World) (e : Ending) (w' : World) : Prop := ∃ b A c, e = .returned (.func (.func 57) #[] #[.pointer (some ⟨b, 0, none⟩)]) ∧ w'.heap[b]? = some (slb A (lvs T).length c) ∧ w.heap.size ≤ b ∧ Tks (nw w.heap.size w') w' A ((lvs T).map tok) ∧ Below w.heap.size w w'

set_option maxRecDepth 100000 in
set_option maxHeartbeats 800000 in
theorem leavesAll_any (T : Tr) (w : World) (hw : wt T ≤ 5000) (hT : Tn (lo w.heap.size) w T) :
    Calls Try.prog 22 #[nv T] w (LvsV T w) := by
  have hB1 := below1 w (nbx T)
  have HR := Lib.hid (right_any T (w.alloc (nbx T)) ((hT.below hB1).more hB1.size) hw)
  have HCO : Hid (rgt T = true → ∀ W, Below (w.alloc (nbx T)).heap.size (w.alloc (nbx T)) W → Calls Try.prog 43 #[.func (.func 53) #[] #[.pointer (some ⟨W.heap.size, 0, none⟩)]] (W.alloc (nbx T)) (ClV (lvs T) (W.alloc (nbx T)))) := Lib.hid fun hr W hW => by
    have hb2 := (hB1.trans (hW.mono (by simp))).trans ((below1 W (nbx T)).mono (by have := hW.size; simp at this; omega))
    have hit := leaves_iter T (W.alloc (nbx T)) W.heap.size ((hT.below hb2).more hb2.size) hw
    have he : lvs T = lf T := if_pos hr
    have hlen := lvs_len hw
    rw [he] at hlen ⊢
    exact collect_any hit eg_leaves (W.alloc (nbx T)) (fun X W' h => ⟨h, fun hx => by have := h.2.2 _ hx; simp at this; omega, (h.1.block _ (by simp)).trans (heap_alloc_new W _)⟩) (by omega)
  have HLN := Lib.hid (fun h : rgt T = false => (show lvs T = [] from by unfold lvs; rw [h]; rfl))
  have HB := Lib.hid hB1
  obtain ⟨L, hL⟩ : ∃ L, lvs T = L := ⟨_, rfl⟩
  unfold LvsV
  rw [hL] at HCO HLN ⊢
  clear hB1 hw hT hL
  go_enter Try.func22, Try.ntmps22
  cases hr : rgt T with
  | false =>
    have hLn := HLN.out hr
    subst hLn
    rw [hr] at HR
    go_wp2_with fail
    refine HR.out.mono ?_
    rintro e w1 ⟨rfl, hb1⟩
    have HB1 := Lib.hid (HB.out.trans (hb1.mono HB.out.size))
    clear hb1
    go_wp2_with fail
    refine (values_any none 0 0 w1).mono ?_
    rintro e w2 ⟨rfl, rfl⟩
    go_wp2
    go_ret
    exact ⟨w1.heap.size, none, 0, rfl, World.alloc_heap_new w1 _, HB1.out.size, fun h => absurd h (by simp), HB1.out.trans ((below1 w1 _).mono HB1.out.size)⟩
  | true =>
    rw [hr] at HR
    go_wp2_with fail
    refine HR.out.mono ?_
    rintro e w1 ⟨rfl, hb1⟩
    have hc1 := box5 hb1
    have HBX := Lib.hid hb1
    have HB1 := Lib.hid (HB.out.trans (hb1.mono HB.out.size))
    clear hb1
    go_wp2_with fail
    refine (leaves_any T w1).mono ?_
    rintro e w2 ⟨rfl, rfl⟩
    have HC2 := Lib.hid (HCO.out hr w1 HBX.out)
    go_wp2_with fail
    refine HC2.out.mono ?_
    rintro e w3 ⟨A, c, rfl, hk3, hb3⟩
    have HK3 := Lib.hid hk3
    have HB3 := Lib.hid (HB1.out.trans (((below1 w1 (nbx T)).trans (hb3.mono (by simp))).mono HB1.out.size))
    clear hk3 hb3
    go_wp2_with fail
    refine (values_any A L.length c w3).mono ?_
    rintro e w4 ⟨rfl, rfl⟩
    go_wp2
    go_ret
    exact ⟨w3.heap.size, A, c, rfl, World.alloc_heap_new w3 _, HB3.out.size, HK3.out.keep (fun b i hb => cell_of (Below.heap_alloc w3 _ _ hb.2)) (fun b hb => ⟨by have := hb.1; have := HB1.out.size; simp at *; omega, by have := hb.2; simp; omega⟩), HB3.out.trans ((below1 w3 _).mono HB3.out.size)⟩
end Go.Proofs.Ytjnclchbklehgaa
