/- A row of items (a node with its depth), read. -/
import Derived.Test.YtjnclchbklehgaaTreeWalksMath
import Derived.Test.YtjnclchbklehgaaTreeBK
import Derived.Test.YtjnclchbklehgaaTreeColl
import Derived.Test.YtjnclchbklehgaaTextStore
namespace Go.Proofs.Ytjnclchbklehgaa
open Go.RowKit Go.Shelf TreeMath

/-- an item's six cells stand at b, o -/
def At6 (w : World) (b o : Nat) (p : Nat × Tr) : Prop :=
  w.cell? ⟨b, o, none⟩ = some (.int .i64 (p.1 : Nat)) ∧ w.cell? ⟨b, o + 1, none⟩ = some (.int .i64 p.2.k) ∧ w.cell? ⟨b, o + 2, none⟩ = some (.string p.2.g) ∧ w.cell? ⟨b, o + 3, none⟩ = some (.string p.2.t) ∧ w.cell? ⟨b, o + 4, none⟩ = some (.int .i64 p.2.a) ∧ w.cell? ⟨b, o + 5, none⟩ = some (.slice p.2.A p.2.kids.length p.2.c)
/-- a slice of items lies in one of the blocks S -/
def Its (S : Nat → Prop) (w : World) (A : Option Addr) (l : List (Nat × Tr)) : Prop :=
  0 < l.length → ∃ b, A = some ⟨b, 0, none⟩ ∧ S b ∧ ∀ (i : Nat) (p : Nat × Tr), l[i]? = some p → At6 w b (i * 6) p
theorem Its.keep {S S' : Nat → Prop} {w w' : World} {A : Option Addr} {l : List (Nat × Tr)} (h : Its S w A l) (hk : ∀ b i, S b → w'.cell? ⟨b, i, none⟩ = w.cell? ⟨b, i, none⟩) (hS : ∀ b, S b → S' b) : Its S' w' A l := fun hn => by
  obtain ⟨b, hA, hb, h⟩ := h hn
  refine ⟨b, hA, hS b hb, fun i p hp => ?_⟩
  obtain ⟨h0, h1, h2, h3, h4, h5⟩ := h i p hp
  exact ⟨(hk b _ hb).trans h0, (hk b _ hb).trans h1, (hk b _ hb).trans h2, (hk b _ hb).trans h3, (hk b _ hb).trans h4, (hk b _ hb).trans h5⟩
theorem Its.at_ {S : Nat → Prop} {w : World} {A : Option Addr} {l : List (Nat × Tr)} {i : Nat} {p : Nat × Tr} (h : Its S w A l) (hp : l[i]? = some p) : ∃ b, A = some ⟨b, 0, none⟩ ∧ S b ∧ At6 w b (i * 6) p := by
  obtain ⟨b, hA, hb, h⟩ := h (by have := (List.getElem?_eq_some_iff.1 hp).1; omega)
  exact ⟨b, hA, hb, h i p hp⟩
theorem irow_its {base : Nat} {v : Value} {l : List (Nat × Tr)} {w : World} (h : IRow base v l w) : ∃ A c, v = .slice A l.length c ∧ Its (nw base w) w A l := by
  rcases h.2 with ⟨hv, h0⟩ | ⟨g, cap, cur, hv, hb, hg, _⟩
  · exact ⟨none, 0, by rw [hv, h0], fun hn => by omega⟩
  · refine ⟨some ⟨g, 0, none⟩, cap, hv, fun _ => ⟨g, rfl, ⟨hb, (Array.getElem?_eq_some_iff.1 hg).1⟩, fun i p hp => ?_⟩⟩
    have hc := World.ownsRow.cells h (g := g) (by rw [hv]; rfl)
    have h' : ∀ (j : Nat) (u : Value), (ics p)[j]? = some u → w.cell? ⟨g, i * 6 + j, none⟩ = some u := fun j u hu => by
      have := hc _ u (icells_at l i p hp j u hu)
      rwa [Addr.add_lit, Nat.zero_add] at this
    exact ⟨h' 0 _ rfl, h' 1 _ rfl, h' 2 _ rfl, h' 3 _ rfl, h' 4 _ rfl, h' 5 _ rfl⟩

/-- a row of items that nobody of X has -/
def ItA (A : Option Addr) (l : List (Nat × Tr)) : As := fun X W => Its (fun k => ¬ X k ∧ k < W.heap.size) W A l
theorem ItA.frames (A : Option Addr) (l : List (Nat × Tr)) : Frames (ItA A l) := fun X X' W W' h ho hx =>
  Its.keep h (fun b i hb => cell_of (ho.block b hb.2 hb.1)) fun b hb => ⟨fun hX => (hx b hX).elim hb.1 (fun hle => by have := hb.2; omega), Nat.lt_of_lt_of_le hb.2 ho.size⟩
/-- a row of nodes that nobody of X has -/
def TkX (A : Option Addr) (l : List Tr) : As := fun X W => Tks (fun k => ¬ X k ∧ k < W.heap.size) W A l
theorem TkX.frames (A : Option Addr) (l : List Tr) : Frames (TkX A l) := fun X X' W W' h ho hx =>
  Tks.keep h (fun b i hb => cell_of (ho.block b hb.2 hb.1)) fun b hb => ⟨fun hX => (hx b hX).elim hb.1 (fun hle => by have := hb.2; omega), Nat.lt_of_lt_of_le hb.2 ho.size⟩
theorem wk_ns {T : Tr} {d : Nat} {p : Nat × Tr} (h : p ∈ wk d T) : p.2 ∈ ns T := by rw [← wk_snd T d]; exact List.mem_map_of_mem h
theorem wt_ns {T x : Tr} (h : x ∈ ns T) : wt x ≤ wt T := by
  induction T using Tr.ind with | _ k g t a A c kids ih =>
  rw [ns_eq, List.mem_cons, List.mem_flatMap] at h
  rcases h with rfl | ⟨y, hy, hx⟩
  · exact Nat.le_refl _
  · exact Nat.le_trans (ih y hy hx) (Nat.le_of_lt (wt_kid hy))
theorem lf_wk (T : Tr) (d : Nat) : ((wk d T).filter fun p => decide (p.2.k = 1)).map (·.2) = lf T := by
  unfold lf
  rw [← wk_snd T d, List.filter_map]
  rfl
/-- a box that is written -/
theorem BK.put {w W : World} {b : Nat} {u u' : Value} {t' t : TypeId} {bs : List (Nat × Obj)} {ts : List Tr} (h : BK w ((b, .cells #[u] t' (0, 0)) :: bs) ts t [] W) (hn : ∀ q ∈ bs, q.1 ≠ b) (hb : w.heap.size ≤ b) (ht : ∀ T ∈ ts, Tn (fun k => k < W.heap.size ∧ k ≠ b) W T) :
    BK w ((b, .cells #[u'] t' (0, 0)) :: bs) ts t [] (W.setCell ⟨b, 0, none⟩ u') := by
  refine ⟨h.low.setCell (p := ⟨b, 0, none⟩) hb _, fun q hq => ?_, fun T hT => (ht T hT).keep (fun k i hk => cell_of (Below.heap_setCell _ _ _ _ hk.2)) fun k hk => ⟨by rw [size_set]; exact hk.1, by simp⟩, by simp, fun q _ => by simp, List.nodup_nil⟩
  rcases List.mem_cons.1 hq with rfl | hq
  · have := heap_set (h.has _ (List.mem_cons_self)) (i := 0) u'
    simpa only [List.setIfInBounds_toArray, List.set_cons_zero] using this
  · exact (Below.heap_setCell _ _ _ _ (hn q hq)).trans (h.has q (List.mem_cons_of_mem _ hq))
theorem k_act {K : Act → World → Prop} {t : Array Value} {d : List Deferred} {W : World} (h : ∀ t', t' = t → K ⟨t', d⟩ W) : K ⟨t, d⟩ W := h t rfl
abbrev ibx6 (p : Nat × Tr) : Obj := .cells #[.int .i64 (p.1 : Nat), .int .i64 p.2.k, .string p.2.g, .string p.2.t, .int .i64 p.2.a, .slice p.2.A p.2.kids.length p.2.c] 47 (0, 0)
abbrev ibx7 (p : Nat × Tr) : Obj := .cells #[.int .i64 (p.1 : Nat), .int .i64 1, .string p.2.g, .string p.2.t, .int .i64 p.2.a, .slice p.2.A p.2.kids.length p.2.c] 47 (0, 0)
/-- what the document's walk gives, and its path -/
def wl (U : Tr) : List (Nat × Tr) := if rgt U = true then wk 0 U else []
def pl1 (a : Int) (U : Tr) : List Int := if rgt U = true then rpt a U else []
abbrev wbx0 (A : Option Addr) (n c : Nat) : Obj := .cells #[.slice A n c] 42 (0, 0)
/-- a slice of ints lies in one of the blocks S -/
def Pts (S : Nat → Prop) (w : World) (A : Option Addr) (l : List Int) : Prop :=
  0 < l.length → ∃ b, A = some ⟨b, 0, none⟩ ∧ S b ∧ ∀ (i : Nat) (x : Int), l[i]? = some x → w.cell? ⟨b, i, none⟩ = some (.int .i64 x)
theorem pts_nil (S : Nat → Prop) (w : World) (A : Option Addr) : Pts S w A [] := fun h => by simp at h
theorem its_nil (S : Nat → Prop) (w : World) (A : Option Addr) : Its S w A [] := fun h => by simp at h
theorem Pts.keep {S S' : Nat → Prop} {w w' : World} {A : Option Addr} {l : List Int} (h : Pts S w A l) (hk : ∀ b i, S b → w'.cell? ⟨b, i, none⟩ = w.cell? ⟨b, i, none⟩) (hS : ∀ b, S b → S' b) : Pts S' w' A l := fun hn => by
  obtain ⟨b, hA, hb, h⟩ := h hn
  exact ⟨b, hA, hS b hb, fun i x hx => (hk b _ hb).trans (h i x hx)⟩
theorem Pts.at_ {S : Nat → Prop} {w : World} {A : Option Addr} {l : List Int} {i : Nat} {x : Int} (h : Pts S w A l) (hx : l[i]? = some x) : ∃ b, A = some ⟨b, 0, none⟩ ∧ S b ∧ w.cell? ⟨b, i, none⟩ = some (.int .i64 x) := by
  obtain ⟨b, hA, hb, h⟩ := h (by have := (List.getElem?_eq_some_iff.1 hx).1; omega)
  exact ⟨b, hA, hb, h i x hx⟩
theorem pts_own {w : World} {base n cap : Nat} {e : TypeId} {A : Option Addr} {l : List Int} (h : w.ownsRow base e 1 (.slice A n cap) n (kcells l)) : Pts (nw base w) w A l := fun hn => by
  rcases h.2 with ⟨hv, h0⟩ | ⟨g, cap', cur, hv, hb, hg, _⟩
  · have := h.1
    simp [kcells] at this
    omega
  · injection hv with hA
    refine ⟨g, hA, ⟨hb, (Array.getElem?_eq_some_iff.1 hg).1⟩, fun i x hx => ?_⟩
    have hc := World.ownsRow.cells h (g := g) (by rw [hA]; rfl) i (.int .i64 x) (by simp [kcells, hx])
    rwa [Addr.add_lit, Nat.zero_add] at hc

theorem u60 (x : Int) : ∃ n : Nat, 1 ≤ n ∧ n ≤ 60 ∧ wrap64 (1 + wrap64 ((IntKind.u64.wrap x).tmod 60)) = n := by
  have h0 : 0 ≤ IntKind.u64.wrap x := by simp [IntKind.wrap, IntKind.signed, IntKind.bits]; omega
  generalize IntKind.u64.wrap x = y at h0
  have h1 : y.tmod 60 = y % 60 := Int.tmod_eq_emod_of_nonneg h0
  rw [h1]
  refine ⟨(1 + y % 60).toNat, by omega, by omega, ?_⟩
  unfold wrap64
  omega
theorem pre_at {l m : List (Nat × Tr)} {x : Nat × Tr} (h : (l ++ [x]).map plp <+: m.map plp) : ∃ p, m[l.length]? = some p ∧ p.1 = x.1 ∧ pl p.2 = pl x.2 := by
  obtain ⟨t, ht⟩ := h
  have h1 : (m.map plp)[l.length]? = some (plp x) := by rw [← ht]; simp
  rw [List.getElem?_map] at h1
  obtain ⟨p, hp, he⟩ := Option.map_eq_some_iff.1 h1
  unfold plp at he
  injection he with h2 h3
  exact ⟨p, hp, h2, h3⟩
theorem IterG.mono {α : Type} {P : Program} {g : Nat} {lb : Array Value} {encs : α → Array Value} {Pf Fn Pf' Fn' : List α → Prop} {E : α → As} {C C' : As} (h : IterG P g lb encs Pf Fn E C) (hp : ∀ l, Pf l → Pf' l) (hf : ∀ l, Fn l → Fn' l) (hc : ∀ X W, C' X W → C X W) : IterG P g lb encs Pf' Fn' E C' := by
  intro n m l J Jx W hJ hJx hC hY h0
  refine (h n m l J Jx W hJ hJx (fun pre X W hj => hc X W (hC pre X W hj)) (fun pre x X W hX hj he hpp => hY pre x X W hX hj he (hp _ hpp)) h0).mono ?_
  rintro e W' ⟨hv, ⟨xs, hxs, hj⟩ | hx⟩
  · exact ⟨hv, .inl ⟨xs, hf xs hxs, hj⟩⟩
  · exact ⟨hv, .inr hx⟩
/-- a tree in blocks from n on that nobody of X has -/
def TnN (n : Nat) (T : Tr) : As := fun X W => Tn (fun k => ¬ X k ∧ n ≤ k ∧ k < W.heap.size) W T
theorem TnN.frames (n : Nat) (T : Tr) : Frames (TnN n T) := fun X X' W W' h ho hx =>
  Tn.keep (fun b i hb => cell_of (ho.block b hb.2.2 hb.1)) (fun b hb => ⟨fun hX => (hx b hX).elim hb.1 (fun hle => by have := hb.2.2; omega), hb.2.1, Nat.lt_of_lt_of_le hb.2.2 ho.size⟩) h
/-- tree.Walk's answer, whether the tree is right or not -/
theorem walk_ans {T : Tr} {w : World} {e : Ending} {w' : World} (h : WkV T w e w') (hw : wt T ≤ 5000) : ∃ (g : Nat) (lb : Array Value) (C : As), e = .returned (.func (.func g) #[] lb) ∧ Below w.heap.size w w' ∧ (∀ args W, (callFunc g args).run Try.prog W = .ok (.enter g args) W) ∧ Frames C ∧
    (∀ X W p u, p.block < w.heap.size → C X W → C X (W.setCell p u)) ∧ C no w' ∧ IterG Try.prog g lb wv (fun l => l.map plp <+: (wl T).map plp) (fun l => l.map plp = (wl T).map plp) (fun p => TnX p.2) C := by
  obtain ⟨hb, ⟨hr, rfl⟩ | ⟨hr, b, Uc, rfl, hnb, hbx, hpl, hT⟩⟩ := h
  · refine ⟨_, _, fun _ _ => True, rfl, hb, eg_walk0, Frames.pure _, fun _ _ _ _ _ h => h, trivial, (walk0_iter (fun p => TnX p.2) (fun _ _ => True)).mono ?_ ?_ (fun _ _ h => h)⟩
    · rintro l rfl; simp
    · rintro l rfl; simp [wl, hr]
  · have hsm := same_of hpl
    have hrc : rgt Uc = true := by rw [hsm.1]; exact hr
    have hwc : wt Uc ≤ 5000 := by rw [hsm.2.2.1]; exact hw
    have hpp : (wk 0 Uc).map plp = (wl T).map plp := by unfold wl; rw [hr, if_pos rfl]; exact pls_of hpl
    refine ⟨_, _, fun X W => TnN w.heap.size Uc X W ∧ Has b (nbx Uc) X W, rfl, hb, eg_walk, (TnN.frames _ _).and (Has.frames _ _), ?_, ⟨?_, fun h => h, hbx⟩, (walk_iter Uc b hrc hwc).mono ?_ ?_ ?_⟩
    · rintro X W p u hp ⟨h1, h2⟩
      refine ⟨Tn.keep (fun k i hk => cell_of (Below.heap_setCell _ _ _ _ (by have := hk.2.1; omega))) (fun k hk => ⟨hk.1, hk.2.1, by rw [size_set]; exact hk.2.2⟩) h1, h2.1, ?_⟩
      exact (Below.heap_setCell _ _ _ _ (by omega)).trans h2.2
    · exact hT.keep (fun _ _ _ => rfl) fun k hk => ⟨fun h => h, hk.1, hk.2⟩
    · intro l hl; rwa [← hpp]
    · intro l hl; rwa [← hpp]
    · rintro X W ⟨h1, h2⟩
      exact ⟨h1.keep (fun _ _ _ => rfl) fun k hk => ⟨hk.1, hk.2.2⟩, h2⟩
theorem wl_same {T U : Tr} (h : pl T = pl U) : (wl T).map plp = (wl U).map plp := by
  unfold wl
  rw [(same_of h).1]
  split
  · exact pls_of h
  · rfl
/-- leaves of a list of items -/
def lvw (l : List (Nat × Tr)) : List Tr := (l.filter fun p => decide (p.2.k = 1)).map (·.2)
theorem lvw_take {l : List (Nat × Tr)} {j : Nat} {p : Nat × Tr} (h : l[j]? = some p) : lvw (l.take (j + 1)) = lvw (l.take j) ++ (if p.2.k = 1 then [p.2] else []) := by
  unfold lvw
  rw [List.take_add_one, h, List.filter_append, List.map_append]
  by_cases hk : p.2.k = 1 <;> simp [hk]
theorem lvw_len (l : List (Nat × Tr)) : (lvw l).length ≤ l.length := by
  unfold lvw
  rw [List.length_map]
  exact List.length_filter_le _ _
theorem lvw_mem {l : List (Nat × Tr)} {x : Tr} (h : x ∈ lvw l) : ∃ d, (d, x) ∈ l ∧ x.k = 1 := by
  unfold lvw at h
  obtain ⟨p, hp, rfl⟩ := List.mem_map.1 h
  have := List.mem_filter.1 hp
  exact ⟨p.1, this.1, by simpa using this.2⟩
abbrev lbx0 (v : Value) : Obj := .cells #[v] 27 (0, 0)
def Lw (V2 : World) (v : Value) (m : List Tr) (W : World) : Prop := V2.heap.size + 1 < W.heap.size ∧ Below V2.heap.size V2 W ∧ W.heap[V2.heap.size + 1]? = some (lbx0 v) ∧ W.ownsRow V2.heap.size 29 5 v m.length (ncells m)
/-- what a round holds -/
structure Ls (V2 : World) (y xb : Nat) (p : Nat × Tr) (u v : Value) (n : Nat) (cs : List Value) (W : World) : Prop where
  low : Below V2.heap.size V2 W
  hy : W.heap[y]? = some (lbx0 u)
  row : W.ownsRow V2.heap.size 29 5 v n cs
  hb : W.heap[xb]? = some (ibx6 p)
  yn : V2.heap.size ≤ y
  xn : y < xb
section
variable {V2 W W' : World} {y xb : Nat} {p : Nat × Tr} {u v : Value} {n : Nat} {cs : List Value}
theorem Ls.sz (h : Ls V2 y xb p u v n cs W) : V2.heap.size ≤ W.heap.size := h.low.size
theorem Ls.nrow {t : TypeId} {k : Nat} {c : Array Value} {f : Nat × Nat} (h : W.ownsRow V2.heap.size 29 5 v n cs) (hk : W.heap[k]? = some (.cells c t f)) (ht : t ≠ 29) : v.ownBlock ≠ some k := by
  intro hh
  rcases h.2 with ⟨rfl, _⟩ | ⟨g, cap, cur, rfl, _, hg, _⟩
  · cases hh
  · injection hh with hh
    subst hh
    rw [hg] at hk
    injection hk with hk
    injection hk with h1 h2 h3
    exact ht h2.symm
theorem Ls.step (h : Ls V2 y xb p u v n cs W) (hb : Below W.heap.size W W') : Ls V2 y xb p u v n cs W' :=
  ⟨h.low.trans (hb.mono h.sz), (hb.block _ (Array.getElem?_eq_some_iff.1 h.hy).1).trans h.hy, own_below h.row hb, (hb.block _ (Array.getElem?_eq_some_iff.1 h.hb).1).trans h.hb, h.yn, h.xn⟩
theorem Ls.sety (h : Ls V2 y xb p u v n cs W) (u' : Value) : Ls V2 y xb p u' v n cs (W.setCell ⟨y, 0, none⟩ u') := by
  have h1 := heap_set h.hy (i := 0) u'
  simp only [List.setIfInBounds_toArray, List.set_cons_zero] at h1
  exact ⟨h.low.setCell (p := ⟨y, 0, none⟩) h.yn _, h1, World.ownsRow.kept h.row (grownBy_setCell' W y u') (.inr (Ls.nrow h.row h.hy (by decide))), (Below.heap_setCell _ _ _ _ (by have := h.xn; simp; omega)).trans h.hb, h.yn, h.xn⟩
theorem Ls.append (h : Ls V2 y xb p u v n cs W) {v' : Value} {n' : Nat} {cs' : List Value} (hown : W'.ownsRow V2.heap.size 29 5 v' n' cs') (hg : W.grownBy W' v.ownBlock) : Ls V2 y xb p u v' n' cs' W' :=
  ⟨h.low.grown hg h.sz (fun k hk => (World.ownsRow.lt h.row k hk).1), (hg.block _ (Array.getElem?_eq_some_iff.1 h.hy).1 (fun e => Ls.nrow h.row h.hy (by decide) e.symm)).trans h.hy, hown,
    (hg.block _ (Array.getElem?_eq_some_iff.1 h.hb).1 (fun e => Ls.nrow h.row h.hb (by decide) e.symm)).trans h.hb, h.yn, h.xn⟩
theorem Ls.last {m : List Tr} {z : Tr} {n : Nat} (hn : m.length = n) (h : Ls V2 y xb p u v (n + 1) (ncells m ++ ncs z) W) : ∃ g c cur, v = .slice (some ⟨g, 0, none⟩) (n + 1) c ∧ W.heap[g]? = some (.cells cur 29 (0, 0)) ∧ n * 5 + 5 ≤ cur.size ∧
    ∀ x, Ls V2 y xb p u v (n + 1) (ncells (m ++ [x])) (set5o W g (n * 5) x) := by
  obtain ⟨g, c, cur, hv, hg, hs, hx⟩ := own_last hn h.row
  have hgo : v.ownBlock = some g := by rw [hv]; rfl
  have hgy : y ≠ g := fun e => Ls.nrow h.row h.hy (by decide) (by rw [hgo, e])
  have hgb : xb ≠ g := fun e => Ls.nrow h.row h.hb (by decide) (by rw [hgo, e])
  have hgn : V2.heap.size ≤ g := (World.ownsRow.lt h.row g hgo).1
  refine ⟨g, c, cur, hv, hg, hs, fun x => ⟨?_, (set5o_other _ hgy x).trans h.hy, hx x, (set5o_other _ hgb x).trans h.hb, h.yn, h.xn⟩⟩
  exact ((((h.low.setCell (p := ⟨g, n * 5, none⟩) hgn _).setCell (p := ⟨g, n * 5 + 1, none⟩) hgn _).setCell (p := ⟨g, n * 5 + 2, none⟩) hgn _).setCell (p := ⟨g, n * 5 + 3, none⟩) hgn _).setCell (p := ⟨g, n * 5 + 4, none⟩) hgn _
theorem Lw.of (h : Ls V2 (V2.heap.size + 1) xb p v v n cs W) {m : List Tr} (hm : n = m.length) (hc : cs = ncells m) : Lw V2 v m W :=
  ⟨(Array.getElem?_eq_some_iff.1 h.hy).1, h.low, h.hy, by rw [← hm, ← hc]; exact h.row⟩
theorem Lw.start {m : List Tr} (h : Lw V2 v m W) (p : Nat × Tr) : Ls V2 (V2.heap.size + 1) W.heap.size p v v m.length (ncells m) (W.alloc (ibx6 p)) :=
  ⟨h.2.1.trans ((below1 W _).mono h.2.1.size), (Below.heap_alloc W _ _ h.1).trans h.2.2.1, World.ownsRow.alloc h.2.2.2 _, heap_alloc_new W _, by omega, h.1⟩
theorem Lw.step {m : List Tr} (h : Lw V2 v m W) (hb : Below W.heap.size W W') : Lw V2 v m W' :=
  ⟨Nat.lt_of_lt_of_le h.1 hb.size, h.2.1.trans (hb.mono h.2.1.size), (hb.block _ h.1).trans h.2.2.1, own_below h.2.2.2 hb⟩
theorem Lw.init (V2 : World) : Lw V2 (.slice (some ⟨V2.heap.size, 0, none⟩) 0 0) [] ((V2.alloc (.cells #[] 29)).alloc (lbx0 (.slice (some ⟨V2.heap.size, 0, none⟩) 0 0))) := by
  have h1 := heap_alloc_new (V2.alloc (.cells #[] 29)) (lbx0 (.slice (some ⟨V2.heap.size, 0, none⟩) 0 0))
  rw [World.size_alloc] at h1
  have h0 : ((V2.alloc (.cells #[] 29)).alloc (lbx0 (.slice (some ⟨V2.heap.size, 0, none⟩) 0 0))).heap[V2.heap.size]? = some (.cells #[] 29 (0, 0)) := (Below.heap_alloc _ _ _ (by simp)).trans (heap_alloc_new V2 _)
  refine ⟨by simp, below2 V2 _ _, h1, ⟨by simp [ncells], .inr ⟨V2.heap.size, 0, #[], rfl, Nat.le_refl _, h0, ?_⟩⟩⟩
  simp [ncells, maxLen]
end
theorem cells6 {W : World} {b : Nat} {p : Nat × Tr} (h : W.heap[b]? = some (ibx6 p)) : W.cell? ⟨b, 0, none⟩ = some (.int .i64 (p.1 : Nat)) ∧ W.cell? ⟨b, 1, none⟩ = some (.int .i64 p.2.k) ∧ W.cell? ⟨b, 2, none⟩ = some (.string p.2.g) ∧ W.cell? ⟨b, 3, none⟩ = some (.string p.2.t) ∧ W.cell? ⟨b, 4, none⟩ = some (.int .i64 p.2.a) ∧ W.cell? ⟨b, 5, none⟩ = some (.slice p.2.A p.2.kids.length p.2.c) :=
  ⟨cell_heap h, cell_heap h, cell_heap h, cell_heap h, cell_heap h, cell_heap h⟩
theorem pl_tok {x : Tr} (hk : x.k = 1) (hd : x.kids = []) : pl (tok x) = pl x := by
  cases x
  simp only at hk hd
  subst hk hd
  rw [pl_eq, pl_eq]
  rfl
theorem lvs_leaf {T x : Tr} (h : x ∈ lvs T) : x ∈ ns T ∧ x.k = 1 ∧ x.kids = [] := by
  unfold lvs at h
  split at h
  · rename_i hr
    unfold lf at h
    obtain ⟨h1, h2⟩ := List.mem_filter.1 h
    have hk : x.k = 1 := by simpa [lfb] using h2
    exact ⟨h1, hk, (snd_leaf (rgt_node hr h1) hk).2.2⟩
  · simp at h
theorem lvw_wl (U : Tr) : lvw (wl U) = lvs U := by
  unfold wl lvs
  split
  · exact lf_wk U 0
  · rfl
theorem lvs_map {T U : Tr} (h : pl U = pl T) : (lvs T).map pl = (lvs U).map pl := by
  unfold lvs
  rw [(same_of h).1]
  split
  · rw [← lf_pl, ← lf_pl, h]
  · rfl
theorem lvs_lvw {T U : Tr} (h : pl U = pl T) : (lvs T).length = (lvw (wl U)).length ∧ ∀ (i : Nat) (x : Tr), (lvs T)[i]? = some x → ∃ y, (lvw (wl U))[i]? = some y ∧ sm (tok x) y = true := by
  have hm := lvs_map h
  rw [lvw_wl]
  refine ⟨by have := congrArg List.length hm; simpa using this, fun i x hx => ?_⟩
  have h1 : ((lvs T).map pl)[i]? = some (pl x) := by rw [List.getElem?_map, hx]; rfl
  rw [hm, List.getElem?_map] at h1
  obtain ⟨y, hy, he⟩ := Option.map_eq_some_iff.1 h1
  obtain ⟨-, hk, hd⟩ := lvs_leaf (List.mem_of_getElem? hx)
  exact ⟨y, hy, (sm_iff _ _).2 (by rw [pl_tok hk hd, he])⟩
theorem wt_tok {x : Tr} : wt (tok x) = w1 x := by rw [wt_eq]; rfl
theorem tn_tok {S : Nat → Prop} {w : World} {x : Tr} (h : rng x.a) : Tn S w (tok x) := tn_iff.2 ⟨h, fun hn => by simp [tok] at hn, by simp [tok]⟩
theorem pth_pl1 {T U : Tr} (h : pl U = pl T) (a : Int) : (if rgt T = true then pth a [T] else []) = pl1 a U := by
  unfold pl1
  rw [(same_of h).1]
  split
  · rw [rpt_pth]; exact rpt_same h.symm a
  · rfl
theorem Tks.at_' {S : Nat → Prop} {w : World} {A : Option Addr} {l : List Tr} {i : Nat} {x : Tr} (h : Tks S w A l) (hx : l[i]? = some x) : ∃ b off, A = some ⟨b, off, none⟩ ∧ S b ∧ At5 w b (off + i * 5) x := by
  obtain ⟨b, off, hA, hb, h⟩ := h (by have := (List.getElem?_eq_some_iff.1 hx).1; omega)
  exact ⟨b, off, hA, hb, h i x hx⟩
theorem pref_el {l m : List Tr} {x : Tr} (h : l ++ [x] <+: m) : m[l.length]? = some x := by
  obtain ⟨t, rfl⟩ := h
  simp
end Go.Proofs.Ytjnclchbklehgaa
