/- tree.Strip and tree.Place of a right tree. -/
import Derived.Test.YtfmlcddakfbleaaGreatDoorTreeMake
import Derived.Test.YtfmlcddakfbleaaGreatDoorMzExC
namespace Go.Proofs.YtfmlcddakfbleaaGreatDoor
open Go.RowKit TreeMath

/-- a leaf told without gap and place -/
def bare (T : Tr) : Tr := { T with g := .empty, a := 0 }
set_option maxHeartbeats 400000 in
theorem strip1_any (T : Tr) (w : World) :
    Calls Tryz.prog 46 #[nv T] w fun r w' => r = .returned (nv (bare T)) ∧ Below w.heap.size w w' := by
  go_enter Tryz.func46, Tryz.ntmps46
  go_wp2
  refine bodyPost_ret (v := nv (bare T)) (by simp [results, Tryz.results46, go_sem, bare, nv]; try rfl) rfl ⟨rfl, ?_⟩
  exact (((Below.refl _ _).alloc (Nat.le_refl _) _).alloc (by simp) _)

/-- a tree without gaps and places -/
def stp (s : Unit) (x : Tr) : Tr × Unit := (bare x, s)
/-- a leaf at its place, and where the next begins -/
def plc (s : Int) (x : Tr) : Tr × Int := ({ x with a := wrap64 (s + x.g.size) }, wrap64 (wrap64 (s + x.g.size) + x.t.size))

theorem eg_strip1 : ∀ args w, (callFunc 46 args).run Tryz.prog w = .ok (.enter 46 args) w := by
  intro args w; simp [go_sem]



set_option maxHeartbeats 800000 in
theorem strip_ch (T : Tr) (w : World) (hlk : lk T) (hw : wt T ≤ 9000) (hT : Tn (lo w.heap.size) w T) :
    Calls Tryz.prog 45 #[nv T, .func (.func 46) #[] #[]] w (CpV (cg stp T ()).1 w) := by
  refine (changed_any 46 #[] eg_strip1 stp (fun _ _ => ⟨rfl, rfl, rfl⟩) w.heap.size w (fun _ => Low w.heap.size w) (fun _ => Low.frames _ _) (fun _ _ _ h => h)
    (fun s T X W _ hX hj _ => (strip1_any (tok T) W).mono ?_) T () no w (fun _ x hx => by show rng 0; unfold rng; omega) hlk hw hT (fun _ h => h.elim) (Low.begin w (Below.refl _ _))).mono ?_
  · rintro e W' ⟨rfl, hb⟩
    exact ⟨rfl, hb.size, Kept.below hb, low_wth (low_below hj hb) hj.2.1⟩
  · rintro e W' ⟨U, rfl, h1, h2, _, _, h5⟩
    exact ⟨U, rfl, h1, h2, h5.1⟩

set_option maxHeartbeats 1600000 in
theorem strip_any (T : Tr) (w : World) (hr : rgt T = true) (hw : wt T ≤ 9000) (hT : Tn (lo w.heap.size) w T) :
    Calls Tryz.prog 21 #[nv T] w (CpV (cg stp T ()).1 w) := by
  have HR := Lib.hid (right_any T ((w.alloc (nbx T)).alloc (.cells z5 30)) ((hT.below (below2 w _ _)).more (by simp; omega)) hw)
  have HC : Hid (∀ W, Below w.heap.size w W → Calls Tryz.prog 45 #[nv T, .func (.func 46) #[] #[]] W (CpV (cg stp T ()).1 W)) :=
    Lib.hid fun W hb => strip_ch T W (lk_rgt hr) hw ((hT.below hb).more hb.size)
  have HB := Lib.hid (below2 w (nbx T) (.cells z5 30))
  obtain ⟨P, hP⟩ : ∃ P, (cg stp T ()).1 = P := ⟨_, rfl⟩
  rw [hP] at HC ⊢
  rw [hr] at HR
  clear hT hw hr hP
  go_enter Tryz.func21, Tryz.ntmps21
  go_wp2_with fail
  refine HR.out.mono ?_
  rintro e w0 ⟨rfl, hb0⟩
  have hs0 : w.heap.size + 2 ≤ w0.heap.size := by have := hb0.size; simpa using this
  have hc0 := box5 ((Below.refl (w.alloc (nbx T)).heap.size _ |>.alloc (Nat.le_refl _) (.cells z5 30)).trans (hb0.mono (by simp)))
  have hn0 := (hb0.block (w.heap.size + 1) (by simp)).trans (show ((w.alloc (nbx T)).alloc (.cells z5 30)).heap[w.heap.size + 1]? = some (.cells z5 30 (0, 0)) from by have := heap_alloc_new (w.alloc (nbx T)) (.cells z5 30); rwa [World.size_alloc] at this)
  have HB0 := Lib.hid (HB.out.trans (hb0.mono (by simp; omega)))
  have HN0 := Lib.hid hn0
  clear hb0 hn0
  go_wp2_with fail
  refine (HC.out w0 HB0.out).mono ?_
  rintro e w1 ⟨U, rfl, h1, h2, h3⟩
  have hs1 : w.heap.size + 2 ≤ w1.heap.size := by have := h3.size; omega
  have hb1 := (h3.block (w.heap.size + 1) (by omega)).trans HN0.out
  have HB1 := Lib.hid hb1
  have hb2 := set5_self hb1 U
  have HW : Hid (CpV P w (.returned (nv U)) (set5 w1 (w.heap.size + 1) U)) := Lib.hid ⟨U, rfl, h1, (h2.keep (fun b i hb => cell_of (set5_other (by have := hb.1; omega) U)) (fun b hb => ⟨by have := hb.1; omega, by rw [set5_size]; exact hb.2⟩)), below_set5 (HB0.out.trans (h3.mono (by omega))) (by omega) _⟩
  obtain ⟨w2, hw2⟩ : ∃ w2, set5 w1 (w.heap.size + 1) U = w2 := ⟨_, rfl⟩
  rw [hw2] at hb2 HW
  have HW2 := Lib.hid hw2
  have g0 := cell_heap hb2 (i := 0)
  have g1 := cell_heap hb2 (i := 1)
  have g2 := cell_heap hb2 (i := 2)
  have g3 := cell_heap hb2 (i := 3)
  have g4 := cell_heap hb2 (i := 4)
  simp only [List.getElem?_toArray, List.getElem?_cons_zero, List.getElem?_cons_succ] at g0 g1 g2 g3 g4
  clear h1 h2 h3 hb1 hb2 hw2 hc0
  go_wp2_with (refine wpList_store_node (by rfl) 30 (.tmp 2) (.tmp 8) (by rfl) size_tnode (w.heap.size + 1) U (by rfl) (by rfl) HB1.out ?_; rw [HW2.out])
  exact bodyPost_ret (v := nv U) (by simp [results, Tryz.results21, go_sem, g0, g1, g2, g3, g4]) rfl HW.out

























/-- Place's leaves, while it goes on: the box that keeps the place -/
def PlJ (n : Nat) (w : World) (b : Nat) (s : Int) : As := fun X W => Low n w X W ∧ Has b (ibx s) X W











theorem PlJ.frames (n : Nat) (w : World) (b : Nat) (s : Int) : Frames (PlJ n w b s) := (Low.frames _ _).and (Has.frames _ _)

theorem wrap_rng (x : Int) : rng (wrap64 x) := by unfold rng wrap64; omega




















































end Go.Proofs.YtfmlcddakfbleaaGreatDoor

namespace Go.Proofs.YtfmlcddakfbleaaGreatDoor
open Go.RowKit SignMath TreeMath

/-- two cursors whose tokens have the same kinds and texts -/
structure Rel (C E : Cu) : Prop where
  n : C.n = E.n
  d : C.d = E.d
  f : C.f = E.f
  len : C.L.length = E.L.length
  tok : ∀ i : Nat, (C.L[i]?).map (fun x => (x.k, C.s.extract x.a x.z)) = (E.L[i]?).map (fun y => (y.k, E.s.extract y.a y.z))
/-- a tree without gaps and places -/
def spt0 (T : Tr) : Tr := (cg stp T ()).1
theorem spt0_kids (l : List Tr) : (cgs stp l ()).1 = l.map spt0 := cgs_map l spt0 fun _ _ => rfl
theorem spt0_nod {k : Int} {l m : List Tr} (h : l.map spt0 = m.map spt0) : spt0 (nod k l) = spt0 (nod k m) := by
  unfold spt0
  rw [cg_eq, cg_eq]
  have e1 : (nod k l).kids = l := rfl
  have e2 : (nod k m).kids = m := rfl
  have e3 : (nod k l).k = (nod k m).k := rfl
  have e4 : tok (nod k l) = tok (nod k m) := rfl
  rw [e1, e2, e3, e4]
  simp only [stp, spt0_kids]
  rw [h]
  rfl
theorem spt0_leaf (C : Cu) (t : Tk) : spt0 (C.leaf t) = ⟨1, .empty, C.s.extract t.a t.z, 0, none, 0, []⟩ := by
  unfold spt0
  rw [cg_eq, if_pos (show (C.leaf t).k = 1 from rfl)]
  rfl
section
variable {C E : Cu}
theorem Rel.nx (h : Rel C E) (i : Nat) : (C.nxt i).map (fun x => (x.k, C.s.extract x.a x.z)) = (E.nxt i).map (fun y => (y.k, E.s.extract y.a y.z)) := by
  unfold Cu.nxt
  rw [h.f, h.n]
  split
  · exact h.tok _
  · rfl
theorem Rel.two (h : Rel C E) (i : Nat) : (C.nxt i = none ∧ E.nxt i = none) ∨ ∃ x y, C.nxt i = some x ∧ E.nxt i = some y ∧ x.k = y.k ∧ C.s.extract x.a x.z = E.s.extract y.a y.z := by
  have := h.nx i
  cases hx : C.nxt i with
  | none =>
    cases hy : E.nxt i with
    | none => exact .inl ⟨rfl, rfl⟩
    | some y => rw [hx, hy] at this; cases this
  | some x =>
    cases hy : E.nxt i with
    | none => rw [hx, hy] at this; cases this
    | some y =>
      rw [hx, hy] at this
      simp only [Option.map_some, Option.some.injEq, Prod.mk.injEq] at this
      exact .inr ⟨x, y, rfl, rfl, this.1, this.2⟩
theorem Rel.pk (h : Rel C E) (i : Int) : C.pk i = E.pk i := by
  unfold Cu.pk
  split
  · rfl
  · rcases h.two i.toNat with ⟨h1, h2⟩ | ⟨x, y, h1, h2, h3, h4⟩
    · rw [h1, h2]
    · rw [h1, h2]
      simp only [h3, h4]
theorem Rel.isb (h : Rel C E) (i : Int) (s : ByteArray) : C.isb i s = E.isb i s := by unfold Cu.isb; rw [h.pk]
theorem Rel.anyb (h : Rel C E) (k : Int) : C.anyb k = E.anyb k := by
  unfold Cu.anyb
  rcases h.two 0 with ⟨h1, h2⟩ | ⟨x, y, h1, h2, h3, h4⟩
  · rw [h1, h2]
  · rw [h1, h2]
    simp only [h3]
theorem Rel.left (h : Rel C E) : C.left = E.left := by unfold Cu.left; rw [h.f, h.len, h.n]
theorem Rel.fail (h : Rel C E) (e : Int) : Rel (C.fail e) (E.fail e) := by
  by_cases h0 : C.f = 0
  · have e1 : C.fail e = { C with f := if 1 ≤ e ∧ e ≤ 15 then e else 2, p := (C.at : Nat) } := if_pos h0
    have e2 : E.fail e = { E with f := if 1 ≤ e ∧ e ≤ 15 then e else 2, p := (E.at : Nat) } := if_pos (h.f ▸ h0)
    rw [e1, e2]
    exact ⟨h.n, h.d, rfl, h.len, h.tok⟩
  · have e1 : C.fail e = C := if_neg h0
    have e2 : E.fail e = E := if_neg (h.f ▸ h0)
    rw [e1, e2]
    exact h
theorem Rel.take (h : Rel C E) (q : Bool) : Rel (C.take q).1 (E.take q).1 ∧ spt0 (C.take q).2 = spt0 (E.take q).2 := by
  cases q with
  | false => rw [Cu.take_false, Cu.take_false]; exact ⟨h.fail 2, rfl⟩
  | true =>
    rcases h.two 0 with ⟨h1, h2⟩ | ⟨x, y, h1, h2, h3, h4⟩
    · have e1 : C.take true = (C.fail 2, zn1) := by unfold Cu.take; rw [h1]
      have e2 : E.take true = (E.fail 2, zn1) := by unfold Cu.take; rw [h2]
      rw [e1, e2]
      exact ⟨h.fail 2, rfl⟩
    · rw [Cu.take_true h1, Cu.take_true h2]
      exact ⟨⟨by show C.n + 1 = E.n + 1; rw [h.n], h.d, h.f, h.len, h.tok⟩, by rw [spt0_leaf, spt0_leaf, h4]⟩
theorem Rel.wnt (h : Rel C E) (s : ByteArray) : Rel (wnt s C).1 (wnt s E).1 ∧ spt0 (wnt s C).2 = spt0 (wnt s E).2 := by
  unfold Go.Proofs.YtfmlcddakfbleaaGreatDoor.wnt
  rw [h.isb]
  exact h.take _
theorem Rel.any (h : Rel C E) (k : Int) : Rel (anyk k C).1 (anyk k E).1 ∧ spt0 (anyk k C).2 = spt0 (anyk k E).2 := by
  unfold anyk
  rw [h.anyb]
  exact h.take _
theorem Rel.down (h : Rel C E) : C.down.2 = E.down.2 ∧ Rel C.down.1 E.down.1 := by
  have hd := h.d
  by_cases h0 : C.f = 0
  · have h0' : E.f = 0 := h.f ▸ h0
    by_cases h1 : 200 ≤ C.d
    · have h1' : 200 ≤ E.d := hd ▸ h1
      have e1 : C.down = (C.fail 3, false) := by unfold Cu.down; rw [if_pos h0, if_pos h1]
      have e2 : E.down = (E.fail 3, false) := by unfold Cu.down; rw [if_pos h0', if_pos h1']
      rw [e1, e2]
      exact ⟨rfl, h.fail 3⟩
    · have h1' : ¬ 200 ≤ E.d := hd ▸ h1
      have e1 : C.down = ({ C with d := C.d + 1 }, true) := by unfold Cu.down; rw [if_pos h0, if_neg h1]
      have e2 : E.down = ({ E with d := E.d + 1 }, true) := by unfold Cu.down; rw [if_pos h0', if_neg h1']
      rw [e1, e2]
      exact ⟨rfl, h.n, by show C.d + 1 = E.d + 1; rw [hd], h.f, h.len, h.tok⟩
  · have h0' : ¬ E.f = 0 := h.f ▸ h0
    have e1 : C.down = (C, false) := by unfold Cu.down; rw [if_neg h0]
    have e2 : E.down = (E, false) := by unfold Cu.down; rw [if_neg h0']
    rw [e1, e2]
    exact ⟨rfl, h⟩
theorem Rel.up (h : Rel C E) : Rel C.up E.up := ⟨h.n, by show C.d - 1 = E.d - 1; rw [h.d], h.f, h.len, h.tok⟩
end

def RF (f : Cu → Cu × Tr) : Prop := ∀ C E, Rel C E → Rel (f C).1 (f E).1 ∧ spt0 (f C).2 = spt0 (f E).2
def RFs (f : Cu → Cu × List Tr) : Prop := ∀ C E, Rel C E → Rel (f C).1 (f E).1 ∧ (f C).2.map spt0 = (f E).2.map spt0
theorem rel_nxj {C E : Cu} (h : Rel C E) : ∀ js : List (ByteArray × Int), nxj C js = nxj E js
  | [] => rfl
  | j :: js => by
    unfold nxj
    rw [h.isb, rel_nxj h js]
section
variable {ex fc part : Cu → Cu × Tr} {what : Cu → Cu × List Tr} {js : List (ByteArray × Int)}
theorem rel_jnl (hp : RF part) : ∀ (q : Nat) (x y : Cu × Tr), Rel x.1 y.1 → spt0 x.2 = spt0 y.2 → Rel (jnl part js q x).1 (jnl part js q y).1 ∧ spt0 (jnl part js q x).2 = spt0 (jnl part js q y).2
  | 0, _, _, h, hs => ⟨h, hs⟩
  | q + 1, x, y, h, hs => by
    unfold jnl
    rw [rel_nxj h js]
    split
    · exact ⟨h, hs⟩
    · rename_i j _
      obtain ⟨w1, w2⟩ := h.wnt j.1
      obtain ⟨p1, p2⟩ := hp _ _ w1
      exact rel_jnl hp q _ _ p1 (spt0_nod (by simp only [List.map_cons, List.map_nil, hs, w2, p2]))
theorem rel_jnd (hp : RF part) : RF (jnd part js) := fun C E h => by
  obtain ⟨p1, p2⟩ := hp C E h
  unfold jnd
  rw [p1.left]
  exact rel_jnl hp _ _ _ p1 p2
theorem rel_win (hw : RFs what) {C E : Cu} (h : Rel C E) (k : Int) (o s : ByteArray) {ahead ahead' : List Tr} (ha : ahead.map spt0 = ahead'.map spt0) : Rel (win k o s what ahead C).1 (win k o s what ahead' E).1 ∧ spt0 (win k o s what ahead C).2 = spt0 (win k o s what ahead' E).2 := by
  unfold win
  rw [h.isb, h.down.1]
  split
  · split
    · obtain ⟨w1, w2⟩ := h.down.2.wnt o
      obtain ⟨p1, p2⟩ := hw _ _ w1
      obtain ⟨v1, v2⟩ := p1.wnt s
      exact ⟨v1.up, spt0_nod (by simp only [List.map_append, List.map_cons, List.map_nil, ha, w2, p2, v2])⟩
    · exact ⟨h.down.2, rfl⟩
  · exact h.wnt o
theorem rel_ins (hx : RF ex) : RFs (ins ex) := fun C E h => by
  obtain ⟨p1, p2⟩ := hx C E h
  exact ⟨p1, by show [(ex C).2].map spt0 = [(ex E).2].map spt0; rw [List.map_cons, List.map_cons, p2]⟩
theorem rel_agl (hx : RF ex) : ∀ (q : Nat) (x y : Cu × List Tr), Rel x.1 y.1 → x.2.map spt0 = y.2.map spt0 → Rel (agl ex q x).1 (agl ex q y).1 ∧ (agl ex q x).2.map spt0 = (agl ex q y).2.map spt0
  | 0, _, _, h, hs => ⟨h, hs⟩
  | q + 1, x, y, h, hs => by
    unfold agl
    rw [h.isb]
    split
    · obtain ⟨w1, w2⟩ := h.wnt sComma
      obtain ⟨p1, p2⟩ := hx _ _ w1
      exact rel_agl hx q _ _ p1 (by simp only [List.map_append, List.map_cons, List.map_nil, hs, w2, p2])
    · exact ⟨h, hs⟩
theorem rel_arg (hx : RF ex) : RFs (arg ex) := fun C E h => by
  unfold arg
  rw [h.isb]
  split
  · exact ⟨h, rfl⟩
  · obtain ⟨p1, p2⟩ := hx C E h
    rw [p1.left]
    exact rel_agl hx _ _ _ p1 (by simp only [List.map_cons, List.map_nil, p2])
theorem rel_dot (hx : RF ex) {C E : Cu} (h : Rel C E) {n m : Tr} (hn : spt0 n = spt0 m) : Rel (dot ex n C).1 (dot ex m E).1 ∧ spt0 (dot ex n C).2 = spt0 (dot ex m E).2 := by
  unfold dot
  obtain ⟨w1, w2⟩ := h.wnt sDot
  rw [w1.isb]
  split
  · obtain ⟨v1, v2⟩ := w1.wnt sLen
    exact ⟨v1, spt0_nod (by simp only [List.map_cons, List.map_nil, hn, w2, v2])⟩
  · obtain ⟨v1, v2⟩ := w1.any 4
    exact rel_win (rel_arg hx) v1 24 sRo sRo2 (by simp only [List.map_cons, List.map_nil, hn, w2, v2])
theorem rel_mad (hx : RF ex) : RF (mad ex) := fun C E h => by
  unfold mad
  obtain ⟨w1, w2⟩ := h.wnt sNew
  rw [w1.isb]
  split
  · obtain ⟨v1, v2⟩ := w1.wnt sInt
    exact rel_win (rel_ins hx) v1 30 sSq sSq2 (by simp only [List.map_cons, List.map_nil, w2, v2])
  · obtain ⟨v1, v2⟩ := w1.any 4
    obtain ⟨u1, u2⟩ := v1.wnt sRo
    obtain ⟨t1, t2⟩ := u1.wnt sRo2
    exact ⟨t1, spt0_nod (by simp only [List.map_cons, List.map_nil, w2, v2, u2, t2])⟩
theorem rel_opd (hx : RF ex) : RF (opd ex) := fun C E h => by
  unfold opd
  rw [h.pk, h.isb]
  split
  · split
    · exact rel_mad hx C E h
    · exact rel_win (rel_ins hx) h 32 sRo sRo2 rfl
  · obtain ⟨v1, v2⟩ := h.any (E.pk 0).1
    exact ⟨v1, spt0_nod (by simp only [List.map_cons, List.map_nil, v2])⟩
theorem rel_ntt (hf : RF fc) : RF (ntt fc) := fun C E h => by
  unfold ntt
  rw [h.down.1]
  split
  · obtain ⟨w1, w2⟩ := h.down.2.wnt sNot
    obtain ⟨p1, p2⟩ := hf _ _ w1
    exact ⟨p1.up, spt0_nod (by simp only [List.map_cons, List.map_nil, w2, p2])⟩
  · exact ⟨h.down.2, rfl⟩
theorem rel_fl (hx : RF ex) : ∀ (q : Nat) (x y : Cu × Tr), Rel x.1 y.1 → spt0 x.2 = spt0 y.2 → Rel (fl ex q x).1 (fl ex q y).1 ∧ spt0 (fl ex q x).2 = spt0 (fl ex q y).2
  | 0, _, _, h, hs => ⟨h, hs⟩
  | q + 1, x, y, h, hs => by
    unfold fl
    rw [h.isb, h.isb]
    split
    · obtain ⟨w1, w2⟩ := rel_win (rel_ins hx) h 22 sSq sSq2 (ahead := [x.2]) (ahead' := [y.2]) (by simp only [List.map_cons, List.map_nil, hs])
      exact rel_fl hx q _ _ w1 w2
    · split
      · obtain ⟨w1, w2⟩ := rel_dot hx h hs
        exact rel_fl hx q _ _ w1 w2
      · exact ⟨h, hs⟩
theorem rel_fac (hx : RF ex) (hf : RF fc) : RF (fac ex fc) := fun C E h => by
  unfold fac
  rw [h.isb]
  split
  · exact rel_ntt hf C E h
  · obtain ⟨p1, p2⟩ := rel_opd hx C E h
    rw [p1.left]
    exact rel_fl hx _ _ _ p1 p2
theorem rel_xpr (hf : RF fc) : RF (xpr fc) := rel_jnd (rel_jnd (rel_jnd (rel_jnd hf)))
end
theorem rel_fcN : ∀ k, RF (fcN k)
  | 0 => fun _ _ h => ⟨h, rfl⟩
  | k + 1 => rel_fac (rel_xpr (rel_fcN k)) (rel_fcN k)
theorem rel_exX : RF exX := rel_xpr (rel_fcN 201)
end Go.Proofs.YtfmlcddakfbleaaGreatDoor
