/- What the parser reads hangs on its tokens' kinds and texts alone. Plain facts. -/
import Derived.Test.YthggchkpejhaiaaGreatDoorMzExE
import Derived.Test.YthggchkpejhaiaaGreatDoorMzPl
import Derived.Test.YthggchkpejhaiaaGreatDoorLexOne
import Derived.Test.YthggchkpejhaiaaGreatDoorTreeStands
import Derived.Test.YthggchkpejhaiaaGreatDoorTreeSame
import Derived.Test.YthggchkpejhaiaaGreatDoorMzColl
import Derived.Test.YthggchkpejhaiaaGreatDoorTreeBK
namespace Go.Proofs.YthggchkpejhaiaaGreatDoor
open Go.RowKit SignMath TreeMath

/-- two cursors whose tokens have the same kinds and texts -/
structure Rel (C E : Cu) : Prop where
  n : C.n = E.n
  d : C.d = E.d
  f : C.f = E.f
  len : C.L.length = E.L.length
  tok : ∀ i : Nat, (C.L[i]?).map (fun x => (x.k, C.s.extract x.a x.z)) = (E.L[i]?).map (fun y => (y.k, E.s.extract y.a y.z))
/-- a tree without gaps and places -/
def spt0 (T : Tr) : Tr := (cg stp T ()).1
theorem spt0_kids (l : List Tr) : (cgs stp l ()).1 = l.map spt0 := cgs_map l spt0 fun _ _ => rfl
theorem spt0_nod {k : Int} {l m : List Tr} (h : l.map spt0 = m.map spt0) : spt0 (nod k l) = spt0 (nod k m) := by
  unfold spt0
  rw [cg_eq, cg_eq]
  have e1 : (nod k l).kids = l := rfl
  have e2 : (nod k m).kids = m := rfl
  have e3 : (nod k l).k = (nod k m).k := rfl
  have e4 : tok (nod k l) = tok (nod k m) := rfl
  rw [e1, e2, e3, e4]
  simp only [stp, spt0_kids]
  rw [h]
  rfl
theorem spt0_leaf (C : Cu) (t : Tk) : spt0 (C.leaf t) = ⟨1, .empty, C.s.extract t.a t.z, 0, none, 0, []⟩ := by
  unfold spt0
  rw [cg_eq, if_pos (show (C.leaf t).k = 1 from rfl)]
  rfl
section
variable {C E : Cu}
theorem Rel.nx (h : Rel C E) (i : Nat) : (C.nxt i).map (fun x => (x.k, C.s.extract x.a x.z)) = (E.nxt i).map (fun y => (y.k, E.s.extract y.a y.z)) := by
  unfold Cu.nxt
  rw [h.f, h.n]
  split
  · exact h.tok _
  · rfl
theorem Rel.two (h : Rel C E) (i : Nat) : (C.nxt i = none ∧ E.nxt i = none) ∨ ∃ x y, C.nxt i = some x ∧ E.nxt i = some y ∧ x.k = y.k ∧ C.s.extract x.a x.z = E.s.extract y.a y.z := by
  have := h.nx i
  cases hx : C.nxt i with
  | none =>
    cases hy : E.nxt i with
    | none => exact .inl ⟨rfl, rfl⟩
    | some y => rw [hx, hy] at this; cases this
  | some x =>
    cases hy : E.nxt i with
    | none => rw [hx, hy] at this; cases this
    | some y =>
      rw [hx, hy] at this
      simp only [Option.map_some, Option.some.injEq, Prod.mk.injEq] at this
      exact .inr ⟨x, y, rfl, rfl, this.1, this.2⟩
theorem Rel.pk (h : Rel C E) (i : Int) : C.pk i = E.pk i := by
  unfold Cu.pk
  split
  · rfl
  · rcases h.two i.toNat with ⟨h1, h2⟩ | ⟨x, y, h1, h2, h3, h4⟩
    · rw [h1, h2]
    · rw [h1, h2]
      simp only [h3, h4]
theorem Rel.isb (h : Rel C E) (i : Int) (s : ByteArray) : C.isb i s = E.isb i s := by unfold Cu.isb; rw [h.pk]
theorem Rel.anyb (h : Rel C E) (k : Int) : C.anyb k = E.anyb k := by
  unfold Cu.anyb
  rcases h.two 0 with ⟨h1, h2⟩ | ⟨x, y, h1, h2, h3, h4⟩
  · rw [h1, h2]
  · rw [h1, h2]
    simp only [h3]
theorem Rel.left (h : Rel C E) : C.left = E.left := by unfold Cu.left; rw [h.f, h.len, h.n]
theorem Rel.fail (h : Rel C E) (e : Int) : Rel (C.fail e) (E.fail e) := by
  by_cases h0 : C.f = 0
  · have e1 : C.fail e = { C with f := if 1 ≤ e ∧ e ≤ 15 then e else 2, p := (C.at : Nat) } := if_pos h0
    have e2 : E.fail e = { E with f := if 1 ≤ e ∧ e ≤ 15 then e else 2, p := (E.at : Nat) } := if_pos (h.f ▸ h0)
    rw [e1, e2]
    exact ⟨h.n, h.d, rfl, h.len, h.tok⟩
  · have e1 : C.fail e = C := if_neg h0
    have e2 : E.fail e = E := if_neg (h.f ▸ h0)
    rw [e1, e2]
    exact h
theorem Rel.take (h : Rel C E) (q : Bool) : Rel (C.take q).1 (E.take q).1 ∧ spt0 (C.take q).2 = spt0 (E.take q).2 := by
  cases q with
  | false => rw [Cu.take_false, Cu.take_false]; exact ⟨h.fail 2, rfl⟩
  | true =>
    rcases h.two 0 with ⟨h1, h2⟩ | ⟨x, y, h1, h2, h3, h4⟩
    · have e1 : C.take true = (C.fail 2, zn1) := by unfold Cu.take; rw [h1]
      have e2 : E.take true = (E.fail 2, zn1) := by unfold Cu.take; rw [h2]
      rw [e1, e2]
      exact ⟨h.fail 2, rfl⟩
    · rw [Cu.take_true h1, Cu.take_true h2]
      exact ⟨⟨by show C.n + 1 = E.n + 1; rw [h.n], h.d, h.f, h.len, h.tok⟩, by rw [spt0_leaf, spt0_leaf, h4]⟩
theorem Rel.wnt (h : Rel C E) (s : ByteArray) : Rel (wnt s C).1 (wnt s E).1 ∧ spt0 (wnt s C).2 = spt0 (wnt s E).2 := by
  unfold Go.Proofs.YthggchkpejhaiaaGreatDoor.wnt
  rw [h.isb]
  exact h.take _
theorem Rel.any (h : Rel C E) (k : Int) : Rel (anyk k C).1 (anyk k E).1 ∧ spt0 (anyk k C).2 = spt0 (anyk k E).2 := by
  unfold anyk
  rw [h.anyb]
  exact h.take _
theorem Rel.down (h : Rel C E) : C.down.2 = E.down.2 ∧ Rel C.down.1 E.down.1 := by
  have hd := h.d
  by_cases h0 : C.f = 0
  · have h0' : E.f = 0 := h.f ▸ h0
    by_cases h1 : 200 ≤ C.d
    · have h1' : 200 ≤ E.d := hd ▸ h1
      have e1 : C.down = (C.fail 3, false) := by unfold Cu.down; rw [if_pos h0, if_pos h1]
      have e2 : E.down = (E.fail 3, false) := by unfold Cu.down; rw [if_pos h0', if_pos h1']
      rw [e1, e2]
      exact ⟨rfl, h.fail 3⟩
    · have h1' : ¬ 200 ≤ E.d := hd ▸ h1
      have e1 : C.down = ({ C with d := C.d + 1 }, true) := by unfold Cu.down; rw [if_pos h0, if_neg h1]
      have e2 : E.down = ({ E with d := E.d + 1 }, true) := by unfold Cu.down; rw [if_pos h0', if_neg h1']
      rw [e1, e2]
      exact ⟨rfl, h.n, by show C.d + 1 = E.d + 1; rw [hd], h.f, h.len, h.tok⟩
  · have h0' : ¬ E.f = 0 := h.f ▸ h0
    have e1 : C.down = (C, false) := by unfold Cu.down; rw [if_neg h0]
    have e2 : E.down = (E, false) := by unfold Cu.down; rw [if_neg h0']
    rw [e1, e2]
    exact ⟨rfl, h⟩
theorem Rel.up (h : Rel C E) : Rel C.up E.up := ⟨h.n, by show C.d - 1 = E.d - 1; rw [h.d], h.f, h.len, h.tok⟩
end

def RF (f : Cu → Cu × Tr) : Prop := ∀ C E, Rel C E → Rel (f C).1 (f E).1 ∧ spt0 (f C).2 = spt0 (f E).2
def RFs (f : Cu → Cu × List Tr) : Prop := ∀ C E, Rel C E → Rel (f C).1 (f E).1 ∧ (f C).2.map spt0 = (f E).2.map spt0
theorem rel_nxj {C E : Cu} (h : Rel C E) : ∀ js : List (ByteArray × Int), nxj C js = nxj E js
  | [] => rfl
  | j :: js => by
    unfold nxj
    rw [h.isb, rel_nxj h js]
section
variable {ex fc part : Cu → Cu × Tr} {what : Cu → Cu × List Tr} {js : List (ByteArray × Int)}
theorem rel_jnl (hp : RF part) : ∀ (q : Nat) (x y : Cu × Tr), Rel x.1 y.1 → spt0 x.2 = spt0 y.2 → Rel (jnl part js q x).1 (jnl part js q y).1 ∧ spt0 (jnl part js q x).2 = spt0 (jnl part js q y).2
  | 0, _, _, h, hs => ⟨h, hs⟩
  | q + 1, x, y, h, hs => by
    unfold jnl
    rw [rel_nxj h js]
    split
    · exact ⟨h, hs⟩
    · rename_i j _
      obtain ⟨w1, w2⟩ := h.wnt j.1
      obtain ⟨p1, p2⟩ := hp _ _ w1
      exact rel_jnl hp q _ _ p1 (spt0_nod (by simp only [List.map_cons, List.map_nil, hs, w2, p2]))
theorem rel_jnd (hp : RF part) : RF (jnd part js) := fun C E h => by
  obtain ⟨p1, p2⟩ := hp C E h
  unfold jnd
  rw [p1.left]
  exact rel_jnl hp _ _ _ p1 p2
theorem rel_win (hw : RFs what) {C E : Cu} (h : Rel C E) (k : Int) (o s : ByteArray) {ahead ahead' : List Tr} (ha : ahead.map spt0 = ahead'.map spt0) : Rel (win k o s what ahead C).1 (win k o s what ahead' E).1 ∧ spt0 (win k o s what ahead C).2 = spt0 (win k o s what ahead' E).2 := by
  unfold win
  rw [h.isb, h.down.1]
  split
  · split
    · obtain ⟨w1, w2⟩ := h.down.2.wnt o
      obtain ⟨p1, p2⟩ := hw _ _ w1
      obtain ⟨v1, v2⟩ := p1.wnt s
      exact ⟨v1.up, spt0_nod (by simp only [List.map_append, List.map_cons, List.map_nil, ha, w2, p2, v2])⟩
    · exact ⟨h.down.2, rfl⟩
  · exact h.wnt o
theorem rel_ins (hx : RF ex) : RFs (ins ex) := fun C E h => by
  obtain ⟨p1, p2⟩ := hx C E h
  exact ⟨p1, by show [(ex C).2].map spt0 = [(ex E).2].map spt0; rw [List.map_cons, List.map_cons, p2]⟩
theorem rel_agl (hx : RF ex) : ∀ (q : Nat) (x y : Cu × List Tr), Rel x.1 y.1 → x.2.map spt0 = y.2.map spt0 → Rel (agl ex q x).1 (agl ex q y).1 ∧ (agl ex q x).2.map spt0 = (agl ex q y).2.map spt0
  | 0, _, _, h, hs => ⟨h, hs⟩
  | q + 1, x, y, h, hs => by
    unfold agl
    rw [h.isb]
    split
    · obtain ⟨w1, w2⟩ := h.wnt sComma
      obtain ⟨p1, p2⟩ := hx _ _ w1
      exact rel_agl hx q _ _ p1 (by simp only [List.map_append, List.map_cons, List.map_nil, hs, w2, p2])
    · exact ⟨h, hs⟩
theorem rel_arg (hx : RF ex) : RFs (arg ex) := fun C E h => by
  unfold arg
  rw [h.isb]
  split
  · exact ⟨h, rfl⟩
  · obtain ⟨p1, p2⟩ := hx C E h
    rw [p1.left]
    exact rel_agl hx _ _ _ p1 (by simp only [List.map_cons, List.map_nil, p2])
theorem rel_dot (hx : RF ex) {C E : Cu} (h : Rel C E) {n m : Tr} (hn : spt0 n = spt0 m) : Rel (dot ex n C).1 (dot ex m E).1 ∧ spt0 (dot ex n C).2 = spt0 (dot ex m E).2 := by
  unfold dot
  obtain ⟨w1, w2⟩ := h.wnt sDot
  rw [w1.isb]
  split
  · obtain ⟨v1, v2⟩ := w1.wnt sLen
    exact ⟨v1, spt0_nod (by simp only [List.map_cons, List.map_nil, hn, w2, v2])⟩
  · obtain ⟨v1, v2⟩ := w1.any 4
    exact rel_win (rel_arg hx) v1 24 sRo sRo2 (by simp only [List.map_cons, List.map_nil, hn, w2, v2])
theorem rel_mad (hx : RF ex) : RF (mad ex) := fun C E h => by
  unfold mad
  obtain ⟨w1, w2⟩ := h.wnt sNew
  rw [w1.isb]
  split
  · obtain ⟨v1, v2⟩ := w1.wnt sInt
    exact rel_win (rel_ins hx) v1 30 sSq sSq2 (by simp only [List.map_cons, List.map_nil, w2, v2])
  · obtain ⟨v1, v2⟩ := w1.any 4
    obtain ⟨u1, u2⟩ := v1.wnt sRo
    obtain ⟨t1, t2⟩ := u1.wnt sRo2
    exact ⟨t1, spt0_nod (by simp only [List.map_cons, List.map_nil, w2, v2, u2, t2])⟩
theorem rel_opd (hx : RF ex) : RF (opd ex) := fun C E h => by
  unfold opd
  rw [h.pk, h.isb]
  split
  · split
    · exact rel_mad hx C E h
    · exact rel_win (rel_ins hx) h 32 sRo sRo2 rfl
  · obtain ⟨v1, v2⟩ := h.any (E.pk 0).1
    exact ⟨v1, spt0_nod (by simp only [List.map_cons, List.map_nil, v2])⟩
theorem rel_ntt (hf : RF fc) : RF (ntt fc) := fun C E h => by
  unfold ntt
  rw [h.down.1]
  split
  · obtain ⟨w1, w2⟩ := h.down.2.wnt sNot
    obtain ⟨p1, p2⟩ := hf _ _ w1
    exact ⟨p1.up, spt0_nod (by simp only [List.map_cons, List.map_nil, w2, p2])⟩
  · exact ⟨h.down.2, rfl⟩
theorem rel_fl (hx : RF ex) : ∀ (q : Nat) (x y : Cu × Tr), Rel x.1 y.1 → spt0 x.2 = spt0 y.2 → Rel (fl ex q x).1 (fl ex q y).1 ∧ spt0 (fl ex q x).2 = spt0 (fl ex q y).2
  | 0, _, _, h, hs => ⟨h, hs⟩
  | q + 1, x, y, h, hs => by
    unfold fl
    rw [h.isb, h.isb]
    split
    · obtain ⟨w1, w2⟩ := rel_win (rel_ins hx) h 22 sSq sSq2 (ahead := [x.2]) (ahead' := [y.2]) (by simp only [List.map_cons, List.map_nil, hs])
      exact rel_fl hx q _ _ w1 w2
    · split
      · obtain ⟨w1, w2⟩ := rel_dot hx h hs
        exact rel_fl hx q _ _ w1 w2
      · exact ⟨h, hs⟩
theorem rel_fac (hx : RF ex) (hf : RF fc) : RF (fac ex fc) := fun C E h => by
  unfold fac
  rw [h.isb]
  split
  · exact rel_ntt hf C E h
  · obtain ⟨p1, p2⟩ := rel_opd hx C E h
    rw [p1.left]
    exact rel_fl hx _ _ _ p1 p2
theorem rel_xpr (hf : RF fc) : RF (xpr fc) := rel_jnd (rel_jnd (rel_jnd (rel_jnd hf)))
end
theorem rel_fcN : ∀ k, RF (fcN k)
  | 0 => fun _ _ h => ⟨h, rfl⟩
  | k + 1 => rel_fac (rel_xpr (rel_fcN k)) (rel_fcN k)
theorem rel_exX : RF exX := rel_xpr (rel_fcN 201)
end Go.Proofs.YthggchkpejhaiaaGreatDoor

namespace Go.Proofs.YthggchkpejhaiaaGreatDoor
open Go.RowKit SignMath

/-- a real token, and a blank behind it -/
theorem ft_blank {X : List UInt8} (Z : List UInt8) (hX : X ≠ []) {k : Nat} (h3 : 2 < k) (h7 : k ≠ 7) (h : ft X = (k, X.length)) : ft (X ++ 32 :: Z) = (k, X.length) := by
  obtain ⟨c, r, rfl⟩ := List.exists_cons_of_ne_nil hX
  have b32 : lf (nb 32) = false := by decide
  by_cases hb : bk (nb c) = true
  · have : ft (c :: r) = (1, rn bk (c :: r) 0) := ft_bk hb
    rw [this] at h
    injection h with h1 h2
    omega
  · by_cases hs : c = 47
    · exfalso
      rw [ft_sl (x := c :: r) hb hs] at h
      unfold sl at h
      split at h
      · injection h with h1 h2; omega
      · split at h
        · split at h
          · injection h with h1 h2; omega
          · injection h with h1 h2; omega
        · injection h with h1 h2; omega
    · by_cases hl : lf (nb c) = true
      · rw [ft_wo (x := c :: r) hb hs hl] at h
        rw [ft_wo (x := c :: r ++ 32 :: Z) hb hs hl]
        unfold wo at h ⊢
        by_cases hp : pr.isPrefixOf (c :: r) = true ∧ lfAt (c :: r) 18 = false
        · rw [if_pos hp] at h
          injection h with h1 h2
          obtain ⟨q, hq⟩ := List.isPrefixOf_iff_prefix.1 hp.1
          have hq0 : q = [] := by
            have := congrArg List.length hq
            rw [List.length_append] at this
            have e : pr.length = 18 := rfl
            exact List.eq_nil_of_length_eq_zero (by omega)
          rw [hq0, List.append_nil] at hq
          have hpp : pr.isPrefixOf (c :: r ++ 32 :: Z) = true := by rw [← hq]; exact List.isPrefixOf_iff_prefix.2 ⟨_, rfl⟩
          have hlf : lfAt (c :: r ++ 32 :: Z) 18 = false := by
            unfold lfAt
            rw [h2, List.getElem?_append_right (Nat.le_refl _), Nat.sub_self]
            exact b32
          rw [if_pos ⟨hpp, hlf⟩, ← h2, ← h1]
        · rw [if_neg hp] at h
          injection h with h1 h2
          have hall : ((c :: r).all fun c => lf (nb c)) = true := by
            rw [← rn_all]
            exact decide_eq_true h2
          have hn : ¬ (pr.isPrefixOf (c :: r ++ 32 :: Z) = true ∧ lfAt (c :: r ++ 32 :: Z) 18 = false) := fun hh => by
            obtain ⟨q, hq⟩ := List.isPrefixOf_iff_prefix.1 hh.1
            by_cases hlen : pr.length ≤ (c :: r).length
            · have hpre : pr <+: c :: r := by
                have := List.prefix_of_prefix_length_le (l₁ := pr) (l₂ := c :: r) (l₃ := c :: r ++ 32 :: Z) ⟨q, hq⟩ ⟨_, rfl⟩ hlen
                exact this
              have := all_pre (List.isPrefixOf_iff_prefix.2 hpre) hall
              rw [pr_not_lf] at this
              cases this
            · have e1 : (pr ++ q)[(c :: r).length]? = some 32 := by
                rw [hq, List.getElem?_append_right (Nat.le_refl _), Nat.sub_self]
                rfl
              rw [List.getElem?_append_left (by omega)] at e1
              have hm := List.mem_of_getElem? e1
              exact absurd hm (by decide)
          rw [if_neg hn]
          have hr : rn lf (c :: r ++ 32 :: Z) 0 = (c :: r).length := by
            unfold rn at h2 ⊢
            rw [List.drop_zero, Nat.zero_add, List.takeWhile_append, if_pos ((takeWhile_all (c :: r)).2 hall), List.takeWhile_cons]
            rw [if_neg (by rw [b32]; decide), List.append_nil]
          rw [hr, List.take_left, ← h1]
          rw [h2, List.take_length]
      · rw [ft_mk (x := c :: r) hb hs hl] at h
        rw [ft_mk (x := c :: r ++ 32 :: Z) hb hs hl]
        unfold mk at h ⊢
        by_cases hp : [38, 38].isPrefixOf (c :: r) = true
        · rw [if_pos hp] at h
          injection h with h1 h2
          obtain ⟨q, hq⟩ := List.isPrefixOf_iff_prefix.1 hp
          have hpp : [38, 38].isPrefixOf (c :: r ++ 32 :: Z) = true := by rw [← hq, List.append_assoc]; exact List.isPrefixOf_iff_prefix.2 ⟨_, rfl⟩
          rw [if_pos hpp, ← h1, ← h2]
        · rw [if_neg hp] at h
          by_cases hc : sg.contains ((c :: r).headD 0) = true
          · rw [if_pos hc] at h
            injection h with h1 h2
            have hr : r = [] := by
              simp only [List.length_cons] at h2
              exact List.eq_nil_of_length_eq_zero (by omega)
            subst hr
            have hpp : ¬ [38, 38].isPrefixOf ([c] ++ 32 :: Z) = true := by
              intro hh
              simp [List.isPrefixOf] at hh
            rw [if_neg hpp, if_pos (by exact hc), ← h1]
            rfl
          · rw [if_neg hc] at h
            injection h with h1 h2
            omega

/-- texts, each with a blank behind it -/
def tbl : List (Nat × List UInt8) → List UInt8
  | [] => []
  | x :: r => (x.2 ++ [32]) ++ tbl r
/-- their tokens, from a place on -/
def bts : Nat → List (Nat × List UInt8) → List Tk
  | _, [] => []
  | p, x :: r => ⟨x.1, p, p + x.2.length⟩ :: ⟨1, p + x.2.length, p + x.2.length + 1⟩ :: bts (p + x.2.length + 1) r
/-- a text that is one real token -/
def One (x : Nat × List UInt8) : Prop := x.2 ≠ [] ∧ 2 < x.1 ∧ x.1 ≠ 7 ∧ ft x.2 = (x.1, x.2.length)
theorem One.head {x : Nat × List UInt8} (h : One x) : ∃ c r, x.2 = c :: r ∧ bk (nb c) = false := by
  obtain ⟨h1, h2, h3, h4⟩ := h
  obtain ⟨c, r, e⟩ := List.exists_cons_of_ne_nil h1
  refine ⟨c, r, e, ?_⟩
  cases hb : bk (nb c) with
  | false => rfl
  | true =>
    rw [e] at h4
    have : ft (c :: r) = (1, rn bk (c :: r) 0) := ft_bk hb
    rw [this] at h4
    injection h4 with h5 h6
    omega
theorem tk_tbl : ∀ (l : List (Nat × List UInt8)) (P : List UInt8), (∀ x ∈ l, One x) → tk (P ++ tbl l) P.length = bts P.length l
  | [], P, _ => by
    rw [show tbl [] = [] from rfl, List.append_nil]
    exact tk_end (Nat.le_refl _)
  | x :: r, P, h => by
    have hx := h x List.mem_cons_self
    obtain ⟨h1, h2, h3, h4⟩ := hx
    have hr : ∀ y ∈ r, One y := fun y hy => h y (List.mem_cons_of_mem _ hy)
    have e0 : P ++ tbl (x :: r) = P ++ (x.2 ++ 32 :: tbl r) := by
      show P ++ ((x.2 ++ [32]) ++ tbl r) = _
      rw [List.append_assoc]; rfl
    have hpos : 0 < x.2.length := List.length_pos_iff.2 h1
    have hf1 : ft ((P ++ (x.2 ++ 32 :: tbl r)).drop P.length) = (x.1, x.2.length) := by
      rw [List.drop_left]
      exact ft_blank (tbl r) h1 h2 h3 h4
    have hf2 : ft ((P ++ (x.2 ++ 32 :: tbl r)).drop (P.length + x.2.length)) = (1, 1) := by
      rw [← List.append_assoc, show P.length + x.2.length = (P ++ x.2).length from by rw [List.length_append], List.drop_left]
      have hb : bk (nb ((32 :: tbl r).headD 0)) = true := by show bk (nb 32) = true; decide
      rw [ft_bk hb]
      have : rn bk (32 :: tbl r) 0 = 1 := by
        rw [rn_cons (by decide)]
        cases r with
        | nil => rw [show tbl [] = [] from rfl, rn_nil]
        | cons y r' =>
          obtain ⟨c, q, e, hc⟩ := (hr y List.mem_cons_self).head
          have : tbl (y :: r') = c :: (q ++ [32] ++ tbl r') := by show (y.2 ++ [32]) ++ tbl r' = _; rw [e]; rfl
          rw [this, rn_no hc]
      rw [this]
    have hlen : (P ++ (x.2 ++ 32 :: tbl r)).length = P.length + (x.2.length + ((tbl r).length + 1)) := by simp
    rw [e0, tk_step (by rw [hlen]; omega), hf1, tk_step (by rw [hlen]; simp only; omega), hf2]
    show (⟨x.1, P.length, P.length + x.2.length⟩ : Tk) :: (⟨1, P.length + x.2.length, P.length + x.2.length + 1⟩ : Tk) :: tk (P ++ (x.2 ++ 32 :: tbl r)) (P.length + x.2.length + 1) = _
    have ih := tk_tbl r (P ++ (x.2 ++ [32])) hr
    have e1 : P ++ (x.2 ++ 32 :: tbl r) = P ++ (x.2 ++ [32]) ++ tbl r := by simp
    have e2 : P.length + x.2.length + 1 = (P ++ (x.2 ++ [32])).length := by simp; omega
    rw [e1, e2, ih, ← e2]
    rfl
theorem bad_bts : ∀ (l : List (Nat × List UInt8)) (p : Nat), (∀ x ∈ l, One x) → bad (bts p l) = none
  | [], _, _ => rfl
  | x :: r, p, h => by
    have h1 := (h x List.mem_cons_self).2.2.1
    have ih := bad_bts r (p + x.2.length + 1) fun y hy => h y (List.mem_cons_of_mem _ hy)
    unfold bad at ih ⊢
    unfold bts
    rw [List.find?_cons_of_neg (by simpa using h1), List.find?_cons_of_neg (by simp)]
    exact ih
/-- the real ones alone -/
def rts : Nat → List (Nat × List UInt8) → List Tk
  | _, [] => []
  | p, x :: r => ⟨x.1, p, p + x.2.length⟩ :: rts (p + x.2.length + 1) r
theorem rls_bts : ∀ (l : List (Nat × List UInt8)) (p : Nat), (∀ x ∈ l, One x) → rls (bts p l) = rts p l
  | [], _, _ => rfl
  | x :: r, p, h => by
    have h1 := (h x List.mem_cons_self).2.1
    have ih := rls_bts r (p + x.2.length + 1) fun y hy => h y (List.mem_cons_of_mem _ hy)
    unfold rls at ih ⊢
    unfold bts rts
    rw [List.filter_cons_of_pos (by simpa using h1), List.filter_cons_of_neg (by simp), ih]
theorem rts_len : ∀ (l : List (Nat × List UInt8)) (p : Nat), (rts p l).length = l.length
  | [], _ => rfl
  | x :: r, p => by unfold rts; rw [List.length_cons, List.length_cons, rts_len r]
/-- kinds and texts -/
theorem rts_at : ∀ (l : List (Nat × List UInt8)) (P : List UInt8) (i : Nat), ((rts P.length l)[i]?).map (fun t => (t.k, ((P ++ tbl l).drop t.a).take (t.z - t.a))) = l[i]?
  | [], _, i => by simp [rts]
  | x :: r, P, i => by
    unfold rts
    cases i with
    | zero =>
      simp only [List.getElem?_cons_zero, Option.map_some, Option.some.injEq]
      rw [List.drop_left, Nat.add_sub_cancel_left]
      show (x.1, ((x.2 ++ [32]) ++ tbl r).take x.2.length) = x
      rw [List.append_assoc, List.take_left]
    | succ i =>
      simp only [List.getElem?_cons_succ]
      have ih := rts_at r (P ++ (x.2 ++ [32])) i
      have e1 : P ++ tbl (x :: r) = P ++ (x.2 ++ [32]) ++ tbl r := by show P ++ ((x.2 ++ [32]) ++ tbl r) = _; simp
      have e2 : P.length + x.2.length + 1 = (P ++ (x.2 ++ [32])).length := by simp; omega
      rw [e1, e2]
      exact ih
theorem tbl_len : ∀ (l : List (Nat × List UInt8)), (tbl l).length = (l.map fun x => x.2.length + 1).sum
  | [] => rfl
  | x :: r => by
    show ((x.2 ++ [32]) ++ tbl r).length = _
    rw [List.length_append, tbl_len r, List.length_append, List.map_cons, List.sum_cons]
    rfl
end Go.Proofs.YthggchkpejhaiaaGreatDoor

namespace Go.Proofs.YthggchkpejhaiaaGreatDoor
open Go.RowKit SignMath TreeMath

theorem real_one {s : ByteArray} {t : Tk} (hb : bad (tk (bs s) 0) = none) (ht : t ∈ rls (tk (bs s) 0)) : One (t.k, bs (s.extract t.a t.z)) := by
  obtain ⟨hm, h3⟩ := List.mem_filter.1 ht
  have h3 : 2 < t.k := of_decide_eq_true h3
  have h7 : t.k ≠ 7 := by
    have := List.find?_eq_none.1 hb t hm
    simpa using this
  obtain ⟨h1, h2, h4⟩ := tk_mem (l := bs s) _ 0 (Nat.le_refl _) t hm
  have hx : (bs s).drop t.a ≠ [] := by
    intro e
    have := congrArg List.length e
    rw [List.length_drop, List.length_nil] at this
    omega
  have hz := ft_size hx
  have hc : bs (s.extract t.a t.z) = ((bs s).drop t.a).take (ft ((bs s).drop t.a)).2 := by rw [bs_cut, h4, Nat.add_sub_cancel_left]
  have hl : (bs (s.extract t.a t.z)).length = (ft ((bs s).drop t.a)).2 := by rw [hc, List.length_take]; omega
  refine ⟨fun e => ?_, h3, h7, ?_⟩
  · have e' : bs (s.extract t.a t.z) = [] := e
    rw [e', List.length_nil] at hl
    omega
  · show ft (bs (s.extract t.a t.z)) = (t.k, (bs (s.extract t.a t.z)).length)
    rw [hl, h2, hc]
    exact ft_alone hx (by rw [← h2]; exact h3) (by rw [← h2]; exact h7)

def b32 : ByteArray := ⟨#[32]⟩
/-- leaves' texts, a blank behind each -/
def tbb : List Tr → ByteArray
  | [] => .empty
  | x :: r => (x.t ++ b32) ++ tbb r
theorem tbb_snoc (l : List Tr) (x : Tr) : tbb (l ++ [x]) = tbb l ++ (x.t ++ b32) := by
  induction l with
  | nil => show (x.t ++ b32) ++ .empty = .empty ++ (x.t ++ b32); rw [ByteArray.append_empty, ByteArray.empty_append]
  | cons y r ih => show (y.t ++ b32) ++ tbb (r ++ [x]) = ((y.t ++ b32) ++ tbb r) ++ _; rw [ih]; simp only [ByteArray.append_assoc]
def bl (s : ByteArray) : List (Nat × List UInt8) := (cu0 s).L.map fun t => (t.k, bs (s.extract t.a t.z))
theorem bs_app (a b : ByteArray) : bs (a ++ b) = bs a ++ bs b := by simp [bs, ByteArray.data_append]
theorem bs_tbb (s : ByteArray) : ∀ (L : List Tk) (e : Nat), bs (tbb (lvl s e L)) = tbl (L.map fun t => (t.k, bs (s.extract t.a t.z)))
  | [], _ => rfl
  | t :: r, e => by
    show bs ((s.extract t.a t.z ++ b32) ++ tbb (lvl s t.z r)) = (bs (s.extract t.a t.z) ++ [32]) ++ tbl _
    rw [bs_app, bs_app, bs_tbb s r]
    rfl
def blk (s : ByteArray) : ByteArray := tbb (lvl s 0 (cu0 s).L)
theorem bs_blk (s : ByteArray) : bs (blk s) = tbl (bl s) := bs_tbb s _ 0
theorem bl_one {s : ByteArray} (hb : bad (tk (bs s) 0) = none) : ∀ x ∈ bl s, One x := fun x hx => by
  obtain ⟨t, ht, rfl⟩ := List.mem_map.1 hx
  exact real_one hb ht
theorem tk_blk {s : ByteArray} (hb : bad (tk (bs s) 0) = none) : tk (bs (blk s)) 0 = bts 0 (bl s) := by
  rw [bs_blk]
  exact tk_tbl (bl s) [] (bl_one hb)
theorem cu0_blk {s : ByteArray} (hb : bad (tk (bs s) 0) = none) : (cu0 (blk s)).L = rts 0 (bl s) ∧ bad (tk (bs (blk s)) 0) = none := by
  refine ⟨?_, ?_⟩
  · show rls (tk (bs (blk s)) 0) = _
    rw [tk_blk hb, rls_bts _ _ (bl_one hb)]
  · rw [tk_blk hb, bad_bts _ _ (bl_one hb)]
theorem rel_blk {s : ByteArray} (hb : bad (tk (bs s) 0) = none) : Rel (cu0 s) (cu0 (blk s)) := by
  refine ⟨rfl, rfl, rfl, ?_, fun i => ?_⟩
  · rw [(cu0_blk hb).1, rts_len]
    unfold bl
    rw [List.length_map]
  · rw [(cu0_blk hb).1]
    have h := rts_at (bl s) [] i
    rw [List.nil_append, ← bs_blk] at h
    have h2 : (bl s)[i]? = ((cu0 s).L[i]?).map fun t => (t.k, bs (s.extract t.a t.z)) := by unfold bl; rw [List.getElem?_map]
    rw [h2] at h
    show _ = ((rts 0 (bl s))[i]?).map fun y => (y.k, (blk s).extract y.a y.z)
    cases hx : (cu0 s).L[i]? with
    | none =>
      rw [hx] at h
      cases hy : (rts 0 (bl s))[i]? with
      | none => rfl
      | some y => rw [show (rts ([] : List UInt8).length (bl s))[i]? = some y from hy] at h; cases h
    | some x =>
      rw [hx] at h
      cases hy : (rts 0 (bl s))[i]? with
      | none => rw [show (rts ([] : List UInt8).length (bl s))[i]? = none from hy] at h; cases h
      | some y =>
        rw [show (rts ([] : List UInt8).length (bl s))[i]? = some y from hy] at h
        simp only [Option.map_some, Option.some.injEq, Prod.mk.injEq] at h ⊢
        refine ⟨h.1.symm, ?_⟩
        refine WideShapes.bytes_inj ?_
        show bs (s.extract x.a x.z) = bs ((blk s).extract y.a y.z)
        rw [bs_cut (blk s), h.2]
theorem tbb_size : ∀ (l : List Tr), (∀ x ∈ l, 0 < x.t.size) → (tbb l).size ≤ 2 * (tx l).size
  | [], _ => Nat.zero_le _
  | x :: r, h => by
    have ih := tbb_size r fun y hy => h y (List.mem_cons_of_mem _ hy)
    have h1 := h x List.mem_cons_self
    show ((x.t ++ b32) ++ tbb r).size ≤ 2 * ((x.g ++ x.t) ++ tx r).size
    simp only [ByteArray.size_append]
    have : b32.size = 1 := rfl
    omega
theorem blk_size (s : ByteArray) : (blk s).size ≤ 2 * s.size := by
  have h1 := tbb_size (lvl s 0 (cu0 s).L) fun x hx => (lvl_mem s (cu0_od s) x hx).2.1
  have h2 := tx_lvl s (cu0_od s)
  have h3 := od_le (cu0_od s)
  rw [h2, ByteArray.size_extract] at h1
  unfold blk
  omega
theorem rtl_eq {s : ByteArray} (h : rok s = true) : rtl s = s.extract (lz 0 (cu0 s).L) s.size ∧ (cu0 s).L ≠ [] := by
  unfold rok at h
  simp only [Bool.and_eq_true, decide_eq_true_eq] at h
  obtain ⟨⟨⟨hs, hb⟩, hf⟩, hl⟩ := h
  have hk := cu0_ok s hs
  have hG := Got.exX (cu0 s) hk (Nat.zero_le _) (Nat.zero_le _)
  have hn : (exX (cu0 s)).1.n = (cu0 s).L.length := by
    have h1 := hG.ok.n
    rw [hG.L] at h1
    unfold Cu.left at hl
    rw [if_pos hf, hG.L] at hl
    omega
  refine ⟨?_, fun e => ?_⟩
  · unfold rtl Cu.en
    rw [if_pos ⟨hf, hl⟩]
    have e1 : (exX (cu0 s)).1.s = s := hG.s
    have e2 : (exX (cu0 s)).1.beh = lz 0 (cu0 s).L := by
      rw [Cu.beh_lz _ hG.ok.n, hn, hG.L, List.take_length]
    rw [e1, e2]
  · have h3 := hG.cn hf
    have hlv := hG.lv hf
    rw [hn, List.take_length, e] at hlv
    have h4 : TreeMath.cn (exX (cu0 s)).2 = 1 + ((exX (cu0 s)).2.kids.map TreeMath.cn).sum := cn_eq _
    have h5 := congrArg List.length hlv
    simp only [List.length_append] at h5
    have h6 : (lvl (cu0 s).s 0 []).length = 0 := rfl
    rw [h6] at h5
    simp only [List.map_cons, List.map_nil, List.sum_cons, List.sum_nil] at h3
    omega
theorem lz_rts : ∀ (l : List (Nat × List UInt8)) (p e : Nat), l ≠ [] → lz e (rts p l) + 1 = p + (tbl l).length
  | [x], p, e, _ => by
    show p + x.2.length + 1 = p + ((x.2 ++ [32]) ++ []).length
    simp
    omega
  | x :: y :: r, p, e, _ => by
    have ih := lz_rts (y :: r) (p + x.2.length + 1) (p + x.2.length) (by simp)
    show lz (p + x.2.length) (rts (p + x.2.length + 1) (y :: r)) + 1 = p + ((x.2 ++ [32]) ++ tbl (y :: r)).length
    rw [ih]
    simp only [List.length_append, List.length_cons, List.length_nil]
    omega
theorem tbl_last : ∀ (l : List (Nat × List UInt8)), l ≠ [] → (tbl l).drop ((tbl l).length - 1) = [32]
  | [x], _ => by
    show ((x.2 ++ [32]) ++ []).drop (((x.2 ++ [32]) ++ []).length - 1) = [32]
    rw [List.append_nil, List.length_append, show x.2.length + [(32 : UInt8)].length - 1 = x.2.length from rfl, List.drop_left]
  | x :: y :: r, _ => by
    have ih := tbl_last (y :: r) (by simp)
    have hp : 0 < (tbl (y :: r)).length := by show 0 < ((y.2 ++ [32]) ++ tbl r).length; simp; omega
    show ((x.2 ++ [32]) ++ tbl (y :: r)).drop (((x.2 ++ [32]) ++ tbl (y :: r)).length - 1) = [32]
    rw [List.length_append, show (x.2 ++ [(32 : UInt8)]).length + (tbl (y :: r)).length - 1 = (x.2 ++ [(32 : UInt8)]).length + ((tbl (y :: r)).length - 1) from by omega, List.drop_append]
    have e : (x.2 ++ [(32 : UInt8)]).drop ((x.2 ++ [(32 : UInt8)]).length + ((tbl (y :: r)).length - 1)) = [] := List.drop_eq_nil_of_le (by omega)
    rw [e, List.nil_append, Nat.add_sub_cancel_left]
    exact ih
theorem rok_blk {s : ByteArray} (h : rok s = true) (hs : s.size ≤ 1500) : rok (blk s) = true ∧ rtl (blk s) = b32 ∧ spt0 (rtr (blk s)) = spt0 (rtr s) := by
  have h0 := h
  unfold rok at h
  simp only [Bool.and_eq_true, decide_eq_true_eq] at h
  obtain ⟨⟨⟨hsz, hb⟩, hf⟩, hl⟩ := h
  have hbn : bad (tk (bs s) 0) = none := by simpa using hb
  have hR := rel_blk hbn
  obtain ⟨r1, r2⟩ := rel_exX _ _ hR
  have hbs := blk_size s
  have hok : rok (blk s) = true := by
    unfold rok
    simp only [Bool.and_eq_true, decide_eq_true_eq]
    refine ⟨⟨⟨by omega, ?_⟩, ?_⟩, ?_⟩
    · rw [(cu0_blk hbn).2]; rfl
    · rw [← r1.f]; exact hf
    · rw [← r1.left]; exact hl
  refine ⟨hok, ?_, r2.symm⟩
  obtain ⟨e1, e2⟩ := rtl_eq hok
  have hne : bl s ≠ [] := by
    intro e
    apply e2
    rw [(cu0_blk hbn).1, e]
    rfl
  rw [e1, (cu0_blk hbn).1]
  have hz := lz_rts (bl s) 0 0 hne
  have hbl : (tbl (bl s)).length = (blk s).size := by rw [← bs_blk]; exact bs_size _
  refine WideShapes.bytes_inj ?_
  show bs ((blk s).extract (lz 0 (rts 0 (bl s))) (blk s).size) = [32]
  rw [bs_end, bs_blk, show lz 0 (rts 0 (bl s)) = (tbl (bl s)).length - 1 from by omega]
  exact tbl_last _ hne
theorem spt0_pl (T : Tr) : spt0 (pl T) = spt0 T := by
  induction T using Tr.ind with | _ k g t a A c kids ih =>
  unfold spt0
  rw [cg_eq stp (pl ⟨k, g, t, a, A, c, kids⟩), cg_eq stp ⟨k, g, t, a, A, c, kids⟩]
  have e1 : (pl ⟨k, g, t, a, A, c, kids⟩).k = k := by rw [pl_eq]
  have e2 : (pl ⟨k, g, t, a, A, c, kids⟩).kids = kids.map pl := by rw [pl_eq]
  have e3 : tok (pl ⟨k, g, t, a, A, c, kids⟩) = tok ⟨k, g, t, a, A, c, kids⟩ := by rw [pl_eq]; rfl
  have e4 : (pl ⟨k, g, t, a, A, c, kids⟩).g = g ∧ (pl ⟨k, g, t, a, A, c, kids⟩).t = t ∧ (pl ⟨k, g, t, a, A, c, kids⟩).a = a := by rw [pl_eq]; exact ⟨rfl, rfl, rfl⟩
  rw [e1, e2, e3, e4.1, e4.2.1, e4.2.2]
  simp only [stp, spt0_kids, List.map_map]
  have hk : kids.map (spt0 ∘ pl) = kids.map spt0 := List.map_congr_left fun x hx => ih x hx
  rw [hk]
/-- what the law asks of the two trees -/
theorem blank_tbb {s : ByteArray} (h : rok s = true) {T : Tr} (hT : pl T = rtr s) : tbb (TreeMath.lf T) = blk s := by
  obtain ⟨h1, h2, h3, h4, h5⟩ := rok_facts h
  have hl : (TreeMath.lf T).map pl = lvl s 0 (cu0 s).L := by rw [← lf_pl, hT, h3]
  unfold blk
  rw [← hl]
  have : ∀ l : List Tr, tbb l = tbb (l.map pl) := by
    intro l
    induction l with
    | nil => rfl
    | cons x r ih => show (x.t ++ b32) ++ tbb r = ((pl x).t ++ b32) ++ tbb (r.map pl); rw [← ih, pl_eq]
  exact this _
theorem blank_same {s : ByteArray} (h : rok s = true) (hs : s.size ≤ 1500) {T U : Tr} (hT : pl T = rtr s) (hU : pl U = rtr (blk s)) : (cg stp T ()).1 = (cg stp U ()).1 := by
  obtain ⟨b1, b2, b3⟩ := rok_blk h hs
  show spt0 T = spt0 U
  rw [← spt0_pl T, ← spt0_pl U, hT, hU, b3]
end Go.Proofs.YthggchkpejhaiaaGreatDoor

namespace Go.Proofs.YthggchkpejhaiaaGreatDoor
open Go.RowKit Go.Shelf SignMath TreeMath

attribute [local go_sem] Oper.semAt_some

theorem BK.put_ {w W : World} {bs : List (Nat × Obj)} {ts : List Tr} {t : TypeId} (h : BK w bs ts t [] W) {b : Nat} {o : Obj} (hb : W.heap[b]? = some o) : BK w ((b, o) :: bs) ts t [] W :=
  ⟨h.low, fun q hq => by
    rcases List.mem_cons.1 hq with rfl | hq
    · exact hb
    · exact h.has q hq, h.tn, h.zb, fun q _ => by simp, h.nd⟩
abbrev sbz (s : ByteArray) : Obj := .cells #[.string s] 9 (0, 0)
theorem tbb_app (a b : List Tr) : tbb (a ++ b) = tbb a ++ tbb b := by
  induction a with
  | nil => show tbb b = .empty ++ tbb b; rw [ByteArray.empty_append]
  | cons x r ih => show (x.t ++ b32) ++ tbb (r ++ b) = ((x.t ++ b32) ++ tbb r) ++ tbb b; rw [ih]; simp only [ByteArray.append_assoc]
theorem tbb_pre {l m : List Tr} (h : l <+: m) : (tbb l).size ≤ (tbb m).size := by
  obtain ⟨q, rfl⟩ := h
  rw [tbb_app, ByteArray.size_append]
  omega
theorem kept_facts {s : ByteArray} (h : rok s = true) {T : Tr} (hp : pl T = rtr s) : rgt T = true ∧ wt T ≤ 9000 := by
  obtain ⟨h1, h2, h3, h4, h5⟩ := rok_facts h
  have hpp : pl T = pl (rtr s) := by rw [← hp, pl_pl]
  obtain ⟨s1, s2, s3, s4, s5⟩ := same_of hpp
  exact ⟨by rw [s1]; exact h2, by rw [s3]; exact h4⟩

set_option maxRecDepth 100000 in
set_option maxHeartbeats 8000000 in
theorem blanks_early (s : ByteArray) (w : World) (hL : LaidX w) (h : 1500 < s.size ∨ rok s = false) : Calls Tryz.prog 4 #[.string s] w fun e w' => e = .returned (.bool true) ∧ Below w.heap.size w w' := by
  have HL := Lib.hid hL
  have HA := Lib.hid (exprAlive_any w hL)
  clear hL
  by_cases h4 : 1500 < s.size
  · have z1 : (1500 : Int) < (s.size : Nat) := by omega
    clear h4 h
    go_enter Tryz.func4, Tryz.ntmps4
    go_wp2_with fail
    refine HA.out.mono ?_
    rintro e w1 ⟨rfl, hb1⟩
    have HB1 := Lib.hid hb1
    clear hb1
    go_wp2
    go_ret
    exact ⟨rfl, HB1.out⟩
  · have z1 : ¬ (1500 : Int) < (s.size : Nat) := by omega
    have hok := h.resolve_left h4
    have HRD := Lib.hid (fun W (h : LaidX W) => read_any s W h)
    rw [hok] at HRD
    clear h4 h hok
    go_enter Tryz.func4, Tryz.ntmps4
    go_wp2_with fail
    refine HA.out.mono ?_
    rintro e w1 ⟨rfl, hb1⟩
    have HB1 := Lib.hid hb1
    have HC := Lib.hid (HRD.out w1 (HL.out.below hb1))
    clear hb1 HRD HL
    go_wp2_with fail
    refine HC.out.mono ?_
    rintro e w2 ⟨hb2, p, k, rfl⟩
    have HB2 := Lib.hid (HB1.out.trans (hb2.mono HB1.out.size))
    have HB3 := Lib.hid (HB2.out.trans ((below1 w2 (.cells (ncc zn1) 26)).mono HB2.out.size))
    clear hb2
    go_wp2
    go_ret
    exact ⟨rfl, HB3.out⟩

def BpI (w5 : World) (sB b : Nat) (A : Option Addr) (n c : Nat) (l : List Tr) (pre : List Tr) : As := fun X W => Low sB w5 X W ∧ Has sB (sbz (tbb pre)) X W ∧ TkA A l sB X W ∧ Has b (slb A n c) X W
theorem BpI.frames (w5 : World) (sB b : Nat) (A : Option Addr) (n c : Nat) (l : List Tr) (pre : List Tr) : Frames (BpI w5 sB b A n c l pre) := (Low.frames _ _).and ((Has.frames _ _).and ((TkA.frames _ _ _).and (Has.frames _ _)))

set_option maxRecDepth 100000 in
set_option maxHeartbeats 8000000 in
theorem blanks_in (s : ByteArray) (hs : s.size ≤ 1500) (hok : rok s = true) (w : World) (hL : LaidX w) :
    CallsIn Fence.wide 8 Tryz.prog 4 #[.string s] w fun e w' => e = .returned (.bool true) ∧ Below w.heap.size w w' := by
  have z1 : ¬ (1500 : Int) < (s.size : Nat) := by omega
  have HL := Lib.hid hL
  have HA := Lib.hid (exprAlive_any w hL)
  have HRD := Lib.hid (fun W (h : LaidX W) => read_any s W h)
  have HRB := Lib.hid (fun W (h : LaidX W) => read_any (blk s) W h)
  obtain ⟨b1, b2, b3⟩ := rok_blk hok hs
  have HF : Hid (∀ T U, pl T = rtr s → pl U = rtr (blk s) → (cg stp T ()).1 = (cg stp U ()).1) := Lib.hid fun T U h1 h2 => blank_same hok hs h1 h2
  have HT : Hid (∀ T, pl T = rtr s → rgt T = true ∧ wt T ≤ 9000 ∧ tbb (TreeMath.lf T) = blk s) := Lib.hid fun T h1 => ⟨(kept_facts hok h1).1, (kept_facts hok h1).2, blank_tbb hok h1⟩
  have HU : Hid (∀ U, pl U = rtr (blk s) → rgt U = true ∧ wt U ≤ 9000) := Lib.hid fun U h => kept_facts b1 h
  have hbz := blk_size s
  rw [hok] at HRD
  rw [b1, b2] at HRB
  generalize blk s = Y at HRB HF HT HU hbz
  generalize rtr Y = PY at HRB HF HU
  generalize rtr s = PS at HRD HF HT
  generalize rtl s = tl at HRD
  unfold b32 at HRB
  have HYZ : Hid (Y.size ≤ 3000) := Lib.hid (by omega)
  clear b1 b2 b3 hbz hL hok hs
  refine callsIn_of_wp_marks Tryz.func4 rfl trivial ?_ rfl
  simp only [Tryz.ntmps4, List.size_toArray, List.length_cons, List.length_nil, Nat.reduceAdd, Nat.reduceSub, Array.replicate_succ, Array.replicate_zero, List.push_toArray, List.append_toArray, List.nil_append, List.cons_append]
  refine wpIn_wide.2 ?_
  go_wp2_with fail
  refine HA.out.mono ?_
  rintro e w1 ⟨rfl, hb1⟩
  have HB1 := Lib.hid hb1
  have HC := Lib.hid (HRD.out w1 (HL.out.below hb1))
  clear hb1 HRD
  go_wp2_with fail
  refine HC.out.mono ?_
  rintro e w2 ⟨hb2, T, rfl, hpT, hTn⟩
  obtain ⟨rT, wT, lT⟩ := HT.out T hpT
  have hB2 := HB1.out.trans (hb2.mono HB1.out.size)
  have hk2 := (((BK.begin w).step hB2).more (t := 26) (T := T) (hTn.keep (fun _ _ _ => rfl) fun _ hk => hk.2) rfl).alloc (nbx T)
  have CLV : Hid (∀ W : World, Tn (lo W.heap.size) W T → Calls Tryz.prog 10 #[nv T] W (LvsV T W)) := Lib.hid fun W h => leavesAll_any T W wT h
  have hlv : lvs T = TreeMath.lf T := if_pos rT
  have hll := lvs_len wT
  unfold LvsV at CLV
  rw [hlv] at CLV hll
  obtain ⟨L, hLL⟩ : ∃ L, TreeMath.lf T = L := ⟨_, rfl⟩
  rw [hLL] at CLV hll lT
  have HLT := Lib.hid lT
  have CSX : Hid (∀ W : World, Tn (lo W.heap.size) W T → Calls Tryz.prog 12 #[nv T] W (CpV (cg stp T ()).1 W)) := Lib.hid fun W h => strip_any T W rT wT h
  have HPT := Lib.hid (And.intro hpT (And.intro rT wT))
  have hk3 := hk2.alloc (sbz ⟨#[]⟩)
  have c3 := heap5 (hk3.has (w2.heap.size, nbx T) (by simp))
  have hw2 : w.heap.size ≤ w2.heap.size := hB2.size
  clear hb2 hTn rT wT lT hlv hLL hpT hB2 HC HT
  go_wp2_with fail
  refine (CLV.out _ (hk3.tree (T := T) (by simp))).mono ?_
  rintro e w6 ⟨b, A, c, rfl, hsl, hnb, hTk, hb6⟩
  have hbx6 : w6.heap[w2.heap.size + 1]? = some (sbz ⟨#[]⟩) := (hb6.block _ (by simp)).trans (by have := heap_alloc_new (w2.alloc (nbx T)) (sbz ⟨#[]⟩); rwa [World.size_alloc] at this)
  have hlow6 : Below (w2.alloc (nbx T)).heap.size (w2.alloc (nbx T)) w6 := (below1 _ _).trans (hb6.mono (by simp))
  have hs5 : (w2.alloc (nbx T)).heap.size = w2.heap.size + 1 := by simp
  have hnb' : w2.heap.size + 2 ≤ b := by rw [World.size_alloc, World.size_alloc] at hnb; omega
  have hTk' : TkA A (L.map tok) (w2.heap.size + 1) no w6 := Tks.keep hTk (fun _ _ _ => rfl) fun k hk => ⟨fun h => h, hk.2, by have h1 := hk.1; rw [World.size_alloc, World.size_alloc] at h1; omega⟩
  generalize w2.alloc (nbx T) = w5 at hk2 hlow6 hs5
  rw [hs5] at hlow6
  have hI0 : BpI w5 (w2.heap.size + 1) b A L.length c (L.map tok) [] no w6 := ⟨⟨hlow6, by rw [← hs5]; exact hs5 ▸ hlow6.size, fun _ h => h.elim⟩, ⟨fun h => h, hbx6⟩, hTk', ⟨fun h => h, hsl⟩⟩
  have HK4 := Lib.hid hk2
  have HNB := Lib.hid hnb'
  have hww : w.heap.size < w2.heap.size + 1 := by omega
  have HWW := Lib.hid hww
  clear hk3 c3 CLV hTk hTk' hb6 hk2 hlow6 hbx6 hsl hnb hnb'
  go_wp2_with fail
  refine (wpIn_wide (n := 8)).1 ?_
  refine range_outG (values_iter L b A c (by omega)).g gT (fun _ => Frames.pure _) rfl eg_values (fun _ => rfl)
    (fun (t : Array Value) (x : Tr) (bp : Nat) => { tmps := (t.setIfInBounds 28 (nv (tok x))).setIfInBounds 8 (.pointer (some ⟨bp, 0, none⟩)), defers := [] })
    (BpI w5 (w2.heap.size + 1) b A L.length c (L.map tok)) (fun _ _ _ _ => False) (fun pre x bp X W => BpI w5 (w2.heap.size + 1) b A L.length c (L.map tok) pre X W ∧ Has bp (tbx x) X W ∧ bp ≠ w2.heap.size + 1) ?fI ?fX ?fA ?hC ?h0 ?assign ?body ?done ?stop
  case fI => exact fun pre => BpI.frames _ _ _ _ _ _ _ _
  case fX => exact fun c pre => Frames.pure _
  case fA => exact fun pre x bp => (BpI.frames _ _ _ _ _ _ _ _).and ((Has.frames _ _).and (Frames.pure _))
  case hC => exact fun pre X W1 h => ⟨⟨_, h.2.2.1⟩, h.2.2.2⟩
  case h0 => exact hI0
  case stop =>
    rintro D c pre W1 h hD
    exact h.elim
  case assign =>
    rintro lq X' pre x W1 K hX hXb hi - hp hK
    have hb1 := hK W1.heap.size (W1.alloc (tbx x)) (by simp) (Kept.alloc _ _ _) ⟨(BpI.frames _ _ _ _ _ _ _ _).off hi (Off.alloc _ _ _), Has.new hXb _, by have := hi.2.1.lt; omega⟩
    clear hK hI0
    gi_wp2
    simpa only [List.setIfInBounds_toArray, List.set_cons_zero, List.set_cons_succ] using hb1
  case body =>
    rintro lq X' pre x bp W1 hX hXb hr2 ⟨⟨hlow, hs, htk, hsl1⟩, hbp, hne⟩ hp
    have p2 : W1.cell? ⟨bp, 2, none⟩ = some (.string x.t) := hbp.cell (i := 2)
    have q0 := hs.cell (i := 0)
    have f0 := hs.frozen (i := 0)
    simp only [List.getElem?_toArray, List.getElem?_cons_zero] at q0
    have he : tbb (pre ++ [x]) = tbb pre ++ (x.t ++ ⟨#[32]⟩) := tbb_snoc pre x
    have HE := Lib.hid he
    have hle := tbb_pre hp
    rw [HLT.out] at hle
    have hY2 := HYZ.out
    rw [he] at hle
    simp only [ByteArray.size_append] at hle
    have ha1 : ∀ W, Sem.run Tryz.prog (Op.stringOp .add x.t ⟨#[32]⟩) W = .ok (.string (x.t ++ ⟨#[32]⟩)) W := fun W => run_string_add_sum _ _ _ (by omega)
    have ha2 : ∀ W, Sem.run Tryz.prog (Op.stringOp .add (tbb pre) (x.t ++ ⟨#[32]⟩)) W = .ok (.string (tbb pre ++ (x.t ++ ⟨#[32]⟩))) W := fun W => run_string_add_sum _ _ _ (by rw [ByteArray.size_append]; omega)
    have hnb2 : b ≠ w2.heap.size + 1 := by have := HNB.out; omega
    clear hI0 he hp hr2 hle hY2
    simp only [List.setIfInBounds_toArray, List.set_cons_zero, List.set_cons_succ]
    gi_wp2
    refine ⟨by rw [size_set]; exact Nat.le_refl _, Kept.set hs.1 _ _, ?_⟩
    unfold BpI
    rw [HE.out]
    exact ⟨hlow.set (p := ⟨w2.heap.size + 1, 0, none⟩) (Nat.le_refl _) _, hs.set, Tks.keep htk (fun k i hk => cell_of (Below.heap_setCell _ _ _ _ hk.2.2)) (fun k hk => ⟨hk.1, by rw [size_set]; exact hk.2.1, hk.2.2⟩), hsl1.other hnb2⟩
  case done =>
    rintro D xs W1 hxs ⟨hlow, hs, -, -⟩ hD
    rw [hxs, HLT.out] at hs
    have hlw : Below w5.heap.size w5 W1 := by rw [hs5]; exact hlow.1
    have hk7 := ((HK4.out.step hlw).put_ hs.2).put_ hD
    have hDs := hlow.2.2 D rfl
    have HC := Lib.hid (HRB.out W1 (HL.out.below hk7.low))
    have q0 := cell_heap hs.2 (i := 0)
    simp only [List.getElem?_toArray, List.getElem?_cons_zero] at q0
    clear hlow hs hlw hD hI0 HRB HL
    go_wp2_with fail
    refine HC.out.mono ?_
    rintro e w8 ⟨hb8, U, rfl, hpU, hTU⟩
    have hk8 := ((hk7.call hb8 hTU).alloc (nbx U)).drew
    obtain ⟨rU, wU⟩ := HU.out U hpU
    have CSU : Hid (∀ W : World, Tn (lo W.heap.size) W U → Calls Tryz.prog 12 #[nv U] W (CpV (cg stp U ()).1 W)) := Lib.hid fun W h => strip_any U W rU wU h
    have CSM : Hid (∀ (P Q : Tr) (W : World), pl P = (cg stp U ()).1 → pl Q = (cg stp T ()).1 → Tn (lo W.heap.size) W P → Tn (lo W.heap.size) W Q → Calls Tryz.prog 11 #[nv P, nv Q] W fun e w' => e = .returned (.bool true) ∧ Below W.heap.size W w') := Lib.hid fun P Q W ha hb h k => by
      obtain ⟨t1, t2⟩ := stripped rU
      obtain ⟨t3, t4⟩ := stripped HPT.out.2.1
      have ea : rgt P = true := by rw [← rgt_pl, ha]; exact t1
      have eb : rgt Q = true := by rw [← rgt_pl, hb]; exact t3
      have wa : wt P ≤ 9000 := by rw [← wt_pl, ha]; exact Nat.le_trans t2 wU
      have wb : wt Q ≤ 9000 := by rw [← wt_pl, hb]; exact Nat.le_trans t4 HPT.out.2.2
      have := same_any P Q W wa wb h k
      rwa [ea, eb, (sm_iff P Q).2 (ha.trans ((HF.out T U HPT.out.1 hpU).symm.trans hb.symm))] at this
    have h32 : ((⟨#[32]⟩ : ByteArray).toList == [32]) = true := by rw [strd (b := ⟨#[32]⟩) rfl]; exact decide_eq_true rfl
    clear hb8 hTU hk7 q0 rU wU hpU HU HF HC
    go_wp2
    rename_i K0 hK0
    refine wp_region_noPanic (wp_region_held (S := fun W' : World => W'.heap[w8.heap.size]? = some (nbx U) ∧ W'.heap[w2.heap.size]? = some (nbx T) ∧ True) (by kernel_rfl) ?_)
    show wpAnyH _ _ _ _ _ _ _ _ (w8.alloc (nbx U)).drew
    generalize (w8.alloc (nbx U)).drew = w9 at hk8 ⊢
    have hS0 : w9.heap[w8.heap.size]? = some (nbx U) ∧ w9.heap[w2.heap.size]? = some (nbx T) ∧ True := ⟨hk8.has (w8.heap.size, nbx U) (by simp), hk8.has (w2.heap.size, nbx T) (by simp), trivial⟩
    refine wpAnyH_take_d (i := 0) (v := .nilIface) 41 rfl rfl (by kernel_rfl) (by kernel_rfl) (by kernel_rfl) (fun _ _ _ h => h) (Or.inl ⟨by kernel_rfl, fun w' hS' => ?y0⟩) hS0 ?_
    case y0 => (skip; clear hS'; go_simp)
    simp only [Act.put, List.setIfInBounds_toArray, List.set_cons_zero, List.set_cons_succ]
    refine wpAnyH_take_d (i := 1) (v := .bool true) 42 rfl rfl (by kernel_rfl) (by kernel_rfl) (by kernel_rfl) (fun _ _ _ h => h) (Or.inl ⟨by kernel_rfl, fun w' hS' => ?y1⟩) hS0 ?_
    case y1 => (skip; clear hS'; go_simp)
    simp only [Act.put, List.setIfInBounds_toArray, List.set_cons_zero, List.set_cons_succ]
    refine wpAnyH_take_d (i := 2) (v := .bool true) 43 rfl rfl (by kernel_rfl) (by kernel_rfl) (by kernel_rfl) (fun _ _ _ h => h) (Or.inl ⟨by kernel_rfl, fun w' hS' => ?y2⟩) hS0 ?_
    case y2 => (skip; clear hS'; go_simp)
    simp only [Act.put, List.setIfInBounds_toArray, List.set_cons_zero, List.set_cons_succ]
    refine wpAnyH_take_d (i := 3) (v := .string ⟨#[32]⟩) 44 rfl rfl (by kernel_rfl) (by kernel_rfl) (by kernel_rfl) (fun _ _ _ h => h) (Or.inl ⟨by kernel_rfl, fun w' hS' => ?y3⟩) hS0 ?_
    case y3 => (skip; clear hS'; go_simp)
    simp only [Act.put, List.setIfInBounds_toArray, List.set_cons_zero, List.set_cons_succ]
    refine wpAnyH_take_d (i := 4) (v := .bool true) 45 rfl rfl (by kernel_rfl) (by kernel_rfl) (by kernel_rfl) (fun _ _ _ h => h) (Or.inl ⟨by kernel_rfl, fun w' hS' => ?y4⟩) hS0 ?_
    case y4 => (skip; clear hS'; go_simp)
    simp only [Act.put, List.setIfInBounds_toArray, List.set_cons_zero, List.set_cons_succ]
    refine wpAnyH_take_d (i := 5) (v := .bool true) 46 rfl rfl (by kernel_rfl) (by kernel_rfl) (by kernel_rfl) (fun _ _ _ h => h) (Or.inl ⟨by kernel_rfl, fun w' hS' => ?y5⟩) hS0 ?_
    case y5 => (skip; clear hS'; go_simp)
    simp only [Act.put, List.setIfInBounds_toArray, List.set_cons_zero, List.set_cons_succ]
    refine wpAnyH_take_d (i := 6) (v := .bool true) 47 rfl rfl (by kernel_rfl) (by kernel_rfl) (by kernel_rfl) (fun _ _ _ h => h) (Or.inl ⟨by kernel_rfl, fun w' hS' => ?y6⟩) hS0 ?_
    case y6 => (skip; clear hS'; go_simp)
    simp only [Act.put, List.setIfInBounds_toArray, List.set_cons_zero, List.set_cons_succ]
    refine wpAnyH_take_d (i := 7) (v := nv U) 48 rfl rfl (by kernel_rfl) (by kernel_rfl) (by kernel_rfl) (fun _ _ _ h => h) (Or.inl ⟨by kernel_rfl, fun w' hS' => ?y7⟩) hS0 ?_
    case y7 => (obtain ⟨s0, s1, s2, s3, s4⟩ := heap5 (hS'.1); clear hS'; go_simp)
    simp only [Act.put, List.setIfInBounds_toArray, List.set_cons_zero, List.set_cons_succ]
    refine wpAnyH_take_d (i := 9) (v := nv T) 50 rfl rfl (by kernel_rfl) (by kernel_rfl) (by kernel_rfl) (fun _ _ _ h => h) (Or.inl ⟨by kernel_rfl, fun w' hS' => ?y9⟩) hS0 ?_
    case y9 => (obtain ⟨s0, s1, s2, s3, s4⟩ := heap5 (hS'.2.1); clear hS'; go_simp)
    simp only [Act.put, List.setIfInBounds_toArray, List.set_cons_zero, List.set_cons_succ]
    refine wpAnyH_ready (rs := [8]) (by kernel_rfl) (by simp) ?_
    refine AllReadyH.cons rfl (fun K hK => ?_) AllReadyH.nil
    go_simp
    refine (CSU.out _ (hk8.tree (T := U) (by simp))).mono ?_
    rintro e w10 ⟨P, rfl, hpP, hTP, hbP⟩
    have hk10 := hk8.call hbP hTP
    have hS8 : w10.heap[w8.heap.size]? = some (nbx U) ∧ w10.heap[w2.heap.size]? = some (nbx T) ∧ True := ⟨hk10.has (w8.heap.size, nbx U) (by simp), hk10.has (w2.heap.size, nbx T) (by simp), trivial⟩
    clear hbP hTP hk8
    refine hK.out _ _ hS8 (fun _ => ?_)
    clear hK K
    try simp only [Act.put, List.setIfInBounds_toArray, List.set_cons_zero, List.set_cons_succ]
    refine wpAnyH_ready (rs := [10]) (by kernel_rfl) (by simp) ?_
    refine AllReadyH.cons rfl (fun K hK => ?_) AllReadyH.nil
    go_simp
    refine (CSX.out _ (hk10.tree (T := T) (by simp))).mono ?_
    rintro e w11 ⟨Q, rfl, hpQ, hTQ, hbQ⟩
    have hk11 := hk10.call hbQ hTQ
    have hS10 : w11.heap[w8.heap.size]? = some (nbx U) ∧ w11.heap[w2.heap.size]? = some (nbx T) ∧ True := ⟨hk11.has (w8.heap.size, nbx U) (by simp), hk11.has (w2.heap.size, nbx T) (by simp), trivial⟩
    clear hbQ hTQ hk10
    refine hK.out _ _ hS10 (fun _ => ?_)
    clear hK K
    try simp only [Act.put, List.setIfInBounds_toArray, List.set_cons_zero, List.set_cons_succ]
    refine wpAnyH_ready (rs := [11]) (by kernel_rfl) (by simp) ?_
    refine AllReadyH.cons rfl (fun K hK => ?_) AllReadyH.nil
    go_simp
    refine (CSM.out P Q _ hpP hpQ (hk11.tree (T := P) (by simp)) (hk11.tree (T := Q) (by simp))).mono ?_
    rintro e w12 ⟨rfl, hb⟩
    have hk12 := hk11.step hb
    have hS11 : w12.heap[w8.heap.size]? = some (nbx U) ∧ w12.heap[w2.heap.size]? = some (nbx T) ∧ True := ⟨hk12.has (w8.heap.size, nbx U) (by simp), hk12.has (w2.heap.size, nbx T) (by simp), trivial⟩
    clear hb hk11
    refine hK.out _ _ hS11 (fun _ => ?_)
    clear hK K
    try simp only [Act.put, List.setIfInBounds_toArray, List.set_cons_zero, List.set_cons_succ]
    refine wpAnyH_take_d (i := 12) (v := .bool true) 53 rfl rfl (by kernel_rfl) (by kernel_rfl) (by kernel_rfl) (fun _ _ _ h => h) (Or.inl ⟨by kernel_rfl, fun w' hS' => ?y12⟩) hS11 ?_
    case y12 => (skip; clear hS'; go_simp)
    simp only [Act.put, List.setIfInBounds_toArray, List.set_cons_zero, List.set_cons_succ]
    refine wpAnyH_take_d (i := 13) (v := .bool true) 2 rfl rfl (by kernel_rfl) (by kernel_rfl) (by kernel_rfl) (fun _ _ _ h => h) (Or.inl ⟨by kernel_rfl, fun w' hS' => ?y13⟩) hS11 ?_
    case y13 => (skip; clear hS'; go_simp)
    simp only [Act.put, List.setIfInBounds_toArray, List.set_cons_zero, List.set_cons_succ]
    refine wpAnyH_done (by kernel_rfl) ?_ _
    refine hK0 _ _ ?_
    go_wp2
    refine ⟨by simp, .inl ⟨_, _, rfl, run_takeDeferred (hk12.has (D, .deferred (some [])) (by simp)), ?_⟩⟩
    have r3 : Below w.heap.size w (w12.putObj D (.deferred none)) := ((Low.frames w.heap.size w).off (X := (· = D)) ⟨hk12.low, hk12.size, fun k hk => by subst hk; have := HWW.out; omega⟩ (Off.putObj (X := (· = D)) rfl _ _)).1
    exact ⟨.bool true, by simp [results, Tryz.results4, go_sem], rfl, r3⟩

theorem exprBlanks_walk (s : ByteArray) (w : World) (hL : LaidX w) : Calls Tryz.prog 4 #[.string s] w fun e w' => e = .returned (.bool true) ∧ Below w.heap.size w w' := by
  by_cases h : 1500 < s.size ∨ rok s = false
  · exact blanks_early s w hL h
  · simp only [not_or, Bool.not_eq_false] at h
    exact callsIn_wide.1 (blanks_in s (by omega) h.2 w hL)
end Go.Proofs.YthggchkpejhaiaaGreatDoor
