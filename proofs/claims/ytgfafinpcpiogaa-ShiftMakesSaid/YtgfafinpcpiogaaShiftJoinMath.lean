/- Plain facts on two lists of edits, one behind the other. Nothing of any program. -/
import Derived.Test.YtgfafinpcpiogaaShiftKeptMath
namespace Go.Proofs.Ytgfafinpcpiogaa.ShiftMath
open EditMath

/-- a byte: whence it came (below 0: it is new), and it itself -/
abbrev By := Int × UInt8
def byt (p : Pc) : List By := (bs p).zip (tbs p)
def bysOf (L : List Pc) : List By := L.flatMap byt
theorem byt_length (p : Pc) : (byt p).length = (bs p).length := by unfold byt; rw [List.length_zip, bs_length]; omega
theorem bysOf_append (L M : List Pc) : bysOf (L ++ M) = bysOf L ++ bysOf M := by simp [bysOf]
theorem bysOf_zip (L : List Pc) : bysOf L = (srcOf L).zip (textOf L) := by
  induction L with
  | nil => rfl
  | cons p L ih =>
    have e1 : bysOf (p :: L) = byt p ++ bysOf L := by simp [bysOf]
    have e2 : textOf (p :: L) = tbs p ++ textOf L := by simp [textOf]
    rw [e1, srcOf_cons, e2, ih, byt, List.zip_append (bs_length p)]
theorem bysOf_length (L : List Pc) : (bysOf L).length = (srcOf L).length := by rw [bysOf_zip, List.length_zip, src_text]; omega
theorem bysOf_get {L : List Pc} {i : Nat} {x : Int} {c : UInt8} (hx : (srcOf L)[i]? = some x) (hc : (textOf L)[i]? = some c) : (bysOf L)[i]? = some (x, c) := by
  rw [bysOf_zip, List.getElem?_zip_eq_some]; exact ⟨hx, hc⟩

structure JS where
  out : List Ed
  at_ : Int
  tx : List UInt8

def jput (st : JS) (to : Int) : List Ed := if st.at_ < to ∨ st.tx ≠ [] then st.out ++ [⟨st.at_, to, ⟨st.tx.toArray⟩⟩] else st.out
def jstep (st : JS) (b : By) : JS := if b.1 < 0 then ⟨st.out, st.at_, st.tx ++ [b.2]⟩ else ⟨jput st b.1, b.1 + 1, []⟩
def jst (B : List By) : JS := B.foldl jstep ⟨[], 0, []⟩
def joinB (B : List By) (size : Int) : List Ed := jput (jst B) size
theorem jst_snoc (B : List By) (b : By) : jst (B ++ [b]) = jstep (jst B) b := by unfold jst; rw [List.foldl_append]; rfl

def pstep (st : JS) (p : Pc) : JS := if went p = true then ⟨jput st p.f, p.t, []⟩ else ⟨st.out, st.at_, st.tx ++ p.s.data.toList⟩

theorem fold_new (cs : List UInt8) : ∀ st : JS, ((List.replicate cs.length (-1 : Int)).zip cs).foldl jstep st = ⟨st.out, st.at_, st.tx ++ cs⟩ := by
  induction cs with
  | nil => intro st; simp
  | cons c cs ih =>
    intro st
    simp only [List.length_cons, List.replicate_succ, List.zip_cons_cons, List.foldl_cons]
    rw [ih]
    simp [jstep]

theorem fold_old : ∀ (n : Nat) (a : Int) (out : List Ed), 0 ≤ a → ((rangeI a (a + n)).zip (List.replicate n (46 : UInt8))).foldl jstep ⟨out, a, []⟩ = ⟨out, a + n, []⟩ := by
  intro n
  induction n with
  | zero => intro a out h; simp [rangeI_self]
  | succ n ih =>
    intro a out h
    have e : rangeI a (a + (n + 1 : Nat)) = a :: rangeI (a + 1) (a + 1 + n) := by
      unfold rangeI
      rw [show (a + (n + 1 : Nat) - a).toNat = n + 1 by omega, show (a + 1 + (n : Int) - (a + 1)).toNat = n by omega, List.range_succ_eq_map]
      simp only [List.map_cons, List.map_map]
      congr 1
      · omega
      · refine List.map_congr_left fun i _ => ?_
        simp only [Function.comp]
        omega
    rw [e, List.replicate_succ, List.zip_cons_cons, List.foldl_cons]
    have : jstep ⟨out, a, []⟩ (a, 46) = ⟨out, a + 1, []⟩ := by
      unfold jstep
      rw [if_neg (by simp; omega)]
      simp [jput]
    rw [this, ih (a + 1) out (by omega)]
    simp only [JS.mk.injEq, true_and, and_true]
    omega

theorem pstep_eq {p : Pc} (h : Wf p) (st : JS) : pstep st p = (byt p).foldl jstep st := by
  unfold pstep byt
  cases hw : went p with
  | false =>
    simp only [bs, tbs, hw, Bool.false_eq_true, if_false]
    have := fold_new p.s.data.toList st
    rw [show p.s.data.toList.length = p.s.size from rfl] at this
    rw [this]
  | true =>
    simp only [bs, tbs, hw, if_true]
    obtain ⟨h0, h1⟩ := h.1 hw
    obtain ⟨n, hn⟩ : ∃ n : Nat, p.t = p.f + 1 + n := ⟨(p.t - (p.f + 1)).toNat, by omega⟩
    have e : rangeI p.f p.t = p.f :: rangeI (p.f + 1) p.t := by
      unfold rangeI
      rw [show (p.t - p.f).toNat = n + 1 by omega, show (p.t - (p.f + 1)).toNat = n by omega, List.range_succ_eq_map]
      simp only [List.map_cons, List.map_map]
      congr 1
      · omega
      · refine List.map_congr_left fun i _ => ?_
        simp only [Function.comp]
        omega
    rw [e, show (p.t - p.f).toNat = n + 1 by omega, List.replicate_succ, List.zip_cons_cons, List.foldl_cons]
    have e2 : jstep st (p.f, 46) = ⟨jput st p.f, p.f + 1, []⟩ := by unfold jstep; rw [if_neg (by simp; omega)]
    rw [e2, hn, fold_old n (p.f + 1) _ (by omega)]

theorem pfold_eq : ∀ (L : List Pc), (∀ p ∈ L, Wf p) → ∀ st, L.foldl pstep st = (bysOf L).foldl jstep st := by
  intro L
  induction L with
  | nil => intro _ st; rfl
  | cons p L ih =>
    intro h st
    rw [List.foldl_cons, ih (fun q hq => h q (List.mem_cons_of_mem _ hq)), pstep_eq (h p (List.mem_cons_self ..))]
    simp [bysOf, List.foldl_append]

/-! What stands between two places. -/
def slice {α : Type} (f t : Int) (l : List α) : List α := (l.take t.toNat).drop f.toNat
theorem slice_append {α : Type} {f t : Int} (_h : f ≤ t) (xs ys : List α) : slice f t (xs ++ ys) = slice f t xs ++ slice (f - xs.length) (t - xs.length) ys := by
  unfold slice
  rw [List.take_append, List.drop_append]
  congr 1
  rw [List.length_take]
  by_cases h1 : t ≤ xs.length
  · rw [show t.toNat - xs.length = 0 by omega, show (t - (xs.length : Int)).toNat = 0 by omega]
    simp
  · rw [show (t - (xs.length : Int)).toNat = t.toNat - xs.length by omega, show (f - (xs.length : Int)).toNat = f.toNat - min t.toNat xs.length by omega]
theorem slice_none {α : Type} {f t : Int} {l : List α} (h : t ≤ 0 ∨ (l.length : Int) ≤ f) : slice f t l = [] := by
  unfold slice
  rcases h with h | h
  · rw [show t.toNat = 0 by omega]; simp
  · rw [List.drop_eq_nil_of_le]; rw [List.length_take]; omega

def pend (p : Pc) : Int := p.a + (bs p).length
def cutP (f t : Int) (p : Pc) : Pc :=
  if went p = true then ⟨p.a + (max f p.a - p.a), p.f + (max f p.a - p.a), p.f + (min t (pend p) - p.a), bnil⟩
  else ⟨p.a + (max f p.a - p.a), 0, 0, p.s.extract (max f p.a - p.a).toNat (min t (pend p) - p.a).toNat⟩

theorem slice_get {α : Type} {f t : Int} {l : List α} {i : Nat} : (slice f t l)[i]? = if f.toNat + i < t.toNat then l[f.toNat + i]? else none := by
  unfold slice; rw [List.getElem?_drop, List.getElem?_take]
theorem slice_range {f t a b : Int} (h0 : 0 ≤ f) (h1 : f ≤ t) (h2 : t ≤ b - a) : slice f t (rangeI a b) = rangeI (a + f) (a + t) := by
  apply List.ext_getElem?
  intro i
  rw [slice_get]
  by_cases h : f.toNat + i < t.toNat
  · rw [if_pos h, rangeI_get (by omega), rangeI_get (by omega)]
    congr 1
    omega
  · rw [if_neg h, List.getElem?_eq_none (by rw [rangeI_length]; omega)]
theorem slice_replicate {α : Type} {f t : Int} {n : Nat} {c : α} (h0 : 0 ≤ f) (h1 : f ≤ t) (h2 : t ≤ n) : slice f t (List.replicate n c) = List.replicate (t - f).toNat c := by
  unfold slice
  rw [List.take_replicate, List.drop_replicate]
  congr 1
  omega
theorem slice_zip {α β : Type} {f t : Int} (xs : List α) (ys : List β) : slice f t (xs.zip ys) = (slice f t xs).zip (slice f t ys) := by
  unfold slice
  simp only [List.zip, List.take_zipWith, List.drop_zipWith]
theorem slice_same {α : Type} {f t f' t' : Int} {l : List α} (hf : f.toNat = f'.toNat) (ht : min t.toNat l.length = min t'.toNat l.length) : slice f t l = slice f' t' l := by
  have h : l.take t.toNat = l.take t'.toNat := by
    rw [← List.take_eq_take_iff] at ht
    exact ht
  unfold slice
  rw [h, hf]

theorem extract_list (s : ByteArray) (a b : Nat) : (s.extract a b).data.toList = (s.data.toList.drop a).take (b - a) := by
  rw [ByteArray.data_extract, Array.toList_extract]

theorem cut_bys {f t : Int} {p : Pc} (hW : Wf p) (hft : f < t) (h1 : p.a < t) (h2 : f < pend p) (h3 : 0 < (bs p).length) : slice (f - p.a) (t - p.a) (byt p) = byt (cutP f t p) ∧ Wf (cutP f t p) := by
  unfold pend at h2
  obtain ⟨u, hu⟩ : ∃ u, max f p.a - p.a = u := ⟨_, rfl⟩
  obtain ⟨v, hv⟩ : ∃ v, min t (p.a + (bs p).length) - p.a = v := ⟨_, rfl⟩
  have u0 : 0 ≤ u := by omega
  have uv : u < v := by omega
  have vl : v ≤ (bs p).length := by omega
  have hs : slice (f - p.a) (t - p.a) (byt p) = slice u v (byt p) := slice_same (by omega) (by rw [byt_length]; omega)
  rw [hs, byt, slice_zip]
  unfold cutP
  rw [show pend p = p.a + (bs p).length from rfl, hu, hv]
  cases hw : went p with
  | true =>
    have w1 : ∀ a b c : Int, went ⟨a, b, c, bnil⟩ = true := fun _ _ _ => rfl
    have hb : bs p = rangeI p.f p.t := by simp [bs, hw]
    have ht : tbs p = List.replicate (p.t - p.f).toNat 46 := by simp [tbs, hw]
    obtain ⟨w2, w3⟩ := hW.1 hw
    rw [hb, rangeI_length] at vl
    simp only [if_true]
    refine ⟨?_, fun _ => ⟨by simp only; omega, by simp only; omega⟩, fun h => by cases h⟩
    rw [hb, ht, slice_range u0 (by omega) (by omega), slice_replicate u0 (by omega) (by omega)]
    simp only [byt, bs, tbs, w1, if_true]
    rw [show p.f + v - (p.f + u) = v - u by omega]
  | false =>
    have hb : bs p = List.replicate p.s.size (-1) := by simp [bs, hw]
    have ht : tbs p = p.s.data.toList := by simp [tbs, hw]
    rw [hb, List.length_replicate] at vl
    have hx := extract_list p.s u.toNat v.toNat
    have hsz : (p.s.extract u.toNat v.toNat).size = v.toNat - u.toNat := by rw [ByteArray.size_extract]; omega
    have hw2 : went ⟨p.a + u, 0, 0, p.s.extract u.toNat v.toNat⟩ = false := decide_eq_false (by rw [hsz]; omega)
    simp only [Bool.false_eq_true, if_false]
    refine ⟨?_, ⟨(fun h => by rw [hw2] at h; cases h), fun _ => ⟨rfl, rfl⟩⟩⟩
    rw [hb, ht, slice_replicate u0 (by omega) (by omega)]
    simp only [byt, bs, tbs, hw2, Bool.false_eq_true, if_false, hx, hsz]
    congr 1
    · congr 1; omega
    · unfold slice; rw [List.drop_take]

theorem mem_tw {q : Pc → Bool} : ∀ {l : List Pc} {p : Pc}, p ∈ l.takeWhile q → q p = true := by
  intro l
  induction l with
  | nil => intro p h; cases h
  | cons x l ih =>
    intro p h
    rw [List.takeWhile_cons] at h
    split at h
    · rcases List.mem_cons.1 h with rfl | h
      · assumption
      · exact ih h
    · cases h
theorem fm_congr {α β : Type} {f g : α → List β} : ∀ {l : List α}, (∀ x ∈ l, f x = g x) → l.flatMap f = l.flatMap g := by
  intro l
  induction l with
  | nil => intro _; rfl
  | cons x l ih => intro h; rw [List.flatMap_cons, List.flatMap_cons, h x (List.mem_cons_self ..), ih fun y hy => h y (List.mem_cons_of_mem _ hy)]

theorem Pos.asc : ∀ {P : List Pc} {off : Int}, Pos off P → P.Pairwise (fun p q => p.a ≤ q.a ∧ pend p ≤ q.a) ∧ ∀ p ∈ P, off ≤ p.a := by
  intro P
  induction P with
  | nil => intro off _; exact ⟨List.Pairwise.nil, fun p hp => by cases hp⟩
  | cons p P ih =>
    intro off h
    obtain ⟨h1, h2⟩ := h
    obtain ⟨i1, i2⟩ := ih h2
    refine ⟨List.pairwise_cons.2 ⟨fun q hq => ?_, i1⟩, fun q hq => ?_⟩
    · have := i2 q hq; unfold pend; omega
    · rcases List.mem_cons.1 hq with rfl | hq
      · omega
      · have := i2 q hq; omega

theorem slice_bys {f t : Int} (hft : f ≤ t) : ∀ (P : List Pc) (off : Int), Pos off P → slice (f - off) (t - off) (bysOf P) = P.flatMap (fun p => slice (f - p.a) (t - p.a) (byt p)) := by
  intro P
  induction P with
  | nil => intro off _; simp [bysOf, slice]
  | cons p P ih =>
    intro off h
    obtain ⟨h1, h2⟩ := h
    have e : bysOf (p :: P) = byt p ++ bysOf P := by simp [bysOf]
    rw [e, slice_append (by omega), List.flatMap_cons, h1, byt_length]
    congr 1
    rw [← ih _ h2]
    congr 1 <;> omega

/-- where the search for a place ends -/
def Found (P : List Pc) (f : Int) (n : Nat) : Prop := n ≤ P.length ∧ (∀ (j : Nat) (p : Pc), P[j]? = some p → j < n → pend p ≤ f) ∧ (∀ (j : Nat) (p : Pc), P[j]? = some p → n ≤ j → f < pend p)
def wth (f t : Int) (P : List Pc) (n : Nat) : List Pc := ((P.drop n).takeWhile (fun p => decide (p.a < t))).map (cutP f t)

theorem wth_bys {f t : Int} {P : List Pc} {n : Nat} (hft : f < t) (hP : Pos 0 P) (hW : ∀ p ∈ P, Wf p) (hL : ∀ p ∈ P, 0 < (bs p).length) (hn : Found P f n) :
    slice f t (bysOf P) = bysOf (wth f t P n) ∧ ∀ q ∈ wth f t P n, Wf q := by
  obtain ⟨hn0, hn1, hn2⟩ := hn
  have key := slice_bys (by omega : f ≤ t) P 0 hP
  rw [Int.sub_zero, Int.sub_zero] at key
  have hsplit : P = P.take n ++ ((P.drop n).takeWhile (fun p => decide (p.a < t)) ++ (P.drop n).dropWhile (fun p => decide (p.a < t))) := by rw [List.takeWhile_append_dropWhile, List.take_append_drop]
  have hin : ∀ p ∈ (P.drop n).takeWhile (fun p => decide (p.a < t)), p ∈ P ∧ f < pend p ∧ p.a < t := by
    intro p hp
    have hm := mem_tw hp
    have hd : p ∈ P.drop n := (List.takeWhile_sublist _).mem hp
    obtain ⟨j, hj⟩ := List.getElem?_of_mem hd
    rw [List.getElem?_drop] at hj
    exact ⟨List.mem_of_getElem? hj, hn2 _ p hj (by omega), by simpa using hm⟩
  constructor
  · rw [key]
    conv => lhs; rw [hsplit]
    rw [List.flatMap_append, List.flatMap_append]
    have e1 : (P.take n).flatMap (fun p => slice (f - p.a) (t - p.a) (byt p)) = [] := by
      rw [List.flatMap_eq_nil_iff]
      intro p hp
      obtain ⟨j, hj⟩ := List.getElem?_of_mem hp
      rw [List.getElem?_take] at hj
      split at hj
      · have := hn1 j p hj (by assumption)
        unfold pend at this
        exact slice_none (.inr (by rw [byt_length]; omega))
      · cases hj
    have e3 : ((P.drop n).dropWhile (fun p => decide (p.a < t))).flatMap (fun p => slice (f - p.a) (t - p.a) (byt p)) = [] := by
      rw [List.flatMap_eq_nil_iff]
      intro p hp
      have hge : t ≤ p.a := by
        have hpw : ((P.drop n).dropWhile (fun p => decide (p.a < t))).Pairwise (fun p q => p.a ≤ q.a ∧ pend p ≤ q.a) := List.Pairwise.sublist ((List.dropWhile_sublist _).trans (List.drop_sublist _ _)) hP.asc.1
        cases hD : (P.drop n).dropWhile (fun p => decide (p.a < t)) with
        | nil => rw [hD] at hp; cases hp
        | cons q D =>
          have hq : ¬ q.a < t := by
            have := List.head?_dropWhile_not (fun p : Pc => decide (p.a < t)) (P.drop n)
            rw [hD] at this
            simpa using this
          rw [hD] at hp hpw
          rcases List.mem_cons.1 hp with rfl | hp
          · omega
          · have := (List.pairwise_cons.1 hpw).1 p hp; omega
      exact slice_none (.inl (by omega))
    rw [e1, e3, List.nil_append, List.append_nil]
    unfold wth bysOf
    rw [List.flatMap_map]
    refine fm_congr fun p hp => ?_
    obtain ⟨m1, m2, m3⟩ := hin p hp
    exact (cut_bys (hW p m1) hft m3 m2 (hL p m1)).1
  · intro q hq
    unfold wth at hq
    obtain ⟨p, hp, rfl⟩ := List.mem_map.1 hq
    obtain ⟨m1, m2, m3⟩ := hin p hp
    exact (cut_bys (hW p m1) hft m3 m2 (hL p m1)).2

def sn (P : List Pc) (f : Int) : Nat := P.findIdx (fun p => decide (f < pend p))
theorem found_sn {P : List Pc} (hP : Pos 0 P) (f : Int) : Found P f (sn P f) := by
  refine ⟨List.findIdx_le_length, fun j p hj hlt => ?_, fun j p hj hle => ?_⟩
  · have := List.not_of_lt_findIdx hlt
    have hjl := (List.getElem?_eq_some_iff.1 hj)
    obtain ⟨h1, rfl⟩ := hjl
    simpa using this
  · obtain ⟨h1, h2⟩ := List.getElem?_eq_some_iff.1 hj
    have hk : sn P f < P.length := by omega
    have hs : f < pend (P[sn P f]) := by
      have := List.findIdx_getElem (xs := P) (p := fun p => decide (f < pend p)) (w := hk)
      exact of_decide_eq_true this
    by_cases e : sn P f = j
    · subst e; rw [h2] at hs; exact hs
    · have := (List.pairwise_iff_getElem.1 hP.asc.1) (sn P f) j hk h1 (by omega)
      rw [h2] at this
      have : p.a ≤ pend p := by unfold pend; omega
      omega
theorem found_eq {P : List Pc} {f : Int} {n m : Nat} (h : Found P f n) (k : Found P f m) : n = m := by
  rcases Nat.lt_trichotomy n m with hl | hl | hl
  · obtain ⟨p, hp⟩ : ∃ p, P[n]? = some p := ⟨P[n]'(by have := k.1; omega), List.getElem?_eq_getElem _⟩
    have h1 := h.2.2 n p hp (Nat.le_refl _)
    have h2 := k.2.1 n p hp hl
    omega
  · exact hl
  · obtain ⟨p, hp⟩ : ∃ p, P[m]? = some p := ⟨P[m]'(by have := h.1; omega), List.getElem?_eq_getElem _⟩
    have h1 := k.2.2 m p hp (Nat.le_refl _)
    have h2 := h.2.1 m p hp hl
    omega

/-- the last of three texts, piece by piece -/
def bhd1 (P1 : List Pc) (p : Pc) : List Pc := if went p = true then wth p.f p.t P1 (sn P1 p.f) else [p]
def bhd (P1 P2 : List Pc) : List Pc := P2.flatMap (bhd1 P1)
def comb (B1 : List By) (b : By) : By := if b.1 < 0 then b else B1[b.1.toNat]?.getD (0, 0)

theorem AscTo.top {lo hi : Int} {L : List Pc} (h : AscTo lo L hi) (hw : ∀ p ∈ L, Wf p) : ∀ p ∈ L, went p = true → p.t ≤ hi := by
  induction L generalizing lo with
  | nil => intro p hp; cases hp
  | cons q L ih =>
    intro p hp hwp
    obtain ⟨h1, h2⟩ := h
    have hw' : ∀ r ∈ L, Wf r := fun r hr => hw r (List.mem_cons_of_mem _ hr)
    rcases List.mem_cons.1 hp with rfl | hp
    · rw [if_pos hwp] at h2; exact h2.le hw'
    · exact ih h2 hw' p hp hwp

theorem map_range {α : Type} {f t : Int} {l : List α} {d : α} (h0 : 0 ≤ f) (h1 : t ≤ l.length) : (rangeI f t).map (fun x => l[x.toNat]?.getD d) = slice f t l := by
  apply List.ext_getElem?
  intro i
  rw [slice_get, List.getElem?_map]
  by_cases h : f.toNat + i < t.toNat
  · rw [if_pos h, rangeI_get (by omega)]
    simp only [Option.map_some]
    rw [show (f + (i : Int)).toNat = f.toNat + i by omega, List.getElem?_eq_getElem (by omega)]
    rfl
  · rw [if_neg h, List.getElem?_eq_none (by rw [rangeI_length]; omega)]
    rfl

theorem pcs_len {l : List Ed} {size : Int} (h : rt l size = true) : ∀ p ∈ pcs l size, 0 < (bs p).length := by
  intro p hp
  have hW := (pcs_pos h).2.1 p hp
  cases hw : went p with
  | true =>
    have : bs p = rangeI p.f p.t := by simp [bs, hw]
    have h2 := hW.1 hw
    rw [this, rangeI_length]; omega
  | false =>
    have : bs p = List.replicate p.s.size (-1) := by simp [bs, hw]
    have h2 : ¬ p.s.size = 0 := of_decide_eq_false hw
    rw [this, List.length_replicate]; omega

theorem bhd_bys {a b : List Ed} {size : Int} (ha : rt a size = true) (hb : rt b (size + gr a) = true) :
    bysOf (bhd (pcs a size) (pcs b (size + gr a))) = (bysOf (pcs b (size + gr a))).map (comb (bysOf (pcs a size))) ∧ ∀ p ∈ bhd (pcs a size) (pcs b (size + gr a)), Wf p := by
  obtain ⟨p1, w1, l1⟩ := pcs_pos ha
  obtain ⟨p2, w2, l2⟩ := pcs_pos hb
  have top := (pcs_asc hb).top w2
  have len := pcs_len ha
  have hlen : ((bysOf (pcs a size)).length : Int) = size + gr a := by rw [bysOf_length]; exact l1
  generalize pcs a size = P1 at *
  generalize pcs b (size + gr a) = P2 at *
  have one : ∀ p ∈ P2, bysOf (bhd1 P1 p) = (byt p).map (comb (bysOf P1)) ∧ ∀ q ∈ bhd1 P1 p, Wf q := by
    intro p hp
    unfold bhd1
    cases hw : went p with
    | false =>
      simp only [Bool.false_eq_true, if_false]
      refine ⟨?_, fun q hq => by rw [List.mem_singleton.1 hq]; exact w2 p hp⟩
      have e : bysOf [p] = byt p := by simp [bysOf]
      rw [e]
      conv => lhs; rw [← List.map_id (byt p)]
      refine List.map_congr_left fun x hx => ?_
      have : x.1 = -1 := by
        have := (List.of_mem_zip hx).1
        simp only [bs, hw] at this
        exact List.eq_of_mem_replicate this
      rw [comb, if_pos (by omega)]; rfl
    | true =>
      simp only [if_true]
      obtain ⟨h0, h1⟩ := (w2 p hp).1 hw
      obtain ⟨k1, k2⟩ := wth_bys h1 p1 w1 len (found_sn p1 p.f)
      refine ⟨?_, k2⟩
      rw [← k1]
      have ht := top p hp hw
      rw [← map_range (d := (0, 0)) h0 (by omega)]
      have e : byt p = (rangeI p.f p.t).map (fun x => (x, (46 : UInt8))) := by
        simp only [byt, bs, tbs, hw, if_true]
        rw [← rangeI_length p.f p.t]
        induction rangeI p.f p.t with
        | nil => rfl
        | cons x xs ih => simp only [List.length_cons, List.replicate_succ, List.zip_cons_cons, List.map_cons, ih]
      rw [e, List.map_map]
      refine List.map_congr_left fun x hx => ?_
      have := (rangeI_mem.1 hx).1
      simp only [Function.comp, comb]
      rw [if_neg (by omega)]
  constructor
  · unfold bhd
    have h1 := fun p hp => (one p hp).1
    clear one w2 l2 p2 top hb
    induction P2 with
    | nil => rfl
    | cons p P2 ih =>
      rw [List.flatMap_cons, bysOf_append, h1 p (List.mem_cons_self ..)]
      have e : bysOf (p :: P2) = byt p ++ bysOf P2 := by simp [bysOf]
      rw [e, List.map_append]
      congr 1
      exact ih (fun q hq => h1 q (List.mem_cons_of_mem _ hq))
  · intro q hq
    obtain ⟨p, hp, hq⟩ := List.mem_flatMap.1 hq
    exact (one p hp).2 q hq

end Go.Proofs.Ytgfafinpcpiogaa.ShiftMath
