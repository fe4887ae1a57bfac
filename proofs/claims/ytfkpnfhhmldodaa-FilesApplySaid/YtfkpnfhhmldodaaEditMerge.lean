/- Plain facts on the plain list of a right one. Nothing of any program. -/
import Derived.Test.YtfkpnfhhmldodaaEditInv
import Derived.Lib.SmallJoins
namespace Go.Proofs.Ytfkpnfhhmldodaa.EditMath

def joinE (a b : Ed) : Ed := ⟨a.f, b.t, a.s ++ b.s⟩
def keepE (e : Ed) : List Ed := if idl e = true then [] else [e]
/-- the plain list, the edit in hand ahead of the others -/
def mgo : Ed → List Ed → List Ed
  | cur, [] => keepE cur
  | cur, b :: l => if cur.t = b.f then mgo (joinE cur b) l else keepE cur ++ mgo b l
def mg : List Ed → List Ed
  | [] => []
  | e :: l => mgo e l

def jn (e : Ed) (l : List Ed) : Ed := l.foldl joinE e
/-- the one edit of those from number a up to number z -/
def segE (l : List Ed) (a z : Nat) : Ed := match l[a]? with | some e => jn e ((l.drop (a + 1)).take (z - (a + 1))) | none => ⟨0, 0, ⟨#[]⟩⟩

theorem seg_one {l : List Ed} {a : Nat} {e : Ed} (h : l[a]? = some e) : segE l a (a + 1) = e := by
  unfold segE; rw [h]; simp [jn]

theorem seg_next {l : List Ed} {a z : Nat} {b : Ed} (haz : a < z) (hb : l[z]? = some b) : segE l a (z + 1) = joinE (segE l a z) b := by
  have hz := (List.getElem?_eq_some_iff.1 hb).1
  have ha : l[a]? = some l[a] := List.getElem?_eq_getElem (by omega)
  unfold segE
  rw [ha]
  simp only
  have : (l.drop (a + 1)).take (z + 1 - (a + 1)) = (l.drop (a + 1)).take (z - (a + 1)) ++ [b] := by
    rw [show z + 1 - (a + 1) = (z - (a + 1)) + 1 from by omega, List.take_add_one, List.getElem?_drop, show a + 1 + (z - (a + 1)) = z from by omega, hb]
    rfl
  rw [this]
  unfold jn
  rw [List.foldl_append]
  rfl

theorem seg_t {l : List Ed} {a z : Nat} {d : Ed} (haz : a ≤ z) (hd : l[z]? = some d) : (segE l a (z + 1)).t = d.t := by
  by_cases h : a = z
  · subst h; rw [seg_one hd]
  · rw [seg_next (by omega) hd]; rfl

theorem jn_f (l : List Ed) : ∀ e, (jn e l).f = e.f := by
  induction l with
  | nil => intro e; rfl
  | cons b l ih => intro e; exact (ih (joinE e b)).trans rfl

theorem seg_f {l : List Ed} {a z : Nat} {e : Ed} (h : l[a]? = some e) : (segE l a z).f = e.f := by
  unfold segE; rw [h]; exact jn_f _ _

/-- the bytes that edits bring, one behind the other -/
def txs (l : List Ed) : List UInt8 := l.flatMap fun e => e.s.data.toList

theorem txs_append (a b : List Ed) : txs (a ++ b) = txs a ++ txs b := by unfold txs; simp
theorem txs_length (l : List Ed) : ((txs l).length : Int) = tx l := by
  induction l with
  | nil => rfl
  | cons e l ih =>
    have h : txs (e :: l) = e.s.data.toList ++ txs l := by simp [txs]
    have hsz : e.s.data.toList.length = e.s.size := rfl
    rw [h, List.length_append, hsz]
    simp only [tx, ← ih]
    omega

theorem joined_bytes (a b : ByteArray) : (a ++ b).data.toList = a.data.toList ++ b.data.toList := Go.Joins.data_append a b

theorem jn_s (l : List Ed) : ∀ e, (jn e l).s.data.toList = e.s.data.toList ++ txs l := by
  induction l with
  | nil => intro e; simp [jn, txs]
  | cons b l ih =>
    intro e
    have : jn e (b :: l) = jn (joinE e b) l := rfl
    rw [this, ih]
    simp [joinE, txs]

theorem bytes_of {a : ByteArray} {l : List UInt8} (h : a.data.toList = l) : a = ⟨l.toArray⟩ := by
  obtain ⟨⟨a⟩⟩ := a
  simp at h
  rw [h]

/-- the one edit of those from a up to z, part by part -/
theorem seg_eq {l : List Ed} {a z : Nat} {e d : Ed} (h : l[a]? = some e) (haz : a ≤ z) (hd : l[z]? = some d) : segE l a (z + 1) = ⟨e.f, d.t, ⟨(txs ((l.drop a).take (z + 1 - a))).toArray⟩⟩ := by
  have h1 := seg_f (z := z + 1) h
  have h2 := seg_t haz hd
  have h3 : (segE l a (z + 1)).s = ⟨(txs ((l.drop a).take (z + 1 - a))).toArray⟩ := by
    apply bytes_of
    unfold segE
    rw [h]
    simp only
    rw [jn_s]
    have hl := (List.getElem?_eq_some_iff.1 h).1
    rw [List.drop_eq_getElem_cons hl, (List.getElem?_eq_some_iff.1 h).2, show z + 1 - a = (z + 1 - (a + 1)) + 1 from by omega, List.take_succ_cons]
    simp [txs]
  cases hs : segE l a (z + 1) with
  | mk f t s => rw [hs] at h1 h2 h3; simp only at h1 h2 h3; rw [h1, h2, h3]

theorem mg_drop {l : List Ed} {a : Nat} {e : Ed} (h : l[a]? = some e) : mg (l.drop a) = mgo e (l.drop (a + 1)) := by
  have hl := (List.getElem?_eq_some_iff.1 h).1
  rw [List.drop_eq_getElem_cons hl, (List.getElem?_eq_some_iff.1 h).2]
  rfl

theorem mgo_touch {l : List Ed} {z : Nat} {cur b : Ed} (hb : l[z]? = some b) (h : cur.t = b.f) : mgo cur (l.drop z) = mgo (joinE cur b) (l.drop (z + 1)) := by
  have hl := (List.getElem?_eq_some_iff.1 hb).1
  rw [List.drop_eq_getElem_cons hl, (List.getElem?_eq_some_iff.1 hb).2]
  simp [mgo, h]

theorem mgo_apart {l : List Ed} {z : Nat} {cur b : Ed} (hb : l[z]? = some b) (h : cur.t ≠ b.f) : mgo cur (l.drop z) = keepE cur ++ mg (l.drop z) := by
  have hl := (List.getElem?_eq_some_iff.1 hb).1
  rw [List.drop_eq_getElem_cons hl, (List.getElem?_eq_some_iff.1 hb).2]
  simp [mgo, mg, h]

theorem mgo_end (l : List Ed) (cur : Ed) : mgo cur (l.drop l.length) = keepE cur ++ mg (l.drop l.length) := by
  simp [mgo, mg]

/-- each one behind the other with a byte between, none idle -/
def good (lo size : Int) : List Ed → Prop
  | [] => True
  | e :: R => lo ≤ e.f ∧ e.f ≤ e.t ∧ e.t ≤ size ∧ idl e = false ∧ good (e.t + 1) size R

theorem good_less {lo lo' size : Int} (h : lo ≤ lo') : ∀ {R : List Ed}, good lo' size R → good lo size R
  | [], _ => trivial
  | _ :: _, ⟨a, b, c, d, e⟩ => ⟨Int.le_trans h a, b, c, d, e⟩

theorem mgo_good (size : Int) : ∀ (l : List Ed) (cur : Ed), rt l size = true → (∀ b, l[0]? = some b → cur.t ≤ b.f) → cur.f ≤ cur.t → cur.t ≤ size → good cur.f size (mgo cur l) := by
  intro l
  induction l with
  | nil =>
    intro cur _ _ h1 h2
    simp only [mgo, keepE]
    split
    · trivial
    · exact ⟨Int.le_refl _, h1, h2, Bool.eq_false_iff.2 ‹_›, trivial⟩
  | cons b l ih =>
    intro cur hr hf h1 h2
    obtain ⟨r0, r1, r2⟩ := rt_parts hr
    obtain ⟨b0, b1, b2⟩ := r1 0 b rfl
    have hb := hf b rfl
    have hn : ∀ y, l[0]? = some y → b.t ≤ y.f := by
      intro y hy
      match l, hy with
      | z :: l, hy => simp at hy; subst hy; exact (r2 0 b z rfl rfl).1
    simp only [mgo]
    split
    · exact ih (joinE cur b) (rt_tail hr) hn (by simp only [joinE]; omega) (by simp only [joinE]; omega)
    · have hg := ih b (rt_tail hr) hn b1 b2
      unfold keepE
      split
      · exact good_less (by omega) hg
      · exact ⟨Int.le_refl _, h1, h2, Bool.eq_false_iff.2 ‹_›, good_less (by omega) hg⟩

theorem good_plain {size : Int} (h0 : 0 ≤ size) : ∀ {R : List Ed} {lo : Int}, 0 ≤ lo → good lo size R → pl R size = true ∧ (∀ e, R[0]? = some e → lo ≤ e.f) := by
  intro R
  induction R with
  | nil => intro lo _ _; exact ⟨by simp [pl, rt, each, h0], fun e h => by simp at h⟩
  | cons e R ih =>
    intro lo hlo ⟨a, b, c, d, g⟩
    obtain ⟨hp, hf⟩ := ih (by omega) g
    refine ⟨?_, fun x hx => by simp at hx; subst hx; exact a⟩
    simp only [pl, Bool.and_eq_true, Bool.not_eq_true'] at hp
    obtain ⟨p1, p2, p3⟩ := hp
    obtain ⟨q0, q1, q2⟩ := rt_parts p1
    simp only [pl, Bool.and_eq_true, Bool.not_eq_true']
    refine ⟨rt_mk h0 (fun i x hx => ?_) (fun i x y hx hy => ?_), ?_, each_mk fun i x y hx hy => ?_⟩
    · cases i with
      | zero => simp at hx; subst hx; omega
      | succ i => exact q1 i x (by simpa using hx)
    · cases i with
      | zero => simp at hx hy; subst hx; have := hf y (by simpa using hy); omega
      | succ i => exact q2 i x y (by simpa using hx) (by simpa using hy)
    · simp [d, p2]
    · cases i with
      | zero => simp at hx hy; subst hx; have := hf y (by simpa using hy); simp [tch]; omega
      | succ i => exact each_at p3 (i := i) (by simpa using hx) (by simpa using hy)

/-- the plain list of a right one is plain -/
theorem mg_plain {l : List Ed} {size : Int} (h : rt l size = true) : pl (mg l) size = true := by
  obtain ⟨h0, h1, h2⟩ := rt_parts h
  cases l with
  | nil => simp [mg, pl, rt, each, h0]
  | cons e l =>
    obtain ⟨e0, e1, e2⟩ := h1 0 e rfl
    exact (good_plain h0 e0 (mgo_good size l e (rt_tail h) (fun b hb => by
      match l, hb with
      | z :: l, hb => simp at hb; subst hb; exact (h2 0 e z rfl rfl).1) e1 e2)).1

theorem keepE_length (e : Ed) : (keepE e).length ≤ 1 := by unfold keepE; split <;> simp
theorem mgo_length : ∀ (l : List Ed) (cur : Ed), (mgo cur l).length ≤ l.length + 1 := by
  intro l
  induction l with
  | nil => intro cur; exact keepE_length cur
  | cons b l ih =>
    intro cur
    simp only [mgo]
    split
    · have := ih (joinE cur b); simp; omega
    · have h1 := ih b
      have h2 := keepE_length cur
      simp; omega
theorem mg_length (l : List Ed) : (mg l).length ≤ l.length := by
  cases l with
  | nil => simp [mg]
  | cons e l => simpa [mg] using mgo_length l e

/-- which edits change something -/
def chg (s : ByteArray) (e : Ed) : Bool := !((s.extract e.f.toNat e.t.toNat).toList == e.s.toList)
def wo (s : ByteArray) (l : List Ed) : List Ed := l.filter (chg s)

theorem wo_snoc {s : ByteArray} {l : List Ed} {k : Nat} {e : Ed} (h : l[k]? = some e) : wo s (l.take (k + 1)) = wo s (l.take k) ++ (if chg s e = true then [e] else []) := by
  rw [take_snoc h]; unfold wo; rw [List.filter_append]; congr 1
  by_cases hc : chg s e = true <;> simp [hc]

end Go.Proofs.Ytfkpnfhhmldodaa.EditMath
