/- Plain facts on the text behind edits, byte by byte. Nothing of any program. -/
import Derived.Test.YtgfafinpcpiogaaShiftRefMath
import Derived.Test.YtgfafinpcpiogaaEditText
namespace Go.Proofs.Ytgfafinpcpiogaa.ShiftMath
open EditMath

def dots (f t : Int) : List By := (rangeI f t).map fun x => (x, 46)
def news (s : ByteArray) : List By := s.data.toList.map fun c => (-1, c)
/-- the bytes from a place on, behind edits -/
def eb (size : Int) : Int → List Ed → List By
  | fr, [] => dots fr size
  | fr, e :: l => dots fr e.f ++ (news e.s ++ eb size e.t l)

theorem dots_none {f t : Int} (h : t ≤ f) : dots f t = [] := by
  unfold dots rangeI
  rw [show (t - f).toNat = 0 by omega]; rfl
theorem zip_dots (n : Nat) : ∀ (l : List Int), l.length = n → l.zip (List.replicate n (46 : UInt8)) = l.map fun x => (x, 46) := by
  induction n with
  | zero => intro l h; rw [List.length_eq_zero_iff.1 h]; rfl
  | succ n ih =>
    intro l h
    cases l with
    | nil => simp at h
    | cons x l => rw [List.replicate_succ, List.zip_cons_cons, ih l (by simpa using h)]; rfl
theorem zip_news (l : List UInt8) : (List.replicate l.length (-1 : Int)).zip l = l.map fun c => (-1, c) := by
  induction l with
  | nil => rfl
  | cons c l ih => rw [List.length_cons, List.replicate_succ, List.zip_cons_cons, ih]; rfl
theorem byt_went {a f t : Int} : byt ⟨a, f, t, bnil⟩ = dots f t := by
  have hw : went ⟨a, f, t, bnil⟩ = true := rfl
  unfold byt bs tbs
  rw [if_pos hw, if_pos hw]
  exact zip_dots _ _ (rangeI_length f t)
theorem byt_new {a f t : Int} {s : ByteArray} (h : s.size ≠ 0) : byt ⟨a, f, t, s⟩ = news s := by
  have hw : ¬ went ⟨a, f, t, s⟩ = true := by simp [went, h]
  unfold byt bs tbs
  rw [if_neg hw, if_neg hw]
  exact zip_news s.data.toList
theorem news_none {s : ByteArray} (h : s.size = 0) : news s = [] := by
  have : s.data.toList.length = 0 := h
  unfold news
  rw [List.length_eq_zero_iff.1 this]; rfl
theorem em_bys (fr sh : Int) (e : Ed) : bysOf (em fr sh e) = dots fr e.f ++ news e.s := by
  unfold em
  rw [bysOf_append]
  congr 1
  · split
    · simp [bysOf, byt_went]
    · rw [dots_none (by omega)]; rfl
  · split
    · rename_i h
      simp [bysOf, byt_new h]
    · rename_i h
      rw [news_none (by omega)]; rfl
theorem pcs_eb (l : List Ed) (size : Int) : bysOf (pcs l size) = eb size 0 l := by
  suffices h : ∀ (l : List Ed) (st : St), bysOf ((l.foldl stp st).out ++ tailP (l.foldl stp st) size) = bysOf st.out ++ eb size st.fr l by
    have := h l ⟨[], 0, 0⟩
    unfold pcs stOf
    rw [this]; rfl
  intro l
  induction l with
  | nil =>
    intro st
    rw [List.foldl_nil, bysOf_append]
    congr 1
    unfold tailP eb
    split
    · simp [bysOf, byt_went]
    · rw [dots_none (by omega)]; rfl
  | cons e l ih =>
    intro st
    rw [List.foldl_cons, ih]
    simp only [stp, eb]
    rw [bysOf_append, em_bys]
    simp [List.append_assoc]

/-- a byte, read in the text that it came from -/
def mat (s : List UInt8) (b : By) : UInt8 := if b.1 < 0 then b.2 else s[b.1.toNat]?.getD 0

theorem dots_mat {s : List UInt8} {f t : Int} (h0 : 0 ≤ f) (h1 : t ≤ s.length) : (dots f t).map (mat s) = (s.drop f.toNat).take (t.toNat - f.toNat) := by
  apply List.ext_getElem?
  intro i
  unfold dots
  rw [List.map_map, List.getElem?_map, List.getElem?_take]
  by_cases h : i < (t - f).toNat
  · rw [rangeI_get h, if_pos (by omega), List.getElem?_drop]
    have hlt : f.toNat + i < s.length := by omega
    simp only [Option.map_some, Function.comp, mat]
    rw [if_neg (by omega), show (f + (i : Int)).toNat = f.toNat + i by omega, List.getElem?_eq_getElem hlt]
    rfl
  · rw [if_neg (by omega), List.getElem?_eq_none (by rw [rangeI_length]; omega)]
    rfl
theorem news_mat (s : List UInt8) (t : ByteArray) : (news t).map (mat s) = t.data.toList := by
  unfold news
  rw [List.map_map]
  have : (mat s ∘ fun c => ((-1 : Int), c)) = id := by funext c; simp [mat]
  rw [this, List.map_id]

theorem eb_ap (s : List UInt8) (size : Int) (hs : size = s.length) : ∀ (l : List Ed) (fr : Int), rt l size = true → 0 ≤ fr → fr ≤ size → (∀ e, l[0]? = some e → fr ≤ e.f) → (eb size fr l).map (mat s) = ap s fr.toNat l := by
  intro l
  induction l with
  | nil =>
    intro fr _ h0 h1 _
    unfold eb ap
    rw [dots_mat h0 (by omega), List.take_of_length_le (by rw [List.length_drop]; omega)]
  | cons e l ih =>
    intro fr h h0 h1 hf
    obtain ⟨r0, r1, r2⟩ := rt_parts h
    obtain ⟨e0, e1, e2⟩ := r1 0 e rfl
    have hae := hf e rfl
    unfold eb ap
    rw [List.map_append, List.map_append, dots_mat h0 (by omega), news_mat, ih e.t (rt_tail h) (by omega) (by omega) (fun y hy => by
      match l, hy with
      | z :: l, hy => simp at hy; subst hy; exact (r2 0 e z rfl rfl).1)]

/-- the text behind edits, byte by byte -/
theorem ap_bys {s : List UInt8} {l : List Ed} (h : rt l (s.length : Int) = true) : ap s 0 l = (bysOf (pcs l s.length)).map (mat s) := by
  rw [pcs_eb, eb_ap s s.length rfl l 0 h (Int.le_refl _) (by omega) (fun e he => by have := ((rt_parts h).2.1 0 e he).1; exact this)]
  rfl

/-- bytes whose sources ascend from a place on, below a size -/
def Asc (size : Int) : Int → List By → Prop
  | lo, [] => lo ≤ size
  | lo, b :: C => (b.1 = -1 ∧ Asc size lo C) ∨ (lo ≤ b.1 ∧ b.2 = 46 ∧ Asc size (b.1 + 1) C)

def newl (t : List UInt8) : List By := t.map fun c => (-1, c)
theorem news_of (t : List UInt8) : news ⟨t.toArray⟩ = newl t := rfl
theorem dots_snoc {f t : Int} (h : f ≤ t) : dots f (t + 1) = dots f t ++ [(t, 46)] := by
  unfold dots
  rw [rangeI_snoc h, List.map_append]; rfl

theorem jput_pos {out : List Ed} {at_ to : Int} {tx : List UInt8} (h : at_ < to ∨ tx ≠ []) : jput ⟨out, at_, tx⟩ to = out ++ [⟨at_, to, ⟨tx.toArray⟩⟩] := if_pos h
theorem jput_neg {out : List Ed} {at_ to : Int} {tx : List UInt8} (h : ¬ (at_ < to ∨ tx ≠ [])) : jput ⟨out, at_, tx⟩ to = out := if_neg h

/-- the joined list makes just those bytes -/
theorem join_eb (size : Int) : ∀ (C : List By) (out : List Ed) (fr at_ : Int) (tx : List UInt8), 0 ≤ fr → fr ≤ at_ → Asc size at_ C →
    ∃ T, jput (C.foldl jstep ⟨out, at_, tx⟩) size = out ++ T ∧ eb size fr T = dots fr at_ ++ (newl tx ++ C) := by
  intro C
  induction C with
  | nil =>
    intro out fr at_ tx h0 h1 hA
    have hA' : at_ ≤ size := hA
    rw [List.foldl_nil]
    by_cases h : at_ < size ∨ tx ≠ []
    · exact ⟨[⟨at_, size, ⟨tx.toArray⟩⟩], jput_pos h, by simp only [eb]; rw [dots_none (Int.le_refl size), news_of]⟩
    · have e1 : at_ = size := by
        have : ¬ at_ < size := fun x => h (.inl x)
        omega
      have e2 : tx = [] := by
        by_cases x : tx = []
        · exact x
        · exact absurd (.inr x) h
      subst e1 e2
      exact ⟨[], by rw [jput_neg h]; simp, by simp [eb, newl]⟩
  | cons b C ih =>
    intro out fr at_ tx h0 h1 hA
    rw [List.foldl_cons]
    obtain ⟨k, ch⟩ := b
    rcases hA with ⟨hb, hA⟩ | ⟨hb, hc, hA⟩
    · simp only at hb
      subst hb
      obtain ⟨T, e1, e2⟩ := ih out fr at_ (tx ++ [ch]) h0 h1 hA
      refine ⟨T, ?_, ?_⟩
      · simp only [jstep]
        rw [if_pos (by decide)]
        exact e1
      · rw [e2]; simp [newl]
    · simp only at hb hc hA
      subst hc
      have hneg : ¬ k < 0 := by omega
      simp only [jstep]
      rw [if_neg hneg]
      by_cases hp : at_ < k ∨ tx ≠ []
      · obtain ⟨T, e1, e2⟩ := ih (out ++ [⟨at_, k, ⟨tx.toArray⟩⟩]) k (k + 1) [] (by omega) (by omega) hA
        refine ⟨⟨at_, k, ⟨tx.toArray⟩⟩ :: T, ?_, ?_⟩
        · rw [jput_pos hp, e1]; simp
        · simp only [eb]
          rw [e2, dots_snoc (Int.le_refl k), dots_none (Int.le_refl k), news_of]
          simp [newl]
      · have e1 : at_ = k := by
          have : ¬ at_ < k := fun x => hp (.inl x)
          omega
        have e2 : tx = [] := by
          by_cases x : tx = []
          · exact x
          · exact absurd (.inr x) hp
        subst e1 e2
        obtain ⟨T, e3, e4⟩ := ih out fr (at_ + 1) [] h0 (by omega) hA
        refine ⟨T, ?_, ?_⟩
        · have : jput ⟨out, at_, []⟩ at_ = out := jput_neg hp
          rw [this]; exact e3
        · rw [e4, dots_snoc h1]; simp [newl]

theorem joinB_eb {C : List By} {size : Int} (hA : Asc size 0 C) : eb size 0 (joinB C size) = C := by
  obtain ⟨T, e1, e2⟩ := join_eb size C [] 0 0 [] (Int.le_refl _) (Int.le_refl _) hA
  unfold joinB jst
  rw [e1, List.nil_append, e2, dots_none (Int.le_refl 0)]
  simp [newl]

theorem asc_le {size : Int} : ∀ {C : List By} {lo : Int}, Asc size lo C → lo ≤ size := by
  intro C
  induction C with
  | nil => intro lo h; exact h
  | cons b C ih =>
    intro lo h
    rcases h with ⟨_, h⟩ | ⟨h1, _, h⟩
    · exact ih h
    · have := ih h; omega

/-- edits that leave a byte between one another, none idle -/
def Pn (size : Int) : Int → List Ed → Prop
  | _, [] => True
  | lo, e :: l => lo ≤ e.f ∧ e.f ≤ e.t ∧ e.t ≤ size ∧ (e.f < e.t ∨ e.s.size ≠ 0) ∧ Pn size (e.t + 1) l
theorem Pn.less {size lo lo' : Int} {l : List Ed} (h : Pn size lo l) (hl : lo' ≤ lo) : Pn size lo' l := by
  cases l with
  | nil => trivial
  | cons e l => exact ⟨by have := h.1; omega, h.2⟩
theorem tx_size {tx : List UInt8} (h : tx ≠ []) : (⟨tx.toArray⟩ : ByteArray).size ≠ 0 := by
  intro e
  apply h
  have : tx.toArray.size = 0 := e
  rw [List.size_toArray] at this
  exact List.length_eq_zero_iff.1 this

theorem join_pn (size : Int) : ∀ (C : List By) (out : List Ed) (at_ : Int) (tx : List UInt8), 0 ≤ at_ → Asc size at_ C →
    ∃ T, jput (C.foldl jstep ⟨out, at_, tx⟩) size = out ++ T ∧ Pn size at_ T := by
  intro C
  induction C with
  | nil =>
    intro out at_ tx h0 hA
    have hA' : at_ ≤ size := hA
    rw [List.foldl_nil]
    by_cases h : at_ < size ∨ tx ≠ []
    · exact ⟨[⟨at_, size, ⟨tx.toArray⟩⟩], jput_pos h, Int.le_refl _, hA', Int.le_refl _, h.imp (fun x => x) tx_size, trivial⟩
    · exact ⟨[], by rw [jput_neg h]; simp, trivial⟩
  | cons b C ih =>
    intro out at_ tx h0 hA
    rw [List.foldl_cons]
    obtain ⟨k, ch⟩ := b
    rcases hA with ⟨hb, hA⟩ | ⟨hb, hc, hA⟩
    · simp only at hb
      subst hb
      obtain ⟨T, e1, e2⟩ := ih out at_ (tx ++ [ch]) h0 hA
      refine ⟨T, ?_, e2⟩
      simp only [jstep]
      rw [if_pos (by decide)]
      exact e1
    · simp only at hb hc hA
      have hneg : ¬ k < 0 := by omega
      have hk := asc_le hA
      simp only [jstep]
      rw [if_neg hneg]
      by_cases hp : at_ < k ∨ tx ≠ []
      · obtain ⟨T, e1, e2⟩ := ih (out ++ [⟨at_, k, ⟨tx.toArray⟩⟩]) (k + 1) [] (by omega) hA
        refine ⟨⟨at_, k, ⟨tx.toArray⟩⟩ :: T, ?_, Int.le_refl _, hb, by show k ≤ size; omega, hp.imp (fun x => x) tx_size, e2⟩
        rw [jput_pos hp, e1]; simp
      · obtain ⟨T, e3, e4⟩ := ih out (k + 1) [] (by omega) hA
        refine ⟨T, ?_, e4.less (by omega)⟩
        rw [jput_neg hp]; exact e3

theorem joinB_pn {C : List By} {size : Int} (hA : Asc size 0 C) : Pn size 0 (joinB C size) := by
  obtain ⟨T, e1, e2⟩ := join_pn size C [] 0 [] (Int.le_refl _) hA
  unfold joinB jst
  rw [e1, List.nil_append]; exact e2

theorem pn_pl {size : Int} : ∀ {l : List Ed} {lo : Int}, 0 ≤ lo → 0 ≤ size → Pn size lo l → rt l size = true ∧ pl l size = true := by
  intro l
  induction l with
  | nil => intro lo _ h0 _; simp [pl, rt, each, h0]
  | cons e l ih =>
    intro lo hlo h0 h
    obtain ⟨h1, h2, h3, h4, h5⟩ := h
    obtain ⟨i1, i2⟩ := ih (lo := e.t + 1) (by omega) h0 h5
    have hw : wi size e = true := wi_iff.2 ⟨by omega, h2, h3⟩
    have hi : idl e = false := by
      simp only [idl, Bool.and_eq_false_iff, decide_eq_false_iff_not]
      rcases h4 with h | h
      · left; omega
      · right; exact h
    cases l with
    | nil => simp [pl, rt, each, h0, hw, hi]
    | cons d l =>
      obtain ⟨g1, g2, _⟩ := h5
      have hn : nx e d = true := nx_iff.2 ⟨by omega, by omega⟩
      have ht : tch e d = false := by simp only [tch, decide_eq_false_iff_not]; omega
      simp only [pl, rt, each, Bool.and_eq_true] at i1 i2 ⊢
      simp only [List.all_cons, List.any_cons, Bool.and_eq_true, hw, hi, hn, ht, Bool.false_or, Bool.not_false] at i1 i2 ⊢
      simp_all

theorem joinB_pl {C : List By} {size : Int} (h0 : 0 ≤ size) (hA : Asc size 0 C) : rt (joinB C size) size = true ∧ pl (joinB C size) size = true := pn_pl (Int.le_refl 0) h0 (joinB_pn hA)

theorem Asc.less {size lo lo' : Int} {C : List By} (h : Asc size lo C) (hl : lo' ≤ lo) : Asc size lo' C := by
  induction C generalizing lo lo' with
  | nil => exact Int.le_trans hl h
  | cons b C ih =>
    rcases h with ⟨h1, h⟩ | ⟨h1, h2, h⟩
    · exact .inl ⟨h1, ih h hl⟩
    · exact .inr ⟨by omega, h2, h⟩
theorem asc_new {size lo : Int} {C : List By} (s : ByteArray) (h : Asc size lo C) : Asc size lo (news s ++ C) := by
  unfold news
  induction s.data.toList with
  | nil => exact h
  | cons c l ih => exact .inl ⟨rfl, ih⟩
theorem asc_dots {size : Int} {C : List By} : ∀ (n : Nat) (f t lo : Int), (t - f).toNat = n → f ≤ t → lo ≤ f → Asc size t C → Asc size lo (dots f t ++ C) := by
  intro n
  induction n with
  | zero =>
    intro f t lo hn h1 h2 h
    rw [dots_none (by omega)]
    exact h.less (by omega)
  | succ n ih =>
    intro f t lo hn h1 h2 h
    have e : dots f t = (f, 46) :: dots (f + 1) t := by
      unfold dots rangeI
      rw [show (t - f).toNat = n + 1 by omega, show (t - (f + 1)).toNat = n by omega, List.range_succ_eq_map]
      simp only [List.map_cons, List.map_map]
      congr 1
      · simp
      · apply List.map_congr_left
        intro i _
        simp only [Function.comp, Prod.mk.injEq, and_true]
        omega
    rw [e]
    exact .inr ⟨h2, rfl, ih (f + 1) t (f + 1) (by omega) (by omega) (Int.le_refl _) h⟩
theorem asc_eb (size : Int) : ∀ (l : List Ed) (fr : Int), rt l size = true → fr ≤ size → (∀ e, l[0]? = some e → fr ≤ e.f) → Asc size fr (eb size fr l) := by
  intro l
  induction l with
  | nil =>
    intro fr _ h1 _
    have := asc_dots (size := size) (C := []) _ fr size fr rfl h1 (Int.le_refl _) (Int.le_refl size)
    simpa [eb] using this
  | cons e l ih =>
    intro fr h h1 hf
    obtain ⟨r0, r1, r2⟩ := rt_parts h
    obtain ⟨e0, e1, e2⟩ := r1 0 e rfl
    have hae := hf e rfl
    unfold eb
    refine asc_dots _ fr e.f fr rfl hae (Int.le_refl _) (asc_new _ ((ih e.t (rt_tail h) (by omega) (fun y hy => ?_)).less e1))
    match l, hy with
    | z :: l, hy => simp at hy; subst hy; exact (r2 0 e z rfl rfl).1
theorem asc_drop {size : Int} : ∀ (n : Nat) {L : List By} {lo : Int}, Asc size lo L → ∃ lo1, lo ≤ lo1 ∧ Asc size lo1 (L.drop n) := by
  intro n
  induction n with
  | zero => intro L lo h; exact ⟨lo, Int.le_refl _, h⟩
  | succ n ih =>
    intro L lo h
    cases L with
    | nil => exact ⟨lo, Int.le_refl _, h⟩
    | cons b L =>
      rcases h with ⟨_, h⟩ | ⟨h1, _, h⟩
      · exact ih h
      · obtain ⟨lo1, h2, h3⟩ := ih h
        exact ⟨lo1, by omega, h3⟩
theorem asc_comb {size : Int} (B1 : List By) : ∀ (B2 : List By) (q : Nat) (lo : Int), Asc size lo (B1.drop q) → Asc B1.length q B2 → Asc size lo (B2.map (comb B1)) := by
  intro B2
  induction B2 with
  | nil => intro q lo h _; exact asc_le h
  | cons b B2 ih =>
    intro q lo h h2
    obtain ⟨k, ch⟩ := b
    rw [List.map_cons]
    rcases h2 with ⟨hb, h2⟩ | ⟨hb, hc, h2⟩
    · simp only at hb
      subst hb
      exact .inl ⟨by simp [comb], ih q lo h h2⟩
    · simp only at hb hc h2
      have hkl := asc_le h2
      obtain ⟨n, rfl⟩ : ∃ n : Nat, k = (n : Int) := ⟨k.toNat, by omega⟩
      have hlt : n < B1.length := by omega
      obtain ⟨lo1, g1, g2⟩ := asc_drop (n - q) h
      rw [List.drop_drop, show q + (n - q) = n by omega, List.drop_eq_getElem_cons hlt] at g2
      have hcomb : comb B1 ((n : Int), ch) = B1[n] := by
        simp only [comb]
        rw [if_neg (by omega), Int.toNat_natCast, List.getElem?_eq_getElem hlt]; rfl
      rw [hcomb]
      have h2' : Asc B1.length ((n + 1 : Nat) : Int) B2 := by rw [show ((n + 1 : Nat) : Int) = (n : Int) + 1 by omega]; exact h2
      rcases g2 with ⟨z, g2⟩ | ⟨z, zc, g2⟩
      · exact .inl ⟨z, (ih (n + 1) lo1 g2 h2').less g1⟩
      · exact .inr ⟨by omega, zc, ih (n + 1) _ g2 h2'⟩

theorem mat_comb {s : List UInt8} {B1 : List By} {b : By} (h : b.1 < B1.length) : mat s (comb B1 b) = mat (B1.map (mat s)) b := by
  by_cases hb : b.1 < 0
  · simp [comb, mat, hb]
  · have hlt : b.1.toNat < B1.length := by omega
    have e1 : comb B1 b = B1[b.1.toNat] := by
      simp only [comb]
      rw [if_neg hb, List.getElem?_eq_getElem hlt]; rfl
    have e2 : mat (B1.map (mat s)) b = mat s B1[b.1.toNat] := by
      conv => lhs; unfold mat
      rw [if_neg hb, List.getElem?_map, List.getElem?_eq_getElem hlt]; rfl
    rw [e1, e2]

theorem asc_top {size : Int} : ∀ {C : List By} {lo : Int}, Asc size lo C → 0 ≤ size → ∀ b ∈ C, b.1 < size := by
  intro C
  induction C with
  | nil => intro lo _ _ b hb; cases hb
  | cons c C ih =>
    intro lo h h0 b hb
    rcases h with ⟨h1, h⟩ | ⟨h1, _, h⟩
    · rcases List.mem_cons.1 hb with rfl | hb
      · omega
      · exact ih h h0 b hb
    · rcases List.mem_cons.1 hb with rfl | hb
      · have := asc_le h; omega
      · exact ih h h0 b hb

/-- one list does what the two do -/
theorem join_ap {s : List UInt8} {a b : List Ed} (ha : rt a (s.length : Int) = true) (hb : rt b ((s.length : Int) + gr a) = true) :
    rt (joinB ((bysOf (pcs b (s.length + gr a))).map (comb (bysOf (pcs a s.length)))) s.length) s.length = true ∧ pl (joinB ((bysOf (pcs b (s.length + gr a))).map (comb (bysOf (pcs a s.length)))) s.length) s.length = true ∧
    ap s 0 (joinB ((bysOf (pcs b (s.length + gr a))).map (comb (bysOf (pcs a s.length)))) s.length) = ap (ap s 0 a) 0 b := by
  have z0 := (rt_parts hb).1
  have first : ∀ {l : List Ed} {m : Int}, rt l m = true → ∀ e, l[0]? = some e → 0 ≤ e.f := fun h e he => ((rt_parts h).2.1 0 e he).1
  have lenA : ((bysOf (pcs a s.length)).length : Int) = s.length + gr a := by rw [bysOf_length]; exact (pcs_pos ha).2.2
  have A1 : Asc s.length 0 (bysOf (pcs a s.length)) := by rw [pcs_eb]; exact asc_eb _ a 0 ha (by omega) (first ha)
  have A2 : Asc (bysOf (pcs a s.length)).length 0 (bysOf (pcs b (s.length + gr a))) := by rw [lenA, pcs_eb]; exact asc_eb _ b 0 hb z0 (first hb)
  have hC := asc_comb (size := s.length) (bysOf (pcs a s.length)) (bysOf (pcs b (s.length + gr a))) 0 0 A1 A2
  obtain ⟨p1, p2⟩ := joinB_pl (by omega) hC
  refine ⟨p1, p2, ?_⟩
  have tl : ((ap s 0 a).length : Int) = s.length + gr a := by
    have := ap_length s a 0 s.length ha rfl (Nat.zero_le _) (fun e he => by have := first ha e he; simpa using this)
    omega
  have hb' : rt b ((ap s 0 a).length : Int) = true := by rw [tl]; exact hb
  rw [ap_bys p1, pcs_eb, joinB_eb hC, ap_bys hb', tl, List.map_map]
  apply List.map_congr_left
  intro y hy
  have hlt := asc_top A2 (by omega) y hy
  rw [ap_bys ha]
  exact mat_comb hlt
end Go.Proofs.Ytgfafinpcpiogaa.ShiftMath
