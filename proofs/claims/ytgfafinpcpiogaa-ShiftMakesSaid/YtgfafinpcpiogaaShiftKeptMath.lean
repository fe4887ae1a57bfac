/- Plain facts on the bytes that go, in order. Nothing of any program. -/
import Derived.Test.YtgfafinpcpiogaaShiftSrc
namespace Go.Proofs.Ytgfafinpcpiogaa.ShiftMath
open EditMath

/-- pieces that went stand in order, from lo to hi -/
def AscTo : Int → List Pc → Int → Prop
  | lo, [], hi => lo ≤ hi
  | lo, p :: L, hi => (went p = true → lo ≤ p.f) ∧ AscTo (if went p = true then p.t else lo) L hi
theorem AscTo.less {lo lo' hi : Int} {L : List Pc} (h : AscTo lo L hi) (hl : lo' ≤ lo) : AscTo lo' L hi := by
  induction L generalizing lo lo' with
  | nil => exact Int.le_trans hl h
  | cons p L ih =>
    obtain ⟨h1, h2⟩ := h
    refine ⟨fun hw => Int.le_trans hl (h1 hw), ?_⟩
    split at h2
    · rw [if_pos (by assumption)]; exact h2
    · rw [if_neg (by assumption)]; exact ih h2 hl
theorem AscTo.append {lo mid hi : Int} {L M : List Pc} (h : AscTo lo L mid) (k : AscTo mid M hi) : AscTo lo (L ++ M) hi := by
  induction L generalizing lo with
  | nil => exact k.less h
  | cons p L ih => exact ⟨h.1, ih h.2⟩
theorem AscTo.le {lo hi : Int} {L : List Pc} (h : AscTo lo L hi) (hw : ∀ p ∈ L, Wf p) : lo ≤ hi := by
  induction L generalizing lo with
  | nil => exact h
  | cons p L ih =>
    obtain ⟨h1, h2⟩ := h
    have := ih h2 (fun q hq => hw q (List.mem_cons_of_mem _ hq))
    split at this
    · rename_i hp
      have h3 := h1 hp
      have := ((hw p (List.mem_cons_self ..)).1 hp)
      omega
    · exact this

theorem em_asc {fr sh : Int} {e : Ed} (h : fr ≤ e.f) (h2 : e.f ≤ e.t) : AscTo fr (em fr sh e) e.t := by
  unfold em
  have w1 : ∀ a b c : Int, went ⟨a, b, c, bnil⟩ = true := fun _ _ _ => rfl
  have hsnd : ∀ lo, lo ≤ e.t → AscTo lo (if e.s.size ≠ 0 then [⟨e.f + sh, 0, 0, e.s⟩] else []) e.t := by
    intro lo hlo
    split
    · rename_i hs
      have hw : went ⟨e.f + sh, 0, 0, e.s⟩ = false := decide_eq_false hs
      exact ⟨(fun h => by rw [hw] at h; cases h), by rw [hw]; exact hlo⟩
    · exact hlo
  by_cases h1 : fr < e.f
  · rw [if_pos h1]
    exact ⟨fun _ => Int.le_refl _, by rw [if_pos (w1 _ _ _)]; exact hsnd _ h2⟩
  · rw [if_neg h1]
    exact hsnd _ (by omega)

theorem pcs_asc {l : List Ed} {size : Int} (h : rt l size = true) : AscTo 0 (pcs l size) size := by
  obtain ⟨h0, h1, h2⟩ := rt_parts h
  have key : ∀ k, k ≤ l.length → AscTo 0 (stOf (l.take k)).out (stOf (l.take k)).fr := by
    intro k
    induction k with
    | zero => intro _; exact Int.le_refl _
    | succ k ih =>
      intro hk
      obtain ⟨e, he⟩ : ∃ e, l[k]? = some e := ⟨l[k], List.getElem?_eq_getElem (by omega)⟩
      have := (st_pos h k (by omega)).2.2.2.2.2 e he
      rw [stOf_take he]
      exact (ih (by omega)).append (em_asc this (h1 k e he).2.1)
  have h3 := key l.length (Nat.le_refl _)
  obtain ⟨_, _, _, d, d2, _⟩ := st_pos h l.length (Nat.le_refl _)
  rw [List.take_length] at h3 d d2
  refine h3.append ?_
  unfold tailP
  split
  · exact ⟨fun _ => Int.le_refl _, by rw [if_pos (show went ⟨_, _, _, bnil⟩ = true from rfl)]; exact Int.le_refl _⟩
  · exact d2

def kp (p : Pc) : List (Int × Int) := (rangeI p.f p.t).map fun x => (x, x + (p.a - p.f))
def keptL (L : List Pc) : List (Int × Int) := L.flatMap kp
theorem keptL_append (L M : List Pc) : keptL (L ++ M) = keptL L ++ keptL M := by simp [keptL]
theorem kp_mem {p : Pc} {u : Int × Int} : u ∈ kp p ↔ p.f ≤ u.1 ∧ u.1 < p.t ∧ u.2 = u.1 + (p.a - p.f) := by
  unfold kp
  rw [List.mem_map]
  constructor
  · rintro ⟨x, hx, rfl⟩; rw [rangeI_mem] at hx; exact ⟨hx.1, hx.2, rfl⟩
  · rintro ⟨h1, h2, h3⟩; exact ⟨u.1, rangeI_mem.2 ⟨h1, h2⟩, by rw [← h3]⟩

def lt2 (u v : Int × Int) : Prop := u.1 < v.1 ∧ u.2 < v.2
theorem range_asc (a : Int) (n : Nat) (d : Int) : (((List.range n).map fun i : Nat => a + (i : Int)).map fun x => (x, x + d)).Pairwise lt2 := by
  rw [List.map_map, List.pairwise_map]
  exact List.pairwise_lt_range.imp fun h => by simp [lt2, Function.comp]; omega

theorem kept_asc : ∀ (P : List Pc) (lo hi off : Int), AscTo lo P hi → Pos off P → (∀ p ∈ P, Wf p) →
    (keptL (P.filter went)).Pairwise lt2 ∧ ∀ u ∈ keptL (P.filter went), lo ≤ u.1 ∧ u.1 < hi ∧ off ≤ u.2 := by
  intro P
  induction P with
  | nil => intro lo hi off _ _ _; exact ⟨List.Pairwise.nil, fun u hu => by simp [keptL] at hu⟩
  | cons p P ih =>
    intro lo hi off hA hP hW
    obtain ⟨a1, a2⟩ := hA
    obtain ⟨p1, p2⟩ := hP
    have hW' : ∀ q ∈ P, Wf q := fun q hq => hW q (List.mem_cons_of_mem _ hq)
    cases hw : went p with
    | false =>
      rw [List.filter_cons_of_neg (by simp [hw])]
      rw [hw] at a2
      obtain ⟨h1, h2⟩ := ih _ _ _ a2 p2 hW'
      refine ⟨h1, fun u hu => ?_⟩
      have := h2 u hu
      simp at this
      omega
    | true =>
      rw [List.filter_cons_of_pos hw]
      have ha := a1 hw
      rw [if_pos hw] at a2
      obtain ⟨w1, w2⟩ := (hW p (List.mem_cons_self ..)).1 hw
      have hlen : ((bs p).length : Int) = p.t - p.f := by
        have : bs p = rangeI p.f p.t := by simp [bs, hw]
        rw [this, rangeI_length]; omega
      obtain ⟨h1, h2⟩ := ih _ _ _ a2 p2 hW'
      have hle := a2.le hW'
      have e : keptL (p :: P.filter went) = kp p ++ keptL (P.filter went) := by simp [keptL]
      rw [e]
      refine ⟨?_, fun u hu => ?_⟩
      · rw [List.pairwise_append]
        refine ⟨?_, h1, fun u hu v hv => ?_⟩
        · exact range_asc _ _ _
        · have k1 := kp_mem.1 hu
          have k2 := h2 v hv
          unfold lt2
          omega
      · rcases List.mem_append.1 hu with hu | hu
        · have k1 := kp_mem.1 hu
          omega
        · have k2 := h2 u hu
          omega

/-- the next one lies behind all that have come -/
theorem kept_next {K pre : List (Int × Int)} {x : Int × Int} (hK : K.Pairwise lt2) (hp : (pre ++ [x]) <+: K) : ∀ u ∈ pre, lt2 u x := by
  obtain ⟨r, rfl⟩ := hp
  rw [List.append_assoc, List.pairwise_append] at hK
  exact fun u hu => hK.2.2 u hu x (by simp)

/-- how many of the numbers are in a list that ascends -/
theorem count_asc : ∀ (K : List Int) (a b : Int), K.Pairwise (· < ·) → (∀ x ∈ K, a ≤ x ∧ x < b) → (rangeI a b).countP (fun x => decide (x ∈ K)) = K.length := by
  intro K
  induction K with
  | nil => intro a b _ _; simp
  | cons x K ih =>
    intro a b hp hm
    obtain ⟨h1, h2⟩ := hm x (List.mem_cons_self ..)
    obtain ⟨p1, p2⟩ := List.pairwise_cons.1 hp
    have e : rangeI a b = rangeI a x ++ (x :: rangeI (x + 1) b) := by
      unfold rangeI
      have e1 : (b - a).toNat = (x - a).toNat + ((b - (x + 1)).toNat + 1) := by omega
      rw [e1, List.range_add, List.map_append, List.range_succ_eq_map]
      simp only [List.map_cons, List.map_map, Nat.add_zero]
      congr 1
      congr 1
      · omega
      · refine List.map_congr_left fun i _ => ?_
        simp only [Function.comp]
        omega
    rw [e, List.countP_append, List.countP_cons]
    have z : (rangeI a x).countP (fun y => decide (y ∈ x :: K)) = 0 := by
      rw [List.countP_eq_zero]
      intro y hy
      rw [rangeI_mem] at hy
      simp only [decide_eq_true_eq, List.mem_cons, not_or]
      exact ⟨by omega, fun hk => by have := p1 y hk; omega⟩
    have t : (rangeI (x + 1) b).countP (fun y => decide (y ∈ x :: K)) = (rangeI (x + 1) b).countP (fun y => decide (y ∈ K)) := by
      refine List.countP_congr fun y hy => ?_
      rw [rangeI_mem] at hy
      simp only [decide_eq_true_eq, List.mem_cons]
      constructor
      · rintro (h | h)
        · omega
        · exact h
      · exact .inr
    rw [z, t, ih (x + 1) b p2 (fun y hy => ⟨by have := p1 y hy; omega, (hm y (List.mem_cons_of_mem _ hy)).2⟩)]
    simp

/-- how many bytes ahead of k go -/
def many (L : List Pc) (k : Int) : Nat := (rangeI 0 k).countP fun x => (L.find? (inP x)).isSome
theorem many_zero (L : List Pc) : many L 0 = 0 := by simp [many, rangeI]
theorem many_succ (L : List Pc) {k : Int} (h : 0 ≤ k) : many L (k + 1) = many L k + if (L.find? (inP k)).isSome then 1 else 0 := by
  unfold many
  rw [rangeI_snoc h, List.countP_append]
  simp [List.countP_cons]

theorem many_all {l : List Ed} {size : Int} (h : rt l size = true) : many ((pcs l size).filter went) size = (keptL ((pcs l size).filter went)).length := by
  obtain ⟨hP, hW, _⟩ := pcs_pos h
  obtain ⟨h1, h2⟩ := kept_asc (pcs l size) 0 size 0 (pcs_asc h) hP hW
  have hm : ∀ x : Int, ((((pcs l size).filter went).find? (inP x)).isSome) = decide (x ∈ (keptL ((pcs l size).filter went)).map Prod.fst) := by
    intro x
    rw [Bool.eq_iff_iff, decide_eq_true_eq, List.find?_isSome, List.mem_map]
    constructor
    · rintro ⟨p, hp, hx⟩
      simp only [inP, Bool.and_eq_true, decide_eq_true_eq] at hx
      exact ⟨(x, x + (p.a - p.f)), List.mem_flatMap.2 ⟨p, hp, kp_mem.2 ⟨hx.1, hx.2, rfl⟩⟩, rfl⟩
    · rintro ⟨u, hu, rfl⟩
      obtain ⟨p, hp, hk⟩ := List.mem_flatMap.1 hu
      have := kp_mem.1 hk
      exact ⟨p, hp, by simp [inP]; omega⟩
  unfold many
  rw [show (fun x => (((pcs l size).filter went).find? (inP x)).isSome) = (fun x => decide (x ∈ (keptL ((pcs l size).filter went)).map Prod.fst)) from funext hm]
  rw [count_asc _ 0 size ?_ ?_, List.length_map]
  · rw [List.pairwise_map]; exact h1.imp fun h => h.1
  · intro x hx
    obtain ⟨u, hu, rfl⟩ := List.mem_map.1 hx
    have := h2 u hu
    exact ⟨this.1, this.2.1⟩

/-- there and back -/
theorem there_back {l : List Ed} {size x : Int} (h : rt l size = true) (hx : 0 ≤ x) {p : Pc} (hf : ((pcs l size).filter went).find? (inP x) = some p) :
    0 ≤ x + (p.a - p.f) ∧ ∃ q, ((pcs l size).filter went).find? (inC (x + (p.a - p.f))) = some q ∧ x + (p.a - p.f) - (q.a - q.f) = x := by
  obtain ⟨hP, hW, _⟩ := pcs_pos h
  have k1 := goes_eq hx (pcs l size) 0 (by omega) hP hW
  rw [hf] at k1
  obtain ⟨i, hi, e⟩ := k1
  have h0 : 0 ≤ x + (p.a - p.f) := by omega
  refine ⟨h0, ?_⟩
  have k2 := came_eq (pcs l size) 0 h0 hP hW
  rw [List.findIdx?_eq_some_iff_getElem] at hi
  obtain ⟨hlt, hy, _⟩ := hi
  have hg : (srcOf (pcs l size))[(x + (p.a - p.f) - 0).toNat]? = some x := by
    rw [show (x + (p.a - p.f) - 0).toNat = i by omega, List.getElem?_eq_getElem hlt]
    congr 1
    simpa using hy
  cases hq : ((pcs l size).filter went).find? (inC (x + (p.a - p.f))) with
  | none => rw [hq] at k2; have := k2 x hg; omega
  | some q => rw [hq, hg] at k2; have := k2.1; injection this with this; exact ⟨q, rfl, by omega⟩

end Go.Proofs.Ytgfafinpcpiogaa.ShiftMath
