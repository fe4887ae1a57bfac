/- All tokens of a text, taken: the leaves, their text, that they stand right. Plain facts. -/
import Derived.Test.YtfmlcddakfbleaaGreatDoorCurAlive
namespace Go.Proofs.YtfmlcddakfbleaaGreatDoor
open Go.RowKit SignMath TreeMath

/-- tokens one behind the other, gaps between, from a place on -/
def Od (n : Nat) : Nat → List Tk → Prop
  | e, [] => e ≤ n
  | e, t :: r => e ≤ t.a ∧ t.a < t.z ∧ t.z ≤ n ∧ Od n t.z r
/-- where the last one ends -/
def lz : Nat → List Tk → Nat
  | e, [] => e
  | _, t :: r => lz t.z r
/-- the leaves -/
def lvl (s : ByteArray) : Nat → List Tk → List Tr
  | _, [] => []
  | e, t :: r => ⟨1, s.extract e t.a, s.extract t.a t.z, (t.a : Nat), none, 0, []⟩ :: lvl s t.z r
theorem lz_snoc (l : List Tk) (t : Tk) : ∀ e, lz e (l ++ [t]) = t.z := by
  induction l with
  | nil => intro e; rfl
  | cons x r ih => intro e; exact ih _
theorem lvl_snoc (s : ByteArray) (l : List Tk) (t : Tk) : ∀ e, lvl s e (l ++ [t]) = lvl s e l ++ [⟨1, s.extract (lz e l) t.a, s.extract t.a t.z, (t.a : Nat), none, 0, []⟩] := by
  induction l with
  | nil => intro e; rfl
  | cons x r ih => intro e; show _ :: lvl s x.z (r ++ [t]) = _ :: (lvl s x.z r ++ _); rw [ih]; rfl
theorem lvl_len (s : ByteArray) (l : List Tk) : ∀ e, (lvl s e l).length = l.length := by
  induction l with
  | nil => intro e; rfl
  | cons x r ih => intro e; show (lvl s x.z r).length + 1 = r.length + 1; rw [ih]
theorem od_of {n : Nat} (p : Tk → Bool) : ∀ {L : List Tk} {a e : Nat}, Ch n a L → e ≤ a → Od n e (L.filter p)
  | [], a, e, h, he => by have h : a = n := h; show e ≤ n; omega
  | t :: r, a, e, h, he => by
    obtain ⟨h1, h2, h3, h4⟩ := h
    rw [List.filter_cons]
    split
    · exact ⟨by omega, by omega, h3, od_of p h4 (Nat.le_refl _)⟩
    · exact od_of p h4 (by omega)
theorem od_le {n : Nat} : ∀ {l : List Tk} {e : Nat}, Od n e l → e ≤ lz e l ∧ lz e l ≤ n
  | [], e, h => ⟨Nat.le_refl _, h⟩
  | t :: r, e, h => by
    obtain ⟨h1, h2, h3, h4⟩ := h
    have := od_le h4
    show e ≤ lz t.z r ∧ lz t.z r ≤ n
    omega
theorem tx_lvl (s : ByteArray) : ∀ {l : List Tk} {e : Nat}, Od s.size e l → tx (lvl s e l) = s.extract e (lz e l)
  | [], e, h => by
    show ByteArray.empty = s.extract e e
    rw [ByteArray.extract_same]
  | t :: r, e, h => by
    obtain ⟨h1, h2, h3, h4⟩ := h
    have h5 := od_le h4
    show (s.extract e t.a ++ s.extract t.a t.z) ++ tx (lvl s t.z r) = s.extract e (lz t.z r)
    rw [tx_lvl s h4, ← ByteArray.extract_eq_extract_append_extract t.a h1 (by omega), ← ByteArray.extract_eq_extract_append_extract t.z (by omega) h5.1]
theorem stb_lvl (s : ByteArray) (hs : s.size ≤ 4000) : ∀ {l : List Tk} {e : Nat}, Od s.size e l → stb (e : Nat) (lvl s e l) = true
  | [], e, h => rfl
  | t :: r, e, h => by
    obtain ⟨h1, h2, h3, h4⟩ := h
    have e1 : ((s.extract e t.a).size : Int) = (t.a : Int) - e := by rw [ByteArray.size_extract]; omega
    have e2 : ((s.extract t.a t.z).size : Int) = (t.z : Int) - t.a := by rw [ByteArray.size_extract]; omega
    have w1' : wrap64 ((e : Int) + (s.extract e t.a).size) = (t.a : Nat) := by unfold wrap64; omega
    have w2' : wrap64 (wrap64 ((e : Int) + (s.extract e t.a).size) + (s.extract t.a t.z).size) = (t.z : Nat) := by rw [w1']; unfold wrap64; omega
    show (decide (((t.a : Nat) : Int) = wrap64 ((e : Int) + (s.extract e t.a).size)) && stb (wrap64 (wrap64 ((e : Int) + (s.extract e t.a).size) + (s.extract t.a t.z).size)) (lvl s t.z r)) = true
    rw [w2', w1', stb_lvl s hs h4]
    simp
theorem lvl_mem (s : ByteArray) : ∀ {l : List Tk} {e : Nat}, Od s.size e l → ∀ x ∈ lvl s e l, x.k = 1 ∧ 0 < x.t.size ∧ 0 ≤ x.a ∧ x.a ≤ s.size ∧ x.kids = [] ∧ ns x = [x]
  | [], e, h, x, hx => by cases hx
  | t :: r, e, h, x, hx => by
    obtain ⟨h1, h2, h3, h4⟩ := h
    rcases List.mem_cons.1 hx with rfl | hx
    · refine ⟨rfl, ?_, ?_, ?_, rfl, by rw [ns_eq]; rfl⟩
      · show 0 < (s.extract t.a t.z).size
        rw [ByteArray.size_extract]; omega
      · show (0 : Int) ≤ (t.a : Nat); omega
      · show ((t.a : Nat) : Int) ≤ s.size; omega
    · exact lvl_mem s h4 x hx
theorem fm_self {l : List Tr} {f : Tr → List Tr} (h : ∀ x ∈ l, f x = [x]) : l.flatMap f = l := by
  induction l with
  | nil => rfl
  | cons x xs ih => rw [List.flatMap_cons, h x (by simp), ih (fun y hy => h y (by simp [hy]))]; rfl
/-- the file of these leaves -/
def rt (A : Option Addr) (c : Nat) (l : List Tr) : Tr := ⟨2, ⟨#[]⟩, ⟨#[]⟩, 0, A, c, l⟩
theorem rt_ns {A : Option Addr} {c : Nat} {l : List Tr} (h : ∀ x ∈ l, ns x = [x]) : ns (rt A c l) = rt A c l :: l := by
  rw [ns_eq]; show _ :: l.flatMap ns = _; rw [fm_self h]
theorem rt_lf {A : Option Addr} {c : Nat} {l : List Tr} (h : ∀ x ∈ l, ns x = [x] ∧ x.k = 1) : lf (rt A c l) = l := by
  unfold TreeMath.lf
  rw [rt_ns (fun x hx => (h x hx).1), List.filter_cons, if_neg (by simp [lfb, rt]), List.filter_eq_self.2 (fun x hx => by simp [lfb, (h x hx).2])]
theorem rt_rgt (s : ByteArray) {A : Option Addr} {c : Nat} {l : List Tr} (h : ∀ x ∈ l, x.k = 1 ∧ 0 < x.t.size ∧ 0 ≤ x.a ∧ x.a ≤ s.size ∧ x.kids = [] ∧ ns x = [x]) : rgt (rt A c l) = true := by
  unfold rgt
  rw [rt_ns (fun x hx => (h x hx).2.2.2.2.2), List.all_cons, Bool.and_eq_true]
  refine ⟨by simp [snd, rt]; rfl, List.all_eq_true.2 fun x hx => ?_⟩
  obtain ⟨h1, h2, h3, h4, h5, -⟩ := h x hx
  unfold snd
  rw [if_pos h1, h5]
  simp only [Bool.and_eq_true, decide_eq_true_eq, List.length_nil]
  exact ⟨⟨by omega, h3⟩, trivial⟩
theorem w1_sum (l : List Tr) : 50 * (l.map w1).sum ≤ 50 * l.length + (l.map fun x => x.g.size + x.t.size).sum := by
  induction l with
  | nil => simp
  | cons x xs ih => simp only [List.map_cons, List.sum_cons, List.length_cons, w1] at *; omega
theorem rt_wt {A : Option Addr} {c : Nat} {l : List Tr} (h : ∀ x ∈ l, ns x = [x]) (hl : l.length ≤ 4000) (ht : (tx l).size ≤ 4000) : wt (rt A c l) ≤ 9000 := by
  unfold wt
  rw [rt_ns h, List.map_cons, List.sum_cons]
  have h1 := w1_sum l
  rw [tx_size] at ht
  have h2 : w1 (rt A c l) = 1 := by
    have h0 : (⟨#[]⟩ : ByteArray).size = 0 := rfl
    unfold w1 rt
    simp only [h0]
  omega
theorem rt_lk {A : Option Addr} {c : Nat} {l : List Tr} (h : ∀ x ∈ l, ns x = [x] ∧ x.kids = []) : lk (rt A c l) := fun x hx hk => by
  rw [rt_ns (fun x hx => (h x hx).1)] at hx
  rcases List.mem_cons.1 hx with rfl | hx
  · simp [rt] at hk
  · exact (h x hx).2
/-- the cursor behind k takings -/
def cuk (s : ByteArray) (k : Nat) : Cu := { cu0 s with n := k }
theorem cuk_beh (s : ByteArray) (k : Nat) (hk : k ≤ (cu0 s).L.length) : (cuk s k).beh = lz 0 ((cu0 s).L.take k) := by
  unfold Cu.beh
  cases k with
  | zero => rw [if_pos (show (cuk s 0).n = 0 from rfl)]; rfl
  | succ j =>
    rw [if_neg (show (cuk s (j + 1)).n ≠ 0 from by show j + 1 ≠ 0; omega)]
    show (match (cu0 s).L[j + 1 - 1]? with | some t => t.z | none => 0) = _
    rw [Nat.add_sub_cancel]
    obtain ⟨t, ht⟩ : ∃ t, (cu0 s).L[j]? = some t := ⟨_, List.getElem?_eq_getElem (by omega)⟩
    rw [ht, List.take_add_one, ht]
    simp only [Option.toList_some]
    rw [lz_snoc]
theorem cuk_leaf (s : ByteArray) (k : Nat) {t : Tk} (ht : (cu0 s).L[k]? = some t) : lvl s 0 ((cu0 s).L.take (k + 1)) = lvl s 0 ((cu0 s).L.take k) ++ [(cuk s k).leaf t] := by
  have hk := (List.getElem?_eq_some_iff.1 ht).1
  rw [List.take_add_one, ht]
  simp only [Option.toList_some]
  rw [lvl_snoc, ← cuk_beh s k (by omega)]
  rfl
theorem cuk_nxt (s : ByteArray) (k : Nat) {t : Tk} (ht : (cu0 s).L[k]? = some t) : (cuk s k).nxt 0 = some t := by
  unfold Cu.nxt
  rw [if_pos (show (cuk s k).f = 0 from rfl)]
  exact ht
theorem cuk_left (s : ByteArray) (k : Nat) : (cuk s k).left = (cu0 s).L.length - k := by
  unfold Cu.left
  rw [if_pos (show (cuk s k).f = 0 from rfl)]
  rfl
theorem cuk_ok (s : ByteArray) (hs : s.size ≤ 4000) (k : Nat) (hk : k ≤ (cu0 s).L.length) : (cuk s k).Ok := by
  have h := cu0_ok s hs
  exact ⟨hk, h.sz, h.len, h.tok, h.ord, h.d, h.f, h.p⟩
theorem cu0_od (s : ByteArray) : Od s.size 0 (cu0 s).L := by
  have hch := tk_chain (bs s) _ 0 (Nat.le_refl _) (Nat.zero_le _)
  rw [bs_size] at hch
  exact od_of _ hch (Nat.le_refl _)
theorem cu0_len (s : ByteArray) : (cu0 s).L.length ≤ s.size := Nat.le_trans (rls_len _) (tk_size s)
theorem cuk_en (s : ByteArray) : (cuk s (cu0 s).L.length).en = s.extract (lz 0 (cu0 s).L) s.size := by
  unfold Cu.en
  rw [if_pos ⟨rfl, by rw [cuk_left, Nat.sub_self]⟩, cuk_beh s _ (Nat.le_refl _), List.take_length]
  rfl
/-- what was taken, with what is behind, is the text -/
theorem cu0_all (s : ByteArray) : tx (lvl s 0 (cu0 s).L) ++ (cuk s (cu0 s).L.length).en = s := by
  have h := od_le (cu0_od s)
  rw [tx_lvl s (cu0_od s), cuk_en, ← ByteArray.extract_eq_extract_append_extract _ h.1 h.2]
  exact ByteArray.extract_zero_size
end Go.Proofs.YtfmlcddakfbleaaGreatDoor
