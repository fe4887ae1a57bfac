/- A token's text; the texts of tokens. -/
import Derived.Test.YtjmdnjflcifpmaaDoorLexReal
import Derived.Test.YtjmdnjflcifpmaaDoorLexBuild
namespace Go.Proofs.YtjmdnjflcifpmaaDoor
open Go.RowKit Go.Shelf SignMath

attribute [local go_sem] Oper.semAt_some

/-- a token of any numbers -/
structure Tz where
  k : Int
  a : Int
  z : Int
abbrev tzv (t : Tz) : Value := .agg #[.int .i64 t.k, .int .i64 t.a, .int .i64 t.z]
def zc (l : List Tz) : List Value := l.flatMap fun t => [.int .i64 t.k, .int .i64 t.a, .int .i64 t.z]
theorem zc_length (l : List Tz) : (zc l).length = l.length * 3 := by
  unfold zc
  induction l with
  | nil => rfl
  | cons p ps ih => simp [List.flatMap_cons, ih]; omega
theorem zc_at : ∀ (l : List Tz) (i : Nat) (p : Tz), l[i]? = some p → (zc l)[i * 3]? = some (.int .i64 p.k) ∧ (zc l)[i * 3 + 1]? = some (.int .i64 p.a) ∧ (zc l)[i * 3 + 2]? = some (.int .i64 p.z) := by
  intro l
  induction l with
  | nil => intro i p h; simp at h
  | cons q ps ih =>
    intro i p h
    have e : zc (q :: ps) = .int .i64 q.k :: .int .i64 q.a :: .int .i64 q.z :: zc ps := by simp [zc, List.flatMap_cons]
    cases i with
    | zero => simp at h; subst h; rw [e]; exact ⟨rfl, rfl, rfl⟩
    | succ i =>
      simp at h
      obtain ⟨h1, h2, h3⟩ := ih i p h
      rw [e]
      exact ⟨by rw [show (i + 1) * 3 = i * 3 + 1 + 1 + 1 from by omega]; simpa using h1, by rw [show (i + 1) * 3 + 1 = i * 3 + 1 + 1 + 1 + 1 from by omega]; simpa using h2,
        by rw [show (i + 1) * 3 + 2 = i * 3 + 2 + 1 + 1 + 1 from by omega]; simpa using h3⟩
theorem ztok_at {w : World} {B : Nat} {A : Option Addr} {l : List Tz} {k : Nat} {t : Tz} (h : Rdc w B A (zc l)) (hk : l[k]? = some t) : ∃ b off, A = some ⟨b, off, none⟩ ∧ b < B ∧
    w.cell? ⟨b, off + k * 3, none⟩ = some (.int .i64 t.k) ∧ w.cell? ⟨b, off + k * 3 + 1, none⟩ = some (.int .i64 t.a) ∧ w.cell? ⟨b, off + k * 3 + 2, none⟩ = some (.int .i64 t.z) := by
  have hl := (List.getElem?_eq_some_iff.1 hk).1
  obtain ⟨b, off, rfl, hb, hc⟩ := h.at_ (by rw [zc_length]; omega)
  obtain ⟨h0, h1, h2⟩ := zc_at l k t hk
  exact ⟨b, off, rfl, hb, hc _ _ h0, by rw [Nat.add_assoc]; exact hc _ _ h1, by rw [Nat.add_assoc]; exact hc _ _ h2⟩

/-- plain tokens are such -/
def toZ (t : Tk) : Tz := ⟨t.k, t.a, t.z⟩
theorem zc_toZ (l : List Tk) : zc (l.map toZ) = tcells l := by
  unfold zc tcells
  rw [List.flatMap_map]
  rfl

/-- a token's text -/
def tx (s : ByteArray) (t : Tz) : ByteArray := if 0 ≤ t.a ∧ t.a ≤ t.z ∧ t.z ≤ s.size then s.extract t.a.toNat t.z.toNat else ⟨#[]⟩
theorem tx_none {s : ByteArray} {t : Tz} (h : ¬ (0 ≤ t.a ∧ t.a ≤ t.z ∧ t.z ≤ s.size)) : tx s t = ⟨#[]⟩ := if_neg h
theorem tx_size (s : ByteArray) (t : Tz) : (tx s t).size ≤ s.size := by
  unfold tx
  split
  · rw [ByteArray.size_extract]; omega
  · exact Nat.zero_le _
/-- the texts of tokens -/
def jn (s : ByteArray) (l : List Tz) : List UInt8 := l.flatMap fun t => bs (tx s t)
theorem jn_snoc (s : ByteArray) (l : List Tz) (t : Tz) : jn s (l ++ [t]) = jn s l ++ bs (tx s t) := by simp [jn]
theorem jn_len (s : ByteArray) (l : List Tz) : (jn s l).length ≤ l.length * s.size := by
  unfold jn
  induction l with
  | nil => simp
  | cons t l ih =>
    have := tx_size s t
    rw [List.flatMap_cons, List.length_append, bs_size, List.length_cons, Nat.succ_mul]
    omega

set_option maxRecDepth 100000 in
set_option maxHeartbeats 1000000 in
theorem text_any (s : ByteArray) (t : Tz) (w : World) :
    Calls Tryd.prog 17 #[tzv t, .string s] w fun e w' => e = .returned (.string (tx s t)) ∧ Below w.heap.size w w' := by
  obtain ⟨k, a, z⟩ := t
  have hb := below1 w (.cells #[.int .i64 k, .int .i64 a, .int .i64 z] 31)
  by_cases h0 : a < 0
  · have H := Lib.hid (tx_none (s := s) (t := ⟨k, a, z⟩) (by intro h; have := h.1; dsimp only at this; omega))
    go_enter Tryd.func17, Tryd.ntmps17
    go_wp2
    go_ret
    exact ⟨by rw [H.out]; rfl, hb⟩
  · by_cases h1 : z < a
    · have H := Lib.hid (tx_none (s := s) (t := ⟨k, a, z⟩) (by intro h; have := h.2.1; dsimp only at this; omega))
      go_enter Tryd.func17, Tryd.ntmps17
      go_wp2
      go_ret
      exact ⟨by rw [H.out]; rfl, hb⟩
    · by_cases h2 : (s.size : Int) < z
      · have H := Lib.hid (tx_none (s := s) (t := ⟨k, a, z⟩) (by intro h; have := h.2.2; dsimp only at this; omega))
        go_enter Tryd.func17, Tryd.ntmps17
        go_wp2
        go_ret
        exact ⟨by rw [H.out]; rfl, hb⟩
      · have H : Hid (tx s ⟨k, a, z⟩ = s.extract a.toNat z.toNat) := Lib.hid (if_pos ⟨by dsimp only; omega, by dsimp only; omega, by dsimp only; omega⟩)
        obtain ⟨a, rfl⟩ : ∃ n : Nat, a = n := ⟨a.toNat, by omega⟩
        obtain ⟨z, rfl⟩ : ∃ n : Nat, z = n := ⟨z.toNat, by omega⟩
        simp only [Int.toNat_natCast] at H
        go_enter Tryd.func17, Tryd.ntmps17
        go_wp2
        go_ret
        exact ⟨by rw [H.out]; rfl, hb⟩

/-- a builder through calls that lay new blocks alone -/
theorem bld_below {T e : TypeId} {B b : Nat} {cs : List Value} {W W' : World} (h : Lib.IsBuilderF T e B b cs W) (hb : Below W.heap.size W W') : Lib.IsBuilderF T e B b cs W' := by
  have key : ∀ p, Lib.BuilderAtF T e B b p cs W → Lib.BuilderAtF T e B b p cs W' := fun p hp => by
    have hlt := hp.lt
    obtain ⟨hB, v, hv, hown, hne⟩ := hp
    exact ⟨hB, v, (hb.block b hlt).trans hv, hown.kept (row := none) ⟨hb.os, hb.tape, hb.output, hb.size, fun k hk _ => hb.block k hk⟩ (Classical.em _), hne⟩
  exact h.imp (key _) (key _)

theorem take_nextZ {L : List Tz} {k : Nat} {x : Tz} (h : L[k]? = some x) : L.take (k + 1) = L.take k ++ [x] := by
  rw [List.take_add_one, h]; rfl

set_option maxRecDepth 100000 in
set_option maxHeartbeats 2000000 in
theorem join_any (s : ByteArray) (hs : s.size ≤ 10000) (A : Option Addr) (c : Nat) (l : List Tz) (hl : l.length ≤ 20000) (w : World) (hr : Rdc w w.heap.size A (zc l)) :
    Calls Tryd.prog 18 #[.string s, .slice A l.length c] w fun e w' => e = .returned (.string ⟨(jn s l).toArray⟩) ∧ Below w.heap.size w w' := by
  have hnew : Lib.IsBuilderF 64 5 w.heap.size w.heap.size (Lib.byteCells []) (w.alloc (.cells #[.pointer none, .slice none 0 0] 64)) :=
    .inl ⟨Nat.le_refl _, .slice none 0 0, World.alloc_heap_new w _, World.ownsRowF_nil _ _ _ _, by simp [Value.ownBlock]⟩
  go_enter Tryd.func18, Tryd.ntmps18
  go_wp2
  go_loopw [7, 10] (fun _ i wr => ∃ k : Nat, k ≤ l.length ∧ i = .int .i64 (k : Int) ∧ Below w.heap.size w wr ∧ w.heap.size ≤ wr.heap.size ∧ Lib.IsBuilderF 64 5 w.heap.size w.heap.size (Lib.byteCells (jn s (l.take k))) wr) (fun _ i _ => l.length + 1 - (intOf i).toNat)
  case atStart => exact ⟨0, Nat.zero_le _, rfl, below1 w _, by simp, hnew⟩
  case round =>
    clear hnew
    obtain ⟨k, hk, rfl, hB, hBw, hbd⟩ := hrel
    by_cases hlt : k < l.length
    · have he : l[k]? = some l[k] := List.getElem?_eq_getElem hlt
      generalize l[k] = t at he
      have z1 : (0 : Int) ≤ k := by omega
      have z2 : (k : Int) < l.length := by omega
      obtain ⟨b, off, rfl, hb, c0, c1, c2⟩ := ztok_at (hr.below hB) he
      have HT := Lib.hid (take_nextZ he)
      have hjl : (jn s (l.take k)).length ≤ 200000000 := by
        have h1 := jn_len s (l.take k)
        have h2 : (l.take k).length * s.size ≤ 20000 * 10000 := Nat.mul_le_mul (by simp; omega) hs
        omega
      have htl := tx_size s t
      clear he hr
      go_wp2_with (first | (go_at_call 17; refine (text_any s t _).mono ?_; rintro e w1 ⟨rfl, hB1⟩; have hbd1 := bld_below (hbd.alloc (.cells #[.int .i64 t.k, .int .i64 t.a, .int .i64 t.z] 31)) hB1; have hBw1 : Below w.heap.size w w1 := (hB.alloc hB.size _).trans (hB1.mono (by simp; omega))) | (go_at_call 26; refine (bWrite w.heap.size w.heap.size _ (tx s t) _ hbd1 (by rw [Lib.byteCells_length]; omega) hBw1.size).mono ?_; rintro r w2 ⟨rfl, hbd2, hB2, _⟩))
      go_roundw
      case rel =>
        refine ⟨k + 1, by omega, by go_num, hBw1.trans hB2, Nat.le_trans hBw1.size hB2.size, .inr ?_⟩
        rw [HT.out, jn_snoc]
        rwa [show Lib.byteCells (jn s (l.take k) ++ bs (tx s t)) = Lib.byteCells (jn s (l.take k)) ++ Lib.strCells (tx s t) from by simp [Lib.byteCells, Lib.strCells]]
      case measure => simp [intOf]; omega
    · obtain rfl : k = l.length := by omega
      rw [List.take_length] at hbd
      go_wp2_with (go_at_call 27; refine (bString w.heap.size w.heap.size _ _ hbd hBw).mono ?_; rintro r w2 ⟨rfl, _, hB2, _⟩)
      go_ret
      exact ⟨rfl, hB.trans hB2⟩
end Go.Proofs.YtjmdnjflcifpmaaDoor
