/- A token's text. -/
import Derived.Test.YtfmlcddakfbleaaGreatDoorLexReal
namespace Go.Proofs.YtfmlcddakfbleaaGreatDoor
open Go.RowKit Go.Shelf SignMath

attribute [local go_sem] Oper.semAt_some

/-- a token of any numbers -/
structure Tz where
  k : Int
  a : Int
  z : Int
abbrev tzv (t : Tz) : Value := .agg #[.int .i64 t.k, .int .i64 t.a, .int .i64 t.z]
def zc (l : List Tz) : List Value := l.flatMap fun t => [.int .i64 t.k, .int .i64 t.a, .int .i64 t.z]
theorem zc_length (l : List Tz) : (zc l).length = l.length * 3 := by
  unfold zc
  induction l with
  | nil => rfl
  | cons p ps ih => simp [List.flatMap_cons, ih]; omega
theorem zc_at : ∀ (l : List Tz) (i : Nat) (p : Tz), l[i]? = some p → (zc l)[i * 3]? = some (.int .i64 p.k) ∧ (zc l)[i * 3 + 1]? = some (.int .i64 p.a) ∧ (zc l)[i * 3 + 2]? = some (.int .i64 p.z) := by
  intro l
  induction l with
  | nil => intro i p h; simp at h
  | cons q ps ih =>
    intro i p h
    have e : zc (q :: ps) = .int .i64 q.k :: .int .i64 q.a :: .int .i64 q.z :: zc ps := by simp [zc, List.flatMap_cons]
    cases i with
    | zero => simp at h; subst h; rw [e]; exact ⟨rfl, rfl, rfl⟩
    | succ i =>
      simp at h
      obtain ⟨h1, h2, h3⟩ := ih i p h
      rw [e]
      exact ⟨by rw [show (i + 1) * 3 = i * 3 + 1 + 1 + 1 from by omega]; simpa using h1, by rw [show (i + 1) * 3 + 1 = i * 3 + 1 + 1 + 1 + 1 from by omega]; simpa using h2,
        by rw [show (i + 1) * 3 + 2 = i * 3 + 2 + 1 + 1 + 1 from by omega]; simpa using h3⟩
theorem ztok_at {w : World} {B : Nat} {A : Option Addr} {l : List Tz} {k : Nat} {t : Tz} (h : Rdc w B A (zc l)) (hk : l[k]? = some t) : ∃ b off, A = some ⟨b, off, none⟩ ∧ b < B ∧
    w.cell? ⟨b, off + k * 3, none⟩ = some (.int .i64 t.k) ∧ w.cell? ⟨b, off + k * 3 + 1, none⟩ = some (.int .i64 t.a) ∧ w.cell? ⟨b, off + k * 3 + 2, none⟩ = some (.int .i64 t.z) := by
  have hl := (List.getElem?_eq_some_iff.1 hk).1
  obtain ⟨b, off, rfl, hb, hc⟩ := h.at_ (by rw [zc_length]; omega)
  obtain ⟨h0, h1, h2⟩ := zc_at l k t hk
  exact ⟨b, off, rfl, hb, hc _ _ h0, by rw [Nat.add_assoc]; exact hc _ _ h1, by rw [Nat.add_assoc]; exact hc _ _ h2⟩

/-- plain tokens are such -/
def toZ (t : Tk) : Tz := ⟨t.k, t.a, t.z⟩
theorem zc_toZ (l : List Tk) : zc (l.map toZ) = tcells l := by
  unfold zc tcells
  rw [List.flatMap_map]
  rfl

/-- a token's text -/
def ttx (s : ByteArray) (t : Tz) : ByteArray := if 0 ≤ t.a ∧ t.a ≤ t.z ∧ t.z ≤ s.size then s.extract t.a.toNat t.z.toNat else ⟨#[]⟩
theorem ttx_none {s : ByteArray} {t : Tz} (h : ¬ (0 ≤ t.a ∧ t.a ≤ t.z ∧ t.z ≤ s.size)) : ttx s t = ⟨#[]⟩ := if_neg h
theorem ttx_size (s : ByteArray) (t : Tz) : (ttx s t).size ≤ s.size := by
  unfold ttx
  split
  · rw [ByteArray.size_extract]; omega
  · exact Nat.zero_le _
/-- the texts of tokens -/
def jn (s : ByteArray) (l : List Tz) : List UInt8 := l.flatMap fun t => bs (ttx s t)
theorem jn_snoc (s : ByteArray) (l : List Tz) (t : Tz) : jn s (l ++ [t]) = jn s l ++ bs (ttx s t) := by simp [jn]
theorem jn_len (s : ByteArray) (l : List Tz) : (jn s l).length ≤ l.length * s.size := by
  unfold jn
  induction l with
  | nil => simp
  | cons t l ih =>
    have := ttx_size s t
    rw [List.flatMap_cons, List.length_append, bs_size, List.length_cons, Nat.succ_mul]
    omega

set_option maxRecDepth 100000 in
set_option maxHeartbeats 1000000 in
theorem ttext_any (s : ByteArray) (t : Tz) (w : World) :
    Calls Tryz.prog 117 #[tzv t, .string s] w fun e w' => e = .returned (.string (ttx s t)) ∧ Below w.heap.size w w' := by
  obtain ⟨k, a, z⟩ := t
  have hb := lbelow1 w (.cells #[.int .i64 k, .int .i64 a, .int .i64 z] 109)
  by_cases h0 : a < 0
  · have H := Lib.hid (ttx_none (s := s) (t := ⟨k, a, z⟩) (by intro h; have := h.1; dsimp only at this; omega))
    go_enter Tryz.func117, Tryz.ntmps117
    go_wp2
    go_ret
    exact ⟨by rw [H.out]; rfl, hb⟩
  · by_cases h1 : z < a
    · have H := Lib.hid (ttx_none (s := s) (t := ⟨k, a, z⟩) (by intro h; have := h.2.1; dsimp only at this; omega))
      go_enter Tryz.func117, Tryz.ntmps117
      go_wp2
      go_ret
      exact ⟨by rw [H.out]; rfl, hb⟩
    · by_cases h2 : (s.size : Int) < z
      · have H := Lib.hid (ttx_none (s := s) (t := ⟨k, a, z⟩) (by intro h; have := h.2.2; dsimp only at this; omega))
        go_enter Tryz.func117, Tryz.ntmps117
        go_wp2
        go_ret
        exact ⟨by rw [H.out]; rfl, hb⟩
      · have H : Hid (ttx s ⟨k, a, z⟩ = s.extract a.toNat z.toNat) := Lib.hid (if_pos ⟨by dsimp only; omega, by dsimp only; omega, by dsimp only; omega⟩)
        obtain ⟨a, rfl⟩ : ∃ n : Nat, a = n := ⟨a.toNat, by omega⟩
        obtain ⟨z, rfl⟩ : ∃ n : Nat, z = n := ⟨z.toNat, by omega⟩
        simp only [Int.toNat_natCast] at H
        go_enter Tryz.func117, Tryz.ntmps117
        go_wp2
        go_ret
        exact ⟨by rw [H.out]; rfl, hb⟩
end Go.Proofs.YtfmlcddakfbleaaGreatDoor
