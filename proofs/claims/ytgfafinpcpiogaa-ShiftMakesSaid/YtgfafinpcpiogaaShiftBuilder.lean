/- strings.Builder within frames: Len, WriteString, String, Reset. -/
import Derived.Test.YtgfafinpcpiogaaShiftBehind
import Derived.Test.YtgfafinpcpiogaaEditBuild
import Derived.Test.YtgfafinpcpiogaaEditOwn
namespace Go.Proofs.Ytgfafinpcpiogaa
open Go.RowKit Go.Shelf EditMath ShiftMath

attribute [local go_sem] Oper.semAt_some

abbrev bdc (p v : Value) : Obj := .cells #[p, v] 113 (0, 0)
/-- a builder of mine that holds l -/
def Bd (B b : Nat) (l : List UInt8) : As := fun X W => ¬ X b ∧ ∃ p v, (p = .pointer none ∨ p = .pointer (some ⟨b, 0, none⟩)) ∧ B ≤ b ∧ W.heap[b]? = some (bdc p v) ∧ W.ownsRowF B 5 1 v (Lib.byteCells l).length (Lib.byteCells l) ∧ v.ownBlock ≠ some b ∧ ∀ k, v.ownBlock = some k → ¬ X k

theorem Bd.isF {B b : Nat} {l : List UInt8} {X : Nat → Prop} {W : World} (h : Bd B b l X W) : Lib.IsBuilderF 113 5 B b (Lib.byteCells l) W := by
  obtain ⟨_, p, v, (rfl | rfl), hB, hb, ho, hn, _⟩ := h
  · exact .inl ⟨hB, v, hb, ho, hn⟩
  · exact .inr ⟨hB, v, hb, ho, hn⟩
theorem Bd.of {B b : Nat} {l : List UInt8} {X : Nat → Prop} {W : World} (h : Lib.IsBuilderF 113 5 B b (Lib.byteCells l) W) (hX : ¬ X b) (hXb : XOk X W) : Bd B b l X W := by
  obtain ⟨p, hp, hB, v, hb, ho, hn⟩ : ∃ p, (p = .pointer none ∨ p = .pointer (some ⟨b, 0, none⟩)) ∧ Lib.BuilderAtF 113 5 B b p (Lib.byteCells l) W := by
    rcases h with h | h
    · exact ⟨_, .inl rfl, h⟩
    · exact ⟨_, .inr rfl, h⟩
  refine ⟨hX, p, v, hp, hB, hb, ho, hn, fun k hk hXk => ?_⟩
  obtain ⟨o, h1, h2⟩ := hXb k hXk
  rcases ho.2 with ⟨rfl, _⟩ | ⟨g, cap, cur, fz, rfl, _, hg, _⟩
  · simp [Value.ownBlock] at hk
  · simp [Value.ownBlock] at hk
    subst hk
    rw [hg] at h1
    injection h1 with h1
    subst h1
    simp [byteRow] at h2
theorem Bd.frames (B b : Nat) (l : List UInt8) : Frames (Bd B b l) := fun X X' W W' h ho hx => by
  obtain ⟨hX, p, v, hp, hB, hb, ⟨hl, h2⟩, hn, hk⟩ := h
  have hlt := (World.ownsRowF.lt ⟨hl, h2⟩ : ∀ k, v.ownBlock = some k → B ≤ k ∧ k < W.heap.size)
  have hbl := (Array.getElem?_eq_some_iff.1 hb).1
  refine ⟨fun h => (hx b h).elim hX (fun hle => by omega), p, v, hp, hB, (ho.block b hbl hX).trans hb, ⟨hl, ?_⟩, hn, fun k hk1 hk' => (hx k hk').elim (hk k hk1) (fun hle => by have := (hlt k hk1).2; omega)⟩
  rcases h2 with h2 | ⟨g, cap, cur, fz, hv, hb2, hg, r⟩
  · exact .inl h2
  · exact .inr ⟨g, cap, cur, fz, hv, hb2, (ho.block g (Array.getElem?_eq_some_iff.1 hg).1 (hk g (by rw [hv]; rfl))).trans hg, r⟩
theorem Bd.new {B : Nat} {X : Nat → Prop} {W : World} {b : Nat} (hX : ¬ X b) (hb : b = W.heap.size) (hB : B ≤ b) : Bd B b [] X (W.alloc (bdc (.pointer none) (.slice none 0 0))) :=
  ⟨hX, _, _, .inl rfl, hB, by rw [hb]; exact World.alloc_heap_new W _, World.ownsRowF_nil _ _ _ _, by simp [Value.ownBlock], fun k hk => by simp [Value.ownBlock] at hk⟩
theorem Bd.lt {B b : Nat} {l : List UInt8} {X : Nat → Prop} {W : World} (h : Bd B b l X W) : b < W.heap.size := by
  obtain ⟨_, p, v, _, _, hb, _⟩ := h
  exact (Array.getElem?_eq_some_iff.1 hb).1

/-- all but the builder's block and rows of bytes are kept -/
structure Oth (B b : Nat) (W W' : World) : Prop where
  low : Below B W W'
  oth : Lib.OthersKept 5 (some b) W W'
theorem Oth.kept {B b : Nat} {W W' : World} {X : Nat → Prop} (h : Oth B b W W') (hX : ¬ X b) (hXb : XOk X W) : Kept X W W' := fun k hk _ => by
  obtain ⟨o, h1, h2⟩ := hXb k hk
  rw [h1]
  refine h.oth k o h1 (fun e => hX (by injection e with e; rwa [← e])) (fun c fz e => ?_)
  subst e
  simp [byteRow] at h2
theorem Oth.has {B b b' : Nat} {W W' : World} {X : Nat → Prop} {o : Obj} (h : Oth B b W W') (hh : Has b' o X W) (hne : b' ≠ b) (ho : byteRow o = false := by rfl) : Has b' o X W' :=
  ⟨hh.1, h.oth b' o hh.2 (fun e => hne (by injection e)) (fun c fz e => by subst e; simp [byteRow] at ho)⟩
theorem Oth.row {B b base size n : Nat} {W W' : World} {X : Nat → Prop} {v : Value} {cs : List Value} (h : Oth B b W W') (hr : Row base 87 size v n cs X W) (hne : ∀ k, v.ownBlock = some k → k ≠ b) : Row base 87 size v n cs X W' := by
  obtain ⟨⟨h1, h2⟩, h3⟩ := hr
  refine ⟨⟨h1, ?_⟩, h3⟩
  rcases h2 with h2 | ⟨g, cap, cur, hv, hb, hg, r⟩
  · exact .inl h2
  · exact .inr ⟨g, cap, cur, hv, hb, h.oth g _ hg (fun e => hne g (by rw [hv]; rfl) (by injection e)) (fun c fz e => by injection e with _ e _; exact absurd e (by decide)), r⟩
theorem Oth.lows {b n : Nat} {w W W' : World} {X : Nat → Prop} (h : Oth n b W W') (hl : Low n w X W) : Low n w X W' := ⟨hl.1.trans h.low, Nat.le_trans hl.2.1 h.low.size, hl.2.2⟩
theorem Oth.xok {B b : Nat} {W W' : World} {X : Nat → Prop} (h : Oth B b W W') (hX : ¬ X b) (hXb : XOk X W) : XOk X W' := hXb.kept (h.kept hX hXb)

theorem bdWrite {B b : Nat} {l : List UInt8} {X : Nat → Prop} {W : World} (s : ByteArray) (h : Bd B b l X W) (hXb : XOk X W) (hlen : l.length + s.size ≤ 140737488355328) (hBw : B ≤ W.heap.size) :
    Calls Try.prog 64 #[.pointer (some ⟨b, 0, none⟩), .string s] W fun e W' => e = .returned (.tuple #[.int .i64 s.size, .nilIface]) ∧ Bd B b (l ++ s.data.toList) X W' ∧ Oth B b W W' := by
  refine (bWrite B b (Lib.byteCells l) s W h.isF (by rw [Lib.byteCells_length]; omega) hBw).mono ?_
  rintro e W' ⟨rfl, h1, h2, h3⟩
  have ho : Oth B b W W' := ⟨h2, h3⟩
  refine ⟨rfl, Bd.of (.inr ?_) h.1 (ho.xok h.1 hXb), ho⟩
  rwa [show Lib.byteCells (l ++ s.data.toList) = Lib.byteCells l ++ Lib.strCells s from by simp [Lib.byteCells, Lib.strCells]]

theorem bdString {B b : Nat} {l : List UInt8} {X : Nat → Prop} {W : World} (h : Bd B b l X W) (hXb : XOk X W) (hBw : B ≤ W.heap.size) :
    Calls Try.prog 65 #[.pointer (some ⟨b, 0, none⟩)] W fun e W' => e = .returned (.string ⟨l.toArray⟩) ∧ Bd B b l X W' ∧ Oth B b W W' := by
  refine (bString B b l W h.isF hBw).mono ?_
  rintro e W' ⟨rfl, h1, h2, h3⟩
  have ho : Oth B b W W' := ⟨h2, h3⟩
  exact ⟨rfl, Bd.of h1 h.1 (ho.xok h.1 hXb), ho⟩

theorem bdLen {B b : Nat} {l : List UInt8} {X : Nat → Prop} {W : World} (h : Bd B b l X W) :
    Calls Try.prog 92 #[.pointer (some ⟨b, 0, none⟩)] W fun e W' => e = .returned (.int .i64 l.length) ∧ W' = W := by
  obtain ⟨_, p, v, _, _, hb, ho, _, _⟩ := h
  obtain ⟨A, c, rfl⟩ : ∃ A c, v = .slice A l.length c := by
    rcases ho.2 with ⟨hv, h0⟩ | ⟨g, cap, cur, fz, hv, _⟩
    · exact ⟨none, 0, by rw [hv, ← Lib.byteCells_length l, h0]⟩
    · exact ⟨_, _, by rw [hv, Lib.byteCells_length]⟩
  have c1 : W.cell? ⟨b, 1, none⟩ = some (.slice A l.length c) := by rw [Lib.cell_of_heap hb]; rfl
  clear hb ho
  go_enter Try.func92, Try.ntmps92
  go_wp2
  go_ret
  exact ⟨rfl, rfl⟩

theorem set_two {W : World} {b : Nat} {p v p' v' : Value} (hb : W.heap[b]? = some (bdc p v)) : ((W.setCell ⟨b, 0, none⟩ p').setCell ⟨b, 1, none⟩ v').heap[b]? = some (bdc p' v') := by
  have h1 := heap_setCell_same W b 0 _ _ p' hb
  have h2 := heap_setCell_same _ b 1 _ _ v' h1
  rw [h2]
  rfl

theorem bdReset {B b : Nat} {l : List UInt8} {X : Nat → Prop} {W : World} (h : Bd B b l X W) :
    Calls Try.prog 93 #[.pointer (some ⟨b, 0, none⟩)] W fun e W' => e = .returned (.tuple #[]) ∧ Bd B b [] X W' ∧ Off (fun j => j = b) W W' ∧ W'.heap.size = W.heap.size := by
  obtain ⟨hX, p, v, _, hB, hb, ho, _, _⟩ := h
  have c0 : W.cell? ⟨b, 0, none⟩ = some p := by rw [Lib.cell_of_heap hb]; rfl
  have c1 : W.cell? ⟨b, 1, none⟩ = some v := by rw [Lib.cell_of_heap hb]; rfl
  have f0 := Lib.frozen_of_heap hb 0
  have f1 := Lib.frozen_of_heap hb 1
  have HB := Lib.hid (set_two (p' := .pointer none) (v' := .slice none 0 0) hb)
  clear hb ho
  go_enter Try.func93, Try.ntmps93
  go_wp2
  refine bodyPost_end (results_none rfl _ _ _) rfl ?_
  refine ⟨rfl, ⟨hX, _, _, .inl rfl, hB, HB.out, World.ownsRowF_nil _ _ _ _, by simp [Value.ownBlock], fun k hk => by simp [Value.ownBlock] at hk⟩, ?_, by simp [World.setCell]⟩
  exact (Off.setCell (X := fun j => j = b) (p := ⟨b, 0, none⟩) rfl W _).trans (Off.setCell (X := fun j => j = b) (p := ⟨b, 1, none⟩) rfl _ _)
end Go.Proofs.Ytgfafinpcpiogaa
