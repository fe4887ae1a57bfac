/- joined: one edit for edits that touch one another. -/
import Derived.Test.YtfkpnfhhmldodaaEditApply
import Derived.Test.YtfkpnfhhmldodaaEditMerge
import Derived.Test.YtfkpnfhhmldodaaEditOwn
import Derived.Deep.RegionHeld3
import Derived.Deep.DrawnRows
namespace Go.Proofs.Ytfkpnfhhmldodaa
open Go.RowKit EditMath
attribute [local go_sem ↓] Go.wp_at_zero Go.wp_at_succ

theorem txs_snoc {l : List Ed} {k : Nat} {e : Ed} (h : l[k]? = some e) : txs (l.take (k + 1)) = txs (l.take k) ++ e.s.data.toList := by
  rw [take_snoc h, txs_append]; simp [txs]

/-- what a cell holds at the moment -/
def curAt (w : World) (r j : Nat) : Value := (w.cell? ⟨r, j, none⟩).getD undef
theorem curAt_of {w : World} {r j : Nat} {v : Value} (h : w.cell? ⟨r, j, none⟩ = some v) : w.cell? ⟨r, j, none⟩ = some (curAt w r j) := by unfold curAt; rw [h]; rfl
@[local simp] theorem curAt_drew (w : World) (r j : Nat) : curAt w.drew r j = curAt w r j := rfl
theorem curAt_below {w w' : World} {B r j : Nat} (h : w.cell? ⟨r, j, none⟩ = some (curAt w r j)) (hb : Below B w w') (hr : r < B) : w'.cell? ⟨r, j, none⟩ = some (curAt w' r j) :=
  curAt_of ((hb.cell (p := ⟨r, j, none⟩) hr).trans h)
theorem curAt_set {w : World} {r j i : Nat} (h : w.cell? ⟨r, j, none⟩ = some (curAt w r j)) (x : Value) : (w.setCell ⟨r, i, none⟩ x).cell? ⟨r, j, none⟩ = some (curAt (w.setCell ⟨r, i, none⟩ x) r j) := by
  obtain ⟨v, hv⟩ := cell?_setCell_some (w := w) (p := ⟨r, i, none⟩) (x := x) (q := ⟨r, j, none⟩) h
  exact curAt_of hv
theorem cell_far {w : World} {r b i o : Nat} {v : Value} (h : w.cell? ⟨b, o, none⟩ = some v) (hbr : b ≠ r) (x : Value) : (w.setCell ⟨r, i, none⟩ x).cell? ⟨b, o, none⟩ = some v := by
  rw [World.cell?_setCell_other _ _ _ _ (fun e => hbr (by injection e with e1; exact e1.symm))]; exact h

theorem js_store {w : World} {b o1 o2 r : Nat} {v1 v2 : Value} (h1 : w.cell? ⟨b, o1, none⟩ = some v1) (h2 : w.cell? ⟨b, o2, none⟩ = some v2) (c0 : w.cell? ⟨r, 0, none⟩ = some (curAt w r 0)) (c1 : w.cell? ⟨r, 1, none⟩ = some (curAt w r 1)) (c2 : w.cell? ⟨r, 2, none⟩ = some (curAt w r 2))
    (f0 : w.frozen? ⟨r, 0, none⟩ = false) (f1 : w.frozen? ⟨r, 1, none⟩ = false) (f2 : w.frozen? ⟨r, 2, none⟩ = false) (hbr : b ≠ r) (x y u : Value) :
    (((w.setCell ⟨r, 0, none⟩ x).setCell ⟨r, 1, none⟩ y).setCell ⟨r, 2, none⟩ u).cell? ⟨b, o1, none⟩ = some v1 ∧ (((w.setCell ⟨r, 0, none⟩ x).setCell ⟨r, 1, none⟩ y).setCell ⟨r, 2, none⟩ u).cell? ⟨b, o2, none⟩ = some v2 ∧
    (((w.setCell ⟨r, 0, none⟩ x).setCell ⟨r, 1, none⟩ y).setCell ⟨r, 2, none⟩ u).cell? ⟨r, 0, none⟩ = some (curAt (((w.setCell ⟨r, 0, none⟩ x).setCell ⟨r, 1, none⟩ y).setCell ⟨r, 2, none⟩ u) r 0) ∧
    (((w.setCell ⟨r, 0, none⟩ x).setCell ⟨r, 1, none⟩ y).setCell ⟨r, 2, none⟩ u).cell? ⟨r, 1, none⟩ = some (curAt (((w.setCell ⟨r, 0, none⟩ x).setCell ⟨r, 1, none⟩ y).setCell ⟨r, 2, none⟩ u) r 1) ∧
    (((w.setCell ⟨r, 0, none⟩ x).setCell ⟨r, 1, none⟩ y).setCell ⟨r, 2, none⟩ u).cell? ⟨r, 2, none⟩ = some (curAt (((w.setCell ⟨r, 0, none⟩ x).setCell ⟨r, 1, none⟩ y).setCell ⟨r, 2, none⟩ u) r 2) ∧
    (((w.setCell ⟨r, 0, none⟩ x).setCell ⟨r, 1, none⟩ y).setCell ⟨r, 2, none⟩ u).frozen? ⟨r, 0, none⟩ = false ∧ (((w.setCell ⟨r, 0, none⟩ x).setCell ⟨r, 1, none⟩ y).setCell ⟨r, 2, none⟩ u).frozen? ⟨r, 1, none⟩ = false ∧
    (((w.setCell ⟨r, 0, none⟩ x).setCell ⟨r, 1, none⟩ y).setCell ⟨r, 2, none⟩ u).frozen? ⟨r, 2, none⟩ = false :=
  ⟨cell_far (cell_far (cell_far h1 hbr _) hbr _) hbr _, cell_far (cell_far (cell_far h2 hbr _) hbr _) hbr _, curAt_set (curAt_set (curAt_set c0 _) _) _, curAt_set (curAt_set (curAt_set c1 _) _) _, curAt_set (curAt_set (curAt_set c2 _) _) _,
    by simpa using f0, by simpa using f1, by simpa using f2⟩

theorem set_here {w : World} {p : Addr} (h : (w.cell? p).isSome = true) (x : Value) : (w.setCell p x).cell? p = some x := by
  exact World.cell?_setCell_same' w p x h
theorem set_there {w : World} {p q : Addr} (h : (w.cell? q).isSome = true) (x : Value) : ((w.setCell p x).cell? q).isSome = true := by
  obtain ⟨v, hv⟩ := Option.isSome_iff_exists.1 h
  obtain ⟨v', hv'⟩ := cell?_setCell_some (w := w) (p := p) (x := x) (q := q) hv
  exact Option.isSome_of_eq_some hv'

theorem three_set {w : World} {r : Nat} (h0 : (w.cell? ⟨r, 0, none⟩).isSome = true) (h1 : (w.cell? ⟨r, 1, none⟩).isSome = true) (h2 : (w.cell? ⟨r, 2, none⟩).isSome = true) (x y u : Value) :
    (((w.setCell ⟨r, 0, none⟩ x).setCell ⟨r, 1, none⟩ y).setCell ⟨r, 2, none⟩ u).cell? ⟨r, 0, none⟩ = some x ∧ (((w.setCell ⟨r, 0, none⟩ x).setCell ⟨r, 1, none⟩ y).setCell ⟨r, 2, none⟩ u).cell? ⟨r, 1, none⟩ = some y ∧
    (((w.setCell ⟨r, 0, none⟩ x).setCell ⟨r, 1, none⟩ y).setCell ⟨r, 2, none⟩ u).cell? ⟨r, 2, none⟩ = some u := by
  refine ⟨?_, ?_, ?_⟩
  · rw [World.cell?_setCell_other _ _ _ _ (by simp), World.cell?_setCell_other _ _ _ _ (by simp)]; exact set_here h0 x
  · rw [World.cell?_setCell_other _ _ _ _ (by simp)]; exact set_here (set_there h1 _) y
  · exact set_here (set_there (set_there h2 _) _) u

/-- behind some rounds: the builder holds so many texts -/
def JoinI (w : World) (l : List Ed) (B : Nat) (i : Value) (wr : World) : Prop :=
  ∃ k : Nat, k ≤ l.length ∧ i = .int .i64 (k : Int) ∧ Below B w wr ∧ B ≤ wr.heap.size ∧ Lib.IsBuilderF 113 5 B B (Lib.byteCells (txs (l.take k))) wr

set_option maxRecDepth 100000 in
set_option maxHeartbeats 2000000 in
theorem joined_any (A : Option Addr) (c : Nat) (l : List Ed) (z : Nat) (e0 d : Ed) (hz : l.length = z + 1) (he0 : l[0]? = some e0) (hd : l[z]? = some d) (htx : tx l ≤ 70000) (w : World) (hl : l.length ≤ 10000) (hr : Eds w w.heap.size A l) :
    Calls Try.prog 119 #[.slice A l.length c] w fun e w' => e = .returned (.agg #[.int .i64 e0.f, .int .i64 d.t, .string ⟨(txs l).toArray⟩]) ∧ Below w.heap.size w w' := by
  have HZ := Lib.hid hz
  have HE0 := Lib.hid he0
  have HD := Lib.hid hd
  have hl1 : z < l.length := by omega
  have hl2 : l.length ≤ z + 1 := by omega
  clear hz he0 hd
  go_enter Try.func119, Try.ntmps119
  go_wp2
  have hst : JoinI (w.alloc (.cells #[.int .i64 0, .int .i64 0, .string ⟨#[]⟩] 87)) l (w.heap.size + 1) (.int .i64 0) ((w.alloc (.cells #[.int .i64 0, .int .i64 0, .string ⟨#[]⟩] 87)).alloc (.cells #[.pointer none, .slice none 0 0] 113)) := by
    have h1 := Lib.fresh_isBuilder 113 5 (w.alloc (.cells #[.int .i64 0, .int .i64 0, .string ⟨#[]⟩] 87))
    have h2 : (w.alloc (.cells #[.int .i64 0, .int .i64 0, .string ⟨#[]⟩] 87)).heap.size = w.heap.size + 1 := by simp
    rw [h2] at h1
    refine ⟨0, Nat.zero_le _, rfl, (Below.refl _ _).alloc (by simp) _, by simp, ?_⟩
    exact Lib.IsBuilderF.of h1
  go_loopw [8] (fun i wr => JoinI (w.alloc (.cells #[.int .i64 0, .int .i64 0, .string ⟨#[]⟩] 87)) l (w.heap.size + 1) i wr) (fun i _ => l.length + 1 - (intOf i).toNat)
  case atStart => exact hst
  case round =>
    clear hst
    obtain ⟨k, hk, rfl, hB, hBw, hbd⟩ := hrel
    have hW := below1 w (.cells #[.int .i64 0, .int .i64 0, .string ⟨#[]⟩] 87)
    have hBB : Below w.heap.size w wr := hW.trans (hB.mono (by omega))
    have b2 := tx_take_le l k
    have b3 := tx_nonneg (l.take k)
    have b4 := txs_length (l.take k)
    have hbl : (txs (l.take k)).length ≤ 70000 := by omega
    clear hW b3 b4 b2
    by_cases hlt : k < l.length
    · have he : l[k]? = some l[k] := List.getElem?_eq_getElem hlt
      generalize l[k] = e at he
      have z2 : (k : Int) < l.length := by omega
      obtain ⟨b, off, rfl, hb, c0, c1, c2⟩ := (hr.below hBB).at_ he
      have HR := Lib.hid (txs_snoc he)
      have hle : (e.s.size : Int) ≤ 70000 := by
        have h1 := tx_snoc he
        have h2 := tx_take_le l (k + 1)
        have h3 := tx_nonneg (l.take k)
        omega
      have hbb : b < wr.heap.size := Nat.lt_of_lt_of_le hb hBB.size
      have hne : b ≠ wr.heap.size := by omega
      clear he hr
      generalize txs (l.take k) = acc at *
      go_wp2_with fail
      refine (bWrite (w.heap.size + 1) (w.heap.size + 1) (Lib.byteCells acc) e.s _ (Lib.IsBuilderF.alloc hbd _) (by rw [Lib.byteCells_length]; omega) (by simp; omega)).mono ?_
      rintro r w3 ⟨rfl, hbd3, hB3, _⟩
      have hs3 : wr.heap.size + 1 ≤ w3.heap.size := by have := hB3.size; simpa using this
      have HB3 := (hB.alloc hBw _).trans hB3
      have HD3 := Lib.hid hbd3
      clear hbd hbd3 hB3 c0 c1 c2
      go_wp2
      go_roundw
      case rel =>
        refine ⟨k + 1, by omega, by go_num, HB3, by omega, .inr ?_⟩
        rw [HR.out]
        have := HD3.out
        rw [Lib.strCells_eq, ← Lib.byteCells_append] at this
        exact this
      case measure => simp [intOf]; omega
    · obtain rfl : k = l.length := by omega
      rw [List.take_length] at hbd hbl
      have hg : wr.heap[w.heap.size]? = some (.cells #[.int .i64 0, .int .i64 0, .string ⟨#[]⟩] 87 (0, 0)) := by
        rw [hB.block w.heap.size (by omega)]; exact heap_alloc_new w _
      have hr0 : wr.cell? ⟨w.heap.size, 0, none⟩ = some (curAt wr w.heap.size 0) := curAt_of (cells_three hg).1
      have hr1 : wr.cell? ⟨w.heap.size, 1, none⟩ = some (curAt wr w.heap.size 1) := curAt_of (cells_three hg).2.1
      have hr2 : wr.cell? ⟨w.heap.size, 2, none⟩ = some (curAt wr w.heap.size 2) := curAt_of (cells_three hg).2.2
      have g0 := Lib.frozen_of_heap hg 0
      have g1 := Lib.frozen_of_heap hg 1
      have g2 := Lib.frozen_of_heap hg 2
      clear hg
      obtain ⟨b, off, rfl, hb, ⟨c0, c1, c2⟩, ⟨d0, d1, d2⟩⟩ := (hr.below hBB).at2 HE0.out HD.out
      have z1 : (0 : Int) ≤ z := by omega
      have z2 : (z : Int) < l.length := by omega
      have z3 : (0 : Int) < l.length := by omega
      have hz1 : (l.length : Int) - 1 = z := by omega
      have z6 : IntKind.i64.wrap (z : Int) = z := IntWalk.i64_in _ (by omega)
      have hbr : b ≠ w.heap.size := by omega
      simp only [Nat.zero_mul, Nat.add_zero] at c0
      clear hr c1 c2 d0 d2
      generalize hacc : txs l = acc at *
      have HACC := Lib.hid hacc
      clear hacc
      go_wp2
      have z7 : 0 < l.length := by omega
      go_region_held3 (fun w' => w'.cell? ⟨b, off, none⟩ = some (.int .i64 e0.f) ∧ w'.cell? ⟨b, off + z * 3 + 1, none⟩ = some (.int .i64 d.t) ∧
          w'.cell? ⟨w.heap.size, 0, none⟩ = some (curAt w' w.heap.size 0) ∧ w'.cell? ⟨w.heap.size, 1, none⟩ = some (curAt w' w.heap.size 1) ∧ w'.cell? ⟨w.heap.size, 2, none⟩ = some (curAt w' w.heap.size 2) ∧
          w'.frozen? ⟨w.heap.size, 0, none⟩ = false ∧ w'.frozen? ⟨w.heap.size, 1, none⟩ = false ∧ w'.frozen? ⟨w.heap.size, 2, none⟩ = false)
        (first
          | (go_keep; done)
          | (go_split_ands
             refine ⟨?_, ?_, ?_, ?_, ?_, ?_, ?_, ?_⟩
             · (rw [hB4.cell (p := ⟨b, off, none⟩) (by simp; omega)]; assumption)
             · (rw [hB4.cell (p := ⟨b, off + z * 3 + 1, none⟩) (by simp; omega)]; assumption)
             · (refine curAt_below (B := w.heap.size + 1) ?_ hB4 (by omega); assumption)
             · (refine curAt_below (B := w.heap.size + 1) ?_ hB4 (by omega); assumption)
             · (refine curAt_below (B := w.heap.size + 1) ?_ hB4 (by omega); assumption)
             · (rw [hB4.frozen (p := ⟨w.heap.size, 0, none⟩) (by simp)]; assumption)
             · (rw [hB4.frozen (p := ⟨w.heap.size, 1, none⟩) (by simp)]; assumption)
             · (rw [hB4.frozen (p := ⟨w.heap.size, 2, none⟩) (by simp)]; assumption))
          | (go_split_ands
             refine ⟨?_, ?_, ?_, ?_, ?_, ?_, ?_, ?_⟩
             all_goals (first | (refine cell_far (cell_far (cell_far ?_ hbr _) hbr _) hbr _; assumption) | (refine curAt_set (curAt_set (curAt_set ?_ _) _) _; assumption) | go_keep)))
        ((go_at_call 65; refine (bString (w.heap.size + 1) (w.heap.size + 1) acc _ (by first | exact hbd | exact hbd.imp (fun h => h.drew) (fun h => h.drew)) (by first | exact hBw | (simp; omega))).mono ?_; rintro r w4 ⟨rfl, _, hB4, _⟩))
      have c4 : ∀ j, j < 3 → (w4.cell? ⟨w.heap.size, j, none⟩).isSome = true := by
        intro j hj
        have hb := hB4.cell (p := ⟨w.heap.size, j, none⟩) (by simp)
        rw [hb]
        match j, hj with
        | 0, _ => exact Option.isSome_of_eq_some hr0
        | 1, _ => exact Option.isSome_of_eq_some hr1
        | 2, _ => exact Option.isSome_of_eq_some hr2
      obtain ⟨r0, r1, r2⟩ := three_set (c4 0 (by omega)) (c4 1 (by omega)) (c4 2 (by omega)) (.int .i64 e0.f) (.int .i64 d.t) (.string ⟨acc.toArray⟩)
      have hbf : Below w.heap.size w (((w4.setCell ⟨w.heap.size, 0, none⟩ (.int .i64 e0.f)).setCell ⟨w.heap.size, 1, none⟩ (.int .i64 d.t)).setCell ⟨w.heap.size, 2, none⟩ (.string ⟨acc.toArray⟩)) :=
        (((hBB.drew.trans (hB4.mono (by omega))).setCell (p := ⟨w.heap.size, 0, none⟩) (Nat.le_refl _) _).setCell (p := ⟨w.heap.size, 1, none⟩) (Nat.le_refl _) _).setCell (p := ⟨w.heap.size, 2, none⟩) (Nat.le_refl _) _
      clear c4 hr0 hr1 hr2 g0 g1 g2 c0 d1 hB4
      generalize ((w4.setCell ⟨w.heap.size, 0, none⟩ (.int .i64 e0.f)).setCell ⟨w.heap.size, 1, none⟩ (.int .i64 d.t)).setCell ⟨w.heap.size, 2, none⟩ (.string ⟨acc.toArray⟩) = w5 at *
      go_wp2
      refine bodyPost_ret (v := .agg #[.int .i64 e0.f, .int .i64 d.t, .string ⟨acc.toArray⟩]) (by simp [results, Try.results119, go_sem, r0, r1, r2]) rfl ⟨by rw [HACC.out], hbf⟩

end Go.Proofs.Ytfkpnfhhmldodaa
