/- The contract of Copy: the same list in a row of the call's own. -/
import Derived.Test.YtfkpnfhhmldodaaFilesAlive
import Derived.Laws.MakeOwn
import Derived.Laws.CopyRow
import Derived.Laws.CopyOwn
namespace Go.Proofs.Ytfkpnfhhmldodaa
open Go.RowKit EditMath FilesMath

theorem run_copy_row2 {P : Program} (w : World) (dT sT ty elem : TypeId) (g o dLen dCap : Nat) (a : Addr) (sLen sCap : Nat) (cur : Array Value) (t : TypeId) (cs : List Value) (n : Nat)
    (hu : P.underlying dT = some (.slice elem)) (hs : (P.info? elem).map (·.size) = some 2)
    (hg : w.heap[g]? = some (.cells cur t (0, 0))) (hn : cs.length = n * 2) (hm : n = Nat.min sLen dLen)
    (hsrc : ∀ j v, cs[j]? = some v → w.cell? (a.add j) = some v) (hfit : o + cs.length ≤ cur.size) (h1 : ∀ v ∈ cs, v.oneCell' = true) :
    (Builtin.copy_ #[dT, sT] ty #[.slice (some ⟨g, o, none⟩) dLen dCap, .slice (some a) sLen sCap]).run P w =
      .ok (goInt n) (w.setRow g (cur.toList.take o ++ cs ++ cur.toList.drop (o + cs.length)).toArray) := by
  have hl := run_loadCells_list (P := P) w a cs hsrc
  have hst := run_storeCells_at P g o t cs 0 cur w hg (by simpa using hfit) h1
  cases hq : P.info? elem with
  | none => simp [hq] at hs
  | some i =>
    have hi : i.size = 2 := by simpa [hq] using hs
    rw [hn] at hl
    simp [Builtin.copy_, run_underlying hu, Builtin.lenOf, Builtin.firstCells, sizeOf, typeInfo, hq, hi, ← hm, hl, hst]

theorem fls_cells {w : World} {B : Nat} {ad : Addr} {l : List Fl} (h : Fls w B (some ad) l) : ∀ (j : Nat) (u : Value), (fcells l)[j]? = some u → w.cell? (ad.add j) = some u := by
  intro j u hu
  obtain ⟨i, e, he, hj⟩ := fcells_split l j u hu
  obtain ⟨b, off, hA, _, c0, c1⟩ := h.at_ he
  injection hA with hA
  subst hA
  have hadd : ∀ n, (⟨b, off, none⟩ : Addr).add n = ⟨b, off + n, none⟩ := fun n => Addr.add_lit _ _ _
  rw [hadd]
  rcases hj with ⟨rfl, rfl⟩ | ⟨rfl, rfl⟩
  · exact c0
  · rw [← Nat.add_assoc]; exact c1

/-- a row of the call's own, whole -/
def CopV (l : List Fl) (w : World) (e : Ending) (w' : World) : Prop := ∃ g, e = .returned (.slice (some ⟨g, 0, none⟩) l.length l.length) ∧ w.heap.size ≤ g ∧ w'.heap[g]? = some (.cells (fcells l).toArray 58 (0, 0)) ∧ Below w.heap.size w w'

theorem row_fls {w : World} {g : Nat} {l : List Fl} (h : w.heap[g]? = some (.cells (fcells l).toArray 58 (0, 0))) : Fls w w.heap.size (some ⟨g, 0, none⟩) l := by
  intro _
  refine ⟨g, 0, rfl, (Array.getElem?_eq_some_iff.1 h).1, fun i e he => ?_⟩
  obtain ⟨h1, h2⟩ := fcells_at l i e he
  exact ⟨by rw [Lib.cell_of_heap h, Nat.zero_add]; simpa using h1, by rw [Lib.cell_of_heap h, Nat.zero_add]; simpa using h2⟩

set_option maxRecDepth 100000 in
set_option maxHeartbeats 1000000 in
theorem copy4_any (A : Option Addr) (c : Nat) (l : List Fl) (w : World) (hl : l.length ≤ 30) (hnil : A = none → c = 0) (hr : Fls w w.heap.size A l) :
    Calls Try.prog 32 #[.slice A l.length c] w (CopV l w) := by
  obtain ⟨i0, hi, hz0, hz1, hz2⟩ := info_parts info_OwnF
  have hmk := fun W => run_makeSlice (P := Try.prog) W 54 58 i0 _ Try.underlying54 hi hz0 .i64 .i64 (l.length : Int) (l.length : Int) (by omega) (Int.le_refl _) (by rw [hz1]; simp; omega) (by rw [hz2]; omega) (by omega)
  rw [hz1] at hmk
  simp only [Int.toNat_natCast] at hmk
  generalize hZ : madeCells (Value.cells (.agg #[.string ⟨#[]⟩, .string ⟨#[]⟩])) (l.length * 2) = Z at hmk
  have hZs : Z.size = l.length * 2 := by rw [← hZ]; exact size_madeCells _ _
  clear hZ
  have hg : (w.alloc (.cells Z 58)).heap[w.heap.size]? = some (.cells Z 58 (0, 0)) := heap_alloc_new w _
  have hB1 : Below w.heap.size w (w.alloc (.cells Z 58)) := below1 _ _
  have hsz : (Try.prog.info? 58).map (·.size) = some 2 := by rw [hi]; simp [hz1]
  go_enter Try.func32, Try.ntmps32
  cases A with
  | none =>
    have hl0 : l = [] := by
      cases l with
      | nil => rfl
      | cons e l => obtain ⟨b, off, hA, _⟩ := hr (by simp); cases hA
    subst hl0
    have hc := hnil rfl
    subst hc
    have hcp := run_copy_nil (P := Try.prog) (w.alloc (.cells Z 58)) 54 54 3 58 ⟨w.heap.size, 0, none⟩ 0 0 Try.underlying54 (by rw [hsz]; rfl)
    have hZ0 : Z = (fcells []).toArray := by
      have : Z = #[] := Array.eq_empty_of_size_eq_zero (by simpa using hZs)
      rw [this]; rfl
    have hmk0 : ∀ W : World, (Instr.makeSlice 54 (.int .i64 0) (.int .i64 0)).run Try.prog W = .ok (.slice (some ⟨W.heap.size, 0, none⟩) 0 0) (W.alloc (.cells Z 58)) := fun W => hmk W
    clear hmk
    have HZ0 := Lib.hid hZ0
    clear hZ0 hZs
    go_wp2
    go_ret
    exact ⟨w.heap.size, rfl, Nat.le_refl _, by rw [← HZ0.out]; exact hg, hB1⟩
  | some ad =>
    have hcp := run_copy_row2 (P := Try.prog) (w.alloc (.cells Z 58)) 54 54 3 58 w.heap.size 0 l.length l.length ad l.length c Z 58 (fcells l) l.length Try.underlying54 hsz hg (fcells_length l) (by simp)
      (fls_cells (hr.alloc (Nat.le_refl _) _)) (by rw [fcells_length]; omega) (fcells_one l)
    have hrow : Z.toList.take 0 ++ fcells l ++ Z.toList.drop (0 + (fcells l).length) = fcells l := by
      rw [List.take_zero, List.nil_append, Nat.zero_add, List.drop_of_length_le (by rw [fcells_length]; simp [hZs]), List.append_nil]
    rw [hrow] at hcp
    have hfin := setRow_heap (w.alloc (.cells Z 58)) w.heap.size Z (fcells l).toArray 58 (0, 0) hg
    have hBf := below_setRow hB1 (Nat.le_refl _) (fcells l).toArray
    go_wp2
    go_ret
    exact ⟨w.heap.size, rfl, Nat.le_refl _, hfin, hBf⟩
end Go.Proofs.Ytfkpnfhhmldodaa
