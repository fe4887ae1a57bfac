/- What both Goes of a workspace answer. -/
import Derived.Test.YtgfafinpcpiogaaFilesPatches
import Derived.Test.YtgfafinpcpiogaaShiftGoesWalk
namespace Go.Proofs.Ytgfafinpcpiogaa
open Go.RowKit Go.Shelf EditMath ShiftMath FilesMath

theorem src_len4 {l : List Ed} {size : Int} (hR : rt l size = true) (hsz : size ≤ 50000) (htx : tx l ≤ 50000) : (srcOf (pcs l size)).length ≤ 10000000 := by
  have h := (pcs_pos hR).2.2
  have g := (gr_bounds hR).1
  omega

theorem goes_pair4 (A : Option Addr) (c : Nat) (l : List Ed) (size x : Int) (w : World) (hl : l.length ≤ 10000) (hsz : size ≤ 50000) (htx : tx l ≤ 50000) (hr : Eds w w.heap.size A l) :
    Pair w 14 16 #[.slice A l.length c, .int .i64 size, .int .i64 x] := by
  cases hR : rt l size with
  | false => exact ⟨0, 2, by omega, fun W hW => goes_bad A c l size x W (by omega) (hr.after hW) hR, fun W hW => refGoes_bad A c l size x W (by omega) (hr.after hW) hR⟩
  | true =>
    have hs : Small l := small_of hR (by omega) (by omega)
    obtain ⟨hP, hW, _⟩ := pcs_pos hR
    have h1 := fun W hW => goes_ok A c l size x W (by omega) (hr.after hW) hR (by omega) hs
    have h2 := fun W hW => refGoes_ok A c l size x W (by omega) (hr.after hW) hR (by omega) hs (src_len4 hR hsz htx)
    by_cases hx : 0 ≤ x
    · have key := goes_eq hx (pcs l size) 0 (by omega) hP hW
      cases hf : ((pcs l size).filter went).find? (inP x) with
      | some p =>
        rw [hf] at key
        obtain ⟨i, hi, e⟩ := key
        refine ⟨i, 0, by omega, fun W hW => ?_, fun W hW => ?_⟩
        · have := h1 W hW; rw [goesR, hf] at this; simp only at this; rw [show x + (p.a - p.f) = (i : Int) by omega] at this; exact this
        · have := h2 W hW; rw [rgR, if_pos hx, hi] at this; exact this
      | none =>
        rw [hf] at key
        refine ⟨0, 5, by omega, fun W hW => ?_, fun W hW => ?_⟩
        · have := h1 W hW; rw [goesR, hf] at this; exact this
        · have := h2 W hW; rw [rgR, if_pos hx, key] at this; exact this
    · have hf : ((pcs l size).filter went).find? (inP x) = none := find_none fun p hp => by
        obtain ⟨hp1, hp2⟩ := List.mem_filter.1 hp
        have := (hW p hp1).1 hp2
        rw [inP, decide_eq_false (by omega), Bool.false_and]
      refine ⟨0, 5, by omega, fun W hW => ?_, fun W hW => ?_⟩
      · have := h1 W hW; rw [goesR, hf] at this; exact this
      · have := h2 W hW; rw [rgR, if_neg hx] at this; exact this

/-- the last patch of a file's name -/
def selP (m : List Pt) (n : ByteArray) : Option Pt := m.foldl (fun acc p => if p.n = n then some p else acc) none
theorem selP_snoc {m : List Pt} {k : Nat} {p : Pt} (h : m[k]? = some p) (n : ByteArray) : selP (m.take (k + 1)) n = if p.n = n then some p else selP (m.take k) n := by
  unfold selP
  rw [ptake_snoc h, List.foldl_append]
  rfl
def selV : Option Pt → Value
  | some p => .slice p.A p.l.length p.c
  | none => .slice none 0 0
theorem selP_none {m : List Pt} {n : ByteArray} (h : ∀ (i : Nat) (p : Pt), m[i]? = some p → p.n ≠ n) : ∀ k, selP (m.take k) n = none := by
  intro k
  induction k with
  | zero => simp [selP]
  | succ k ih =>
    cases hp : m[k]? with
    | none => rw [List.take_add_one, hp]; simpa using ih
    | some p => rw [selP_snoc hp, if_neg (h k p hp)]; exact ih
theorem selP_one {m : List Pt} {n : ByteArray} {i : Nat} {p : Pt} (hi : m[i]? = some p) (hn : p.n = n) (h : ∀ (j : Nat) (q : Pt), m[j]? = some q → q.n = n → j = i) : ∀ k, i < k → selP (m.take k) n = some p := by
  intro k
  induction k with
  | zero => intro hk; omega
  | succ k ih =>
    intro hk
    cases hp : m[k]? with
    | none =>
      have := (List.getElem?_eq_some_iff.1 hi).1
      have h2 := List.getElem?_eq_none_iff.1 hp
      rw [List.take_add_one, hp]
      simpa using ih (by omega)
    | some q =>
      rw [selP_snoc hp]
      by_cases hq : q.n = n
      · rw [if_pos hq]
        have := h k q hp hq
        subst this
        rw [hi] at hp
        exact hp.symm
      · rw [if_neg hq]
        refine ih ?_
        by_cases e : i = k
        · subst e; rw [hi] at hp; injection hp with hp; subst hp; exact absurd hn hq
        · omega

abbrev posv (x y : Int) : Value := .agg #[.int .i64 x, .int .i64 y]
theorem er_errV (n : Int) : errV n = er n := rfl
/-- a place's two cells -/
theorem pos_cells {w : World} {b : Nat} {x y : Int} (h : w.heap[b]? = some (.cells #[.int .i64 x, .int .i64 y] 80 (0, 0))) : w.cell? ⟨b, 0, none⟩ = some (.int .i64 x) ∧ w.cell? ⟨b, 1, none⟩ = some (.int .i64 y) ∧ w.frozen? ⟨b, 0, none⟩ = false ∧ w.frozen? ⟨b, 1, none⟩ = false :=
  ⟨by rw [Lib.cell_of_heap h]; rfl, by rw [Lib.cell_of_heap h]; rfl, Lib.frozen_of_heap h 0, Lib.frozen_of_heap h 1⟩
theorem pos_set {w : World} {b : Nat} {x y : Int} (h : w.heap[b]? = some (.cells #[.int .i64 x, .int .i64 y] 80 (0, 0))) (u v : Int) :
    ((w.setCell ⟨b, 0, none⟩ (.int .i64 u)).setCell ⟨b, 1, none⟩ (.int .i64 v)).cell? ⟨b, 0, none⟩ = some (.int .i64 u) ∧ ((w.setCell ⟨b, 0, none⟩ (.int .i64 u)).setCell ⟨b, 1, none⟩ (.int .i64 v)).cell? ⟨b, 1, none⟩ = some (.int .i64 v) := by
  have h1 : (w.setCell ⟨b, 0, none⟩ (.int .i64 u)).heap[b]? = some (.cells #[.int .i64 u, .int .i64 y] 80 (0, 0)) := heap_setCell_same w b 0 _ _ _ h
  have h2 : ((w.setCell ⟨b, 0, none⟩ (.int .i64 u)).setCell ⟨b, 1, none⟩ (.int .i64 v)).heap[b]? = some (.cells #[.int .i64 u, .int .i64 v] 80 (0, 0)) := heap_setCell_same _ b 1 _ _ _ h1
  exact ⟨(pos_cells h2).1, (pos_cells h2).2.1⟩

def GoV (x y n : Int) (w : World) (e : Ending) (w' : World) : Prop := e = .returned (.tuple #[posv x y, er n]) ∧ Below w.heap.size w w'
def GoR (x y n : Int) (w : World) (e : Ending) (w' : World) : Prop := e = .returned (.tuple #[posv x y, .int .i64 n]) ∧ Below w.heap.size w w'

section
variable (A A2 : Option Addr) (c c2 : Nat) (l : List Fl) (m : List Pt) (w : World) (pf pa : Int)

set_option maxRecDepth 100000 in
set_option maxHeartbeats 4000000 in
theorem goes4_any (hl : l.length ≤ 30) (hc : l.length ≤ c) (ht : tot l ≤ 50000) (hlm : m.length ≤ 30) (hpt : ptot m ≤ 50000) (hpl : ∀ (i : Nat) (p : Pt), m[i]? = some p → p.l.length ≤ 10000) (hr : Fls w w.heap.size A l) (hr2 : Pts w w.heap.size A2 m) (hb : pbad l (m.map pd) ≠ 0) :
    Calls Try.prog 47 #[.slice A l.length c, posv pf pa, .slice A2 m.length c2] w (GoV 0 0 (pbad l (m.map pd)) w) := by
  have hB0 := below2 w (.cells #[.int .i64 pf, .int .i64 pa] 80) (.cells #[.int .i64 0, .int .i64 0] 80)
  have HPA := Lib.hid (patched_any A A2 c c2 l m _ hl hc ht hlm hpt hpl (hr.after hB0) (hr2.after hB0))
  have hx : ((w.alloc (.cells #[.int .i64 pf, .int .i64 pa] 80)).alloc (.cells #[.int .i64 0, .int .i64 0] 80)).heap[w.heap.size + 1]? = some (.cells #[.int .i64 0, .int .i64 0] 80 (0, 0)) := second_new2 _ _ _
  rw [if_neg hb] at HPA
  unfold PchV at HPA
  generalize pbad l (m.map pd) = n at *
  have hen : er n = errn n := by unfold er; rw [if_neg hb]
  rw [hen] at HPA
  have HX := Lib.hid hx
  clear hx
  go_enter Try.func47, Try.ntmps47
  go_wp2_with fail
  refine HPA.out.mono ?_
  rintro e w1 ⟨A1, c1, rfl, hN1, hb1⟩
  have hx1 : w1.heap[w.heap.size + 1]? = some (.cells #[.int .i64 0, .int .i64 0] 80 (0, 0)) := (hb1.block (w.heap.size + 1) (by simp)).trans HX.out
  obtain ⟨x0, x1, f0, f1⟩ := pos_cells hx1
  obtain ⟨r0, r1⟩ := pos_set hx1 0 0
  have HR0 := Lib.hid r0
  have HR1 := Lib.hid r1
  have hB1 := hB0.trans (hb1.mono hB0.size)
  clear r0 r1 hx1
  go_wp2
  have r0 := HR0.out
  have r1 := HR1.out
  refine bodyPost_ret (v := .tuple #[posv 0 0, errn n]) (by simp [results, Try.results47, go_sem, r0, r1]) rfl ⟨by rw [hen], (hB1.setCell (p := ⟨w.heap.size + 1, 0, none⟩) (by simp) _).setCell (p := ⟨w.heap.size + 1, 1, none⟩) (by simp) _⟩

set_option maxRecDepth 100000 in
set_option maxHeartbeats 4000000 in
theorem goes4_out (hl : l.length ≤ 30) (hc : l.length ≤ c) (ht : tot l ≤ 50000) (hlm : m.length ≤ 30) (hpt : ptot m ≤ 50000) (hpl : ∀ (i : Nat) (p : Pt), m[i]? = some p → p.l.length ≤ 10000) (hr : Fls w w.heap.size A l) (hr2 : Pts w w.heap.size A2 m) (hb : pbad l (m.map pd) = 0) (hout : pf < 0 ∨ (l.length : Int) ≤ pf) :
    Calls Try.prog 47 #[.slice A l.length c, posv pf pa, .slice A2 m.length c2] w (GoV 0 0 5 w) := by
  have hB0 := below2 w (.cells #[.int .i64 pf, .int .i64 pa] 80) (.cells #[.int .i64 0, .int .i64 0] 80)
  have HPA := Lib.hid (patched_any A A2 c c2 l m _ hl hc ht hlm hpt hpl (hr.after hB0) (hr2.after hB0))
  have hx : ((w.alloc (.cells #[.int .i64 pf, .int .i64 pa] 80)).alloc (.cells #[.int .i64 0, .int .i64 0] 80)).heap[w.heap.size + 1]? = some (.cells #[.int .i64 0, .int .i64 0] 80 (0, 0)) := second_new2 _ _ _
  have hy : ((w.alloc (.cells #[.int .i64 pf, .int .i64 pa] 80)).alloc (.cells #[.int .i64 0, .int .i64 0] 80)).heap[w.heap.size]? = some (.cells #[.int .i64 pf, .int .i64 pa] 80 (0, 0)) := first_new2 _ _ _
  rw [hb, if_pos rfl] at HPA
  generalize (prun l (m.map pd)).2 = nums at *
  have HX := Lib.hid hx
  have HY := Lib.hid hy
  clear hx hy hb
  have d : decide (pf < 0) = true ∨ (decide (pf < 0) = false ∧ decide ((l.length : Int) ≤ pf) = true) := by
    rcases hout with h | h
    · exact .inl (decide_eq_true h)
    · by_cases h0 : pf < 0
      · exact .inl (decide_eq_true h0)
      · exact .inr ⟨decide_eq_false h0, decide_eq_true h⟩
  rcases d with d | ⟨d, d'⟩
  all_goals
    go_enter Try.func47, Try.ntmps47
    go_wp2_with fail
    refine HPA.out.mono ?_
    rintro e w1 ⟨A1, c1, rfl, hN1, hb1⟩
    rw [show er 0 = Value.nilIface from rfl]
    have hx1 : w1.heap[w.heap.size + 1]? = some (.cells #[.int .i64 0, .int .i64 0] 80 (0, 0)) := (hb1.block (w.heap.size + 1) (by simp)).trans HX.out
    have hy1 : w1.heap[w.heap.size]? = some (.cells #[.int .i64 pf, .int .i64 pa] 80 (0, 0)) := (hb1.block w.heap.size (by simp; omega)).trans HY.out
    obtain ⟨x0, x1, f0, f1⟩ := pos_cells hx1
    obtain ⟨y0, y1, _, _⟩ := pos_cells hy1
    obtain ⟨r0, r1⟩ := pos_set hx1 0 0
    have HR0 := Lib.hid r0
    have HR1 := Lib.hid r1
    have hB1 := hB0.trans (hb1.mono hB0.size)
    clear r0 r1 hx1 hy1
    go_wp2
    have r0 := HR0.out
    have r1 := HR1.out
    refine bodyPost_ret (v := .tuple #[posv 0 0, errn 5]) (by simp [results, Try.results47, go_sem, r0, r1]) rfl ⟨rfl, (hB1.setCell (p := ⟨w.heap.size + 1, 0, none⟩) (by simp) _).setCell (p := ⟨w.heap.size + 1, 1, none⟩) (by simp) _⟩

set_option maxRecDepth 100000 in
set_option maxHeartbeats 8000000 in
theorem goes4_in (q : Nat) (f : Fl) (eA : Option Addr) (ec : Nat) (el : List Ed) (a n x y : Int) (hxy : (n = 0 ∧ x = q ∧ y = a) ∨ (n ≠ 0 ∧ x = 0 ∧ y = 0)) (hl : l.length ≤ 30) (hc : l.length ≤ c) (ht : tot l ≤ 50000) (hlm : m.length ≤ 30) (hpt : ptot m ≤ 50000) (hpl : ∀ (i : Nat) (p : Pt), m[i]? = some p → p.l.length ≤ 10000) (hr : Fls w w.heap.size A l) (hr2 : Pts w w.heap.size A2 m) (hb : pbad l (m.map pd) = 0)
    (hnl : (prun l (m.map pd)).2.length ≤ 100) (hf : l[q]? = some f) (hsel : (∃ (i : Nat) (pn : ByteArray), ixI (prun l (m.map pd)).2 q = i ∧ m[i]? = some ⟨pn, eA, ec, el⟩) ∨ (ixI (prun l (m.map pd)).2 q = -1 ∧ eA = none ∧ ec = 0 ∧ el = []))
    (hG : ∀ W, Below w.heap.size w W → Calls Try.prog 14 #[.slice eA el.length ec, .int .i64 (f.t.size : Int), .int .i64 pa] W fun e w' => e = .returned (.tuple #[.int .i64 a, er n]) ∧ Below W.heap.size W w') :
    Calls Try.prog 47 #[.slice A l.length c, posv (q : Int) pa, .slice A2 m.length c2] w (GoV x y n w) := by
  have hB0 := below2 w (.cells #[.int .i64 (q : Int), .int .i64 pa] 80) (.cells #[.int .i64 0, .int .i64 0] 80)
  have HPA := Lib.hid (patched_any A A2 c c2 l m _ hl hc ht hlm hpt hpl (hr.after hB0) (hr2.after hB0))
  have hx : ((w.alloc (.cells #[.int .i64 (q : Int), .int .i64 pa] 80)).alloc (.cells #[.int .i64 0, .int .i64 0] 80)).heap[w.heap.size + 1]? = some (.cells #[.int .i64 0, .int .i64 0] 80 (0, 0)) := second_new2 _ _ _
  have hy : ((w.alloc (.cells #[.int .i64 (q : Int), .int .i64 pa] 80)).alloc (.cells #[.int .i64 0, .int .i64 0] 80)).heap[w.heap.size]? = some (.cells #[.int .i64 (q : Int), .int .i64 pa] 80 (0, 0)) := first_new2 _ _ _
  rw [hb, if_pos rfl] at HPA
  generalize (prun l (m.map pd)).2 = nums at *
  have HX := Lib.hid hx
  have HY := Lib.hid hy
  have HG := Lib.hid hG
  have HFR := Lib.hid hr
  have HPR := Lib.hid hr2
  have hql := (List.getElem?_eq_some_iff.1 hf).1
  have HF := Lib.hid hf
  have HSEL := Lib.hid hsel
  have hfs := (sizes_of ht q f hf).2
  clear hx hy hb hG hr hr2 hf hsel hpl hpt ht
  have z0 : decide ((q : Int) < 0) = false := decide_eq_false (by omega)
  have z1 : decide (l.length ≤ q) = false := decide_eq_false (by omega)
  have z2 : (0 : Int) ≤ q := by omega
  have z3 : (q : Int) < l.length := by omega
  go_enter Try.func47, Try.ntmps47
  go_wp2_with fail
  refine HPA.out.mono ?_
  rintro e w1 ⟨A1, c1, rfl, hN1, hb1⟩
  rw [show er 0 = Value.nilIface from rfl]
  have hx1 : w1.heap[w.heap.size + 1]? = some (.cells #[.int .i64 0, .int .i64 0] 80 (0, 0)) := (hb1.block (w.heap.size + 1) (by simp)).trans HX.out
  have hy1 : w1.heap[w.heap.size]? = some (.cells #[.int .i64 (q : Int), .int .i64 pa] 80 (0, 0)) := (hb1.block w.heap.size (by simp; omega)).trans HY.out
  obtain ⟨y0, y1, _, _⟩ := pos_cells hy1
  have hB1 := hB0.trans (hb1.mono hB0.size)
  have hs1 : w.heap.size + 1 < w1.heap.size := (Array.getElem?_eq_some_iff.1 hx1).1
  have HX1 := Lib.hid hx1
  have HIX := Lib.hid (indexI_any A1 c1 nums q w1 hnl hN1)
  obtain ⟨bb, off2, hA, hbb, g0, g1⟩ := (HFR.out.below hB1).at_ HF.out
  subst hA
  have hbb1 : bb < w1.heap.size := Nat.lt_of_lt_of_le hbb hB1.size
  clear hx1 hy1 HPA HX HY hb1 hN1
  go_wp2_with fail
  refine HIX.out.mono ?_
  rintro e w2 ⟨rfl, rfl⟩
  have hdr : Below w1.heap.size w1 w1.drew := ⟨rfl, rfl, rfl, Nat.le_refl _, fun _ _ => rfl⟩
  have HG1 := Lib.hid (HG.out w1.drew (hB1.trans (hdr.mono hB1.size)))
  rcases HSEL.out with ⟨i, pn, hi, hmi⟩ | ⟨hi, rfl, rfl, rfl⟩
  · rw [hi]
    obtain ⟨b3, off3, hA, hb3, c0, c3, _, _, _⟩ := (HPR.out.below hB1).at_ hmi
    subst hA
    have hil := (List.getElem?_eq_some_iff.1 hmi).1
    simp only at c0 c3
    have z4 : (0 : Int) ≤ i := by omega
    have z5 : (i : Int) < m.length := by omega
    clear hmi hi
    go_wp2
    go_region_held3 (fun w' => w'.cell? ⟨w.heap.size, 0, none⟩ = some (.int .i64 (q : Int)) ∧ w'.cell? ⟨w.heap.size, 1, none⟩ = some (.int .i64 pa) ∧ w'.cell? ⟨bb, off2 + q * 2 + 1, none⟩ = some (.string f.t))
      (first
        | exact ⟨y0, y1, g1⟩
        | (go_keep; done)
        | (go_split_ands
           refine ⟨?_, ?_, ?_⟩
           · (rw [hb4.cell (p := ⟨w.heap.size, 0, none⟩) (by exact Nat.lt_trans (Nat.lt_succ_self _) hs1)]; assumption)
           · (rw [hb4.cell (p := ⟨w.heap.size, 1, none⟩) (by exact Nat.lt_trans (Nat.lt_succ_self _) hs1)]; assumption)
           · (rw [hb4.cell (p := ⟨bb, off2 + q * 2 + 1, none⟩) hbb1]; assumption)))
      ((go_at_call 14; refine HG1.out.mono ?_; rintro r w4 ⟨rfl, hb4⟩))
    have hb4' : Below w1.heap.size w1 w4 := hdr.trans hb4
    have hB4 := hB1.trans (hb4'.mono hB1.size)
    have hx4 : w4.heap[w.heap.size + 1]? = some (.cells #[.int .i64 0, .int .i64 0] 80 (0, 0)) := (hb4'.block (w.heap.size + 1) hs1).trans HX1.out
    have u0 : w4.cell? ⟨w.heap.size, 0, none⟩ = some (.int .i64 (q : Int)) := (hb4'.cell (p := ⟨w.heap.size, 0, none⟩) (by exact Nat.lt_trans (Nat.lt_succ_self _) hs1)).trans y0
    obtain ⟨x0, x1, f0, f1⟩ := pos_cells hx4
    rcases hxy with ⟨rfl, rfl, rfl⟩ | ⟨hne, rfl, rfl⟩
    · obtain ⟨r0, r1⟩ := pos_set hx4 (q : Int) y
      have HR0 := Lib.hid r0
      have HR1 := Lib.hid r1
      rw [show er 0 = Value.nilIface from rfl]
      clear r0 r1 hx4 y0 y1 g1
      go_wp2
      have r0 := HR0.out
      have r1 := HR1.out
      exact bodyPost_ret (v := .tuple #[posv (q : Int) y, .nilIface]) (by simp [results, Try.results47, go_sem, r0, r1]) rfl ⟨rfl, (hB4.setCell (p := ⟨w.heap.size + 1, 0, none⟩) (by simp) _).setCell (p := ⟨w.heap.size + 1, 1, none⟩) (by simp) _⟩
    · obtain ⟨r0, r1⟩ := pos_set hx4 0 0
      have HR0 := Lib.hid r0
      have HR1 := Lib.hid r1
      have hen : er n = errn n := by unfold er; rw [if_neg hne]
      have HEN := Lib.hid hen
      rw [hen]
      clear r0 r1 hx4 y0 y1 g1 hen
      go_wp2
      have r0 := HR0.out
      have r1 := HR1.out
      exact bodyPost_ret (v := .tuple #[posv 0 0, errn n]) (by simp [results, Try.results47, go_sem, r0, r1]) rfl ⟨by rw [HEN.out], (hB4.setCell (p := ⟨w.heap.size + 1, 0, none⟩) (by simp) _).setCell (p := ⟨w.heap.size + 1, 1, none⟩) (by simp) _⟩
  · rw [hi]
    have z4 : decide ((0 : Int) ≤ -1) = false := by decide
    clear hi
    go_wp2
    go_region_held3 (fun w' => w'.cell? ⟨w.heap.size, 0, none⟩ = some (.int .i64 (q : Int)) ∧ w'.cell? ⟨w.heap.size, 1, none⟩ = some (.int .i64 pa) ∧ w'.cell? ⟨bb, off2 + q * 2 + 1, none⟩ = some (.string f.t))
      (first
        | exact ⟨y0, y1, g1⟩
        | (go_keep; done)
        | (go_split_ands
           refine ⟨?_, ?_, ?_⟩
           · (rw [hb4.cell (p := ⟨w.heap.size, 0, none⟩) (by exact Nat.lt_trans (Nat.lt_succ_self _) hs1)]; assumption)
           · (rw [hb4.cell (p := ⟨w.heap.size, 1, none⟩) (by exact Nat.lt_trans (Nat.lt_succ_self _) hs1)]; assumption)
           · (rw [hb4.cell (p := ⟨bb, off2 + q * 2 + 1, none⟩) hbb1]; assumption)))
      ((go_at_call 14; refine HG1.out.mono ?_; rintro r w4 ⟨rfl, hb4⟩))
    have hb4' : Below w1.heap.size w1 w4 := hdr.trans hb4
    have hB4 := hB1.trans (hb4'.mono hB1.size)
    have hx4 : w4.heap[w.heap.size + 1]? = some (.cells #[.int .i64 0, .int .i64 0] 80 (0, 0)) := (hb4'.block (w.heap.size + 1) hs1).trans HX1.out
    have u0 : w4.cell? ⟨w.heap.size, 0, none⟩ = some (.int .i64 (q : Int)) := (hb4'.cell (p := ⟨w.heap.size, 0, none⟩) (by exact Nat.lt_trans (Nat.lt_succ_self _) hs1)).trans y0
    obtain ⟨x0, x1, f0, f1⟩ := pos_cells hx4
    rcases hxy with ⟨rfl, rfl, rfl⟩ | ⟨hne, rfl, rfl⟩
    · obtain ⟨r0, r1⟩ := pos_set hx4 (q : Int) y
      have HR0 := Lib.hid r0
      have HR1 := Lib.hid r1
      rw [show er 0 = Value.nilIface from rfl]
      clear r0 r1 hx4 y0 y1 g1
      go_wp2
      have r0 := HR0.out
      have r1 := HR1.out
      exact bodyPost_ret (v := .tuple #[posv (q : Int) y, .nilIface]) (by simp [results, Try.results47, go_sem, r0, r1]) rfl ⟨rfl, (hB4.setCell (p := ⟨w.heap.size + 1, 0, none⟩) (by simp) _).setCell (p := ⟨w.heap.size + 1, 1, none⟩) (by simp) _⟩
    · obtain ⟨r0, r1⟩ := pos_set hx4 0 0
      have HR0 := Lib.hid r0
      have HR1 := Lib.hid r1
      have hen : er n = errn n := by unfold er; rw [if_neg hne]
      have HEN := Lib.hid hen
      rw [hen]
      clear r0 r1 hx4 y0 y1 g1 hen
      go_wp2
      have r0 := HR0.out
      have r1 := HR1.out
      exact bodyPost_ret (v := .tuple #[posv 0 0, errn n]) (by simp [results, Try.results47, go_sem, r0, r1]) rfl ⟨by rw [HEN.out], (hB4.setCell (p := ⟨w.heap.size + 1, 0, none⟩) (by simp) _).setCell (p := ⟨w.heap.size + 1, 1, none⟩) (by simp) _⟩
end
end Go.Proofs.Ytgfafinpcpiogaa

namespace Go.Proofs.Ytgfafinpcpiogaa
open Go.RowKit Go.Shelf EditMath ShiftMath FilesMath

section
variable (A A2 : Option Addr) (c c2 : Nat) (l : List Fl) (m : List Pt) (w : World) (pf pa : Int)

set_option maxRecDepth 100000 in
set_option maxHeartbeats 4000000 in
theorem goes4r_any (hl : l.length ≤ 30) (hnil : A = none → c = 0) (ht : tot l ≤ 50000) (hlm : m.length ≤ 30) (hpt : ptot m ≤ 50000) (hpl : ∀ (i : Nat) (p : Pt), m[i]? = some p → p.l.length ≤ 10000) (hr : Fls w w.heap.size A l) (hr2 : Pts w w.heap.size A2 m) (hb : pbad l (m.map pd) ≠ 0) :
    Calls Try.prog 48 #[.slice A l.length c, posv pf pa, .slice A2 m.length c2] w (GoR 0 0 (pbad l (m.map pd)) w) := by
  have hB0 := below2 w (.cells #[.int .i64 pf, .int .i64 pa] 80) (.cells #[.int .i64 0, .int .i64 0] 80)
  have HPA := Lib.hid (refApply4_any A A2 c c2 l m _ hl hnil ht hlm hpt hpl (hr.after hB0) (hr2.after hB0))
  have hx : ((w.alloc (.cells #[.int .i64 pf, .int .i64 pa] 80)).alloc (.cells #[.int .i64 0, .int .i64 0] 80)).heap[w.heap.size + 1]? = some (.cells #[.int .i64 0, .int .i64 0] 80 (0, 0)) := second_new2 _ _ _
  have hy : ((w.alloc (.cells #[.int .i64 pf, .int .i64 pa] 80)).alloc (.cells #[.int .i64 0, .int .i64 0] 80)).heap[w.heap.size]? = some (.cells #[.int .i64 pf, .int .i64 pa] 80 (0, 0)) := first_new2 _ _ _
  generalize apL l (m.map pd) = L at *
  generalize pbad l (m.map pd) = n at *
  have hne : (n != 0) = true := by simpa using hb
  have HX := Lib.hid hx
  have HY := Lib.hid hy
  clear hx hy
  go_enter Try.func48, Try.ntmps48
  go_wp2_with fail
  refine HPA.out.mono ?_
  rintro e w1 ⟨A1, c1, rfl, _, hb1⟩
  have hx1 : w1.heap[w.heap.size + 1]? = some (.cells #[.int .i64 0, .int .i64 0] 80 (0, 0)) := (hb1.block (w.heap.size + 1) (by simp)).trans HX.out
  have hy1 : w1.heap[w.heap.size]? = some (.cells #[.int .i64 pf, .int .i64 pa] 80 (0, 0)) := (hb1.block w.heap.size (by simp; omega)).trans HY.out
  have hB1 := hB0.trans (hb1.mono hB0.size)
  obtain ⟨x0, x1, f0, f1⟩ := pos_cells hx1
  obtain ⟨y0, y1, _, _⟩ := pos_cells hy1
  obtain ⟨r0, r1⟩ := pos_set hx1 0 0
  have HR0 := Lib.hid r0
  have HR1 := Lib.hid r1
  clear r0 r1 hx1 hy1
  go_wp2
  have r0 := HR0.out
  have r1 := HR1.out
  exact bodyPost_ret (v := .tuple #[posv 0 0, .int .i64 n]) (by simp [results, Try.results48, go_sem, r0, r1]) rfl ⟨rfl, (hB1.setCell (p := ⟨w.heap.size + 1, 0, none⟩) (by simp) _).setCell (p := ⟨w.heap.size + 1, 1, none⟩) (by simp) _⟩

set_option maxRecDepth 100000 in
set_option maxHeartbeats 4000000 in
theorem goes4r_out (hl : l.length ≤ 30) (hnil : A = none → c = 0) (ht : tot l ≤ 50000) (hlm : m.length ≤ 30) (hpt : ptot m ≤ 50000) (hpl : ∀ (i : Nat) (p : Pt), m[i]? = some p → p.l.length ≤ 10000) (hr : Fls w w.heap.size A l) (hr2 : Pts w w.heap.size A2 m) (hb : pbad l (m.map pd) = 0) (hout : pf < 0 ∨ (l.length : Int) ≤ pf) :
    Calls Try.prog 48 #[.slice A l.length c, posv pf pa, .slice A2 m.length c2] w (GoR 0 0 5 w) := by
  have hB0 := below2 w (.cells #[.int .i64 pf, .int .i64 pa] 80) (.cells #[.int .i64 0, .int .i64 0] 80)
  have HPA := Lib.hid (refApply4_any A A2 c c2 l m _ hl hnil ht hlm hpt hpl (hr.after hB0) (hr2.after hB0))
  have hx : ((w.alloc (.cells #[.int .i64 pf, .int .i64 pa] 80)).alloc (.cells #[.int .i64 0, .int .i64 0] 80)).heap[w.heap.size + 1]? = some (.cells #[.int .i64 0, .int .i64 0] 80 (0, 0)) := second_new2 _ _ _
  have hy : ((w.alloc (.cells #[.int .i64 pf, .int .i64 pa] 80)).alloc (.cells #[.int .i64 0, .int .i64 0] 80)).heap[w.heap.size]? = some (.cells #[.int .i64 pf, .int .i64 pa] 80 (0, 0)) := first_new2 _ _ _
  rw [hb] at HPA
  generalize apL l (m.map pd) = L at *
  have HX := Lib.hid hx
  have HY := Lib.hid hy
  clear hx hy hb
  have d : decide (pf < 0) = true ∨ (decide (pf < 0) = false ∧ decide ((l.length : Int) ≤ pf) = true) := by
    rcases hout with h | h
    · exact .inl (decide_eq_true h)
    · by_cases h0 : pf < 0
      · exact .inl (decide_eq_true h0)
      · exact .inr ⟨decide_eq_false h0, decide_eq_true h⟩
  rcases d with d | ⟨d, d'⟩
  all_goals
    go_enter Try.func48, Try.ntmps48
    go_wp2_with fail
    refine HPA.out.mono ?_
    rintro e w1 ⟨A1, c1, rfl, _, hb1⟩
    have hx1 : w1.heap[w.heap.size + 1]? = some (.cells #[.int .i64 0, .int .i64 0] 80 (0, 0)) := (hb1.block (w.heap.size + 1) (by simp)).trans HX.out
    have hy1 : w1.heap[w.heap.size]? = some (.cells #[.int .i64 pf, .int .i64 pa] 80 (0, 0)) := (hb1.block w.heap.size (by simp; omega)).trans HY.out
    have hB1 := hB0.trans (hb1.mono hB0.size)
    obtain ⟨x0, x1, f0, f1⟩ := pos_cells hx1
    obtain ⟨y0, y1, _, _⟩ := pos_cells hy1
    obtain ⟨r0, r1⟩ := pos_set hx1 0 0
    have HR0 := Lib.hid r0
    have HR1 := Lib.hid r1
    clear r0 r1 hx1 hy1
    go_wp2
    have r0 := HR0.out
    have r1 := HR1.out
    exact bodyPost_ret (v := .tuple #[posv 0 0, .int .i64 5]) (by simp [results, Try.results48, go_sem, r0, r1]) rfl ⟨rfl, (hB1.setCell (p := ⟨w.heap.size + 1, 0, none⟩) (by simp) _).setCell (p := ⟨w.heap.size + 1, 1, none⟩) (by simp) _⟩

set_option maxRecDepth 100000 in
set_option maxHeartbeats 8000000 in
theorem goes4r_in (q : Nat) (f : Fl) (a n x y : Int) (hxy : (n = 0 ∧ x = q ∧ y = a) ∨ (n ≠ 0 ∧ x = 0 ∧ y = 0)) (hl : l.length ≤ 30) (hnil : A = none → c = 0) (ht : tot l ≤ 50000) (hlm : m.length ≤ 30) (hpt : ptot m ≤ 50000) (hpl : ∀ (i : Nat) (p : Pt), m[i]? = some p → p.l.length ≤ 10000) (hr : Fls w w.heap.size A l) (hr2 : Pts w w.heap.size A2 m) (hb : pbad l (m.map pd) = 0) (hf : l[q]? = some f)
    (eV : Value) (hsel : selV (selP m f.n) = eV)
    (hG : ∀ W, Below w.heap.size w W → Calls Try.prog 16 #[eV, .int .i64 (f.t.size : Int), .int .i64 pa] W fun e w' => e = .returned (.tuple #[.int .i64 a, .int .i64 n]) ∧ Below W.heap.size W w') :
    Calls Try.prog 48 #[.slice A l.length c, posv (q : Int) pa, .slice A2 m.length c2] w (GoR x y n w) := by
  have hB0 := below2 w (.cells #[.int .i64 (q : Int), .int .i64 pa] 80) (.cells #[.int .i64 0, .int .i64 0] 80)
  have HPA := Lib.hid (refApply4_any A A2 c c2 l m _ hl hnil ht hlm hpt hpl (hr.after hB0) (hr2.after hB0))
  have hx : ((w.alloc (.cells #[.int .i64 (q : Int), .int .i64 pa] 80)).alloc (.cells #[.int .i64 0, .int .i64 0] 80)).heap[w.heap.size + 1]? = some (.cells #[.int .i64 0, .int .i64 0] 80 (0, 0)) := second_new2 _ _ _
  have hy : ((w.alloc (.cells #[.int .i64 (q : Int), .int .i64 pa] 80)).alloc (.cells #[.int .i64 0, .int .i64 0] 80)).heap[w.heap.size]? = some (.cells #[.int .i64 (q : Int), .int .i64 pa] 80 (0, 0)) := first_new2 _ _ _
  rw [hb] at HPA
  generalize apL l (m.map pd) = L at *
  have HX := Lib.hid hx
  have HY := Lib.hid hy
  have HG := Lib.hid hG
  have HFR := Lib.hid hr
  have HPR := Lib.hid hr2
  have hql := (List.getElem?_eq_some_iff.1 hf).1
  have HF := Lib.hid hf
  have HSEL := Lib.hid hsel
  have hfs := (sizes_of ht q f hf).2
  clear hx hy hb hG hr hr2 hf hsel hpl hpt ht
  have z0 : decide ((q : Int) < 0) = false := decide_eq_false (by omega)
  have z1 : decide (l.length ≤ q) = false := decide_eq_false (by omega)
  have z2 : (0 : Int) ≤ q := by omega
  have z3 : (q : Int) < l.length := by omega
  go_enter Try.func48, Try.ntmps48
  go_wp2_with fail
  refine HPA.out.mono ?_
  rintro e w1 ⟨A1, c1, rfl, _, hb1⟩
  have hx1 : w1.heap[w.heap.size + 1]? = some (.cells #[.int .i64 0, .int .i64 0] 80 (0, 0)) := (hb1.block (w.heap.size + 1) (by simp)).trans HX.out
  have hy1 : w1.heap[w.heap.size]? = some (.cells #[.int .i64 (q : Int), .int .i64 pa] 80 (0, 0)) := (hb1.block w.heap.size (by simp; omega)).trans HY.out
  have hB1 := hB0.trans (hb1.mono hB0.size)
  obtain ⟨y0, y1, _, _⟩ := pos_cells hy1
  have hs1 : w.heap.size + 1 < w1.heap.size := (Array.getElem?_eq_some_iff.1 hx1).1
  have HX1 := Lib.hid hx1
  have HY0 := Lib.hid y0
  have HY1 := Lib.hid y1
  obtain ⟨bb, off2, hA, hbb, g0, g1⟩ := (HFR.out.below hB1).at_ HF.out
  subst hA
  have hbb1 : bb < w1.heap.size := Nat.lt_of_lt_of_le hbb hB1.size
  have HG0 := Lib.hid g0
  have HG1' := Lib.hid g1
  clear hx1 hy1 HPA HX HY hb1
  go_wp2
  clear y0 y1 g0 g1
  go_loopw [10, 11] (fun v i wr => ∃ k : Nat, k ≤ m.length ∧ i = .int .i64 (k : Int) ∧ v = selV (selP (m.take k) f.n) ∧ Below w1.heap.size w1 wr) (fun _ i _ => m.length - (intOf i).toNat)
  case atStart => exact ⟨0, Nat.zero_le _, rfl, rfl, Below.refl _ _⟩
  case round =>
    obtain ⟨k, hk, rfl, rfl, hB⟩ := hrel
    have hBw := hB1.trans (hB.mono hB1.size)
    have hsr1 : w.heap.size + 1 < wr.heap.size := Nat.lt_of_lt_of_le hs1 hB.size
    have hsr : w.heap.size < wr.heap.size := Nat.lt_of_succ_lt hsr1
    have hbbr : bb < wr.heap.size := Nat.lt_of_lt_of_le hbb1 hB.size
    have x0' : wr.cell? ⟨w.heap.size, 0, none⟩ = some (.int .i64 (q : Int)) := (hB.cell (p := ⟨w.heap.size, 0, none⟩) (by exact Nat.lt_of_succ_lt hs1)).trans HY0.out
    have x1' : wr.cell? ⟨w.heap.size, 1, none⟩ = some (.int .i64 pa) := (hB.cell (p := ⟨w.heap.size, 1, none⟩) (by exact Nat.lt_of_succ_lt hs1)).trans HY1.out
    have g0' : wr.cell? ⟨bb, off2 + q * 2, none⟩ = some (.string f.n) := (hB.cell (p := ⟨bb, off2 + q * 2, none⟩) hbb1).trans HG0.out
    have g1' : wr.cell? ⟨bb, off2 + q * 2 + 1, none⟩ = some (.string f.t) := (hB.cell (p := ⟨bb, off2 + q * 2 + 1, none⟩) hbb1).trans HG1'.out
    by_cases hlt : k < m.length
    · have he : m[k]? = some m[k] := List.getElem?_eq_getElem hlt
      generalize m[k] = p at he
      have HSN := Lib.hid (selP_snoc he f.n)
      obtain ⟨pn, pA, pc, pl⟩ := p
      obtain ⟨b3, off3, hA, hb3, c0, c3, _, _, _⟩ := (HPR.out.below hBw).at_ he
      subst hA
      simp only at c0 c3 HSN
      clear he
      have z4 : (0 : Int) ≤ k := by omega
      have z5 : (k : Int) < m.length := by omega
      have hs := str_beq pn f.n
      generalize hsv : selV (selP (m.take k) f.n) = sv at *
      have HSV := Lib.hid hsv
      clear hsv
      by_cases hpn : pn = f.n
      · rw [decide_eq_true hpn] at hs
        have HPN := Lib.hid hpn
        clear hpn
        go_wp2
        go_quiet (fail)
        go_wp2
        go_roundw
        case rel => exact ⟨k + 1, by omega, by go_num, by rw [HSN.out, if_pos HPN.out]; rfl, below_drewN hB _⟩
        case measure => simp [intOf]; omega
      · rw [decide_eq_false hpn] at hs
        have HPN := Lib.hid hpn
        clear hpn
        go_wp2
        go_quiet (fail)
        go_wp2
        go_roundw
        case rel => exact ⟨k + 1, by omega, by go_num, by rw [HSN.out, if_neg HPN.out]; exact HSV.out.symm, below_drewN hB _⟩
        case measure => simp [intOf]; omega
    · obtain rfl : k = m.length := by omega
      rw [List.take_length, HSEL.out]
      have hdr : Below wr.heap.size wr wr.drew := ⟨rfl, rfl, rfl, Nat.le_refl _, fun _ _ => rfl⟩
      have HG1 := Lib.hid (HG.out wr.drew (hBw.trans (hdr.mono hBw.size)))
      have hxr : wr.heap[w.heap.size + 1]? = some (.cells #[.int .i64 0, .int .i64 0] 80 (0, 0)) := (hB.block (w.heap.size + 1) hs1).trans HX1.out
      clear g0'
      go_wp2
      go_region_held3 (fun w' => w'.cell? ⟨w.heap.size, 0, none⟩ = some (.int .i64 (q : Int)) ∧ w'.cell? ⟨w.heap.size, 1, none⟩ = some (.int .i64 pa) ∧ w'.cell? ⟨bb, off2 + q * 2 + 1, none⟩ = some (.string f.t))
        (first
          | exact ⟨x0', x1', g1'⟩
          | (go_keep; done)
          | (go_split_ands
             refine ⟨?_, ?_, ?_⟩
             · (rw [hb4.cell (p := ⟨w.heap.size, 0, none⟩) hsr]; assumption)
             · (rw [hb4.cell (p := ⟨w.heap.size, 1, none⟩) hsr]; assumption)
             · (rw [hb4.cell (p := ⟨bb, off2 + q * 2 + 1, none⟩) hbbr]; assumption)))
        ((go_at_call 16; refine HG1.out.mono ?_; rintro r w4 ⟨rfl, hb4⟩))
      have hb4' : Below wr.heap.size wr w4 := hdr.trans hb4
      have hB4 := hBw.trans (hb4'.mono hBw.size)
      have hx4 : w4.heap[w.heap.size + 1]? = some (.cells #[.int .i64 0, .int .i64 0] 80 (0, 0)) := (hb4'.block (w.heap.size + 1) hsr1).trans hxr
      have u0 : w4.cell? ⟨w.heap.size, 0, none⟩ = some (.int .i64 (q : Int)) := (hb4'.cell (p := ⟨w.heap.size, 0, none⟩) hsr).trans x0'
      obtain ⟨x0, x1, f0, f1⟩ := pos_cells hx4
      rcases hxy with ⟨rfl, rfl, rfl⟩ | ⟨hne, rfl, rfl⟩
      · obtain ⟨r0, r1⟩ := pos_set hx4 (q : Int) y
        have HR0 := Lib.hid r0
        have HR1 := Lib.hid r1
        clear r0 r1 hx4 x0' x1' g1' hxr
        go_wp2
        have r0 := HR0.out
        have r1 := HR1.out
        exact bodyPost_ret (v := .tuple #[posv (q : Int) y, .int .i64 0]) (by simp [results, Try.results48, go_sem, r0, r1]) rfl ⟨rfl, (hB4.setCell (p := ⟨w.heap.size + 1, 0, none⟩) (by simp) _).setCell (p := ⟨w.heap.size + 1, 1, none⟩) (by simp) _⟩
      · obtain ⟨r0, r1⟩ := pos_set hx4 0 0
        have HR0 := Lib.hid r0
        have HR1 := Lib.hid r1
        have hne' : (n != 0) = true := by simpa using hne
        clear r0 r1 hx4 x0' x1' g1' hxr
        go_wp2
        have r0 := HR0.out
        have r1 := HR1.out
        exact bodyPost_ret (v := .tuple #[posv 0 0, .int .i64 n]) (by simp [results, Try.results48, go_sem, r0, r1]) rfl ⟨rfl, (hB4.setCell (p := ⟨w.heap.size + 1, 0, none⟩) (by simp) _).setCell (p := ⟨w.heap.size + 1, 1, none⟩) (by simp) _⟩
end
end Go.Proofs.Ytgfafinpcpiogaa

namespace Go.Proofs.Ytgfafinpcpiogaa
open Go.RowKit Go.Shelf EditMath ShiftMath FilesMath

theorem prun_pos (l : List Fl) (P : List PD) : 0 ≤ (prun l P).1 ∧ ((prun l P).2).Nodup := by
  unfold prun
  suffices h : ∀ (Q : List PD) (st : Int × List Nat), 0 ≤ st.1 ∧ st.2.Nodup → 0 ≤ (Q.foldl (pstep l) st).1 ∧ (Q.foldl (pstep l) st).2.Nodup from h P (0, []) ⟨by simp, by simp⟩
  intro Q
  induction Q with
  | nil => intro st h; exact h
  | cons p Q ih =>
    intro st h
    rw [List.foldl_cons]
    refine ih _ ?_
    unfold pstep
    split
    · split
      · exact ⟨by simp, h.2⟩
      · split
        · exact ⟨by simp, h.2⟩
        · rename_i hm
          split
          · refine ⟨by simp, ?_⟩
            rw [List.nodup_append]
            exact ⟨h.2, by simp, fun a ha b hb => by simp at hb; subst hb; intro e; subst e; exact hm ha⟩
          · exact ⟨by simp, h.2⟩
    · exact h
theorem pbad_pos (l : List Fl) (P : List PD) : 0 ≤ pbad l P := by
  unfold pbad
  split
  · split
    · split <;> omega
    · exact (prun_pos l P).1
  · omega
theorem nums_once (l : List Fl) (P : List PD) {i j q : Nat} (_h0 : (prun l P).1 = 0) (hi : (prun l P).2[i]? = some q) (hj : (prun l P).2[j]? = some q) : i = j := by
  obtain ⟨a1, a2⟩ := List.getElem?_eq_some_iff.1 hi
  obtain ⟨b1, b2⟩ := List.getElem?_eq_some_iff.1 hj
  have hp := List.pairwise_iff_getElem.1 (prun_pos l P).2
  rcases Nat.lt_trichotomy i j with h | h | h
  · exact absurd (a2.trans b2.symm) (hp i j a1 b1 h)
  · exact h
  · exact absurd (b2.trans a2.symm) (hp j i b1 a1 h)

/-- both Goes answer the same -/
theorem goes4_both (A A2 : Option Addr) (c c2 : Nat) (l : List Fl) (m : List Pt) (w : World) (pf pa : Int) (hl : l.length ≤ 30) (hc : l.length ≤ c) (hnil : A = none → c = 0) (ht : tot l ≤ 50000) (hlm : m.length ≤ 30) (hpt : ptot m ≤ 50000) (hpl : ∀ (i : Nat) (p : Pt), m[i]? = some p → p.l.length ≤ 10000)
    (hr : Fls w w.heap.size A l) (hr2 : Pts w w.heap.size A2 m) :
    ∃ x y n : Int, 0 ≤ n ∧ (∀ W, Below w.heap.size w W → Calls Try.prog 47 #[.slice A l.length c, posv pf pa, .slice A2 m.length c2] W (GoV x y n W)) ∧
      (∀ W, Below w.heap.size w W → Calls Try.prog 48 #[.slice A l.length c, posv pf pa, .slice A2 m.length c2] W (GoR x y n W)) := by
  by_cases hb : pbad l (m.map pd) = 0
  · by_cases hout : pf < 0 ∨ (l.length : Int) ≤ pf
    · exact ⟨0, 0, 5, by omega, fun W hW => goes4_out A A2 c c2 l m W pf pa hl hc ht hlm hpt hpl (hr.after hW) (hr2.after hW) hb hout, fun W hW => goes4r_out A A2 c c2 l m W pf pa hl hnil ht hlm hpt hpl (hr.after hW) (hr2.after hW) hb hout⟩
    · obtain ⟨q, rfl⟩ : ∃ q : Nat, pf = q := ⟨pf.toNat, by omega⟩
      have hql : q < l.length := by omega
      obtain ⟨f, hf⟩ : ∃ f, l[q]? = some f := ⟨_, List.getElem?_eq_getElem hql⟩
      obtain ⟨hR, h0, _⟩ := pbad_zero hb
      have hRg := rgt_iff.1 hR
      have hok := (prun_ok (l := l) (P := m.map pd) m.length (by simp) (by rw [List.take_of_length_le (by simp)]; exact h0))
      rw [List.take_of_length_le (by simp)] at hok
      obtain ⟨hnl, hok⟩ := hok
      have hfq := hRg.place hf
      have hfs := (sizes_of ht q f hf).2
      -- a patch's number is q just if it has the file's name
      have key : ∀ (i : Nat) (p : Pt), m[i]? = some p → ((prun l (m.map pd)).2[i]? = some q ↔ p.n = f.n) := by
        intro i p hp
        have hi := (List.getElem?_eq_some_iff.1 hp).1
        obtain ⟨x, h1, h2, _⟩ := hok i _ hi (map_at hp)
        simp only at h2
        constructor
        · intro h
          rw [h1] at h
          injection h with h
          subst h
          obtain ⟨g, hg, hgn⟩ := plc_some h2
          rw [hf] at hg
          injection hg with hg
          subst hg
          exact hgn.symm
        · intro h
          rw [h, hfq] at h2
          injection h2 with h2
          rw [h2]
          exact h1
      have mk : ∀ (eA : Option Addr) (ec : Nat) (el : List Ed), Eds w w.heap.size eA el → el.length ≤ 10000 → tx el ≤ 50000 →
          ((∃ (i : Nat) (pn : ByteArray), ixI (prun l (m.map pd)).2 q = i ∧ m[i]? = some ⟨pn, eA, ec, el⟩) ∨ (ixI (prun l (m.map pd)).2 q = -1 ∧ eA = none ∧ ec = 0 ∧ el = [])) → selV (selP m f.n) = .slice eA el.length ec →
          ∃ x y n : Int, 0 ≤ n ∧ (∀ W, Below w.heap.size w W → Calls Try.prog 47 #[.slice A l.length c, posv (q : Int) pa, .slice A2 m.length c2] W (GoV x y n W)) ∧
            (∀ W, Below w.heap.size w W → Calls Try.prog 48 #[.slice A l.length c, posv (q : Int) pa, .slice A2 m.length c2] W (GoR x y n W)) := by
        intro eA ec el hE hel hex hs1 hs2
        obtain ⟨a, n, hn, g1, g2⟩ := goes_pair4 eA ec el (f.t.size : Int) pa w hel hfs hex hE
        have hxy : (n = 0 ∧ (if n = 0 then (q : Int) else 0) = q ∧ (if n = 0 then a else 0) = a) ∨ (n ≠ 0 ∧ (if n = 0 then (q : Int) else 0) = 0 ∧ (if n = 0 then a else 0) = 0) := by
          by_cases h : n = 0
          · exact .inl ⟨h, by rw [if_pos h], by rw [if_pos h]⟩
          · exact .inr ⟨h, by rw [if_neg h], by rw [if_neg h]⟩
        refine ⟨if n = 0 then (q : Int) else 0, if n = 0 then a else 0, n, hn, fun W hW => ?_, fun W hW => ?_⟩
        · exact goes4_in A A2 c c2 l m W pa q f eA ec el a n _ _ hxy hl hc ht hlm hpt hpl (hr.after hW) (hr2.after hW) hb (by omega) hf hs1 (fun W' hW' => g1 W' (hW.trans (hW'.mono hW.size)))
        · exact goes4r_in A A2 c c2 l m W pa q f a n _ _ hxy hl hnil ht hlm hpt hpl (hr.after hW) (hr2.after hW) hb hf _ hs2 (fun W' hW' => g2 W' (hW.trans (hW'.mono hW.size)))
      by_cases hex : ∃ (i : Nat) (p : Pt), m[i]? = some p ∧ p.n = f.n
      · obtain ⟨i, p, hp, hpn⟩ := hex
        have huni : ∀ (j : Nat) (r : Pt), m[j]? = some r → r.n = f.n → j = i := by
          intro j r hr' hrn
          -- two patches of one file are refused
          have h1 := (key i p hp).2 hpn
          have h2 := (key j r hr').2 hrn
          exact nums_once l (m.map pd) h0 h2 h1
        have hix : ixI (prun l (m.map pd)).2 q = i := ixI_hit ((key i p hp).2 hpn) (fun j x hj hx hxq => by
          subst hxq
          have hjm : j < m.length := by have := (List.getElem?_eq_some_iff.1 hp).1; omega
          have h3 := huni j _ (List.getElem?_eq_getElem hjm) ((key j _ (List.getElem?_eq_getElem hjm)).1 hx)
          omega)
        have hsel : selP m f.n = some p := by
          have := selP_one hp hpn huni m.length (List.getElem?_eq_some_iff.1 hp).1
          rwa [List.take_length] at this
        obtain ⟨pn, pA, pc, pl⟩ := p
        have hq2 := ptot_at hp
        simp only at hq2
        exact mk pA pc pl (hr2.2 i _ hp).1 (hpl i _ hp) (by omega) (.inl ⟨i, pn, hix, hp⟩) (by rw [hsel]; rfl)
      · have hno : ∀ (i : Nat) (p : Pt), m[i]? = some p → p.n ≠ f.n := fun i p hp h => hex ⟨i, p, hp, h⟩
        have hix : ixI (prun l (m.map pd)).2 q = -1 := ixI_miss (fun i x hx hxq => by
          subst hxq
          have hi : i < m.length := by have := (List.getElem?_eq_some_iff.1 hx).1; omega
          exact hno i _ (List.getElem?_eq_getElem hi) ((key i _ (List.getElem?_eq_getElem hi)).1 hx))
        have hsel : selP m f.n = none := by
          have := selP_none hno m.length
          rwa [List.take_length] at this
        exact mk none 0 [] Eds.none_ (by simp) (by simp [tx]) (.inr ⟨hix, rfl, rfl, rfl⟩) (by rw [hsel]; rfl)
  · have hp0 : 0 ≤ pbad l (m.map pd) := pbad_pos l _
    exact ⟨0, 0, _, hp0, fun W hW => goes4_any A A2 c c2 l m W pf pa hl hc ht hlm hpt hpl (hr.after hW) (hr2.after hW) hb, fun W hW => goes4r_any A A2 c c2 l m W pf pa hl hnil ht hlm hpt hpl (hr.after hW) (hr2.after hW) hb⟩

theorem eql_pos (x y : Int) (w : World) : (binOp .eql 80 (.agg #[.int .i64 x, .int .i64 y]) (.agg #[.int .i64 x, .int .i64 y])).run Try.prog w = .ok (.bool true) w := by
  have u3 := Try.underlying3
  have a3 := Try.isAgg3
  have z3 := Try.sizeOf3
  have hS : Try.prog.underlying 80 = some (.struct (Try.prog.fieldsOf 80)) := by kernel_rfl
  have hp : Try.prog.stoodInHeld 80 = false := by kernel_rfl
  rw [run_eql_struct, show (10000 : Nat) = 9999 + 1 from rfl, run_equalIn_agg w 9999 80 _ _ hS hp]
  simp only [Program.fieldsOf, Try.underlying80]
  go_simp

set_option maxRecDepth 100000 in
set_option maxHeartbeats 4000000 in
theorem filesGoes_walk (A0 A1 : Option Addr) (c0 c1 : Nat) (l : List Fl) (m : List Pt) (pf pa : Int) (hes0 : ∀ (i : Nat) (f : Fl), l[i]? = some f → (f.n.size : Int) ≤ 140737488355328 ∧ (f.t.size : Int) ≤ 140737488355328)
    (hes1 : ∀ (i : Nat) (p : Pt), m[i]? = some p → (p.n.size : Int) ≤ 140737488355328 ∧ ∀ (k : Nat) (e : Ed), p.l[k]? = some e → (e.s.size : Int) ≤ 140737488355328) (hll : ∀ (i : Nat) (p : Pt), m[i]? = some p → (p.l.length : Int) ≤ 9223372036854775807)
    (hl0 : (l.length : Int) ≤ 9223372036854775807) (hl1 : (m.length : Int) ≤ 9223372036854775807) (hc0 : l.length ≤ c0) (hn0 : A0 = none → c0 = 0) (w : World) (hr0 : Fls w w.heap.size A0 l) (hr1 : Pts w w.heap.size A1 m) :
    Calls Try.prog 10 #[.slice A0 l.length c0, .slice A1 m.length c1, posv pf pa] w fun e w' => e = .returned (.bool true) ∧ Below w.heap.size w w' := by
  have HS0 := Lib.hid hes0
  have HS1 := Lib.hid hes1
  have HLL := Lib.hid hll
  have HR0 := Lib.hid hr0
  have HR1 := Lib.hid hr1
  have HN0 := Lib.hid hn0
  clear hes0 hes1 hll hr0 hr1 hn0
  have hB0 : Below w.heap.size w (w.alloc (.cells #[.int .i64 pf, .int .i64 pa] 80)) := below1 _ _
  have hx : (w.alloc (.cells #[.int .i64 pf, .int .i64 pa] 80)).heap[w.heap.size]? = some (.cells #[.int .i64 pf, .int .i64 pa] 80 (0, 0)) := heap_alloc_new w _
  have HX := Lib.hid hx
  clear hx
  go_enter Try.func10, Try.ntmps10
  go_wp2_with fail
  refine (alive4_any _).mono ?_
  rintro e w1 ⟨rfl, hb1⟩
  have hB1 := hB0.trans (hb1.mono hB0.size)
  have hK1 : Below (w.heap.size + 1) (w.alloc (.cells #[.int .i64 pf, .int .i64 pa] 80)) w1 := by have := hb1; rwa [show (w.alloc (.cells #[.int .i64 pf, .int .i64 pa] 80)).heap.size = w.heap.size + 1 by simp] at this
  clear hb1
  go_wp2_with fail
  refine (large4_any A0 c0 l _ HS0.out hl0 (HR0.out.after hB1)).mono ?_
  rintro e w2 ⟨hv, hb2⟩
  have hB2 := hB1.trans (hb2.mono hB1.size)
  have hs1 : w.heap.size + 1 ≤ w1.heap.size := by have := hK1.size; simpa using this
  have hK2 := hK1.trans (hb2.mono hs1)
  have hs2 : w.heap.size + 1 ≤ w2.heap.size := Nat.le_trans hs1 hb2.size
  clear hb2
  rcases hv with rfl | ⟨rfl, hla, hta⟩
  · go_wp2
    go_ret
    exact ⟨rfl, hB2⟩
  · go_wp2_with fail
    refine (many_any A1 c1 m _ HS1.out hl1 HLL.out (HR1.out.after hB2)).mono ?_
    rintro e w3 ⟨hv, hb3⟩
    have hB3 := hB2.trans (hb3.mono hB2.size)
    have hK3 := hK2.trans (hb3.mono hs2)
    have hs3 : w.heap.size + 1 ≤ w3.heap.size := Nat.le_trans hs2 hb3.size
    clear hb3
    rcases hv with rfl | ⟨rfl, hlm, hpt, hpl⟩
    · go_wp2
      go_ret
      exact ⟨rfl, hB3⟩
    · go_wp2_with fail
      refine (size4_any A0 c0 l _ (by omega) (by omega) (HR0.out.after hB3)).mono ?_
      rintro e w4 ⟨rfl, hb4⟩
      have hB4 := hB3.trans (hb4.mono hB3.size)
      have hK4 := hK3.trans (hb4.mono hs3)
      have hs4 : w.heap.size + 1 ≤ w4.heap.size := Nat.le_trans hs3 hb4.size
      clear hb4
      by_cases h4 : (400 : Int) < sz l
      · have d0 : decide ((400 : Int) < sz l) = true := decide_eq_true h4
        go_wp2
        go_ret
        exact ⟨rfl, hB4⟩
      · have d0 : decide ((400 : Int) < sz l) = false := decide_eq_false h4
        obtain ⟨x, y, n, hn, G1, G2⟩ := goes4_both A0 A1 c0 c1 l m w4 pf pa (by omega) hc0 HN0.out (by omega) (by omega) (by omega) (fun i p hp => by have := hpl i p hp; omega) (HR0.out.after hB4) (HR1.out.after hB4)
        have HG1 := Lib.hid G1
        have HG2 := Lib.hid G2
        have hx4 : w4.heap[w.heap.size]? = some (.cells #[.int .i64 pf, .int .i64 pa] 80 (0, 0)) := (hK4.block w.heap.size (by omega)).trans HX.out
        have HX4 := Lib.hid hx4
        obtain ⟨x0, x1, _, _⟩ := pos_cells hx4
        have hnn : (n == n) = true := by simp
        have hq := eql_pos x y
        have hm : Try.prog.eqGuardType Try.prog.depth 80 = false := by kernel_rfl
        clear G1 G2 hx4 hpl
        go_wp2_with fail
        refine (HG1.out w4 (Below.refl _ _)).mono ?_
        rintro e w5 ⟨rfl, hb5⟩
        have hb6 : Below w4.heap.size w4 (w5.alloc (.cells #[.int .i64 x, .int .i64 y] 80)) := hb5.trans ((below1 w5 _).mono hb5.size)
        have hp5 : (w5.alloc (.cells #[.int .i64 x, .int .i64 y] 80)).heap[w5.heap.size]? = some (.cells #[.int .i64 x, .int .i64 y] 80 (0, 0)) := heap_alloc_new w5 _
        have hx6 : (w5.alloc (.cells #[.int .i64 x, .int .i64 y] 80)).heap[w.heap.size]? = some (.cells #[.int .i64 pf, .int .i64 pa] 80 (0, 0)) := (hb6.block w.heap.size (by omega)).trans HX4.out
        obtain ⟨v0, v1, _, _⟩ := pos_cells hx6
        have HP5 := Lib.hid hp5
        have HG3 := Lib.hid (HG2.out _ hb6)
        have hs5 : w5.heap.size < (w5.alloc (.cells #[.int .i64 x, .int .i64 y] 80)).heap.size := by simp
        clear hp5 hx6
        go_wp2_with fail
        refine HG3.out.mono ?_
        rintro e w7 ⟨rfl, hb7⟩
        have hp7 : w7.heap[w5.heap.size]? = some (.cells #[.int .i64 x, .int .i64 y] 80 (0, 0)) := (hb7.block w5.heap.size hs5).trans HP5.out
        have hb8 : Below w7.heap.size w7 (w7.alloc (.cells #[.int .i64 x, .int .i64 y] 80)) := below1 _ _
        have hp8 : (w7.alloc (.cells #[.int .i64 x, .int .i64 y] 80)).heap[w5.heap.size]? = some (.cells #[.int .i64 x, .int .i64 y] 80 (0, 0)) := (hb8.block w5.heap.size (Array.getElem?_eq_some_iff.1 hp7).1).trans hp7
        have hq8 : (w7.alloc (.cells #[.int .i64 x, .int .i64 y] 80)).heap[w7.heap.size]? = some (.cells #[.int .i64 x, .int .i64 y] 80 (0, 0)) := heap_alloc_new w7 _
        obtain ⟨e0, e1, _, _⟩ := pos_cells hp8
        obtain ⟨k0, k1, _, _⟩ := pos_cells hq8
        have hB8 : Below w.heap.size w (w7.alloc (.cells #[.int .i64 x, .int .i64 y] 80)) := hB4.trans (((hb6.trans (hb7.mono hb6.size)).trans (hb8.mono (Nat.le_trans hb6.size hb7.size))).mono hB4.size)
        clear hp7 hp8 hq8 v0 v1 x0 x1
        go_wp2_with fail
        refine (num_er n hn _).mono ?_
        rintro e w9 ⟨rfl, rfl⟩
        go_wp2
        go_ret
        exact ⟨rfl, hB8⟩
end Go.Proofs.Ytgfafinpcpiogaa
