/- The contract of the document's Diff. -/
import Derived.Test.YtgfafinpcpiogaaFilesAlive
import Derived.Test.YtgfafinpcpiogaaTextStore
import Derived.Deep.RegionHeld3
namespace Go.Proofs.Ytgfafinpcpiogaa
open Go.RowKit EditMath FilesMath

/-- a slice of patches that reads as this plain list, with an error's number -/
def PatR (L : List (ByteArray × List Ed)) (n : Int) (w : World) (e : Ending) (w' : World) : Prop :=
  ∃ (A : Option Addr) (c : Nat) (m : List Pt), e = .returned (.tuple #[.slice A m.length c, .int .i64 n]) ∧ Pts w' w'.heap.size A m ∧ m.map pd = L ∧ Below w.heap.size w w'

def RdI (w : World) (a b : List Fl) (v i : Value) (wr : World) : Prop :=
  ∃ (k : Nat) (A' : Option Addr) (c' : Nat) (m : List Pt), k ≤ a.length ∧ i = .int .i64 (k : Int) ∧ v = .slice A' m.length c' ∧ Below w.heap.size w wr ∧ PRow wr w.heap.size A' c' m ∧ m.length ≤ k ∧ m.map pd = dfs (a.take k) (b.take k)

theorem ix_int {s : ByteArray} {i : Nat} {u : UInt8} {z : Int} (hz : z = (i : Int)) (h : s.data.toList[i]? = some u) (W : World) : (Instr.index 9 (.string s) (.int .i64 z)).run Try.prog W = .ok (.int .u8 u.toNat) W := by
  rw [hz]; exact run_ix h W

theorem drop_rev {s : List UInt8} {n i : Nat} (h : i < s.length - n) : (s.drop n)[(s.drop n).length - 1 - i]? = s[s.length - 1 - i]? := by
  rw [List.length_drop, List.getElem?_drop]
  congr 1
  omega
theorem cen_drop {s t : List UInt8} {n q : Nat} (h1 : q ≤ s.length - n) (h2 : q ≤ t.length - n) (h : ∀ i, i < q → s[s.length - 1 - i]? = t[t.length - 1 - i]?) (hn : ¬ (q < s.length - n ∧ q < t.length - n ∧ s[s.length - 1 - q]? = t[t.length - 1 - q]?)) : cen (s.drop n) (t.drop n) = q :=
  cen_of (by rw [List.length_drop]; exact h1) (by rw [List.length_drop]; exact h2) (fun i hi => by rw [drop_rev (by omega), drop_rev (by omega)]; exact h i hi)
    (fun k => hn ⟨by rw [List.length_drop] at k; exact k.1, by have := k.2.1; rw [List.length_drop] at this; exact this, by
      have a1 : q < s.length - n := by have := k.1; rw [List.length_drop] at this; exact this
      have a2 : q < t.length - n := by have := k.2.1; rw [List.length_drop] at this; exact this
      have := k.2.2
      rw [drop_rev a1, drop_rev a2] at this
      exact this⟩)

set_option maxRecDepth 100000 in
set_option maxHeartbeats 20000000 in
theorem refDiff_ok (A A2 : Option Addr) (c c2 : Nat) (a b : List Fl) (w : World) (hl : a.length ≤ 30) (hl2 : b.length ≤ 30) (ht : tot a ≤ 50000) (ht2 : tot b ≤ 50000) (hr : Fls w w.heap.size A a) (hr2 : Fls w w.heap.size A2 b)
    (hR : rgt a = true) (hR2 : rgt b = true) (hS : sameN a b = true) :
    Calls Try.prog 46 #[.slice A a.length c, .slice A2 b.length c2] w (PatR (dfs a b) 0 w) := by
  have HR := Lib.hid (refRight4_any A c a w hl (sizes_of ht) hr)
  have HR2 := Lib.hid (refRight4_any A2 c2 b w hl2 (sizes_of ht2) hr2)
  rw [hR] at HR
  rw [hR2] at HR2
  have HSN := Lib.hid (sameN_iff.1 hS)
  have HZ := Lib.hid (sizes_of ht)
  have HZ2 := Lib.hid (sizes_of ht2)
  clear hR hR2 hS ht ht2
  have hln : ((a.length : Int) != b.length) = false := by simp [HSN.out.1]
  go_enter Try.func46, Try.ntmps46
  go_wp2_with fail
  refine HR.out.mono ?_
  rintro e w1 ⟨rfl, rfl⟩
  go_wp2_with fail
  refine HR2.out.mono ?_
  rintro e w1 ⟨rfl, rfl⟩
  go_wp2
  go_loopw [6] (fun i wr => ∃ k : Nat, k ≤ a.length ∧ i = .int .i64 (k : Int) ∧ Below w.heap.size w wr) (fun i _ => a.length - (intOf i).toNat)
  case atStart => exact ⟨0, Nat.zero_le _, rfl, Below.refl _ _⟩
  case round =>
    obtain ⟨k, hk, rfl, hB⟩ := hrel
    by_cases hlt : k < a.length
    · have hlt2 : k < b.length := by rw [← HSN.out.1]; exact hlt
      have he : a[k]? = some a[k] := List.getElem?_eq_getElem hlt
      have hf : b[k]? = some b[k] := List.getElem?_eq_getElem hlt2
      generalize a[k] = e at he
      generalize b[k] = f at hf
      have hnn := HSN.out.2 k e f he hf
      obtain ⟨bb, off, rfl, hb, c0, c1⟩ := (hr.below hB).at_ he
      obtain ⟨b2, off2, rfl, hb2, g0, g1⟩ := (hr2.below hB).at_ hf
      have hs1 := str_beq e.n f.n
      rw [decide_eq_true hnn] at hs1
      clear he hf hnn
      have z0 : (0 : Int) ≤ k := by omega
      have z1 : (k : Int) < a.length := by omega
      have z2 : (k : Int) < b.length := by omega
      go_wp2
      go_quiet (fail)
      go_wp2
      go_roundw
      case rel => exact ⟨k + 1, by omega, by go_num, below_drewN hB _⟩
      case measure => simp [intOf]; omega
    · obtain rfl : k = a.length := by omega
      go_wp2
      have hB0 := hB
      clear hB
      go_loopw [7, 8, 9, 10, 11, 12, 13] (fun v i _ _ _ _ _ wr => RdI w a b v i wr) (fun _ i _ _ _ _ _ _ => a.length - (intOf i).toNat)
      case atStart => exact ⟨0, none, 0, [], Nat.zero_le _, rfl, rfl, hB0, PRow.nil _ _, by simp, rfl⟩
      case round =>
        obtain ⟨k, A', c', m, hk, rfl, rfl, hB, hown, hml, hmd⟩ := hrel
        have HMD := Lib.hid hmd
        clear hmd
        by_cases hlt : k < a.length
        · have hlt2 : k < b.length := by rw [← HSN.out.1]; exact hlt
          have he : a[k]? = some a[k] := List.getElem?_eq_getElem hlt
          have hf : b[k]? = some b[k] := List.getElem?_eq_getElem hlt2
          generalize a[k] = e at he
          generalize b[k] = f at hf
          have hz := (HZ.out k e he).2
          have hz2 := (HZ2.out k f hf).2
          obtain ⟨bb, off, rfl, hb, c0, c1⟩ := (hr.below hB).at_ he
          obtain ⟨b2, off2, rfl, hb2, g0, g1⟩ := (hr2.below hB).at_ hf
          have HE := Lib.hid he
          have HF := Lib.hid hf
          clear he hf
          have z0 : (0 : Int) ≤ k := by omega
          have z1 : (k : Int) < a.length := by omega
          have z2 : (k : Int) < b.length := by omega
          have HO := Lib.hid hown
          clear hown
          have hs1 := str_beq e.t f.t
          by_cases hq : e.t = f.t
          · rw [decide_eq_true hq] at hs1
            have HD := Lib.hid (dfs_same HE.out HF.out hq)
            clear hq
            go_wp2
            go_quiet (fail)
            go_wp2
            go_roundw
            case rel =>
              have hBB : Below wr.heap.size wr (wr.drewN nq) := below_drewN (Below.refl _ _) _
              exact ⟨k + 1, A', c', m, by omega, by go_num, rfl, hB.trans (hBB.mono hB.size), HO.out.below hBB, by omega, by rw [HD.out]; exact HMD.out⟩
            case measure => simp [intOf]; omega
          · rw [decide_eq_false hq] at hs1
            have HD := Lib.hid (dfs_more HE.out HF.out hq)
            clear hq
            go_wp2
            go_quiet (fail)
            go_wp2
            have hBB : Below wr.heap.size wr (wr.drewN nq) := below_drewN (Below.refl _ _) _
            have hB1 := hB.trans (hBB.mono hB.size)
            have HO1 := Lib.hid (HO.out.below hBB)
            have y0 : (wr.drewN nq).cell? ⟨bb, off + k * 2, none⟩ = some (.string e.n) := c0
            generalize wr.drewN nq = W1 at *
            clear hBB HO c0 c1 g0 g1 hB hB0
            go_loopw [11] (fun i wr => ∃ j : Nat, j ≤ e.t.size ∧ j ≤ f.t.size ∧ i = .int .i64 j ∧ Below W1.heap.size W1 wr ∧ Hid (∀ i, i < j → e.t.data.toList[i]? = f.t.data.toList[i]?)) (fun i _ => e.t.size - (intOf i).toNat)
            case atStart => exact ⟨0, Nat.zero_le _, Nat.zero_le _, rfl, Below.refl _ _, Lib.hid (fun i hi => absurd hi (Nat.not_lt_zero _))⟩
            case round =>
              obtain ⟨j, hja, hjb, rfl, hB2, HN⟩ := hrel
              have z4 : (0 : Int) ≤ j := by omega
              by_cases h1 : j < e.t.size
              · have z5 : (j : Int) < e.t.size := by omega
                by_cases h2 : j < f.t.size
                · have z6 : (j : Int) < f.t.size := by omega
                  have e1 : e.t.data.toList[j]? = some (e.t.data.toList[j]'h1) := List.getElem?_eq_getElem h1
                  have e2 : f.t.data.toList[j]? = some (f.t.data.toList[j]'h2) := List.getElem?_eq_getElem h2
                  generalize e.t.data.toList[j]'h1 = x at e1
                  generalize f.t.data.toList[j]'h2 = y at e2
                  have r1 := run_ix e1
                  have r2 := run_ix e2
                  have hu := u8_beq x y
                  have HE1 := Lib.hid e1
                  have HE2 := Lib.hid e2
                  clear e1 e2
                  by_cases hxy : x = y
                  · rw [decide_eq_true hxy] at hu
                    have HXY := Lib.hid hxy
                    clear hxy
                    go_wp2
                    go_quiet (fail)
                    go_wp2
                    go_roundw
                    case rel =>
                      refine ⟨j + 1, by omega, by omega, by go_num, below_drewN hB2 _, Lib.hid (fun i hi => ?_)⟩
                      by_cases e : i = j
                      · subst e; rw [HE1.out, HE2.out, HXY.out]
                      · exact HN.out i (by omega)
                    case measure => simp [intOf]; omega
                  · rw [decide_eq_false hxy] at hu
                    have HJ : Hid (dfF e.t f.t = j) := Lib.hid (cst_of j e.t.data.toList f.t.data.toList hja hjb HN.out (fun q => by have q2 := q.2.2; rw [HE1.out, HE2.out] at q2; injection q2 with q2; exact hxy q2))
                    clear hxy
                    go_wp2
                    go_quiet (fail)
                    go_wp2
                    have hW2 : Below W1.heap.size W1 (wr.drewN nq) := below_drewN hB2 _
                    have hBw : Below w.heap.size w (wr.drewN nq) := hB1.trans (hW2.mono hB1.size)
                    have HO2 := Lib.hid (HO1.out.below hW2)
                    have y2 : (wr.drewN nq).cell? ⟨bb, off + k * 2, none⟩ = some (.string e.n) := (hW2.cell (p := ⟨bb, off + k * 2, none⟩) (Nat.lt_of_lt_of_le hb hB1.size)).trans y0
                    generalize wr.drewN nq = W2 at *
                    clear hW2 hB2
                    go_loopw [12, 13] (fun x y wr => ∃ q : Nat, q ≤ e.t.size - j ∧ q ≤ f.t.size - j ∧ x = .int .i64 ((e.t.size : Int) - q) ∧ y = .int .i64 ((f.t.size : Int) - q) ∧ Below W2.heap.size W2 wr ∧ Hid (∀ i, i < q → e.t.data.toList[e.t.data.toList.length - 1 - i]? = f.t.data.toList[f.t.data.toList.length - 1 - i]?)) (fun x _ _ => (intOf x).toNat)
                    case atStart => exact ⟨0, Nat.zero_le _, Nat.zero_le _, by simp, by simp, Below.refl _ _, Lib.hid (fun i hi => absurd hi (Nat.not_lt_zero _))⟩
                    case round =>
                      obtain ⟨q, hqa, hqb, rfl, rfl, hB3, HN3⟩ := hrel
                      have hjs : j ≤ e.t.size := hja
                      have hjt : j ≤ f.t.size := hjb
                      by_cases k1 : q < e.t.size - j
                      · have x1 : (j : Int) < (e.t.size : Int) - q := by omega
                        by_cases k2 : q < f.t.size - j
                        · have x2 : (j : Int) < (f.t.size : Int) - q := by omega
                          have e1 : e.t.data.toList[e.t.size - 1 - q]? = some (e.t.data.toList[e.t.size - 1 - q]'(show e.t.size - 1 - q < e.t.size by omega)) := List.getElem?_eq_getElem _
                          have e2 : f.t.data.toList[f.t.size - 1 - q]? = some (f.t.data.toList[f.t.size - 1 - q]'(show f.t.size - 1 - q < f.t.size by omega)) := List.getElem?_eq_getElem _
                          generalize e.t.data.toList[e.t.size - 1 - q]'(show e.t.size - 1 - q < e.t.size by omega) = x at e1
                          generalize f.t.data.toList[f.t.size - 1 - q]'(show f.t.size - 1 - q < f.t.size by omega) = y at e2
                          have r3 := ix_int (z := (e.t.size : Int) - q - 1) (by omega) e1
                          have r4 := ix_int (z := (f.t.size : Int) - q - 1) (by omega) e2
                          have hu2 := u8_beq x y
                          have HG1 : Hid (e.t.data.toList[e.t.data.toList.length - 1 - q]? = some x) := Lib.hid e1
                          have HG2 : Hid (f.t.data.toList[f.t.data.toList.length - 1 - q]? = some y) := Lib.hid e2
                          clear e1 e2
                          by_cases hxy : x = y
                          · rw [decide_eq_true hxy] at hu2
                            have HXY := Lib.hid hxy
                            clear hxy
                            go_wp2
                            go_quiet (fail)
                            go_wp2
                            go_roundw
                            case rel =>
                              refine ⟨q + 1, by omega, by omega, by go_num, by go_num, below_drewN hB3 _, Lib.hid (fun i hi => ?_)⟩
                              by_cases e : i = q
                              · subst e; rw [HG1.out, HG2.out, HXY.out]
                              · exact HN3.out i (by omega)
                            case measure => simp [intOf]; omega
                          · rw [decide_eq_false hxy] at hu2
                            have HM : Hid (dfM e.t f.t = q) := Lib.hid (by unfold dfM; rw [HJ.out]; exact cen_drop hqa hqb HN3.out (fun z => by have z2 := z.2.2; rw [HG1.out, HG2.out] at z2; injection z2 with z2; exact hxy z2))
                            clear hxy
                            go_wp2
                            go_quiet (fail)
                            go_wp2
                            have hW3 : Below W2.heap.size W2 (wr.drewN nq) := below_drewN hB3 _
                            have hBw3 : Below w.heap.size w (wr.drewN nq) := hBw.trans (hW3.mono hBw.size)
                            have HO3 := Lib.hid (HO2.out.below hW3)
                            have y3 : (wr.drewN nq).cell? ⟨bb, off + k * 2, none⟩ = some (.string e.n) := (hW3.cell (p := ⟨bb, off + k * 2, none⟩) (Nat.lt_of_lt_of_le hb hBw.size)).trans y2
                            generalize wr.drewN nq = W3 at *
                            clear hW3 hB3 y2
                            have v1 : (j : Int) ≤ (f.t.size : Int) - q := by omega
                            have v2 : (f.t.size : Int) - q ≤ f.t.size := by omega
                            have v3 : ((f.t.size : Int) - q).toNat = f.t.size - q := by omega
                            have HDE : Hid (dfE e.t f.t = ⟨j, (e.t.size : Int) - q, f.t.extract j (f.t.size - q)⟩) := Lib.hid (by unfold dfE; rw [HJ.out, HM.out])
                            clear HM HJ HN HN3 HO2 HO1
                            have hsz3 := hBw3.size
                            go_region_held3 (fun w' => w'.cell? ⟨bb, off + k * 2, none⟩ = some (.string e.n))
                              (first
                                | (go_keep; done)
                                | (rw [hgrow.cell_far ⟨bb, off + k * 2, none⟩ (by simp; omega) (fun h => by have := (HO3.out.1.lt _ h.symm).1; simp at this; omega)]; go_keep; done))
                              ((refine step_append_OwnP (by rfl) _ _ (by rfl) _ w.heap.size A' c' m ⟨e.n, some ⟨W3.heap.size, 0, none⟩, 1, [⟨j, (e.t.size : Int) - q, f.t.extract j (f.t.size - q)⟩]⟩ (W3.heap.size + 1) (by rfl) (by rfl) (by exact second_new2 _ _ _) ((HO3.out.1.drew.alloc _).alloc _) (by omega) (by simp; omega) ?_; intro A6 c6 w6 hown6 hgrow hat6))
                            have hdr : Below W3.heap.size W3 W3.drew := ⟨rfl, rfl, rfl, Nat.le_refl _, fun _ _ => rfl⟩
                            have hV : Below W3.heap.size W3 ((W3.drew.alloc (.cells #[.int .i64 j, .int .i64 ((e.t.size : Int) - q), .string (f.t.extract j (f.t.size - q))] 87)).alloc (.cells #[.string e.n, .slice (some ⟨W3.heap.size, 0, none⟩) 1 1] 122)) := hdr.trans (below2 W3.drew _ _)
                            have hB6 : Below w.heap.size w w6 := ((HO3.out.1.drew.alloc _).alloc _).belowApp (hBw3.trans (hV.mono hBw3.size)) hgrow (Nat.le_refl _) (by simp; omega)
                            have hrow6 := (HO3.out.below hV).grown (p := ⟨e.n, some ⟨W3.heap.size, 0, none⟩, 1, [⟨j, (e.t.size : Int) - q, f.t.extract j (f.t.size - q)⟩]⟩) ⟨one_eds2 (first_new2 W3.drew _ _), by simp, fun h => by cases h⟩
                              (fun _ ad had => by injection had with had; subst had; exact ⟨fun h => by have := (HO3.out.1.lt _ h).2; simp at this, by simp; omega⟩) hown6 hgrow hat6
                            have HO6 := Lib.hid hrow6
                            clear hrow6 hown6 hgrow hat6 hV
                            go_wp2
                            go_roundw
                            case rel => exact ⟨k + 1, A6, c6, _, by omega, by go_num, by simp, hB6, HO6.out, by simp; omega, by rw [HD.out, ← HMD.out, HDE.out]; simp [pd]⟩
                            case measure => simp [intOf]; omega
                        · have x2 : decide ((j : Int) < (f.t.size : Int) - q) = false := decide_eq_false (by omega)
                          have HM : Hid (dfM e.t f.t = q) := Lib.hid (by unfold dfM; rw [HJ.out]; exact cen_drop hqa hqb HN3.out (fun z => k2 z.2.1))
                          go_wp2
                          go_quiet (fail)
                          go_wp2
                          have hW3 : Below W2.heap.size W2 (wr.drewN nq) := below_drewN hB3 _
                          have hBw3 : Below w.heap.size w (wr.drewN nq) := hBw.trans (hW3.mono hBw.size)
                          have HO3 := Lib.hid (HO2.out.below hW3)
                          have y3 : (wr.drewN nq).cell? ⟨bb, off + k * 2, none⟩ = some (.string e.n) := (hW3.cell (p := ⟨bb, off + k * 2, none⟩) (Nat.lt_of_lt_of_le hb hBw.size)).trans y2
                          generalize wr.drewN nq = W3 at *
                          clear hW3 hB3 y2
                          have v1 : (j : Int) ≤ (f.t.size : Int) - q := by omega
                          have v2 : (f.t.size : Int) - q ≤ f.t.size := by omega
                          have v3 : ((f.t.size : Int) - q).toNat = f.t.size - q := by omega
                          have HDE : Hid (dfE e.t f.t = ⟨j, (e.t.size : Int) - q, f.t.extract j (f.t.size - q)⟩) := Lib.hid (by unfold dfE; rw [HJ.out, HM.out])
                          clear HM HJ HN HN3 HO2 HO1
                          have hsz3 := hBw3.size
                          go_region_held3 (fun w' => w'.cell? ⟨bb, off + k * 2, none⟩ = some (.string e.n))
                            (first
                              | (go_keep; done)
                              | (rw [hgrow.cell_far ⟨bb, off + k * 2, none⟩ (by simp; omega) (fun h => by have := (HO3.out.1.lt _ h.symm).1; simp at this; omega)]; go_keep; done))
                            ((refine step_append_OwnP (by rfl) _ _ (by rfl) _ w.heap.size A' c' m ⟨e.n, some ⟨W3.heap.size, 0, none⟩, 1, [⟨j, (e.t.size : Int) - q, f.t.extract j (f.t.size - q)⟩]⟩ (W3.heap.size + 1) (by rfl) (by rfl) (by exact second_new2 _ _ _) ((HO3.out.1.drew.alloc _).alloc _) (by omega) (by simp; omega) ?_; intro A6 c6 w6 hown6 hgrow hat6))
                          have hdr : Below W3.heap.size W3 W3.drew := ⟨rfl, rfl, rfl, Nat.le_refl _, fun _ _ => rfl⟩
                          have hV : Below W3.heap.size W3 ((W3.drew.alloc (.cells #[.int .i64 j, .int .i64 ((e.t.size : Int) - q), .string (f.t.extract j (f.t.size - q))] 87)).alloc (.cells #[.string e.n, .slice (some ⟨W3.heap.size, 0, none⟩) 1 1] 122)) := hdr.trans (below2 W3.drew _ _)
                          have hB6 : Below w.heap.size w w6 := ((HO3.out.1.drew.alloc _).alloc _).belowApp (hBw3.trans (hV.mono hBw3.size)) hgrow (Nat.le_refl _) (by simp; omega)
                          have hrow6 := (HO3.out.below hV).grown (p := ⟨e.n, some ⟨W3.heap.size, 0, none⟩, 1, [⟨j, (e.t.size : Int) - q, f.t.extract j (f.t.size - q)⟩]⟩) ⟨one_eds2 (first_new2 W3.drew _ _), by simp, fun h => by cases h⟩
                            (fun _ ad had => by injection had with had; subst had; exact ⟨fun h => by have := (HO3.out.1.lt _ h).2; simp at this, by simp; omega⟩) hown6 hgrow hat6
                          have HO6 := Lib.hid hrow6
                          clear hrow6 hown6 hgrow hat6 hV
                          go_wp2
                          go_roundw
                          case rel => exact ⟨k + 1, A6, c6, _, by omega, by go_num, by simp, hB6, HO6.out, by simp; omega, by rw [HD.out, ← HMD.out, HDE.out]; simp [pd]⟩
                          case measure => simp [intOf]; omega
                      · have x1 : decide ((j : Int) < (e.t.size : Int) - q) = false := decide_eq_false (by omega)
                        have HM : Hid (dfM e.t f.t = q) := Lib.hid (by unfold dfM; rw [HJ.out]; exact cen_drop hqa hqb HN3.out (fun z => k1 z.1))
                        go_wp2
                        go_quiet (fail)
                        go_wp2
                        have hW3 : Below W2.heap.size W2 (wr.drewN nq) := below_drewN hB3 _
                        have hBw3 : Below w.heap.size w (wr.drewN nq) := hBw.trans (hW3.mono hBw.size)
                        have HO3 := Lib.hid (HO2.out.below hW3)
                        have y3 : (wr.drewN nq).cell? ⟨bb, off + k * 2, none⟩ = some (.string e.n) := (hW3.cell (p := ⟨bb, off + k * 2, none⟩) (Nat.lt_of_lt_of_le hb hBw.size)).trans y2
                        generalize wr.drewN nq = W3 at *
                        clear hW3 hB3 y2
                        have v1 : (j : Int) ≤ (f.t.size : Int) - q := by omega
                        have v2 : (f.t.size : Int) - q ≤ f.t.size := by omega
                        have v3 : ((f.t.size : Int) - q).toNat = f.t.size - q := by omega
                        have HDE : Hid (dfE e.t f.t = ⟨j, (e.t.size : Int) - q, f.t.extract j (f.t.size - q)⟩) := Lib.hid (by unfold dfE; rw [HJ.out, HM.out])
                        clear HM HJ HN HN3 HO2 HO1
                        have hsz3 := hBw3.size
                        go_region_held3 (fun w' => w'.cell? ⟨bb, off + k * 2, none⟩ = some (.string e.n))
                          (first
                            | (go_keep; done)
                            | (rw [hgrow.cell_far ⟨bb, off + k * 2, none⟩ (by simp; omega) (fun h => by have := (HO3.out.1.lt _ h.symm).1; simp at this; omega)]; go_keep; done))
                          ((refine step_append_OwnP (by rfl) _ _ (by rfl) _ w.heap.size A' c' m ⟨e.n, some ⟨W3.heap.size, 0, none⟩, 1, [⟨j, (e.t.size : Int) - q, f.t.extract j (f.t.size - q)⟩]⟩ (W3.heap.size + 1) (by rfl) (by rfl) (by exact second_new2 _ _ _) ((HO3.out.1.drew.alloc _).alloc _) (by omega) (by simp; omega) ?_; intro A6 c6 w6 hown6 hgrow hat6))
                        have hdr : Below W3.heap.size W3 W3.drew := ⟨rfl, rfl, rfl, Nat.le_refl _, fun _ _ => rfl⟩
                        have hV : Below W3.heap.size W3 ((W3.drew.alloc (.cells #[.int .i64 j, .int .i64 ((e.t.size : Int) - q), .string (f.t.extract j (f.t.size - q))] 87)).alloc (.cells #[.string e.n, .slice (some ⟨W3.heap.size, 0, none⟩) 1 1] 122)) := hdr.trans (below2 W3.drew _ _)
                        have hB6 : Below w.heap.size w w6 := ((HO3.out.1.drew.alloc _).alloc _).belowApp (hBw3.trans (hV.mono hBw3.size)) hgrow (Nat.le_refl _) (by simp; omega)
                        have hrow6 := (HO3.out.below hV).grown (p := ⟨e.n, some ⟨W3.heap.size, 0, none⟩, 1, [⟨j, (e.t.size : Int) - q, f.t.extract j (f.t.size - q)⟩]⟩) ⟨one_eds2 (first_new2 W3.drew _ _), by simp, fun h => by cases h⟩
                          (fun _ ad had => by injection had with had; subst had; exact ⟨fun h => by have := (HO3.out.1.lt _ h).2; simp at this, by simp; omega⟩) hown6 hgrow hat6
                        have HO6 := Lib.hid hrow6
                        clear hrow6 hown6 hgrow hat6 hV
                        go_wp2
                        go_roundw
                        case rel => exact ⟨k + 1, A6, c6, _, by omega, by go_num, by simp, hB6, HO6.out, by simp; omega, by rw [HD.out, ← HMD.out, HDE.out]; simp [pd]⟩
                        case measure => simp [intOf]; omega
                · have z6 : decide ((j : Int) < f.t.size) = false := decide_eq_false (by omega)
                  have HJ : Hid (dfF e.t f.t = j) := Lib.hid (cst_of j e.t.data.toList f.t.data.toList hja hjb HN.out (fun q => h2 q.2.1))
                  go_wp2
                  go_quiet (fail)
                  go_wp2
                  have hW2 : Below W1.heap.size W1 (wr.drewN nq) := below_drewN hB2 _
                  have hBw : Below w.heap.size w (wr.drewN nq) := hB1.trans (hW2.mono hB1.size)
                  have HO2 := Lib.hid (HO1.out.below hW2)
                  have y2 : (wr.drewN nq).cell? ⟨bb, off + k * 2, none⟩ = some (.string e.n) := (hW2.cell (p := ⟨bb, off + k * 2, none⟩) (Nat.lt_of_lt_of_le hb hB1.size)).trans y0
                  generalize wr.drewN nq = W2 at *
                  clear hW2 hB2
                  go_loopw [12, 13] (fun x y wr => ∃ q : Nat, q ≤ e.t.size - j ∧ q ≤ f.t.size - j ∧ x = .int .i64 ((e.t.size : Int) - q) ∧ y = .int .i64 ((f.t.size : Int) - q) ∧ Below W2.heap.size W2 wr ∧ Hid (∀ i, i < q → e.t.data.toList[e.t.data.toList.length - 1 - i]? = f.t.data.toList[f.t.data.toList.length - 1 - i]?)) (fun x _ _ => (intOf x).toNat)
                  case atStart => exact ⟨0, Nat.zero_le _, Nat.zero_le _, by simp, by simp, Below.refl _ _, Lib.hid (fun i hi => absurd hi (Nat.not_lt_zero _))⟩
                  case round =>
                    obtain ⟨q, hqa, hqb, rfl, rfl, hB3, HN3⟩ := hrel
                    have hjs : j ≤ e.t.size := hja
                    have hjt : j ≤ f.t.size := hjb
                    by_cases k1 : q < e.t.size - j
                    · have x1 : (j : Int) < (e.t.size : Int) - q := by omega
                      by_cases k2 : q < f.t.size - j
                      · have x2 : (j : Int) < (f.t.size : Int) - q := by omega
                        have e1 : e.t.data.toList[e.t.size - 1 - q]? = some (e.t.data.toList[e.t.size - 1 - q]'(show e.t.size - 1 - q < e.t.size by omega)) := List.getElem?_eq_getElem _
                        have e2 : f.t.data.toList[f.t.size - 1 - q]? = some (f.t.data.toList[f.t.size - 1 - q]'(show f.t.size - 1 - q < f.t.size by omega)) := List.getElem?_eq_getElem _
                        generalize e.t.data.toList[e.t.size - 1 - q]'(show e.t.size - 1 - q < e.t.size by omega) = x at e1
                        generalize f.t.data.toList[f.t.size - 1 - q]'(show f.t.size - 1 - q < f.t.size by omega) = y at e2
                        have r3 := ix_int (z := (e.t.size : Int) - q - 1) (by omega) e1
                        have r4 := ix_int (z := (f.t.size : Int) - q - 1) (by omega) e2
                        have hu2 := u8_beq x y
                        have HG1 : Hid (e.t.data.toList[e.t.data.toList.length - 1 - q]? = some x) := Lib.hid e1
                        have HG2 : Hid (f.t.data.toList[f.t.data.toList.length - 1 - q]? = some y) := Lib.hid e2
                        clear e1 e2
                        by_cases hxy : x = y
                        · rw [decide_eq_true hxy] at hu2
                          have HXY := Lib.hid hxy
                          clear hxy
                          go_wp2
                          go_quiet (fail)
                          go_wp2
                          go_roundw
                          case rel =>
                            refine ⟨q + 1, by omega, by omega, by go_num, by go_num, below_drewN hB3 _, Lib.hid (fun i hi => ?_)⟩
                            by_cases e : i = q
                            · subst e; rw [HG1.out, HG2.out, HXY.out]
                            · exact HN3.out i (by omega)
                          case measure => simp [intOf]; omega
                        · rw [decide_eq_false hxy] at hu2
                          have HM : Hid (dfM e.t f.t = q) := Lib.hid (by unfold dfM; rw [HJ.out]; exact cen_drop hqa hqb HN3.out (fun z => by have z2 := z.2.2; rw [HG1.out, HG2.out] at z2; injection z2 with z2; exact hxy z2))
                          clear hxy
                          go_wp2
                          go_quiet (fail)
                          go_wp2
                          have hW3 : Below W2.heap.size W2 (wr.drewN nq) := below_drewN hB3 _
                          have hBw3 : Below w.heap.size w (wr.drewN nq) := hBw.trans (hW3.mono hBw.size)
                          have HO3 := Lib.hid (HO2.out.below hW3)
                          have y3 : (wr.drewN nq).cell? ⟨bb, off + k * 2, none⟩ = some (.string e.n) := (hW3.cell (p := ⟨bb, off + k * 2, none⟩) (Nat.lt_of_lt_of_le hb hBw.size)).trans y2
                          generalize wr.drewN nq = W3 at *
                          clear hW3 hB3 y2
                          have v1 : (j : Int) ≤ (f.t.size : Int) - q := by omega
                          have v2 : (f.t.size : Int) - q ≤ f.t.size := by omega
                          have v3 : ((f.t.size : Int) - q).toNat = f.t.size - q := by omega
                          have HDE : Hid (dfE e.t f.t = ⟨j, (e.t.size : Int) - q, f.t.extract j (f.t.size - q)⟩) := Lib.hid (by unfold dfE; rw [HJ.out, HM.out])
                          clear HM HJ HN HN3 HO2 HO1
                          have hsz3 := hBw3.size
                          go_region_held3 (fun w' => w'.cell? ⟨bb, off + k * 2, none⟩ = some (.string e.n))
                            (first
                              | (go_keep; done)
                              | (rw [hgrow.cell_far ⟨bb, off + k * 2, none⟩ (by simp; omega) (fun h => by have := (HO3.out.1.lt _ h.symm).1; simp at this; omega)]; go_keep; done))
                            ((refine step_append_OwnP (by rfl) _ _ (by rfl) _ w.heap.size A' c' m ⟨e.n, some ⟨W3.heap.size, 0, none⟩, 1, [⟨j, (e.t.size : Int) - q, f.t.extract j (f.t.size - q)⟩]⟩ (W3.heap.size + 1) (by rfl) (by rfl) (by exact second_new2 _ _ _) ((HO3.out.1.drew.alloc _).alloc _) (by omega) (by simp; omega) ?_; intro A6 c6 w6 hown6 hgrow hat6))
                          have hdr : Below W3.heap.size W3 W3.drew := ⟨rfl, rfl, rfl, Nat.le_refl _, fun _ _ => rfl⟩
                          have hV : Below W3.heap.size W3 ((W3.drew.alloc (.cells #[.int .i64 j, .int .i64 ((e.t.size : Int) - q), .string (f.t.extract j (f.t.size - q))] 87)).alloc (.cells #[.string e.n, .slice (some ⟨W3.heap.size, 0, none⟩) 1 1] 122)) := hdr.trans (below2 W3.drew _ _)
                          have hB6 : Below w.heap.size w w6 := ((HO3.out.1.drew.alloc _).alloc _).belowApp (hBw3.trans (hV.mono hBw3.size)) hgrow (Nat.le_refl _) (by simp; omega)
                          have hrow6 := (HO3.out.below hV).grown (p := ⟨e.n, some ⟨W3.heap.size, 0, none⟩, 1, [⟨j, (e.t.size : Int) - q, f.t.extract j (f.t.size - q)⟩]⟩) ⟨one_eds2 (first_new2 W3.drew _ _), by simp, fun h => by cases h⟩
                            (fun _ ad had => by injection had with had; subst had; exact ⟨fun h => by have := (HO3.out.1.lt _ h).2; simp at this, by simp; omega⟩) hown6 hgrow hat6
                          have HO6 := Lib.hid hrow6
                          clear hrow6 hown6 hgrow hat6 hV
                          go_wp2
                          go_roundw
                          case rel => exact ⟨k + 1, A6, c6, _, by omega, by go_num, by simp, hB6, HO6.out, by simp; omega, by rw [HD.out, ← HMD.out, HDE.out]; simp [pd]⟩
                          case measure => simp [intOf]; omega
                      · have x2 : decide ((j : Int) < (f.t.size : Int) - q) = false := decide_eq_false (by omega)
                        have HM : Hid (dfM e.t f.t = q) := Lib.hid (by unfold dfM; rw [HJ.out]; exact cen_drop hqa hqb HN3.out (fun z => k2 z.2.1))
                        go_wp2
                        go_quiet (fail)
                        go_wp2
                        have hW3 : Below W2.heap.size W2 (wr.drewN nq) := below_drewN hB3 _
                        have hBw3 : Below w.heap.size w (wr.drewN nq) := hBw.trans (hW3.mono hBw.size)
                        have HO3 := Lib.hid (HO2.out.below hW3)
                        have y3 : (wr.drewN nq).cell? ⟨bb, off + k * 2, none⟩ = some (.string e.n) := (hW3.cell (p := ⟨bb, off + k * 2, none⟩) (Nat.lt_of_lt_of_le hb hBw.size)).trans y2
                        generalize wr.drewN nq = W3 at *
                        clear hW3 hB3 y2
                        have v1 : (j : Int) ≤ (f.t.size : Int) - q := by omega
                        have v2 : (f.t.size : Int) - q ≤ f.t.size := by omega
                        have v3 : ((f.t.size : Int) - q).toNat = f.t.size - q := by omega
                        have HDE : Hid (dfE e.t f.t = ⟨j, (e.t.size : Int) - q, f.t.extract j (f.t.size - q)⟩) := Lib.hid (by unfold dfE; rw [HJ.out, HM.out])
                        clear HM HJ HN HN3 HO2 HO1
                        have hsz3 := hBw3.size
                        go_region_held3 (fun w' => w'.cell? ⟨bb, off + k * 2, none⟩ = some (.string e.n))
                          (first
                            | (go_keep; done)
                            | (rw [hgrow.cell_far ⟨bb, off + k * 2, none⟩ (by simp; omega) (fun h => by have := (HO3.out.1.lt _ h.symm).1; simp at this; omega)]; go_keep; done))
                          ((refine step_append_OwnP (by rfl) _ _ (by rfl) _ w.heap.size A' c' m ⟨e.n, some ⟨W3.heap.size, 0, none⟩, 1, [⟨j, (e.t.size : Int) - q, f.t.extract j (f.t.size - q)⟩]⟩ (W3.heap.size + 1) (by rfl) (by rfl) (by exact second_new2 _ _ _) ((HO3.out.1.drew.alloc _).alloc _) (by omega) (by simp; omega) ?_; intro A6 c6 w6 hown6 hgrow hat6))
                        have hdr : Below W3.heap.size W3 W3.drew := ⟨rfl, rfl, rfl, Nat.le_refl _, fun _ _ => rfl⟩
                        have hV : Below W3.heap.size W3 ((W3.drew.alloc (.cells #[.int .i64 j, .int .i64 ((e.t.size : Int) - q), .string (f.t.extract j (f.t.size - q))] 87)).alloc (.cells #[.string e.n, .slice (some ⟨W3.heap.size, 0, none⟩) 1 1] 122)) := hdr.trans (below2 W3.drew _ _)
                        have hB6 : Below w.heap.size w w6 := ((HO3.out.1.drew.alloc _).alloc _).belowApp (hBw3.trans (hV.mono hBw3.size)) hgrow (Nat.le_refl _) (by simp; omega)
                        have hrow6 := (HO3.out.below hV).grown (p := ⟨e.n, some ⟨W3.heap.size, 0, none⟩, 1, [⟨j, (e.t.size : Int) - q, f.t.extract j (f.t.size - q)⟩]⟩) ⟨one_eds2 (first_new2 W3.drew _ _), by simp, fun h => by cases h⟩
                          (fun _ ad had => by injection had with had; subst had; exact ⟨fun h => by have := (HO3.out.1.lt _ h).2; simp at this, by simp; omega⟩) hown6 hgrow hat6
                        have HO6 := Lib.hid hrow6
                        clear hrow6 hown6 hgrow hat6 hV
                        go_wp2
                        go_roundw
                        case rel => exact ⟨k + 1, A6, c6, _, by omega, by go_num, by simp, hB6, HO6.out, by simp; omega, by rw [HD.out, ← HMD.out, HDE.out]; simp [pd]⟩
                        case measure => simp [intOf]; omega
                    · have x1 : decide ((j : Int) < (e.t.size : Int) - q) = false := decide_eq_false (by omega)
                      have HM : Hid (dfM e.t f.t = q) := Lib.hid (by unfold dfM; rw [HJ.out]; exact cen_drop hqa hqb HN3.out (fun z => k1 z.1))
                      go_wp2
                      go_quiet (fail)
                      go_wp2
                      have hW3 : Below W2.heap.size W2 (wr.drewN nq) := below_drewN hB3 _
                      have hBw3 : Below w.heap.size w (wr.drewN nq) := hBw.trans (hW3.mono hBw.size)
                      have HO3 := Lib.hid (HO2.out.below hW3)
                      have y3 : (wr.drewN nq).cell? ⟨bb, off + k * 2, none⟩ = some (.string e.n) := (hW3.cell (p := ⟨bb, off + k * 2, none⟩) (Nat.lt_of_lt_of_le hb hBw.size)).trans y2
                      generalize wr.drewN nq = W3 at *
                      clear hW3 hB3 y2
                      have v1 : (j : Int) ≤ (f.t.size : Int) - q := by omega
                      have v2 : (f.t.size : Int) - q ≤ f.t.size := by omega
                      have v3 : ((f.t.size : Int) - q).toNat = f.t.size - q := by omega
                      have HDE : Hid (dfE e.t f.t = ⟨j, (e.t.size : Int) - q, f.t.extract j (f.t.size - q)⟩) := Lib.hid (by unfold dfE; rw [HJ.out, HM.out])
                      clear HM HJ HN HN3 HO2 HO1
                      have hsz3 := hBw3.size
                      go_region_held3 (fun w' => w'.cell? ⟨bb, off + k * 2, none⟩ = some (.string e.n))
                        (first
                          | (go_keep; done)
                          | (rw [hgrow.cell_far ⟨bb, off + k * 2, none⟩ (by simp; omega) (fun h => by have := (HO3.out.1.lt _ h.symm).1; simp at this; omega)]; go_keep; done))
                        ((refine step_append_OwnP (by rfl) _ _ (by rfl) _ w.heap.size A' c' m ⟨e.n, some ⟨W3.heap.size, 0, none⟩, 1, [⟨j, (e.t.size : Int) - q, f.t.extract j (f.t.size - q)⟩]⟩ (W3.heap.size + 1) (by rfl) (by rfl) (by exact second_new2 _ _ _) ((HO3.out.1.drew.alloc _).alloc _) (by omega) (by simp; omega) ?_; intro A6 c6 w6 hown6 hgrow hat6))
                      have hdr : Below W3.heap.size W3 W3.drew := ⟨rfl, rfl, rfl, Nat.le_refl _, fun _ _ => rfl⟩
                      have hV : Below W3.heap.size W3 ((W3.drew.alloc (.cells #[.int .i64 j, .int .i64 ((e.t.size : Int) - q), .string (f.t.extract j (f.t.size - q))] 87)).alloc (.cells #[.string e.n, .slice (some ⟨W3.heap.size, 0, none⟩) 1 1] 122)) := hdr.trans (below2 W3.drew _ _)
                      have hB6 : Below w.heap.size w w6 := ((HO3.out.1.drew.alloc _).alloc _).belowApp (hBw3.trans (hV.mono hBw3.size)) hgrow (Nat.le_refl _) (by simp; omega)
                      have hrow6 := (HO3.out.below hV).grown (p := ⟨e.n, some ⟨W3.heap.size, 0, none⟩, 1, [⟨j, (e.t.size : Int) - q, f.t.extract j (f.t.size - q)⟩]⟩) ⟨one_eds2 (first_new2 W3.drew _ _), by simp, fun h => by cases h⟩
                        (fun _ ad had => by injection had with had; subst had; exact ⟨fun h => by have := (HO3.out.1.lt _ h).2; simp at this, by simp; omega⟩) hown6 hgrow hat6
                      have HO6 := Lib.hid hrow6
                      clear hrow6 hown6 hgrow hat6 hV
                      go_wp2
                      go_roundw
                      case rel => exact ⟨k + 1, A6, c6, _, by omega, by go_num, by simp, hB6, HO6.out, by simp; omega, by rw [HD.out, ← HMD.out, HDE.out]; simp [pd]⟩
                      case measure => simp [intOf]; omega
              · have z5 : decide ((j : Int) < e.t.size) = false := decide_eq_false (by omega)
                have HJ : Hid (dfF e.t f.t = j) := Lib.hid (cst_of j e.t.data.toList f.t.data.toList hja hjb HN.out (fun q => h1 q.1))
                go_wp2
                go_quiet (fail)
                go_wp2
                have hW2 : Below W1.heap.size W1 (wr.drewN nq) := below_drewN hB2 _
                have hBw : Below w.heap.size w (wr.drewN nq) := hB1.trans (hW2.mono hB1.size)
                have HO2 := Lib.hid (HO1.out.below hW2)
                have y2 : (wr.drewN nq).cell? ⟨bb, off + k * 2, none⟩ = some (.string e.n) := (hW2.cell (p := ⟨bb, off + k * 2, none⟩) (Nat.lt_of_lt_of_le hb hB1.size)).trans y0
                generalize wr.drewN nq = W2 at *
                clear hW2 hB2
                go_loopw [12, 13] (fun x y wr => ∃ q : Nat, q ≤ e.t.size - j ∧ q ≤ f.t.size - j ∧ x = .int .i64 ((e.t.size : Int) - q) ∧ y = .int .i64 ((f.t.size : Int) - q) ∧ Below W2.heap.size W2 wr ∧ Hid (∀ i, i < q → e.t.data.toList[e.t.data.toList.length - 1 - i]? = f.t.data.toList[f.t.data.toList.length - 1 - i]?)) (fun x _ _ => (intOf x).toNat)
                case atStart => exact ⟨0, Nat.zero_le _, Nat.zero_le _, by simp, by simp, Below.refl _ _, Lib.hid (fun i hi => absurd hi (Nat.not_lt_zero _))⟩
                case round =>
                  obtain ⟨q, hqa, hqb, rfl, rfl, hB3, HN3⟩ := hrel
                  have hjs : j ≤ e.t.size := hja
                  have hjt : j ≤ f.t.size := hjb
                  by_cases k1 : q < e.t.size - j
                  · have x1 : (j : Int) < (e.t.size : Int) - q := by omega
                    by_cases k2 : q < f.t.size - j
                    · have x2 : (j : Int) < (f.t.size : Int) - q := by omega
                      have e1 : e.t.data.toList[e.t.size - 1 - q]? = some (e.t.data.toList[e.t.size - 1 - q]'(show e.t.size - 1 - q < e.t.size by omega)) := List.getElem?_eq_getElem _
                      have e2 : f.t.data.toList[f.t.size - 1 - q]? = some (f.t.data.toList[f.t.size - 1 - q]'(show f.t.size - 1 - q < f.t.size by omega)) := List.getElem?_eq_getElem _
                      generalize e.t.data.toList[e.t.size - 1 - q]'(show e.t.size - 1 - q < e.t.size by omega) = x at e1
                      generalize f.t.data.toList[f.t.size - 1 - q]'(show f.t.size - 1 - q < f.t.size by omega) = y at e2
                      have r3 := ix_int (z := (e.t.size : Int) - q - 1) (by omega) e1
                      have r4 := ix_int (z := (f.t.size : Int) - q - 1) (by omega) e2
                      have hu2 := u8_beq x y
                      have HG1 : Hid (e.t.data.toList[e.t.data.toList.length - 1 - q]? = some x) := Lib.hid e1
                      have HG2 : Hid (f.t.data.toList[f.t.data.toList.length - 1 - q]? = some y) := Lib.hid e2
                      clear e1 e2
                      by_cases hxy : x = y
                      · rw [decide_eq_true hxy] at hu2
                        have HXY := Lib.hid hxy
                        clear hxy
                        go_wp2
                        go_quiet (fail)
                        go_wp2
                        go_roundw
                        case rel =>
                          refine ⟨q + 1, by omega, by omega, by go_num, by go_num, below_drewN hB3 _, Lib.hid (fun i hi => ?_)⟩
                          by_cases e : i = q
                          · subst e; rw [HG1.out, HG2.out, HXY.out]
                          · exact HN3.out i (by omega)
                        case measure => simp [intOf]; omega
                      · rw [decide_eq_false hxy] at hu2
                        have HM : Hid (dfM e.t f.t = q) := Lib.hid (by unfold dfM; rw [HJ.out]; exact cen_drop hqa hqb HN3.out (fun z => by have z2 := z.2.2; rw [HG1.out, HG2.out] at z2; injection z2 with z2; exact hxy z2))
                        clear hxy
                        go_wp2
                        go_quiet (fail)
                        go_wp2
                        have hW3 : Below W2.heap.size W2 (wr.drewN nq) := below_drewN hB3 _
                        have hBw3 : Below w.heap.size w (wr.drewN nq) := hBw.trans (hW3.mono hBw.size)
                        have HO3 := Lib.hid (HO2.out.below hW3)
                        have y3 : (wr.drewN nq).cell? ⟨bb, off + k * 2, none⟩ = some (.string e.n) := (hW3.cell (p := ⟨bb, off + k * 2, none⟩) (Nat.lt_of_lt_of_le hb hBw.size)).trans y2
                        generalize wr.drewN nq = W3 at *
                        clear hW3 hB3 y2
                        have v1 : (j : Int) ≤ (f.t.size : Int) - q := by omega
                        have v2 : (f.t.size : Int) - q ≤ f.t.size := by omega
                        have v3 : ((f.t.size : Int) - q).toNat = f.t.size - q := by omega
                        have HDE : Hid (dfE e.t f.t = ⟨j, (e.t.size : Int) - q, f.t.extract j (f.t.size - q)⟩) := Lib.hid (by unfold dfE; rw [HJ.out, HM.out])
                        clear HM HJ HN HN3 HO2 HO1
                        have hsz3 := hBw3.size
                        go_region_held3 (fun w' => w'.cell? ⟨bb, off + k * 2, none⟩ = some (.string e.n))
                          (first
                            | (go_keep; done)
                            | (rw [hgrow.cell_far ⟨bb, off + k * 2, none⟩ (by simp; omega) (fun h => by have := (HO3.out.1.lt _ h.symm).1; simp at this; omega)]; go_keep; done))
                          ((refine step_append_OwnP (by rfl) _ _ (by rfl) _ w.heap.size A' c' m ⟨e.n, some ⟨W3.heap.size, 0, none⟩, 1, [⟨j, (e.t.size : Int) - q, f.t.extract j (f.t.size - q)⟩]⟩ (W3.heap.size + 1) (by rfl) (by rfl) (by exact second_new2 _ _ _) ((HO3.out.1.drew.alloc _).alloc _) (by omega) (by simp; omega) ?_; intro A6 c6 w6 hown6 hgrow hat6))
                        have hdr : Below W3.heap.size W3 W3.drew := ⟨rfl, rfl, rfl, Nat.le_refl _, fun _ _ => rfl⟩
                        have hV : Below W3.heap.size W3 ((W3.drew.alloc (.cells #[.int .i64 j, .int .i64 ((e.t.size : Int) - q), .string (f.t.extract j (f.t.size - q))] 87)).alloc (.cells #[.string e.n, .slice (some ⟨W3.heap.size, 0, none⟩) 1 1] 122)) := hdr.trans (below2 W3.drew _ _)
                        have hB6 : Below w.heap.size w w6 := ((HO3.out.1.drew.alloc _).alloc _).belowApp (hBw3.trans (hV.mono hBw3.size)) hgrow (Nat.le_refl _) (by simp; omega)
                        have hrow6 := (HO3.out.below hV).grown (p := ⟨e.n, some ⟨W3.heap.size, 0, none⟩, 1, [⟨j, (e.t.size : Int) - q, f.t.extract j (f.t.size - q)⟩]⟩) ⟨one_eds2 (first_new2 W3.drew _ _), by simp, fun h => by cases h⟩
                          (fun _ ad had => by injection had with had; subst had; exact ⟨fun h => by have := (HO3.out.1.lt _ h).2; simp at this, by simp; omega⟩) hown6 hgrow hat6
                        have HO6 := Lib.hid hrow6
                        clear hrow6 hown6 hgrow hat6 hV
                        go_wp2
                        go_roundw
                        case rel => exact ⟨k + 1, A6, c6, _, by omega, by go_num, by simp, hB6, HO6.out, by simp; omega, by rw [HD.out, ← HMD.out, HDE.out]; simp [pd]⟩
                        case measure => simp [intOf]; omega
                    · have x2 : decide ((j : Int) < (f.t.size : Int) - q) = false := decide_eq_false (by omega)
                      have HM : Hid (dfM e.t f.t = q) := Lib.hid (by unfold dfM; rw [HJ.out]; exact cen_drop hqa hqb HN3.out (fun z => k2 z.2.1))
                      go_wp2
                      go_quiet (fail)
                      go_wp2
                      have hW3 : Below W2.heap.size W2 (wr.drewN nq) := below_drewN hB3 _
                      have hBw3 : Below w.heap.size w (wr.drewN nq) := hBw.trans (hW3.mono hBw.size)
                      have HO3 := Lib.hid (HO2.out.below hW3)
                      have y3 : (wr.drewN nq).cell? ⟨bb, off + k * 2, none⟩ = some (.string e.n) := (hW3.cell (p := ⟨bb, off + k * 2, none⟩) (Nat.lt_of_lt_of_le hb hBw.size)).trans y2
                      generalize wr.drewN nq = W3 at *
                      clear hW3 hB3 y2
                      have v1 : (j : Int) ≤ (f.t.size : Int) - q := by omega
                      have v2 : (f.t.size : Int) - q ≤ f.t.size := by omega
                      have v3 : ((f.t.size : Int) - q).toNat = f.t.size - q := by omega
                      have HDE : Hid (dfE e.t f.t = ⟨j, (e.t.size : Int) - q, f.t.extract j (f.t.size - q)⟩) := Lib.hid (by unfold dfE; rw [HJ.out, HM.out])
                      clear HM HJ HN HN3 HO2 HO1
                      have hsz3 := hBw3.size
                      go_region_held3 (fun w' => w'.cell? ⟨bb, off + k * 2, none⟩ = some (.string e.n))
                        (first
                          | (go_keep; done)
                          | (rw [hgrow.cell_far ⟨bb, off + k * 2, none⟩ (by simp; omega) (fun h => by have := (HO3.out.1.lt _ h.symm).1; simp at this; omega)]; go_keep; done))
                        ((refine step_append_OwnP (by rfl) _ _ (by rfl) _ w.heap.size A' c' m ⟨e.n, some ⟨W3.heap.size, 0, none⟩, 1, [⟨j, (e.t.size : Int) - q, f.t.extract j (f.t.size - q)⟩]⟩ (W3.heap.size + 1) (by rfl) (by rfl) (by exact second_new2 _ _ _) ((HO3.out.1.drew.alloc _).alloc _) (by omega) (by simp; omega) ?_; intro A6 c6 w6 hown6 hgrow hat6))
                      have hdr : Below W3.heap.size W3 W3.drew := ⟨rfl, rfl, rfl, Nat.le_refl _, fun _ _ => rfl⟩
                      have hV : Below W3.heap.size W3 ((W3.drew.alloc (.cells #[.int .i64 j, .int .i64 ((e.t.size : Int) - q), .string (f.t.extract j (f.t.size - q))] 87)).alloc (.cells #[.string e.n, .slice (some ⟨W3.heap.size, 0, none⟩) 1 1] 122)) := hdr.trans (below2 W3.drew _ _)
                      have hB6 : Below w.heap.size w w6 := ((HO3.out.1.drew.alloc _).alloc _).belowApp (hBw3.trans (hV.mono hBw3.size)) hgrow (Nat.le_refl _) (by simp; omega)
                      have hrow6 := (HO3.out.below hV).grown (p := ⟨e.n, some ⟨W3.heap.size, 0, none⟩, 1, [⟨j, (e.t.size : Int) - q, f.t.extract j (f.t.size - q)⟩]⟩) ⟨one_eds2 (first_new2 W3.drew _ _), by simp, fun h => by cases h⟩
                        (fun _ ad had => by injection had with had; subst had; exact ⟨fun h => by have := (HO3.out.1.lt _ h).2; simp at this, by simp; omega⟩) hown6 hgrow hat6
                      have HO6 := Lib.hid hrow6
                      clear hrow6 hown6 hgrow hat6 hV
                      go_wp2
                      go_roundw
                      case rel => exact ⟨k + 1, A6, c6, _, by omega, by go_num, by simp, hB6, HO6.out, by simp; omega, by rw [HD.out, ← HMD.out, HDE.out]; simp [pd]⟩
                      case measure => simp [intOf]; omega
                  · have x1 : decide ((j : Int) < (e.t.size : Int) - q) = false := decide_eq_false (by omega)
                    have HM : Hid (dfM e.t f.t = q) := Lib.hid (by unfold dfM; rw [HJ.out]; exact cen_drop hqa hqb HN3.out (fun z => k1 z.1))
                    go_wp2
                    go_quiet (fail)
                    go_wp2
                    have hW3 : Below W2.heap.size W2 (wr.drewN nq) := below_drewN hB3 _
                    have hBw3 : Below w.heap.size w (wr.drewN nq) := hBw.trans (hW3.mono hBw.size)
                    have HO3 := Lib.hid (HO2.out.below hW3)
                    have y3 : (wr.drewN nq).cell? ⟨bb, off + k * 2, none⟩ = some (.string e.n) := (hW3.cell (p := ⟨bb, off + k * 2, none⟩) (Nat.lt_of_lt_of_le hb hBw.size)).trans y2
                    generalize wr.drewN nq = W3 at *
                    clear hW3 hB3 y2
                    have v1 : (j : Int) ≤ (f.t.size : Int) - q := by omega
                    have v2 : (f.t.size : Int) - q ≤ f.t.size := by omega
                    have v3 : ((f.t.size : Int) - q).toNat = f.t.size - q := by omega
                    have HDE : Hid (dfE e.t f.t = ⟨j, (e.t.size : Int) - q, f.t.extract j (f.t.size - q)⟩) := Lib.hid (by unfold dfE; rw [HJ.out, HM.out])
                    clear HM HJ HN HN3 HO2 HO1
                    have hsz3 := hBw3.size
                    go_region_held3 (fun w' => w'.cell? ⟨bb, off + k * 2, none⟩ = some (.string e.n))
                      (first
                        | (go_keep; done)
                        | (rw [hgrow.cell_far ⟨bb, off + k * 2, none⟩ (by simp; omega) (fun h => by have := (HO3.out.1.lt _ h.symm).1; simp at this; omega)]; go_keep; done))
                      ((refine step_append_OwnP (by rfl) _ _ (by rfl) _ w.heap.size A' c' m ⟨e.n, some ⟨W3.heap.size, 0, none⟩, 1, [⟨j, (e.t.size : Int) - q, f.t.extract j (f.t.size - q)⟩]⟩ (W3.heap.size + 1) (by rfl) (by rfl) (by exact second_new2 _ _ _) ((HO3.out.1.drew.alloc _).alloc _) (by omega) (by simp; omega) ?_; intro A6 c6 w6 hown6 hgrow hat6))
                    have hdr : Below W3.heap.size W3 W3.drew := ⟨rfl, rfl, rfl, Nat.le_refl _, fun _ _ => rfl⟩
                    have hV : Below W3.heap.size W3 ((W3.drew.alloc (.cells #[.int .i64 j, .int .i64 ((e.t.size : Int) - q), .string (f.t.extract j (f.t.size - q))] 87)).alloc (.cells #[.string e.n, .slice (some ⟨W3.heap.size, 0, none⟩) 1 1] 122)) := hdr.trans (below2 W3.drew _ _)
                    have hB6 : Below w.heap.size w w6 := ((HO3.out.1.drew.alloc _).alloc _).belowApp (hBw3.trans (hV.mono hBw3.size)) hgrow (Nat.le_refl _) (by simp; omega)
                    have hrow6 := (HO3.out.below hV).grown (p := ⟨e.n, some ⟨W3.heap.size, 0, none⟩, 1, [⟨j, (e.t.size : Int) - q, f.t.extract j (f.t.size - q)⟩]⟩) ⟨one_eds2 (first_new2 W3.drew _ _), by simp, fun h => by cases h⟩
                      (fun _ ad had => by injection had with had; subst had; exact ⟨fun h => by have := (HO3.out.1.lt _ h).2; simp at this, by simp; omega⟩) hown6 hgrow hat6
                    have HO6 := Lib.hid hrow6
                    clear hrow6 hown6 hgrow hat6 hV
                    go_wp2
                    go_roundw
                    case rel => exact ⟨k + 1, A6, c6, _, by omega, by go_num, by simp, hB6, HO6.out, by simp; omega, by rw [HD.out, ← HMD.out, HDE.out]; simp [pd]⟩
                    case measure => simp [intOf]; omega
        · obtain rfl : k = a.length := by omega
          have hle : b.take a.length = b := by rw [HSN.out.1]; exact take_len b
          have HLE := Lib.hid hle
          clear hle
          go_wp2
          go_ret2
          refine ⟨A', c', m, rfl, hown.pts, ?_, hB⟩
          rw [HMD.out, take_len, HLE.out]
end Go.Proofs.Ytgfafinpcpiogaa
