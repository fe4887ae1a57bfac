/- The contract of Diff. -/
import Derived.Test.YtfkpnfhhmldodaaFilesDiff
import Derived.Deep.RegionHeld3
namespace Go.Proofs.Ytfkpnfhhmldodaa
open Go.RowKit EditMath FilesMath

/-- a slice of patches that reads as this plain list, with an error's number -/
def PatV (L : List (ByteArray × List Ed)) (n : Int) (w : World) (e : Ending) (w' : World) : Prop :=
  ∃ (A : Option Addr) (c : Nat) (m : List Pt), e = .returned (.tuple #[.slice A m.length c, er n]) ∧ Pts w' w'.heap.size A m ∧ m.length ≤ c ∧ (A = none → c = 0) ∧ m.map pd = L ∧ Below w.heap.size w w'

open Classical in
/-- which error stands against the difference -/
noncomputable def dfN (a b : List Fl) : Int := if rgt a = true ∧ rgt b = true then (if sameN a b = true then 0 else 5) else 2
noncomputable def dfL (a b : List Fl) : List (ByteArray × List Ed) := if dfN a b = 0 then dfs a b else []

theorem one_eds2 {w : World} {X : Nat} {e : Ed} (h : w.heap[X]? = some (.cells #[.int .i64 e.f, .int .i64 e.t, .string e.s] 87 (0, 0))) : Eds w w.heap.size (some ⟨X, 0, none⟩) [e] := by
  intro _
  refine ⟨X, 0, rfl, (Array.getElem?_eq_some_iff.1 h).1, fun i d hd => ?_⟩
  match i, hd with
  | 0, hd =>
    simp at hd
    subst hd
    obtain ⟨c0, c1, c2⟩ := cells_three h
    exact ⟨c0, c1, c2⟩

theorem second_new2 (w : World) (o p : Obj) : ((w.alloc o).alloc p).heap[w.heap.size + 1]? = some p := by
  have := heap_alloc_new (w.alloc o) p
  rwa [show (w.alloc o).heap.size = w.heap.size + 1 by simp] at this
theorem first_new2 (w : World) (o p : Obj) : ((w.alloc o).alloc p).heap[w.heap.size]? = some o := ((below1 (w.alloc o) p).block w.heap.size (by simp)).trans (heap_alloc_new w o)


def DfI (w : World) (a b : List Fl) (v i : Value) (wr : World) : Prop :=
  ∃ (k : Nat) (A' : Option Addr) (c' : Nat) (m : List Pt), k ≤ a.length ∧ i = .int .i64 (k : Int) ∧ v = .slice A' m.length c' ∧ Below w.heap.size w wr ∧ PRow wr w.heap.size A' c' m ∧ m.length ≤ k ∧ m.map pd = dfs (a.take k) (b.take k)

set_option maxRecDepth 100000 in
set_option maxHeartbeats 4000000 in
theorem diff_ok (A A2 : Option Addr) (c c2 : Nat) (a b : List Fl) (w : World) (hl : a.length ≤ 30) (hl2 : b.length ≤ 30) (hc : a.length ≤ c) (hc2 : b.length ≤ c2) (ht : tot a ≤ 50000) (ht2 : tot b ≤ 50000) (hr : Fls w w.heap.size A a) (hr2 : Fls w w.heap.size A2 b)
    (hR : rgt a = true) (hR2 : rgt b = true) (hS : sameN a b = true) :
    Calls Try.prog 45 #[.slice A a.length c, .slice A2 b.length c2] w (PatV (dfs a b) 0 w) := by
  have HR := Lib.hid (right4_any A c a w hl hc (sizes_of ht) hr)
  have HR2 := fun (W : World) (h : Below w.heap.size w W) => Lib.hid (right4_any A2 c2 b W hl2 hc2 (sizes_of ht2) (hr2.after h))
  have HQ := fun (W : World) (h : Below w.heap.size w W) => Lib.hid (equalF_any A A2 c c2 a b W hl hl2 (hr.after h) (hr2.after h))
  rw [hR] at HR
  rw [hR2] at HR2
  rw [hS] at HQ
  have HSN := Lib.hid (sameN_iff.1 hS)
  have HZ := Lib.hid (sizes_of ht)
  have HZ2 := Lib.hid (sizes_of ht2)
  clear hR hR2 hS ht ht2
  have eg := enters80
  go_enter Try.func45, Try.ntmps45
  go_wp2_with fail
  refine HR.out.mono ?_
  rintro e w1 ⟨rfl, hb1⟩
  go_wp2_with fail
  refine (HR2 w1 hb1).out.mono ?_
  rintro e w2 ⟨rfl, hb2⟩
  have hB2 := hb1.trans (hb2.mono hb1.size)
  go_wp2_with fail
  refine (HQ w2 hB2).out.mono ?_
  rintro e w3 ⟨rfl, hb3⟩
  have hB3 := hB2.trans (hb3.mono hB2.size)
  clear hb1 hb2 hb3 HR HR2 HQ
  have hm : Try.prog.eqGuardType Try.prog.depth 58 = false := by kernel_rfl
  go_wp2
  go_loopw [6, 7, 8, 25] (fun v _ _ i wr => DfI w a b v i wr) (fun _ _ _ i _ => a.length - (intOf i).toNat)
  case atStart => exact ⟨0, none, 0, [], Nat.zero_le _, rfl, rfl, hB3, PRow.nil _ _, by simp, rfl⟩
  case round =>
    obtain ⟨k, A', c', m, hk, rfl, rfl, hB, hown, hml, hmd⟩ := hrel
    have HMD := Lib.hid hmd
    clear hmd
    by_cases hlt : k < a.length
    · have hlt2 : k < b.length := by rw [← HSN.out.1]; exact hlt
      have he : a[k]? = some a[k] := List.getElem?_eq_getElem hlt
      have hf : b[k]? = some b[k] := List.getElem?_eq_getElem hlt2
      generalize a[k] = e at he
      generalize b[k] = f at hf
      have hnn := HSN.out.2 k e f he hf
      have hz := (HZ.out k e he).2
      have hz2 := (HZ2.out k f hf).2
      obtain ⟨bb, off, rfl, hb, c0, c1⟩ := (hr.below hB).at_ he
      obtain ⟨b2, off2, rfl, hb2, g0, g1⟩ := (hr2.below hB).at_ hf
      have hne := ne_fl e f hnn
      have HE := Lib.hid he
      have HF := Lib.hid hf
      clear he hf hnn
      have z0 : (0 : Int) ≤ k := by omega
      have z1 : (k : Int) < a.length := by omega
      have z2 : (k : Int) < b.length := by omega
      have k0 : (wr.alloc (.cells #[.string e.n, .string e.t] 58)).cell? ⟨b2, off2 + k * 2, none⟩ = some (.string f.n) := (World.cell?_alloc_lt _ _ _ (Nat.lt_of_lt_of_le hb2 hB.size)).trans g0
      have k1 : (wr.alloc (.cells #[.string e.n, .string e.t] 58)).cell? ⟨b2, off2 + k * 2 + 1, none⟩ = some (.string f.t) := (World.cell?_alloc_lt _ _ _ (Nat.lt_of_lt_of_le hb2 hB.size)).trans g1
      have HO := Lib.hid hown
      clear hown
      have hbsz := hB.size
      by_cases hq : e.t = f.t
      · rw [decide_eq_true hq] at hne
        have HD := Lib.hid (dfs_same HE.out HF.out hq)
        clear hq
        go_wp2
        go_quiet (fail)
        go_wp2
        go_roundw
        case rel =>
          have hBB : Below wr.heap.size wr ((wr.alloc (.cells #[.string e.n, .string e.t] 58)).drewN nq) := below_drewN (below1 _ _) _
          exact ⟨k + 1, A', c', m, by omega, by go_num, rfl, hB.trans (hBB.mono hB.size), HO.out.below hBB, by omega, by rw [HD.out]; exact HMD.out⟩
        case measure => simp [intOf]; omega
      · rw [decide_eq_false hq] at hne
        have HD := Lib.hid (dfs_more HE.out HF.out hq)
        clear hq
        have HC := fun W => Lib.hid (change_any e.t f.t hz hz2 W)
        go_wp2
        go_quiet (fail)
        go_wp2
        have hBB : Below wr.heap.size wr ((wr.alloc (.cells #[.string e.n, .string e.t] 58)).drewN nq) := below_drewN (below1 _ _) _
        have hx0 : ((wr.alloc (.cells #[.string e.n, .string e.t] 58)).drewN nq).heap[wr.heap.size]? = some (.cells #[.string e.n, .string e.t] 58 (0, 0)) := heap_alloc_new wr _
        have y0 : ((wr.alloc (.cells #[.string e.n, .string e.t] 58)).drewN nq).cell? ⟨wr.heap.size, 0, none⟩ = some (.string e.n) := by rw [Lib.cell_of_heap hx0]; rfl
        have y1 : ((wr.alloc (.cells #[.string e.n, .string e.t] 58)).drewN nq).cell? ⟨wr.heap.size, 1, none⟩ = some (.string e.t) := by rw [Lib.cell_of_heap hx0]; rfl
        have y2 : ((wr.alloc (.cells #[.string e.n, .string e.t] 58)).drewN nq).cell? ⟨b2, off2 + k * 2 + 1, none⟩ = some (.string f.t) := k1
        have hs9 : wr.heap.size < ((wr.alloc (.cells #[.string e.n, .string e.t] 58)).drewN nq).heap.size := (Array.getElem?_eq_some_iff.1 hx0).1
        clear hx0 c0 c1 g0 g1 k0 k1 hne
        have HO9 := Lib.hid (HO.out.below hBB)
        generalize (wr.alloc (.cells #[.string e.n, .string e.t] 58)).drewN nq = W9 at *
        have hlt9 : ∀ k', (Value.slice A' m.length c').ownBlock = some k' → k' < wr.heap.size := fun k' h => (HO.out.1.lt k' h).2
        have HL := Lib.hid hlt9
        clear hlt9 HO
        have HBB := Lib.hid hBB
        clear hBB
        have hb2w : b2 < wr.heap.size := by omega
        go_region_held3 (fun w' => w'.cell? ⟨wr.heap.size, 0, none⟩ = some (.string e.n) ∧ w'.cell? ⟨wr.heap.size, 1, none⟩ = some (.string e.t) ∧ w'.cell? ⟨b2, off2 + k * 2 + 1, none⟩ = some (.string f.t))
          (first
            | (go_keep; done)
            | (go_split_ands
               refine ⟨?_, ?_, ?_⟩
               · (rw [hb5.cell (p := ⟨wr.heap.size, 0, none⟩) (by exact hs9)]; assumption)
               · (rw [hb5.cell (p := ⟨wr.heap.size, 1, none⟩) (by exact hs9)]; assumption)
               · (rw [hb5.cell (p := ⟨b2, off2 + k * 2 + 1, none⟩) (by exact Nat.lt_trans hb2w hs9)]; assumption))
            | (go_split_ands
               refine ⟨?_, ?_, ?_⟩
               · (rw [hgrow.cell_far ⟨wr.heap.size, 0, none⟩ (by have h5 : W9.heap.size ≤ w5.heap.size := hb5.size; simp; omega) (fun h => Nat.lt_irrefl _ (HL.out _ h.symm))]; assumption)
               · (rw [hgrow.cell_far ⟨wr.heap.size, 1, none⟩ (by have h5 : W9.heap.size ≤ w5.heap.size := hb5.size; simp; omega) (fun h => Nat.lt_irrefl _ (HL.out _ h.symm))]; assumption)
               · (rw [hgrow.cell_far ⟨b2, off2 + k * 2 + 1, none⟩ (by have h5 : W9.heap.size ≤ w5.heap.size := hb5.size; simp; omega) (fun h => by have := (HO9.out.1.lt _ h.symm).1; simp at this; omega)]; assumption)))
          (first
            | (go_at_call 81; refine (HC _).out.mono ?_; rintro r w5 ⟨rfl, hb5⟩)
            | (refine step_append_OwnP (by rfl) _ _ (by rfl) _ w.heap.size A' c' m ⟨e.n, some ⟨w5.heap.size, 0, none⟩, 1, [dfE e.t f.t]⟩ (w5.heap.size + 1) (by rfl) (by rfl) (by exact second_new2 _ _ _) (((HO9.out.1.drew.below hb5).alloc _).alloc _) (by omega) (by have h5 : W9.heap.size ≤ w5.heap.size := hb5.size; simp; omega) ?_; intro A6 c6 w6 hown6 hgrow hat6))
        have h5 : W9.heap.size ≤ w5.heap.size := hb5.size
        have hV : Below w5.heap.size w5 ((w5.alloc (.cells #[.int .i64 (dfE e.t f.t).f, .int .i64 (dfE e.t f.t).t, .string (dfE e.t f.t).s] 87)).alloc (.cells #[.string e.n, .slice (some ⟨w5.heap.size, 0, none⟩) 1 1] 122)) := below2 _ _ _
        have hW5 : Below W9.heap.size W9 w5 := Below.trans (⟨rfl, rfl, rfl, Nat.le_refl _, fun _ _ => rfl⟩ : Below W9.heap.size W9 W9.drew) hb5
        have hB5 : Below w.heap.size w w5 := (hB.trans (HBB.out.mono hB.size)).trans (hW5.mono (by omega))
        have hB6 : Below w.heap.size w w6 := (((HO9.out.1.drew.below hb5).alloc _).alloc _).belowApp (hB5.trans (hV.mono hB5.size)) hgrow (Nat.le_refl _) (by simp; omega)
        have hVV : Below W9.heap.size W9 ((w5.alloc (.cells #[.int .i64 (dfE e.t f.t).f, .int .i64 (dfE e.t f.t).t, .string (dfE e.t f.t).s] 87)).alloc (.cells #[.string e.n, .slice (some ⟨w5.heap.size, 0, none⟩) 1 1] 122)) := hW5.trans (hV.mono hW5.size)
        have hrow6 := (HO9.out.below hVV).grown (p := ⟨e.n, some ⟨w5.heap.size, 0, none⟩, 1, [dfE e.t f.t]⟩) ⟨one_eds2 (first_new2 _ _ _), by simp, fun h => by cases h⟩
          (fun _ ad had => by injection had with had; subst had; exact ⟨fun h => by have := HL.out _ h; simp at this; omega, by simp; omega⟩) hown6 hgrow hat6
        have HO6 := Lib.hid hrow6
        clear hrow6 hown6 hgrow hat6 hV hW5 hVV
        go_wp2
        go_roundw
        case rel => exact ⟨k + 1, A6, c6, _, by omega, by go_num, by simp, hB6, HO6.out, by simp; omega, by rw [HD.out, ← HMD.out]; simp [pd]⟩
        case measure => simp [intOf]; omega
    · obtain rfl : k = a.length := by omega
      have hle : b.take a.length = b := by rw [HSN.out.1]; exact take_len b
      have HLE := Lib.hid hle
      clear hle
      go_wp2
      go_ret2
      refine ⟨A', c', m, rfl, hown.pts, hown.1.cap.1, hown.1.cap.2, ?_, hB⟩
      rw [HMD.out, take_len, HLE.out]
end Go.Proofs.Ytfkpnfhhmldodaa
