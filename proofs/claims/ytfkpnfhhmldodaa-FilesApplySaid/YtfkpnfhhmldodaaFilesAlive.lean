/- Diff at all arguments; the chapter's example. -/
import Derived.Test.YtfkpnfhhmldodaaFilesDiffs
namespace Go.Proofs.Ytfkpnfhhmldodaa
open Go.RowKit EditMath FilesMath

set_option maxHeartbeats 1000000 in
theorem diff_any (A A2 : Option Addr) (c c2 : Nat) (a b : List Fl) (w : World) (hl : a.length ≤ 30) (hl2 : b.length ≤ 30) (hc : a.length ≤ c) (hc2 : b.length ≤ c2) (ht : tot a ≤ 50000) (ht2 : tot b ≤ 50000) (hr : Fls w w.heap.size A a) (hr2 : Fls w w.heap.size A2 b) :
    Calls Try.prog 45 #[.slice A a.length c, .slice A2 b.length c2] w (PatV (dfL a b) (dfN a b) w) := by
  have HR := Lib.hid (right4_any A c a w hl hc (sizes_of ht) hr)
  have HR2 := fun (W : World) (h : Below w.heap.size w W) => Lib.hid (right4_any A2 c2 b W hl2 hc2 (sizes_of ht2) (hr2.after h))
  have HQ := fun (W : World) (h : Below w.heap.size w W) => Lib.hid (equalF_any A A2 c c2 a b W hl hl2 (hr.after h) (hr2.after h))
  have eg := enters80
  cases hR : rgt a with
  | false =>
    have hN : dfN a b = 2 := by unfold dfN; rw [if_neg (by simp [hR])]
    unfold dfL
    rw [hN, if_neg (by decide)]
    rw [hR] at HR
    clear hR hN
    go_enter Try.func45, Try.ntmps45
    go_wp2_with fail
    refine HR.out.mono ?_
    rintro e w1 ⟨rfl, hb1⟩
    go_wp2
    go_ret2
    exact ⟨none, 0, [], rfl, Pts.none_, by simp, fun _ => rfl, rfl, hb1⟩
  | true =>
    cases hR2 : rgt b with
    | false =>
      have hN : dfN a b = 2 := by unfold dfN; rw [if_neg (by simp [hR2])]
      unfold dfL
      rw [hN, if_neg (by decide)]
      rw [hR] at HR
      rw [hR2] at HR2
      clear hR hR2 hN
      go_enter Try.func45, Try.ntmps45
      go_wp2_with fail
      refine HR.out.mono ?_
      rintro e w1 ⟨rfl, hb1⟩
      go_wp2_with fail
      refine (HR2 w1 hb1).out.mono ?_
      rintro e w2 ⟨rfl, hb2⟩
      go_wp2
      go_ret2
      exact ⟨none, 0, [], rfl, Pts.none_, by simp, fun _ => rfl, rfl, hb1.trans (hb2.mono hb1.size)⟩
    | true =>
      cases hS : sameN a b with
      | false =>
        have hN : dfN a b = 5 := by unfold dfN; rw [if_pos ⟨hR, hR2⟩, if_neg (by simp [hS])]
        unfold dfL
        rw [hN, if_neg (by decide)]
        rw [hR] at HR
        rw [hR2] at HR2
        rw [hS] at HQ
        clear hR hR2 hN hS
        go_enter Try.func45, Try.ntmps45
        go_wp2_with fail
        refine HR.out.mono ?_
        rintro e w1 ⟨rfl, hb1⟩
        go_wp2_with fail
        refine (HR2 w1 hb1).out.mono ?_
        rintro e w2 ⟨rfl, hb2⟩
        have hB2 := hb1.trans (hb2.mono hb1.size)
        go_wp2_with fail
        refine (HQ w2 hB2).out.mono ?_
        rintro e w3 ⟨rfl, hb3⟩
        go_wp2
        go_ret2
        exact ⟨none, 0, [], rfl, Pts.none_, by simp, fun _ => rfl, rfl, hB2.trans (hb3.mono hB2.size)⟩
      | true =>
        have hN : dfN a b = 0 := by unfold dfN; rw [if_pos ⟨hR, hR2⟩, if_pos hS]
        unfold dfL
        rw [hN, if_pos rfl]
        exact diff_ok A A2 c c2 a b w hl hl2 hc hc2 ht ht2 hr hr2 hR hR2 hS

def fa : Fl := ⟨⟨#[97]⟩, ⟨#[97, 98, 99, 100]⟩⟩
def fb : Fl := ⟨⟨#[97]⟩, ⟨#[97, 98, 88, 89, 100]⟩⟩
theorem one_rgt (f : Fl) (h1 : title f.n = true) (h2 : f.t.size ≤ 4000) : rgt [f] = true := rgt_yes ⟨by simp, by simp, fun i x h => by
  match i, h with
  | 0, h => simp at h; subst h; exact ⟨h1, h2, rfl⟩⟩
theorem one_fls {w : World} {X : Nat} {f : Fl} (h : w.heap[X]? = some (.cells #[.string f.n, .string f.t] 58 (0, 0))) : Fls w w.heap.size (some ⟨X, 0, none⟩) [f] := by
  intro _
  refine ⟨X, 0, rfl, (Array.getElem?_eq_some_iff.1 h).1, fun i d hd => ?_⟩
  match i, hd with
  | 0, hd =>
    simp at hd
    subst hd
    exact ⟨by rw [Lib.cell_of_heap h]; rfl, by rw [Lib.cell_of_heap h]; rfl⟩
theorem fab : dfE fa.t fb.t = ⟨2, 3, ⟨#[88, 89]⟩⟩ := by
  have h1 : dfF fa.t fb.t = 2 := by decide
  have h2 : dfM fa.t fb.t = 1 := by decide
  unfold dfE
  rw [h1, h2]
  congr 1
theorem one_same : sameN [fa] [fb] = true := sameN_yes ⟨rfl, fun i x y hx hy => by
  match i, hx, hy with
  | 0, hx, hy => simp at hx hy; subst hx; subst hy; rfl⟩
theorem one_dfs : dfs [fa] [fb] = [(⟨#[97]⟩, [⟨2, 3, ⟨#[88, 89]⟩⟩])] := by
  have : fa.t ≠ fb.t := by decide
  unfold dfs
  simp only [List.zip_cons_cons, List.zip_nil_right]
  rw [List.filter_cons_of_pos (by simpa using this), List.filter_nil, List.map_cons, List.map_nil, fab]
  rfl
theorem eql_ed (e : Ed) (w : World) : (binOp .eql 87 (.agg #[.int .i64 e.f, .int .i64 e.t, .string e.s]) (.agg #[.int .i64 e.f, .int .i64 e.t, .string e.s])).run Try.prog w = .ok (.bool true) w := by
  have u3 := Try.underlying3
  have a3 := Try.isAgg3
  have z3 := Try.sizeOf3
  have u9 := Try.underlying9
  have a9 := Try.isAgg9
  have z9 := Try.sizeOf9
  have hS : Try.prog.underlying 87 = some (.struct (Try.prog.fieldsOf 87)) := by kernel_rfl
  have hp : Try.prog.stoodInHeld 87 = false := by kernel_rfl
  rw [run_eql_struct, show (10000 : Nat) = 9999 + 1 from rfl, run_equalIn_agg w 9999 87 _ _ hS hp]
  simp only [Program.fieldsOf, Try.underlying87]
  go_simp

set_option maxRecDepth 100000 in
set_option maxHeartbeats 1000000 in
theorem alive4_any (w : World) : Calls Try.prog 29 #[] w fun e w' => e = .returned (.bool true) ∧ Below w.heap.size w w' := by
  have hB0 : Below w.heap.size w ((w.alloc (.cells #[.string fa.n, .string fa.t] 58)).alloc (.cells #[.string fb.n, .string fb.t] 58)) := below2 _ _ _
  have HC := Lib.hid (diff_ok (some ⟨w.heap.size, 0, none⟩) (some ⟨w.heap.size + 1, 0, none⟩) 1 1 [fa] [fb] _ (by decide) (by decide) (by decide) (by decide) (by decide) (by decide)
    (one_fls (first_new2 w (.cells #[.string fa.n, .string fa.t] 58) (.cells #[.string fb.n, .string fb.t] 58))) (one_fls (second_new2 _ _ _))
    (one_rgt fa (by decide) (by decide)) (one_rgt fb (by decide) (by decide)) one_same)
  rw [one_dfs] at HC
  have hm : Try.prog.eqGuardType Try.prog.depth 87 = false := by kernel_rfl
  have hq := eql_ed ⟨2, 3, ⟨#[88, 89]⟩⟩
  go_enter Try.func29, Try.ntmps29
  go_wp2_with fail
  refine HC.out.mono ?_
  rintro e w1 ⟨A1, c1, m, rfl, hpt, hmc, _, hmd, hb1⟩
  have hlen : m.length = 1 := by have := congrArg List.length hmd; simpa using this
  obtain ⟨p, rfl⟩ := List.length_eq_one_iff.1 hlen
  clear hlen
  simp only [List.map_cons, List.map_nil, pd, List.cons.injEq, Prod.mk.injEq, and_true] at hmd
  obtain ⟨hn, hl⟩ := hmd
  obtain ⟨n, pA, pc, l⟩ := p
  simp only at hn hl
  subst hn
  subst hl
  obtain ⟨b, off, rfl, hb, x0, x1, he, hce, _⟩ := hpt.at_ (k := 0) (e := _) rfl
  obtain ⟨b2, off2, h2, hb2, y0, y1, y2⟩ := he.at_ (k := 0) (e := _) rfl
  simp only at h2
  subst h2
  simp only [Nat.zero_mul, Nat.add_zero] at x0 x1 y0 y1 y2
  clear hpt he
  rw [show er 0 = Value.nilIface from rfl]
  go_wp2
  go_ret
  exact ⟨rfl, hB0.trans (hb1.mono hB0.size)⟩
end Go.Proofs.Ytfkpnfhhmldodaa
