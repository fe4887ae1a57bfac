/- A piece's end, and what stands of a piece between two places. -/
import Derived.Test.YtgfafinpcpiogaaShiftGoing
import Derived.Test.YtgfafinpcpiogaaShiftJoinMath
import Derived.Deep.RegionHeld3
import Derived.IntWalk
import Derived.StillTailTactics
namespace Go.Proofs.Ytgfafinpcpiogaa
open Go.RowKit EditMath ShiftMath

theorem pend_went {p : Pc} (hW : Wf p) (hw : went p = true) : pend p = p.t + (p.a - p.f) := by
  have : bs p = rangeI p.f p.t := by simp [bs, hw]
  have h := hW.1 hw
  unfold pend
  rw [this, rangeI_length]
  omega
theorem pend_new {p : Pc} (hw : went p = false) : pend p = p.a + p.s.size := by
  have : bs p = List.replicate p.s.size (-1) := by simp [bs, hw]
  unfold pend
  rw [this, List.length_replicate]

set_option maxRecDepth 100000 in
set_option maxHeartbeats 1000000 in
theorem end_any (p : Pc) (w : World) (hW : Wf p) (ho : PcOk p) :
    Calls Try.prog 114 #[pcv p] w fun r w' => r = .returned (.int .i64 (pend p)) ∧ Below w.heap.size w w' := by
  obtain ⟨o1, o2, o3, o4, o5, o6, o7⟩ := ho
  cases hw : went p with
  | false =>
    rw [pend_new hw]
    have HW := Lib.hid hw
    clear hw hW
    go_enter Try.func114, Try.ntmps114
    go_wp2_with (go_at_call 86; refine (went_any p _).mono ?_; rw [HW.out]; rintro r w1 ⟨rfl, hB1⟩; have hx : Has w.heap.size (.cells #[.int .i64 p.a, .int .i64 p.f, .int .i64 p.t, .string p.s] 92 (0, 0)) no w1 := (Has.frames _ _).off (Has.newAt (fun h => h) rfl _) (Off.of_below hB1); have c0 := hx.cell (i := 0); have c3 := hx.cell (i := 3); simp only [List.getElem?_toArray, List.getElem?_cons_zero, List.getElem?_cons_succ] at c0 c3)
    go_ret
    exact ⟨rfl, (below1 w _).trans (hB1.mono (by simp))⟩
  | true =>
    rw [pend_went hW hw]
    have HW := Lib.hid hw
    clear hw hW
    have hwr : IntKind.i64.wrap (p.t + (p.a - p.f)) = p.t + (p.a - p.f) := IntWalk.i64_in _ (by omega)
    go_enter Try.func114, Try.ntmps114
    go_wp2_with (go_at_call 86; refine (went_any p _).mono ?_; rw [HW.out]; rintro r w1 ⟨rfl, hB1⟩; have hx : Has w.heap.size (.cells #[.int .i64 p.a, .int .i64 p.f, .int .i64 p.t, .string p.s] 92 (0, 0)) no w1 := (Has.frames _ _).off (Has.newAt (fun h => h) rfl _) (Off.of_below hB1); have c0 := hx.cell (i := 0); have c1 := hx.cell (i := 1); have c2 := hx.cell (i := 2); have c3 := hx.cell (i := 3); simp only [List.getElem?_toArray, List.getElem?_cons_zero, List.getElem?_cons_succ] at c0 c1 c2 c3)
    have hB : Below w.heap.size w w1 := (below1 w _).trans (hB1.mono (by simp))
    have hlt := hx.lt
    go_region_held3 (fun w' => w'.cell? ⟨w.heap.size, 0, none⟩ = some (.int .i64 p.a) ∧ w'.cell? ⟨w.heap.size, 1, none⟩ = some (.int .i64 p.f) ∧ w'.cell? ⟨w.heap.size, 2, none⟩ = some (.int .i64 p.t) ∧ w'.cell? ⟨w.heap.size, 3, none⟩ = some (.string p.s))
      (first
        | (go_keep; done)
        | (go_split_ands
           refine ⟨?_, ?_, ?_, ?_⟩
           all_goals (rw [hb2.cell (by simp; omega)]; assumption)))
      ((go_at_call 51; refine (shift_any p _ (by omega) (by omega) (by omega) (by omega)).mono ?_; rintro r w2 ⟨rfl, hb2⟩))
    go_wp2
    go_ret
    exact ⟨rfl, hB.drew.trans (hb2.mono hB.size)⟩

/-- what stays of a piece, cut -/
theorem cut_ok {f t : Int} {p : Pc} (ho : PcOk p) (hW : Wf p) (hf0 : -5000000 ≤ f) (ht1 : t ≤ 10000000) (hft : f < t) (h1 : p.a < t) (h2 : f < pend p) (h3 : 0 < (bs p).length) :
    0 ≤ max f p.a - p.a ∧ max f p.a - p.a < min t (pend p) - p.a ∧ min t (pend p) - p.a ≤ 1000000 ∧ (went p = false → min t (pend p) - p.a ≤ p.s.size) ∧ -5000000 ≤ max f p.a ∧ max f p.a ≤ 10000000 ∧ -5000000 ≤ min t (pend p) ∧ min t (pend p) ≤ 10000000 ∧ -5000000 ≤ pend p ∧ pend p ≤ 10000000 := by
  obtain ⟨o1, o2, o3, o4, o5, o6, o7⟩ := ho
  have hp : p.a < pend p := by unfold pend; omega
  cases hw : went p with
  | true =>
    have e := pend_went hW hw
    have hh := hW.1 hw
    refine ⟨by omega, by omega, by omega, fun h => (by cases h), by omega, by omega, by omega, by omega, by omega, by omega⟩
  | false =>
    have e := pend_new hw
    refine ⟨by omega, by omega, by omega, fun _ => by omega, by omega, by omega, by omega, by omega, by omega, by omega⟩

theorem set4 {w W : World} {v0 v1 v2 v3 : Value} {t : TypeId} {X : Nat → Prop} (h : Has (w.heap.size + 1) (.cells #[v0, v1, v2, v3] t (0, 0)) X W) (x0 x1 x2 x3 : Value) (_ : w.heap.size ≤ W.heap.size ∨ True := .inr trivial) :
    ((((W.setCell ⟨w.heap.size + 1, 0, none⟩ x0).setCell ⟨w.heap.size + 1, 1, none⟩ x1).setCell ⟨w.heap.size + 1, 2, none⟩ x2).setCell ⟨w.heap.size + 1, 3, none⟩ x3).cell? ⟨w.heap.size + 1, 0, none⟩ = some x0 ∧
    ((((W.setCell ⟨w.heap.size + 1, 0, none⟩ x0).setCell ⟨w.heap.size + 1, 1, none⟩ x1).setCell ⟨w.heap.size + 1, 2, none⟩ x2).setCell ⟨w.heap.size + 1, 3, none⟩ x3).cell? ⟨w.heap.size + 1, 1, none⟩ = some x1 ∧
    ((((W.setCell ⟨w.heap.size + 1, 0, none⟩ x0).setCell ⟨w.heap.size + 1, 1, none⟩ x1).setCell ⟨w.heap.size + 1, 2, none⟩ x2).setCell ⟨w.heap.size + 1, 3, none⟩ x3).cell? ⟨w.heap.size + 1, 2, none⟩ = some x2 ∧
    ((((W.setCell ⟨w.heap.size + 1, 0, none⟩ x0).setCell ⟨w.heap.size + 1, 1, none⟩ x1).setCell ⟨w.heap.size + 1, 2, none⟩ x2).setCell ⟨w.heap.size + 1, 3, none⟩ x3).cell? ⟨w.heap.size + 1, 3, none⟩ = some x3 ∧
    (Below w.heap.size w W → Below w.heap.size w ((((W.setCell ⟨w.heap.size + 1, 0, none⟩ x0).setCell ⟨w.heap.size + 1, 1, none⟩ x1).setCell ⟨w.heap.size + 1, 2, none⟩ x2).setCell ⟨w.heap.size + 1, 3, none⟩ x3)) := by
  have e : ((((W.setCell ⟨w.heap.size + 1, 0, none⟩ x0).setCell ⟨w.heap.size + 1, 1, none⟩ x1).setCell ⟨w.heap.size + 1, 2, none⟩ x2).setCell ⟨w.heap.size + 1, 3, none⟩ x3).heap[w.heap.size + 1]? = some (.cells #[x0, x1, x2, x3] t (0, 0)) := by
    simp [World.setCell, Array.getElem?_modify, h.2]
  refine ⟨by simp [World.cell?, e], by simp [World.cell?, e], by simp [World.cell?, e], by simp [World.cell?, e], fun hB => ?_⟩
  exact (((hB.setCell (p := ⟨w.heap.size + 1, 0, none⟩) (by simp) _).setCell (p := ⟨w.heap.size + 1, 1, none⟩) (by simp) _).setCell (p := ⟨w.heap.size + 1, 2, none⟩) (by simp) _).setCell (p := ⟨w.heap.size + 1, 3, none⟩) (by simp) _

set_option maxRecDepth 100000 in
set_option maxHeartbeats 2000000 in
theorem cut_any (p : Pc) (f t : Int) (w : World) (hW : Wf p) (ho : PcOk p) (hf0 : -5000000 ≤ f) (ht1 : t ≤ 10000000) (hft : f < t) (h1 : p.a < t) (h2 : f < pend p) (h3 : 0 < (bs p).length) :
    Calls Try.prog 115 #[pcv p, .int .i64 f, .int .i64 t] w fun r w' => r = .returned (pcv (cutP f t p)) ∧ Below w.heap.size w w' := by
  obtain ⟨u0, uv, v1, vs, m1, m2, m3, m4, m5, m6⟩ := cut_ok ho hW hf0 ht1 hft h1 h2 h3
  have HE : Hid (∀ W, Calls Try.prog 114 #[pcv p] W fun r w' => r = .returned (.int .i64 (pend p)) ∧ Below W.heap.size W w') := Lib.hid fun W => end_any p W hW ho
  obtain ⟨o1, o2, o3, o4, o5, o6, o7⟩ := ho
  have hcut : ∀ b, went p = b → cutP f t p = if b = true then ⟨p.a + (max f p.a - p.a), p.f + (max f p.a - p.a), p.f + (min t (pend p) - p.a), bnil⟩ else ⟨p.a + (max f p.a - p.a), 0, 0, p.s.extract (max f p.a - p.a).toNat (min t (pend p) - p.a).toNat⟩ := by
    intro b hb; rw [cutP, hb]
  have HCUT := Lib.hid hcut
  clear hcut h3 hW h1 h2 hft
  generalize pend p = pe at *
  have HV := Lib.hid vs
  clear vs
  have HWB : Hid (∀ W, Calls Try.prog 86 #[pcv p] W fun r w' => r = .returned (.bool (went p)) ∧ Below W.heap.size W w') := Lib.hid fun W => went_any p W
  obtain ⟨M, hM⟩ : ∃ M, max f p.a = M := ⟨_, rfl⟩
  obtain ⟨N, hN⟩ : ∃ N, min t pe = N := ⟨_, rfl⟩
  rw [hM] at u0 uv m1 m2
  rw [hN] at uv v1 m3 m4
  have HV2 := HV.out
  rw [hN] at HV2
  have HV3 := Lib.hid HV2
  have HC2 := HCUT.out
  rw [hM, hN] at HC2
  have HC3 := Lib.hid HC2
  clear HV HV2 HC2 HCUT
  have hmx : ∀ (w : World) (ts : Array TypeId) (t : TypeId) (k k' : IntKind), (Builtin.max_ ts t #[.int k f, .int k' p.a]).run Try.prog w = .ok (.int k M) w := fun w ts t k k' => by
    rw [run_max_int2, ← hM]; congr 2; split <;> omega
  have hmn : ∀ (w : World) (ts : Array TypeId) (ty : TypeId) (k k' : IntKind), (Builtin.min_ ts ty #[.int k t, .int k' pe]).run Try.prog w = .ok (.int k N) w := fun w ts ty k k' => by
    rw [run_min_int2, ← hN]; congr 2; split <;> omega
  have q1 : IntKind.i64.wrap (M - p.a) = M - p.a := IntWalk.i64_in _ (by omega)
  have q2 : IntKind.i64.wrap (N - p.a) = N - p.a := IntWalk.i64_in _ (by omega)
  clear hM hN
  go_enter Try.func115, Try.ntmps115
  go_wp2
  go_region_held3 (fun w' => w'.cell? ⟨w.heap.size, 0, none⟩ = some (.int .i64 p.a) ∧ w'.cell? ⟨w.heap.size, 1, none⟩ = some (.int .i64 p.f) ∧ w'.cell? ⟨w.heap.size, 2, none⟩ = some (.int .i64 p.t) ∧ w'.cell? ⟨w.heap.size, 3, none⟩ = some (.string p.s))
      (first
        | (go_keep; done)
        | (go_split_ands
           refine ⟨?_, ?_, ?_, ?_⟩
           all_goals (rw [hb2.cell (by simp; omega)]; assumption)))
      ((go_at_call 114; refine (HE.out _).mono ?_; rintro r w2 ⟨rfl, hb2⟩))
  all_goals
    have hoff : Off no ((w.alloc (pcc p)).alloc (.cells #[.int .i64 0, .int .i64 0, .int .i64 0, .string ⟨#[]⟩] 92)) w2 := (Off.drew _ _).trans (Off.of_below hb2)
    have hx : Has w.heap.size (pcc p) no w2 := (Has.frames _ _).off ((Has.newAt (X := no) (fun h => h) rfl _).alloc _) hoff
    have hy : Has (w.heap.size + 1) (.cells #[.int .i64 0, .int .i64 0, .int .i64 0, .string ⟨#[]⟩] 92 (0, 0)) no w2 := (Has.frames _ _).off (Has.newAt (X := no) (fun h => h) (by simp) _) hoff
    have hB2 : Below w.heap.size w w2 := (below2 w _ _).drew.trans (hb2.mono (by simp; omega))
    have c0 := hx.cell (i := 0)
    have c1 := hx.cell (i := 1)
    have c2 := hx.cell (i := 2)
    have c3 := hx.cell (i := 3)
    simp only [List.getElem?_toArray, List.getElem?_cons_zero, List.getElem?_cons_succ] at c0 c1 c2 c3
    clear hb2 hoff
    have k1 : IntKind.i64.wrap (p.a + (M - p.a)) = p.a + (M - p.a) := IntWalk.i64_in _ (by omega)
    have k2 : p.f + (M - p.a) ≤ 3000000 := by omega
    have k3 : p.f + (N - p.a) ≤ 3000000 := by omega
    have k4 : p.a + (M - p.a) ≤ 20000000 := by omega
    have k5 : -20000000 ≤ p.a + (M - p.a) := by omega
    generalize M - p.a = u at *
    generalize N - p.a = v at *
    cases hw : went p with
    | true =>
      have HC4 := Lib.hid (HC3.out true hw)
      have HW2 := HWB.out
      rw [hw] at HW2
      have HW3 := Lib.hid HW2
      clear HW2 hw
      go_wp2_with (go_at_call 86; refine (HW3.out _).mono ?_; rintro r w3 ⟨rfl, hb3⟩; have hx3 := (Has.frames _ _).off hx (Off.of_below hb3); have hy3 := (Has.frames _ _).off hy (Off.of_below hb3); have d0 := hx3.cell (i := 0); have d1 := hx3.cell (i := 1); have d2 := hx3.cell (i := 2); have d3 := hx3.cell (i := 3); have y0 := hy3.cell (i := 0); have y1 := hy3.cell (i := 1); have y2 := hy3.cell (i := 2); have y3 := hy3.cell (i := 3); have z0 := hy3.frozen (i := 0); have z1 := hy3.frozen (i := 1); have z2 := hy3.frozen (i := 2); have z3 := hy3.frozen (i := 3); simp only [List.getElem?_toArray, List.getElem?_cons_zero, List.getElem?_cons_succ] at d0 d1 d2 d3 y0 y1 y2 y3)
      obtain ⟨s0, s1, s2, s3, s4⟩ := set4 hy3 (.int .i64 (p.a + u)) (.int .i64 (p.f + u)) (.int .i64 (p.f + v)) (.string ⟨#[]⟩)
      exact bodyPost_ret (v := .agg #[.int .i64 (p.a + u), .int .i64 (p.f + u), .int .i64 (p.f + v), .string ⟨#[]⟩]) (by simp [results, Try.results115, go_sem, s0, s1, s2, s3]) rfl ⟨by rw [HC4.out]; rfl, s4 (hB2.trans (hb3.mono hB2.size))⟩
    | false =>
      have HC4 := Lib.hid (HC3.out false hw)
      have hv := HV3.out hw
      have HW2 := HWB.out
      rw [hw] at HW2
      have HW3 := Lib.hid HW2
      clear HW2 hw
      go_wp2_with (go_at_call 86; refine (HW3.out _).mono ?_; rintro r w3 ⟨rfl, hb3⟩; have hx3 := (Has.frames _ _).off hx (Off.of_below hb3); have hy3 := (Has.frames _ _).off hy (Off.of_below hb3); have d0 := hx3.cell (i := 0); have d1 := hx3.cell (i := 1); have d2 := hx3.cell (i := 2); have d3 := hx3.cell (i := 3); have y0 := hy3.cell (i := 0); have y1 := hy3.cell (i := 1); have y2 := hy3.cell (i := 2); have y3 := hy3.cell (i := 3); have z0 := hy3.frozen (i := 0); have z1 := hy3.frozen (i := 1); have z2 := hy3.frozen (i := 2); have z3 := hy3.frozen (i := 3); simp only [List.getElem?_toArray, List.getElem?_cons_zero, List.getElem?_cons_succ] at d0 d1 d2 d3 y0 y1 y2 y3)
      have z4 : (0 : Int) ≤ v := by omega
      have z5 : u ≤ v := by omega
      go_still_tail 10, (by kernel_rfl)
      change wpList _ _ _ _ _ w3.drew
      clear k1
      go_wp2
      obtain ⟨_, _, _, _, s4⟩ := set4 hy3.drew (.int .i64 (p.a + u)) (.int .i64 0) (.int .i64 0) (.string (p.s.extract u.toNat v.toNat))
      obtain ⟨s0, s1, s2, s3, _⟩ := set4 hy3 (.int .i64 (p.a + u)) (.int .i64 0) (.int .i64 0) (.string (p.s.extract u.toNat v.toNat))
      exact bodyPost_ret (v := .agg #[.int .i64 (p.a + u), .int .i64 0, .int .i64 0, .string (p.s.extract u.toNat v.toNat)]) (by simp [results, Try.results115, go_sem, s0, s1, s2, s3]) rfl ⟨by rw [HC4.out]; rfl, s4 (hB2.trans (hb3.mono hB2.size)).drew⟩

end Go.Proofs.Ytgfafinpcpiogaa
