/- Came, at all lists. -/
import Derived.Test.YtgfafinpcpiogaaShiftGoes
namespace Go.Proofs.Ytgfafinpcpiogaa
open Go.RowKit Go.Shelf EditMath ShiftMath

attribute [local go_sem] Oper.semAt_some

set_option maxRecDepth 100000 in
set_option maxHeartbeats 1000000 in
theorem came_bad (A : Option Addr) (c : Nat) (l : List Ed) (size x : Int) (w : World) (hl : l.length ≤ 10000) (hr : Eds w w.heap.size A l) (hR : rt l size = false) :
    Calls Try.prog 15 #[.slice A l.length c, .int .i64 size, .int .i64 x] w fun e w' => e = .returned (.tuple #[.int .i64 0, errn 2]) ∧ Below w.heap.size w w' := by
  have HR := Lib.hid hR
  clear hR
  go_enter Try.func15, Try.ntmps15
  go_wp2_with (go_at_call 49; refine (right_any A c l size _ hl (hr.after (below3 _ _ _ _))).mono ?_; rw [HR.out]; rintro e w1 ⟨rfl, hB1⟩; obtain ⟨h1, h2, h3, hB⟩ := boxes3 hB1; have q2 := h2.cell (i := 0); have q3 := h3.cell (i := 0); have f2 := h2.frozen (i := 0); have f3 := h3.frozen (i := 0); simp only [List.getElem?_toArray, List.getElem?_cons_zero] at q2 q3; have q4 : (w1.setCell ⟨w.heap.size + 1, 0, none⟩ (.int .i64 0)).cell? ⟨w.heap.size + 1 + 1, 0, none⟩ = some .nilIface := (cell_set_other (by omega) _).trans q3)
  have r2 := ((h2.set (v' := .int .i64 0)).other (b' := w.heap.size + 1 + 1) (o := 0) (v' := errn 2) (by omega)).cell (i := 0)
  have r3 := ((h3.other (b' := w.heap.size + 1) (o := 0) (v' := .int .i64 0) (by omega)).set (v' := errn 2)).cell (i := 0)
  simp only [List.getElem?_toArray, List.getElem?_cons_zero] at r2 r3
  exact bodyPost_ret (v := .tuple #[.int .i64 0, errn 2]) (by simp [results, Try.results15, go_sem, r2, r3]) rfl ⟨rfl, (hB.setCell (p := ⟨w.heap.size + 1, 0, none⟩) (by simp) _).setCell (p := ⟨w.heap.size + 1 + 1, 0, none⟩) (by simp; omega) _⟩

set_option maxRecDepth 100000 in
set_option maxHeartbeats 1000000 in
theorem came_neg (A : Option Addr) (c : Nat) (l : List Ed) (size x : Int) (w : World) (hl : l.length ≤ 10000) (hr : Eds w w.heap.size A l) (hR : rt l size = true) (hx : x < 0) :
    Calls Try.prog 15 #[.slice A l.length c, .int .i64 size, .int .i64 x] w fun e w' => e = .returned (.tuple #[.int .i64 0, errn 5]) ∧ Below w.heap.size w w' := by
  have HR := Lib.hid hR
  clear hR
  go_enter Try.func15, Try.ntmps15
  go_wp2_with (go_at_call 49; refine (right_any A c l size _ hl (hr.after (below3 _ _ _ _))).mono ?_; rw [HR.out]; rintro e w1 ⟨rfl, hB1⟩; obtain ⟨h1, h2, h3, hB⟩ := boxes3 hB1; have q1 := h1.cell (i := 0); have q2 := h2.cell (i := 0); have q3 := h3.cell (i := 0); have f2 := h2.frozen (i := 0); have f3 := h3.frozen (i := 0); simp only [List.getElem?_toArray, List.getElem?_cons_zero] at q1 q2 q3; have q4 : (w1.setCell ⟨w.heap.size + 1, 0, none⟩ (.int .i64 0)).cell? ⟨w.heap.size + 1 + 1, 0, none⟩ = some .nilIface := (cell_set_other (by omega) _).trans q3)
  have r2 := ((h2.set (v' := .int .i64 0)).other (b' := w.heap.size + 1 + 1) (o := 0) (v' := errn 5) (by omega)).cell (i := 0)
  have r3 := ((h3.other (b' := w.heap.size + 1) (o := 0) (v' := .int .i64 0) (by omega)).set (v' := errn 5)).cell (i := 0)
  simp only [List.getElem?_toArray, List.getElem?_cons_zero] at r2 r3
  exact bodyPost_ret (v := .tuple #[.int .i64 0, errn 5]) (by simp [results, Try.results15, go_sem, r2, r3]) rfl ⟨rfl, (hB.setCell (p := ⟨w.heap.size + 1, 0, none⟩) (by simp) _).setCell (p := ⟨w.heap.size + 1 + 1, 0, none⟩) (by simp; omega) _⟩

/-- what Came answers, by the pieces that went -/
def cameR (L : List Pc) (x : Int) : Value := match L.find? (inC x) with
  | some p => .tuple #[.int .i64 (x - (p.a - p.f)), .nilIface]
  | none => .tuple #[.int .i64 0, errn 5]

abbrev cmFrm (y g bp : Nat) (A : Option Addr) (n c : Nat) (size x : Int) (p : Pc) : Act := { tmps := #[.slice A n c, .int .i64 size, .int .i64 x, undef, undef, .pointer (some ⟨y, 0, none⟩), .pointer (some ⟨y + 1, 0, none⟩), .pointer (some ⟨y + 1 + 1, 0, none⟩), .pointer (some ⟨bp, 0, none⟩), undef, .slice A n c, .int .i64 size, .bool true, .bool false, undef, .int .i64 x, .bool false, undef, .slice A n c, .int .i64 size, .func (.func 85) #[] #[.pointer (some ⟨g, 0, none⟩), .pointer (some ⟨g + 1, 0, none⟩)], pcv p, undef, undef, undef, undef, undef, undef, undef, undef, undef, undef, undef, undef, undef, undef, undef, undef], defers := [] }
def CmA (w : World) (q : Pc → Bool) (g : Nat) (A : Option Addr) (n c : Nat) (size x : Int) (pre : List Pc) (p : Pc) (a' : Act) : As := fun X W => ∃ bp,
  GsI w q g x (.slice A n c) size pre X W ∧ Has bp (pcc p) X W ∧ a' = cmFrm w.heap.size g bp A n c size x p

theorem came_z {x z : Int} {p : Pc} (hz : IntKind.i64.wrap (x - (p.a - p.f)) = z) (h0 : 0 ≤ x) (h1 : x ≤ 9223372036854775807) (h2 : -100000000 ≤ p.a - p.f) (h3 : p.a - p.f ≤ 100000000) (h4 : 0 ≤ p.f) (h5 : p.t ≤ 1000000) :
    inC x p = (decide (p.f ≤ z) && decide (z < p.t)) ∧ (inC x p = true → z = x - (p.a - p.f)) := by
  rw [IntWalk.i64_left] at hz
  by_cases h : x - (p.a - p.f) ≤ 9223372036854775807
  · rw [IntWalk.wrap64_in _ (by omega)] at hz
    subst hz
    exact ⟨rfl, fun _ => rfl⟩
  · have hn : z < 0 := by subst hz; unfold wrap64; omega
    have e : inC x p = false := by
      unfold inC
      rw [decide_eq_false (show ¬ x - (p.a - p.f) < p.t by omega), Bool.and_false]
    refine ⟨?_, fun h => by rw [e] at h; cases h⟩
    rw [e, decide_eq_false (show ¬ p.f ≤ z by omega), Bool.false_and]

set_option maxRecDepth 100000 in
set_option maxHeartbeats 1000000 in
theorem came_ok (A : Option Addr) (c : Nat) (l : List Ed) (size x : Int) (w : World) (hl : l.length ≤ 10000) (hr : Eds w w.heap.size A l) (hR : rt l size = true) (hsz : size ≤ 1000000) (hs : Small l) (hx0 : 0 ≤ x) (hx1 : x ≤ 9223372036854775807) :
    Calls Try.prog 15 #[.slice A l.length c, .int .i64 size, .int .i64 x] w fun e w' => e = .returned (cameR ((pcs l size).filter went) x) ∧ Below w.heap.size w w' := by
  have h0 := (rt_parts hR).1
  have HR := Lib.hid hR
  have HOK := Lib.hid (pcs_ok hs h0 hsz)
  have hxb : decide (x < 0) = false := decide_eq_false (by omega)
  clear hR
  refine (callsIn_wide (n := 8)).1 ?_
  refine callsIn_of_wp_marks Try.func15 rfl trivial ?_ rfl
  simp only [Try.ntmps15, List.size_toArray, List.length_cons, List.length_nil, Nat.reduceAdd, Nat.reduceSub, Array.replicate_succ, Array.replicate_zero, List.push_toArray, List.append_toArray, List.nil_append, List.cons_append]
  gi_wp2_with (first | (refine ⟨trivial, ?_⟩; gi_at_call 49; refine (callsIn_wide.2 (right_any A c l size _ hl (hr.after (below3 _ _ _ _)))).mono ?_; rw [HR.out]; rintro e w1 ⟨rfl, hB1⟩; obtain ⟨h1, h2, h3, hB⟩ := boxes3 hB1; have q1 := h1.cell (i := 0); simp only [List.getElem?_toArray, List.getElem?_cons_zero] at q1) | (refine ⟨trivial, ?_⟩; gi_at_call 50; refine (callsIn_wide.2 (going_any _ _ _ _ _)).mono ?_; rintro e w' ⟨rfl, rfl⟩))
  clear q1
  refine range_out (going_iter w1.heap.size (w1.heap.size + 1) A c l size (by omega) hs h0 hsz) rfl (enters_of Try.func85 (by kernel_rfl) rfl) (fun _ => rfl)
    (GsI w (inC x) w1.heap.size x (.slice A l.length c) size) (GsX w (inC x) (fun p => x - (p.a - p.f)) ((pcs l size).filter went)) (CmA w (inC x) w1.heap.size A l.length c size x) ?fI ?fX ?fA ?hC ?h0 ?assign ?body ?done ?stop
  case fI => exact fun pre => GsI.frames _ _ _ _ _ _ _
  case fX => exact fun c pre => GsX.frames _ _ _ _ _ _
  case fA => exact fun pre p a' => Frames.ex fun bp => (GsI.frames _ _ _ _ _ _ _).and ((Has.frames _ _).and (Frames.pure _))
  case hC =>
    rintro pre X W1 ⟨hlow, hh, _⟩
    exact ⟨hh.g1, hh.g2, _, hr.below hlow.1, hlow.2.1⟩
  case h0 =>
    refine ⟨⟨(hB.alloc hB.size _).alloc (by have := hB.size; simp; omega) _, by have := hB.size; simp; omega, fun _ h => h.elim⟩, ⟨(h1.alloc _).alloc _, (h2.alloc _).alloc _, (h3.alloc _).alloc _, (Has.newAt (fun h => h) rfl _).alloc _, Has.newAt (fun h => h) (by simp) _⟩, fun _ h => by cases h⟩
  case assign =>
    rintro lq X pre p W1 K hX hXb hi hp hK
    gi_wp2
    exact hK _ _ (by simp) (Kept.alloc _ _ _) ⟨W1.heap.size, (GsI.frames _ _ _ _ _ _ _).off hi (Off.alloc _ _ _), Has.new hXb _, rfl⟩
  case body =>
    rintro lq X pre p a' W1 hX hXb hr2 ⟨bp, ⟨hlow, hh, hn⟩, hbp, rfl⟩ hp
    have HP := Lib.hid hp
    have HN := Lib.hid hn
    clear hp hn
    have p0 := hbp.cell (i := 0)
    have p1 := hbp.cell (i := 1)
    have p2 := hbp.cell (i := 2)
    have p3 := hbp.cell (i := 3)
    have q1 := hh.h1.cell (i := 0)
    simp only [List.getElem?_toArray, List.getElem?_cons_zero, List.getElem?_cons_succ] at p0 p1 p2 p3 q1
    obtain ⟨o1, o2, o3, o4, o5, o6, o7⟩ := HOK.out p (List.mem_filter.1 (pref_mem HP.out)).1
    obtain ⟨z, hz⟩ : ∃ z, IntKind.i64.wrap (x - (p.a - p.f)) = z := ⟨_, rfl⟩
    have HZ := Lib.hid (came_z hz hx0 hx1 (by omega) (by omega) o3 o6)
    gi_wp2
    refine wpIn_region_held (fun W' => W'.cell? ⟨w.heap.size, 0, none⟩ = some (.int .i64 x) ∧ W'.cell? ⟨bp, 0, none⟩ = some (.int .i64 p.a) ∧ W'.cell? ⟨bp, 1, none⟩ = some (.int .i64 p.f) ∧ W'.cell? ⟨bp, 2, none⟩ = some (.int .i64 p.t) ∧ W'.cell? ⟨bp, 3, none⟩ = some (.string p.s)) (by kernel_rfl) (by kernel_rfl) ?hQ ?_
    case hQ => rintro ⟨_, _, h⟩; exact h
    have hS : W1.drew.cell? ⟨w.heap.size, 0, none⟩ = some (.int .i64 x) ∧ W1.drew.cell? ⟨bp, 0, none⟩ = some (.int .i64 p.a) ∧ W1.drew.cell? ⟨bp, 1, none⟩ = some (.int .i64 p.f) ∧ W1.drew.cell? ⟨bp, 2, none⟩ = some (.int .i64 p.t) ∧ W1.drew.cell? ⟨bp, 3, none⟩ = some (.string p.s) := ⟨q1, p0, p1, p2, p3⟩
    refine wpAnyH_take (i := 0) (v := .int .i64 x) rfl (by kernel_rfl) (by kernel_rfl) (by kernel_rfl) (fun _ _ _ h => h) (Or.inl ⟨by rfl, fun w' hS' => ?y0⟩) hS ?_
    case y0 => obtain ⟨s1, s2, s3, s4, s5⟩ := hS'; go_simp
    refine wpAnyH_take (i := 1) (v := pcv p) rfl (by kernel_rfl) (by kernel_rfl) (by kernel_rfl) (fun _ _ _ h => h) (Or.inl ⟨by rfl, fun w' hS' => ?y1⟩) hS ?_
    case y1 => obtain ⟨s1, s2, s3, s4, s5⟩ := hS'; go_simp
    simp only [Act.put, List.setIfInBounds_toArray]
    refine wpAnyH_ready (rs := [2]) (by kernel_rfl) (by simp) ?_
    refine AllReadyH.cons rfl (fun K hK => ?_) AllReadyH.nil
    go_simp
    refine (shift_any p _ (by omega) (by omega) (by omega) (by omega)).mono ?_
    rintro r W2 ⟨rfl, hB2⟩
    have hoff : Off X W1 W2 := (Off.drew _ _).trans (Off.of_below hB2)
    have hh2 := (GsH.frames _ _ _ _ _).off hh hoff
    have hbp2 := (Has.frames _ _).off hbp hoff
    have hlow2 := (Low.frames _ _).off hlow hoff
    have hk2 : Kept X W1 W2 := fun k _ hlt => hB2.block k hlt
    have hs2 : W1.heap.size ≤ W2.heap.size := hB2.size
    have hS2 : W2.cell? ⟨w.heap.size, 0, none⟩ = some (.int .i64 x) ∧ W2.cell? ⟨bp, 0, none⟩ = some (.int .i64 p.a) ∧ W2.cell? ⟨bp, 1, none⟩ = some (.int .i64 p.f) ∧ W2.cell? ⟨bp, 2, none⟩ = some (.int .i64 p.t) ∧ W2.cell? ⟨bp, 3, none⟩ = some (.string p.s) := by
      refine ⟨hh2.h1.cell, hbp2.cell, hbp2.cell, hbp2.cell, hbp2.cell⟩
    refine hK.out _ _ hS2 (fun _ => ?_)
    clear hK K
    refine wpAnyH_take (i := 3) (v := .int .i64 z) rfl (by kernel_rfl) (by kernel_rfl) (by kernel_rfl) (fun _ _ _ h => h) (Or.inl ⟨by rfl, fun w' hS' => ?y3⟩) hS2 ?_
    case y3 => go_simp
    refine wpAnyH_take (i := 4) (v := .int .i64 z) rfl (by kernel_rfl) (by kernel_rfl) (by kernel_rfl) (fun _ _ _ h => h) (Or.inl ⟨by rfl, fun w' hS' => ?y4⟩) hS2 ?_
    case y4 => go_simp
    simp only [Act.put, List.setIfInBounds_toArray]
    refine wpAnyH_done (by kernel_rfl) ?_ _
    clear hz
    obtain ⟨_, p0', p1', p2', p3'⟩ := hS2
    cases t1 : decide (p.f ≤ z) with
    | false =>
      have T := Lib.hid (show inC x p = false by rw [HZ.out.1]; simp only [t1, Bool.false_and])
      gi_wp2
      try refine ⟨fun _ h => (by cases h), ?_⟩
      gi_wp2
      exact ⟨hs2, hk2, hlow2, hh2, none_snoc HN.out T.out⟩
    | true =>
      cases t2 : decide (z < p.t) with
      | false =>
        have T := Lib.hid (show inC x p = false by rw [HZ.out.1]; simp only [t1, t2, Bool.and_false])
        gi_wp2
        exact ⟨hs2, hk2, hlow2, hh2, none_snoc HN.out T.out⟩
      | true =>
        have T := Lib.hid (show inC x p = true by rw [HZ.out.1]; simp only [t1, t2, Bool.and_true])
        have HZ2 := Lib.hid (HZ.out.2 T.out)
        have q2 := hh2.h2.cell (i := 0)
        have q3 := hh2.h3.cell (i := 0)
        have f2 := hh2.h2.frozen (i := 0)
        have f3 := hh2.h3.frozen (i := 0)
        simp only [List.getElem?_toArray, List.getElem?_cons_zero] at q2 q3
        have q3' : (W2.setCell ⟨w.heap.size + 1, 0, none⟩ (.int .i64 z)).cell? ⟨w.heap.size + 1 + 1, 0, none⟩ = some .nilIface := (cell_set_other (by omega) _).trans q3
        gi_wp2
        rw [HZ2.out]
        refine ⟨?_, ?_, rfl, ?_, p, find_first HP.out HN.out T.out, ?_, ?_⟩
        · simp only [World.setCell, Array.size_modify]; exact hs2
        · exact Kept.trans hs2 hk2 (Kept.trans (by simp [World.setCell]) (Kept.set hh2.h2.1 _ _) (Kept.set hh2.h3.1 _ _))
        · exact ⟨(hlow2.1.setCell (p := ⟨w.heap.size + 1, 0, none⟩) (by simp) _).setCell (p := ⟨w.heap.size + 1 + 1, 0, none⟩) (by simp; omega) _, by have := hlow2.2.1; simp [World.setCell]; omega, hlow2.2.2⟩
        · exact (hh2.h2.set).other (by omega)
        · exact (hh2.h3.other (by omega)).set
  case done =>
    rintro D W1 ⟨hlow, hh, hn⟩ hD
    have q2 := hh.h2.cell (i := 0)
    have q3 := hh.h3.cell (i := 0)
    have f2 := hh.h2.frozen (i := 0)
    have f3 := hh.h3.frozen (i := 0)
    simp only [List.getElem?_toArray, List.getElem?_cons_zero] at q2 q3
    have q4 : (W1.setCell ⟨w.heap.size + 1, 0, none⟩ (.int .i64 0)).cell? ⟨w.heap.size + 1 + 1, 0, none⟩ = some .nilIface := (cell_set_other (by omega) _).trans q3
    gi_wp2
    obtain ⟨r1, r2, r3, r4⟩ := ret2 (v1 := .int .i64 0) (v2 := errn 5) hlow hh.h2 hh.h3 hD
    refine ⟨by simp, .inl ⟨_, _, rfl, run_takeDeferred r1, ?_⟩⟩
    refine ⟨.tuple #[.int .i64 0, errn 5], by simp [results, Try.results15, go_sem, r2, r3], ?_, r4⟩
    rw [cameR, find_none hn]
  case stop =>
    rintro D c pre W1 hp ⟨rfl, hlow, p, hf, g2, g3⟩ hD
    gi_wp2
    obtain ⟨r2, r3, r4⟩ := ret1 hlow g2 g3 hD
    refine ⟨by simp, .inl ⟨_, _, rfl, run_takeDeferred hD, ?_⟩⟩
    refine ⟨.tuple #[.int .i64 (x - (p.a - p.f)), .nilIface], by simp [results, Try.results15, go_sem, r2, r3], ?_, r4⟩
    rw [cameR, hf]
end Go.Proofs.Ytgfafinpcpiogaa
