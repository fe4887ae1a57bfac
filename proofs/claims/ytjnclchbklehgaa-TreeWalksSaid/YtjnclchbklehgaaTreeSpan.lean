/- tree.span, tree.Span. -/
import Derived.Test.YtjnclchbklehgaaTreeRight
import Derived.Test.YtjnclchbklehgaaTreeSpanMath
import Derived.Test.YtjnclchbklehgaaTextStore
import Derived.Test.YtjnclchbklehgaaTreeBox
namespace Go.Proofs.Ytjnclchbklehgaa
open Go.RowKit Go.Shelf TreeMath

attribute [local go_sem] Oper.semAt_some

def SpI (w : World) (T : Tr) (pre : List Tr) : As := fun X W => Low w.heap.size w X W ∧ Has (w.heap.size + 1) (ibx (spf pre)) X W ∧ Has (w.heap.size + 2) (ibx (spt pre)) X W ∧ Has (w.heap.size + 3) (bbx (spo pre)) X W ∧ Has (w.heap.size + 4) (nbx T) X W
theorem SpI.frames (w : World) (T : Tr) (pre : List Tr) : Frames (SpI w T pre) := (Low.frames _ _).and ((Has.frames _ _).and ((Has.frames _ _).and ((Has.frames _ _).and (Has.frames _ _))))
abbrev spFrm (y bp : Nat) (T x : Tr) : Act :=
  { tmps := #[nv T, .pointer (some ⟨y, 0, none⟩), .pointer (some ⟨y + 1, 0, none⟩), .pointer (some ⟨y + 2, 0, none⟩), .pointer (some ⟨y + 3, 0, none⟩), .pointer (some ⟨bp, 0, none⟩), nv T, .func (.func 53) #[] #[.pointer (some ⟨y + 4, 0, none⟩)], nv (tok x), undef, undef, undef, undef, undef, undef, undef, undef, undef, undef, undef, undef, undef], defers := [] }

set_option maxRecDepth 100000 in
set_option maxHeartbeats 2000000 in
theorem span1_any (T : Tr) (w : World) (hT : Tn (lo w.heap.size) w T) (hw : wt T ≤ 5000) :
    Calls Try.prog 32 #[nv T] w fun e w' => e = .returned (.tuple #[.int .i64 (spf (lf T)), .int .i64 (spt (lf T)), .bool (spo (lf T))]) ∧ Below w.heap.size w w' := by
  have HIT := Lib.hid (leaves_iter T w (w.heap.size + 4) hT hw)
  have HSZ : Hid (∀ x ∈ lf T, (x.t.size : Int) ≤ 250000) := Lib.hid fun x hx => by have := text_le (List.mem_filter.1 hx).1; omega
  have HRG : Hid (∀ x ∈ lf T, rng x.a) := Lib.hid fun x hx => (hT.node x (List.mem_filter.1 hx).1).rng
  clear hT hw
  refine (callsIn_wide (n := 8)).1 ?_
  refine callsIn_of_wp_marks Try.func32 rfl trivial ?_ rfl
  simp only [Try.ntmps32, List.size_toArray, List.length_cons, List.length_nil, Nat.reduceAdd, Nat.reduceSub, Array.replicate_succ, Array.replicate_zero, List.push_toArray, List.append_toArray, List.nil_append, List.cons_append]
  gi_wp2_with (refine ⟨trivial, ?_⟩; gi_at_call 36; refine (callsIn_wide.2 (leaves_any T _)).mono ?_; rintro e w' ⟨rfl, rfl⟩)
  refine range_out HIT.out rfl eg_leaves (fun _ => rfl) (SpI w T) (fun _ _ _ _ => False) (fun pre x a' X W => ∃ bp, SpI w T pre X W ∧ Has bp (tbx x) X W ∧ a' = spFrm w.heap.size bp T x) ?fI ?fX ?fA ?hC ?h0 ?assign ?body ?done ?stop
  case fI => exact fun pre => SpI.frames _ _ _
  case fX => exact fun c pre => Frames.pure _
  case fA => exact fun pre p a' => Frames.ex fun bp => (SpI.frames _ _ _).and ((Has.frames _ _).and (Frames.pure _))
  case hC => exact fun pre X W1 h => ⟨h.1, h.2.2.2.2⟩
  case h0 =>
    refine ⟨Low.begin w (below5 w _ _ _ _ _), ?_, ?_, ?_, ?_⟩
    · exact (((Has.newAt (fun h => h) (by simp) _).alloc _).alloc _).alloc _
    · exact ((Has.newAt (fun h => h) (by simp) _).alloc _).alloc _
    · exact (Has.newAt (fun h => h) (by simp) _).alloc _
    · exact Has.newAt (fun h => h) (by simp) _
  case assign =>
    rintro lq X pre x W1 K hX hXb hi hp hK
    gi_wp2
    exact hK _ _ (by simp) (Kept.alloc _ _ _) ⟨W1.heap.size, (SpI.frames _ _ _).off hi (Off.alloc _ _ _), Has.new hXb _, rfl⟩
  case body =>
    rintro lq X pre x a' W1 hX hXb hr2 ⟨bp, ⟨hlow, hf, ht, ho, hn⟩, hbp, rfl⟩ hp
    have hmem : x ∈ lf T := hp.subset (by simp)
    have s1 := HSZ.out x hmem
    have s2 := HRG.out x hmem
    unfold rng at s2
    obtain ⟨s3, s4⟩ := s2
    clear hp hmem
    have hne0 : bp ≠ w.heap.size + 1 := hbp.ne hf (by simp)
    have hne1 : bp ≠ w.heap.size + 2 := hbp.ne ht (by simp)
    have hne2 : bp ≠ w.heap.size + 3 := hbp.ne ho (by simp)
    have p2 := hbp.cell (i := 2)
    have p3 := hbp.cell (i := 3)
    have q0 := hf.cell (i := 0)
    have q1 := ht.cell (i := 0)
    have q2 := ho.cell (i := 0)
    have f0 := hf.frozen (i := 0)
    have f1 := ht.frozen (i := 0)
    have f2 := ho.frozen (i := 0)
    simp only [List.getElem?_toArray, List.getElem?_cons_zero, List.getElem?_cons_succ, tok] at p2 p3 q0 q1 q2
    cases pre with
    | nil =>
      have HF := Lib.hid (show spf ([] ++ [x]) = x.a by simp [spf])
      have HTT := Lib.hid (show spt ([] ++ [x]) = wrap64 (x.a + x.t.size) by simp [spt])
      have HO := Lib.hid (show spo ([] ++ [x]) = true by simp [spo])
      have hb : spo ([] : List Tr) = false := rfl
      rw [hb] at q2
      gi_wp2
      refine ⟨by simp only [size_set]; exact Nat.le_refl _, ?_, ((hlow.set (by simp) _).set (by simp) _).set (by simp) _, ?_, ?_, ?_, ?_⟩
      · exact Kept.trans (by simp only [size_set]; exact Nat.le_refl _) (Kept.trans (by simp only [size_set]; exact Nat.le_refl _) (Kept.set hf.1 _ _) (Kept.set ho.1 _ _)) (Kept.set ht.1 _ _)
      · rw [HF.out]; exact ((hf.set).other (by omega)).other (by omega)
      · rw [HTT.out]; exact ((ht.other (by omega)).other (by omega)).set
      · rw [HO.out]; exact ((ho.other (by omega)).set).other (by omega)
      · exact ((hn.other (by omega)).other (by omega)).other (by omega)
    | cons z zs =>
      have HF := Lib.hid (show spf ((z :: zs) ++ [x]) = spf (z :: zs) by simp [spf])
      have HTT := Lib.hid (show spt ((z :: zs) ++ [x]) = wrap64 (x.a + x.t.size) by unfold spt; rw [List.getLast?_concat]; rfl)
      have HO := Lib.hid (show spo ((z :: zs) ++ [x]) = spo (z :: zs) by simp [spo])
      have hb : spo (z :: zs) = true := rfl
      rw [hb] at q2
      gi_wp2
      refine ⟨by simp only [size_set]; exact Nat.le_refl _, Kept.set ht.1 _ _, hlow.set (by simp) _, ?_, ?_, ?_, hn.other (by omega)⟩
      · rw [HF.out]; exact hf.other (by omega)
      · rw [HTT.out]; exact ht.set
      · rw [HO.out]; exact ho.other (by omega)
  case done =>
    rintro D W1 ⟨hlow, hf, ht, ho, hn⟩ hD
    have q0 := hf.cell (i := 0)
    have q1 := ht.cell (i := 0)
    have q2 := ho.cell (i := 0)
    have f0 := hf.frozen (i := 0)
    have f1 := ht.frozen (i := 0)
    have f2 := ho.frozen (i := 0)
    simp only [List.getElem?_toArray, List.getElem?_cons_zero] at q0 q1 q2
    obtain ⟨F, hF⟩ : ∃ F, spf (lf T) = F := ⟨_, rfl⟩
    obtain ⟨E, hE⟩ : ∃ E, spt (lf T) = E := ⟨_, rfl⟩
    obtain ⟨O, hO⟩ : ∃ O, spo (lf T) = O := ⟨_, rfl⟩
    rw [hF] at hf q0
    rw [hE] at ht q1
    rw [hO] at ho q2
    have HFEO := Lib.hid (And.intro hF (And.intro hE hO))
    clear hF hE hO
    have hS : W1.drew.cell? ⟨w.heap.size + 1, 0, none⟩ = some (.int .i64 F) ∧ W1.drew.cell? ⟨w.heap.size + 1 + 1, 0, none⟩ = some (.int .i64 E) ∧ W1.drew.cell? ⟨w.heap.size + 1 + 1 + 1, 0, none⟩ = some (.bool O) := ⟨q0, q1, q2⟩
    have g0 : Has (w.heap.size + 1) (ibx F) (· = D) W1.drew := hf
    have g1 : Has (w.heap.size + 1 + 1) (ibx E) (· = D) W1.drew := ht
    have g2 : Has (w.heap.size + 1 + 1 + 1) (bbx O) (· = D) W1.drew := ho
    have g0' := (g0.set (v' := .int .i64 F))
    have g1' := g1.other (b' := w.heap.size + 1) (o := 0) (v' := .int .i64 F) (by omega)
    have g2' := g2.other (b' := w.heap.size + 1) (o := 0) (v' := .int .i64 F) (by omega)
    have k0 := g0'.other (b' := w.heap.size + 1 + 1) (o := 0) (v' := .int .i64 E) (by omega)
    have k1 := g1'.set (v' := .int .i64 E)
    have k2 := g2'.other (b' := w.heap.size + 1 + 1) (o := 0) (v' := .int .i64 E) (by omega)
    have m0 := k0.other (b' := w.heap.size + 1 + 1 + 1) (o := 0) (v' := .bool O) (by omega)
    have m1 := k1.other (b' := w.heap.size + 1 + 1 + 1) (o := 0) (v' := .bool O) (by omega)
    have m2 := k2.set (v' := .bool O)
    have hS1 := And.intro (g0'.cell (i := 0)) (And.intro (g1'.cell (i := 0)) (g2'.cell (i := 0)))
    have hS2 := And.intro (k0.cell (i := 0)) (And.intro (k1.cell (i := 0)) (k2.cell (i := 0)))
    have hS3 := And.intro (m0.cell (i := 0)) (And.intro (m1.cell (i := 0)) (m2.cell (i := 0)))
    simp only [List.getElem?_toArray, List.getElem?_cons_zero] at hS1 hS2 hS3
    have e0 := hS.1
    have e1 := hS1.2.1
    have e2 := hS2.2.2
    have e3 : W1.frozen? ⟨w.heap.size + 1, 0, none⟩ = false := hf.frozen
    have e4 : W1.frozen? ⟨w.heap.size + 1 + 1, 0, none⟩ = false := ht.frozen
    have e5 : W1.frozen? ⟨w.heap.size + 1 + 1 + 1, 0, none⟩ = false := ho.frozen
    have ML := Lib.hid (And.intro m0 (And.intro m1 m2))
    have HLW := Lib.hid (((((Low.frames _ _).off hlow (Off.drew _ W1)).set (p := ⟨w.heap.size + 1, 0, none⟩) (by simp) (.int .i64 F)).set (p := ⟨w.heap.size + 1 + 1, 0, none⟩) (by simp; omega) (.int .i64 E)).set (p := ⟨w.heap.size + 1 + 1 + 1, 0, none⟩) (by simp; omega) (.bool O))
    have HDD : Hid (((((W1.drew).setCell ⟨w.heap.size + 1, 0, none⟩ (.int .i64 F)).setCell ⟨w.heap.size + 1 + 1, 0, none⟩ (.int .i64 E)).setCell ⟨w.heap.size + 1 + 1 + 1, 0, none⟩ (.bool O)).heap[D]? = some (.deferred (some []))) := Lib.hid ((Below.heap_setCell _ _ _ _ (fun e => ho.1 e.symm)).trans ((Below.heap_setCell _ _ _ _ (fun e => ht.1 e.symm)).trans ((Below.heap_setCell _ _ _ _ (fun e => hf.1 e.symm)).trans hD)))
    clear hlow hf ht ho hn hD q0 q1 q2 f0 f1 f2 g0 g1 g2 g0' g1' g2' k0 k1 k2 m0 m1 m2
    gi_wp2
    refine wpIn_wide.2 ?_
    rename_i K0 hK0
    refine wp_region_noPanic (wp_region_held (S := fun W' => W'.cell? ⟨w.heap.size + 1, 0, none⟩ = some (.int .i64 F) ∧ W'.cell? ⟨w.heap.size + 1 + 1, 0, none⟩ = some (.int .i64 E) ∧ W'.cell? ⟨w.heap.size + 1 + 1 + 1, 0, none⟩ = some (.bool O)) (by kernel_rfl) ?_)
    show wpAnyH _ _ _ _ _ _ _ _ W1.drew
    refine wpAnyH_take_d (i := 0) (v := .int .i64 F) 19 rfl rfl (by kernel_rfl) (by kernel_rfl) (by kernel_rfl) (fun _ _ _ h => h) (Or.inl ⟨by kernel_rfl, fun w' hS' => ?y0⟩) hS ?_
    case y0 => (obtain ⟨s0, s1, s2⟩ := hS'; go_simp)
    simp only [Act.put, List.setIfInBounds_toArray, List.set_cons_zero, List.set_cons_succ]
    refine wpAnyH_take_d (i := 1) (v := .int .i64 E) 20 rfl rfl (by kernel_rfl) (by kernel_rfl) (by kernel_rfl) (fun _ _ _ h => h) (Or.inl ⟨by kernel_rfl, fun w' hS' => ?y1⟩) hS ?_
    case y1 => (obtain ⟨s0, s1, s2⟩ := hS'; go_simp)
    simp only [Act.put, List.setIfInBounds_toArray, List.set_cons_zero, List.set_cons_succ]
    refine wpAnyH_take_d (i := 2) (v := .bool O) 21 rfl rfl (by kernel_rfl) (by kernel_rfl) (by kernel_rfl) (fun _ _ _ h => h) (Or.inl ⟨by kernel_rfl, fun w' hS' => ?y2⟩) hS ?_
    case y2 => (obtain ⟨s0, s1, s2⟩ := hS'; go_simp)
    simp only [Act.put, List.setIfInBounds_toArray, List.set_cons_zero, List.set_cons_succ]
    refine wpAnyH_ready (rs := [3]) (by kernel_rfl) (by simp) ?_
    refine AllReadyH.cons rfl (fun K hK => ?_) AllReadyH.nil
    go_simp
    refine hK.out _ _ hS1 (fun _ => ?_)
    clear hK K
    try simp only [Act.put, List.setIfInBounds_toArray, List.set_cons_zero, List.set_cons_succ]
    refine wpAnyH_ready (rs := [4]) (by kernel_rfl) (by simp) ?_
    refine AllReadyH.cons rfl (fun K hK => ?_) AllReadyH.nil
    go_simp
    refine hK.out _ _ hS2 (fun _ => ?_)
    clear hK K
    try simp only [Act.put, List.setIfInBounds_toArray, List.set_cons_zero, List.set_cons_succ]
    refine wpAnyH_ready (rs := [5]) (by kernel_rfl) (by simp) ?_
    refine AllReadyH.cons rfl (fun K hK => ?_) AllReadyH.nil
    go_simp
    refine hK.out _ _ hS3 (fun _ => ?_)
    clear hK K
    try simp only [Act.put, List.setIfInBounds_toArray, List.set_cons_zero, List.set_cons_succ]
    refine wpAnyH_done (by kernel_rfl) ?_ _
    refine hK0 _ _ ?_
    gi_wp2
    obtain ⟨m0, m1, m2⟩ := ML.out
    have ho : Off (· = D) _ _ := Off.putObj (X := (· = D)) (l := D) rfl (((W1.drew.setCell ⟨w.heap.size + 1, 0, none⟩ (.int .i64 F)).setCell ⟨w.heap.size + 1 + 1, 0, none⟩ (.int .i64 E)).setCell ⟨w.heap.size + 1 + 1 + 1, 0, none⟩ (.bool O)) (.deferred none)
    have n0 := ((Has.frames _ _).off m0 ho).cell (i := 0)
    have n1 := ((Has.frames _ _).off m1 ho).cell (i := 0)
    have n2 := ((Has.frames _ _).off m2 ho).cell (i := 0)
    have n3 := ((Low.frames _ _).off HLW.out ho).1
    simp only [List.getElem?_toArray, List.getElem?_cons_zero] at n0 n1 n2
    have n0 : ((((W1.setCell ⟨w.heap.size + 1, 0, none⟩ (.int .i64 F)).setCell ⟨w.heap.size + 1 + 1, 0, none⟩ (.int .i64 E)).setCell ⟨w.heap.size + 1 + 1 + 1, 0, none⟩ (.bool O)).drew.putObj D (.deferred none)).cell? ⟨w.heap.size + 1, 0, none⟩ = some (.int .i64 F) := n0
    have n1 : ((((W1.setCell ⟨w.heap.size + 1, 0, none⟩ (.int .i64 F)).setCell ⟨w.heap.size + 1 + 1, 0, none⟩ (.int .i64 E)).setCell ⟨w.heap.size + 1 + 1 + 1, 0, none⟩ (.bool O)).drew.putObj D (.deferred none)).cell? ⟨w.heap.size + 1 + 1, 0, none⟩ = some (.int .i64 E) := n1
    have n2 : ((((W1.setCell ⟨w.heap.size + 1, 0, none⟩ (.int .i64 F)).setCell ⟨w.heap.size + 1 + 1, 0, none⟩ (.int .i64 E)).setCell ⟨w.heap.size + 1 + 1 + 1, 0, none⟩ (.bool O)).drew.putObj D (.deferred none)).cell? ⟨w.heap.size + 1 + 1 + 1, 0, none⟩ = some (.bool O) := n2
    refine ⟨by simp, .inl ⟨_, _, rfl, run_takeDeferred HDD.out, ?_⟩⟩
    refine ⟨.tuple #[.int .i64 F, .int .i64 E, .bool O], by simp [results, Try.results32, go_sem, n0, n1, n2], ?_, n3⟩
    rw [HFEO.out.1, HFEO.out.2.1, HFEO.out.2.2]
  case stop =>
    rintro D c pre W1 hp h hD
    exact h.elim
set_option maxHeartbeats 800000 in
theorem span_any (T : Tr) (w : World) (hT : Tn (lo w.heap.size) w T) (hw : wt T ≤ 5000) :
    Calls Try.prog 9 #[nv T] w fun e w' => e = .returned (if rgt T = true then .tuple #[.int .i64 (spf (lf T)), .int .i64 (spt (lf T)), .bool (spo (lf T))] else .tuple #[.int .i64 0, .int .i64 0, .bool false]) ∧ Below w.heap.size w w' := by
  have HR := Lib.hid (right_any T (w.alloc (nbx T)) ((hT.below (below1 w _)).more (by simp)) hw)
  have HT := Lib.hid hT
  have HW := Lib.hid hw
  clear hT hw
  cases hr : rgt T with
  | false =>
    rw [hr] at HR
    clear hr
    go_enter Try.func9, Try.ntmps9
    go_wp2_with (go_at_call 11; refine HR.out.mono ?_; rintro e w1 ⟨rfl, hb1⟩)
    refine bodyPost_ret (v := .tuple #[.int .i64 0, .int .i64 0, .bool false]) (by simp [results, Try.results9, go_sem]) rfl ⟨by simp, (below1 w _).trans (hb1.mono (by simp))⟩
  | true =>
    rw [hr] at HR
    clear hr
    go_enter Try.func9, Try.ntmps9
    go_wp2_with (first | (go_at_call 11; refine HR.out.mono ?_; rintro e w1 ⟨rfl, hb1⟩; have hc1 := cell_new5 hb1; have hz : w.heap.size < w1.heap.size := (by have := hb1.size; simp at this; omega); have HS := Lib.hid (span1_any T w1 ((HT.out.below ((below1 w _).trans (hb1.mono (by simp)))).more (by omega)) HW.out)) | (go_at_call 32; refine HS.out.mono ?_; rintro e w2 ⟨rfl, hb2⟩))
    refine bodyPost_ret (v := .tuple #[.int .i64 (spf (lf T)), .int .i64 (spt (lf T)), .bool (spo (lf T))]) (by simp [results, Try.results9, go_sem]) rfl ⟨by simp, ((below1 w _).trans (hb1.mono (by simp))).trans (hb2.mono (by omega))⟩

end Go.Proofs.Ytjnclchbklehgaa
