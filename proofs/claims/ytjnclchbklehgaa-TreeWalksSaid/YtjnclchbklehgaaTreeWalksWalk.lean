/- The law TreeWalks, walked. -/
import Derived.Test.YtjnclchbklehgaaTreeWalksRow
import Derived.Test.YtjnclchbklehgaaTreeColl
import Derived.Test.YtjnclchbklehgaaTreeIs
import Derived.Test.YtjnclchbklehgaaTreeAlive
import Derived.Test.YtjnclchbklehgaaTreeBK
import Derived.Test.YtjnclchbklehgaaTextStore
namespace Go.Proofs.Ytjnclchbklehgaa
open Go.RowKit Go.Shelf TreeMath

attribute [local go_sem] Oper.semAt_some

set_option maxRecDepth 100000 in
set_option maxHeartbeats 2000000 in
/-- a tree that the law says nothing of -/
theorem walks_early (T : Tr) (a s : Int) (w : World) (hz : Szd T) (hT : Tn (lo w.heap.size) w T) (hn : 2000 < wt T) :
    CallsIn Fence.wide 8 Try.prog 4 #[nv T, .int .i64 a, .int .i64 s] w fun e w' => e = .returned (.bool true) ∧ Below w.heap.size w w' := by
  have hk0 : BK w [(w.heap.size + 1 + 1, .cells #[.bool false] 4 (0, 0)), (w.heap.size + 1, ibx s), (w.heap.size, nbx T)] [T] 29 [] (((w.alloc (nbx T)).alloc (ibx s)).alloc (.cells #[.bool false] 4)) := by
    have h := ((((BK.begin (t := 29) w).more hT rfl).alloc (nbx T)).alloc (ibx s)).alloc (.cells #[.bool false] 4 (0, 0))
    simpa only [World.size_alloc] using h
  have HZ := Lib.hid hz
  have HN := Lib.hid hn
  clear hz hn hT
  refine callsIn_of_wp_marks Try.func4 rfl trivial ?_ rfl
  simp only [Try.ntmps4, List.size_toArray, List.length_cons, List.length_nil, Nat.reduceAdd, Nat.reduceSub, Array.replicate_succ, Array.replicate_zero, List.push_toArray, List.append_toArray, List.nil_append, List.cons_append]
  refine wpIn_wide.2 ?_
  go_wp2_with fail
  refine (alive_any _).mono ?_
  rintro e w1 ⟨rfl, hb⟩
  have hk1 := hk0.step hb
  clear hb hk0
  have HD := Lib.hid (doc_any T 2000 w1 (by omega) (by omega) HZ.out (hk1.tree (T := T) (by simp)))
  have c1 := heap5 (hk1.has (w.heap.size, nbx T) (by simp))
  go_wp2_with fail
  refine HD.out.mono ?_
  rintro r w2 ⟨U, l, rfl, hb2, hU, l1, l2, l3, l4⟩
  have hk2 := (hk1.step hb2).alloc (rbx U)
  have hl : l < 0 := by have := l4 (by have := HN.out; omega); omega
  have r2 := hk2.has (w.heap.size + 1 + 1, .cells #[.bool false] 4 (0, 0)) (by simp)
  have q2 := cell_heap r2 (i := 0)
  have f2 := frozen_heap r2 (i := 0)
  have HK3 := Lib.hid hk2.low
  have r3 := cell_heap (heap_set r2 (i := 0) (.bool true)) (i := 0)
  simp only [List.setIfInBounds_toArray, List.set_cons_zero, List.getElem?_toArray, List.getElem?_cons_zero] at r3 q2
  clear hb2 hU l1 l2 l3 l4 HD c1 hk1 hk2 r2
  go_wp2
  exact ⟨.bool true, by simp [results, Try.results4, go_sem, r3], rfl, HK3.out.setCell (p := ⟨w.heap.size + 1 + 1, 0, none⟩) (by simp; omega) _⟩

set_option maxRecDepth 100000 in
set_option maxHeartbeats 4000000 in
theorem walks_in (T : Tr) (a s : Int) (w : World) (ha : rng a) (hs : rng s) (hz : Szd T) (hT : Tn (lo w.heap.size) w T) (hw : wt T ≤ 2000) :
    CallsIn Fence.wide 8 Try.prog 4 #[nv T, .int .i64 a, .int .i64 s] w fun e w' => e = .returned (.bool true) ∧ Below w.heap.size w w' := by
  have hk0 : BK w [(w.heap.size + 1 + 1, .cells #[.bool false] 4 (0, 0)), (w.heap.size + 1, ibx s), (w.heap.size, nbx T)] [T] 29 [] (((w.alloc (nbx T)).alloc (ibx s)).alloc (.cells #[.bool false] 4)) := by
    have h := ((((BK.begin (t := 29) w).more hT rfl).alloc (nbx T)).alloc (ibx s)).alloc (.cells #[.bool false] 4 (0, 0))
    simpa only [World.size_alloc] using h
  have HZ := Lib.hid hz
  have HW := Lib.hid hw
  have HA := Lib.hid ha
  have HS := Lib.hid hs
  have HT := Lib.hid hT
  clear hz hT hw ha hs
  refine callsIn_of_wp_marks Try.func4 rfl trivial ?_ rfl
  simp only [Try.ntmps4, List.size_toArray, List.length_cons, List.length_nil, Nat.reduceAdd, Nat.reduceSub, Array.replicate_succ, Array.replicate_zero, List.push_toArray, List.append_toArray, List.nil_append, List.cons_append]
  refine wpIn_wide.2 ?_
  go_wp2_with fail
  refine (alive_any _).mono ?_
  rintro e w1 ⟨rfl, hb⟩
  have hk1 := hk0.step hb
  clear hb hk0
  have HD := Lib.hid (doc_any T 2000 w1 (by omega) (by omega) HZ.out (hk1.tree (T := T) (by simp)))
  have c1 := heap5 (hk1.has (w.heap.size, nbx T) (by simp))
  go_wp2_with fail
  refine HD.out.mono ?_
  rintro r w2 ⟨U, l, rfl, hb2, hU, l1, l2, l3, l4⟩
  have hk2 := ((hk1.call hb2 hU).alloc (rbx U)).alloc (.cells #[.slice none 0 0] 42 (0, 0))
  have hl : ¬ l < 0 := by have := (l3 (by have := HW.out; omega)).1; have := HW.out; omega
  have hpl : pl U = pl T := (l3 (by have := HW.out; omega)).2
  have HU : Hid (Tn (nw w1.heap.size w2) w2 U) := Lib.hid hU
  have HL1 : Hid (w.heap.size + 2 < w1.heap.size) := Lib.hid (hk1.lt (b := w.heap.size + 1 + 1) (o := .cells #[.bool false] 4 (0, 0)) (by simp))
  have HL2 : Hid (w1.heap.size ≤ w2.heap.size) := Lib.hid hb2.size
  simp only [World.size_alloc] at hk2
  have hz2 : Below w2.heap.size w2 ((w2.alloc (rbx U)).alloc (.cells #[.slice none 0 0] 42 (0, 0))) := below2 w2 _ _
  clear hb2 hU l3 l4 l1 l2 HD c1 hk1
  have hsm := same_of hpl
  have hwU : wt U ≤ 2000 := by rw [hsm.2.2.1]; exact HW.out
  have HPL := Lib.hid hpl
  have HWU := Lib.hid hwU
  have HR := Lib.hid (rright_any U _ (hk2.tree (T := U) (by simp)) (by omega : wt U ≤ 5000))
  have c2 := heap5 (hk2.has (w2.heap.size, rbx U) (by simp))
  clear hpl hsm hwU
  go_wp2_with fail
  refine HR.out.mono ?_
  rintro r w3 ⟨rfl, hb3⟩
  have hk3 := hk2.step hb3
  have hz3 := hz2.trans (hb3.mono (by simp; omega))
  clear hb3 c2 HR hk2 hz2
  rename_i K2 hK2 K1 hK1 K hK
  refine k_act fun t ht => ?_
  have REST : Hid (∀ (v34 v35 v36 v37 v38 : Value) (A Ap : Option Addr) (c cp : Nat) (V : World), BK w [(w2.heap.size + 1, wbx0 A (wl U).length c), (w2.heap.size, rbx U), (w.heap.size + 1 + 1, .cells #[.bool false] 4 (0, 0)), (w.heap.size + 1, ibx s), (w.heap.size, nbx T)] [U, T] 29 [] V →
      Below w2.heap.size w2 V → Its (fun b => w2.heap.size + 1 < b ∧ b < V.heap.size) V A (wl U) → Pts (fun b => w2.heap.size + 1 < b ∧ b < V.heap.size) V Ap (pl1 a U) →
      K2 { tmps := (((((((t.setIfInBounds 34 v34).setIfInBounds 35 v35).setIfInBounds 36 v36).setIfInBounds 37 v37).setIfInBounds 38 v38).setIfInBounds 10 (.slice Ap (pl1 a U).length cp))), defers := [] } V) := by
    clear hk3 hz3 hK K hK1 K1
    refine Lib.hid fun v34 v35 v36 v37 v38 A Ap c cp V hk0 hz0 hits0 hpts0 => ?_
    subst ht
    simp only [List.setIfInBounds_toArray, List.set_cons_zero, List.set_cons_succ]
    refine hK2 _ _ ?_
    have q9 := cell_heap (hk0.has (w2.heap.size + 1, wbx0 A (wl U).length c) (by simp)) (i := 0)
    simp only [List.getElem?_toArray, List.getElem?_cons_zero] at q9
    have HK0 := Lib.hid hk0
    have HZ0 := Lib.hid hz0
    have HI0 := Lib.hid hits0
    have HP0 := Lib.hid hpts0
    clear hK2 hk0 hz0 hits0 hpts0
    go_wp2
    go_loopw [41] (fun i wr => ∃ j : Nat, i = .int .i64 j ∧ j ≤ (wl U).length ∧ Hid (Below V.heap.size V wr)) (fun i _ => (wl U).length + 1 - (intOf i).toNat)
    case atStart => exact ⟨0, rfl, Nat.zero_le _, Lib.hid (Below.refl _ _)⟩
    case round =>
      clear q9
      obtain ⟨j, rfl, hj, HBr⟩ := hrel
      have hlen : (wl U).length ≤ 5000 := by have := HWU.out; unfold wl; split; (rw [wk_length]; have := cn_wt U; unfold cn at this; omega); simp
      by_cases hlt : j < (wl U).length
      · obtain ⟨p, hp⟩ : ∃ p, (wl U)[j]? = some p := ⟨_, List.getElem?_eq_getElem hlt⟩
        obtain ⟨b, rfl, hb, h0, h1, h2, h3, h4, h5⟩ := HI0.out.at_ hp
        have hbk := HBr.out.block b hb.2
        have c0 := (cell_of (i := j * 6) hbk).trans h0
        have c1 := (cell_of (i := j * 6 + 1) hbk).trans h1
        have c2 := (cell_of (i := j * 6 + 2) hbk).trans h2
        have c3 := (cell_of (i := j * 6 + 3) hbk).trans h3
        have c4 := (cell_of (i := j * 6 + 4) hbk).trans h4
        have c5 := (cell_of (i := j * 6 + 5) hbk).trans h5
        have z1 : (0 : Int) ≤ j := by omega
        have z2 : (j : Int) < (wl U).length := by omega
        clear h0 h1 h2 h3 h4 h5 hbk hb hp
        by_cases hbig : 1099511627776 < p.2.a
        · have r2 := (HK0.out.step HBr.out).alloc (ibx6 p)
          have r2' := r2.has (w.heap.size + 1 + 1, .cells #[.bool false] 4 (0, 0)) (by simp)
          have q2 := cell_heap r2' (i := 0)
          have f2 := frozen_heap r2' (i := 0)
          have HL := Lib.hid r2.low
          have r3 := cell_heap (heap_set r2' (i := 0) (.bool true)) (i := 0)
          simp only [List.setIfInBounds_toArray, List.set_cons_zero, List.getElem?_toArray, List.getElem?_cons_zero] at r3 q2
          clear r2 r2'
          go_wp2
          exact ⟨.bool true, by simp [results, Try.results4, go_sem, r3], rfl, HL.out.setCell (p := ⟨w.heap.size + 1 + 1, 0, none⟩) (by simp; omega) _⟩
        · have HB2 := Lib.hid (HBr.out.trans ((below1 wr (ibx6 p)).mono HBr.out.size))
          go_wp2
          go_roundw
          case rel => exact ⟨j + 1, by go_num, by omega, HB2⟩
          case measure => simp [intOf]; omega
      · obtain rfl : j = (wl U).length := by omega
        have hk1 := HK0.out.step HBr.out
        have c5 := cell_heap (hk1.has (w.heap.size + 1, ibx s) (by simp)) (i := 0)
        have f5 := frozen_heap (hk1.has (w.heap.size + 1, ibx s) (by simp)) (i := 0)
        simp only [List.getElem?_toArray, List.getElem?_cons_zero] at c5
        obtain ⟨sv, hs1, hs60, hsv⟩ := u60 s
        have hkA := hk1.sub (bs' := [(w.heap.size + 1, ibx s), (w2.heap.size + 1, wbx0 A (wl U).length c), (w.heap.size + 1 + 1, .cells #[.bool false] 4 (0, 0)), (w.heap.size, nbx T)]) (ts' := [U, T]) (by simp) (by simp)
        have hL1 := HL1.out
        have hL2 := HL2.out
        have hzr := HZ0.out.trans (HBr.out.mono HZ0.out.size)
        have hszr := hzr.size
        have hkB := hkA.put (u' := .int .i64 (wrap64 (1 + wrap64 ((IntKind.u64.wrap s).tmod 60)))) (by intro q hq; simp at hq; rcases hq with rfl | rfl | rfl <;> simp <;> omega) (by omega) (by
          intro X hX
          simp at hX
          rcases hX with rfl | rfl
          · exact Tn.keep (fun b i hb => cell_of (hzr.block b hb.2)) (fun b hb => ⟨by have := hb.2; omega, by have := hb.1; omega⟩) HU.out
          · exact Tn.keep (fun b i hb => cell_of (hk1.low.block b hb)) (fun b hb => ⟨by have : b < w.heap.size := hb; omega, by have : b < w.heap.size := hb; omega⟩) HT.out)
        have hitsV : Its (lo (wr.setCell ⟨w.heap.size + 1, 0, none⟩ (.int .i64 (wrap64 (1 + wrap64 ((IntKind.u64.wrap s).tmod 60))))).heap.size) (wr.setCell ⟨w.heap.size + 1, 0, none⟩ (.int .i64 (wrap64 (1 + wrap64 ((IntKind.u64.wrap s).tmod 60))))) A (wl U) :=
          HI0.out.keep (fun b i hb => (cell_of (Below.heap_setCell _ _ _ _ (by have := hb.1; simp; omega))).trans (cell_of (HBr.out.block b hb.2))) fun b hb => by rw [size_set]; exact Nat.lt_of_lt_of_le hb.2 HBr.out.size
        have hptsV : Pts (lo (wr.setCell ⟨w.heap.size + 1, 0, none⟩ (.int .i64 (wrap64 (1 + wrap64 ((IntKind.u64.wrap s).tmod 60))))).heap.size) (wr.setCell ⟨w.heap.size + 1, 0, none⟩ (.int .i64 (wrap64 (1 + wrap64 ((IntKind.u64.wrap s).tmod 60))))) Ap (pl1 a U) :=
          HP0.out.keep (fun b i hb => (cell_of (Below.heap_setCell _ _ _ _ (by have := hb.1; simp; omega))).trans (cell_of (HBr.out.block b hb.2))) fun b hb => by rw [size_set]; exact Nat.lt_of_lt_of_le hb.2 HBr.out.size
        have t5 := heap5 ((hkB.alloc (ibx 0)).has (w.heap.size, nbx T) (by simp))
        have hws : w.heap.size + 2 < wr.heap.size := by omega
        have HHW := Lib.hid hws
        have HKB := Lib.hid hkB
        have HIV := Lib.hid hitsV
        have HPV := Lib.hid hptsV
        have HSV := Lib.hid (And.intro hs1 (And.intro hs60 hsv))
        have HLEN := Lib.hid hlen
        clear hk1 hkA hzr hszr hkB hitsV hptsV hs1 hs60 hsv hws HK0 HZ0 HI0 HP0 HBr hlen hlt hj hL1 hL2
        go_wp2_with fail
        rw [HSV.out.2.2] at HKB HIV HPV ⊢
        have hszV := size_set wr ⟨w.heap.size + 1, 0, none⟩ (.int .i64 (sv : Nat))
        generalize wr.setCell ⟨w.heap.size + 1, 0, none⟩ (.int .i64 (sv : Nat)) = V1 at HKB HIV HPV t5 hszV ⊢
        have HHW1 : Hid (w.heap.size + 2 < V1.heap.size) := Lib.hid (by rw [hszV]; exact HHW.out)
        rw [← hszV]
        clear hszV
        have hwT : wt T ≤ 5000 := by have := HW.out; omega
        refine (walkAll_any T _ hwT ((HKB.out.alloc (ibx 0)).tree (T := T) (by simp))).mono ?_
        rintro r W0 hans
        obtain ⟨g, lb, C, rfl, hbW, eg, hCf, hCs, hC0, hit⟩ := walk_ans hans hwT
        rw [World.size_alloc] at hbW hCs
        have HCS := Lib.hid hCs
        have HCF := Lib.hid hCf
        have HIT := Lib.hid hit
        have hn0 : W0.heap[V1.heap.size]? = some (ibx 0) := (hbW.block _ (by omega)).trans (heap_alloc_new V1 _)
        have hlw0 : Below V1.heap.size V1 W0 := (below1 V1 _).trans (hbW.mono (by omega))
        clear hans hCf hCs hit t5 hwT
        go_wp2_with fail
        refine (wpIn_wide (n := 8)).1 ?_
        refine range_postG HIT.out (fun p X W l h hl => TnX.add h hl) (fun p => TnX.frames _) rfl eg (fun _ => rfl)
          (fun (t : Array Value) (x : Nat × Tr) (bp : Nat) => { tmps := (((t.setIfInBounds 57 (.int .i64 (x.1 : Nat))).setIfInBounds 58 (nv x.2)).setIfInBounds 14 (.int .i64 (x.1 : Nat))).setIfInBounds 15 (.pointer (some ⟨bp, 0, none⟩)), defers := [] })
          (fun pre X W => Low V1.heap.size V1 X W ∧ Has V1.heap.size (ibx (pre.length : Nat)) X W ∧ C X W ∧ pre.length < sv)
          (fun cc pre X W => cc = .exit 2 ∧ Low V1.heap.size V1 X W ∧ Has V1.heap.size (ibx (sv : Nat)) X W ∧ sv ≤ (wl U).length)
          (fun pre x bp X W => Low V1.heap.size V1 X W ∧ Has V1.heap.size (ibx (pre.length : Nat)) X W ∧ C X W ∧ Has bp (nbx x.2) X W ∧ TnX x.2 X W ∧ bp ≠ V1.heap.size ∧ pre.length < sv) ?fI ?fX ?fB ?hC ?h0 2 ?hQ
          (fun D W => ∃ kk : Nat, kk = min sv (wl U).length ∧ Low V1.heap.size V1 (· = D) W ∧ Has V1.heap.size (ibx (kk : Nat)) (· = D) W ∧ W.heap[D]? = some (.deferred (some []))) ?done ?stop ?assign ?body ?tail
        case fI => exact fun pre => (Low.frames _ _).and ((Has.frames _ _).and (HCF.out.and (Frames.pure _)))
        case fX => exact fun cc pre => (Frames.pure _).and ((Low.frames _ _).and ((Has.frames _ _).and (Frames.pure _)))
        case fB => exact fun pre x bp => (Low.frames _ _).and ((Has.frames _ _).and (HCF.out.and ((Has.frames _ _).and ((TnX.frames _).and ((Frames.pure _).and (Frames.pure _))))))
        case hC => exact fun pre X W h => h.2.2.1
        case h0 => exact ⟨⟨hlw0, by have := hbW.size; rw [World.size_alloc] at this; omega, fun _ h => h.elim⟩, ⟨fun h => h, hn0⟩, hC0, HSV.out.1⟩
        case hQ => exact fun a w h => h
        case done =>
          rintro D xs W1 hxs ⟨h1, h2, -, h4⟩ hD
          have he : xs.length = (wl U).length := by
            have := congrArg List.length (hxs.trans (wl_same HPL.out.symm))
            simpa using this
          exact ⟨xs.length, by omega, h1, h2, hD⟩
        case stop =>
          rintro D cc pre W1 ⟨rfl, h1, h2, h3⟩ hD
          exact ⟨rfl, sv, by omega, h1, h2, hD⟩
        case assign =>
          rintro lq X pre x W1 K hX hXb ⟨h1, h2, h3, h4⟩ hE hp hK
          have hb1 := hK W1.heap.size (W1.alloc (nbx x.2)) (by simp) (Kept.alloc _ _ _) ⟨(Low.frames _ _).off h1 (Off.alloc _ _ _), (Has.frames _ _).off h2 (Off.alloc _ _ _), HCF.out.off h3 (Off.alloc _ _ _), Has.new hXb _, (TnX.frames _).off hE (Off.alloc _ _ _), by have := h1.2.1; have := h2.lt; omega, h4⟩
          clear hK
          gi_wp2
          simpa only [List.setIfInBounds_toArray, List.set_cons_zero, List.set_cons_succ] using hb1
        case tail =>
          clear hn0 hlw0 hC0 hbW HIT HCS HCF eg
          rintro D1 V2 ⟨kk, hkk, hlowA, hkA, hD1⟩
          have hq9 := cell_heap ((hlowA.1.block _ (HKB.out.lt (b := w2.heap.size + 1) (o := wbx0 A (wl U).length c) (by simp))).trans (HKB.out.has (w2.heap.size + 1, wbx0 A (wl U).length c) (by simp))) (i := 0)
          simp only [List.getElem?_toArray, List.getElem?_cons_zero] at hq9
          have HLA := Lib.hid hlowA
          have HKK := Lib.hid (And.intro hkk hkA)
          have HD1 := Lib.hid hD1
          clear hkk hlowA hkA hD1
          have hq9' : ((V2.alloc (.cells #[] 29)).alloc (lbx0 (.slice (some ⟨V2.heap.size, 0, none⟩) 0 0))).cell? ⟨w2.heap.size + 1, 0, none⟩ = some (.slice A (wl U).length c) := (cell_of ((below2 V2 (.cells #[] 29) (lbx0 (.slice (some ⟨V2.heap.size, 0, none⟩) 0 0))).block _ (by have := HLA.out.2.1; have := HKB.out.lt (b := w2.heap.size + 1) (o := wbx0 A (wl U).length c) (by simp); omega))).trans hq9
          have HLI := Lib.hid (Lw.init V2)
          clear hq9
          go_wp2
          go_loopw [90] (fun i wr => ∃ j : Nat, i = .int .i64 j ∧ j ≤ (wl U).length ∧ ∃ v : Value, Hid (Lw V2 v (lvw ((wl U).take j)) wr)) (fun i _ => (wl U).length + 1 - (intOf i).toNat)
          case atStart => exact ⟨0, rfl, Nat.zero_le _, _, HLI⟩
          case round =>
            clear hq9' HLI
            obtain ⟨j, rfl, hj, v, HLr⟩ := hrel
            have hlen := HLEN.out
            by_cases hlt : j < (wl U).length
            · obtain ⟨p, hp⟩ : ∃ p, (wl U)[j]? = some p := ⟨_, List.getElem?_eq_getElem hlt⟩
              obtain ⟨b, rfl, hb, h0, h1, h2, h3, h4, h5⟩ := HIV.out.at_ hp
              have hbk := (HLr.out.2.1.block b (Nat.lt_of_lt_of_le hb HLA.out.2.1)).trans (HLA.out.1.block b hb)
              have c0 := (cell_of (i := j * 6) hbk).trans h0
              have c1 := (cell_of (i := j * 6 + 1) hbk).trans h1
              have c2 := (cell_of (i := j * 6 + 2) hbk).trans h2
              have c3 := (cell_of (i := j * 6 + 3) hbk).trans h3
              have c4 := (cell_of (i := j * 6 + 4) hbk).trans h4
              have c5 := (cell_of (i := j * 6 + 5) hbk).trans h5
              have z1 : (0 : Int) ≤ j := by omega
              have z2 : (j : Int) < (wl U).length := by omega
              have hlv := lvw_take hp
              clear h0 h1 h2 h3 h4 h5 hbk hb hp
              by_cases hk : p.2.k = 1
              · rw [if_pos hk] at hlv
                have hml := lvw_len ((wl U).take j)
                rw [List.length_take] at hml
                have HLs := HLr.out.start p
                have hbx : ibx6 p = ibx7 p := by simp only [ibx6, ibx7, hk]
                rw [hbx] at HLs
                generalize lvw ((wl U).take j) = m at HLr HLs hlv hml
                obtain ⟨A0, c0x, rfl⟩ := own_slice HLs.row
                have hs1 := HLs.step (W' := (wr.alloc (ibx7 p)).drew) ⟨rfl, rfl, rfl, Nat.le_refl _, fun _ _ => rfl⟩
                clear hbx
                have HLV := Lib.hid hlv
                clear HLr HLs hlv
                go_wp2
                rename_i KR hKR
                refine wp_region_noPanic (wp_region_held (S := fun W' : World => W'.heap[wr.heap.size]? = some (ibx6 p)) (by kernel_rfl) ?_)
                show wpAnyH _ _ _ _ _ _ _ _ (wr.alloc (ibx7 p)).drew
                generalize (wr.alloc (ibx7 p)).drew = v0 at hs1 ⊢
                clear c0 c1 c2 c3 c4 c5 z1 z2
                refine wpAnyH_take_d (i := 1) (v := .pointer (some ⟨wr.heap.size, 1, none⟩)) 99 rfl rfl (by kernel_rfl) (by kernel_rfl) (by kernel_rfl) (fun _ _ _ h => h) (Or.inl ⟨by kernel_rfl, fun w' hS' => ?y1⟩) (hs1.hb) ?_
                case y1 => (go_simp)
                simp only [Act.put, List.setIfInBounds_toArray, List.set_cons_zero, List.set_cons_succ]
                refine wpAnyH_take_d (i := 2) (v := nv p.2) 100 rfl rfl (by kernel_rfl) (by kernel_rfl) (by kernel_rfl) (fun _ _ _ h => h) (Or.inl ⟨by kernel_rfl, fun w' hS' => ?y2⟩) (hs1.hb) ?_
                case y2 => (have s0 := cells6 hS'; go_simp)
                simp only [Act.put, List.setIfInBounds_toArray, List.set_cons_zero, List.set_cons_succ]
                refine wpAnyH_ready (rs := [0, 4]) (by kernel_rfl) (by simp) ?_
                refine AllReadyH.cons rfl (fun K hK => ?_) (AllReadyH.cons rfl (fun K hK => ?_) AllReadyH.nil)
                · have cy := cell_heap hs1.hy (i := 0)
                  simp only [List.getElem?_toArray, List.getElem?_cons_zero] at cy
                  go_simp
                  clear cy
                  refine hK.out _ _ hs1.hb (fun _ => ?_)
                  clear hK K
                  try simp only [Act.put, List.setIfInBounds_toArray, List.set_cons_zero, List.set_cons_succ]
                  refine wpAnyH_take_d (i := 3) (v := .int .i64 (m.length : Nat)) 101 rfl rfl (by kernel_rfl) (by kernel_rfl) (by kernel_rfl) (fun _ _ _ h => h) (Or.inl ⟨by kernel_rfl, fun w' hS' => ?y3⟩) (hs1.hb) ?_
                  case y3 => (go_simp)
                  simp only [Act.put, List.setIfInBounds_toArray, List.set_cons_zero, List.set_cons_succ]
                  refine wpAnyH_ready (rs := [4]) (by kernel_rfl) (by simp) ?_
                  refine AllReadyH.cons rfl (fun K hK => ?_) AllReadyH.nil
                  go_simp
                  have hs2 := hs1.step (below1 v0 (.cells #[.int .i64 0, .string ⟨#[]⟩, .string ⟨#[]⟩, .int .i64 0, .slice none 0 0] 29))
                  refine hK.out _ _ hs2.hb (fun _ => ?_)
                  clear hK K
                  try simp only [Act.put, List.setIfInBounds_toArray, List.set_cons_zero, List.set_cons_succ]
                  refine wpAnyH_ready (rs := [5]) (by kernel_rfl) (by simp) ?_
                  refine AllReadyH.cons rfl (fun K hK => ?_) AllReadyH.nil
                  refine step_append_row (by rfl) _ _ 27 29 (by rfl) Try.underlying27 info_rnode _ V2.heap.size (.slice A0 m.length c0x) m.length (ncells m) v0.heap.size (by rfl) (by rfl) (ncs zn0) (World.alloc_heap_new v0 _) rfl (by intro u hu; simp [ncs, zn0] at hu; rcases hu with rfl | rfl | rfl | rfl | rfl <;> rfl) hs2.row (by omega) hs2.sz ?_
                  intro v' w3 hown hg hat
                  have hs3 := hs2.append hown hg
                  clear hown hg hat
                  obtain ⟨g, c', cur, rfl, hgc, hsz, hst⟩ := hs3.last rfl
                  have z1 : (0 : Int) ≤ (m.length : Nat) := by omega
                  have z2 : ((m.length : Nat) : Int) < ((m.length + 1 : Nat) : Int) := by omega
                  refine hK.out _ _ hs3.hb (fun _ => ?_)
                  clear hK K
                  try simp only [Act.put, List.setIfInBounds_toArray]
                  refine wpAnyH_take_d (i := 6) (v := .pointer (some ⟨g, m.length * 5, none⟩)) 104 rfl rfl (by kernel_rfl) (by kernel_rfl) (by kernel_rfl) (fun _ _ _ h => h) (Or.inl ⟨by kernel_rfl, fun w' hS' => ?y6⟩) (hs3.hb) ?_
                  case y6 => (go_simp; intro h; omega)
                  simp only [Act.put]
                  refine wpAnyH_ready (rs := [7, 8]) (by kernel_rfl) (by simp) ?_
                  refine AllReadyH.cons rfl (fun K hK => ?_) (AllReadyH.cons rfl (fun K hK => ?_) AllReadyH.nil)
                  · refine step_store_at (by rfl) 29 (.tmp 104) (.tmp 100) (by rfl) size_rnode g (m.length * 5) p.2 (by rfl) (by rfl) hgc hsz ?_
                    have hs4 := hst p.2
                    generalize set5o w3 g (m.length * 5) p.2 = w4 at hs4 ⊢
                    refine hK.out _ _ hs4.hb (fun _ => ?_)
                    clear hK K
                    try simp only [Act.put]
                    refine wpAnyH_ready (rs := [8]) (by kernel_rfl) (by simp) ?_
                    refine AllReadyH.cons rfl (fun K hK => ?_) AllReadyH.nil
                    have cy := cell_heap hs4.hy (i := 0)
                    simp only [List.getElem?_toArray, List.getElem?_cons_zero] at cy
                    have fy := frozen_heap hs4.hy (i := 0)
                    go_simp
                    have hs5 := hs4.sety (.slice (some ⟨g, 0, none⟩) (m.length + 1) c')
                    generalize w4.setCell ⟨V2.heap.size + 1, 0, none⟩ (.slice (some ⟨g, 0, none⟩) (m.length + 1) c') = w5 at hs5 ⊢
                    clear cy fy
                    refine hK.out _ _ hs5.hb (fun _ => ?_)
                    clear hK K
                    try simp only [Act.put, List.setIfInBounds_toArray, List.set_cons_zero, List.set_cons_succ]
                    refine wpAnyH_done (by kernel_rfl) ?_ _
                    have hlw : Lw V2 (.slice (some ⟨g, 0, none⟩) (m.length + 1) c') (lvw ((wl U).take (j + 1))) w5 := Lw.of hs5 (by rw [HLV.out]; simp) (by rw [HLV.out])
                    have HLW := Lib.hid hlw
                    clear hs1 hs2 hs3 hs4 hs5 hlw
                    refine hKR _ _ ?_
                    go_wp2
                    go_roundw
                    case rel => exact ⟨j + 1, by go_num, by omega, _, HLW⟩
                    case measure => simp [intOf]; omega
                  · have cy := cell_heap hs3.hy (i := 0)
                    simp only [List.getElem?_toArray, List.getElem?_cons_zero] at cy
                    have fy := frozen_heap hs3.hy (i := 0)
                    go_simp
                    clear cy fy
                    have hs4 := hs3.sety (.slice (some ⟨g, 0, none⟩) (m.length + 1) c')
                    generalize w3.setCell ⟨V2.heap.size + 1, 0, none⟩ (.slice (some ⟨g, 0, none⟩) (m.length + 1) c') = w4 at hs4 ⊢
                    obtain ⟨g', c'', cur', hv', hgc', hsz', hst'⟩ := hs4.last rfl
                    obtain ⟨rfl, rfl⟩ : g' = g ∧ c'' = c' := by injection hv' with h1 h2 h3; injection h1 with h1; injection h1 with h1; exact ⟨h1.symm, h3.symm⟩
                    refine hK.out _ _ hs4.hb (fun _ => ?_)
                    clear hK K
                    try simp only [Act.put, List.setIfInBounds_toArray, List.set_cons_zero, List.set_cons_succ]
                    refine wpAnyH_ready (rs := [7]) (by kernel_rfl) (by simp) ?_
                    refine AllReadyH.cons rfl (fun K hK => ?_) AllReadyH.nil
                    refine step_store_at (by rfl) 29 (.tmp 104) (.tmp 100) (by rfl) size_rnode g' (m.length * 5) p.2 (by rfl) (by rfl) hgc' hsz' ?_
                    have hs5 := hst' p.2
                    generalize set5o w4 g' (m.length * 5) p.2 = w5 at hs5 ⊢
                    refine hK.out _ _ hs5.hb (fun _ => ?_)
                    clear hK K
                    try simp only [Act.put, List.setIfInBounds_toArray]
                    refine wpAnyH_done (by kernel_rfl) ?_ _
                    have hlw : Lw V2 (.slice (some ⟨g', 0, none⟩) (m.length + 1) c'') (lvw ((wl U).take (j + 1))) w5 := Lw.of hs5 (by rw [HLV.out]; simp) (by rw [HLV.out])
                    have HLW := Lib.hid hlw
                    clear hs1 hs2 hs3 hs4 hs5 hlw
                    refine hKR _ _ ?_
                    go_wp2
                    go_roundw
                    case rel => exact ⟨j + 1, by go_num, by omega, _, HLW⟩
                    case measure => simp [intOf]; omega
                · go_simp
                  have hs2 := hs1.step (below1 v0 (.cells #[.int .i64 0, .string ⟨#[]⟩, .string ⟨#[]⟩, .int .i64 0, .slice none 0 0] 29))
                  refine hK.out _ _ hs2.hb (fun _ => ?_)
                  clear hK K
                  try simp only [Act.put, List.setIfInBounds_toArray, List.set_cons_zero, List.set_cons_succ]
                  refine wpAnyH_ready (rs := [0]) (by kernel_rfl) (by simp) ?_
                  refine AllReadyH.cons rfl (fun K hK => ?_) AllReadyH.nil
                  have cy := cell_heap hs2.hy (i := 0)
                  simp only [List.getElem?_toArray, List.getElem?_cons_zero] at cy
                  go_simp
                  clear cy
                  refine hK.out _ _ hs2.hb (fun _ => ?_)
                  clear hK K
                  try simp only [Act.put, List.setIfInBounds_toArray, List.set_cons_zero, List.set_cons_succ]
                  refine wpAnyH_take_d (i := 3) (v := .int .i64 (m.length : Nat)) 101 rfl rfl (by kernel_rfl) (by kernel_rfl) (by kernel_rfl) (fun _ _ _ h => h) (Or.inl ⟨by kernel_rfl, fun w' hS' => ?y3⟩) (hs2.hb) ?_
                  case y3 => (go_simp)
                  simp only [Act.put, List.setIfInBounds_toArray, List.set_cons_zero, List.set_cons_succ]
                  refine wpAnyH_ready (rs := [5]) (by kernel_rfl) (by simp) ?_
                  refine AllReadyH.cons rfl (fun K hK => ?_) AllReadyH.nil
                  refine step_append_row (by rfl) _ _ 27 29 (by rfl) Try.underlying27 info_rnode _ V2.heap.size (.slice A0 m.length c0x) m.length (ncells m) v0.heap.size (by rfl) (by rfl) (ncs zn0) (World.alloc_heap_new v0 _) rfl (by intro u hu; simp [ncs, zn0] at hu; rcases hu with rfl | rfl | rfl | rfl | rfl <;> rfl) hs2.row (by omega) hs2.sz ?_
                  intro v' w3 hown hg hat
                  have hs3 := hs2.append hown hg
                  clear hown hg hat
                  obtain ⟨g, c', cur, rfl, hgc, hsz, hst⟩ := hs3.last rfl
                  have z1 : (0 : Int) ≤ (m.length : Nat) := by omega
                  have z2 : ((m.length : Nat) : Int) < ((m.length + 1 : Nat) : Int) := by omega
                  refine hK.out _ _ hs3.hb (fun _ => ?_)
                  clear hK K
                  try simp only [Act.put, List.setIfInBounds_toArray]
                  refine wpAnyH_take_d (i := 6) (v := .pointer (some ⟨g, m.length * 5, none⟩)) 104 rfl rfl (by kernel_rfl) (by kernel_rfl) (by kernel_rfl) (fun _ _ _ h => h) (Or.inl ⟨by kernel_rfl, fun w' hS' => ?y6⟩) (hs3.hb) ?_
                  case y6 => (go_simp; intro h; omega)
                  simp only [Act.put]
                  refine wpAnyH_ready (rs := [7, 8]) (by kernel_rfl) (by simp) ?_
                  refine AllReadyH.cons rfl (fun K hK => ?_) (AllReadyH.cons rfl (fun K hK => ?_) AllReadyH.nil)
                  · refine step_store_at (by rfl) 29 (.tmp 104) (.tmp 100) (by rfl) size_rnode g (m.length * 5) p.2 (by rfl) (by rfl) hgc hsz ?_
                    have hs4 := hst p.2
                    generalize set5o w3 g (m.length * 5) p.2 = w4 at hs4 ⊢
                    refine hK.out _ _ hs4.hb (fun _ => ?_)
                    clear hK K
                    try simp only [Act.put]
                    refine wpAnyH_ready (rs := [8]) (by kernel_rfl) (by simp) ?_
                    refine AllReadyH.cons rfl (fun K hK => ?_) AllReadyH.nil
                    have cy := cell_heap hs4.hy (i := 0)
                    simp only [List.getElem?_toArray, List.getElem?_cons_zero] at cy
                    have fy := frozen_heap hs4.hy (i := 0)
                    go_simp
                    have hs5 := hs4.sety (.slice (some ⟨g, 0, none⟩) (m.length + 1) c')
                    generalize w4.setCell ⟨V2.heap.size + 1, 0, none⟩ (.slice (some ⟨g, 0, none⟩) (m.length + 1) c') = w5 at hs5 ⊢
                    clear cy fy
                    refine hK.out _ _ hs5.hb (fun _ => ?_)
                    clear hK K
                    try simp only [Act.put, List.setIfInBounds_toArray, List.set_cons_zero, List.set_cons_succ]
                    refine wpAnyH_done (by kernel_rfl) ?_ _
                    have hlw : Lw V2 (.slice (some ⟨g, 0, none⟩) (m.length + 1) c') (lvw ((wl U).take (j + 1))) w5 := Lw.of hs5 (by rw [HLV.out]; simp) (by rw [HLV.out])
                    have HLW := Lib.hid hlw
                    clear hs1 hs2 hs3 hs4 hs5 hlw
                    refine hKR _ _ ?_
                    go_wp2
                    go_roundw
                    case rel => exact ⟨j + 1, by go_num, by omega, _, HLW⟩
                    case measure => simp [intOf]; omega
                  · have cy := cell_heap hs3.hy (i := 0)
                    simp only [List.getElem?_toArray, List.getElem?_cons_zero] at cy
                    have fy := frozen_heap hs3.hy (i := 0)
                    go_simp
                    clear cy fy
                    have hs4 := hs3.sety (.slice (some ⟨g, 0, none⟩) (m.length + 1) c')
                    generalize w3.setCell ⟨V2.heap.size + 1, 0, none⟩ (.slice (some ⟨g, 0, none⟩) (m.length + 1) c') = w4 at hs4 ⊢
                    obtain ⟨g', c'', cur', hv', hgc', hsz', hst'⟩ := hs4.last rfl
                    obtain ⟨rfl, rfl⟩ : g' = g ∧ c'' = c' := by injection hv' with h1 h2 h3; injection h1 with h1; injection h1 with h1; exact ⟨h1.symm, h3.symm⟩
                    refine hK.out _ _ hs4.hb (fun _ => ?_)
                    clear hK K
                    try simp only [Act.put, List.setIfInBounds_toArray, List.set_cons_zero, List.set_cons_succ]
                    refine wpAnyH_ready (rs := [7]) (by kernel_rfl) (by simp) ?_
                    refine AllReadyH.cons rfl (fun K hK => ?_) AllReadyH.nil
                    refine step_store_at (by rfl) 29 (.tmp 104) (.tmp 100) (by rfl) size_rnode g' (m.length * 5) p.2 (by rfl) (by rfl) hgc' hsz' ?_
                    have hs5 := hst' p.2
                    generalize set5o w4 g' (m.length * 5) p.2 = w5 at hs5 ⊢
                    refine hK.out _ _ hs5.hb (fun _ => ?_)
                    clear hK K
                    try simp only [Act.put, List.setIfInBounds_toArray]
                    refine wpAnyH_done (by kernel_rfl) ?_ _
                    have hlw : Lw V2 (.slice (some ⟨g', 0, none⟩) (m.length + 1) c'') (lvw ((wl U).take (j + 1))) w5 := Lw.of hs5 (by rw [HLV.out]; simp) (by rw [HLV.out])
                    have HLW := Lib.hid hlw
                    clear hs1 hs2 hs3 hs4 hs5 hlw
                    refine hKR _ _ ?_
                    go_wp2
                    go_roundw
                    case rel => exact ⟨j + 1, by go_num, by omega, _, HLW⟩
                    case measure => simp [intOf]; omega
              · rw [if_neg hk, List.append_nil] at hlv
                have HL2 : Hid (Lw V2 v (lvw ((wl U).take (j + 1))) (wr.alloc (ibx6 p))) := Lib.hid (by rw [hlv]; exact HLr.out.step (below1 wr (ibx6 p)))
                clear hlv HLr
                go_wp2
                go_roundw
                case rel => exact ⟨j + 1, by go_num, by omega, v, HL2⟩
                case measure => simp [intOf]; omega
            · obtain rfl : j = (wl U).length := by omega
              rw [List.take_length] at HLr
              obtain ⟨V3, rfl⟩ : ∃ V3, V3 = wr := ⟨_, rfl⟩
              have hwlt : w.heap.size < V1.heap.size := HKB.out.lt (b := w.heap.size) (o := nbx T) (by simp)
              have hlr1 : Below V1.heap.size V1 V3 := HLA.out.1.trans (HLr.out.2.1.mono HLA.out.2.1)
              have hlrs : V1.heap.size ≤ V3.heap.size := hlr1.size
              have t6 := heap5 ((Below.heap_alloc V3 (ibx 0) _ (Nat.lt_of_lt_of_le hwlt hlrs)).trans ((hlr1.block _ hwlt).trans (HKB.out.has (w.heap.size, nbx T) (by simp))))
              have hT6 : Tn (lo (V3.alloc (ibx 0)).heap.size) (V3.alloc (ibx 0)) T := (((HKB.out.tree (T := T) (by simp)).below hlr1).more hlrs).after (below1 V3 (ibx 0))
              have HLVS := Lib.hid (leavesAll_any T (V3.alloc (ibx 0)) (by have := HW.out; omega) hT6)
              clear hlr1 hlrs hwlt hT6
              go_wp2_with fail
              refine HLVS.out.mono ?_
              rintro e W4 ⟨b4, A4, c4, rfl, hsl, hnb, hTk, hb4⟩
              have hbw := hb4.size
              rw [World.size_alloc] at hnb hbw
              have hn3 : W4.heap[V3.heap.size]? = some (ibx 0) := (hb4.block _ (by simp)).trans (heap_alloc_new V3 _)
              have hlw4 : Below V3.heap.size V3 W4 := (below1 V3 _).trans (hb4.mono (by simp))
              obtain ⟨hln, hlm⟩ := lvs_lvw HPL.out
              obtain ⟨A5, c5, rfl, hks⟩ := lrow_form (show LRow 29 V2.heap.size v (lvw (wl U)) V3 from HLr.out.2.2.2)
              have hmw : ∀ y ∈ lvw (wl U), wt y ≤ 5000 ∧ Tn (lo V1.heap.size) V1 y := fun y hy => by
                obtain ⟨d, hd, -⟩ := lvw_mem hy
                have hd' : (d, y) ∈ wk 0 U := by
                  unfold wl at hd
                  split at hd
                  · exact hd
                  · simp at hd
                have hyn := wk_mem (d := d) hd'
                have hUV : Tn (lo V1.heap.size) V1 U := HKB.out.tree (T := U) (by simp)
                exact ⟨by have := wt_nodes y hyn; have := HWU.out; omega, hUV.node y hyn⟩
              have hml := lvw_len (wl U)
              generalize lvw (wl U) = m at HLr hln hlm hks hmw hml
              have HLM := Lib.hid hlm
              have HLN := Lib.hid hln
              have HKS := Lib.hid hks
              have HMW := Lib.hid hmw
              have hTk0 : TkA A4 ((lvs T).map tok) V3.heap.size no W4 := Tks.keep hTk (fun _ _ _ => rfl) fun k hk => ⟨fun h => h, hk.2, by have := hk.1; simp at this; omega⟩
              have hlvl : (lvs T).length ≤ 20000 := by have := HLEN.out; omega
              clear hlm hks hmw hTk t6 HLVS
              go_wp2_with fail
              refine (wpIn_wide (n := 8)).1 ?_
              refine range_outG (values_iter (lvs T) b4 A4 c4 hlvl).g gT (fun _ => Frames.pure _) rfl eg_values (fun _ => rfl)
                (fun (t : Array Value) (x : Tr) (bp : Nat) => { tmps := (t.setIfInBounds 108 (nv (tok x))).setIfInBounds 20 (.pointer (some ⟨bp, 0, none⟩)), defers := [] })
                (fun pre X W => Low V3.heap.size V3 X W ∧ Has V3.heap.size (ibx (pre.length : Nat)) X W ∧ TkA A4 ((lvs T).map tok) V3.heap.size X W ∧ Has b4 (slb A4 (lvs T).length c4) X W)
                (fun _ _ _ _ => False)
                (fun pre x bp X W => (Low V3.heap.size V3 X W ∧ Has V3.heap.size (ibx (pre.length : Nat)) X W ∧ TkA A4 ((lvs T).map tok) V3.heap.size X W ∧ Has b4 (slb A4 (lvs T).length c4) X W) ∧ Has bp (tbx x) X W ∧ bp ≠ V3.heap.size) ?fI2 ?fX2 ?fB2 ?hC2 ?h02 ?assign2 ?body2 ?done2 ?stop2
              case fI2 => exact fun pre => (Low.frames _ _).and ((Has.frames _ _).and ((TkA.frames _ _ _).and (Has.frames _ _)))
              case fX2 => exact fun cc pre => Frames.pure _
              case fB2 => exact fun pre x bp => ((Low.frames _ _).and ((Has.frames _ _).and ((TkA.frames _ _ _).and (Has.frames _ _)))).and ((Has.frames _ _).and (Frames.pure _))
              case hC2 => exact fun pre X W h => ⟨⟨_, h.2.2.1⟩, h.2.2.2⟩
              case h02 => exact ⟨⟨hlw4, by omega, fun _ h => h.elim⟩, ⟨fun h => h, hn3⟩, hTk0, ⟨fun h => h, hsl⟩⟩
              case stop2 =>
                rintro D cc pre W1 h hD
                exact h.elim
              case assign2 =>
                rintro lq X pre x W1 K hX hXb hi - hp hK
                have hb1 := hK W1.heap.size (W1.alloc (tbx x)) (by simp) (Kept.alloc _ _ _) ⟨((Low.frames _ _).and ((Has.frames _ _).and ((TkA.frames _ _ _).and (Has.frames _ _)))).off hi (Off.alloc _ _ _), Has.new hXb _, by have := hi.2.1.lt; omega⟩
                clear hK
                gi_wp2
                simpa only [List.setIfInBounds_toArray, List.set_cons_zero, List.set_cons_succ] using hb1
              case body2 =>
                rintro lq X pre x bp W1 hX hXb hr2 ⟨⟨hlow, hs, htk, hsl1⟩, hbp, hne⟩ hp
                simp only [List.setIfInBounds_toArray, List.set_cons_zero, List.set_cons_succ]
                have hpx := pref_el hp
                obtain ⟨y, hy, hsm⟩ := HLM.out _ _ hpx
                obtain ⟨hx1, hx2, hx3⟩ := lvs_leaf (List.mem_of_getElem? hpx)
                have hrx : rng x.a := (HT.out.node x hx1).rng
                have hwx : wt (tok x) ≤ 5000 := by rw [wt_tok]; have := wt_node hx1; have := HW.out; omega
                obtain ⟨hwy, hyV⟩ := HMW.out y (List.mem_of_getElem? hy)
                have hl1 : Below V1.heap.size V1 W1 := HLA.out.1.trans ((HLr.out.2.1.trans (hlow.1.mono HLr.out.2.1.size)).mono HLA.out.2.1)
                have hty : Tn (lo W1.heap.size) W1 y := (hyV.below hl1).more hl1.size
                obtain ⟨b5, off, rfl, hb5, g0, g1, g2, g3, g4⟩ := HKS.out.at_' hy
                have hlb := HLr.out.2.2.1
                have hbl : V2.heap.size + 1 < V3.heap.size := HLr.out.1
                have hml1 : pre.length < m.length := (List.getElem?_eq_some_iff.1 hy).1
                have HSS : Hid (∀ W' : World, Below W1.heap.size W1 W' → (fun W' => W'.cell? ⟨V3.heap.size, 0, none⟩ = some (.int .i64 (pre.length : Nat)) ∧ W'.cell? ⟨V2.heap.size + 1, 0, none⟩ = some (.slice (some ⟨b5, off, none⟩) m.length c5) ∧ W'.cell? ⟨b5, off + pre.length * 5, none⟩ = some (.int .i64 y.k) ∧ W'.cell? ⟨b5, off + pre.length * 5 + 1, none⟩ = some (.string y.g) ∧ W'.cell? ⟨b5, off + pre.length * 5 + 2, none⟩ = some (.string y.t) ∧ W'.cell? ⟨b5, off + pre.length * 5 + 3, none⟩ = some (.int .i64 y.a) ∧ W'.cell? ⟨b5, off + pre.length * 5 + 4, none⟩ = some (.slice y.A y.kids.length y.c) ∧ W'.cell? ⟨bp, 0, none⟩ = some (.int .i64 (tok x).k) ∧ W'.cell? ⟨bp, 1, none⟩ = some (.string (tok x).g) ∧ W'.cell? ⟨bp, 2, none⟩ = some (.string (tok x).t) ∧ W'.cell? ⟨bp, 3, none⟩ = some (.int .i64 (tok x).a) ∧ W'.cell? ⟨bp, 4, none⟩ = some (.slice (tok x).A (tok x).kids.length (tok x).c)) W') := Lib.hid fun W' hB => by
                  have e1 := cell_heap ((hB.block _ hs.lt).trans hs.2) (i := 0)
                  have e2 := cell_heap ((hB.block _ (Nat.lt_of_lt_of_le hbl hlow.2.1)).trans ((hlow.1.block _ hbl).trans hlb)) (i := 0)
                  have e3 : ∀ i, W'.cell? ⟨b5, i, none⟩ = V3.cell? ⟨b5, i, none⟩ := fun i => (cell_of (hB.block _ (Nat.lt_of_lt_of_le hb5.2 hlow.2.1))).trans (cell_of (hlow.1.block _ hb5.2))
                  have e4 := heap5 ((hB.block _ hbp.lt).trans hbp.2)
                  simp only [List.getElem?_toArray, List.getElem?_cons_zero] at e1 e2
                  exact ⟨e1, e2, (e3 _).trans g0, (e3 _).trans g1, (e3 _).trans g2, (e3 _).trans g3, (e3 _).trans g4, e4⟩
                have hS1 := HSS.out W1 (Below.refl _ _)
                have z1 : (0 : Int) ≤ (pre.length : Nat) := by omega
                have z2 : ((pre.length : Nat) : Int) < (m.length : Nat) := by omega
                have z3 : ¬ ((pre.length : Nat) : Int) ≥ (m.length : Nat) := by omega
                clear g0 g1 g2 g3 g4 hp hpx hy hx1 hx2 hx3 hr2 hyV hl1 hb5 hlb
                gi_wp2
                refine wpIn_region_heldI (fun W' => W'.cell? ⟨V3.heap.size, 0, none⟩ = some (.int .i64 (pre.length : Nat)) ∧ W'.cell? ⟨V2.heap.size + 1, 0, none⟩ = some (.slice (some ⟨b5, off, none⟩) m.length c5) ∧ W'.cell? ⟨b5, off + pre.length * 5, none⟩ = some (.int .i64 y.k) ∧ W'.cell? ⟨b5, off + pre.length * 5 + 1, none⟩ = some (.string y.g) ∧ W'.cell? ⟨b5, off + pre.length * 5 + 2, none⟩ = some (.string y.t) ∧ W'.cell? ⟨b5, off + pre.length * 5 + 3, none⟩ = some (.int .i64 y.a) ∧ W'.cell? ⟨b5, off + pre.length * 5 + 4, none⟩ = some (.slice y.A y.kids.length y.c) ∧ W'.cell? ⟨bp, 0, none⟩ = some (.int .i64 (tok x).k) ∧ W'.cell? ⟨bp, 1, none⟩ = some (.string (tok x).g) ∧ W'.cell? ⟨bp, 2, none⟩ = some (.string (tok x).t) ∧ W'.cell? ⟨bp, 3, none⟩ = some (.int .i64 (tok x).a) ∧ W'.cell? ⟨bp, 4, none⟩ = some (.slice (tok x).A (tok x).kids.length (tok x).c)) (by kernel_rfl) ?_
                refine wpAnyHI_take (i := 0) (v := (.int .i64 (pre.length : Nat))) 109 (by kernel_rfl) rfl rfl (by kernel_rfl) (by kernel_rfl) (by kernel_rfl) (fun _ _ _ h => h) (Or.inl ⟨by kernel_rfl, fun w' hS' => ?y0⟩) hS1 ?_
                case y0 => (obtain ⟨s0, s1, t0, t1, t2, t3, t4, u0, u1, u2, u3, u4⟩ := hS'; go_simp)
                simp only [Act.put, List.setIfInBounds_toArray, List.set_cons_zero, List.set_cons_succ]
                refine wpAnyHI_take (i := 1) (v := (.slice (some ⟨b5, off, none⟩) m.length c5)) 110 (by kernel_rfl) rfl rfl (by kernel_rfl) (by kernel_rfl) (by kernel_rfl) (fun _ _ _ h => h) (Or.inl ⟨by kernel_rfl, fun w' hS' => ?y1⟩) hS1 ?_
                case y1 => (obtain ⟨s0, s1, t0, t1, t2, t3, t4, u0, u1, u2, u3, u4⟩ := hS'; go_simp)
                simp only [Act.put, List.setIfInBounds_toArray, List.set_cons_zero, List.set_cons_succ]
                refine wpAnyHI_take (i := 2) (v := (.int .i64 (m.length : Nat))) 111 (by kernel_rfl) rfl rfl (by kernel_rfl) (by kernel_rfl) (by kernel_rfl) (fun _ _ _ h => h) (Or.inl ⟨by kernel_rfl, fun w' hS' => ?y2⟩) hS1 ?_
                case y2 => (obtain ⟨s0, s1, t0, t1, t2, t3, t4, u0, u1, u2, u3, u4⟩ := hS'; go_simp)
                simp only [Act.put, List.setIfInBounds_toArray, List.set_cons_zero, List.set_cons_succ]
                refine wpAnyHI_take (i := 3) (v := (.bool false)) 112 (by kernel_rfl) rfl rfl (by kernel_rfl) (by kernel_rfl) (by kernel_rfl) (fun _ _ _ h => h) (Or.inl ⟨by kernel_rfl, fun w' hS' => ?y3⟩) hS1 ?_
                case y3 => (obtain ⟨s0, s1, t0, t1, t2, t3, t4, u0, u1, u2, u3, u4⟩ := hS'; go_simp)
                simp only [Act.put, List.setIfInBounds_toArray, List.set_cons_zero, List.set_cons_succ]
                refine wpAnyHI_take (i := 4) (v := (.bool false)) 113 (by kernel_rfl) rfl rfl (by kernel_rfl) (by kernel_rfl) (by kernel_rfl) (fun _ _ _ h => h) (Or.inl ⟨by kernel_rfl, fun w' hS' => ?y4⟩) hS1 ?_
                case y4 => (obtain ⟨s0, s1, t0, t1, t2, t3, t4, u0, u1, u2, u3, u4⟩ := hS'; go_simp)
                simp only [Act.put, List.setIfInBounds_toArray, List.set_cons_zero, List.set_cons_succ]
                refine wpAnyHI_take (i := 5) (v := (nv (tok x))) 114 (by kernel_rfl) rfl rfl (by kernel_rfl) (by kernel_rfl) (by kernel_rfl) (fun _ _ _ h => h) (Or.inl ⟨by kernel_rfl, fun w' hS' => ?y5⟩) hS1 ?_
                case y5 => (obtain ⟨s0, s1, t0, t1, t2, t3, t4, u0, u1, u2, u3, u4⟩ := hS'; go_simp)
                simp only [Act.put, List.setIfInBounds_toArray, List.set_cons_zero, List.set_cons_succ]
                refine wpAnyHI_take (i := 6) (v := (.slice (some ⟨b5, off, none⟩) m.length c5)) 115 (by kernel_rfl) rfl rfl (by kernel_rfl) (by kernel_rfl) (by kernel_rfl) (fun _ _ _ h => h) (Or.inl ⟨by kernel_rfl, fun w' hS' => ?y6⟩) hS1 ?_
                case y6 => (obtain ⟨s0, s1, t0, t1, t2, t3, t4, u0, u1, u2, u3, u4⟩ := hS'; go_simp)
                simp only [Act.put, List.setIfInBounds_toArray, List.set_cons_zero, List.set_cons_succ]
                refine wpAnyHI_take (i := 7) (v := (.int .i64 (pre.length : Nat))) 116 (by kernel_rfl) rfl rfl (by kernel_rfl) (by kernel_rfl) (by kernel_rfl) (fun _ _ _ h => h) (Or.inl ⟨by kernel_rfl, fun w' hS' => ?y7⟩) hS1 ?_
                case y7 => (obtain ⟨s0, s1, t0, t1, t2, t3, t4, u0, u1, u2, u3, u4⟩ := hS'; go_simp)
                simp only [Act.put, List.setIfInBounds_toArray, List.set_cons_zero, List.set_cons_succ]
                refine wpAnyHI_take (i := 8) (v := (.pointer (some ⟨b5, off + pre.length * 5, none⟩))) 117 (by kernel_rfl) rfl rfl (by kernel_rfl) (by kernel_rfl) (by kernel_rfl) (fun _ _ _ h => h) (Or.inl ⟨by kernel_rfl, fun w' hS' => ?y8⟩) hS1 ?_
                case y8 => (obtain ⟨s0, s1, t0, t1, t2, t3, t4, u0, u1, u2, u3, u4⟩ := hS'; go_simp)
                simp only [Act.put, List.setIfInBounds_toArray, List.set_cons_zero, List.set_cons_succ]
                refine wpAnyHI_take (i := 9) (v := (nv y)) 118 (by kernel_rfl) rfl rfl (by kernel_rfl) (by kernel_rfl) (by kernel_rfl) (fun _ _ _ h => h) (Or.inl ⟨by kernel_rfl, fun w' hS' => ?y9⟩) hS1 ?_
                case y9 => (obtain ⟨s0, s1, t0, t1, t2, t3, t4, u0, u1, u2, u3, u4⟩ := hS'; go_simp)
                simp only [Act.put, List.setIfInBounds_toArray, List.set_cons_zero, List.set_cons_succ]
                refine wpAnyHI_one (i := 10) (by kernel_rfl) rfl (fun K hK => ?_)
                go_simp
                refine ⟨trivial, (CallsIn.inRound lq (callsIn_wide.2 (is_any (tok x) y W1.drew hwx hwy (tn_tok hrx) (Tn.keep (fun _ _ _ => rfl) (fun _ h => h) hty)))).mono ?_⟩
                rintro r W2 ⟨rfl, hB⟩
                rw [hsm]
                have hB2 : Below W1.heap.size W1 W2 := ⟨hB.os, hB.tape, hB.output, hB.size, hB.block⟩
                clear hB
                have hS2 := HSS.out W2 hB2
                refine hK.out _ _ hS2 (fun _ => ?_)
                clear hK K
                try simp only [Act.put, List.setIfInBounds_toArray, List.set_cons_zero, List.set_cons_succ]
                refine wpAnyHI_take (i := 11) (v := (.bool false)) 120 (by kernel_rfl) rfl rfl (by kernel_rfl) (by kernel_rfl) (by kernel_rfl) (fun _ _ _ h => h) (Or.inl ⟨by kernel_rfl, fun w' hS' => ?y11⟩) hS2 ?_
                case y11 => (obtain ⟨s0, s1, t0, t1, t2, t3, t4, u0, u1, u2, u3, u4⟩ := hS'; go_simp)
                simp only [Act.put, List.setIfInBounds_toArray, List.set_cons_zero, List.set_cons_succ]
                refine wpAnyHI_take (i := 12) (v := (.bool false)) 121 (by kernel_rfl) rfl rfl (by kernel_rfl) (by kernel_rfl) (by kernel_rfl) (fun _ _ _ h => h) (Or.inl ⟨by kernel_rfl, fun w' hS' => ?y12⟩) hS2 ?_
                case y12 => (obtain ⟨s0, s1, t0, t1, t2, t3, t4, u0, u1, u2, u3, u4⟩ := hS'; go_simp)
                simp only [Act.put, List.setIfInBounds_toArray, List.set_cons_zero, List.set_cons_succ]
                refine wpAnyHI_done (by kernel_rfl) ?_ _
                have hi2 := ((Low.frames V3.heap.size V3).and ((Has.frames V3.heap.size (ibx (pre.length : Nat))).and ((TkA.frames A4 ((lvs T).map tok) V3.heap.size).and (Has.frames b4 (slb A4 (lvs T).length c4))))).off ⟨hlow, hs, htk, hsl1⟩ (Off.of_below hB2)
                obtain ⟨hlow2, hs2, htk2, hsl2⟩ := hi2
                have hk2 : Kept X W1 W2 := Kept.below hB2
                have hsz2 := hB2.size
                have q0 := hs2.cell (i := 0)
                have f0 := hs2.frozen (i := 0)
                simp only [List.getElem?_toArray, List.getElem?_cons_zero] at q0
                have hl5 := HLEN.out
                have hnb4 : b4 ≠ V3.heap.size := by omega
                clear hS1 hS2 hty hwx hwy hrx hbp HSS hlow hs htk hsl1 hB2 z1 z2 z3 hsm hbl
                gi_wp2
                refine ⟨by rw [size_set]; exact hsz2, Kept.trans hsz2 hk2 (Kept.set hs2.1 _ _), hlow2.set (p := ⟨V3.heap.size, 0, none⟩) (Nat.le_refl _) _, ?_, Tks.keep htk2 (fun k i hk => cell_of (Below.heap_setCell _ _ _ _ hk.2.2)) (fun k hk => ⟨hk.1, by rw [size_set]; exact hk.2.1, hk.2.2⟩), hsl2.other hnb4⟩
                have h := hs2.set (v' := .int .i64 ((pre ++ [x]).length : Nat))
                simpa using h
              case done2 =>
                rintro D2 xs W5 hxs ⟨hlow5, hk5, -, -⟩ hD2
                subst hxs
                have hl5 : Below V1.heap.size V1 W5 := HLA.out.1.trans ((HLr.out.2.1.trans (hlow5.1.mono HLr.out.2.1.size)).mono HLA.out.2.1)
                have hl5s : V1.heap.size ≤ W5.heap.size := hl5.size
                have hwlt : w.heap.size < V1.heap.size := HKB.out.lt (b := w.heap.size) (o := nbx T) (by simp)
                have t7 := heap5 ((hl5.block _ hwlt).trans (HKB.out.has (w.heap.size, nbx T) (by simp)))
                have hpa := path_any T a W5 (by have := HW.out; omega) (((HKB.out.tree (T := T) (by simp)).below hl5).more hl5s)
                rw [pth_pl1 HPL.out] at hpa
                have HPA := Lib.hid hpa
                have hpln : (pl1 a U).length ≤ 5000 := by
                  unfold pl1
                  split
                  · have := rpt_len a U; have := HWU.out; omega
                  · simp
                obtain ⟨P, hP⟩ : ∃ P, pl1 a U = P := ⟨_, rfl⟩
                rw [hP] at HPV hpln HPA
                have HL5 := Lib.hid hl5
                have HLO5 := Lib.hid hlow5
                have HK5 := Lib.hid hk5
                have HD2 := Lib.hid hD2
                clear hpa hl5 hl5s hwlt hlow5 hk5 hD2
                rw [hP]
                clear hP
                go_wp2_with fail
                refine HPA.out.mono ?_
                rintro e W6 ⟨A6, c6, rfl, ho6, hb6⟩
                have hbl : V2.heap.size + 1 < V3.heap.size := HLr.out.1
                have hl6 : Below V3.heap.size V3 W6 := HLO5.out.1.trans (hb6.mono HLO5.out.2.1)
                have q16 := cell_heap ((hl6.block _ hbl).trans HLr.out.2.2.1) (i := 0)
                have q19 := cell_heap ((hb6.block _ HK5.out.lt).trans HK5.out.2) (i := 0)
                simp only [List.getElem?_toArray, List.getElem?_cons_zero] at q16 q19
                rw [HLN.out] at q19
                have HB6 := Lib.hid hb6
                have HO6 := Lib.hid (pts_own ho6)
                have HL6 := Lib.hid hl6
                have hplen : Hid (P.length ≤ 5000) := Lib.hid hpln
                clear t7 hb6 ho6 hl6 hbl hpln HPA
                go_wp2
                go_loopw [140] (fun i wr => ∃ j : Nat, i = .int .i64 j ∧ j ≤ P.length ∧ Hid (Below W6.heap.size W6 wr)) (fun i _ => P.length + 1 - (intOf i).toNat)
                case atStart => exact ⟨0, rfl, Nat.zero_le _, Lib.hid (Below.refl _ _)⟩
                case round =>
                  clear q16 q19
                  obtain ⟨j, rfl, hj, HBv⟩ := hrel
                  have hp5 := hplen.out
                  by_cases hlt : j < P.length
                  · obtain ⟨x, hx⟩ : ∃ x, P[j]? = some x := ⟨_, List.getElem?_eq_getElem hlt⟩
                    obtain ⟨b6, rfl, hb6, g6⟩ := HO6.out.at_ hx
                    obtain ⟨b7, rfl, hb7, g7⟩ := HPV.out.at_ hx
                    have hl1 : Below V1.heap.size V1 W6 := HL5.out.trans (HB6.out.mono HL5.out.size)
                    have d6 := (cell_of (i := j) (HBv.out.block b6 hb6.2)).trans g6
                    have d7 := (cell_of (i := j) (HBv.out.block b7 (Nat.lt_of_lt_of_le hb7 hl1.size))).trans ((cell_of (hl1.block b7 hb7)).trans g7)
                    have z1 : (0 : Int) ≤ j := by omega
                    have z2 : (j : Int) < P.length := by omega
                    clear g6 g7 hb6 hb7 hx hl1
                    go_wp2
                    go_quiet (fail)
                    go_wp2
                    go_roundw
                    case rel => exact ⟨j + 1, by go_num, by omega, Lib.hid (below_drewN HBv.out _)⟩
                    case measure => simp [intOf]; omega
                  · obtain rfl : j = P.length := by omega
                    have hl6 : Below V3.heap.size V3 wr := HL6.out.trans (HBv.out.mono HL6.out.size)
                    have hl2 : Below V2.heap.size V2 wr := HLr.out.2.1.trans (hl6.mono HLr.out.2.1.size)
                    have hl1 : Below V1.heap.size V1 wr := HLA.out.1.trans (hl2.mono HLA.out.2.1)
                    have hkv := HKB.out.step hl1
                    have hbl : V2.heap.size + 1 < V3.heap.size := HLr.out.1
                    have w1c := cell_heap (hkv.has (w.heap.size + 1, ibx (sv : Nat)) (by simp)) (i := 0)
                    have w2c := cell_heap (hkv.has (w2.heap.size + 1, wbx0 A (wl U).length c) (by simp)) (i := 0)
                    have hres := hkv.has (w.heap.size + 1 + 1, .cells #[.bool false] 4 (0, 0)) (by simp)
                    have w3c := cell_heap hres (i := 0)
                    have w3f := frozen_heap hres (i := 0)
                    have w4c := cell_heap ((hl2.block _ HKK.out.2.lt).trans HKK.out.2.2) (i := 0)
                    have r3 := heap_set hres (i := 0) (.bool true)
                    have hd1 : wr.heap[D1]? = some (.deferred (some [])) := (hl2.block _ (Array.getElem?_eq_some_iff.1 HD1.out).1).trans HD1.out
                    have hd2 : wr.heap[D2]? = some (.deferred (some [])) := (HBv.out.block _ (Nat.lt_of_lt_of_le (Array.getElem?_eq_some_iff.1 HD2.out).1 HB6.out.size)).trans ((HB6.out.block _ (Array.getElem?_eq_some_iff.1 HD2.out).1).trans HD2.out)
                    have hlow := hkv.low
                    have hkk := HKK.out.1
                    simp only [List.getElem?_toArray, List.getElem?_cons_zero, List.setIfInBounds_toArray, List.set_cons_zero] at w1c w2c w3c w4c r3
                    have HR3 := Lib.hid r3
                    have HE1 := Lib.hid hd1
                    have HE2 := Lib.hid hd2
                    have HLW := Lib.hid hlow
                    clear hl6 hl2 hl1 hkv hbl hres r3 hd1 hd2 hlow
                    go_wp2
                    have hz : (((min sv (wl U).length : Nat) : Int) == min (sv : Int) ((wl U).length : Int)) = true := by rw [beq_iff_eq]; omega
                    rw [hz]
                    have hD1n := HLA.out.2.2 D1 rfl
                    have hD2n := HLO5.out.2.2 D2 rfl
                    have hD1s := (Array.getElem?_eq_some_iff.1 HD1.out).1
                    have hbl := HLr.out.1
                    have hwv := HHW1.out
                    have hr := HR3.out
                    have hlo := HLW.out.setCell (p := ⟨w.heap.size + 1 + 1, 0, none⟩) (by simp; omega) (.bool true)
                    have e2 : (wr.setCell ⟨w.heap.size + 1 + 1, 0, none⟩ (.bool true)).heap[D2]? = some (.deferred (some [])) := (Below.heap_setCell _ _ _ _ (by simp; omega)).trans HE2.out
                    have e1 : (wr.setCell ⟨w.heap.size + 1 + 1, 0, none⟩ (.bool true)).heap[D1]? = some (.deferred (some [])) := (Below.heap_setCell _ _ _ _ (by simp; omega)).trans HE1.out
                    have hls := hlo.size
                    generalize wr.setCell ⟨w.heap.size + 1 + 1, 0, none⟩ (.bool true) = Y at hr hlo e1 e2 hls ⊢
                    have e1' : (Y.putObj D2 (.deferred none)).heap[D1]? = some (.deferred (some [])) := (World.putObj_heap_other (by omega)).trans e1
                    have e3 : ((Y.putObj D2 (.deferred none)).putObj D1 (.deferred none)).heap[w.heap.size + 1 + 1]? = some (.cells #[.bool true] 4 (0, 0)) := (World.putObj_heap_other (by omega)).trans ((World.putObj_heap_other (by omega)).trans hr)
                    have e4 := cell_heap e3 (i := 0)
                    simp only [List.getElem?_toArray, List.getElem?_cons_zero] at e4
                    have e5 : Below w.heap.size w ((Y.putObj D2 (.deferred none)).putObj D1 (.deferred none)) := ((Low.frames w.heap.size w).off (X := fun k => k = D1 ∨ k = D2) ⟨hlo, hls, fun k hk => by rcases hk with rfl | rfl <;> omega⟩ ((Off.putObj (X := fun k => k = D1 ∨ k = D2) (l := D2) (.inr rfl) Y (.deferred none)).trans (Off.putObj (X := fun k => k = D1 ∨ k = D2) (l := D1) (.inl rfl) _ (.deferred none)))).1
                    refine ⟨by simp, .inl ⟨_, _, rfl, run_takeDeferred e2, ?_⟩⟩
                    refine ⟨by simp, .inl ⟨_, _, rfl, run_takeDeferred e1', ?_⟩⟩
                    exact ⟨.bool true, by simp [results, Try.results4, go_sem, e4], rfl, e5⟩
        case body =>
          rintro lq X pre x bp W1 hX hXb hr2 ⟨hlow, hs, hCc, hbp, hTx, hne, hlt⟩ hp
          simp only [List.setIfInBounds_toArray, List.set_cons_zero, List.set_cons_succ]
          obtain ⟨p, hp1, hp2, hp3⟩ := pre_at (by rw [wl_same HPL.out] ; exact hp)
          obtain ⟨b, rfl, hb, g0, g1, g2, g3, g4, g5⟩ := HIV.out.at_ hp1
          have hpm : p ∈ wk 0 U := by
            have hm := List.mem_of_getElem? hp1
            unfold wl at hm
            split at hm
            · exact hm
            · simp at hm
          have hwp : wt p.2 ≤ 5000 := by have := wt_nodes p.2 (wk_mem (d := p.1) hpm); have := HWU.out; omega
          have hwx : wt x.2 ≤ 5000 := by rw [← (same_of hp3).2.2.1]; exact hwp
          have hsm : sm x.2 p.2 = true := (sm_iff _ _).2 hp3.symm
          have hUV : Tn (lo V1.heap.size) V1 U := HKB.out.tree (T := U) (by simp)
          have htp : Tn (lo W1.heap.size) W1 p.2 := ((hUV.node p.2 (wk_mem (d := p.1) hpm)).below hlow.1).more hlow.2.1
          have htx : Tn (lo W1.heap.size) W1 x.2 := hTx.all
          have hwb := HKB.out.has (w2.heap.size + 1, wbx0 (some ⟨b, 0, none⟩) (wl U).length c) (by simp)
          have hwlt : w2.heap.size + 1 < V1.heap.size := (Array.getElem?_eq_some_iff.1 hwb).1
          have HSS : Hid (∀ W' : World, Below W1.heap.size W1 W' → (fun W' => W'.cell? ⟨V1.heap.size, 0, none⟩ = some (.int .i64 (pre.length : Nat)) ∧ W'.cell? ⟨w2.heap.size + 1, 0, none⟩ = some (.slice (some ⟨b, 0, none⟩) (wl U).length c) ∧ W'.cell? ⟨b, pre.length * 6, none⟩ = some (.int .i64 (p.1 : Nat)) ∧ W'.cell? ⟨b, pre.length * 6 + 1, none⟩ = some (.int .i64 p.2.k) ∧ W'.cell? ⟨b, pre.length * 6 + 2, none⟩ = some (.string p.2.g) ∧ W'.cell? ⟨b, pre.length * 6 + 3, none⟩ = some (.string p.2.t) ∧ W'.cell? ⟨b, pre.length * 6 + 4, none⟩ = some (.int .i64 p.2.a) ∧ W'.cell? ⟨b, pre.length * 6 + 5, none⟩ = some (.slice p.2.A p.2.kids.length p.2.c) ∧ W'.cell? ⟨bp, 0, none⟩ = some (.int .i64 x.2.k) ∧ W'.cell? ⟨bp, 1, none⟩ = some (.string x.2.g) ∧ W'.cell? ⟨bp, 2, none⟩ = some (.string x.2.t) ∧ W'.cell? ⟨bp, 3, none⟩ = some (.int .i64 x.2.a) ∧ W'.cell? ⟨bp, 4, none⟩ = some (.slice x.2.A x.2.kids.length x.2.c)) W') := Lib.hid fun W' hB => by
            have e1 := cell_heap ((hB.block _ hs.lt).trans hs.2) (i := 0)
            have e2 := cell_heap ((hB.block _ (Nat.lt_of_lt_of_le hwlt hlow.2.1)).trans ((hlow.1.block _ hwlt).trans hwb)) (i := 0)
            have e3 : ∀ i, W'.cell? ⟨b, i, none⟩ = V1.cell? ⟨b, i, none⟩ := fun i => (cell_of (hB.block _ (Nat.lt_of_lt_of_le hb hlow.2.1))).trans (cell_of (hlow.1.block _ hb))
            have e4 := heap5 ((hB.block _ hbp.lt).trans hbp.2)
            simp only [List.getElem?_toArray, List.getElem?_cons_zero] at e1 e2
            exact ⟨e1, e2, (e3 _).trans g0, (e3 _).trans g1, (e3 _).trans g2, (e3 _).trans g3, (e3 _).trans g4, (e3 _).trans g5, e4⟩
          have hS1 := HSS.out W1 (Below.refl _ _)
          have hkl : pre.length < (wl U).length := (List.getElem?_eq_some_iff.1 hp1).1
          have z1 : (0 : Int) ≤ (pre.length : Nat) := by omega
          have z2 : ((pre.length : Nat) : Int) < ((wl U).length : Nat) := by omega
          have z3 : ¬ ((pre.length : Nat) : Int) ≥ ((wl U).length : Nat) := by omega
          have z4 : (x.1 : Int) = (p.1 : Int) := by rw [hp2]
          clear g0 g1 g2 g3 g4 g5 hp hp1 hp2 hp3 hpm hb hUV hwb hr2
          gi_wp2
          refine wpIn_region_heldI (fun W' => W'.cell? ⟨V1.heap.size, 0, none⟩ = some (.int .i64 (pre.length : Nat)) ∧ W'.cell? ⟨w2.heap.size + 1, 0, none⟩ = some (.slice (some ⟨b, 0, none⟩) (wl U).length c) ∧ W'.cell? ⟨b, pre.length * 6, none⟩ = some (.int .i64 (p.1 : Nat)) ∧ W'.cell? ⟨b, pre.length * 6 + 1, none⟩ = some (.int .i64 p.2.k) ∧ W'.cell? ⟨b, pre.length * 6 + 2, none⟩ = some (.string p.2.g) ∧ W'.cell? ⟨b, pre.length * 6 + 3, none⟩ = some (.string p.2.t) ∧ W'.cell? ⟨b, pre.length * 6 + 4, none⟩ = some (.int .i64 p.2.a) ∧ W'.cell? ⟨b, pre.length * 6 + 5, none⟩ = some (.slice p.2.A p.2.kids.length p.2.c) ∧ W'.cell? ⟨bp, 0, none⟩ = some (.int .i64 x.2.k) ∧ W'.cell? ⟨bp, 1, none⟩ = some (.string x.2.g) ∧ W'.cell? ⟨bp, 2, none⟩ = some (.string x.2.t) ∧ W'.cell? ⟨bp, 3, none⟩ = some (.int .i64 x.2.a) ∧ W'.cell? ⟨bp, 4, none⟩ = some (.slice x.2.A x.2.kids.length x.2.c)) (by kernel_rfl) ?_
          refine wpAnyHI_take (i := 0) (v := (.int .i64 (pre.length : Nat))) 59 (by kernel_rfl) rfl rfl (by kernel_rfl) (by kernel_rfl) (by kernel_rfl) (fun _ _ _ h => h) (Or.inl ⟨by kernel_rfl, fun w' hS' => ?y0⟩) hS1 ?_
          case y0 => (obtain ⟨s0, s1, t0, t1, t2, t3, t4, t5, u0, u1, u2, u3, u4⟩ := hS'; go_simp)
          simp only [Act.put, List.setIfInBounds_toArray, List.set_cons_zero, List.set_cons_succ]
          refine wpAnyHI_take (i := 1) (v := (.slice (some ⟨b, 0, none⟩) (wl U).length c)) 60 (by kernel_rfl) rfl rfl (by kernel_rfl) (by kernel_rfl) (by kernel_rfl) (fun _ _ _ h => h) (Or.inl ⟨by kernel_rfl, fun w' hS' => ?y1⟩) hS1 ?_
          case y1 => (obtain ⟨s0, s1, t0, t1, t2, t3, t4, t5, u0, u1, u2, u3, u4⟩ := hS'; go_simp)
          simp only [Act.put, List.setIfInBounds_toArray, List.set_cons_zero, List.set_cons_succ]
          refine wpAnyHI_take (i := 2) (v := (.int .i64 ((wl U).length : Nat))) 61 (by kernel_rfl) rfl rfl (by kernel_rfl) (by kernel_rfl) (by kernel_rfl) (fun _ _ _ h => h) (Or.inl ⟨by kernel_rfl, fun w' hS' => ?y2⟩) hS1 ?_
          case y2 => (obtain ⟨s0, s1, t0, t1, t2, t3, t4, t5, u0, u1, u2, u3, u4⟩ := hS'; go_simp)
          simp only [Act.put, List.setIfInBounds_toArray, List.set_cons_zero, List.set_cons_succ]
          refine wpAnyHI_take (i := 3) (v := (.bool false)) 62 (by kernel_rfl) rfl rfl (by kernel_rfl) (by kernel_rfl) (by kernel_rfl) (fun _ _ _ h => h) (Or.inl ⟨by kernel_rfl, fun w' hS' => ?y3⟩) hS1 ?_
          case y3 => (obtain ⟨s0, s1, t0, t1, t2, t3, t4, t5, u0, u1, u2, u3, u4⟩ := hS'; go_simp)
          simp only [Act.put, List.setIfInBounds_toArray, List.set_cons_zero, List.set_cons_succ]
          refine wpAnyHI_take (i := 4) (v := (.bool false)) 63 (by kernel_rfl) rfl rfl (by kernel_rfl) (by kernel_rfl) (by kernel_rfl) (fun _ _ _ h => h) (Or.inl ⟨by kernel_rfl, fun w' hS' => ?y4⟩) hS1 ?_
          case y4 => (obtain ⟨s0, s1, t0, t1, t2, t3, t4, t5, u0, u1, u2, u3, u4⟩ := hS'; go_simp)
          simp only [Act.put, List.setIfInBounds_toArray, List.set_cons_zero, List.set_cons_succ]
          refine wpAnyHI_take (i := 5) (v := (.int .i64 (x.1 : Nat))) 64 (by kernel_rfl) rfl rfl (by kernel_rfl) (by kernel_rfl) (by kernel_rfl) (fun _ _ _ h => h) (Or.inl ⟨by kernel_rfl, fun w' hS' => ?y5⟩) hS1 ?_
          case y5 => (obtain ⟨s0, s1, t0, t1, t2, t3, t4, t5, u0, u1, u2, u3, u4⟩ := hS'; go_simp)
          simp only [Act.put, List.setIfInBounds_toArray, List.set_cons_zero, List.set_cons_succ]
          refine wpAnyHI_take (i := 6) (v := (.slice (some ⟨b, 0, none⟩) (wl U).length c)) 65 (by kernel_rfl) rfl rfl (by kernel_rfl) (by kernel_rfl) (by kernel_rfl) (fun _ _ _ h => h) (Or.inl ⟨by kernel_rfl, fun w' hS' => ?y6⟩) hS1 ?_
          case y6 => (obtain ⟨s0, s1, t0, t1, t2, t3, t4, t5, u0, u1, u2, u3, u4⟩ := hS'; go_simp)
          simp only [Act.put, List.setIfInBounds_toArray, List.set_cons_zero, List.set_cons_succ]
          refine wpAnyHI_take (i := 7) (v := (.int .i64 (pre.length : Nat))) 66 (by kernel_rfl) rfl rfl (by kernel_rfl) (by kernel_rfl) (by kernel_rfl) (fun _ _ _ h => h) (Or.inl ⟨by kernel_rfl, fun w' hS' => ?y7⟩) hS1 ?_
          case y7 => (obtain ⟨s0, s1, t0, t1, t2, t3, t4, t5, u0, u1, u2, u3, u4⟩ := hS'; go_simp)
          simp only [Act.put, List.setIfInBounds_toArray, List.set_cons_zero, List.set_cons_succ]
          refine wpAnyHI_take (i := 8) (v := (.pointer (some ⟨b, pre.length * 6, none⟩))) 67 (by kernel_rfl) rfl rfl (by kernel_rfl) (by kernel_rfl) (by kernel_rfl) (fun _ _ _ h => h) (Or.inl ⟨by kernel_rfl, fun w' hS' => ?y8⟩) hS1 ?_
          case y8 => (obtain ⟨s0, s1, t0, t1, t2, t3, t4, t5, u0, u1, u2, u3, u4⟩ := hS'; go_simp)
          simp only [Act.put, List.setIfInBounds_toArray, List.set_cons_zero, List.set_cons_succ]
          refine wpAnyHI_take (i := 9) (v := (.pointer (some ⟨b, pre.length * 6, none⟩))) 68 (by kernel_rfl) rfl rfl (by kernel_rfl) (by kernel_rfl) (by kernel_rfl) (fun _ _ _ h => h) (Or.inl ⟨by kernel_rfl, fun w' hS' => ?y9⟩) hS1 ?_
          case y9 => (obtain ⟨s0, s1, t0, t1, t2, t3, t4, t5, u0, u1, u2, u3, u4⟩ := hS'; go_simp)
          simp only [Act.put, List.setIfInBounds_toArray, List.set_cons_zero, List.set_cons_succ]
          refine wpAnyHI_take (i := 10) (v := (.int .i64 (p.1 : Nat))) 69 (by kernel_rfl) rfl rfl (by kernel_rfl) (by kernel_rfl) (by kernel_rfl) (fun _ _ _ h => h) (Or.inl ⟨by kernel_rfl, fun w' hS' => ?y10⟩) hS1 ?_
          case y10 => (obtain ⟨s0, s1, t0, t1, t2, t3, t4, t5, u0, u1, u2, u3, u4⟩ := hS'; go_simp)
          simp only [Act.put, List.setIfInBounds_toArray, List.set_cons_zero, List.set_cons_succ]
          refine wpAnyHI_take (i := 11) (v := (.bool false)) 70 (by kernel_rfl) rfl rfl (by kernel_rfl) (by kernel_rfl) (by kernel_rfl) (fun _ _ _ h => h) (Or.inl ⟨by kernel_rfl, fun w' hS' => ?y11⟩) hS1 ?_
          case y11 => (obtain ⟨s0, s1, t0, t1, t2, t3, t4, t5, u0, u1, u2, u3, u4⟩ := hS'; go_simp)
          simp only [Act.put, List.setIfInBounds_toArray, List.set_cons_zero, List.set_cons_succ]
          refine wpAnyHI_take (i := 12) (v := (.bool false)) 71 (by kernel_rfl) rfl rfl (by kernel_rfl) (by kernel_rfl) (by kernel_rfl) (fun _ _ _ h => h) (Or.inl ⟨by kernel_rfl, fun w' hS' => ?y12⟩) hS1 ?_
          case y12 => (obtain ⟨s0, s1, t0, t1, t2, t3, t4, t5, u0, u1, u2, u3, u4⟩ := hS'; go_simp)
          simp only [Act.put, List.setIfInBounds_toArray, List.set_cons_zero, List.set_cons_succ]
          refine wpAnyHI_take (i := 13) (v := (.bool false)) 72 (by kernel_rfl) rfl rfl (by kernel_rfl) (by kernel_rfl) (by kernel_rfl) (fun _ _ _ h => h) (Or.inl ⟨by kernel_rfl, fun w' hS' => ?y13⟩) hS1 ?_
          case y13 => (obtain ⟨s0, s1, t0, t1, t2, t3, t4, t5, u0, u1, u2, u3, u4⟩ := hS'; go_simp)
          simp only [Act.put, List.setIfInBounds_toArray, List.set_cons_zero, List.set_cons_succ]
          refine wpAnyHI_take (i := 14) (v := (nv x.2)) 73 (by kernel_rfl) rfl rfl (by kernel_rfl) (by kernel_rfl) (by kernel_rfl) (fun _ _ _ h => h) (Or.inl ⟨by kernel_rfl, fun w' hS' => ?y14⟩) hS1 ?_
          case y14 => (obtain ⟨s0, s1, t0, t1, t2, t3, t4, t5, u0, u1, u2, u3, u4⟩ := hS'; go_simp)
          simp only [Act.put, List.setIfInBounds_toArray, List.set_cons_zero, List.set_cons_succ]
          refine wpAnyHI_take (i := 15) (v := (.slice (some ⟨b, 0, none⟩) (wl U).length c)) 74 (by kernel_rfl) rfl rfl (by kernel_rfl) (by kernel_rfl) (by kernel_rfl) (fun _ _ _ h => h) (Or.inl ⟨by kernel_rfl, fun w' hS' => ?y15⟩) hS1 ?_
          case y15 => (obtain ⟨s0, s1, t0, t1, t2, t3, t4, t5, u0, u1, u2, u3, u4⟩ := hS'; go_simp)
          simp only [Act.put, List.setIfInBounds_toArray, List.set_cons_zero, List.set_cons_succ]
          refine wpAnyHI_take (i := 16) (v := (.int .i64 (pre.length : Nat))) 75 (by kernel_rfl) rfl rfl (by kernel_rfl) (by kernel_rfl) (by kernel_rfl) (fun _ _ _ h => h) (Or.inl ⟨by kernel_rfl, fun w' hS' => ?y16⟩) hS1 ?_
          case y16 => (obtain ⟨s0, s1, t0, t1, t2, t3, t4, t5, u0, u1, u2, u3, u4⟩ := hS'; go_simp)
          simp only [Act.put, List.setIfInBounds_toArray, List.set_cons_zero, List.set_cons_succ]
          refine wpAnyHI_take (i := 17) (v := (.pointer (some ⟨b, pre.length * 6, none⟩))) 76 (by kernel_rfl) rfl rfl (by kernel_rfl) (by kernel_rfl) (by kernel_rfl) (fun _ _ _ h => h) (Or.inl ⟨by kernel_rfl, fun w' hS' => ?y17⟩) hS1 ?_
          case y17 => (obtain ⟨s0, s1, t0, t1, t2, t3, t4, t5, u0, u1, u2, u3, u4⟩ := hS'; go_simp)
          simp only [Act.put, List.setIfInBounds_toArray, List.set_cons_zero, List.set_cons_succ]
          refine wpAnyHI_take (i := 18) (v := (.pointer (some ⟨b, pre.length * 6 + 1, none⟩))) 77 (by kernel_rfl) rfl rfl (by kernel_rfl) (by kernel_rfl) (by kernel_rfl) (fun _ _ _ h => h) (Or.inl ⟨by kernel_rfl, fun w' hS' => ?y18⟩) hS1 ?_
          case y18 => (obtain ⟨s0, s1, t0, t1, t2, t3, t4, t5, u0, u1, u2, u3, u4⟩ := hS'; go_simp)
          simp only [Act.put, List.setIfInBounds_toArray, List.set_cons_zero, List.set_cons_succ]
          refine wpAnyHI_take (i := 19) (v := (nv p.2)) 78 (by kernel_rfl) rfl rfl (by kernel_rfl) (by kernel_rfl) (by kernel_rfl) (fun _ _ _ h => h) (Or.inl ⟨by kernel_rfl, fun w' hS' => ?y19⟩) hS1 ?_
          case y19 => (obtain ⟨s0, s1, t0, t1, t2, t3, t4, t5, u0, u1, u2, u3, u4⟩ := hS'; go_simp)
          simp only [Act.put, List.setIfInBounds_toArray, List.set_cons_zero, List.set_cons_succ]
          refine wpAnyHI_one (i := 20) (by kernel_rfl) rfl (fun K hK => ?_)
          go_simp
          refine ⟨trivial, (CallsIn.inRound lq (callsIn_wide.2 (is_any x.2 p.2 W1.drew hwx hwp (Tn.keep (fun _ _ _ => rfl) (fun _ h => h) htx) (Tn.keep (fun _ _ _ => rfl) (fun _ h => h) htp)))).mono ?_⟩
          rintro r W2 ⟨rfl, hB⟩
          rw [hsm]
          have hB2 : Below W1.heap.size W1 W2 := ⟨hB.os, hB.tape, hB.output, hB.size, hB.block⟩
          clear hB
          have hS2 := HSS.out W2 hB2
          refine hK.out _ _ hS2 (fun _ => ?_)
          clear hK K
          try simp only [Act.put, List.setIfInBounds_toArray, List.set_cons_zero, List.set_cons_succ]
          refine wpAnyHI_take (i := 21) (v := (.bool false)) 80 (by kernel_rfl) rfl rfl (by kernel_rfl) (by kernel_rfl) (by kernel_rfl) (fun _ _ _ h => h) (Or.inl ⟨by kernel_rfl, fun w' hS' => ?y21⟩) hS2 ?_
          case y21 => (obtain ⟨s0, s1, t0, t1, t2, t3, t4, t5, u0, u1, u2, u3, u4⟩ := hS'; go_simp)
          simp only [Act.put, List.setIfInBounds_toArray, List.set_cons_zero, List.set_cons_succ]
          refine wpAnyHI_take (i := 22) (v := (.bool false)) 81 (by kernel_rfl) rfl rfl (by kernel_rfl) (by kernel_rfl) (by kernel_rfl) (fun _ _ _ h => h) (Or.inl ⟨by kernel_rfl, fun w' hS' => ?y22⟩) hS2 ?_
          case y22 => (obtain ⟨s0, s1, t0, t1, t2, t3, t4, t5, u0, u1, u2, u3, u4⟩ := hS'; go_simp)
          simp only [Act.put, List.setIfInBounds_toArray, List.set_cons_zero, List.set_cons_succ]
          refine wpAnyHI_done (by kernel_rfl) ?_ _
          have hlow2 := (Low.frames _ _).off hlow (Off.of_below hB2)
          have hs2 := (Has.frames _ _).off hs (Off.of_below hB2)
          have hC2 := HCF.out.off hCc (Off.of_below hB2)
          have hk2 : Kept X W1 W2 := Kept.below hB2
          have q0 := hs2.cell (i := 0)
          have f0 := hs2.frozen (i := 0)
          have q5 := cell_heap ((hlow2.1.block _ (by have := HHW1.out; omega)).trans (HKB.out.has (w.heap.size + 1, ibx (sv : Nat)) (by simp))) (i := 0)
          simp only [List.getElem?_toArray, List.getElem?_cons_zero] at q0 q5
          have hsz2 := hB2.size
          have hl5 := HLEN.out
          have hn1 : V1.heap.size ≠ w.heap.size + 1 := by have := HHW1.out; omega
          clear hS1 hS2 hTx htp htx hwp hwx hbp HSS hlow hs hCc hB2 z1 z2 z3 z4 hsm hwlt
          by_cases hst : pre.length + 1 = sv
          · have z5 : ((pre.length : Nat) : Int) + 1 = (sv : Nat) := by omega
            gi_wp2
            refine ⟨by rw [size_set]; exact hsz2, Kept.trans hsz2 hk2 (Kept.set hs2.1 _ _), rfl, hlow2.set (p := ⟨V1.heap.size, 0, none⟩) (Nat.le_refl _) _, ?_, by omega⟩
            have h := hs2.set (v' := .int .i64 (sv : Nat))
            simpa only [z5] using h
          · have z5 : ¬ ((pre.length : Nat) : Int) + 1 = (sv : Nat) := by omega
            gi_wp2
            refine ⟨by rw [size_set]; exact hsz2, Kept.trans hsz2 hk2 (Kept.set hs2.1 _ _), hlow2.set (p := ⟨V1.heap.size, 0, none⟩) (Nat.le_refl _) _, ?_, HCS.out _ _ _ _ (by simp) hC2, ?_⟩
            · have h := hs2.set (v' := .int .i64 ((pre ++ [x]).length : Nat))
              simpa using h
            · simp; omega
  clear hK2
  subst ht
  simp only [List.setIfInBounds_toArray, List.set_cons_zero, List.set_cons_succ] at REST
  cases hr : rgt U with
  | false =>
    refine hK _ _ ?_
    go_wp2_with fail
    have e1 : wl U = [] := by unfold wl; rw [hr]; rfl
    have e2 : pl1 a U = [] := by unfold pl1; rw [hr]; rfl
    rw [e1, e2, hr] at REST
    exact REST.out undef undef undef undef undef none none 0 0 w3 hk3 hz3 (its_nil _ _ _) (pts_nil _ _ _)
  | true =>
    have c3 := heap5 (hk3.has (w2.heap.size, rbx U) (by simp))
    have e1 : wl U = wk 0 U := by unfold wl; rw [hr]; rfl
    have e2 : pl1 a U = rpt a U := by unfold pl1; rw [hr]; rfl
    rw [e1, e2, hr] at REST
    refine hK _ _ ?_
    go_wp2_with fail
    rename_i K0 hK0
    have hk4 := hk3.drew
    have hz4 : Below w2.heap.size w2 w3.drew := below_drewN hz3 1
    clear hk3 hz3 c3
    refine wp_region_noPanic (wp_region_held (S := fun W' : World => W'.heap[w2.heap.size]? = some (rbx U)) (by kernel_rfl) ?_)
    show wpAnyH _ _ _ _ _ _ _ _ w3.drew
    generalize w3.drew = x4 at hk4 hz4 ⊢
    have hS := hk4.has (w2.heap.size, rbx U) (by simp)
    refine wpAnyH_take_d (i := 0) (v := nv U) 34 rfl rfl (by kernel_rfl) (by kernel_rfl) (by kernel_rfl) (fun _ _ _ h => h) (Or.inl ⟨by kernel_rfl, fun w' hS' => ?y0⟩) hS ?_
    case y0 => (have s0 := heap5 hS'; clear hS'; go_simp)
    simp only [Act.put, List.setIfInBounds_toArray, List.set_cons_zero, List.set_cons_succ]
    refine wpAnyH_take_d (i := 2) (v := nv U) 36 rfl rfl (by kernel_rfl) (by kernel_rfl) (by kernel_rfl) (fun _ _ _ h => h) (Or.inl ⟨by kernel_rfl, fun w' hS' => ?y2⟩) hS ?_
    case y2 => (have s0 := heap5 hS'; clear hS'; go_simp)
    simp only [Act.put, List.setIfInBounds_toArray, List.set_cons_zero, List.set_cons_succ]
    refine wpAnyH_take_d (i := 3) (v := .int .i64 a) 37 rfl rfl (by kernel_rfl) (by kernel_rfl) (by kernel_rfl) (fun _ _ _ h => h) (Or.inl ⟨by kernel_rfl, fun w' hS' => ?y3⟩) hS ?_
    case y3 => (clear hS'; go_simp)
    simp only [Act.put, List.setIfInBounds_toArray, List.set_cons_zero, List.set_cons_succ]
    refine wpAnyH_ready (rs := [1]) (by kernel_rfl) (by simp) ?_
    refine AllReadyH.cons rfl (fun K hK => ?_) AllReadyH.nil
    go_simp
    have hwU5 : wt U ≤ 5000 := by have := HWU.out; omega
    refine (rwalk_any x4.heap.size U 0 [] (.slice none 0 0) x4 (Nat.zero_le _) hwU5 (by have := cn_wt U; simp; omega) (Nat.le_refl _) (hk4.tree (T := U) (by simp)) (World.ownsRow_nil _ _ _ _)).mono ?_
    rintro r x5 ⟨v1, rfl, hi5, hg5⟩
    have hb5 : Below x4.heap.size x4 x5 := (Below.refl _ _).grown hg5.grown (Nat.le_refl _) (fun k e => by simp [Value.ownBlock] at e)
    have hk5 := hk4.step hb5
    have hz5 := hz4.trans (hb5.mono hz4.size)
    rw [List.nil_append] at hi5
    obtain ⟨A, c, rfl, hits⟩ := irow_its hi5
    have hs4 : w2.heap.size + 1 < x4.heap.size := hk4.lt (b := w2.heap.size + 1) (o := .cells #[.slice none 0 0] 42 (0, 0)) (by simp)
    have hits5 : Its (fun b => w2.heap.size + 1 < b ∧ b < x5.heap.size) x5 A (wk 0 U) := hits.keep (fun _ _ _ => rfl) fun b hb => ⟨by have := hb.1; omega, hb.2⟩
    refine hK.out _ _ (hk5.has (w2.heap.size, rbx U) (by simp)) (fun _ => ?_)
    clear hK K hits hi5 hg5 hb5 hk4 hz4 hS
    try simp only [Act.put, List.setIfInBounds_toArray, List.set_cons_zero, List.set_cons_succ]
    refine wpAnyH_ready (rs := [4]) (by kernel_rfl) (by simp) ?_
    refine AllReadyH.cons rfl (fun K hK => ?_) AllReadyH.nil
    go_simp
    refine (rpath_any a U x5 hwU5 (hk5.tree (T := U) (by simp))).mono ?_
    rintro r x6 ⟨Ap, cp, rfl, ho6, hb6⟩
    have hk6 := hk5.step hb6
    have hz6 := hz5.trans (hb6.mono hz5.size)
    have hs5 : w2.heap.size + 1 < x5.heap.size := hk5.lt (b := w2.heap.size + 1) (o := .cells #[.slice none 0 0] 42 (0, 0)) (by simp)
    have hits6 : Its (fun b => w2.heap.size + 1 < b ∧ b < x6.heap.size) x6 A (wk 0 U) := hits5.keep (fun b i hb => cell_of (hb6.block b hb.2)) fun b hb => ⟨hb.1, Nat.lt_of_lt_of_le hb.2 hb6.size⟩
    have hpts6 : Pts (fun b => w2.heap.size + 1 < b ∧ b < x6.heap.size) x6 Ap (rpt a U) := (pts_own ho6).keep (fun _ _ _ => rfl) fun b hb => ⟨by have := hb.1; omega, hb.2⟩
    refine hK.out _ _ (hk6.has (w2.heap.size, rbx U) (by simp)) (fun _ => ?_)
    clear hK K ho6 hb6 hk5 hz5 hits5
    try simp only [Act.put, List.setIfInBounds_toArray, List.set_cons_zero, List.set_cons_succ]
    refine wpAnyH_ready (rs := [5]) (by kernel_rfl) (by simp) ?_
    refine AllReadyH.cons rfl (fun K hK => ?_) AllReadyH.nil
    have hwb := hk6.has (w2.heap.size + 1, wbx0 none 0 0) (by simp)
    have q6 := cell_heap hwb (i := 0)
    have f6 := frozen_heap hwb (i := 0)
    simp only [List.getElem?_toArray, List.getElem?_cons_zero] at q6
    go_simp
    have hwd : w2.heap.size + 1 < x6.heap.size := (Array.getElem?_eq_some_iff.1 hwb).1
    have hL1 := HL1.out
    have hL2 := HL2.out
    have hk7 := hk6.put (u' := .slice A (wk 0 U).length c) (by intro q hq; simp at hq; rcases hq with rfl | rfl | rfl | rfl <;> simp <;> omega) (by omega) (by
      intro X hX
      simp at hX
      rcases hX with rfl | rfl
      · exact Tn.keep (fun b i hb => cell_of (hz6.block b hb.2)) (fun b hb => ⟨by have := hb.2; omega, by have := hb.2; omega⟩) HU.out
      · exact Tn.keep (fun b i hb => cell_of (hk6.low.block b hb)) (fun b hb => ⟨by have : b < w.heap.size := hb; omega, by have : b < w.heap.size := hb; omega⟩) HT.out)
    have hz7 : Below w2.heap.size w2 (x6.setCell ⟨w2.heap.size + 1, 0, none⟩ (.slice A (wk 0 U).length c)) := hz6.setCell (p := ⟨w2.heap.size + 1, 0, none⟩) (by simp) _
    have hits7 : Its (fun b => w2.heap.size + 1 < b ∧ b < (x6.setCell ⟨w2.heap.size + 1, 0, none⟩ (.slice A (wk 0 U).length c)).heap.size) (x6.setCell ⟨w2.heap.size + 1, 0, none⟩ (.slice A (wk 0 U).length c)) A (wk 0 U) := hits6.keep (fun b i hb => cell_of (Below.heap_setCell _ _ _ _ (by have := hb.1; simp; omega))) fun b hb => ⟨hb.1, by rw [size_set]; exact hb.2⟩
    have hpts7 : Pts (fun b => w2.heap.size + 1 < b ∧ b < (x6.setCell ⟨w2.heap.size + 1, 0, none⟩ (.slice A (wk 0 U).length c)).heap.size) (x6.setCell ⟨w2.heap.size + 1, 0, none⟩ (.slice A (wk 0 U).length c)) Ap (rpt a U) := hpts6.keep (fun b i hb => cell_of (Below.heap_setCell _ _ _ _ (by have := hb.1; simp; omega))) fun b hb => ⟨hb.1, by rw [size_set]; exact hb.2⟩
    generalize x6.setCell ⟨w2.heap.size + 1, 0, none⟩ (.slice A (wk 0 U).length c) = x7 at hk7 hz7 hits7 hpts7 ⊢
    refine hK.out _ _ (hk7.has (w2.heap.size, rbx U) (by simp)) (fun _ => ?_)
    clear hK K q6 f6 hits6 hpts6 hk6 hz6
    try simp only [Act.put, List.setIfInBounds_toArray, List.set_cons_zero, List.set_cons_succ]
    refine wpAnyH_ready (rs := [6]) (by kernel_rfl) (by simp) ?_
    refine AllReadyH.cons rfl (fun K hK => ?_) AllReadyH.nil
    go_simp
    refine hK.out _ _ (hk7.has (w2.heap.size, rbx U) (by simp)) (fun _ => ?_)
    clear hK K
    try simp only [Act.put, List.setIfInBounds_toArray, List.set_cons_zero, List.set_cons_succ]
    refine wpAnyH_done (by kernel_rfl) ?_ _
    exact REST.out (nv U) (.slice A (wk 0 U).length c) (nv U) (.int .i64 a) (.slice Ap (rpt a U).length cp) A Ap c cp x7 hk7 hz7 hits7 hpts7

theorem treeWalks_walk (T : Tr) (a s : Int) (w : World) (ha : rng a) (hs : rng s) (hz : Szd T) (hT : Tn (lo w.heap.size) w T) :
    Calls Try.prog 4 #[nv T, .int .i64 a, .int .i64 s] w fun e w' => e = .returned (.bool true) ∧ Below w.heap.size w w' := by
  by_cases h : 2000 < wt T
  · exact callsIn_wide.1 (walks_early T a s w hz hT h)
  · exact callsIn_wide.1 (walks_in T a s w ha hs hz hT (by omega))
end Go.Proofs.Ytjnclchbklehgaa
