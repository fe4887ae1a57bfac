/- expr.Parse and expr.Read. -/
import Derived.Test.YthggchkpejhaiaaGreatDoorMzExC
namespace Go.Proofs.YthggchkpejhaiaaGreatDoor
open Go.RowKit SignMath TreeMath

section
variable {b : Nat} {A : Option Addr} {c : Nat}
/-- what Parse comes to -/
def prs (C : Cu) : Cu × Tr := ((exX C).1, if (exX C).1.f = 0 then (exX C).2 else zn1)
set_option maxRecDepth 100000 in
set_option maxHeartbeats 8000000 in
theorem parse_any {w : World} {C : Cu} (h : CuM b A c C w) (hk : C.Ok) (hd : C.d ≤ 200) : Calls Tryz.prog 17 #[.pointer (some ⟨b, 0, none⟩)] w (TrV b A c (prs C) w) := by
  have ek2 := ((EK.begin h hk).alloc zb5).alloc (rdb b)
  rw [World.size_alloc] at ek2
  have HE := Lib.hid (exX_any b A c _ C ek2.cu hk hd (Nat.zero_le _))
  have hG := Got.exX C hk hd (Nat.zero_le _)
  have HG := Lib.hid hG
  have E2 := Lib.hid ek2
  clear ek2 hG h hk hd
  generalize hres : prs C = res
  have HRES := Lib.hid hres
  clear hres
  go_enter Tryz.func17, Tryz.ntmps17
  go_wp2_with fail
  refine HE.out.mono ?_
  rintro e w3 ⟨T, rfl, hp, hT, hm, ho⟩
  have ek3 := E2.out.got hT hm ⟨HG.out.ok, HG.out.L⟩ ho
  have ek4 := ek3.local_ T
  have hz3 := heap_alloc_new w3 zb5
  have hwx : w.heap.size + 1 < w3.heap.size := ek3.lt (z := w.heap.size + 1) (o := rdb b) (by simp)
  clear ek3 hT hm ho HE E2
  go_wp2_with (with_reducible refine stay_store 26 (.tmp 4) (.tmp 10) (by rfl) ?_)
  refine Stay.mk ?_
  refine wpList_store_node (by rfl) 26 (.tmp 4) (.tmp 10) (by rfl) size_tnode (w3.heap.size) T (by rfl) (by rfl) hz3 ?_
  generalize set5 (w3.alloc zb5) w3.heap.size T = w4 at ek4 ⊢
  generalize w3.heap.size = x at ek4 hwx ⊢
  clear hz3 w3
  have HF := Lib.hid (failed_any ek4.cu)
  have p0 := cell_heap (ek4.box (z := w.heap.size + 1) (o := rdb b) (by simp)) (i := 0)
  simp only [List.getElem?_toArray, List.getElem?_cons_zero] at p0
  unfold Rd Cu.fl at HF
  have E4 := Lib.hid ek4
  clear ek4
  by_cases hf : (exX C).1.f = 0
  · rw [if_pos hf] at HF
    have hr : ((exX C).1, (exX C).2) = res := by rw [← HRES.out]; unfold prs; rw [if_pos hf]
    have HR := Lib.hid hr
    clear hf hr
    go_wp2_with fail
    refine HF.out.mono ?_
    rintro e w5 ⟨rfl, hb5⟩
    have ek5 := E4.out.below hb5
    obtain ⟨t0, t1, t2, t3, t4⟩ := heap5 (ek5.box (z := x) (o := .cells (ncc T) 26 (0, 0)) (by simp))
    have hz := ek5.box (z := w.heap.size) (o := zb5) (by simp)
    have hfin := ek5.result (r := res) (T := T) (z := w.heap.size) (by simp) (by simp) hz (by rw [← HR.out]) (by rw [← HR.out, hp])
    clear ek5 hb5 hp p0 HF E4
    go_wp2_with (with_reducible refine stay_store 26 (.tmp 2) (.tmp 20) (by rfl) ?_)
    refine Stay.mk ?_
    refine wpList_store_node (by rfl) 26 (.tmp 2) (.tmp 20) (by rfl) size_tnode (w.heap.size) T (by rfl) (by rfl) hz ?_
    generalize set5 w5 w.heap.size T = w9 at hfin ⊢
    clear hz t0 t1 t2 t3 t4
    obtain ⟨hs, hv⟩ := hfin
    have HV := Lib.hid hv
    clear hv
    go_wp2
    have g0 := cell_heap hs (i := 0)
    have g1 := cell_heap hs (i := 1)
    have g2 := cell_heap hs (i := 2)
    have g3 := cell_heap hs (i := 3)
    have g4 := cell_heap hs (i := 4)
    simp only [List.getElem?_toArray, List.getElem?_cons_zero, List.getElem?_cons_succ] at g0 g1 g2 g3 g4
    refine bodyPost_ret (v := nv T) (by simp [results, Tryz.results17, go_sem, g0, g1, g2, g3, g4]) rfl HV.out
  · rw [if_neg hf] at HF
    have hr : ((exX C).1, zn1) = res := by rw [← HRES.out]; unfold prs; rw [if_neg hf]
    have HR := Lib.hid hr
    clear hf hr
    go_wp2_with fail
    refine HF.out.mono ?_
    rintro e w5 ⟨rfl, hb5⟩
    have ek5 := (E4.out.below hb5).leaf (T := zn1) rfl ⟨by show (-9223372036854775808 : Int) ≤ 0; omega, by show (0 : Int) ≤ 9223372036854775807; omega⟩
    have hz := ek5.box (z := w.heap.size) (o := zb5) (by simp)
    have hfin := ek5.result (r := res) (T := zn1) (z := w.heap.size) (by simp) (by simp) hz (by rw [← HR.out]) (by rw [← HR.out]; exact pl_leaf)
    clear ek5 hb5 hp p0 HF E4
    go_wp2_with (with_reducible refine stay_store 26 (.tmp 2) (.tmp 19) (by rfl) ?_)
    refine Stay.mk ?_
    refine wpList_store_node (by rfl) 26 (.tmp 2) (.tmp 19) (by rfl) size_tnode (w.heap.size) zn1 (by rfl) (by rfl) hz ?_
    generalize set5 w5 w.heap.size zn1 = w9 at hfin ⊢
    clear hz
    obtain ⟨hs, hv⟩ := hfin
    have HV := Lib.hid hv
    clear hv
    go_wp2
    have g0 := cell_heap hs (i := 0)
    have g1 := cell_heap hs (i := 1)
    have g2 := cell_heap hs (i := 2)
    have g3 := cell_heap hs (i := 3)
    have g4 := cell_heap hs (i := 4)
    simp only [List.getElem?_toArray, List.getElem?_cons_zero, List.getElem?_cons_succ] at g0 g1 g2 g3 g4
    refine bodyPost_ret (v := nv zn1) (by simp [results, Tryz.results17, go_sem, g0, g1, g2, g3, g4]) rfl HV.out
end

/-- can the whole text be read? its tree; what stands behind -/
def rok (s : ByteArray) : Bool := decide (s.size ≤ 4000) && (bad (tk (bs s) 0)).isNone && decide ((exX (cu0 s)).1.f = 0) && decide ((exX (cu0 s)).1.left = 0)
def rtr (s : ByteArray) : Tr := (exX (cu0 s)).2
def rtl (s : ByteArray) : ByteArray := (exX (cu0 s)).1.en
/-- what Read answers -/
def RedV (ok : Bool) (P : Tr) (tl : ByteArray) (w : World) (e : Ending) (w' : World) : Prop :=
  Below w.heap.size w w' ∧ match ok with
    | true => ∃ T, e = .returned (.tuple #[nv T, .string tl, .int .i64 0, .nilIface]) ∧ pl T = P ∧ Tn (nw w.heap.size w') w' T
    | false => ∃ (p k : Int), e = .returned (.tuple #[nv zn1, .string ⟨#[]⟩, .int .i64 p, errn k])
theorem RedV.ok {P : Tr} {tl : ByteArray} {w w' : World} {e : Ending} (hB : Below w.heap.size w w') (T : Tr) (he : e = .returned (.tuple #[nv T, .string tl, .int .i64 0, .nilIface])) (hp : pl T = P) (hT : Tn (nw w.heap.size w') w' T) : RedV true P tl w e w' := ⟨hB, T, he, hp, hT⟩
theorem RedV.err {P : Tr} {tl : ByteArray} {w w' : World} {e : Ending} (hB : Below w.heap.size w w') (p k : Int) (he : e = .returned (.tuple #[nv zn1, .string ⟨#[]⟩, .int .i64 p, errn k])) : RedV false P tl w e w' := ⟨hB, p, k, he⟩
theorem of_low2 {n b : Nat} {W W' : World} (h : Of b W W') (hn : n ≤ b) (hs : n ≤ W.heap.size) : Below n W W' :=
  ⟨h.os, h.tape, h.output, h.size, fun k hk => h.block k (by omega) (by show ¬ k = b; omega)⟩

set_option maxRecDepth 100000 in
set_option maxHeartbeats 8000000 in
theorem read_bad (s : ByteArray) (w : World) (hN : Calls Tryz.prog 16 #[.string s] (w.alloc zb5) fun e w' => ∃ a n : Int, e = .returned (.tuple #[.pointer none, .int .i64 a, errn n]) ∧ Below (w.alloc zb5).heap.size (w.alloc zb5) w') (P : Tr) (tl : ByteArray) :
    Calls Tryz.prog 7 #[.string s] w (RedV false P tl w) := by
  have HN := Lib.hid hN
  clear hN
  go_enter Tryz.func7, Tryz.ntmps7
  go_wp2_with fail
  refine HN.out.mono ?_
  rintro e w2 ⟨a, n, rfl, hb2⟩
  have hz := (hb2.block w.heap.size (by simp)).trans (heap_alloc_new w zb5)
  have hB := below_set5 ((below1 w zb5).trans (hb2.mono (by simp))) (Nat.le_refl _) zn1
  have hs := set5_self hz zn1
  have HB := Lib.hid hB
  clear hb2 hB HN
  go_wp2_with (with_reducible refine stay_store 26 (.tmp 2) (.tmp 20) (by rfl) ?_)
  refine Stay.mk ?_
  refine wpList_store_node (by rfl) 26 (.tmp 2) (.tmp 20) (by rfl) size_tnode (w.heap.size) zn1 (by rfl) (by rfl) hz ?_
  generalize set5 w2 w.heap.size zn1 = w9 at hs HB ⊢
  clear hz
  go_wp2
  have g0 := cell_heap hs (i := 0)
  have g1 := cell_heap hs (i := 1)
  have g2 := cell_heap hs (i := 2)
  have g3 := cell_heap hs (i := 3)
  have g4 := cell_heap hs (i := 4)
  simp only [List.getElem?_toArray, List.getElem?_cons_zero, List.getElem?_cons_succ] at g0 g1 g2 g3 g4
  refine bodyPost_ret (v := .tuple #[nv zn1, .string ⟨#[]⟩, .int .i64 a, errn n]) (by simp [results, Tryz.results7, go_sem, g0, g1, g2, g3, g4]) rfl (RedV.err HB.out a n rfl)

set_option maxRecDepth 100000 in
set_option maxHeartbeats 8000000 in
theorem read_good (s : ByteArray) (hs : s.size ≤ 4000) (w : World) (hN : Calls Tryz.prog 16 #[.string s] (w.alloc zb5) fun e w' => ∃ b A c, e = .returned (.tuple #[.pointer (some ⟨b, 0, none⟩), .int .i64 0, .nilIface]) ∧ (w.alloc zb5).heap.size ≤ b ∧ CuM b A c (cu0 s) w' ∧ Below (w.alloc zb5).heap.size (w.alloc zb5) w') :
    Calls Tryz.prog 7 #[.string s] w (RedV (decide ((exX (cu0 s)).1.f = 0) && decide ((exX (cu0 s)).1.left = 0)) (rtr s) (rtl s) w) := by
  have HN := Lib.hid hN
  have hk := cu0_ok s hs
  have hG := Got.exX (cu0 s) hk (Nat.zero_le _) (Nat.zero_le _)
  have HK := Lib.hid hk
  have HG := Lib.hid hG
  have hleft : (exX (cu0 s)).1.left ≤ 4000 := by
    have h1 := hG.ok.len
    unfold Cu.left
    split <;> omega
  have HLF := Lib.hid hleft
  unfold rtr rtl
  generalize hok : (decide ((exX (cu0 s)).1.f = 0) && decide ((exX (cu0 s)).1.left = 0)) = ok
  have HOK := Lib.hid hok
  clear hN hk hG hs hleft hok
  go_enter Tryz.func7, Tryz.ntmps7
  go_wp2_with fail
  refine HN.out.mono ?_
  rintro e w2 ⟨b, A, c, rfl, hwb, hm2, hb2⟩
  have hz2 := (hb2.block w.heap.size (by simp)).trans (heap_alloc_new w zb5)
  rw [World.size_alloc] at hwb
  have HWB := Lib.hid hwb
  have hB2 := (below1 w zb5).trans (hb2.mono (by simp))
  have HB2 := Lib.hid hB2
  have ek2 := (EK.begin hm2 HK.out).has_ (z := w.heap.size) (o := zb5) (by show ¬ w.heap.size = b; omega) hz2
  have HP := Lib.hid (parse_any hm2 HK.out (Nat.zero_le _))
  have hsz2 : w.heap.size < w2.heap.size := (Array.getElem?_eq_some_iff.1 hz2).1
  have E2 := Lib.hid ek2
  clear hm2 hb2 hz2 hB2 ek2 hwb HN
  go_wp2_with fail
  refine HP.out.mono ?_
  rintro e w3 ⟨T, rfl, hp, hT, hm, ho⟩
  have ek3 := E2.out.got hT hm ⟨HG.out.ok, HG.out.L⟩ ho
  have ek4 := ek3.local_ T
  have hz3 := heap_alloc_new w3 zb5
  clear ek3 hT hm ho HP E2
  go_wp2_with (with_reducible refine stay_store 26 (.tmp 9) (.tmp 24) (by rfl) ?_)
  refine Stay.mk ?_
  refine wpList_store_node (by rfl) 26 (.tmp 9) (.tmp 24) (by rfl) size_tnode (w3.heap.size) T (by rfl) (by rfl) hz3 ?_
  generalize set5 (w3.alloc zb5) w3.heap.size T = w4 at ek4 ⊢
  generalize w3.heap.size = x at ek4 ⊢
  clear hz3 w3
  have HL := Lib.hid (left_any ek4.cu ek4.ok)
  unfold Rd at HL
  have E4 := Lib.hid ek4
  unfold prs at hp
  have hxx : w2.heap.size ≤ x := (ek4.zn x (by simp)).1
  clear ek4
  unfold prs at HL E4
  simp only at HL E4 hp
  have HERR : Hid (∀ (C : Cu) (W : World) (bs : List (Nat × Obj)), EK b A c no (· = b) w2 C bs [x] [T] W → W.heap[w.heap.size]? = some zb5 → (set5 W w.heap.size zn1).heap[w.heap.size]? = some (.cells (ncc zn1) 26 (0, 0)) ∧ Below w.heap.size w (set5 W w.heap.size zn1)) := Lib.hid fun C W bs he hz => ⟨set5_self hz zn1, below_set5 (HB2.out.trans (of_low2 he.off (by have := HWB.out; omega) HB2.out.size)) (Nat.le_refl _) zn1⟩
  by_cases hlf : (exX (cu0 s)).1.left = 0
  · rw [hlf] at HL
    by_cases hf : (exX (cu0 s)).1.f = 0
    · rw [if_pos hf] at hp
      have hokv : ok = true := by rw [← HOK.out, decide_eq_true hf, decide_eq_true hlf]; rfl
      have HOV := Lib.hid hokv
      clear hlf HERR hokv
      go_wp2_with fail
      refine HL.out.mono ?_
      rintro e w5 ⟨rfl, hb5⟩
      have ek5 := E4.out.below hb5
      have HF := Lib.hid (failed_any ek5.cu)
      unfold Rd Cu.fl at HF
      rw [if_pos hf] at HF
      have E5 := Lib.hid ek5
      clear ek5 hb5 hf HL E4
      go_wp2_with fail
      refine HF.out.mono ?_
      rintro e w6 ⟨rfl, hb6⟩
      have ek6 := (E5.out.below hb6).drew
      have HEN := Lib.hid (end_any ek6.cu ek6.ok)
      unfold Rd at HEN
      have E6 := Lib.hid ek6
      clear ek6 hb6 HF E5
      go_wp2
      rename_i K0 hK0
      refine wp_region_noPanic (wp_region_held (S := fun W' : World => W'.heap[x]? = some (.cells (ncc T) 26 (0, 0)) ∧ True) (by kernel_rfl) ?_)
      show wpAnyH _ _ _ _ _ _ _ _ w6.drew
      generalize w6.drew = w7 at HEN E6 ⊢
      have hS0 : w7.heap[x]? = some (.cells (ncc T) 26 (0, 0)) ∧ True := ⟨E6.out.box (z := x) (o := .cells (ncc T) 26 (0, 0)) (by simp), trivial⟩
      refine wpAnyH_take_d (i := 0) (v := nv T) 40 rfl rfl (by kernel_rfl) (by kernel_rfl) (by kernel_rfl) (fun _ _ _ h => h) (Or.inl ⟨by kernel_rfl, fun w' hS' => ?y0⟩) hS0 ?_
      case y0 => (obtain ⟨s0, s1, s2, s3, s4⟩ := heap5 (hS'.1); clear hS'; go_simp)
      simp only [Act.put, List.setIfInBounds_toArray, List.set_cons_zero, List.set_cons_succ]
      refine wpAnyH_take_d (i := 1) (v := .pointer (some ⟨b, 0, none⟩)) 41 rfl rfl (by kernel_rfl) (by kernel_rfl) (by kernel_rfl) (fun _ _ _ h => h) (Or.inl ⟨by kernel_rfl, fun w' hS' => ?y1⟩) hS0 ?_
      case y1 => (skip; clear hS'; go_simp)
      simp only [Act.put, List.setIfInBounds_toArray, List.set_cons_zero, List.set_cons_succ]
      refine wpAnyH_ready (rs := [2]) (by kernel_rfl) (by simp) ?_
      refine AllReadyH.cons rfl (fun K hK => ?_) AllReadyH.nil
      go_simp
      refine (HEN.out).mono ?_
      rintro e w8 ⟨rfl, hb8⟩
      have ek_ := E6.out.below hb8
      have hS2 : w8.heap[x]? = some (.cells (ncc T) 26 (0, 0)) ∧ True := ⟨ek_.box (z := x) (o := .cells (ncc T) 26 (0, 0)) (by simp), trivial⟩
      have E8 := Lib.hid ek_
      clear ek_
      clear hb8 E6 HEN
      refine hK.out _ _ hS2 (fun _ => ?_)
      clear hK K
      try simp only [Act.put, List.setIfInBounds_toArray, List.set_cons_zero, List.set_cons_succ]
      refine wpAnyH_ready (rs := [3]) (by kernel_rfl) (by simp) ?_
      refine AllReadyH.cons rfl (fun K hK => ?_) AllReadyH.nil
      refine step_store_node (by rfl) 26 (.tmp 2) (.tmp 40) (by rfl) size_tnode w.heap.size T (by rfl) (by rfl) (E8.out.box (z := w.heap.size) (o := zb5) (by simp)) ?_
      have hs := set5_self (E8.out.box (z := w.heap.size) (o := zb5) (by simp)) T
      have hS3 : (set5 w8 w.heap.size T).heap[x]? = some (.cells (ncc T) 26 (0, 0)) ∧ True := ⟨(set5_other (by omega) T).trans (E8.out.box (z := x) (o := .cells (ncc T) 26 (0, 0)) (by simp)), trivial⟩
      have hB9 := below_set5 (HB2.out.trans (of_low2 E8.out.off (by have := HWB.out; omega) HB2.out.size)) (Nat.le_refl _) T
      have hT9 : Tn (nw w.heap.size (set5 w8 w.heap.size T)) (set5 w8 w.heap.size T) T := (E8.out.tn T (by simp)).keep (fun k _ hk => cell_of (set5_other (by have := hk.1.resolve_left (fun h => h); omega) T)) (fun k hk => by have := hk.1.resolve_left (fun h => h); exact ⟨by omega, by rw [set5_size]; exact this.2⟩)
      generalize set5 w8 w.heap.size T = w9 at hs hS3 hB9 hT9 ⊢
      have HV := Lib.hid (And.intro hB9 hT9)
      clear hB9 hT9 E8
      refine hK.out _ _ hS3 (fun _ => ?_)
      clear hK K
      try simp only [Act.put, List.setIfInBounds_toArray]
      refine wpAnyH_take_d (i := 4) (v := .string (exX (cu0 s)).1.en) 3 rfl rfl (by kernel_rfl) (by kernel_rfl) (by kernel_rfl) (fun _ _ _ h => h) (Or.inl ⟨by kernel_rfl, fun w' hS' => ?y4⟩) hS3 ?_
      case y4 => (skip; clear hS'; go_simp)
      simp only [Act.put]
      refine wpAnyH_take_d (i := 5) (v := .int .i64 0) 4 rfl rfl (by kernel_rfl) (by kernel_rfl) (by kernel_rfl) (fun _ _ _ h => h) (Or.inl ⟨by kernel_rfl, fun w' hS' => ?y5⟩) hS3 ?_
      case y5 => (skip; clear hS'; go_simp)
      simp only [Act.put]
      refine wpAnyH_take_d (i := 6) (v := .nilIface) 5 rfl rfl (by kernel_rfl) (by kernel_rfl) (by kernel_rfl) (fun _ _ _ h => h) (Or.inl ⟨by kernel_rfl, fun w' hS' => ?y6⟩) hS3 ?_
      case y6 => (skip; clear hS'; go_simp)
      simp only [Act.put]
      refine wpAnyH_done (by kernel_rfl) ?_ _
      refine hK0 _ _ ?_
      clear hS0 hS2 hS3 hK0
      go_wp2
      have g0 := cell_heap hs (i := 0)
      have g1 := cell_heap hs (i := 1)
      have g2 := cell_heap hs (i := 2)
      have g3 := cell_heap hs (i := 3)
      have g4 := cell_heap hs (i := 4)
      simp only [List.getElem?_toArray, List.getElem?_cons_zero, List.getElem?_cons_succ] at g0 g1 g2 g3 g4
      refine bodyPost_ret (v := .tuple #[nv T, .string (exX (cu0 s)).1.en, .int .i64 0, .nilIface]) (by simp [results, Tryz.results7, go_sem, g0, g1, g2, g3, g4]) rfl (by rw [HOV.out]; exact RedV.ok HV.out.1 T rfl hp HV.out.2)
    · have hokv : ok = false := by rw [← HOK.out, decide_eq_false hf]; rfl
      have HOV := Lib.hid hokv
      clear hokv
      clear hlf hp
      go_wp2_with fail
      refine HL.out.mono ?_
      rintro e w5 ⟨rfl, hb5⟩
      have ek5 := E4.out.below hb5
      have HF := Lib.hid (failed_any ek5.cu)
      unfold Rd Cu.fl at HF
      rw [if_neg hf] at HF
      have E5 := Lib.hid ek5
      clear ek5 hb5 hf HL E4
      generalize (exX (cu0 s)).1.p = pp at HF
      generalize (exX (cu0 s)).1.f = ff at HF
      go_wp2_with fail
      refine HF.out.mono ?_
      rintro e w6 ⟨rfl, hb6⟩
      have ek6 := E5.out.below hb6
      have hz := ek6.box (z := w.heap.size) (o := zb5) (by simp)
      obtain ⟨hs, hB⟩ := HERR.out _ _ _ ek6 hz
      have HB := Lib.hid hB
      clear ek6 hb6 HF E5 hB HERR
      go_wp2_with (with_reducible refine stay_store 26 (.tmp 2) (.tmp 37) (by rfl) ?_)
      refine Stay.mk ?_
      refine wpList_store_node (by rfl) 26 (.tmp 2) (.tmp 37) (by rfl) size_tnode (w.heap.size) zn1 (by rfl) (by rfl) hz ?_
      generalize hw9 : set5 _ w.heap.size zn1 = w9 at hs HB ⊢
      clear hz hw9
      go_wp2
      have g0 := cell_heap hs (i := 0)
      have g1 := cell_heap hs (i := 1)
      have g2 := cell_heap hs (i := 2)
      have g3 := cell_heap hs (i := 3)
      have g4 := cell_heap hs (i := 4)
      simp only [List.getElem?_toArray, List.getElem?_cons_zero, List.getElem?_cons_succ] at g0 g1 g2 g3 g4
      refine bodyPost_ret (v := .tuple #[nv zn1, .string ⟨#[]⟩, .int .i64 pp, errn ff]) (by simp [results, Tryz.results7, go_sem, g0, g1, g2, g3, g4]) rfl (by rw [HOV.out]; exact RedV.err HB.out pp ff rfl)
  · have hokv : ok = false := by rw [← HOK.out, decide_eq_false hlf, Bool.and_false]
    have HOV := Lib.hid hokv
    clear hokv
    have z1 : (0 : Int) < ((exX (cu0 s)).1.left : Nat) := by omega
    have z2 : (((exX (cu0 s)).1.left : Nat) : Int) ≤ 4000 := by have := HLF.out; omega
    generalize (exX (cu0 s)).1.left = lf at HL z1 z2
    clear hlf hp HLF
    go_wp2_with fail
    refine HL.out.mono ?_
    rintro e w5 ⟨rfl, hb5⟩
    have ek5 := E4.out.below hb5
    have HFA := Lib.hid (fail_any 2 ⟨by omega, by omega⟩ ek5.cu ek5.ok)
    unfold CuV at HFA
    have E5 := Lib.hid ek5
    clear ek5 hb5 HL E4
    go_wp2_with fail
    refine HFA.out.mono ?_
    rintro e w6 ⟨⟨v, rfl⟩, hm6, ho6⟩
    have ek6 := E5.out.call hm6 ⟨E5.out.ok.fail 2, Cu.fail_L _ 2⟩ ho6
    have HF := Lib.hid (failed_any ek6.cu)
    unfold Rd Cu.fl at HF
    rw [if_neg (Cu.fail_f _ 2)] at HF
    have E6 := Lib.hid ek6
    clear ek6 hm6 ho6 HFA E5
    generalize ((exX (cu0 s)).1.fail 2).p = pp at HF
    generalize ((exX (cu0 s)).1.fail 2).f = ff at HF
    go_wp2_with fail
    refine HF.out.mono ?_
    rintro e w7 ⟨rfl, hb7⟩
    have ek7 := E6.out.below hb7
    have hz := ek7.box (z := w.heap.size) (o := zb5) (by simp)
    obtain ⟨hs, hB⟩ := HERR.out _ _ _ ek7 hz
    have HB := Lib.hid hB
    clear ek7 hb7 HF E6 hB HERR
    go_wp2_with (with_reducible refine stay_store 26 (.tmp 2) (.tmp 37) (by rfl) ?_)
    refine Stay.mk ?_
    refine wpList_store_node (by rfl) 26 (.tmp 2) (.tmp 37) (by rfl) size_tnode (w.heap.size) zn1 (by rfl) (by rfl) hz ?_
    generalize hw9 : set5 _ w.heap.size zn1 = w9 at hs HB ⊢
    clear hz hw9
    go_wp2
    have g0 := cell_heap hs (i := 0)
    have g1 := cell_heap hs (i := 1)
    have g2 := cell_heap hs (i := 2)
    have g3 := cell_heap hs (i := 3)
    have g4 := cell_heap hs (i := 4)
    simp only [List.getElem?_toArray, List.getElem?_cons_zero, List.getElem?_cons_succ] at g0 g1 g2 g3 g4
    refine bodyPost_ret (v := .tuple #[nv zn1, .string ⟨#[]⟩, .int .i64 pp, errn ff]) (by simp [results, Tryz.results7, go_sem, g0, g1, g2, g3, g4]) rfl (by rw [HOV.out]; exact RedV.err HB.out pp ff rfl)

theorem read_any (s : ByteArray) (w : World) (hL : LaidX w) : Calls Tryz.prog 7 #[.string s] w (RedV (rok s) (rtr s) (rtl s) w) := by
  have h := new_any s (w.alloc zb5) (hL.below (below1 w zb5))
  unfold NewV at h
  unfold rok
  by_cases hs : 4000 < s.size
  · simp only [if_pos hs] at h
    rw [decide_eq_false (show ¬ s.size ≤ 4000 by omega)]
    simp only [Bool.false_and]
    exact read_bad s w (h.mono fun e w' ⟨h1, h2⟩ => ⟨_, _, h1, h2⟩) _ _
  · simp only [if_neg hs] at h
    rw [decide_eq_true (show s.size ≤ 4000 by omega), Bool.true_and]
    cases hb : bad (tk (bs s) 0) with
    | some t =>
      simp only [hb] at h
      simp only [Option.isNone_some, Bool.false_and]
      exact read_bad s w (h.mono fun e w' ⟨h1, h2⟩ => ⟨_, _, h1, h2⟩) _ _
    | none =>
      simp only [hb] at h
      simp only [Option.isNone_none, Bool.true_and]
      exact read_good s (by omega) w h

/-- a text that can be read: its tree's leaves are the text's, it is right, and no heavier than that -/
theorem rok_facts {s : ByteArray} (h : rok s = true) : s.size ≤ 4000 ∧ rgt (rtr s) = true ∧ TreeMath.lf (rtr s) = lvl s 0 (cu0 s).L ∧ wt (rtr s) ≤ 9000 ∧ tx (TreeMath.lf (rtr s)) ++ rtl s = s := by
  unfold rok at h
  simp only [Bool.and_eq_true, decide_eq_true_eq] at h
  obtain ⟨⟨⟨hs, hb⟩, hf⟩, hl⟩ := h
  have hk := cu0_ok s hs
  have hG := Got.exX (cu0 s) hk (Nat.zero_le _) (Nat.zero_le _)
  have hn : (exX (cu0 s)).1.n = (cu0 s).L.length := by
    have h1 := hG.ok.n
    rw [hG.L] at h1
    unfold Cu.left at hl
    rw [if_pos hf, hG.L] at hl
    omega
  have hlv := hG.lv hf
  rw [hn, List.take_length] at hlv
  have h0 : (cu0 s).L.take (cu0 s).n = [] := rfl
  rw [h0] at hlv
  have hlf : TreeMath.lf (rtr s) = lvl s 0 (cu0 s).L := by
    have : lvl (cu0 s).s 0 (cu0 s).L = lvl (cu0 s).s 0 [] ++ [rtr s].flatMap TreeMath.lf := hlv
    rw [List.flatMap_cons, List.flatMap_nil, List.append_nil] at this
    exact this.symm
  have hr : rgt (rtr s) = true := hG.rg hf _ (by simp [rtr])
  have hen : rtl s = (cuk s (cu0 s).L.length).en := by
    unfold rtl Cu.en
    rw [if_pos ⟨hf, hl⟩, if_pos ⟨rfl, by rw [cuk_left, Nat.sub_self]⟩]
    have e1 : (exX (cu0 s)).1.s = s := hG.s
    have e2 : (exX (cu0 s)).1.beh = (cuk s (cu0 s).L.length).beh := by
      unfold Cu.beh
      rw [hn, hG.L]
      rfl
    rw [e1, e2]
    rfl
  have htx : tx (TreeMath.lf (rtr s)) ++ rtl s = s := by rw [hlf, hen]; exact cu0_all s
  refine ⟨hs, hr, hlf, ?_, htx⟩
  have h1 := wt_le hr
  have h2 : (tx (TreeMath.lf (rtr s))).size ≤ s.size := by
    have := congrArg ByteArray.size htx
    rw [ByteArray.size_append] at this
    omega
  have h3 := hG.cn hf
  simp only [List.map_cons, List.map_nil, List.sum_cons, List.sum_nil, List.flatMap_cons, List.flatMap_nil, List.append_nil] at h3
  have h4 : (TreeMath.lf (rtr s)).length ≤ 4000 := by
    rw [hlf, lvl_len]
    exact hk.len
  have h5 : TreeMath.cn (rtr s) + 0 + 0 ≤ 2 * (TreeMath.lf (rtr s)).length := h3
  omega
end Go.Proofs.YthggchkpejhaiaaGreatDoor

namespace Go.Proofs.YthggchkpejhaiaaGreatDoor
open Go.RowKit SignMath TreeMath

def sEx1 : ByteArray := ⟨#[97, 32, 43, 32, 98, 32, 42, 32, 99]⟩
def sEx2 : ByteArray := ⟨#[49, 32, 60, 32, 50, 32, 38, 38, 32, 33, 120]⟩
theorem ex1_is : (rok sEx1 && decide ((rtr sEx1).k = 18) && decide ((rtr sEx1).kids.map (·.k) = [28, 1, 20])) = true := by decide +kernel
theorem ex2_is : (rok sEx2 && decide ((rtr sEx2).k = 16)) = true := by decide +kernel
theorem pl_parts {T P : Tr} (h : pl T = P) : T.k = P.k ∧ T.kids.map (·.k) = P.kids.map (·.k) := by
  subst h
  rw [pl_eq]
  refine ⟨rfl, ?_⟩
  simp only [List.map_map]
  exact List.map_congr_left fun x _ => by simp only [Function.comp]; rw [pl_eq]

set_option maxRecDepth 100000 in
set_option maxHeartbeats 8000000 in
theorem exprAlive_any (w : World) (hL : LaidX w) : Calls Tryz.prog 6 #[] w fun e w' => e = .returned (.bool true) ∧ Below w.heap.size w w' := by
  have i1 := ex1_is
  have i2 := ex2_is
  simp only [Bool.and_eq_true, decide_eq_true_eq] at i1 i2
  obtain ⟨⟨o1, k1⟩, l1⟩ := i1
  obtain ⟨o2, k2⟩ := i2
  have H1 : Hid (∀ W, LaidX W → Calls Tryz.prog 7 #[.string ⟨#[97, 32, 43, 32, 98, 32, 42, 32, 99]⟩] W (RedV true (rtr sEx1) (rtl sEx1) W)) := Lib.hid fun W h => by have := read_any sEx1 W h; rwa [o1] at this
  have H2 : Hid (∀ W, LaidX W → Calls Tryz.prog 7 #[.string ⟨#[49, 32, 60, 32, 50, 32, 38, 38, 32, 33, 120]⟩] W (RedV true (rtr sEx2) (rtl sEx2) W)) := Lib.hid fun W h => by have := read_any sEx2 W h; rwa [o2] at this
  have HL := Lib.hid hL
  have HK1 := Lib.hid (And.intro k1 l1)
  have HK2 := Lib.hid k2
  generalize rtr sEx1 = P1 at H1 HK1
  generalize rtl sEx1 = t1 at H1
  generalize rtr sEx2 = P2 at H2 HK2
  generalize rtl sEx2 = t2 at H2
  have C1 := Lib.hid (H1.out w hL)
  clear o1 k1 l1 o2 k2 hL H1
  go_enter Tryz.func6, Tryz.ntmps6
  go_wp2_with fail
  refine C1.out.mono ?_
  rintro e w1 ⟨hb1, T1, rfl, hp1, hT1⟩
  have hz1 := heap_alloc_new w1 zb5
  have hs1 := set5_self hz1 T1
  have hB1 : Below w.heap.size w (set5 (w1.alloc zb5) w1.heap.size T1) := below_set5 (hb1.alloc hb1.size _) hb1.size _
  have hT1' : Tn (lo w1.heap.size) (set5 (w1.alloc zb5) w1.heap.size T1) T1 := hT1.keep (fun k _ hk => cell_of ((set5_other (by have := hk.2; omega) T1).trans (Below.heap_alloc _ _ _ hk.2))) fun _ hk => hk.2
  have hsz1 : w1.heap.size < (set5 (w1.alloc zb5) w1.heap.size T1).heap.size := by rw [set5_size]; simp
  clear hT1 hb1 C1
  go_wp2_with (with_reducible refine stay_store 26 (.tmp 1) (.tmp 11) (by rfl) ?_)
  refine Stay.mk ?_
  refine wpList_store_node (by rfl) 26 (.tmp 1) (.tmp 11) (by rfl) size_tnode (w1.heap.size) T1 (by rfl) (by rfl) hz1 ?_
  generalize set5 (w1.alloc zb5) w1.heap.size T1 = w2 at hs1 hB1 hT1' hsz1 ⊢
  generalize w1.heap.size = x1 at hs1 hT1' hsz1 ⊢
  clear hz1 w1
  have C2 := Lib.hid (H2.out w2 (HL.out.below hB1))
  have F1 := Lib.hid (And.intro hs1 (And.intro hB1 (And.intro hT1' hsz1)))
  clear hs1 hB1 hT1' hsz1 H2 HL
  go_wp2_with fail
  refine C2.out.mono ?_
  rintro e w3 ⟨hb3, T2, rfl, hp2, hT2⟩
  have hz3 := heap_alloc_new w3 zb5
  have hs3 := set5_self hz3 T2
  have hx1 : x1 < w3.heap.size := by have := F1.out.2.2.2; have := hb3.size; omega
  have all3 : ∀ k, k < w2.heap.size → (set5 (w3.alloc zb5) w3.heap.size T2).heap[k]? = w2.heap[k]? := fun k hk => (set5_other (by have := hb3.size; omega) T2).trans ((Below.heap_alloc _ _ _ (by have := hb3.size; omega)).trans (hb3.block k hk))
  have hB3 : Below w.heap.size w (set5 (w3.alloc zb5) w3.heap.size T2) := F1.out.2.1.trans (below_set5 ((hb3.mono F1.out.2.1.size).alloc (by have := hb3.size; have := F1.out.2.1.size; omega) _) (by have := hb3.size; have := F1.out.2.1.size; omega) _)
  have hs1' := (all3 x1 F1.out.2.2.2).trans F1.out.1
  have hT1 : Tn (lo x1) (set5 (w3.alloc zb5) w3.heap.size T2) T1 := F1.out.2.2.1.keep (fun k _ hk => cell_of (all3 k (by have := F1.out.2.2.2; have : k < x1 := hk; omega))) fun _ hk => hk
  clear hT2 hb3 C2 all3
  go_wp2_with (with_reducible refine stay_store 26 (.tmp 5) (.tmp 17) (by rfl) ?_)
  refine Stay.mk ?_
  refine wpList_store_node (by rfl) 26 (.tmp 5) (.tmp 17) (by rfl) size_tnode (w3.heap.size) T2 (by rfl) (by rfl) hz3 ?_
  generalize set5 (w3.alloc zb5) w3.heap.size T2 = w4 at hs3 hB3 hs1' hT1 ⊢
  generalize w3.heap.size = x3 at hs3 hx1 ⊢
  clear hz3 w3 F1
  obtain ⟨a1, b1⟩ := pl_parts hp1
  obtain ⟨a2, -⟩ := pl_parts hp2
  rw [HK1.out.1] at a1
  rw [HK1.out.2] at b1
  rw [HK2.out] at a2
  have hlen : T1.kids.length = 3 := by have := congrArg List.length b1; simpa using this
  obtain ⟨z, hz⟩ : ∃ z, T1.kids[2]? = some z := ⟨_, List.getElem?_eq_getElem (by omega)⟩
  have hzk : z.k = 20 := by
    have := congrArg (·[2]?) b1
    simp only [List.getElem?_map, hz] at this
    simpa using this
  obtain ⟨g, off, hA, -, d0, -⟩ := hT1.at_ hz
  obtain ⟨t0, t1, t2, t3, t4⟩ := heap5 hs1'
  obtain ⟨u0, u1, u2, u3, u4⟩ := heap5 hs3
  rw [hA, hlen] at t4
  rw [a1] at t0
  rw [hzk] at d0
  rw [a2] at u0
  have HB := Lib.hid hB3
  clear hp1 hp2 a1 b1 a2 hlen hz hzk hT1 hA hs1' hs3 hB3 HK1 HK2 t1 t2 t3 u1 u2 u3 u4
  go_wp2
  go_ret
  exact ⟨rfl, HB.out⟩
end Go.Proofs.YthggchkpejhaiaaGreatDoor
