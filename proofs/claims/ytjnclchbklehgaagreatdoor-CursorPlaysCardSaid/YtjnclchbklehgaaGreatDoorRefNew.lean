/- The document's cursor: Want, New. -/
import Derived.Test.YtjnclchbklehgaaGreatDoorRefTake
import Derived.Test.YtjnclchbklehgaaGreatDoorMzCur
import Derived.Test.YtjnclchbklehgaaGreatDoorLexRealsWalk
namespace Go.Proofs.YtjnclchbklehgaaGreatDoor
open Go.RowKit SignMath TreeMath

attribute [local go_sem] Oper.semAt_some

section
variable {A : Option Addr} {c : Nat} {C : Cu} {W : World}

set_option maxRecDepth 100000 in
set_option maxHeartbeats 1000000 in
theorem rwant_any (s : ByteArray) (hr : RcR C A W) (hk : C.Ok) : Calls Tryz.prog 16 #[rcv C A c, .string s] W (Rd W (.tuple #[rcv (C.take (C.isb 0 s)).1 A c, nv (C.take (C.isb 0 s)).2])) := by
  obtain ⟨hB, hx, hz, hn⟩ := three_boxes W C A c
  have HI : Hid (∀ W' : World, RcR C A W' → Calls Tryz.prog 49 #[rcv C A c, .int .i64 0, .string s] W' (Rd W' (.bool (C.isb 0 s)))) := Lib.hid fun W' h' => ris_any 0 s h' hk
  have HTK : Hid (∀ W' : World, RcR C A W' → Calls Tryz.prog 45 #[rcv C A c, .bool (C.isb 0 s)] W' (Rd W' (.tuple #[rcv (C.take (C.isb 0 s)).1 A c, nv (C.take (C.isb 0 s)).2]))) := Lib.hid fun W' h' => rtake_any _ h' hk
  unfold Rd at HI HTK ⊢
  generalize C.isb 0 s = bq at HI HTK ⊢
  generalize C.take bq = r at HTK ⊢
  obtain ⟨C', X⟩ := r
  simp only at HTK ⊢
  have hd : Below (((W.alloc (rcb C A c)).alloc zb6).alloc zn7).heap.size (((W.alloc (rcb C A c)).alloc zb6).alloc zn7) (((W.alloc (rcb C A c)).alloc zb6).alloc zn7).drew := ⟨rfl, rfl, rfl, Nat.le_refl _, fun _ _ => rfl⟩
  have hr2 := rc_after (rc_after hr hB) hd
  have hx2 : (((W.alloc (rcb C A c)).alloc zb6).alloc zn7).drew.heap[W.heap.size]? = some (rcb C A c) := hx
  have hz2 : (((W.alloc (rcb C A c)).alloc zb6).alloc zn7).drew.heap[W.heap.size + 1]? = some zb6 := hz
  have hn2 : (((W.alloc (rcb C A c)).alloc zb6).alloc zn7).drew.heap[W.heap.size + 2]? = some zn7 := hn
  have hlow2 := hB.trans (hd.mono hB.size)
  clear hr hk hB hx hz hn hd
  go_enter Tryz.func16, Tryz.ntmps16
  go_wp2
  rename_i K0 hK0
  refine wp_region_noPanic (wp_region_held (S := fun W' : World => W'.heap[W.heap.size]? = some (rcb C A c)) (by kernel_rfl) ?_)
  show wpAnyH _ _ _ _ _ _ _ _ (((W.alloc (rcb C A c)).alloc zb6).alloc zn7).drew
  generalize (((W.alloc (rcb C A c)).alloc zb6).alloc zn7).drew = w2 at hr2 hx2 hz2 hn2 hlow2 ⊢
  refine wpAnyH_take_d (i := 0) (v := rcv C A c) 6 rfl rfl (by kernel_rfl) (by kernel_rfl) (by kernel_rfl) (fun _ _ _ h => h) (Or.inl ⟨by kernel_rfl, fun w' hS' => ?y0⟩) (hx2) ?_
  case y0 => (obtain ⟨s0, s1, s2, s3, s4, s5⟩ := heap6 hS'; clear hS'; go_simp)
  simp only [Act.put, List.setIfInBounds_toArray, List.set_cons_zero, List.set_cons_succ]
  refine wpAnyH_take_d (i := 1) (v := rcv C A c) 7 rfl rfl (by kernel_rfl) (by kernel_rfl) (by kernel_rfl) (fun _ _ _ h => h) (Or.inl ⟨by kernel_rfl, fun w' hS' => ?y1⟩) (hx2) ?_
  case y1 => (obtain ⟨s0, s1, s2, s3, s4, s5⟩ := heap6 hS'; clear hS'; go_simp)
  simp only [Act.put, List.setIfInBounds_toArray, List.set_cons_zero, List.set_cons_succ]
  refine wpAnyH_take_d (i := 2) (v := .string s) 8 rfl rfl (by kernel_rfl) (by kernel_rfl) (by kernel_rfl) (fun _ _ _ h => h) (Or.inl ⟨by kernel_rfl, fun w' hS' => ?y2⟩) (hx2) ?_
  case y2 => (clear hS'; go_simp)
  simp only [Act.put, List.setIfInBounds_toArray, List.set_cons_zero, List.set_cons_succ]
  refine wpAnyH_ready (rs := [3]) (by kernel_rfl) (by simp) ?_
  refine AllReadyH.cons rfl (fun K hK => ?_) AllReadyH.nil
  go_simp
  refine (HI.out w2 hr2).mono ?_
  rintro e w3 ⟨rfl, hb3⟩
  have hr3 := rc_after hr2 hb3
  have hx3 := (hb3.block _ (Array.getElem?_eq_some_iff.1 hx2).1).trans hx2
  have hz3 := (hb3.block _ (Array.getElem?_eq_some_iff.1 hz2).1).trans hz2
  have hn3 := (hb3.block _ (Array.getElem?_eq_some_iff.1 hn2).1).trans hn2
  have hlow3 := hlow2.trans (hb3.mono hlow2.size)
  clear hb3
  refine hK.out _ _ (hx3) (fun _ => ?_)
  clear hK K
  try simp only [Act.put, List.setIfInBounds_toArray, List.set_cons_zero, List.set_cons_succ]
  refine wpAnyH_ready (rs := [4]) (by kernel_rfl) (by simp) ?_
  refine AllReadyH.cons rfl (fun K hK => ?_) AllReadyH.nil
  go_simp
  refine (HTK.out w3 hr3).mono ?_
  rintro e w4 ⟨rfl, hb4⟩
  have hx4 := (hb4.block _ (Array.getElem?_eq_some_iff.1 hx3).1).trans hx3
  have hz4 := (hb4.block _ (Array.getElem?_eq_some_iff.1 hz3).1).trans hz3
  have hn4 := (hb4.block _ (Array.getElem?_eq_some_iff.1 hn3).1).trans hn3
  have hlow4 := hlow3.trans (hb4.mono hlow3.size)
  clear hb4
  refine hK.out _ _ (hx4) (fun _ => ?_)
  clear hK K
  try simp only [Act.put, List.setIfInBounds_toArray, List.set_cons_zero, List.set_cons_succ]
  refine wpAnyH_take_d (i := 5) (v := rcv C' A c) 11 rfl rfl (by kernel_rfl) (by kernel_rfl) (by kernel_rfl) (fun _ _ _ h => h) (Or.inl ⟨by kernel_rfl, fun w' hS' => ?y5⟩) (hx4) ?_
  case y5 => (clear hS'; go_simp)
  simp only [Act.put, List.setIfInBounds_toArray, List.set_cons_zero, List.set_cons_succ]
  refine wpAnyH_take_d (i := 6) (v := nv X) 12 rfl rfl (by kernel_rfl) (by kernel_rfl) (by kernel_rfl) (fun _ _ _ h => h) (Or.inl ⟨by kernel_rfl, fun w' hS' => ?y6⟩) (hx4) ?_
  case y6 => (clear hS'; go_simp)
  simp only [Act.put, List.setIfInBounds_toArray, List.set_cons_zero, List.set_cons_succ]
  refine wpAnyH_ready (rs := [7]) (by kernel_rfl) (by simp) ?_
  refine AllReadyH.cons rfl (fun K hK => ?_) AllReadyH.nil
  refine step_store_six (by rfl) 31 (.tmp 4) (.tmp 11) (by rfl) size_rcur (W.heap.size + 1) (by rfl) (by rfl) hz4 ?_
  have q1 := set6_self hz4 C'.s A C'.L.length c (C'.n : Nat) (C'.d : Nat) C'.p C'.f
  have q2 := (set6_other (W := w4) (b := W.heap.size + 1) (k := W.heap.size) (by omega) C'.s A C'.L.length c (C'.n : Nat) (C'.d : Nat) C'.p C'.f).trans hx4
  have q3 := (set6_other (W := w4) (b := W.heap.size + 1) (k := W.heap.size + 2) (by omega) C'.s A C'.L.length c (C'.n : Nat) (C'.d : Nat) C'.p C'.f).trans hn4
  have q5 := below_set6 hlow4 (Nat.le_succ _) C'.s A C'.L.length c (C'.n : Nat) (C'.d : Nat) C'.p C'.f
  generalize set6 w4 (W.heap.size + 1) C'.s A C'.L.length c (C'.n : Nat) (C'.d : Nat) C'.p C'.f = w5 at q1 q2 q3 q5 ⊢
  refine hK.out _ _ (q2) (fun _ => ?_)
  clear hK K
  try simp only [Act.put, List.setIfInBounds_toArray]
  refine wpAnyH_ready (rs := [8]) (by kernel_rfl) (by simp) ?_
  refine AllReadyH.cons rfl (fun K hK => ?_) AllReadyH.nil
  refine step_store_node (by rfl) 45 (.tmp 5) (.tmp 12) (by rfl) size_rnode (W.heap.size + 2) X (by rfl) (by rfl) q3 ?_
  have v1 := set5_self q3 X
  have v2 := (set5_other (W := w5) (b := W.heap.size + 2) (k := W.heap.size + 1) (by omega) X).trans q1
  have v3 := (set5_other (W := w5) (b := W.heap.size + 2) (k := W.heap.size) (by omega) X).trans q2
  have v5 := below_set5 q5 (b := W.heap.size + 2) (by omega) X
  generalize set5 w5 (W.heap.size + 2) X = w6 at v1 v2 v3 v5 ⊢
  refine hK.out _ _ (v3) (fun _ => ?_)
  clear hK K
  try simp only [Act.put]
  refine wpAnyH_done (by kernel_rfl) ?_ _
  refine hK0 _ _ ?_
  obtain ⟨g0, g1, g2, g3, g4, g5⟩ := heap6s v2
  obtain ⟨k0, k1, k2, k3, k4⟩ := heap5 v1
  clear q1 q2 q3 q5 v1 v2 v3
  go_wp2
  refine bodyPost_ret (v := .tuple #[rcv C' A c, nv X]) (by simp [results, Tryz.results16, go_sem, g0, g1, g2, g3, g4, g5, k0, k1, k2, k3, k4]) rfl ⟨rfl, v5⟩
end

/-- what both ask of a leaf is one thing -/
theorem any_eq (C : Cu) (k : Int) (_hk : C.Ok) : C.take (decide ((C.pk 0).1 = k)) = C.take (C.anyb k) := by
  cases hx : C.nxt 0 with
  | none =>
    have h1 : C.anyb k = false := by unfold Cu.anyb; rw [hx]
    rw [h1]
    have h2 : ∀ q, C.take q = (C.fail 2, zn1) := fun q => by unfold Cu.take; rw [hx]; cases q <;> rfl
    rw [h2, h2]
  | some t =>
    have h1 : C.anyb k = decide (((t.k : Nat) : Int) = k) := by unfold Cu.anyb; rw [hx]
    have h2 : (C.pk 0).1 = ((t.k : Nat) : Int) := by unfold Cu.pk; rw [if_neg (by omega), show (0 : Int).toNat = 0 from rfl, hx]
    rw [h1, h2]

abbrev rzero : Value := .agg #[.string ⟨#[]⟩, .slice none 0 0, .int .i64 0, .int .i64 0, .int .i64 0, .int .i64 0]
/-- what the document's New answers -/
def RNewV (s : ByteArray) (w : World) (e : Ending) (w' : World) : Prop :=
  if 4000 < s.size then e = .returned (.tuple #[rzero, .int .i64 4000, .int .i64 4]) ∧ Below w.heap.size w w'
  else match bad (tk (bs s) 0) with
    | some t => e = .returned (.tuple #[rzero, .int .i64 (t.a : Nat), .int .i64 2]) ∧ Below w.heap.size w w'
    | none => ∃ A c, e = .returned (.tuple #[rcv (cu0 s) A c, .int .i64 0, .int .i64 0]) ∧ RcR (cu0 s) A w' ∧ (∀ a, A = some a → w.heap.size ≤ a.block) ∧ Below w.heap.size w w'

set_option maxRecDepth 100000 in
set_option maxHeartbeats 1000000 in
theorem rnew_any (s : ByteArray) (w : World) : Calls Tryz.prog 10 #[.string s] w (RNewV s w) := by
  unfold RNewV
  by_cases hs : 4000 < s.size
  · simp only [if_pos hs]
    have z1 : (4000 : Int) < (s.size : Nat) := by omega
    clear hs
    go_enter Tryz.func10, Tryz.ntmps10
    go_wp2
    refine bodyPost_ret (v := .tuple #[rzero, .int .i64 4000, .int .i64 4]) (by simp [results, Tryz.results10, go_sem]) rfl ⟨rfl, below1 w _⟩
  · simp only [if_neg hs]
    have z1 : ¬ (4000 : Int) < (s.size : Nat) := by omega
    have hb0 := below1 w zb6
    have hz0 := heap_alloc_new w zb6
    have HR := Lib.hid (refReal_any s (by omega) (w.alloc zb6))
    unfold RrV rlT rlA rlB at HR
    unfold cu0
    cases hbd : bad (tk (bs s) 0) with
    | some t =>
      simp only [hbd] at HR ⊢
      clear hs hbd
      go_enter Tryz.func10, Tryz.ntmps10
      go_wp2_with fail
      refine HR.out.mono ?_
      rintro e w1 ⟨A, c, rfl, -, -, hb⟩
      have hz1 := (hb.block _ (by simp)).trans hz0
      have HB := Lib.hid (hb0.trans (hb.mono hb0.size))
      clear hb hb0 hz0 HR
      go_wp2_with (refine wpList_store_six (by rfl) 31 (.tmp 2) (.tmp 20) (by rfl) size_rcur w.heap.size (by rfl) (by rfl) hz1 ?_)
      have q1 := set6_self hz1 ⟨#[]⟩ none 0 0 0 0 0 0
      have q5 := below_set6 HB.out (Nat.le_refl _) ⟨#[]⟩ none 0 0 0 0 0 0
      generalize set6 w1 w.heap.size ⟨#[]⟩ none 0 0 0 0 0 0 = w5 at q1 q5 ⊢
      obtain ⟨g0, g1, g2, g3, g4, g5⟩ := heap6s q1
      go_wp2
      refine bodyPost_ret (v := .tuple #[rzero, .int .i64 (t.a : Nat), .int .i64 2]) (by simp [results, Tryz.results10, go_sem, g0, g1, g2, g3, g4, g5]) rfl ⟨rfl, q5⟩
    | none =>
      simp only [hbd] at HR ⊢
      generalize rls (tk (bs s) 0) = L at HR ⊢
      clear hs hbd
      go_enter Tryz.func10, Tryz.ntmps10
      go_wp2_with fail
      refine HR.out.mono ?_
      rintro e w1 ⟨A, c, rfl, hr, hA, hb⟩
      have hz1 := (hb.block _ (by simp)).trans hz0
      have HB := Lib.hid (hb0.trans (hb.mono hb0.size))
      have HRR := Lib.hid hr
      have HA := Lib.hid hA
      clear hb hb0 hz0 HR hr hA
      go_wp2_with (refine wpList_store_six (by rfl) 31 (.tmp 2) (.tmp 24) (by rfl) size_rcur w.heap.size (by rfl) (by rfl) hz1 ?_)
      have q1 := set6_self hz1 s A L.length c 0 0 0 0
      have q5 := below_set6 HB.out (Nat.le_refl _) s A L.length c 0 0 0 0
      have q6 : Rdc (set6 w1 w.heap.size s A L.length c 0 0 0 0) (set6 w1 w.heap.size s A L.length c 0 0 0 0).heap.size A (tcells L) := by
        intro hl
        obtain ⟨g, off, rfl, hg, hc⟩ := HRR.out hl
        have hgn := HA.out _ rfl
        simp only [World.size_alloc] at hgn
        exact ⟨g, off, rfl, by simp only [set6, size_set]; exact hg, fun j u hu => (cell_of (set6_other (by have : w.heap.size + 1 ≤ g := hgn; omega) _ _ _ _ _ _ _ _)).trans (hc j u hu)⟩
      generalize set6 w1 w.heap.size s A L.length c 0 0 0 0 = w5 at q1 q5 q6 ⊢
      obtain ⟨g0, g1, g2, g3, g4, g5⟩ := heap6s q1
      go_wp2
      refine bodyPost_ret (v := .tuple #[rcv ⟨s, L, 0, 0, 0, 0⟩ A c, .int .i64 0, .int .i64 0]) (by simp [results, Tryz.results10, go_sem, g0, g1, g2, g3, g4, g5]) rfl ⟨A, c, rfl, q6, fun a ha => by have := HA.out a ha; simp at this; omega, q5⟩
end Go.Proofs.YtjnclchbklehgaaGreatDoor
