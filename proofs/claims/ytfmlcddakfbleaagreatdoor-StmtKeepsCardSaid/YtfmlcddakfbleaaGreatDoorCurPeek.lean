/- A cursor's calls that look ahead, and what is behind. -/
import Derived.Test.YtfmlcddakfbleaaGreatDoorCurAsk
namespace Go.Proofs.YtfmlcddakfbleaaGreatDoor
open Go.RowKit SignMath TreeMath

section
variable {b : Nat} {A : Option Addr} {c : Nat} {C : Cu} {W : World}

set_option maxRecDepth 100000 in
set_option maxHeartbeats 2000000 in
theorem peek_any (i : Int) (hi : rng i) (h : CuM b A c C W) (hk : C.Ok) : Calls Tryz.prog 95 #[.pointer (some ⟨b, 0, none⟩), .int .i64 i] W (Rd W (.tuple #[.int .i64 (C.pk i).1, .string (C.pk i).2])) := by
  have HL := Lib.hid (left_any h hk)
  have HM := Lib.hid h
  unfold Cu.pk
  unfold Rd at HL ⊢
  by_cases hn : i < 0
  · rw [if_pos hn]
    clear h hk HL HM
    go_enter Tryz.func95, Tryz.ntmps95
    go_wp2
    refine bodyPost_ret (v := .tuple #[.int .i64 0, .string ⟨#[]⟩]) (by simp [results, Tryz.results95, go_sem]) rfl ⟨rfl, Below.refl _ _⟩
  · rw [if_neg hn]
    obtain ⟨j, rfl⟩ : ∃ j : Nat, i = j := ⟨i.toNat, by omega⟩
    rw [Int.toNat_natCast]
    have n0 : ¬ ((j : Int) < 0) := by omega
    cases hx : C.nxt j with
    | none =>
      have hl := Cu.nxt_none hx hk.n
      have hge : ((C.left : Nat) : Int) ≤ (j : Int) := by omega
      generalize C.left = q at HL hge
      clear hx hl h hk hn HM hi
      go_enter Tryz.func95, Tryz.ntmps95
      go_wp2_with fail
      refine HL.out.mono ?_
      rintro e w1 ⟨rfl, hb⟩
      go_wp2
      refine bodyPost_ret (v := .tuple #[.int .i64 0, .string ⟨#[]⟩]) (by simp [results, Tryz.results95, go_sem]) rfl ⟨rfl, hb⟩
    | some t =>
      obtain ⟨hf, ht⟩ := Cu.nxt_some hx
      have hl := Cu.nxt_left hx
      have hlt : ¬ (((C.left : Nat) : Int) ≤ (j : Int)) := by omega
      have hnl := (List.getElem?_eq_some_iff.1 ht).1
      have hlen := hk.len
      have htk := hk.tok t (List.mem_of_getElem? ht)
      have hw : wrap64 (((C.n : Nat) : Int) + (j : Nat)) = ((C.n + j : Nat) : Int) := by unfold wrap64; omega
      have hw2 : ((C.n : Nat) : Int) + (j : Nat) = ((C.n + j : Nat) : Int) := by omega
      have z1 : (0 : Int) ≤ ((C.n + j : Nat) : Int) := by omega
      have z2 : ((C.n + j : Nat) : Int) < C.L.length := by omega
      have z3 : ((C.n + j : Nat) : Int) ≤ 4000 := by omega
      have HT := Lib.hid ht
      have HTX : Hid (ttx C.s (toZ t) = C.s.extract t.a t.z) := Lib.hid (by unfold ttx toZ; rw [if_pos ⟨by simp, by simp; omega, by simp; omega⟩]; rfl)
      generalize C.left = q at HL hlt
      clear hx hl h hk hf ht hnl hn hlen htk hi
      generalize hkk : C.n + j = k at hw hw2 z1 z2 z3 HT
      go_enter Tryz.func95, Tryz.ntmps95
      go_wp2_with fail
      refine HL.out.mono ?_
      rintro e w1 ⟨rfl, hb⟩
      have hm := HM.out.below hb
      obtain ⟨g, off, rfl, -, -, -, -⟩ := hm.tok HT.out
      have HB := Lib.hid hb
      clear hb HM HL
      go_wp2
      rename_i K0 hK0
      refine wp_region_noPanic (wp_region_held (S := fun W' : World => CuM b (some ⟨g, off, none⟩) c C W' ∧ True) (by kernel_rfl) ?_)
      have hm1 : CuM b (some ⟨g, off, none⟩) c C w1.drew := hm.below ⟨rfl, rfl, rfl, Nat.le_refl _, fun _ _ => rfl⟩
      have hb1 : Below W.heap.size W w1.drew := HB.out.trans ⟨rfl, rfl, rfl, Nat.le_refl _, fun _ _ => rfl⟩
      show wpAnyH _ _ _ _ _ _ _ _ w1.drew
      generalize w1.drew = w2 at hm1 hb1 ⊢
      refine wpAnyH_take_d (i := 0) (v := .pointer (some ⟨b, 0, none⟩)) 15 rfl rfl (by kernel_rfl) (by kernel_rfl) (by kernel_rfl) (fun _ _ _ h => h) (Or.inl ⟨by kernel_rfl, fun w' hS' => ?y0⟩) (⟨hm1, trivial⟩) ?_
      case y0 => (clear hS'; go_simp)
      simp only [Act.put, List.setIfInBounds_toArray, List.set_cons_zero, List.set_cons_succ]
      refine wpAnyH_take_d (i := 1) (v := .pointer (some ⟨b, 0, none⟩)) 16 rfl rfl (by kernel_rfl) (by kernel_rfl) (by kernel_rfl) (fun _ _ _ h => h) (Or.inl ⟨by kernel_rfl, fun w' hS' => ?y1⟩) (⟨hm1, trivial⟩) ?_
      case y1 => (clear hS'; go_simp)
      simp only [Act.put, List.setIfInBounds_toArray, List.set_cons_zero, List.set_cons_succ]
      refine wpAnyH_take_d (i := 2) (v := .pointer (some ⟨b, 1, none⟩)) 17 rfl rfl (by kernel_rfl) (by kernel_rfl) (by kernel_rfl) (fun _ _ _ h => h) (Or.inl ⟨by kernel_rfl, fun w' hS' => ?y2⟩) (⟨hm1, trivial⟩) ?_
      case y2 => (clear hS'; go_simp)
      simp only [Act.put, List.setIfInBounds_toArray, List.set_cons_zero, List.set_cons_succ]
      refine wpAnyH_take_d (i := 3) (v := .slice (some ⟨g, off, none⟩) C.L.length c) 18 rfl rfl (by kernel_rfl) (by kernel_rfl) (by kernel_rfl) (fun _ _ _ h => h) (Or.inl ⟨by kernel_rfl, fun w' hS' => ?y3⟩) (⟨hm1, trivial⟩) ?_
      case y3 => (obtain ⟨s0, s1, s2, s3, s4, s5⟩ := hS'.1.cells; clear hS'; go_simp)
      simp only [Act.put, List.setIfInBounds_toArray, List.set_cons_zero, List.set_cons_succ]
      refine wpAnyH_take_d (i := 4) (v := .pointer (some ⟨b, 0, none⟩)) 19 rfl rfl (by kernel_rfl) (by kernel_rfl) (by kernel_rfl) (fun _ _ _ h => h) (Or.inl ⟨by kernel_rfl, fun w' hS' => ?y4⟩) (⟨hm1, trivial⟩) ?_
      case y4 => (clear hS'; go_simp)
      simp only [Act.put, List.setIfInBounds_toArray, List.set_cons_zero, List.set_cons_succ]
      refine wpAnyH_take_d (i := 5) (v := .pointer (some ⟨b, 0, none⟩)) 20 rfl rfl (by kernel_rfl) (by kernel_rfl) (by kernel_rfl) (fun _ _ _ h => h) (Or.inl ⟨by kernel_rfl, fun w' hS' => ?y5⟩) (⟨hm1, trivial⟩) ?_
      case y5 => (clear hS'; go_simp)
      simp only [Act.put, List.setIfInBounds_toArray, List.set_cons_zero, List.set_cons_succ]
      refine wpAnyH_take_d (i := 6) (v := .pointer (some ⟨b, 2, none⟩)) 21 rfl rfl (by kernel_rfl) (by kernel_rfl) (by kernel_rfl) (fun _ _ _ h => h) (Or.inl ⟨by kernel_rfl, fun w' hS' => ?y6⟩) (⟨hm1, trivial⟩) ?_
      case y6 => (clear hS'; go_simp)
      simp only [Act.put, List.setIfInBounds_toArray, List.set_cons_zero, List.set_cons_succ]
      refine wpAnyH_take_d (i := 7) (v := .int .i64 (C.n : Nat)) 22 rfl rfl (by kernel_rfl) (by kernel_rfl) (by kernel_rfl) (fun _ _ _ h => h) (Or.inl ⟨by kernel_rfl, fun w' hS' => ?y7⟩) (⟨hm1, trivial⟩) ?_
      case y7 => (obtain ⟨s0, s1, s2, s3, s4, s5⟩ := hS'.1.cells; clear hS'; go_simp)
      simp only [Act.put, List.setIfInBounds_toArray, List.set_cons_zero, List.set_cons_succ]
      refine wpAnyH_take_d (i := 8) (v := .int .i64 (j : Nat)) 23 rfl rfl (by kernel_rfl) (by kernel_rfl) (by kernel_rfl) (fun _ _ _ h => h) (Or.inl ⟨by kernel_rfl, fun w' hS' => ?y8⟩) (⟨hm1, trivial⟩) ?_
      case y8 => (clear hS'; go_simp)
      simp only [Act.put, List.setIfInBounds_toArray, List.set_cons_zero, List.set_cons_succ]
      refine wpAnyH_take_d (i := 9) (v := .int .i64 (k : Nat)) 24 rfl rfl (by kernel_rfl) (by kernel_rfl) (by kernel_rfl) (fun _ _ _ h => h) (Or.inl ⟨by kernel_rfl, fun w' hS' => ?y9⟩) (⟨hm1, trivial⟩) ?_
      case y9 => (clear hS'; go_simp; rw [IntKind.wrap_i64]; omega)
      simp only [Act.put, List.setIfInBounds_toArray, List.set_cons_zero, List.set_cons_succ]
      refine wpAnyH_take_d (i := 10) (v := .pointer (some ⟨g, off + k * 3, none⟩)) 25 rfl rfl (by kernel_rfl) (by kernel_rfl) (by kernel_rfl) (fun _ _ _ h => h) (Or.inl ⟨by kernel_rfl, fun w' hS' => ?y10⟩) (⟨hm1, trivial⟩) ?_
      case y10 => (clear hS'; go_simp)
      simp only [Act.put, List.setIfInBounds_toArray, List.set_cons_zero, List.set_cons_succ]
      refine wpAnyH_take_d (i := 11) (v := tkv t) 26 rfl rfl (by kernel_rfl) (by kernel_rfl) (by kernel_rfl) (fun _ _ _ h => h) (Or.inl ⟨by kernel_rfl, fun w' hS' => ?y11⟩) (⟨hm1, trivial⟩) ?_
      case y11 => (obtain ⟨r0, r1, r2⟩ := hS'.1.tokAt HT.out; clear hS'; go_simp)
      simp only [Act.put, List.setIfInBounds_toArray, List.set_cons_zero, List.set_cons_succ]
      refine wpAnyH_ready (rs := [12]) (by kernel_rfl) (by simp) ?_
      refine AllReadyH.cons rfl (fun K hK => ?_) AllReadyH.nil
      go_simp
      have hB3 := below1 w2 (.cells #[.int .i64 0, .int .i64 0, .int .i64 0] 109)
      have hx2 := heap_alloc_new w2 (.cells #[.int .i64 0, .int .i64 0, .int .i64 0] 109)
      generalize w2.alloc (.cells #[.int .i64 0, .int .i64 0, .int .i64 0] 109) = w3 at hB3 hx2 ⊢
      refine hK.out _ _ (⟨hm1.below hB3, trivial⟩) (fun _ => ?_)
      clear hK K
      try simp only [Act.put, List.setIfInBounds_toArray, List.set_cons_zero, List.set_cons_succ]
      refine wpAnyH_ready (rs := [13]) (by kernel_rfl) (by simp) ?_
      refine AllReadyH.cons rfl (fun K hK => ?_) AllReadyH.nil
      refine step_store_tok (by rfl) 109 (.tmp 6) (.tmp 26) (by rfl) size_tok w2.heap.size t (by rfl) (by rfl) hx2 ?_
      have hx3 := set3_self hx2 t
      have hB4 := below_set3 hB3 (Nat.le_refl _) t
      generalize set3 w3 w2.heap.size t = w4 at hx3 hB4 ⊢
      have hm4 := hm1.below hB4
      have hb4 := hb1.trans (hB4.mono hb1.size)
      refine hK.out _ _ (⟨hm4, trivial⟩) (fun _ => ?_)
      clear hK K
      try simp only [Act.put, List.setIfInBounds_toArray]
      refine wpAnyH_done (by kernel_rfl) ?_ _
      refine hK0 _ _ ?_
      clear hB3 hB4 hx2 hm1 hb1
      generalize w2.heap.size = x at hx3 ⊢
      go_wp2
      rename_i K1 hK1 _d1 _e1
      refine wp_region_noPanic (wp_region_held (S := fun W' : World => CuM b (some ⟨g, off, none⟩) c C W' ∧ W'.heap[x]? = some (tkc t)) (by kernel_rfl) ?_)
      have hd4 : Below w4.heap.size w4 w4.drew := ⟨rfl, rfl, rfl, Nat.le_refl _, fun _ _ => rfl⟩
      have hm5 := hm4.below hd4
      have hx5 : w4.drew.heap[x]? = some (tkc t) := hx3
      have hb5 := hb4.trans (hd4.mono hb4.size)
      show wpAnyH _ _ _ _ _ _ _ _ w4.drew
      generalize w4.drew = w5 at hm5 hx5 hb5 ⊢
      refine wpAnyH_take_d (i := 0) (v := .pointer (some ⟨x, 0, none⟩)) 27 rfl rfl (by kernel_rfl) (by kernel_rfl) (by kernel_rfl) (fun _ _ _ h => h) (Or.inl ⟨by kernel_rfl, fun w' hS' => ?y0⟩) (⟨hm5, hx5⟩) ?_
      case y0 => (clear hS'; go_simp)
      simp only [Act.put, List.setIfInBounds_toArray, List.set_cons_zero, List.set_cons_succ]
      refine wpAnyH_take_d (i := 1) (v := .int .i64 (t.k : Nat)) 28 rfl rfl (by kernel_rfl) (by kernel_rfl) (by kernel_rfl) (fun _ _ _ h => h) (Or.inl ⟨by kernel_rfl, fun w' hS' => ?y1⟩) (⟨hm5, hx5⟩) ?_
      case y1 => (obtain ⟨r0, r1, r2⟩ := heap3 hS'.2; clear hS'; go_simp)
      simp only [Act.put, List.setIfInBounds_toArray, List.set_cons_zero, List.set_cons_succ]
      refine wpAnyH_take_d (i := 2) (v := tkv t) 29 rfl rfl (by kernel_rfl) (by kernel_rfl) (by kernel_rfl) (fun _ _ _ h => h) (Or.inl ⟨by kernel_rfl, fun w' hS' => ?y2⟩) (⟨hm5, hx5⟩) ?_
      case y2 => (obtain ⟨r0, r1, r2⟩ := heap3 hS'.2; clear hS'; go_simp)
      simp only [Act.put, List.setIfInBounds_toArray, List.set_cons_zero, List.set_cons_succ]
      refine wpAnyH_take_d (i := 3) (v := .pointer (some ⟨b, 0, none⟩)) 30 rfl rfl (by kernel_rfl) (by kernel_rfl) (by kernel_rfl) (fun _ _ _ h => h) (Or.inl ⟨by kernel_rfl, fun w' hS' => ?y3⟩) (⟨hm5, hx5⟩) ?_
      case y3 => (clear hS'; go_simp)
      simp only [Act.put, List.setIfInBounds_toArray, List.set_cons_zero, List.set_cons_succ]
      refine wpAnyH_take_d (i := 4) (v := .pointer (some ⟨b, 0, none⟩)) 31 rfl rfl (by kernel_rfl) (by kernel_rfl) (by kernel_rfl) (fun _ _ _ h => h) (Or.inl ⟨by kernel_rfl, fun w' hS' => ?y4⟩) (⟨hm5, hx5⟩) ?_
      case y4 => (clear hS'; go_simp)
      simp only [Act.put, List.setIfInBounds_toArray, List.set_cons_zero, List.set_cons_succ]
      refine wpAnyH_take_d (i := 5) (v := .pointer (some ⟨b, 0, none⟩)) 32 rfl rfl (by kernel_rfl) (by kernel_rfl) (by kernel_rfl) (fun _ _ _ h => h) (Or.inl ⟨by kernel_rfl, fun w' hS' => ?y5⟩) (⟨hm5, hx5⟩) ?_
      case y5 => (clear hS'; go_simp)
      simp only [Act.put, List.setIfInBounds_toArray, List.set_cons_zero, List.set_cons_succ]
      refine wpAnyH_take_d (i := 6) (v := .string C.s) 33 rfl rfl (by kernel_rfl) (by kernel_rfl) (by kernel_rfl) (fun _ _ _ h => h) (Or.inl ⟨by kernel_rfl, fun w' hS' => ?y6⟩) (⟨hm5, hx5⟩) ?_
      case y6 => (obtain ⟨s0, s1, s2, s3, s4, s5⟩ := hS'.1.cells; clear hS'; go_simp)
      simp only [Act.put, List.setIfInBounds_toArray, List.set_cons_zero, List.set_cons_succ]
      refine wpAnyH_ready (rs := [7]) (by kernel_rfl) (by simp) ?_
      refine AllReadyH.cons rfl (fun K hK => ?_) AllReadyH.nil
      go_simp
      refine (ttext_any C.s (toZ t) w5).mono ?_
      rintro e w6 ⟨rfl, hb⟩
      rw [HTX.out]
      have hm6 := hm5.below hb
      have hx6 := (hb.block x (Array.getElem?_eq_some_iff.1 hx5).1).trans hx5
      have hb6 := hb5.trans (hb.mono hb5.size)
      refine hK.out _ _ (⟨hm6, hx6⟩) (fun _ => ?_)
      clear hK K
      try simp only [Act.put, List.setIfInBounds_toArray, List.set_cons_zero, List.set_cons_succ]
      refine wpAnyH_take_d (i := 8) (v := .int .i64 (t.k : Nat)) 4 rfl rfl (by kernel_rfl) (by kernel_rfl) (by kernel_rfl) (fun _ _ _ h => h) (Or.inl ⟨by kernel_rfl, fun w' hS' => ?y8⟩) (⟨hm6, hx6⟩) ?_
      case y8 => (clear hS'; go_simp)
      simp only [Act.put, List.setIfInBounds_toArray, List.set_cons_zero, List.set_cons_succ]
      refine wpAnyH_take_d (i := 9) (v := .string (C.s.extract t.a t.z)) 5 rfl rfl (by kernel_rfl) (by kernel_rfl) (by kernel_rfl) (fun _ _ _ h => h) (Or.inl ⟨by kernel_rfl, fun w' hS' => ?y9⟩) (⟨hm6, hx6⟩) ?_
      case y9 => (clear hS'; go_simp)
      simp only [Act.put, List.setIfInBounds_toArray, List.set_cons_zero, List.set_cons_succ]
      refine wpAnyH_done (by kernel_rfl) ?_ _
      refine hK1 _ _ ?_
      go_wp2
      refine bodyPost_ret (v := .tuple #[.int .i64 (t.k : Nat), .string (C.s.extract t.a t.z)]) (by simp [results, Tryz.results95, go_sem]) rfl ⟨rfl, hb6⟩

/-- is a token ahead a keyword or a sign of that text? -/
def Cu.isb (C : Cu) (i : Int) (s : ByteArray) : Bool := (decide ((C.pk i).1 = 3) || decide ((C.pk i).1 = 6)) && decide ((C.pk i).2 = s)
set_option maxHeartbeats 1000000 in
theorem is_any (i : Int) (s : ByteArray) (hi : rng i) (h : CuM b A c C W) (hk : C.Ok) : Calls Tryz.prog 83 #[.pointer (some ⟨b, 0, none⟩), .int .i64 i, .string s] W (Rd W (.bool (C.isb i s))) := by
  have HP := Lib.hid (peek_any i hi h hk)
  unfold Cu.isb
  unfold Rd at HP ⊢
  generalize C.pk i = q at HP
  obtain ⟨k, t⟩ := q
  dsimp only at HP ⊢
  have hbe : (t.toList == s.toList) = decide (t = s) := by
    rw [Bool.eq_iff_iff]
    simp only [beq_iff_eq, decide_eq_true_eq]
    refine ⟨fun h => ?_, fun h => by rw [h]⟩
    have h2 := congrArg List.toArray h
    rw [ByteArray.toList_eq, ByteArray.toList_eq] at h2
    exact ByteArray.ext (by simpa using h2)
  have hk3 : (k == 3) = decide (k = 3) := by rw [Bool.eq_iff_iff]; simp
  have hk6 : (k == 6) = decide (k = 6) := by rw [Bool.eq_iff_iff]; simp
  clear h hk hi
  by_cases h3 : k = 3
  · rw [decide_eq_true h3] at hk3 ⊢
    clear hk6 h3
    go_enter Tryz.func83, Tryz.ntmps83
    go_wp2_with fail
    refine HP.out.mono ?_
    rintro e w1 ⟨rfl, hb⟩
    go_wp2
    go_ret
    exact ⟨by simp, hb⟩
  · rw [decide_eq_false h3] at hk3 ⊢
    by_cases h6 : k = 6
    · rw [decide_eq_true h6] at hk6 ⊢
      clear h3 h6
      go_enter Tryz.func83, Tryz.ntmps83
      go_wp2_with fail
      refine HP.out.mono ?_
      rintro e w1 ⟨rfl, hb⟩
      go_wp2
      go_ret
      exact ⟨by simp, hb⟩
    · rw [decide_eq_false h6] at hk6 ⊢
      clear h3 h6
      go_enter Tryz.func83, Tryz.ntmps83
      go_wp2_with fail
      refine HP.out.mono ?_
      rintro e w1 ⟨rfl, hb⟩
      go_wp2
      go_ret
      exact ⟨by simp, hb⟩

set_option maxHeartbeats 1000000 in
theorem end_any (h : CuM b A c C W) (hk : C.Ok) : Calls Tryz.prog 28 #[.pointer (some ⟨b, 0, none⟩)] W (Rd W (.string C.en)) := by
  have HL := Lib.hid (left_any h hk)
  have HM := Lib.hid h
  have HBE : Hid (∀ W' : World, CuM b A c C W' → Calls Tryz.prog 52 #[.pointer (some ⟨b, 0, none⟩)] W' (Rd W' (.int .i64 (C.beh : Nat)))) := Lib.hid fun W' h' => behind_any h' hk
  have hbl := hk.beh_le
  unfold Cu.en
  unfold Rd at HL HBE ⊢
  obtain ⟨c0, c1, c2, c3, c4, c5⟩ := h.cells
  by_cases hf : C.f = 0
  · rw [hf] at c4
    by_cases hl : C.left = 0
    · rw [if_pos ⟨hf, hl⟩]
      rw [hl] at HL
      clear h hk hf hl
      have z1 : (0 : Int) ≤ C.beh := by omega
      have z2 : (C.beh : Int) ≤ C.s.size := by omega
      generalize C.beh = q at HBE hbl z1 z2
      go_enter Tryz.func28, Tryz.ntmps28
      go_wp2_with fail
      refine HL.out.mono ?_
      rintro e w1 ⟨rfl, hb⟩
      have hm := HM.out.below hb
      clear c0 c1 c2 c3 c4 c5 HL
      go_wp2
      rename_i K0 hK0
      refine wp_region_noPanic (wp_region_held (S := fun W' : World => CuM b A c C W' ∧ True) (by kernel_rfl) ?_)
      have hd : Below w1.heap.size w1 w1.drew := ⟨rfl, rfl, rfl, Nat.le_refl _, fun _ _ => rfl⟩
      have hm1 := hm.below hd
      have hb1 := hb.trans (hd.mono hb.size)
      show wpAnyH _ _ _ _ _ _ _ _ w1.drew
      generalize w1.drew = w2 at hm1 hb1 ⊢
      refine wpAnyH_take_d (i := 0) (v := .pointer (some ⟨b, 0, none⟩)) 17 rfl rfl (by kernel_rfl) (by kernel_rfl) (by kernel_rfl) (fun _ _ _ h => h) (Or.inl ⟨by kernel_rfl, fun w' hS' => ?y0⟩) (⟨hm1, trivial⟩) ?_
      case y0 => (clear hS'; go_simp)
      simp only [Act.put, List.setIfInBounds_toArray, List.set_cons_zero, List.set_cons_succ]
      refine wpAnyH_take_d (i := 1) (v := .pointer (some ⟨b, 0, none⟩)) 18 rfl rfl (by kernel_rfl) (by kernel_rfl) (by kernel_rfl) (fun _ _ _ h => h) (Or.inl ⟨by kernel_rfl, fun w' hS' => ?y1⟩) (⟨hm1, trivial⟩) ?_
      case y1 => (clear hS'; go_simp)
      simp only [Act.put, List.setIfInBounds_toArray, List.set_cons_zero, List.set_cons_succ]
      refine wpAnyH_take_d (i := 2) (v := .pointer (some ⟨b, 0, none⟩)) 19 rfl rfl (by kernel_rfl) (by kernel_rfl) (by kernel_rfl) (fun _ _ _ h => h) (Or.inl ⟨by kernel_rfl, fun w' hS' => ?y2⟩) (⟨hm1, trivial⟩) ?_
      case y2 => (clear hS'; go_simp)
      simp only [Act.put, List.setIfInBounds_toArray, List.set_cons_zero, List.set_cons_succ]
      refine wpAnyH_take_d (i := 3) (v := .string C.s) 20 rfl rfl (by kernel_rfl) (by kernel_rfl) (by kernel_rfl) (fun _ _ _ h => h) (Or.inl ⟨by kernel_rfl, fun w' hS' => ?y3⟩) (⟨hm1, trivial⟩) ?_
      case y3 => (obtain ⟨s0, s1, s2, s3, s4, s5⟩ := hS'.1.cells; clear hS'; go_simp)
      simp only [Act.put, List.setIfInBounds_toArray, List.set_cons_zero, List.set_cons_succ]
      refine wpAnyH_take_d (i := 4) (v := .pointer (some ⟨b, 0, none⟩)) 21 rfl rfl (by kernel_rfl) (by kernel_rfl) (by kernel_rfl) (fun _ _ _ h => h) (Or.inl ⟨by kernel_rfl, fun w' hS' => ?y4⟩) (⟨hm1, trivial⟩) ?_
      case y4 => (clear hS'; go_simp)
      simp only [Act.put, List.setIfInBounds_toArray, List.set_cons_zero, List.set_cons_succ]
      refine wpAnyH_ready (rs := [5]) (by kernel_rfl) (by simp) ?_
      refine AllReadyH.cons rfl (fun K hK => ?_) AllReadyH.nil
      go_simp
      refine (HBE.out w2 hm1).mono ?_
      rintro e w3 ⟨rfl, hb3⟩
      have hm3 := hm1.below hb3
      have hb4 := hb1.trans (hb3.mono hb1.size)
      refine hK.out _ _ (⟨hm3, trivial⟩) (fun _ => ?_)
      clear hK K
      try simp only [Act.put, List.setIfInBounds_toArray, List.set_cons_zero, List.set_cons_succ]
      refine wpAnyH_take_d (i := 6) (v := .string (C.s.extract q C.s.size)) 23 rfl rfl (by kernel_rfl) (by kernel_rfl) (by kernel_rfl) (fun _ _ _ h => h) (Or.inl ⟨by kernel_rfl, fun w' hS' => ?y6⟩) (⟨hm3, trivial⟩) ?_
      case y6 => (clear hS'; go_simp)
      simp only [Act.put, List.setIfInBounds_toArray, List.set_cons_zero, List.set_cons_succ]
      refine wpAnyH_take_d (i := 7) (v := .string (C.s.extract q C.s.size)) 2 rfl rfl (by kernel_rfl) (by kernel_rfl) (by kernel_rfl) (fun _ _ _ h => h) (Or.inl ⟨by kernel_rfl, fun w' hS' => ?y7⟩) (⟨hm3, trivial⟩) ?_
      case y7 => (clear hS'; go_simp)
      simp only [Act.put, List.setIfInBounds_toArray, List.set_cons_zero, List.set_cons_succ]
      refine wpAnyH_done (by kernel_rfl) ?_ _
      refine hK0 _ _ ?_
      go_wp2
      go_ret
      exact ⟨rfl, hb4⟩
    · rw [if_neg (fun hh => hl hh.2)]
      have hgt : (0 : Int) < (C.left : Nat) := by omega
      generalize C.left = q at HL hgt
      clear h hk hf hl HM HBE hbl
      go_enter Tryz.func28, Tryz.ntmps28
      go_wp2_with fail
      refine HL.out.mono ?_
      rintro e w1 ⟨rfl, hb⟩
      go_wp2
      go_ret
      exact ⟨rfl, hb⟩
  · rw [if_neg (fun hh => hf hh.1)]
    have hb : (C.f == 0) = false := by rw [beq_eq_false_iff_ne]; exact hf
    have hb2 : (C.f != 0) = true := by simp [bne, hb]
    clear h hk hf HM HBE hbl HL
    go_enter Tryz.func28, Tryz.ntmps28
    go_wp2
    go_ret
    exact ⟨rfl, Below.refl _ _⟩
end
end Go.Proofs.YtfmlcddakfbleaaGreatDoor
