/- The law LexTexts, walked. -/
import Derived.Test.YtjmdnjflcifpmaaDoorLexJoin
namespace Go.Proofs.YtjmdnjflcifpmaaDoor
open Go.RowKit Go.Shelf SignMath

attribute [local go_sem] Oper.semAt_some

theorem jn_two (s : ByteArray) (t u : Tz) : (⟨(jn s [t, u]).toArray⟩ : ByteArray) = tx s t ++ tx s u := by
  refine WideShapes.bytes_inj ?_
  simp [jn, bs]
theorem jn_no (s : ByteArray) : (⟨(jn s []).toArray⟩ : ByteArray) = ⟨#[]⟩ := rfl
theorem str_self (a : ByteArray) : (a.toList == a.toList) = true := by simp

abbrev tzo (t : Tz) : Obj := .cells #[.int .i64 t.k, .int .i64 t.a, .int .i64 t.z] 31 (0, 0)
abbrev two (p q : ByteArray) : Obj := .cells #[.string p, .string q] 47 (0, 0)

theorem two_set0 {W : World} {g : Nat} {p q : ByteArray} (h : W.heap[g]? = some (two p q)) (v : ByteArray) : (W.setCell ⟨g, 0, none⟩ (.string v)).heap[g]? = some (two v q) := by
  rw [heap_setCell_same W g 0 _ _ (.string v) h]; rfl
theorem two_set1 {W : World} {g : Nat} {p q : ByteArray} (h : W.heap[g]? = some (two p q)) (v : ByteArray) : (W.setCell ⟨g, 1, none⟩ (.string v)).heap[g]? = some (two p v) := by
  rw [heap_setCell_same W g 1 _ _ (.string v) h]; rfl

set_option maxHeartbeats 1000000 in
theorem texts_long (s : ByteArray) (t u : Tz) (hs : 4000 < s.size) (w : World) (hL : LaidX w) :
    Calls Tryd.prog 5 #[.string s, tzv t, tzv u] w fun e w' => e = .returned (.bool true) ∧ Below w.heap.size w w' := by
  have hb2 : Below w.heap.size w ((w.alloc (tzo t)).alloc (tzo u)) := (below1 w _).trans ((below1 _ _).mono (by simp))
  go_enter Tryd.func5, Tryd.ntmps5
  go_wp2_with (go_at_call 8; refine (alive_any _ (hL.below hb2)).mono ?_; rintro e w1 ⟨rfl, hB1⟩)
  go_ret
  exact ⟨rfl, hb2.trans (hB1.mono hb2.size)⟩

set_option maxRecDepth 100000 in
set_option maxHeartbeats 4000000 in
theorem texts_short (s : ByteArray) (tk ta tz uk ua uz : Int) (hs : ¬ 4000 < s.size) (w : World) (hL : LaidX w) :
    Calls Tryd.prog 5 #[.string s, tzv ⟨tk, ta, tz⟩, tzv ⟨uk, ua, uz⟩] w fun e w' => e = .returned (.bool true) ∧ Below w.heap.size w w' := by
  have hb2 : Below w.heap.size w ((w.alloc (tzo ⟨tk, ta, tz⟩)).alloc (tzo ⟨uk, ua, uz⟩)) := (below1 w _).trans ((below1 _ _).mono (by simp))
  have ht0 : ((w.alloc (tzo ⟨tk, ta, tz⟩)).alloc (tzo ⟨uk, ua, uz⟩)).heap[w.heap.size]? = some (tzo ⟨tk, ta, tz⟩) := (Below.heap_alloc _ _ _ (by simp)).trans (World.alloc_heap_new w _)
  have hu0 : ((w.alloc (tzo ⟨tk, ta, tz⟩)).alloc (tzo ⟨uk, ua, uz⟩)).heap[w.heap.size + 1]? = some (tzo ⟨uk, ua, uz⟩) := by have := World.alloc_heap_new (w.alloc (tzo ⟨tk, ta, tz⟩)) (tzo ⟨uk, ua, uz⟩); rwa [World.size_alloc] at this
  go_enter Tryd.func5, Tryd.ntmps5
  go_wp2_with (go_at_call 8; refine (alive_any _ (hL.below hb2)).mono ?_; rintro e w1 ⟨rfl, hB1⟩; have ht1 := (hB1.block _ (lt_of_heap ht0)).trans ht0; have hu1 := (hB1.block _ (lt_of_heap hu0)).trans hu0; have ht2 := (Below.heap_alloc w1 (two ⟨#[]⟩ ⟨#[]⟩) _ (lt_of_heap ht1)).trans ht1; have hu2 := (Below.heap_alloc w1 (two ⟨#[]⟩ ⟨#[]⟩) _ (lt_of_heap hu1)).trans hu1; have t0 := Lib.cell_of_heap ht2 0; have t1 := Lib.cell_of_heap ht2 1; have t2 := Lib.cell_of_heap ht2 2; have u0 := Lib.cell_of_heap hu2 0; have u1 := Lib.cell_of_heap hu2 1; have u2 := Lib.cell_of_heap hu2 2; simp only [List.getElem?_toArray, List.getElem?_cons_zero, List.getElem?_cons_succ] at t0 t1 t2 u0 u1 u2; have hyl : w.heap.size + 1 < w1.heap.size := lt_of_heap hu1; have hy1 : w.heap.size ≠ w1.heap.size := (by omega); have hy2 : w.heap.size + 1 ≠ w1.heap.size := (by omega))
  have hBw : Below w.heap.size w w1 := hb2.trans (hB1.mono hb2.size)
  clear ht0 hu0 hb2 hB1 t0 t1 t2 u0 u1 u2 ht2 hu2
  go_loopw [8, 9, 19] (fun _ _ i wr => ∃ k : Nat, k ≤ 2 ∧ i = .int .i64 (k : Nat) ∧ Below w1.heap.size w1 wr ∧ wr.heap[w1.heap.size]? = some (two (if k = 0 then ⟨#[]⟩ else tx s ⟨tk, ta, tz⟩) (if k ≤ 1 then ⟨#[]⟩ else tx s ⟨uk, ua, uz⟩))) (fun _ _ i _ => 3 - (intOf i).toNat)
  case atStart => exact ⟨0, by omega, rfl, below1 w1 _, World.alloc_heap_new w1 _⟩
  case round =>
    obtain ⟨k, hk, rfl, hB, hg⟩ := hrel
    obtain rfl | rfl | rfl : k = 0 ∨ k = 1 ∨ k = 2 := by omega
    · simp only [if_pos, Nat.zero_le] at hg
      have hi0 : ∀ W : World, (Instr.index 48 (.agg #[.int .i64 tk, .int .i64 ta, .int .i64 tz, .int .i64 uk, .int .i64 ua, .int .i64 uz]) (.int .i64 0)).run Tryd.prog W = .ok (.agg #[.int .i64 tk, .int .i64 ta, .int .i64 tz]) W := fun _ => by kernel_rfl
      by_cases h0 : ta < 0
      · have H := Lib.hid (tx_none (s := s) (t := ⟨tk, ta, tz⟩) (by intro h; have := h.1; dsimp only at this; omega))
        go_wp2
        go_roundw
        case rel => exact ⟨1, by omega, by rfl, (hB.alloc hB.size _), by rw [if_neg (by omega), if_pos (by omega), H.out]; exact (Below.heap_alloc _ _ _ (lt_of_heap hg)).trans hg⟩
        case measure => simp [intOf]
      by_cases h1 : tz < ta
      · have H := Lib.hid (tx_none (s := s) (t := ⟨tk, ta, tz⟩) (by intro h; have := h.2.1; dsimp only at this; omega))
        go_wp2
        go_roundw
        case rel => exact ⟨1, by omega, by rfl, (hB.alloc hB.size _), by rw [if_neg (by omega), if_pos (by omega), H.out]; exact (Below.heap_alloc _ _ _ (lt_of_heap hg)).trans hg⟩
        case measure => simp [intOf]
      by_cases h2 : (s.size : Int) < tz
      · have H := Lib.hid (tx_none (s := s) (t := ⟨tk, ta, tz⟩) (by intro h; have := h.2.2; dsimp only at this; omega))
        go_wp2
        go_roundw
        case rel => exact ⟨1, by omega, by rfl, (hB.alloc hB.size _), by rw [if_neg (by omega), if_pos (by omega), H.out]; exact (Below.heap_alloc _ _ _ (lt_of_heap hg)).trans hg⟩
        case measure => simp [intOf]
      have H : Hid (tx s ⟨tk, ta, tz⟩ = s.extract ta.toNat tz.toNat) := Lib.hid (if_pos ⟨by dsimp only; omega, by dsimp only; omega, by dsimp only; omega⟩)
      obtain ⟨n, rfl⟩ : ∃ n : Nat, ta = n := ⟨ta.toNat, by omega⟩
      obtain ⟨m, rfl⟩ : ∃ m : Nat, tz = m := ⟨tz.toNat, by omega⟩
      simp only [Int.toNat_natCast] at H
      have hg' := (Below.heap_alloc wr (tzo ⟨tk, (n : Nat), (m : Nat)⟩) _ (lt_of_heap hg)).trans hg
      have cg := Lib.cell_of_heap hg' 0
      have fg := Lib.frozen_of_heap hg' 0
      simp only [List.getElem?_toArray, List.getElem?_cons_zero] at cg
      go_wp2
      go_roundw
      case rel => exact ⟨1, by omega, by rfl, (hB.alloc hB.size _).setCell (p := ⟨w1.heap.size, 0, none⟩) (Nat.le_refl _) _, by rw [if_neg (by omega), if_pos (by omega), H.out]; exact two_set0 hg' _⟩
      case measure => simp [intOf]
    · simp only [if_pos, Nat.le_refl, Nat.succ_ne_zero] at hg
      have hi0 : ∀ W : World, (Instr.index 48 (.agg #[.int .i64 tk, .int .i64 ta, .int .i64 tz, .int .i64 uk, .int .i64 ua, .int .i64 uz]) (.int .i64 1)).run Tryd.prog W = .ok (.agg #[.int .i64 uk, .int .i64 ua, .int .i64 uz]) W := fun _ => by kernel_rfl
      by_cases h0 : ua < 0
      · have H := Lib.hid (tx_none (s := s) (t := ⟨uk, ua, uz⟩) (by intro h; have := h.1; dsimp only at this; omega))
        go_wp2
        go_roundw
        case rel => exact ⟨2, by omega, by rfl, (hB.alloc hB.size _), by rw [if_neg (by omega), if_neg (by omega), H.out]; exact (Below.heap_alloc _ _ _ (lt_of_heap hg)).trans hg⟩
        case measure => simp [intOf]
      by_cases h1 : uz < ua
      · have H := Lib.hid (tx_none (s := s) (t := ⟨uk, ua, uz⟩) (by intro h; have := h.2.1; dsimp only at this; omega))
        go_wp2
        go_roundw
        case rel => exact ⟨2, by omega, by rfl, (hB.alloc hB.size _), by rw [if_neg (by omega), if_neg (by omega), H.out]; exact (Below.heap_alloc _ _ _ (lt_of_heap hg)).trans hg⟩
        case measure => simp [intOf]
      by_cases h2 : (s.size : Int) < uz
      · have H := Lib.hid (tx_none (s := s) (t := ⟨uk, ua, uz⟩) (by intro h; have := h.2.2; dsimp only at this; omega))
        go_wp2
        go_roundw
        case rel => exact ⟨2, by omega, by rfl, (hB.alloc hB.size _), by rw [if_neg (by omega), if_neg (by omega), H.out]; exact (Below.heap_alloc _ _ _ (lt_of_heap hg)).trans hg⟩
        case measure => simp [intOf]
      have H : Hid (tx s ⟨uk, ua, uz⟩ = s.extract ua.toNat uz.toNat) := Lib.hid (if_pos ⟨by dsimp only; omega, by dsimp only; omega, by dsimp only; omega⟩)
      obtain ⟨n, rfl⟩ : ∃ n : Nat, ua = n := ⟨ua.toNat, by omega⟩
      obtain ⟨m, rfl⟩ : ∃ m : Nat, uz = m := ⟨uz.toNat, by omega⟩
      simp only [Int.toNat_natCast] at H
      have hg' := (Below.heap_alloc wr (tzo ⟨uk, (n : Nat), (m : Nat)⟩) _ (lt_of_heap hg)).trans hg
      have cg := Lib.cell_of_heap hg' 1
      have fg := Lib.frozen_of_heap hg' 1
      simp only [List.getElem?_toArray, List.getElem?_cons_zero, List.getElem?_cons_succ] at cg
      go_wp2
      go_roundw
      case rel => exact ⟨2, by omega, by rfl, (hB.alloc hB.size _).setCell (p := ⟨w1.heap.size, 1, none⟩) (Nat.le_refl _) _, by rw [if_neg (by omega), if_neg (by omega), H.out]; exact two_set1 hg' _⟩
      case measure => simp [intOf]
    · simp only [if_false, Nat.reduceLeDiff, Nat.reduceEqDiff] at hg
      have hcell : ∀ W' : World, Below wr.heap.size wr W' → (fun W' => W'.cell? ⟨w.heap.size, 0, none⟩ = some (.int .i64 tk) ∧ W'.cell? ⟨w.heap.size, 1, none⟩ = some (.int .i64 ta) ∧ W'.cell? ⟨w.heap.size, 2, none⟩ = some (.int .i64 tz) ∧ W'.cell? ⟨w.heap.size + 1, 0, none⟩ = some (.int .i64 uk) ∧ W'.cell? ⟨w.heap.size + 1, 1, none⟩ = some (.int .i64 ua) ∧ W'.cell? ⟨w.heap.size + 1, 2, none⟩ = some (.int .i64 uz) ∧ W'.cell? ⟨w1.heap.size, 0, none⟩ = some (.string (tx s ⟨tk, ta, tz⟩)) ∧ W'.cell? ⟨w1.heap.size, 1, none⟩ = some (.string (tx s ⟨uk, ua, uz⟩))) W' := fun W' hb => by
        have a1 := (hb.block _ (lt_of_heap ((hB.block _ (lt_of_heap ht1)).trans ht1))).trans ((hB.block _ (lt_of_heap ht1)).trans ht1)
        have a2 := (hb.block _ (lt_of_heap ((hB.block _ (lt_of_heap hu1)).trans hu1))).trans ((hB.block _ (lt_of_heap hu1)).trans hu1)
        have a3 := (hb.block _ (lt_of_heap hg)).trans hg
        exact ⟨Lib.cell_of_heap a1 0, Lib.cell_of_heap a1 1, Lib.cell_of_heap a1 2, Lib.cell_of_heap a2 0, Lib.cell_of_heap a2 1, Lib.cell_of_heap a2 2, Lib.cell_of_heap a3 0, Lib.cell_of_heap a3 1⟩
      have HC := Lib.hid hcell
      have hLr : LaidX wr := hL.below (hBw.trans (hB.mono hBw.size))
      have hBr : Below w.heap.size w wr := hBw.trans (hB.mono hBw.size)
      have HT := Lib.hid (text_any s ⟨tk, ta, tz⟩)
      have HJ2 := Lib.hid (join_any s (by omega))
      have e1 := str_self (tx s ⟨tk, ta, tz⟩)
      have e2 := str_self (tx s ⟨tk, ta, tz⟩ ++ tx s ⟨uk, ua, uz⟩)
      have hadd : ∀ (W : World), Sem.run Tryd.prog (Op.stringOp .add (tx s ⟨tk, ta, tz⟩) (tx s ⟨uk, ua, uz⟩)) W = .ok (.string (tx s ⟨tk, ta, tz⟩ ++ tx s ⟨uk, ua, uz⟩)) W := fun W => run_string_add W _ _ (by have := tx_size s ⟨tk, ta, tz⟩; omega) (by have := tx_size s ⟨uk, ua, uz⟩; omega)
      have e3 := str_self ⟨#[]⟩
      have J2 := jn_two s ⟨tk, ta, tz⟩ ⟨uk, ua, uz⟩
      have HJ := Lib.hid J2
      clear hcell ht1 hu1 hyl hy1 hy2 hg hB hBw J2
      go_wp2
      rename_i K0 hK0
      have hBd : Below wr.heap.size wr wr.drew := (Below.refl _ wr).drew
      have hS := HC.out _ hBd
      refine wp_region_noPanic (wp_region_held (S := fun W' => W'.cell? ⟨w.heap.size, 0, none⟩ = some (.int .i64 tk) ∧ W'.cell? ⟨w.heap.size, 1, none⟩ = some (.int .i64 ta) ∧ W'.cell? ⟨w.heap.size, 2, none⟩ = some (.int .i64 tz) ∧ W'.cell? ⟨w.heap.size + 1, 0, none⟩ = some (.int .i64 uk) ∧ W'.cell? ⟨w.heap.size + 1, 1, none⟩ = some (.int .i64 ua) ∧ W'.cell? ⟨w.heap.size + 1, 2, none⟩ = some (.int .i64 uz) ∧ W'.cell? ⟨w1.heap.size, 0, none⟩ = some (.string (tx s ⟨tk, ta, tz⟩)) ∧ W'.cell? ⟨w1.heap.size, 1, none⟩ = some (.string (tx s ⟨uk, ua, uz⟩))) (by kernel_rfl) ?_)
      show wpAnyH _ _ _ _ _ _ _ _ wr.drew
      refine wpAnyH_take_d (i := 0) (v := tzv ⟨tk, ta, tz⟩) 49 rfl rfl (by kernel_rfl) (by kernel_rfl) (by kernel_rfl) (fun _ _ _ h => h) (Or.inl ⟨by kernel_rfl, fun w' hS' => ?y0⟩) hS ?_
      case y0 => (obtain ⟨s1, s2, s3, s4, s5, s6, s7, s8⟩ := hS'; go_simp)
      simp only [Act.put, List.setIfInBounds_toArray, List.set_cons_zero, List.set_cons_succ]
      refine wpAnyH_take_d (i := 1) (v := .string s) 50 rfl rfl (by kernel_rfl) (by kernel_rfl) (by kernel_rfl) (fun _ _ _ h => h) (Or.inl ⟨by kernel_rfl, fun w' hS' => ?y1⟩) hS ?_
      case y1 => (obtain ⟨s1, s2, s3, s4, s5, s6, s7, s8⟩ := hS'; go_simp)
      simp only [Act.put, List.setIfInBounds_toArray, List.set_cons_zero, List.set_cons_succ]
      refine wpAnyH_take_d (i := 3) (v := .pointer (some ⟨w1.heap.size, 0, none⟩)) 52 rfl rfl (by kernel_rfl) (by kernel_rfl) (by kernel_rfl) (fun _ _ _ h => h) (Or.inl ⟨by kernel_rfl, fun w' hS' => ?y3⟩) hS ?_
      case y3 => (obtain ⟨s1, s2, s3, s4, s5, s6, s7, s8⟩ := hS'; go_simp)
      simp only [Act.put, List.setIfInBounds_toArray, List.set_cons_zero, List.set_cons_succ]
      refine wpAnyH_take_d (i := 4) (v := .string (tx s ⟨tk, ta, tz⟩)) 53 rfl rfl (by kernel_rfl) (by kernel_rfl) (by kernel_rfl) (fun _ _ _ h => h) (Or.inl ⟨by kernel_rfl, fun w' hS' => ?y4⟩) hS ?_
      case y4 => (obtain ⟨s1, s2, s3, s4, s5, s6, s7, s8⟩ := hS'; go_simp)
      simp only [Act.put, List.setIfInBounds_toArray, List.set_cons_zero, List.set_cons_succ]
      refine wpAnyH_ready (rs := [2]) (by kernel_rfl) (by simp) ?_
      refine AllReadyH.cons rfl (fun K hK => ?_) AllReadyH.nil
      go_simp
      refine (HT.out _).mono ?_
      rintro e w6 ⟨rfl, hb6⟩
      have hB6 : Below wr.heap.size wr w6 := hBd.trans hb6
      have hS6 := HC.out _ hB6
      refine hK.out _ _ hS6 (fun _ => ?_)
      clear hK K
      try simp only [Act.put, List.setIfInBounds_toArray, List.set_cons_zero, List.set_cons_succ]
      refine wpAnyH_take_d (i := 5) (v := .bool true) 54 rfl rfl (by kernel_rfl) (by kernel_rfl) (by kernel_rfl) (fun _ _ _ h => h) (Or.inl ⟨by kernel_rfl, fun w' hS' => ?y5⟩) hS6 ?_
      case y5 => (obtain ⟨s1, s2, s3, s4, s5, s6, s7, s8⟩ := hS'; go_simp)
      simp only [Act.put, List.setIfInBounds_toArray, List.set_cons_zero, List.set_cons_succ]
      refine wpAnyH_take_d (i := 6) (v := .bool true) 55 rfl rfl (by kernel_rfl) (by kernel_rfl) (by kernel_rfl) (fun _ _ _ h => h) (Or.inl ⟨by kernel_rfl, fun w' hS' => ?y6⟩) hS6 ?_
      case y6 => (obtain ⟨s1, s2, s3, s4, s5, s6, s7, s8⟩ := hS'; go_simp)
      simp only [Act.put, List.setIfInBounds_toArray, List.set_cons_zero, List.set_cons_succ]
      refine wpAnyH_take_d (i := 7) (v := .string s) 56 rfl rfl (by kernel_rfl) (by kernel_rfl) (by kernel_rfl) (fun _ _ _ h => h) (Or.inl ⟨by kernel_rfl, fun w' hS' => ?y7⟩) hS6 ?_
      case y7 => (obtain ⟨s1, s2, s3, s4, s5, s6, s7, s8⟩ := hS'; go_simp)
      simp only [Act.put, List.setIfInBounds_toArray, List.set_cons_zero, List.set_cons_succ]
      refine wpAnyH_take_d (i := 8) (v := tzv ⟨tk, ta, tz⟩) 57 rfl rfl (by kernel_rfl) (by kernel_rfl) (by kernel_rfl) (fun _ _ _ h => h) (Or.inl ⟨by kernel_rfl, fun w' hS' => ?y8⟩) hS6 ?_
      case y8 => (obtain ⟨s1, s2, s3, s4, s5, s6, s7, s8⟩ := hS'; go_simp)
      simp only [Act.put, List.setIfInBounds_toArray, List.set_cons_zero, List.set_cons_succ]
      refine wpAnyH_take_d (i := 9) (v := tzv ⟨uk, ua, uz⟩) 58 rfl rfl (by kernel_rfl) (by kernel_rfl) (by kernel_rfl) (fun _ _ _ h => h) (Or.inl ⟨by kernel_rfl, fun w' hS' => ?y9⟩) hS6 ?_
      case y9 => (obtain ⟨s1, s2, s3, s4, s5, s6, s7, s8⟩ := hS'; go_simp)
      simp only [Act.put, List.setIfInBounds_toArray, List.set_cons_zero, List.set_cons_succ]
      refine wpAnyH_take_d (i := 12) (v := .pointer (some ⟨w1.heap.size, 0, none⟩)) 61 rfl rfl (by kernel_rfl) (by kernel_rfl) (by kernel_rfl) (fun _ _ _ h => h) (Or.inl ⟨by kernel_rfl, fun w' hS' => ?y12⟩) hS6 ?_
      case y12 => (obtain ⟨s1, s2, s3, s4, s5, s6, s7, s8⟩ := hS'; go_simp)
      simp only [Act.put, List.setIfInBounds_toArray, List.set_cons_zero, List.set_cons_succ]
      refine wpAnyH_take_d (i := 13) (v := .string (tx s ⟨tk, ta, tz⟩)) 62 rfl rfl (by kernel_rfl) (by kernel_rfl) (by kernel_rfl) (fun _ _ _ h => h) (Or.inl ⟨by kernel_rfl, fun w' hS' => ?y13⟩) hS6 ?_
      case y13 => (obtain ⟨s1, s2, s3, s4, s5, s6, s7, s8⟩ := hS'; go_simp)
      simp only [Act.put, List.setIfInBounds_toArray, List.set_cons_zero, List.set_cons_succ]
      refine wpAnyH_take_d (i := 14) (v := .pointer (some ⟨w1.heap.size, 1, none⟩)) 63 rfl rfl (by kernel_rfl) (by kernel_rfl) (by kernel_rfl) (fun _ _ _ h => h) (Or.inl ⟨by kernel_rfl, fun w' hS' => ?y14⟩) hS6 ?_
      case y14 => (obtain ⟨s1, s2, s3, s4, s5, s6, s7, s8⟩ := hS'; go_simp)
      simp only [Act.put, List.setIfInBounds_toArray, List.set_cons_zero, List.set_cons_succ]
      refine wpAnyH_take_d (i := 15) (v := .string (tx s ⟨uk, ua, uz⟩)) 64 rfl rfl (by kernel_rfl) (by kernel_rfl) (by kernel_rfl) (fun _ _ _ h => h) (Or.inl ⟨by kernel_rfl, fun w' hS' => ?y15⟩) hS6 ?_
      case y15 => (obtain ⟨s1, s2, s3, s4, s5, s6, s7, s8⟩ := hS'; go_simp)
      simp only [Act.put, List.setIfInBounds_toArray, List.set_cons_zero, List.set_cons_succ]
      refine wpAnyH_take_d (i := 16) (v := .string (tx s ⟨tk, ta, tz⟩ ++ tx s ⟨uk, ua, uz⟩)) 65 rfl rfl (by kernel_rfl) (by kernel_rfl) (by kernel_rfl) (fun _ _ _ h => h) (Or.inl ⟨by kernel_rfl, fun w' hS' => ?y16⟩) hS6 ?_
      case y16 => (obtain ⟨s1, s2, s3, s4, s5, s6, s7, s8⟩ := hS'; go_simp)
      simp only [Act.put, List.setIfInBounds_toArray, List.set_cons_zero, List.set_cons_succ]
      refine wpAnyH_ready (rs := [10]) (by kernel_rfl) (by simp) ?_
      refine AllReadyH.cons rfl (fun K hK => ?_) AllReadyH.nil
      go_simp
      have hB7 : Below wr.heap.size wr (w6.alloc (.cells #[.int .i64 tk, .int .i64 ta, .int .i64 tz, .int .i64 uk, .int .i64 ua, .int .i64 uz] 31)) := hB6.alloc hB6.size _
      have hS7 := HC.out _ hB7
      have hR : Rdc (w6.alloc (.cells #[.int .i64 tk, .int .i64 ta, .int .i64 tz, .int .i64 uk, .int .i64 ua, .int .i64 uz] 31)) (w6.alloc (.cells #[.int .i64 tk, .int .i64 ta, .int .i64 tz, .int .i64 uk, .int .i64 ua, .int .i64 uz] 31)).heap.size (some ⟨w6.heap.size, 0, none⟩) (zc [⟨tk, ta, tz⟩, ⟨uk, ua, uz⟩]) := fun _ => ⟨w6.heap.size, 0, rfl, by simp, fun j v hv => by rw [Nat.zero_add, Lib.cell_of_heap (World.alloc_heap_new w6 _)]; simpa [zc] using hv⟩
      refine hK.out _ _ hS7 (fun _ => ?_)
      clear hK K
      try simp only [Act.put, List.setIfInBounds_toArray, List.set_cons_zero, List.set_cons_succ]
      refine wpAnyH_ready (rs := [11]) (by kernel_rfl) (by simp) ?_
      refine AllReadyH.cons rfl (fun K hK => ?_) AllReadyH.nil
      go_simp
      refine (HJ2.out (some ⟨w6.heap.size, 0, none⟩) 2 [⟨tk, ta, tz⟩, ⟨uk, ua, uz⟩] (by simp) _ hR).mono ?_
      rw [HJ.out]
      rintro e w8 ⟨rfl, hb8⟩
      have hB8 := hB7.trans (hb8.mono hB7.size)
      have hS8 := HC.out _ hB8
      refine hK.out _ _ hS8 (fun _ => ?_)
      clear hK K
      try simp only [Act.put, List.setIfInBounds_toArray, List.set_cons_zero, List.set_cons_succ]
      refine wpAnyH_take_d (i := 17) (v := .bool true) 66 rfl rfl (by kernel_rfl) (by kernel_rfl) (by kernel_rfl) (fun _ _ _ h => h) (Or.inl ⟨by kernel_rfl, fun w' hS' => ?y17⟩) hS8 ?_
      case y17 => (obtain ⟨s1, s2, s3, s4, s5, s6, s7, s8⟩ := hS'; go_simp)
      simp only [Act.put, List.setIfInBounds_toArray, List.set_cons_zero, List.set_cons_succ]
      refine wpAnyH_take_d (i := 18) (v := .bool true) 67 rfl rfl (by kernel_rfl) (by kernel_rfl) (by kernel_rfl) (fun _ _ _ h => h) (Or.inl ⟨by kernel_rfl, fun w' hS' => ?y18⟩) hS8 ?_
      case y18 => (obtain ⟨s1, s2, s3, s4, s5, s6, s7, s8⟩ := hS'; go_simp)
      simp only [Act.put, List.setIfInBounds_toArray, List.set_cons_zero, List.set_cons_succ]
      refine wpAnyH_take_d (i := 19) (v := .bool true) 68 rfl rfl (by kernel_rfl) (by kernel_rfl) (by kernel_rfl) (fun _ _ _ h => h) (Or.inl ⟨by kernel_rfl, fun w' hS' => ?y19⟩) hS8 ?_
      case y19 => (obtain ⟨s1, s2, s3, s4, s5, s6, s7, s8⟩ := hS'; go_simp)
      simp only [Act.put, List.setIfInBounds_toArray, List.set_cons_zero, List.set_cons_succ]
      refine wpAnyH_take_d (i := 20) (v := .string s) 69 rfl rfl (by kernel_rfl) (by kernel_rfl) (by kernel_rfl) (fun _ _ _ h => h) (Or.inl ⟨by kernel_rfl, fun w' hS' => ?y20⟩) hS8 ?_
      case y20 => (obtain ⟨s1, s2, s3, s4, s5, s6, s7, s8⟩ := hS'; go_simp)
      simp only [Act.put, List.setIfInBounds_toArray, List.set_cons_zero, List.set_cons_succ]
      refine wpAnyH_ready (rs := [21]) (by kernel_rfl) (by simp) ?_
      refine AllReadyH.cons rfl (fun K hK => ?_) AllReadyH.nil
      go_simp
      refine (HJ2.out none 0 [] (by simp) _ (fun h => by simp [zc] at h)).mono ?_
      rw [jn_no]
      rintro e w9 ⟨rfl, hb9⟩
      have hB9 := hB8.trans (hb9.mono hB8.size)
      have hS9 := HC.out _ hB9
      refine hK.out _ _ hS9 (fun _ => ?_)
      clear hK K
      try simp only [Act.put, List.setIfInBounds_toArray, List.set_cons_zero, List.set_cons_succ]
      refine wpAnyH_take_d (i := 22) (v := .bool true) 71 rfl rfl (by kernel_rfl) (by kernel_rfl) (by kernel_rfl) (fun _ _ _ h => h) (Or.inl ⟨by kernel_rfl, fun w' hS' => ?y22⟩) hS9 ?_
      case y22 => (obtain ⟨s1, s2, s3, s4, s5, s6, s7, s8⟩ := hS'; go_simp)
      simp only [Act.put, List.setIfInBounds_toArray, List.set_cons_zero, List.set_cons_succ]
      refine wpAnyH_take_d (i := 23) (v := .bool true) 72 rfl rfl (by kernel_rfl) (by kernel_rfl) (by kernel_rfl) (fun _ _ _ h => h) (Or.inl ⟨by kernel_rfl, fun w' hS' => ?y23⟩) hS9 ?_
      case y23 => (obtain ⟨s1, s2, s3, s4, s5, s6, s7, s8⟩ := hS'; go_simp)
      simp only [Act.put, List.setIfInBounds_toArray, List.set_cons_zero, List.set_cons_succ]
      refine wpAnyH_take_d (i := 24) (v := .bool true) 6 rfl rfl (by kernel_rfl) (by kernel_rfl) (by kernel_rfl) (fun _ _ _ h => h) (Or.inl ⟨by kernel_rfl, fun w' hS' => ?y24⟩) hS9 ?_
      case y24 => (obtain ⟨s1, s2, s3, s4, s5, s6, s7, s8⟩ := hS'; go_simp)
      simp only [Act.put, List.setIfInBounds_toArray, List.set_cons_zero, List.set_cons_succ]
      refine wpAnyH_done (by kernel_rfl) ?_ _
      refine hK0 _ _ ?_
      go_wp2
      go_ret
      exact ⟨rfl, hBr.trans (hB9.mono hBr.size)⟩

theorem texts_walk (s : ByteArray) (t u : Tz) (w : World) (hL : LaidX w) :
    Calls Tryd.prog 5 #[.string s, tzv t, tzv u] w fun e w' => e = .returned (.bool true) ∧ Below w.heap.size w w' := by
  by_cases hs : 4000 < s.size
  · exact texts_long s t u hs w hL
  · exact texts_short s _ _ _ _ _ _ hs w hL
end Go.Proofs.YtjmdnjflcifpmaaDoor
