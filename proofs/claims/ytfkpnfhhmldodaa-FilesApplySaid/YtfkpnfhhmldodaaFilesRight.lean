/- Contracts: which workspaces are right. -/
import Derived.Test.YtfkpnfhhmldodaaFilesPlace
import Derived.Test.YtfkpnfhhmldodaaTextStore
namespace Go.Proofs.Ytfkpnfhhmldodaa
open Go.RowKit EditMath FilesMath

theorem numberOf_take (A : Option Addr) (c : Nat) (l : List Fl) (k : Nat) (n : ByteArray) (w : World) (hk : k ≤ l.length) (hl : l.length ≤ 30) (hr : Fls w w.heap.size A l) :
    Calls Try.prog 71 #[.slice A k c, .string n] w fun e w' => e = .returned (.int .i64 (plcI (l.take k) n)) ∧ Below w.heap.size w w' := by
  have h := numberOf_any A c (l.take k) n w (by rw [List.length_take]; omega) (hr.take k)
  rw [List.length_take, Nat.min_eq_left hk] at h
  exact h

theorem ok_snoc {l : List Fl} {k : Nat} {e : Fl} (he : l[k]? = some e) (h : ∀ (i : Nat) (x : Fl), i < k → l[i]? = some x → okAt l i x) (ho : okAt l k e) : ∀ (i : Nat) (x : Fl), i < k + 1 → l[i]? = some x → okAt l i x := by
  intro i x hi hx
  by_cases q : i = k
  · subst q; rw [he] at hx; injection hx with hx; subst hx; exact ho
  · exact h i x (by omega) hx
theorem rgt_not {l : List Fl} {k : Nat} {e : Fl} (he : l[k]? = some e) (ho : ¬ okAt l k e) : rgt l = false := rgt_no fun h => ho (h.2.2 k e he)

set_option maxRecDepth 100000 in
set_option maxHeartbeats 6000000 in
theorem right4_any (A : Option Addr) (c : Nat) (l : List Fl) (w : World) (hl : l.length ≤ 30) (hc : l.length ≤ c) (hs : ∀ (i : Nat) (f : Fl), l[i]? = some f → (f.n.size : Int) ≤ 50000 ∧ (f.t.size : Int) ≤ 50000) (hr : Fls w w.heap.size A l) :
    Calls Try.prog 35 #[.slice A l.length c] w fun e w' => e = .returned (.bool (rgt l)) ∧ Below w.heap.size w w' := by
  by_cases h8 : 1 ≤ l.length ∧ l.length ≤ 8
  · obtain ⟨h1, h8⟩ := h8
    have d1 : decide ((l.length : Int) < 1) = false := decide_eq_false (by omega)
    have d2 : decide (8 < (l.length : Int)) = false := decide_eq_false (by omega)
    have HS := Lib.hid hs
    clear hs
    go_enter Try.func35, Try.ntmps35
    go_wp2
    go_loopw [3, 4, 15] (fun _ _ i wr => ∃ k : Nat, k ≤ l.length ∧ i = .int .i64 k ∧ Below w.heap.size w wr ∧ Hid (∀ (i : Nat) (x : Fl), i < k → l[i]? = some x → okAt l i x)) (fun _ _ i _ => l.length - (intOf i).toNat)
    case atStart => exact ⟨0, Nat.zero_le _, rfl, Below.refl _ _, Lib.hid (fun i x hi _ => absurd hi (Nat.not_lt_zero _))⟩
    case round =>
      obtain ⟨k, hk, rfl, hB, HN⟩ := hrel
      by_cases hlt : k < l.length
      · have he : l[k]? = some l[k] := List.getElem?_eq_getElem hlt
        generalize l[k] = e at he
        obtain ⟨s1, s2⟩ := HS.out k e he
        obtain ⟨b, off, rfl, hb, c0, c1⟩ := (hr.below hB).at_ he
        have HE := Lib.hid he
        clear he
        have HR := Lib.hid hr
        clear hr
        have z1 : (0 : Int) ≤ k := by omega
        have z2 : (k : Int) < l.length := by omega
        have z3 : (k : Int) ≤ c := by omega
        have HQ := fun W => Lib.hid (nameRight_any e.n (by omega) W)
        have hB1 : Below wr.heap.size wr (wr.alloc (.cells #[.string e.n, .string e.t] 58)) := below1 _ _
        have d0 : (wr.alloc (.cells #[.string e.n, .string e.t] 58)).cell? ⟨wr.heap.size, 0, none⟩ = some (.string e.n) := by rw [Lib.cell_of_heap (heap_alloc_new wr _)]; rfl
        have d1 : (wr.alloc (.cells #[.string e.n, .string e.t] 58)).cell? ⟨wr.heap.size, 1, none⟩ = some (.string e.t) := by rw [Lib.cell_of_heap (heap_alloc_new wr _)]; rfl
        cases ht : title e.n with
        | false =>
          have HT := Lib.hid ht
          clear ht
          go_wp2
          rename_i Q1 K1 q1 K0 q0
          have HQ1 := Lib.hid q1
          have HQ0 := Lib.hid q0
          clear q1 q0
          have hS : (fun w' : World => w'.cell? ⟨wr.heap.size, 0, none⟩ = some (.string e.n) ∧ w'.cell? ⟨wr.heap.size, 1, none⟩ = some (.string e.t)) (wr.alloc (.cells #[.string e.n, .string e.t] 58)).drew := ⟨d0, d1⟩
          refine wp_region_held (S := fun w' => w'.cell? ⟨wr.heap.size, 0, none⟩ = some (.string e.n) ∧ w'.cell? ⟨wr.heap.size, 1, none⟩ = some (.string e.t)) (by kernel_rfl) ?_
          show wpAnyH _ _ _ _ _ _ _ _ (wr.alloc (.cells #[.string e.n, .string e.t] 58)).drew
          refine wpAnyH_take_d (i := 0) (v := .pointer (some ⟨wr.heap.size, 0, none⟩)) 20 rfl rfl (by kernel_rfl) (by kernel_rfl) (by kernel_rfl) (fun _ _ _ h => h) (Or.inl ⟨by kernel_rfl, fun w' hS' => ?y0⟩) hS ?_
          case y0 => (obtain ⟨q0, q1⟩ := hS'; go_simp)
          simp only [Act.put, List.setIfInBounds_toArray, List.set_cons_zero, List.set_cons_succ]
          refine wpAnyH_take_d (i := 1) (v := .string e.n) 21 rfl rfl (by kernel_rfl) (by kernel_rfl) (by kernel_rfl) (fun _ _ _ h => h) (Or.inl ⟨by kernel_rfl, fun w' hS' => ?y1⟩) hS ?_
          case y1 => (obtain ⟨q0, q1⟩ := hS'; go_simp)
          simp only [Act.put, List.setIfInBounds_toArray, List.set_cons_zero, List.set_cons_succ]
          refine wpAnyH_ready (rs := [2]) (by kernel_rfl) (by simp) ?_
          refine AllReadyH.cons rfl (fun K hK => ?_) AllReadyH.nil
          go_simp
          refine (HQ _).out.mono ?_
          rw [HT.out]
          rintro r w2 ⟨rfl, hb2⟩
          have hS2 : (fun w' : World => w'.cell? ⟨wr.heap.size, 0, none⟩ = some (.string e.n) ∧ w'.cell? ⟨wr.heap.size, 1, none⟩ = some (.string e.t)) w2 := ⟨(hb2.cell (p := ⟨wr.heap.size, 0, none⟩) (by simp)).trans d0, (hb2.cell (p := ⟨wr.heap.size, 1, none⟩) (by simp)).trans d1⟩
          have hBw : Below wr.heap.size wr w2 := Below.trans (⟨hB1.os, hB1.tape, hB1.output, hB1.size, hB1.block⟩ : Below wr.heap.size wr (wr.alloc (.cells #[.string e.n, .string e.t] 58)).drew) (hb2.mono hB1.size)
          refine hK.out _ _ hS2 (fun _ => ?_)
          clear hK K hS
          have hS := hS2
          try simp only [Act.put, List.setIfInBounds_toArray, List.set_cons_zero, List.set_cons_succ]
          refine wpAnyH_take_d (i := 3) (v := .bool true) 23 rfl rfl (by kernel_rfl) (by kernel_rfl) (by kernel_rfl) (fun _ _ _ h => h) (Or.inl ⟨by kernel_rfl, fun w' hS' => ?y3⟩) hS ?_
          case y3 => (obtain ⟨q0, q1⟩ := hS'; go_simp)
          simp only [Act.put, List.setIfInBounds_toArray, List.set_cons_zero, List.set_cons_succ]
          refine wpAnyH_take_d (i := 4) (v := .bool true) 24 rfl rfl (by kernel_rfl) (by kernel_rfl) (by kernel_rfl) (fun _ _ _ h => h) (Or.inl ⟨by kernel_rfl, fun w' hS' => ?y4⟩) hS ?_
          case y4 => (obtain ⟨q0, q1⟩ := hS'; go_simp)
          simp only [Act.put, List.setIfInBounds_toArray, List.set_cons_zero, List.set_cons_succ]
          refine wpAnyH_take_d (i := 5) (v := undef) 25 rfl rfl (by kernel_rfl) (by kernel_rfl) (by kernel_rfl) (fun _ _ _ h => h) (Or.inr ⟨by kernel_rfl, rfl⟩) hS ?_
          simp only [Act.put, List.setIfInBounds_toArray, List.set_cons_zero, List.set_cons_succ]
          refine wpAnyH_take_d (i := 6) (v := undef) 26 rfl rfl (by kernel_rfl) (by kernel_rfl) (by kernel_rfl) (fun _ _ _ h => h) (Or.inr ⟨by kernel_rfl, rfl⟩) hS ?_
          simp only [Act.put, List.setIfInBounds_toArray, List.set_cons_zero, List.set_cons_succ]
          refine wpAnyH_take_d (i := 7) (v := undef) 27 rfl rfl (by kernel_rfl) (by kernel_rfl) (by kernel_rfl) (fun _ _ _ h => h) (Or.inr ⟨by kernel_rfl, rfl⟩) hS ?_
          simp only [Act.put, List.setIfInBounds_toArray, List.set_cons_zero, List.set_cons_succ]
          refine wpAnyH_take_d (i := 8) (v := undef) 28 rfl rfl (by kernel_rfl) (by kernel_rfl) (by kernel_rfl) (fun _ _ _ h => h) (Or.inr ⟨by kernel_rfl, rfl⟩) hS ?_
          simp only [Act.put, List.setIfInBounds_toArray, List.set_cons_zero, List.set_cons_succ]
          refine wpAnyH_take_d (i := 9) (v := .bool true) 29 rfl rfl (by kernel_rfl) (by kernel_rfl) (by kernel_rfl) (fun _ _ _ h => h) (Or.inl ⟨by kernel_rfl, fun w' hS' => ?y9⟩) hS ?_
          case y9 => (obtain ⟨q0, q1⟩ := hS'; go_simp)
          simp only [Act.put, List.setIfInBounds_toArray, List.set_cons_zero, List.set_cons_succ]
          refine wpAnyH_take_d (i := 10) (v := .bool true) 30 rfl rfl (by kernel_rfl) (by kernel_rfl) (by kernel_rfl) (fun _ _ _ h => h) (Or.inl ⟨by kernel_rfl, fun w' hS' => ?y10⟩) hS ?_
          case y10 => (obtain ⟨q0, q1⟩ := hS'; go_simp)
          simp only [Act.put, List.setIfInBounds_toArray, List.set_cons_zero, List.set_cons_succ]
          refine wpAnyH_take_d (i := 11) (v := undef) 31 rfl rfl (by kernel_rfl) (by kernel_rfl) (by kernel_rfl) (fun _ _ _ h => h) (Or.inr ⟨by kernel_rfl, rfl⟩) hS ?_
          simp only [Act.put, List.setIfInBounds_toArray, List.set_cons_zero, List.set_cons_succ]
          refine wpAnyH_take_d (i := 12) (v := undef) 32 rfl rfl (by kernel_rfl) (by kernel_rfl) (by kernel_rfl) (fun _ _ _ h => h) (Or.inr ⟨by kernel_rfl, rfl⟩) hS ?_
          simp only [Act.put, List.setIfInBounds_toArray, List.set_cons_zero, List.set_cons_succ]
          refine wpAnyH_take_d (i := 13) (v := undef) 33 rfl rfl (by kernel_rfl) (by kernel_rfl) (by kernel_rfl) (fun _ _ _ h => h) (Or.inr ⟨by kernel_rfl, rfl⟩) hS ?_
          simp only [Act.put, List.setIfInBounds_toArray, List.set_cons_zero, List.set_cons_succ]
          refine wpAnyH_take_d (i := 14) (v := undef) 34 rfl rfl (by kernel_rfl) (by kernel_rfl) (by kernel_rfl) (fun _ _ _ h => h) (Or.inr ⟨by kernel_rfl, rfl⟩) hS ?_
          simp only [Act.put, List.setIfInBounds_toArray, List.set_cons_zero, List.set_cons_succ]
          refine wpAnyH_take_d (i := 15) (v := undef) 35 rfl rfl (by kernel_rfl) (by kernel_rfl) (by kernel_rfl) (fun _ _ _ h => h) (Or.inr ⟨by kernel_rfl, rfl⟩) hS ?_
          simp only [Act.put, List.setIfInBounds_toArray, List.set_cons_zero, List.set_cons_succ]
          refine wpAnyH_take_d (i := 16) (v := undef) 36 rfl rfl (by kernel_rfl) (by kernel_rfl) (by kernel_rfl) (fun _ _ _ h => h) (Or.inr ⟨by kernel_rfl, rfl⟩) hS ?_
          simp only [Act.put, List.setIfInBounds_toArray, List.set_cons_zero, List.set_cons_succ]
          refine wpAnyH_take_d (i := 17) (v := undef) 37 rfl rfl (by kernel_rfl) (by kernel_rfl) (by kernel_rfl) (fun _ _ _ h => h) (Or.inr ⟨by kernel_rfl, rfl⟩) hS ?_
          simp only [Act.put, List.setIfInBounds_toArray, List.set_cons_zero, List.set_cons_succ]
          refine wpAnyH_take_d (i := 18) (v := .bool true) 38 rfl rfl (by kernel_rfl) (by kernel_rfl) (by kernel_rfl) (fun _ _ _ h => h) (Or.inl ⟨by kernel_rfl, fun w' hS' => ?y18⟩) hS ?_
          case y18 => (obtain ⟨q0, q1⟩ := hS'; go_simp)
          simp only [Act.put, List.setIfInBounds_toArray, List.set_cons_zero, List.set_cons_succ]
          refine wpAnyH_done (by kernel_rfl) ?_ _
          have q1 := HQ1.out
          have q0 := HQ0.out
          go_wp2
          go_ret
          exact ⟨ret_bool (rgt_not HE.out (fun h => by have := h.1; rw [HT.out] at this; cases this)).symm, hB.trans (hBw.mono hB.size)⟩
        | true =>
          have HT := Lib.hid ht
          clear ht
          by_cases hL : (4000 : Int) < e.t.size
          · have dl : decide ((4000 : Int) < e.t.size) = true := decide_eq_true hL
            go_wp2
            rename_i Q1 K1 q1 K0 q0
            have HQ1 := Lib.hid q1
            have HQ0 := Lib.hid q0
            clear q1 q0
            have hS : (fun w' : World => w'.cell? ⟨wr.heap.size, 0, none⟩ = some (.string e.n) ∧ w'.cell? ⟨wr.heap.size, 1, none⟩ = some (.string e.t)) (wr.alloc (.cells #[.string e.n, .string e.t] 58)).drew := ⟨d0, d1⟩
            refine wp_region_held (S := fun w' => w'.cell? ⟨wr.heap.size, 0, none⟩ = some (.string e.n) ∧ w'.cell? ⟨wr.heap.size, 1, none⟩ = some (.string e.t)) (by kernel_rfl) ?_
            show wpAnyH _ _ _ _ _ _ _ _ (wr.alloc (.cells #[.string e.n, .string e.t] 58)).drew
            refine wpAnyH_take_d (i := 0) (v := .pointer (some ⟨wr.heap.size, 0, none⟩)) 20 rfl rfl (by kernel_rfl) (by kernel_rfl) (by kernel_rfl) (fun _ _ _ h => h) (Or.inl ⟨by kernel_rfl, fun w' hS' => ?y0⟩) hS ?_
            case y0 => (obtain ⟨q0, q1⟩ := hS'; go_simp)
            simp only [Act.put, List.setIfInBounds_toArray, List.set_cons_zero, List.set_cons_succ]
            refine wpAnyH_take_d (i := 1) (v := .string e.n) 21 rfl rfl (by kernel_rfl) (by kernel_rfl) (by kernel_rfl) (fun _ _ _ h => h) (Or.inl ⟨by kernel_rfl, fun w' hS' => ?y1⟩) hS ?_
            case y1 => (obtain ⟨q0, q1⟩ := hS'; go_simp)
            simp only [Act.put, List.setIfInBounds_toArray, List.set_cons_zero, List.set_cons_succ]
            refine wpAnyH_ready (rs := [2]) (by kernel_rfl) (by simp) ?_
            refine AllReadyH.cons rfl (fun K hK => ?_) AllReadyH.nil
            go_simp
            refine (HQ _).out.mono ?_
            rw [HT.out]
            rintro r w2 ⟨rfl, hb2⟩
            have hS2 : (fun w' : World => w'.cell? ⟨wr.heap.size, 0, none⟩ = some (.string e.n) ∧ w'.cell? ⟨wr.heap.size, 1, none⟩ = some (.string e.t)) w2 := ⟨(hb2.cell (p := ⟨wr.heap.size, 0, none⟩) (by simp)).trans d0, (hb2.cell (p := ⟨wr.heap.size, 1, none⟩) (by simp)).trans d1⟩
            have hBw : Below wr.heap.size wr w2 := Below.trans (⟨hB1.os, hB1.tape, hB1.output, hB1.size, hB1.block⟩ : Below wr.heap.size wr (wr.alloc (.cells #[.string e.n, .string e.t] 58)).drew) (hb2.mono hB1.size)
            refine hK.out _ _ hS2 (fun _ => ?_)
            clear hK K hS
            have hS := hS2
            try simp only [Act.put, List.setIfInBounds_toArray, List.set_cons_zero, List.set_cons_succ]
            refine wpAnyH_take_d (i := 3) (v := .bool false) 23 rfl rfl (by kernel_rfl) (by kernel_rfl) (by kernel_rfl) (fun _ _ _ h => h) (Or.inl ⟨by kernel_rfl, fun w' hS' => ?y3⟩) hS ?_
            case y3 => (obtain ⟨q0, q1⟩ := hS'; go_simp)
            simp only [Act.put, List.setIfInBounds_toArray, List.set_cons_zero, List.set_cons_succ]
            refine wpAnyH_take_d (i := 4) (v := .bool false) 24 rfl rfl (by kernel_rfl) (by kernel_rfl) (by kernel_rfl) (fun _ _ _ h => h) (Or.inl ⟨by kernel_rfl, fun w' hS' => ?y4⟩) hS ?_
            case y4 => (obtain ⟨q0, q1⟩ := hS'; go_simp)
            simp only [Act.put, List.setIfInBounds_toArray, List.set_cons_zero, List.set_cons_succ]
            refine wpAnyH_take_d (i := 5) (v := .pointer (some ⟨wr.heap.size, 1, none⟩)) 25 rfl rfl (by kernel_rfl) (by kernel_rfl) (by kernel_rfl) (fun _ _ _ h => h) (Or.inl ⟨by kernel_rfl, fun w' hS' => ?y5⟩) hS ?_
            case y5 => (obtain ⟨q0, q1⟩ := hS'; go_simp)
            simp only [Act.put, List.setIfInBounds_toArray, List.set_cons_zero, List.set_cons_succ]
            refine wpAnyH_take_d (i := 6) (v := .string e.t) 26 rfl rfl (by kernel_rfl) (by kernel_rfl) (by kernel_rfl) (fun _ _ _ h => h) (Or.inl ⟨by kernel_rfl, fun w' hS' => ?y6⟩) hS ?_
            case y6 => (obtain ⟨q0, q1⟩ := hS'; go_simp)
            simp only [Act.put, List.setIfInBounds_toArray, List.set_cons_zero, List.set_cons_succ]
            refine wpAnyH_take_d (i := 7) (v := .int .i64 (e.t.size : Int)) 27 rfl rfl (by kernel_rfl) (by kernel_rfl) (by kernel_rfl) (fun _ _ _ h => h) (Or.inl ⟨by kernel_rfl, fun w' hS' => ?y7⟩) hS ?_
            case y7 => (obtain ⟨q0, q1⟩ := hS'; go_simp)
            simp only [Act.put, List.setIfInBounds_toArray, List.set_cons_zero, List.set_cons_succ]
            refine wpAnyH_take_d (i := 8) (v := .bool true) 28 rfl rfl (by kernel_rfl) (by kernel_rfl) (by kernel_rfl) (fun _ _ _ h => h) (Or.inl ⟨by kernel_rfl, fun w' hS' => ?y8⟩) hS ?_
            case y8 => (obtain ⟨q0, q1⟩ := hS'; go_simp)
            simp only [Act.put, List.setIfInBounds_toArray, List.set_cons_zero, List.set_cons_succ]
            refine wpAnyH_take_d (i := 9) (v := .bool true) 29 rfl rfl (by kernel_rfl) (by kernel_rfl) (by kernel_rfl) (fun _ _ _ h => h) (Or.inl ⟨by kernel_rfl, fun w' hS' => ?y9⟩) hS ?_
            case y9 => (obtain ⟨q0, q1⟩ := hS'; go_simp)
            simp only [Act.put, List.setIfInBounds_toArray, List.set_cons_zero, List.set_cons_succ]
            refine wpAnyH_take_d (i := 10) (v := .bool true) 30 rfl rfl (by kernel_rfl) (by kernel_rfl) (by kernel_rfl) (fun _ _ _ h => h) (Or.inl ⟨by kernel_rfl, fun w' hS' => ?y10⟩) hS ?_
            case y10 => (obtain ⟨q0, q1⟩ := hS'; go_simp)
            simp only [Act.put, List.setIfInBounds_toArray, List.set_cons_zero, List.set_cons_succ]
            refine wpAnyH_take_d (i := 11) (v := undef) 31 rfl rfl (by kernel_rfl) (by kernel_rfl) (by kernel_rfl) (fun _ _ _ h => h) (Or.inr ⟨by kernel_rfl, rfl⟩) hS ?_
            simp only [Act.put, List.setIfInBounds_toArray, List.set_cons_zero, List.set_cons_succ]
            refine wpAnyH_take_d (i := 12) (v := undef) 32 rfl rfl (by kernel_rfl) (by kernel_rfl) (by kernel_rfl) (fun _ _ _ h => h) (Or.inr ⟨by kernel_rfl, rfl⟩) hS ?_
            simp only [Act.put, List.setIfInBounds_toArray, List.set_cons_zero, List.set_cons_succ]
            refine wpAnyH_take_d (i := 13) (v := undef) 33 rfl rfl (by kernel_rfl) (by kernel_rfl) (by kernel_rfl) (fun _ _ _ h => h) (Or.inr ⟨by kernel_rfl, rfl⟩) hS ?_
            simp only [Act.put, List.setIfInBounds_toArray, List.set_cons_zero, List.set_cons_succ]
            refine wpAnyH_take_d (i := 14) (v := undef) 34 rfl rfl (by kernel_rfl) (by kernel_rfl) (by kernel_rfl) (fun _ _ _ h => h) (Or.inr ⟨by kernel_rfl, rfl⟩) hS ?_
            simp only [Act.put, List.setIfInBounds_toArray, List.set_cons_zero, List.set_cons_succ]
            refine wpAnyH_take_d (i := 15) (v := undef) 35 rfl rfl (by kernel_rfl) (by kernel_rfl) (by kernel_rfl) (fun _ _ _ h => h) (Or.inr ⟨by kernel_rfl, rfl⟩) hS ?_
            simp only [Act.put, List.setIfInBounds_toArray, List.set_cons_zero, List.set_cons_succ]
            refine wpAnyH_take_d (i := 16) (v := undef) 36 rfl rfl (by kernel_rfl) (by kernel_rfl) (by kernel_rfl) (fun _ _ _ h => h) (Or.inr ⟨by kernel_rfl, rfl⟩) hS ?_
            simp only [Act.put, List.setIfInBounds_toArray, List.set_cons_zero, List.set_cons_succ]
            refine wpAnyH_take_d (i := 17) (v := undef) 37 rfl rfl (by kernel_rfl) (by kernel_rfl) (by kernel_rfl) (fun _ _ _ h => h) (Or.inr ⟨by kernel_rfl, rfl⟩) hS ?_
            simp only [Act.put, List.setIfInBounds_toArray, List.set_cons_zero, List.set_cons_succ]
            refine wpAnyH_take_d (i := 18) (v := .bool true) 38 rfl rfl (by kernel_rfl) (by kernel_rfl) (by kernel_rfl) (fun _ _ _ h => h) (Or.inl ⟨by kernel_rfl, fun w' hS' => ?y18⟩) hS ?_
            case y18 => (obtain ⟨q0, q1⟩ := hS'; go_simp)
            simp only [Act.put, List.setIfInBounds_toArray, List.set_cons_zero, List.set_cons_succ]
            refine wpAnyH_done (by kernel_rfl) ?_ _
            have q1 := HQ1.out
            have q0 := HQ0.out
            go_wp2
            go_ret
            exact ⟨ret_bool (rgt_not HE.out (fun h => by have := h.2.1; omega)).symm, hB.trans (hBw.mono hB.size)⟩
          · have dl : decide ((4000 : Int) < e.t.size) = false := decide_eq_false hL
            have HP := fun (W : World) (h : Below wr.heap.size wr W) => Lib.hid (numberOf_take (some ⟨b, off, none⟩) c l k e.n W hk hl (HR.out.after (hB.trans (h.mono hB.size))))
            rcases plcI_cases (l.take k) e.n with ⟨hp, hpi⟩ | ⟨m, hp, hpi, hm⟩
            · rw [hpi] at HP
              go_wp2
              rename_i Q1 K1 q1 K0 q0
              have HQ1 := Lib.hid q1
              have HQ0 := Lib.hid q0
              clear q1 q0
              have hS : (fun w' : World => w'.cell? ⟨wr.heap.size, 0, none⟩ = some (.string e.n) ∧ w'.cell? ⟨wr.heap.size, 1, none⟩ = some (.string e.t)) (wr.alloc (.cells #[.string e.n, .string e.t] 58)).drew := ⟨d0, d1⟩
              refine wp_region_held (S := fun w' => w'.cell? ⟨wr.heap.size, 0, none⟩ = some (.string e.n) ∧ w'.cell? ⟨wr.heap.size, 1, none⟩ = some (.string e.t)) (by kernel_rfl) ?_
              show wpAnyH _ _ _ _ _ _ _ _ (wr.alloc (.cells #[.string e.n, .string e.t] 58)).drew
              refine wpAnyH_take_d (i := 0) (v := .pointer (some ⟨wr.heap.size, 0, none⟩)) 20 rfl rfl (by kernel_rfl) (by kernel_rfl) (by kernel_rfl) (fun _ _ _ h => h) (Or.inl ⟨by kernel_rfl, fun w' hS' => ?y0⟩) hS ?_
              case y0 => (obtain ⟨q0, q1⟩ := hS'; go_simp)
              simp only [Act.put, List.setIfInBounds_toArray, List.set_cons_zero, List.set_cons_succ]
              refine wpAnyH_take_d (i := 1) (v := .string e.n) 21 rfl rfl (by kernel_rfl) (by kernel_rfl) (by kernel_rfl) (fun _ _ _ h => h) (Or.inl ⟨by kernel_rfl, fun w' hS' => ?y1⟩) hS ?_
              case y1 => (obtain ⟨q0, q1⟩ := hS'; go_simp)
              simp only [Act.put, List.setIfInBounds_toArray, List.set_cons_zero, List.set_cons_succ]
              refine wpAnyH_ready (rs := [2]) (by kernel_rfl) (by simp) ?_
              refine AllReadyH.cons rfl (fun K hK => ?_) AllReadyH.nil
              go_simp
              refine (HQ _).out.mono ?_
              rw [HT.out]
              rintro r w2 ⟨rfl, hb2⟩
              have hS2 : (fun w' : World => w'.cell? ⟨wr.heap.size, 0, none⟩ = some (.string e.n) ∧ w'.cell? ⟨wr.heap.size, 1, none⟩ = some (.string e.t)) w2 := ⟨(hb2.cell (p := ⟨wr.heap.size, 0, none⟩) (by simp)).trans d0, (hb2.cell (p := ⟨wr.heap.size, 1, none⟩) (by simp)).trans d1⟩
              have hBw : Below wr.heap.size wr w2 := Below.trans (⟨hB1.os, hB1.tape, hB1.output, hB1.size, hB1.block⟩ : Below wr.heap.size wr (wr.alloc (.cells #[.string e.n, .string e.t] 58)).drew) (hb2.mono hB1.size)
              refine hK.out _ _ hS2 (fun _ => ?_)
              clear hK K hS
              have hS := hS2
              try simp only [Act.put, List.setIfInBounds_toArray, List.set_cons_zero, List.set_cons_succ]
              refine wpAnyH_take_d (i := 3) (v := .bool false) 23 rfl rfl (by kernel_rfl) (by kernel_rfl) (by kernel_rfl) (fun _ _ _ h => h) (Or.inl ⟨by kernel_rfl, fun w' hS' => ?y3⟩) hS ?_
              case y3 => (obtain ⟨q0, q1⟩ := hS'; go_simp)
              simp only [Act.put, List.setIfInBounds_toArray, List.set_cons_zero, List.set_cons_succ]
              refine wpAnyH_take_d (i := 4) (v := .bool false) 24 rfl rfl (by kernel_rfl) (by kernel_rfl) (by kernel_rfl) (fun _ _ _ h => h) (Or.inl ⟨by kernel_rfl, fun w' hS' => ?y4⟩) hS ?_
              case y4 => (obtain ⟨q0, q1⟩ := hS'; go_simp)
              simp only [Act.put, List.setIfInBounds_toArray, List.set_cons_zero, List.set_cons_succ]
              refine wpAnyH_take_d (i := 5) (v := .pointer (some ⟨wr.heap.size, 1, none⟩)) 25 rfl rfl (by kernel_rfl) (by kernel_rfl) (by kernel_rfl) (fun _ _ _ h => h) (Or.inl ⟨by kernel_rfl, fun w' hS' => ?y5⟩) hS ?_
              case y5 => (obtain ⟨q0, q1⟩ := hS'; go_simp)
              simp only [Act.put, List.setIfInBounds_toArray, List.set_cons_zero, List.set_cons_succ]
              refine wpAnyH_take_d (i := 6) (v := .string e.t) 26 rfl rfl (by kernel_rfl) (by kernel_rfl) (by kernel_rfl) (fun _ _ _ h => h) (Or.inl ⟨by kernel_rfl, fun w' hS' => ?y6⟩) hS ?_
              case y6 => (obtain ⟨q0, q1⟩ := hS'; go_simp)
              simp only [Act.put, List.setIfInBounds_toArray, List.set_cons_zero, List.set_cons_succ]
              refine wpAnyH_take_d (i := 7) (v := .int .i64 (e.t.size : Int)) 27 rfl rfl (by kernel_rfl) (by kernel_rfl) (by kernel_rfl) (fun _ _ _ h => h) (Or.inl ⟨by kernel_rfl, fun w' hS' => ?y7⟩) hS ?_
              case y7 => (obtain ⟨q0, q1⟩ := hS'; go_simp)
              simp only [Act.put, List.setIfInBounds_toArray, List.set_cons_zero, List.set_cons_succ]
              refine wpAnyH_take_d (i := 8) (v := .bool false) 28 rfl rfl (by kernel_rfl) (by kernel_rfl) (by kernel_rfl) (fun _ _ _ h => h) (Or.inl ⟨by kernel_rfl, fun w' hS' => ?y8⟩) hS ?_
              case y8 => (obtain ⟨q0, q1⟩ := hS'; go_simp)
              simp only [Act.put, List.setIfInBounds_toArray, List.set_cons_zero, List.set_cons_succ]
              refine wpAnyH_take_d (i := 9) (v := .bool false) 29 rfl rfl (by kernel_rfl) (by kernel_rfl) (by kernel_rfl) (fun _ _ _ h => h) (Or.inl ⟨by kernel_rfl, fun w' hS' => ?y9⟩) hS ?_
              case y9 => (obtain ⟨q0, q1⟩ := hS'; go_simp)
              simp only [Act.put, List.setIfInBounds_toArray, List.set_cons_zero, List.set_cons_succ]
              refine wpAnyH_take_d (i := 10) (v := .bool false) 30 rfl rfl (by kernel_rfl) (by kernel_rfl) (by kernel_rfl) (fun _ _ _ h => h) (Or.inl ⟨by kernel_rfl, fun w' hS' => ?y10⟩) hS ?_
              case y10 => (obtain ⟨q0, q1⟩ := hS'; go_simp)
              simp only [Act.put, List.setIfInBounds_toArray, List.set_cons_zero, List.set_cons_succ]
              refine wpAnyH_take_d (i := 11) (v := .slice (some ⟨b, off, none⟩) l.length c) 31 rfl rfl (by kernel_rfl) (by kernel_rfl) (by kernel_rfl) (fun _ _ _ h => h) (Or.inl ⟨by kernel_rfl, fun w' hS' => ?y11⟩) hS ?_
              case y11 => (obtain ⟨q0, q1⟩ := hS'; go_simp)
              simp only [Act.put, List.setIfInBounds_toArray, List.set_cons_zero, List.set_cons_succ]
              refine wpAnyH_take_d (i := 12) (v := .int .i64 (k : Int)) 32 rfl rfl (by kernel_rfl) (by kernel_rfl) (by kernel_rfl) (fun _ _ _ h => h) (Or.inl ⟨by kernel_rfl, fun w' hS' => ?y12⟩) hS ?_
              case y12 => (obtain ⟨q0, q1⟩ := hS'; go_simp)
              simp only [Act.put, List.setIfInBounds_toArray, List.set_cons_zero, List.set_cons_succ]
              refine wpAnyH_take_d (i := 13) (v := .slice (some ⟨b, off, none⟩) k c) 33 rfl rfl (by kernel_rfl) (by kernel_rfl) (by kernel_rfl) (fun _ _ _ h => h) (Or.inl ⟨by kernel_rfl, fun w' hS' => ?y13⟩) hS ?_
              case y13 => (obtain ⟨q0, q1⟩ := hS'; go_simp)
              simp only [Act.put, List.setIfInBounds_toArray, List.set_cons_zero, List.set_cons_succ]
              refine wpAnyH_take_d (i := 14) (v := .pointer (some ⟨wr.heap.size, 0, none⟩)) 34 rfl rfl (by kernel_rfl) (by kernel_rfl) (by kernel_rfl) (fun _ _ _ h => h) (Or.inl ⟨by kernel_rfl, fun w' hS' => ?y14⟩) hS ?_
              case y14 => (obtain ⟨q0, q1⟩ := hS'; go_simp)
              simp only [Act.put, List.setIfInBounds_toArray, List.set_cons_zero, List.set_cons_succ]
              refine wpAnyH_take_d (i := 15) (v := .string e.n) 35 rfl rfl (by kernel_rfl) (by kernel_rfl) (by kernel_rfl) (fun _ _ _ h => h) (Or.inl ⟨by kernel_rfl, fun w' hS' => ?y15⟩) hS ?_
              case y15 => (obtain ⟨q0, q1⟩ := hS'; go_simp)
              simp only [Act.put, List.setIfInBounds_toArray, List.set_cons_zero, List.set_cons_succ]
              refine wpAnyH_ready (rs := [16]) (by kernel_rfl) (by simp) ?_
              refine AllReadyH.cons rfl (fun K hK => ?_) AllReadyH.nil
              go_simp
              refine (HP w2 hBw).out.mono ?_
              rintro r w3 ⟨rfl, hb3⟩
              have hg2 : wr.heap.size < w2.heap.size := Nat.lt_of_lt_of_le (by simp) hb2.size
              have hS3 : (fun w' : World => w'.cell? ⟨wr.heap.size, 0, none⟩ = some (.string e.n) ∧ w'.cell? ⟨wr.heap.size, 1, none⟩ = some (.string e.t)) w3 := ⟨(hb3.cell (p := ⟨wr.heap.size, 0, none⟩) hg2).trans hS.1, (hb3.cell (p := ⟨wr.heap.size, 1, none⟩) hg2).trans hS.2⟩
              have hBw3 : Below wr.heap.size wr w3 := hBw.trans (hb3.mono hBw.size)
              refine hK.out _ _ hS3 (fun _ => ?_)
              clear hK K hS
              have hS := hS3
              try simp only [Act.put, List.setIfInBounds_toArray, List.set_cons_zero, List.set_cons_succ]
              refine wpAnyH_take_d (i := 17) (v := .bool false) 37 rfl rfl (by kernel_rfl) (by kernel_rfl) (by kernel_rfl) (fun _ _ _ h => h) (Or.inl ⟨by kernel_rfl, fun w' hS' => ?y17⟩) hS ?_
              case y17 => (obtain ⟨q0, q1⟩ := hS'; go_simp)
              simp only [Act.put, List.setIfInBounds_toArray, List.set_cons_zero, List.set_cons_succ]
              refine wpAnyH_take_d (i := 18) (v := .bool false) 38 rfl rfl (by kernel_rfl) (by kernel_rfl) (by kernel_rfl) (fun _ _ _ h => h) (Or.inl ⟨by kernel_rfl, fun w' hS' => ?y18⟩) hS ?_
              case y18 => (obtain ⟨q0, q1⟩ := hS'; go_simp)
              simp only [Act.put, List.setIfInBounds_toArray, List.set_cons_zero, List.set_cons_succ]
              refine wpAnyH_done (by kernel_rfl) ?_ _
              have q1 := HQ1.out
              have q0 := HQ0.out
              go_wp2
              go_roundw
              case rel => exact ⟨k + 1, by omega, by go_num, hB.trans (hBw3.mono hB.size), Lib.hid (ok_snoc HE.out HN.out ⟨HT.out, by omega, hp⟩)⟩
              case measure => simp [intOf]; omega
            · rw [hpi] at HP
              have z5 : (0 : Int) ≤ m := by omega
              have HPP := Lib.hid hp
              clear hp hpi
              go_wp2
              rename_i Q1 K1 q1 K0 q0
              have HQ1 := Lib.hid q1
              have HQ0 := Lib.hid q0
              clear q1 q0
              have hS : (fun w' : World => w'.cell? ⟨wr.heap.size, 0, none⟩ = some (.string e.n) ∧ w'.cell? ⟨wr.heap.size, 1, none⟩ = some (.string e.t)) (wr.alloc (.cells #[.string e.n, .string e.t] 58)).drew := ⟨d0, d1⟩
              refine wp_region_held (S := fun w' => w'.cell? ⟨wr.heap.size, 0, none⟩ = some (.string e.n) ∧ w'.cell? ⟨wr.heap.size, 1, none⟩ = some (.string e.t)) (by kernel_rfl) ?_
              show wpAnyH _ _ _ _ _ _ _ _ (wr.alloc (.cells #[.string e.n, .string e.t] 58)).drew
              refine wpAnyH_take_d (i := 0) (v := .pointer (some ⟨wr.heap.size, 0, none⟩)) 20 rfl rfl (by kernel_rfl) (by kernel_rfl) (by kernel_rfl) (fun _ _ _ h => h) (Or.inl ⟨by kernel_rfl, fun w' hS' => ?y0⟩) hS ?_
              case y0 => (obtain ⟨q0, q1⟩ := hS'; go_simp)
              simp only [Act.put, List.setIfInBounds_toArray, List.set_cons_zero, List.set_cons_succ]
              refine wpAnyH_take_d (i := 1) (v := .string e.n) 21 rfl rfl (by kernel_rfl) (by kernel_rfl) (by kernel_rfl) (fun _ _ _ h => h) (Or.inl ⟨by kernel_rfl, fun w' hS' => ?y1⟩) hS ?_
              case y1 => (obtain ⟨q0, q1⟩ := hS'; go_simp)
              simp only [Act.put, List.setIfInBounds_toArray, List.set_cons_zero, List.set_cons_succ]
              refine wpAnyH_ready (rs := [2]) (by kernel_rfl) (by simp) ?_
              refine AllReadyH.cons rfl (fun K hK => ?_) AllReadyH.nil
              go_simp
              refine (HQ _).out.mono ?_
              rw [HT.out]
              rintro r w2 ⟨rfl, hb2⟩
              have hS2 : (fun w' : World => w'.cell? ⟨wr.heap.size, 0, none⟩ = some (.string e.n) ∧ w'.cell? ⟨wr.heap.size, 1, none⟩ = some (.string e.t)) w2 := ⟨(hb2.cell (p := ⟨wr.heap.size, 0, none⟩) (by simp)).trans d0, (hb2.cell (p := ⟨wr.heap.size, 1, none⟩) (by simp)).trans d1⟩
              have hBw : Below wr.heap.size wr w2 := Below.trans (⟨hB1.os, hB1.tape, hB1.output, hB1.size, hB1.block⟩ : Below wr.heap.size wr (wr.alloc (.cells #[.string e.n, .string e.t] 58)).drew) (hb2.mono hB1.size)
              refine hK.out _ _ hS2 (fun _ => ?_)
              clear hK K hS
              have hS := hS2
              try simp only [Act.put, List.setIfInBounds_toArray, List.set_cons_zero, List.set_cons_succ]
              refine wpAnyH_take_d (i := 3) (v := .bool false) 23 rfl rfl (by kernel_rfl) (by kernel_rfl) (by kernel_rfl) (fun _ _ _ h => h) (Or.inl ⟨by kernel_rfl, fun w' hS' => ?y3⟩) hS ?_
              case y3 => (obtain ⟨q0, q1⟩ := hS'; go_simp)
              simp only [Act.put, List.setIfInBounds_toArray, List.set_cons_zero, List.set_cons_succ]
              refine wpAnyH_take_d (i := 4) (v := .bool false) 24 rfl rfl (by kernel_rfl) (by kernel_rfl) (by kernel_rfl) (fun _ _ _ h => h) (Or.inl ⟨by kernel_rfl, fun w' hS' => ?y4⟩) hS ?_
              case y4 => (obtain ⟨q0, q1⟩ := hS'; go_simp)
              simp only [Act.put, List.setIfInBounds_toArray, List.set_cons_zero, List.set_cons_succ]
              refine wpAnyH_take_d (i := 5) (v := .pointer (some ⟨wr.heap.size, 1, none⟩)) 25 rfl rfl (by kernel_rfl) (by kernel_rfl) (by kernel_rfl) (fun _ _ _ h => h) (Or.inl ⟨by kernel_rfl, fun w' hS' => ?y5⟩) hS ?_
              case y5 => (obtain ⟨q0, q1⟩ := hS'; go_simp)
              simp only [Act.put, List.setIfInBounds_toArray, List.set_cons_zero, List.set_cons_succ]
              refine wpAnyH_take_d (i := 6) (v := .string e.t) 26 rfl rfl (by kernel_rfl) (by kernel_rfl) (by kernel_rfl) (fun _ _ _ h => h) (Or.inl ⟨by kernel_rfl, fun w' hS' => ?y6⟩) hS ?_
              case y6 => (obtain ⟨q0, q1⟩ := hS'; go_simp)
              simp only [Act.put, List.setIfInBounds_toArray, List.set_cons_zero, List.set_cons_succ]
              refine wpAnyH_take_d (i := 7) (v := .int .i64 (e.t.size : Int)) 27 rfl rfl (by kernel_rfl) (by kernel_rfl) (by kernel_rfl) (fun _ _ _ h => h) (Or.inl ⟨by kernel_rfl, fun w' hS' => ?y7⟩) hS ?_
              case y7 => (obtain ⟨q0, q1⟩ := hS'; go_simp)
              simp only [Act.put, List.setIfInBounds_toArray, List.set_cons_zero, List.set_cons_succ]
              refine wpAnyH_take_d (i := 8) (v := .bool false) 28 rfl rfl (by kernel_rfl) (by kernel_rfl) (by kernel_rfl) (fun _ _ _ h => h) (Or.inl ⟨by kernel_rfl, fun w' hS' => ?y8⟩) hS ?_
              case y8 => (obtain ⟨q0, q1⟩ := hS'; go_simp)
              simp only [Act.put, List.setIfInBounds_toArray, List.set_cons_zero, List.set_cons_succ]
              refine wpAnyH_take_d (i := 9) (v := .bool false) 29 rfl rfl (by kernel_rfl) (by kernel_rfl) (by kernel_rfl) (fun _ _ _ h => h) (Or.inl ⟨by kernel_rfl, fun w' hS' => ?y9⟩) hS ?_
              case y9 => (obtain ⟨q0, q1⟩ := hS'; go_simp)
              simp only [Act.put, List.setIfInBounds_toArray, List.set_cons_zero, List.set_cons_succ]
              refine wpAnyH_take_d (i := 10) (v := .bool false) 30 rfl rfl (by kernel_rfl) (by kernel_rfl) (by kernel_rfl) (fun _ _ _ h => h) (Or.inl ⟨by kernel_rfl, fun w' hS' => ?y10⟩) hS ?_
              case y10 => (obtain ⟨q0, q1⟩ := hS'; go_simp)
              simp only [Act.put, List.setIfInBounds_toArray, List.set_cons_zero, List.set_cons_succ]
              refine wpAnyH_take_d (i := 11) (v := .slice (some ⟨b, off, none⟩) l.length c) 31 rfl rfl (by kernel_rfl) (by kernel_rfl) (by kernel_rfl) (fun _ _ _ h => h) (Or.inl ⟨by kernel_rfl, fun w' hS' => ?y11⟩) hS ?_
              case y11 => (obtain ⟨q0, q1⟩ := hS'; go_simp)
              simp only [Act.put, List.setIfInBounds_toArray, List.set_cons_zero, List.set_cons_succ]
              refine wpAnyH_take_d (i := 12) (v := .int .i64 (k : Int)) 32 rfl rfl (by kernel_rfl) (by kernel_rfl) (by kernel_rfl) (fun _ _ _ h => h) (Or.inl ⟨by kernel_rfl, fun w' hS' => ?y12⟩) hS ?_
              case y12 => (obtain ⟨q0, q1⟩ := hS'; go_simp)
              simp only [Act.put, List.setIfInBounds_toArray, List.set_cons_zero, List.set_cons_succ]
              refine wpAnyH_take_d (i := 13) (v := .slice (some ⟨b, off, none⟩) k c) 33 rfl rfl (by kernel_rfl) (by kernel_rfl) (by kernel_rfl) (fun _ _ _ h => h) (Or.inl ⟨by kernel_rfl, fun w' hS' => ?y13⟩) hS ?_
              case y13 => (obtain ⟨q0, q1⟩ := hS'; go_simp)
              simp only [Act.put, List.setIfInBounds_toArray, List.set_cons_zero, List.set_cons_succ]
              refine wpAnyH_take_d (i := 14) (v := .pointer (some ⟨wr.heap.size, 0, none⟩)) 34 rfl rfl (by kernel_rfl) (by kernel_rfl) (by kernel_rfl) (fun _ _ _ h => h) (Or.inl ⟨by kernel_rfl, fun w' hS' => ?y14⟩) hS ?_
              case y14 => (obtain ⟨q0, q1⟩ := hS'; go_simp)
              simp only [Act.put, List.setIfInBounds_toArray, List.set_cons_zero, List.set_cons_succ]
              refine wpAnyH_take_d (i := 15) (v := .string e.n) 35 rfl rfl (by kernel_rfl) (by kernel_rfl) (by kernel_rfl) (fun _ _ _ h => h) (Or.inl ⟨by kernel_rfl, fun w' hS' => ?y15⟩) hS ?_
              case y15 => (obtain ⟨q0, q1⟩ := hS'; go_simp)
              simp only [Act.put, List.setIfInBounds_toArray, List.set_cons_zero, List.set_cons_succ]
              refine wpAnyH_ready (rs := [16]) (by kernel_rfl) (by simp) ?_
              refine AllReadyH.cons rfl (fun K hK => ?_) AllReadyH.nil
              go_simp
              refine (HP w2 hBw).out.mono ?_
              rintro r w3 ⟨rfl, hb3⟩
              have hg2 : wr.heap.size < w2.heap.size := Nat.lt_of_lt_of_le (by simp) hb2.size
              have hS3 : (fun w' : World => w'.cell? ⟨wr.heap.size, 0, none⟩ = some (.string e.n) ∧ w'.cell? ⟨wr.heap.size, 1, none⟩ = some (.string e.t)) w3 := ⟨(hb3.cell (p := ⟨wr.heap.size, 0, none⟩) hg2).trans hS.1, (hb3.cell (p := ⟨wr.heap.size, 1, none⟩) hg2).trans hS.2⟩
              have hBw3 : Below wr.heap.size wr w3 := hBw.trans (hb3.mono hBw.size)
              refine hK.out _ _ hS3 (fun _ => ?_)
              clear hK K hS
              have hS := hS3
              try simp only [Act.put, List.setIfInBounds_toArray, List.set_cons_zero, List.set_cons_succ]
              refine wpAnyH_take_d (i := 17) (v := .bool true) 37 rfl rfl (by kernel_rfl) (by kernel_rfl) (by kernel_rfl) (fun _ _ _ h => h) (Or.inl ⟨by kernel_rfl, fun w' hS' => ?y17⟩) hS ?_
              case y17 => (obtain ⟨q0, q1⟩ := hS'; go_simp)
              simp only [Act.put, List.setIfInBounds_toArray, List.set_cons_zero, List.set_cons_succ]
              refine wpAnyH_take_d (i := 18) (v := .bool true) 38 rfl rfl (by kernel_rfl) (by kernel_rfl) (by kernel_rfl) (fun _ _ _ h => h) (Or.inl ⟨by kernel_rfl, fun w' hS' => ?y18⟩) hS ?_
              case y18 => (obtain ⟨q0, q1⟩ := hS'; go_simp)
              simp only [Act.put, List.setIfInBounds_toArray, List.set_cons_zero, List.set_cons_succ]
              refine wpAnyH_done (by kernel_rfl) ?_ _
              have q1 := HQ1.out
              have q0 := HQ0.out
              go_wp2
              go_ret
              exact ⟨ret_bool (rgt_not HE.out (fun h => by have := h.2.2; rw [HPP.out] at this; cases this)).symm, hB.trans (hBw3.mono hB.size)⟩
      · obtain rfl : k = l.length := by omega
        go_wp2
        go_ret
        exact ⟨ret_bool (rgt_yes ⟨h1, h8, fun i x hx => HN.out i x (List.getElem?_eq_some_iff.1 hx).1 hx⟩).symm, hB⟩
  · by_cases h0 : l.length < 1
    · have d1 : decide ((l.length : Int) < 1) = true := decide_eq_true (by omega)
      go_enter Try.func35, Try.ntmps35
      go_wp2
      all_goals go_ret
      all_goals exact ⟨ret_bool (rgt_no (fun h => h8 ⟨h.1, h.2.1⟩)).symm, Below.refl _ _⟩
    · have d1 : decide ((l.length : Int) < 1) = false := decide_eq_false (by omega)
      have d2 : decide (8 < (l.length : Int)) = true := decide_eq_true (by omega)
      go_enter Try.func35, Try.ntmps35
      go_wp2
      all_goals go_ret
      all_goals exact ⟨ret_bool (rgt_no (fun h => h8 ⟨h.1, h.2.1⟩)).symm, Below.refl _ _⟩
end Go.Proofs.Ytfkpnfhhmldodaa
