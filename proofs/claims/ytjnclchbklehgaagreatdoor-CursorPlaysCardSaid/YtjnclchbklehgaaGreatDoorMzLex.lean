/- slices.Collect of tokens; lex.List. -/
import Derived.Test.YtjnclchbklehgaaGreatDoorLexAll
namespace Go.Proofs.YtjnclchbklehgaaGreatDoor
open Go.RowKit Go.Shelf SignMath

attribute [local go_sem] Oper.semAt_some

/-- a slice of tokens, in new memory -/
def CoV (L : List Tk) (w : World) (e : Ending) (w' : World) : Prop := ∃ A c, e = .returned (.slice A L.length c) ∧ Rdc w' w'.heap.size A (tcells L) ∧ (∀ a, A = some a → w.heap.size ≤ a.block) ∧ Below w.heap.size w w'

def CoI (w : World) (y : Nat) (pre : List Tk) : As := fun X W => Low w.heap.size w X W ∧ ∃ v, Has y (.cells #[v] 87 (0, 0)) X W ∧ Row w.heap.size 105 3 v pre.length (tcells pre) X W
theorem CoI.frames (w : World) (y : Nat) (pre : List Tk) : Frames (CoI w y pre) := (Low.frames _ _).and (Frames.ex fun _ => (Has.frames _ _).and (Row.frames _ _ _ _ _ _))
abbrev coFrm (y bp : Nat) (v : Value) (p : Tk) : Act := { tmps := #[.slice none 0 0, v, .pointer (some ⟨y, 0, none⟩), undef, .slice none 0 0, .pointer (some ⟨bp, 0, none⟩), v, tkv p, undef, undef, undef, undef, undef], defers := [] }
def CoA (w : World) (y : Nat) (v : Value) (pre : List Tk) (p : Tk) (a' : Act) : As := fun X W => ∃ bp, CoI w y pre X W ∧ Has bp (tkc p) X W ∧ a' = coFrm y bp v p


























































































end Go.Proofs.YtjnclchbklehgaaGreatDoor

namespace Go.Proofs.YtjnclchbklehgaaGreatDoor
open Go.RowKit Go.Shelf SignMath

theorem has_size (s t : ByteArray) (k : Nat) (b : Bool) (h : (bs t).isPrefixOf ((bs s).drop k) = b) (_hk : k + t.size ≤ s.size) : ((s.extract k (k + t.size)).toList == t.toList) = b := by
  rw [str_beq, ← h, Bool.eq_iff_iff, decide_eq_true_iff, List.isPrefixOf_iff_prefix]
  have e : bs (s.extract k (k + t.size)) = ((bs s).drop k).take (bs t).length := by rw [bs_cut, bs_size, Nat.add_sub_cancel_left]
  constructor
  · intro h1
    have h2 : bs (s.extract k (k + t.size)) = bs t := by rw [h1]
    rw [← h2, e]; exact List.take_prefix _ _
  · rintro ⟨r, hr⟩
    refine WideShapes.bytes_inj ?_
    show bs _ = bs _
    rw [e, ← hr, List.take_left]

set_option maxHeartbeats 1000000 in
theorem has_at (s t : ByteArray) (hs : s.size ≤ 10000) (ht : t.size ≤ 100) (k : Nat) (hk : k ≤ s.size) (b : Bool) (h : (bs t).isPrefixOf ((bs s).drop k) = b) (w : World) :
    Calls Tryz.prog 104 #[.string s, .int .i64 (k : Nat), .string t] w fun e w' => e = .returned (.bool b) ∧ w = w' := by
  by_cases hz : k + t.size ≤ s.size
  · have hbe := has_size s t k b h hz
    clear h
    go_enter Tryz.func104, Tryz.ntmps104
    go_wp2
    go_ret
    exact ⟨rfl, rfl⟩
  · have hb : b = false := by
      rw [← h]
      cases hp : (bs t).isPrefixOf ((bs s).drop k) with
      | false => rfl
      | true => have := pre_len hp; rw [List.length_drop, bs_size, bs_size] at this; omega
    subst hb
    clear h
    go_enter Tryz.func104, Tryz.ntmps104
    go_wp2
    go_ret
    exact ⟨rfl, rfl⟩

theorem inside_any : Asks 105 lf := by
  intro n w
  cases a : lt n
  all_goals
    have HA := Lib.hid a
    clear a
    go_enter Tryz.func105, Tryz.ntmps105
    go_wp2_with (first | (go_at_call 120; refine (refLetter_any _ _).mono ?_; rw [HA.out]; rintro e w' ⟨rfl, rfl⟩) | (go_at_call 121; refine (refFigure_any _ _).mono ?_; rintro e w' ⟨rfl, rfl⟩))
    go_ret
    exact ⟨sret_bool (by unfold lf; rw [HA.out]; rfl), rfl⟩

theorem set_here {w : World} {p : Addr} (h : (w.cell? p).isSome = true) (v : Value) : (w.setCell p v).cell? p = some v := by
  obtain ⟨u, hu⟩ := Option.isSome_iff_exists.1 h
  exact World.cell?_setCell_same _ _ _ hu
theorem set_there {w : World} {p : Addr} (h : (w.cell? p).isSome = true) {q : Addr} (v : Value) : ((w.setCell q v).cell? p).isSome = true := by
  by_cases e : q = p
  · subst e; rw [set_here h]; rfl
  · rw [World.cell?_setCell_other _ _ _ _ e]; exact h
theorem three_set {w : World} {r : Nat} (h0 : (w.cell? ⟨r, 0, none⟩).isSome = true) (h1 : (w.cell? ⟨r, 1, none⟩).isSome = true) (h2 : (w.cell? ⟨r, 2, none⟩).isSome = true) (x y u : Value) :
    (((w.setCell ⟨r, 0, none⟩ x).setCell ⟨r, 1, none⟩ y).setCell ⟨r, 2, none⟩ u).cell? ⟨r, 0, none⟩ = some x ∧ (((w.setCell ⟨r, 0, none⟩ x).setCell ⟨r, 1, none⟩ y).setCell ⟨r, 2, none⟩ u).cell? ⟨r, 1, none⟩ = some y ∧
    (((w.setCell ⟨r, 0, none⟩ x).setCell ⟨r, 1, none⟩ y).setCell ⟨r, 2, none⟩ u).cell? ⟨r, 2, none⟩ = some u := by
  refine ⟨?_, ?_, ?_⟩
  · rw [World.cell?_setCell_other _ _ _ _ (by simp), World.cell?_setCell_other _ _ _ _ (by simp)]; exact set_here h0 x
  · rw [World.cell?_setCell_other _ _ _ _ (by simp)]; exact set_here (set_there h1 _) y
  · exact set_here (set_there (set_there h2 _) _) u

/-- the box of the answer -/
abbrev tk0 : Obj := .cells #[.int .i64 0, .int .i64 0, .int .i64 0] 108 (0, 0)

theorem next_out {w W : World} {ts : Array Value} (t : Tk) {v0 v1 v2 : Int} (e0 : v0 = t.k) (e1 : v1 = t.a) (e2 : v2 = t.z) (hW : W.heap[w.heap.size]? = some tk0) (hB : Below w.heap.size w W) (h4 : ts[4]? = some (.pointer (some ⟨w.heap.size, 0, none⟩))) :
    bodyPost Tryz.prog Tryz.f87 (fun e w' => e = .returned (tkv t) ∧ Below w.heap.size w w') Exit.ret { tmps := ts, defers := [] }
      (((W.setCell ⟨w.heap.size, 0, none⟩ (.int .i64 v0)).setCell ⟨w.heap.size, 1, none⟩ (.int .i64 v1)).setCell ⟨w.heap.size, 2, none⟩ (.int .i64 v2)) := by
  subst e0 e1 e2
  have c : ∀ j : Nat, j < 3 → (W.cell? ⟨w.heap.size, j, none⟩).isSome = true := by
    intro j hj
    rw [Lib.cell_of_heap hW]
    match j, hj with
    | 0, _ => rfl
    | 1, _ => rfl
    | 2, _ => rfl
  obtain ⟨r0, r1, r2⟩ := three_set (c 0 (by omega)) (c 1 (by omega)) (c 2 (by omega)) (.int .i64 (t.k : Nat)) (.int .i64 (t.a : Nat)) (.int .i64 (t.z : Nat))
  have hbf := ((hB.setCell (p := ⟨w.heap.size, 0, none⟩) (Nat.le_refl _) (.int .i64 (t.k : Nat))).setCell (p := ⟨w.heap.size, 1, none⟩) (Nat.le_refl _) (.int .i64 (t.a : Nat))).setCell (p := ⟨w.heap.size, 2, none⟩) (Nat.le_refl _) (.int .i64 (t.z : Nat))
  generalize ((W.setCell ⟨w.heap.size, 0, none⟩ (.int .i64 (t.k : Nat))).setCell ⟨w.heap.size, 1, none⟩ (.int .i64 (t.a : Nat))).setCell ⟨w.heap.size, 2, none⟩ (.int .i64 (t.z : Nat)) = W5 at *
  exact bodyPost_ret (v := tkv t) (by simp [results, Tryz.results87, go_sem, Array.getD_eq_getD_getElem?, h4, r0, r1, r2]) rfl ⟨rfl, hbf⟩

theorem next_new {w : World} {ts : Array Value} (t : Tk) {v0 v1 v2 : Int} (e0 : v0 = t.k) (e1 : v1 = t.a) (e2 : v2 = t.z) (h4 : ts[4]? = some (.pointer (some ⟨w.heap.size, 0, none⟩))) :
    bodyPost Tryz.prog Tryz.f87 (fun e w' => e = .returned (tkv t) ∧ Below w.heap.size w w') Exit.ret { tmps := ts, defers := [] }
      (w.alloc (.cells #[.int .i64 v0, .int .i64 v1, .int .i64 v2] 108)) := by
  subst e0 e1 e2
  have hW := World.alloc_heap_new w (.cells #[.int .i64 (t.k : Nat), .int .i64 (t.a : Nat), .int .i64 (t.z : Nat)] 108)
  have hB := lbelow1 w (.cells #[.int .i64 (t.k : Nat), .int .i64 (t.a : Nat), .int .i64 (t.z : Nat)] 108)
  have r0 := Lib.cell_of_heap hW 0
  have r1 := Lib.cell_of_heap hW 1
  have r2 := Lib.cell_of_heap hW 2
  simp only [List.getElem?_toArray, List.getElem?_cons_zero, List.getElem?_cons_succ] at r0 r1 r2
  generalize w.alloc (.cells #[.int .i64 (t.k : Nat), .int .i64 (t.a : Nat), .int .i64 (t.z : Nat)] 108) = W5 at *
  exact bodyPost_ret (v := tkv t) (by simp [results, Tryz.results87, go_sem, Array.getD_eq_getD_getElem?, h4, r0, r1, r2]) rfl ⟨rfl, hB⟩

set_option maxRecDepth 100000 in
set_option maxHeartbeats 2000000 in
theorem next_blank (s : ByteArray) (hs : s.size ≤ 10000) (k : Nat) (hk : k < s.size) (hb : bk (nb s[k]) = true) (w : World) :
    Calls Tryz.prog 87 #[.string s, .int .i64 (k : Nat)] w fun e w' => e = .returned (tkv ⟨1, k, rn bk (bs s) k⟩) ∧ Below w.heap.size w w' := by
  have HZ := Lib.hid (bs_size s)
  have HB := Lib.hid hb
  clear hb
  go_enter Tryz.func87, Tryz.ntmps87
  go_wp2_with (go_at_call 103; refine (refBlank_any _ _).mono ?_; rw [show bk (s[k].toNat : Int) = true from HB.out]; rintro e w' ⟨rfl, rfl⟩)
  go_loop [6] (fun i => ∃ j : Nat, j ≤ s.size ∧ i = .int .i64 (j : Int) ∧ Hid (rn bk (bs s) j = rn bk (bs s) k)) (fun i => s.size - (intOf i).toNat)
  case atStart => exact ⟨k, by omega, rfl, Lib.hid rfl⟩
  case round =>
    obtain ⟨j, hj, rfl, HR⟩ := hrel
    by_cases hlt : j < s.size
    · cases hq : bk (s[j].toNat : Int) with
      | true =>
        have HN := Lib.hid (rn_step bk (bs s) j (by rw [HZ.out]; exact hlt) hq)
        have HQ := Lib.hid hq
        clear hq
        go_wp2_with (go_at_call 103; refine (refBlank_any _ _).mono ?_; rw [HQ.out]; rintro e w' ⟨rfl, rfl⟩)
        go_round
        case rel => exact ⟨j + 1, by omega, by go_num, Lib.hid (HN.out.symm.trans HR.out)⟩
        case measure => simp [intOf]; omega
      | false =>
        have HN := Lib.hid (rn_stop bk (bs s) j (by rw [HZ.out]; exact hlt) hq)
        have HQ := Lib.hid hq
        clear hq
        go_wp2_with (go_at_call 103; refine (refBlank_any _ _).mono ?_; rw [HQ.out]; rintro e w' ⟨rfl, rfl⟩)
        exact next_new ⟨1, k, rn bk (bs s) k⟩ (by rfl) (by rfl) (by rw [← HR.out, HN.out]) (by rfl)
    · obtain rfl : j = s.size := by omega
      have HN := Lib.hid (rn_end bk (bs s) s.size (by rw [HZ.out]; exact Nat.le_refl _))
      go_wp2
      exact next_new ⟨1, k, rn bk (bs s) k⟩ (by rfl) (by rfl) (by rw [← HR.out, HN.out]) (by rfl)
set_option maxRecDepth 100000 in
set_option maxHeartbeats 4000000 in
theorem next_line (s : ByteArray) (hs : s.size ≤ 10000) (k : Nat) (hk : k < s.size) (hb : bk (nb s[k]) = false) (ha : [47, 47].isPrefixOf ((bs s).drop k) = true) (w : World) :
    Calls Tryz.prog 87 #[.string s, .int .i64 (k : Nat)] w fun e w' => e = .returned (tkv ⟨2, k, rn nl (bs s) k⟩) ∧ Below w.heap.size w w' := by
  have HZ := Lib.hid (bs_size s)
  have HB := Lib.hid hb
  clear hb
  have HA := Lib.hid (fun w => has_at s ⟨#[47, 47]⟩ hs (by decide) k (by omega) true ha w)
  clear ha
  go_enter Tryz.func87, Tryz.ntmps87
  go_wp2_with (first | (go_at_call 103; refine (refBlank_any _ _).mono ?_; rw [show bk (s[k].toNat : Int) = false from HB.out]; rintro e w' ⟨rfl, rfl⟩) | (go_at_call 104; first | (with_reducible refine (HA.out _).mono ?_; rintro e w' ⟨rfl, rfl⟩)))
  go_loop [6] (fun i => ∃ j : Nat, j ≤ s.size ∧ i = .int .i64 (j : Int) ∧ Hid (rn nl (bs s) j = rn nl (bs s) k)) (fun i => s.size - (intOf i).toNat)
  case atStart => exact ⟨k, by omega, rfl, Lib.hid rfl⟩
  case round =>
    obtain ⟨j, hj, rfl, HR⟩ := hrel
    by_cases hlt : j < s.size
    · have hbe := beqd (s[j].toNat : Int) 10
      cases hq : decide ((s[j].toNat : Int) = 10) with
      | false =>
        have hq' : nl (s[j].toNat : Int) = true := by unfold nl; rw [decide_eq_true_iff]; exact of_decide_eq_false hq
        have HN := Lib.hid (rn_step nl (bs s) j (by rw [HZ.out]; exact hlt) hq')
        rw [hq] at hbe
        have hbn : ((s[j].toNat : Int) != 10) = true := by rw [bne, hbe]; rfl
        clear hq hq'
        go_wp2
        go_round
        case rel => exact ⟨j + 1, by omega, by go_num, Lib.hid (HN.out.symm.trans HR.out)⟩
        case measure => simp [intOf]; omega
      | true =>
        have hq' : nl (s[j].toNat : Int) = false := by unfold nl; rw [decide_eq_false_iff_not, Classical.not_not]; exact of_decide_eq_true hq
        have HN := Lib.hid (rn_stop nl (bs s) j (by rw [HZ.out]; exact hlt) hq')
        rw [hq] at hbe
        have hbn : ((s[j].toNat : Int) != 10) = false := by rw [bne, hbe]; rfl
        clear hq hq'
        go_wp2
        exact next_new ⟨2, k, rn nl (bs s) k⟩ (by rfl) (by rfl) (by rw [← HR.out, HN.out]) (by rfl)
    · obtain rfl : j = s.size := by omega
      have HN := Lib.hid (rn_end nl (bs s) s.size (by rw [HZ.out]; exact Nat.le_refl _))
      go_wp2
      exact next_new ⟨2, k, rn nl (bs s) k⟩ (by rfl) (by rfl) (by rw [← HR.out, HN.out]) (by rfl)

/-- where a star note ends, by the document: the places ahead of j are no ends -/
def noEnd (l : List UInt8) (n : Nat) : Prop := ∀ i, i < n → Lib.occAt l [42, 47] i = false

set_option maxRecDepth 100000 in
set_option maxHeartbeats 4000000 in
theorem next_star (s : ByteArray) (hs : s.size ≤ 10000) (k : Nat) (hk : k < s.size) (hb : bk (nb s[k]) = false) (ha : [47, 42].isPrefixOf ((bs s).drop k) = true) (w : World) :
    Calls Tryz.prog 87 #[.string s, .int .i64 (k : Nat)] w fun e w' => e = .returned (tkv ⟨(sl ((bs s).drop k)).1, k, k + (sl ((bs s).drop k)).2⟩) ∧ Below w.heap.size w w' := by
  have HZ := Lib.hid (bs_size s)
  have HB := Lib.hid hb
  clear hb
  have HA := Lib.hid (fun w => has_at s ⟨#[47, 47]⟩ hs (by decide) k (by omega) false (not_both ha) w)
  have HS := Lib.hid (fun w => has_at s ⟨#[47, 42]⟩ hs (by decide) k (by omega) true ha w)
  have h2 : k + 2 ≤ s.size := by have := pre_len ha; rw [List.length_drop, bs_size] at this; simp at this; omega
  have HD : Hid (∀ j : Nat, k + 2 ≤ j → Lib.occAt ((bs s).drop (k + 2)) [42, 47] (j - (k + 2)) = [42, 47].isPrefixOf ((bs s).drop j)) := Lib.hid (fun j hj => by
    unfold Lib.occAt; rw [List.drop_drop, show k + 2 + (j - (k + 2)) = j by omega])
  have HO : Hid (Lib.index ((bs s).drop (k + 2)) [42, 47] < 0 → sl ((bs s).drop k) = (7, s.size - k)) := Lib.hid (fun h => by
    rw [sl_open ha (by rw [List.drop_drop]; exact h), List.length_drop, bs_size])
  have HO' : Hid (∀ n : Nat, Lib.index ((bs s).drop (k + 2)) [42, 47] = n → sl ((bs s).drop k) = (2, n + 4)) := Lib.hid (fun n h => by
    have e : Lib.index (((bs s).drop k).drop 2) [42, 47] = n := by rw [List.drop_drop]; exact h
    rw [sl_star ha (by rw [e]; omega), e]; rfl)
  clear ha
  go_enter Tryz.func87, Tryz.ntmps87
  go_wp2_with (first | (go_at_call 103; refine (refBlank_any _ _).mono ?_; rw [show bk (s[k].toNat : Int) = false from HB.out]; rintro e w' ⟨rfl, rfl⟩) | (go_at_call 104; first | (with_reducible refine (HA.out _).mono ?_; rintro e w' ⟨rfl, rfl⟩) | (with_reducible refine (HS.out _).mono ?_; rintro e w' ⟨rfl, rfl⟩)))
  go_loop [6] (fun i => ∃ j : Nat, k + 2 ≤ j ∧ j ≤ s.size ∧ i = .int .i64 (j : Int) ∧ Hid (noEnd ((bs s).drop (k + 2)) (j - (k + 2)))) (fun i => s.size - (intOf i).toNat)
  case atStart => exact ⟨k + 2, by omega, by omega, by go_num, Lib.hid (fun i hi => by omega)⟩
  case round =>
    obtain ⟨j, hj2, hj, rfl, HR⟩ := hrel
    by_cases hlt : j < s.size
    · cases hq : [42, 47].isPrefixOf ((bs s).drop j) with
      | false =>
        have HE := Lib.hid (fun w => has_at s ⟨#[42, 47]⟩ hs (by decide) j (by omega) false hq w)
        have HQ := Lib.hid hq
        clear hq
        go_wp2_with (go_at_call 104; first | (with_reducible refine (HE.out _).mono ?_; rintro e w' ⟨rfl, rfl⟩))
        go_round
        case rel =>
          refine ⟨j + 1, by omega, by omega, by go_num, Lib.hid (fun i hi => ?_)⟩
          by_cases e : i = j - (k + 2)
          · rw [e, HD.out j hj2]; exact HQ.out
          · exact HR.out i (by omega)
        case measure => simp [intOf]; omega
      | true =>
        have HE := Lib.hid (fun w => has_at s ⟨#[42, 47]⟩ hs (by decide) j (by omega) true hq w)
        have HF : Hid (sl ((bs s).drop k) = (2, j - (k + 2) + 4)) := Lib.hid (HO'.out _ (Lib.index_first (by rw [List.length_drop, HZ.out]; omega) (by rw [HD.out j hj2]; exact hq) HR.out))
        clear hq
        go_wp2_with (go_at_call 104; first | (with_reducible refine (HE.out _).mono ?_; rintro e w' ⟨rfl, rfl⟩))
        exact next_new _ (by rw [HF.out]; rfl) (by rfl) (by rw [HF.out]; dsimp only; omega) (by rfl)
    · obtain rfl : j = s.size := by omega
      have HF : Hid (sl ((bs s).drop k) = (7, s.size - k)) := Lib.hid (HO.out (by
        rw [Lib.index_none (fun i hi => by
          rw [List.length_drop, HZ.out] at hi
          by_cases e : i = s.size - (k + 2)
          · rw [e, HD.out s.size hj2, List.drop_of_length_le (by rw [HZ.out]; exact Nat.le_refl _)]; rfl
          · exact HR.out i (by omega))]
        decide))
      go_wp2
      exact next_new _ (by rw [HF.out]; rfl) (by rfl) (by rw [HF.out]; dsimp only; omega) (by rfl)

set_option maxRecDepth 100000 in
set_option maxHeartbeats 4000000 in
theorem next_print (s : ByteArray) (hs : s.size ≤ 10000) (k : Nat) (hk : k < s.size) (hb : bk (nb s[k]) = false) (h0 : [47, 47].isPrefixOf ((bs s).drop k) = false) (h1 : [47, 42].isPrefixOf ((bs s).drop k) = false) (ha : pr.isPrefixOf ((bs s).drop k) = true) (hl : lfAt (bs s) (k + 18) = false) (w : World) :
    Calls Tryz.prog 87 #[.string s, .int .i64 (k : Nat)] w fun e w' => e = .returned (tkv ⟨3, k, k + 18⟩) ∧ Below w.heap.size w w' := by
  have HZ := Lib.hid (bs_size s)
  have HB := Lib.hid hb
  clear hb
  have HA := Lib.hid (fun w => has_at s ⟨#[47, 47]⟩ hs (by decide) k (by omega) false h0 w)
  have HS := Lib.hid (fun w => has_at s ⟨#[47, 42]⟩ hs (by decide) k (by omega) false h1 w)
  have HP := Lib.hid (fun w => has_at s ⟨#[83, 121, 115, 116, 101, 109, 46, 111, 117, 116, 46, 112, 114, 105, 110, 116, 108, 110]⟩ hs (by decide) k (by omega) true ha w)
  have h18 : k + 18 ≤ s.size := by have := pre_len ha; rw [List.length_drop, bs_size] at this; have e : pr.length = 18 := rfl; omega
  clear h0 h1 ha
  have hbe := beqd ((k : Int) + 18) (s.size : Int)
  by_cases hz : k + 18 = s.size
  · rw [decide_eq_true (by omega)] at hbe
    clear hl
    go_enter Tryz.func87, Tryz.ntmps87
    go_wp2_with (first | (go_at_call 103; refine (refBlank_any _ _).mono ?_; rw [show bk (s[k].toNat : Int) = false from HB.out]; rintro e w' ⟨rfl, rfl⟩) | (go_at_call 104; first | (with_reducible refine (HA.out _).mono ?_; rintro e w' ⟨rfl, rfl⟩) | (with_reducible refine (HS.out _).mono ?_; rintro e w' ⟨rfl, rfl⟩) | (with_reducible refine (HP.out _).mono ?_; rintro e w' ⟨rfl, rfl⟩)))
    exact next_new ⟨3, k, k + 18⟩ (by rfl) (by rfl) (by simp) (by rfl)
  · rw [decide_eq_false (by omega)] at hbe
    have h19 : k + 18 < s.size := by omega
    have hq : lf (s[k + 18].toNat : Int) = false := by
      unfold lfAt at hl
      rw [List.getElem?_eq_getElem (by rw [bs_size]; exact h19)] at hl
      exact hl
    have HQ := Lib.hid hq
    clear hq hl hz
    go_enter Tryz.func87, Tryz.ntmps87
    go_wp2_with (first | (go_at_call 103; refine (refBlank_any _ _).mono ?_; rw [show bk (s[k].toNat : Int) = false from HB.out]; rintro e w' ⟨rfl, rfl⟩) | (go_at_call 104; first | (with_reducible refine (HA.out _).mono ?_; rintro e w' ⟨rfl, rfl⟩) | (with_reducible refine (HS.out _).mono ?_; rintro e w' ⟨rfl, rfl⟩) | (with_reducible refine (HP.out _).mono ?_; rintro e w' ⟨rfl, rfl⟩)) | (go_at_call 105; refine (inside_any _ _).mono ?_; rw [HQ.out]; rintro e w' ⟨rfl, rfl⟩))
    exact next_new ⟨3, k, k + 18⟩ (by rfl) (by rfl) (by simp) (by rfl)

set_option maxRecDepth 100000 in
set_option maxHeartbeats 4000000 in
theorem next_and (s : ByteArray) (hs : s.size ≤ 10000) (k : Nat) (hk : k < s.size) (hb : bk (nb s[k]) = false) (h0 : [47, 47].isPrefixOf ((bs s).drop k) = false) (h1 : [47, 42].isPrefixOf ((bs s).drop k) = false) (h2 : pr.isPrefixOf ((bs s).drop k) = false) (hl : lf (nb s[k]) = false) (ha : [38, 38].isPrefixOf ((bs s).drop k) = true) (w : World) :
    Calls Tryz.prog 87 #[.string s, .int .i64 (k : Nat)] w fun e w' => e = .returned (tkv ⟨6, k, k + 2⟩) ∧ Below w.heap.size w w' := by
  have HZ := Lib.hid (bs_size s)
  have HB := Lib.hid hb
  have HA := Lib.hid (fun w => has_at s ⟨#[47, 47]⟩ hs (by decide) k (by omega) false h0 w)
  have HS := Lib.hid (fun w => has_at s ⟨#[47, 42]⟩ hs (by decide) k (by omega) false h1 w)
  clear hb h0 h1
  have HP := Lib.hid (fun w => has_at s ⟨#[83, 121, 115, 116, 101, 109, 46, 111, 117, 116, 46, 112, 114, 105, 110, 116, 108, 110]⟩ hs (by decide) k (by omega) false h2 w)
  have HM := Lib.hid (fun w => has_at s ⟨#[38, 38]⟩ hs (by decide) k (by omega) true ha w)
  have HQ := Lib.hid hl
  clear h2 hl ha
  go_enter Tryz.func87, Tryz.ntmps87
  go_wp2_with (first | (go_at_call 103; refine (refBlank_any _ _).mono ?_; rw [show bk (s[k].toNat : Int) = false from HB.out]; rintro e w' ⟨rfl, rfl⟩) | (go_at_call 104; first | (with_reducible refine (HA.out _).mono ?_; rintro e w' ⟨rfl, rfl⟩) | (with_reducible refine (HS.out _).mono ?_; rintro e w' ⟨rfl, rfl⟩) | (with_reducible refine (HP.out _).mono ?_; rintro e w' ⟨rfl, rfl⟩) | (with_reducible refine (HM.out _).mono ?_; rintro e w' ⟨rfl, rfl⟩)) | (go_at_call 105; refine (inside_any _ _).mono ?_; rw [show lf (s[k].toNat : Int) = false from HQ.out]; rintro e w' ⟨rfl, rfl⟩))
  exact next_new ⟨6, k, k + 2⟩ (by rfl) (by rfl) (by simp) (by rfl)

theorem sg_at (i : Nat) (h : i < 15) : (⟨#[123, 125, 40, 41, 91, 93, 59, 44, 46, 61, 60, 43, 45, 42, 33]⟩ : ByteArray)[i]'h = sg[i]'h := by
  match i, h with
  | 0, _ | 1, _ | 2, _ | 3, _ | 4, _ | 5, _ | 6, _ | 7, _ | 8, _ | 9, _ | 10, _ | 11, _ | 12, _ | 13, _ | 14, _ => rfl

set_option maxRecDepth 100000 in
set_option maxHeartbeats 4000000 in
theorem next_sign (s : ByteArray) (hs : s.size ≤ 10000) (k : Nat) (hk : k < s.size) (hb : bk (nb s[k]) = false) (h0 : [47, 47].isPrefixOf ((bs s).drop k) = false) (h1 : [47, 42].isPrefixOf ((bs s).drop k) = false) (h2 : pr.isPrefixOf ((bs s).drop k) = false) (hl : lf (nb s[k]) = false) (ha : [38, 38].isPrefixOf ((bs s).drop k) = false) (q : Nat) (hq : q = if sg.contains s[k] = true then 6 else 7) (w : World) :
    Calls Tryz.prog 87 #[.string s, .int .i64 (k : Nat)] w fun e w' => e = .returned (tkv ⟨q, k, k + 1⟩) ∧ Below w.heap.size w w' := by
  have HZ := Lib.hid (bs_size s)
  have HK := Lib.hid hq
  clear hq
  have HB := Lib.hid hb
  have HA := Lib.hid (fun w => has_at s ⟨#[47, 47]⟩ hs (by decide) k (by omega) false h0 w)
  have HS := Lib.hid (fun w => has_at s ⟨#[47, 42]⟩ hs (by decide) k (by omega) false h1 w)
  clear hb h0 h1
  have HP := Lib.hid (fun w => has_at s ⟨#[83, 121, 115, 116, 101, 109, 46, 111, 117, 116, 46, 112, 114, 105, 110, 116, 108, 110]⟩ hs (by decide) k (by omega) false h2 w)
  have HM := Lib.hid (fun w => has_at s ⟨#[38, 38]⟩ hs (by decide) k (by omega) false ha w)
  have HQ := Lib.hid hl
  clear h2 hl ha
  have hsz : (⟨#[123, 125, 40, 41, 91, 93, 59, 44, 46, 61, 60, 43, 45, 42, 33]⟩ : ByteArray).size = 15 := rfl
  generalize hS : (⟨#[123, 125, 40, 41, 91, 93, 59, 44, 46, 61, 60, 43, 45, 42, 33]⟩ : ByteArray) = S at hsz
  go_enter Tryz.func87, Tryz.ntmps87
  go_wp2_with (first | (go_at_call 103; refine (refBlank_any _ _).mono ?_; rw [show bk (s[k].toNat : Int) = false from HB.out]; rintro e w' ⟨rfl, rfl⟩) | (go_at_call 104; first | (with_reducible refine (HA.out _).mono ?_; rintro e w' ⟨rfl, rfl⟩) | (with_reducible refine (HS.out _).mono ?_; rintro e w' ⟨rfl, rfl⟩) | (with_reducible refine (HP.out _).mono ?_; rintro e w' ⟨rfl, rfl⟩) | (with_reducible refine (HM.out _).mono ?_; rintro e w' ⟨rfl, rfl⟩)) | (go_at_call 105; refine (inside_any _ _).mono ?_; rw [show lf (s[k].toNat : Int) = false from HQ.out]; rintro e w' ⟨rfl, rfl⟩))
  rw [hS]
  have HG : Hid (∀ (i : Nat) (h : i < S.size) (h' : i < sg.length), S[i] = sg[i]) := Lib.hid (fun i h _ => by subst hS; exact sg_at i h)
  clear hS
  go_loop [13] (fun i => ∃ j : Nat, j ≤ 15 ∧ i = .int .i64 (j : Int) ∧ Hid (∀ (i : Nat) (h : i < sg.length), i < j → sg[i] ≠ s[k])) (fun i => 15 - (intOf i).toNat)
  case atStart => exact ⟨0, by omega, rfl, Lib.hid (fun i _ hi => absurd hi (Nat.not_lt_zero _))⟩
  case round =>
    obtain ⟨j, hj, rfl, HR⟩ := hrel
    by_cases hlt : j < 15
    · have hjs : j < S.size := by omega
      have hbe := beqd (S[j].toNat : Int) (s[k].toNat : Int)
      have hj' : j < sg.length := hlt
      by_cases hq : sg[j] = s[k]
      · rw [decide_eq_true (by rw [HG.out j hjs hj', hq])] at hbe
        have HE : Hid (sg.contains s[k] = true) := Lib.hid (by rw [List.contains_iff_mem, ← hq]; exact List.getElem_mem hj')
        clear hq
        go_wp2
        exact next_new ⟨q, k, k + 1⟩ (by rw [HK.out, HE.out]; rfl) (by rfl) (by simp) (by rfl)
      · rw [decide_eq_false (fun h => hq (by rw [← HG.out j hjs hj']; exact UInt8.toNat.inj (by omega)))] at hbe
        have HE := Lib.hid hq
        clear hq
        go_wp2
        go_round
        case rel =>
          refine ⟨j + 1, by omega, by go_num, Lib.hid (fun i h hi => ?_)⟩
          by_cases e : i = j
          · subst e; exact HE.out
          · exact HR.out i h (by omega)
        case measure => simp [intOf]; omega
    · obtain rfl : j = 15 := by omega
      have HE : Hid (sg.contains s[k] = false) := Lib.hid (by
        cases hc : sg.contains s[k] with
        | false => rfl
        | true =>
          rw [List.contains_iff_mem] at hc
          obtain ⟨i, hi, e⟩ := List.getElem_of_mem hc
          exact absurd e (HR.out i hi hi))
      go_wp2
      exact next_new ⟨q, k, k + 1⟩ (by rw [HK.out, HE.out]; rfl) (by rfl) (by simp) (by rfl)

end Go.Proofs.YtjnclchbklehgaaGreatDoor

namespace Go.Proofs.YtjnclchbklehgaaGreatDoor
open Go.RowKit Go.Shelf SignMath

/-- what letters and figures are: a keyword, a word, a number, none of them -/
theorem wk_all (s : ByteArray) : (refNumV s = .tuple #[.int .i64 0, .bool false] ∧ wd (bs s) = true ∧ kw s = true ∧ Hid (wk (bs s) = 3)) ∨ (refNumV s = .tuple #[.int .i64 0, .bool false] ∧ wd (bs s) = true ∧ kw s = false ∧ Hid (wk (bs s) = 4)) ∨
    (∃ n : Nat, refNumV s = .tuple #[.int .i64 (n : Nat), .bool true] ∧ wd (bs s) = false ∧ kw s = false ∧ Hid (wk (bs s) = 5)) ∨ (refNumV s = .tuple #[.int .i64 0, .bool false] ∧ wd (bs s) = false ∧ kw s = false ∧ Hid (wk (bs s) = 7)) := by
  unfold refNumV wk
  rw [kwl_bs]
  cases hd : wd (bs s) with
  | true =>
    have hn : num (bs s) = none := by
      cases hb : bs s with
      | nil => rw [hb] at hd; cases hd
      | cons c r =>
        cases hn : num (c :: r) with
        | none => rfl
        | some n =>
          have := num_fst (c := c) (r := r) (by rw [hn]; rfl)
          rw [hb] at hd
          rw [lt_not_fg (wd_fst hd)] at this
          cases this
    rw [hn]
    cases hk : kw s with
    | true => exact .inl ⟨rfl, rfl, rfl, Lib.hid rfl⟩
    | false => exact .inr (.inl ⟨rfl, rfl, rfl, Lib.hid rfl⟩)
  | false =>
    have hk : kw s = false := by
      cases hk : kw s with
      | false => rfl
      | true => rw [← kwl_bs] at hk; rw [kwl_wd hk] at hd; cases hd
    rw [hk]
    cases hn : num (bs s) with
    | none => exact .inr (.inr (.inr ⟨rfl, rfl, rfl, Lib.hid rfl⟩))
    | some n => exact .inr (.inr (.inl ⟨n, rfl, rfl, rfl, Lib.hid rfl⟩))

set_option maxRecDepth 100000 in
set_option maxHeartbeats 8000000 in
theorem next_word (s : ByteArray) (hs : s.size ≤ 10000) (k : Nat) (hk : k < s.size) (hb : bk (nb s[k]) = false) (h0 : [47, 47].isPrefixOf ((bs s).drop k) = false) (h1 : [47, 42].isPrefixOf ((bs s).drop k) = false) (h2 : pr.isPrefixOf ((bs s).drop k) = false) (hl : lf (nb s[k]) = true) (w : World) :
    Calls Tryz.prog 87 #[.string s, .int .i64 (k : Nat)] w fun e w' => e = .returned (tkv ⟨wk (bs (s.extract k (rn lf (bs s) k))), k, rn lf (bs s) k⟩) ∧ Below w.heap.size w w' := by
  have HZ := Lib.hid (bs_size s)
  have HB := Lib.hid hb
  have HA := Lib.hid (fun w => has_at s ⟨#[47, 47]⟩ hs (by decide) k (by omega) false h0 w)
  have HS := Lib.hid (fun w => has_at s ⟨#[47, 42]⟩ hs (by decide) k (by omega) false h1 w)
  have HC : Hid (∀ w, Calls Tryz.prog 105 #[.int .u8 (s[k].toNat : Int)] w fun e w' => e = .returned (.bool true) ∧ w = w') := Lib.hid (fun w => by have := inside_any (s[k].toNat : Int) w; rw [show lf (s[k].toNat : Int) = true from hl] at this; exact this)
  clear hb h0 h1 hl
  have HP := Lib.hid (fun w => has_at s ⟨#[83, 121, 115, 116, 101, 109, 46, 111, 117, 116, 46, 112, 114, 105, 110, 116, 108, 110]⟩ hs (by decide) k (by omega) false h2 w)
  clear h2
  go_enter Tryz.func87, Tryz.ntmps87
  go_wp2_with (first | (go_at_call 103; refine (refBlank_any _ _).mono ?_; rw [show bk (s[k].toNat : Int) = false from HB.out]; rintro e w' ⟨rfl, rfl⟩) | (go_at_call 104; first | (with_reducible refine (HA.out _).mono ?_; rintro e w' ⟨rfl, rfl⟩) | (with_reducible refine (HS.out _).mono ?_; rintro e w' ⟨rfl, rfl⟩) | (with_reducible refine (HP.out _).mono ?_; rintro e w' ⟨rfl, rfl⟩)) | (go_at_call 105; first | (with_reducible refine (HC.out _).mono ?_; rintro e w' ⟨rfl, rfl⟩)))
  go_loop [6] (fun i => ∃ j : Nat, k ≤ j ∧ j ≤ s.size ∧ i = .int .i64 (j : Int) ∧ Hid (rn lf (bs s) j = rn lf (bs s) k)) (fun i => s.size - (intOf i).toNat)
  case atStart => exact ⟨k, by omega, by omega, rfl, Lib.hid rfl⟩
  case round =>
    obtain ⟨j, hkj, hj, rfl, HR⟩ := hrel
    by_cases hlt : j < s.size
    · cases hq : lf (s[j].toNat : Int) with
      | true =>
        have HN := Lib.hid (rn_step lf (bs s) j (by rw [HZ.out]; exact hlt) hq)
        have HI : Hid (∀ w, Calls Tryz.prog 105 #[.int .u8 (s[j].toNat : Int)] w fun e w' => e = .returned (.bool true) ∧ w = w') := Lib.hid (fun w => by have := inside_any (s[j].toNat : Int) w; rw [hq] at this; exact this)
        clear hq
        go_wp2_with (go_at_call 105; first | (with_reducible refine (HI.out _).mono ?_; rintro e w' ⟨rfl, rfl⟩))
        go_round
        case rel => exact ⟨j + 1, by omega, by omega, by go_num, Lib.hid (HN.out.symm.trans HR.out)⟩
        case measure => simp [intOf]; omega
      | false =>
        have HN := Lib.hid (rn_stop lf (bs s) j (by rw [HZ.out]; exact hlt) hq)
        have HI : Hid (∀ w, Calls Tryz.prog 105 #[.int .u8 (s[j].toNat : Int)] w fun e w' => e = .returned (.bool false) ∧ w = w') := Lib.hid (fun w => by have := inside_any (s[j].toNat : Int) w; rw [hq] at this; exact this)
        have HJ : Hid (rn lf (bs s) k = j) := Lib.hid (HR.out.symm.trans HN.out)
        clear hq HN HR
        have hz : (s.extract k j).size ≤ 10000 := by rw [← bs_size, bs_cut, List.length_take, List.length_drop, bs_size]; omega
        rcases wk_all (s.extract k j) with ⟨hn, hm, hw, HW⟩ | ⟨hn, hm, hw, HW⟩ | ⟨n, hn, hm, hw, HW⟩ | ⟨hn, hm, hw, HW⟩
        all_goals
          have HNu := Lib.hid (fun w => refNumber_any (s.extract k j) hz w)
          have HNa := Lib.hid (fun w => refName_any (s.extract k j) hz w)
          have HKe := Lib.hid (fun w => refKeyword_any (s.extract k j) w)
          rw [hn] at HNu
          rw [hm, hw] at HNa
          rw [hw] at HKe
          simp only [Bool.not_true, Bool.not_false, Bool.and_true, Bool.and_false] at HNa
          clear hn hm hw
          go_wp2_with (first | (go_at_call 105; first | (with_reducible refine (HI.out _).mono ?_; rintro e w' ⟨rfl, rfl⟩)) | (go_at_call 106; refine (HNu.out _).mono ?_; rintro e w' ⟨rfl, rfl⟩) | (go_at_call 107; refine (HNa.out _).mono ?_; rintro e w1 ⟨rfl, hb1⟩; have hW1 := (hb1.block _ (by simp)).trans (World.alloc_heap_new w _); have hB1 := (lbelow1 w _).trans (hb1.mono (by simp))) | (go_at_call 108; refine (HKe.out _).mono ?_; rintro e w2 ⟨rfl, hb2⟩; have hW2 := (hb2.block _ (lt_of_heap hW1)).trans hW1; have hB2 := hB1.trans (hb2.mono (by have := lt_of_heap hW1; omega)); have x0 := Lib.cell_of_heap hW2 0; have x1 := Lib.cell_of_heap hW2 1; have x2 := Lib.cell_of_heap hW2 2; simp only [List.getElem?_toArray, List.getElem?_cons_zero, List.getElem?_cons_succ] at x0 x1 x2; have f0 := Lib.frozen_of_heap hW2 0; have f1 := Lib.frozen_of_heap hW2 1; have f2 := Lib.frozen_of_heap hW2 2))
          exact next_out _ (by rw [← HJ.out] at HW; rw [HW.out]; rfl) (by rfl) (by rw [HJ.out]) hW2 hB2 (by rfl)
    · obtain rfl : j = s.size := by omega
      have HN := Lib.hid (rn_end lf (bs s) s.size (by rw [HZ.out]; exact Nat.le_refl _))
      have HJ : Hid (rn lf (bs s) k = s.size) := Lib.hid (HR.out.symm.trans HN.out)
      clear HN HR
      have hz : (s.extract k s.size).size ≤ 10000 := by rw [← bs_size, bs_cut, List.length_take, List.length_drop, bs_size]; omega
      rcases wk_all (s.extract k s.size) with ⟨hn, hm, hw, HW⟩ | ⟨hn, hm, hw, HW⟩ | ⟨n, hn, hm, hw, HW⟩ | ⟨hn, hm, hw, HW⟩
      all_goals
        have HNu := Lib.hid (fun w => refNumber_any (s.extract k s.size) hz w)
        have HNa := Lib.hid (fun w => refName_any (s.extract k s.size) hz w)
        have HKe := Lib.hid (fun w => refKeyword_any (s.extract k s.size) w)
        rw [hn] at HNu
        rw [hm, hw] at HNa
        rw [hw] at HKe
        simp only [Bool.not_true, Bool.not_false, Bool.and_true, Bool.and_false] at HNa
        clear hn hm hw
        go_wp2_with (first | (go_at_call 106; refine (HNu.out _).mono ?_; rintro e w' ⟨rfl, rfl⟩) | (go_at_call 107; refine (HNa.out _).mono ?_; rintro e w1 ⟨rfl, hb1⟩; have hW1 := (hb1.block _ (by simp)).trans (World.alloc_heap_new w _); have hB1 := (lbelow1 w _).trans (hb1.mono (by simp))) | (go_at_call 108; refine (HKe.out _).mono ?_; rintro e w2 ⟨rfl, hb2⟩; have hW2 := (hb2.block _ (lt_of_heap hW1)).trans hW1; have hB2 := hB1.trans (hb2.mono (by have := lt_of_heap hW1; omega)); have x0 := Lib.cell_of_heap hW2 0; have x1 := Lib.cell_of_heap hW2 1; have x2 := Lib.cell_of_heap hW2 2; simp only [List.getElem?_toArray, List.getElem?_cons_zero, List.getElem?_cons_succ] at x0 x1 x2; have f0 := Lib.frozen_of_heap hW2 0; have f1 := Lib.frozen_of_heap hW2 1; have f2 := Lib.frozen_of_heap hW2 2))
        exact next_out _ (by rw [← HJ.out] at HW; rw [HW.out]; rfl) (by rfl) (by rw [HJ.out]) hW2 hB2 (by rfl)

set_option maxRecDepth 100000 in
set_option maxHeartbeats 8000000 in
theorem next_word2 (s : ByteArray) (hs : s.size ≤ 10000) (k : Nat) (hk : k < s.size) (hb : bk (nb s[k]) = false) (h0 : [47, 47].isPrefixOf ((bs s).drop k) = false) (h1 : [47, 42].isPrefixOf ((bs s).drop k) = false) (h2 : pr.isPrefixOf ((bs s).drop k) = true) (h3 : lfAt (bs s) (k + 18) = true) (hl : lf (nb s[k]) = true) (w : World) :
    Calls Tryz.prog 87 #[.string s, .int .i64 (k : Nat)] w fun e w' => e = .returned (tkv ⟨wk (bs (s.extract k (rn lf (bs s) k))), k, rn lf (bs s) k⟩) ∧ Below w.heap.size w w' := by
  have HZ := Lib.hid (bs_size s)
  have HB := Lib.hid hb
  have HA := Lib.hid (fun w => has_at s ⟨#[47, 47]⟩ hs (by decide) k (by omega) false h0 w)
  have HS := Lib.hid (fun w => has_at s ⟨#[47, 42]⟩ hs (by decide) k (by omega) false h1 w)
  have HC : Hid (∀ w, Calls Tryz.prog 105 #[.int .u8 (s[k].toNat : Int)] w fun e w' => e = .returned (.bool true) ∧ w = w') := Lib.hid (fun w => by have := inside_any (s[k].toNat : Int) w; rw [show lf (s[k].toNat : Int) = true from hl] at this; exact this)
  clear hb h0 h1 hl
  have HP := Lib.hid (fun w => has_at s ⟨#[83, 121, 115, 116, 101, 109, 46, 111, 117, 116, 46, 112, 114, 105, 110, 116, 108, 110]⟩ hs (by decide) k (by omega) true h2 w)
  clear h2
  have h19 : k + 18 < s.size := by
    unfold lfAt at h3
    by_cases h : k + 18 < s.size
    · exact h
    · rw [List.getElem?_eq_none (by rw [bs_size]; omega)] at h3; cases h3
  have h3' : lf (s[k + 18].toNat : Int) = true := by
    unfold lfAt at h3
    rw [List.getElem?_eq_getElem (by rw [bs_size]; exact h19)] at h3
    exact h3
  have HC' : Hid (∀ w, Calls Tryz.prog 105 #[.int .u8 (s[k + 18].toNat : Int)] w fun e w' => e = .returned (.bool true) ∧ w = w') := Lib.hid (fun w => by have := inside_any (s[k + 18].toNat : Int) w; rw [h3'] at this; exact this)
  have hbe : ((k : Int) + 18 == (s.size : Int)) = false := by rw [beqd, decide_eq_false_iff_not]; omega
  clear h3 h3'
  go_enter Tryz.func87, Tryz.ntmps87
  go_wp2_with (first | (go_at_call 103; refine (refBlank_any _ _).mono ?_; rw [show bk (s[k].toNat : Int) = false from HB.out]; rintro e w' ⟨rfl, rfl⟩) | (go_at_call 104; first | (with_reducible refine (HA.out _).mono ?_; rintro e w' ⟨rfl, rfl⟩) | (with_reducible refine (HS.out _).mono ?_; rintro e w' ⟨rfl, rfl⟩) | (with_reducible refine (HP.out _).mono ?_; rintro e w' ⟨rfl, rfl⟩)) | (go_at_call 105; first | (with_reducible refine (HC.out _).mono ?_; rintro e w' ⟨rfl, rfl⟩) | (with_reducible refine (HC'.out _).mono ?_; rintro e w' ⟨rfl, rfl⟩)))
  go_loop [6] (fun i => ∃ j : Nat, k ≤ j ∧ j ≤ s.size ∧ i = .int .i64 (j : Int) ∧ Hid (rn lf (bs s) j = rn lf (bs s) k)) (fun i => s.size - (intOf i).toNat)
  case atStart => exact ⟨k, by omega, by omega, rfl, Lib.hid rfl⟩
  case round =>
    obtain ⟨j, hkj, hj, rfl, HR⟩ := hrel
    by_cases hlt : j < s.size
    · cases hq : lf (s[j].toNat : Int) with
      | true =>
        have HN := Lib.hid (rn_step lf (bs s) j (by rw [HZ.out]; exact hlt) hq)
        have HI : Hid (∀ w, Calls Tryz.prog 105 #[.int .u8 (s[j].toNat : Int)] w fun e w' => e = .returned (.bool true) ∧ w = w') := Lib.hid (fun w => by have := inside_any (s[j].toNat : Int) w; rw [hq] at this; exact this)
        clear hq
        go_wp2_with (go_at_call 105; first | (with_reducible refine (HI.out _).mono ?_; rintro e w' ⟨rfl, rfl⟩))
        go_round
        case rel => exact ⟨j + 1, by omega, by omega, by go_num, Lib.hid (HN.out.symm.trans HR.out)⟩
        case measure => simp [intOf]; omega
      | false =>
        have HN := Lib.hid (rn_stop lf (bs s) j (by rw [HZ.out]; exact hlt) hq)
        have HI : Hid (∀ w, Calls Tryz.prog 105 #[.int .u8 (s[j].toNat : Int)] w fun e w' => e = .returned (.bool false) ∧ w = w') := Lib.hid (fun w => by have := inside_any (s[j].toNat : Int) w; rw [hq] at this; exact this)
        have HJ : Hid (rn lf (bs s) k = j) := Lib.hid (HR.out.symm.trans HN.out)
        clear hq HN HR
        have hz : (s.extract k j).size ≤ 10000 := by rw [← bs_size, bs_cut, List.length_take, List.length_drop, bs_size]; omega
        rcases wk_all (s.extract k j) with ⟨hn, hm, hw, HW⟩ | ⟨hn, hm, hw, HW⟩ | ⟨n, hn, hm, hw, HW⟩ | ⟨hn, hm, hw, HW⟩
        all_goals
          have HNu := Lib.hid (fun w => refNumber_any (s.extract k j) hz w)
          have HNa := Lib.hid (fun w => refName_any (s.extract k j) hz w)
          have HKe := Lib.hid (fun w => refKeyword_any (s.extract k j) w)
          rw [hn] at HNu
          rw [hm, hw] at HNa
          rw [hw] at HKe
          simp only [Bool.not_true, Bool.not_false, Bool.and_true, Bool.and_false] at HNa
          clear hn hm hw
          go_wp2_with (first | (go_at_call 105; first | (with_reducible refine (HI.out _).mono ?_; rintro e w' ⟨rfl, rfl⟩)) | (go_at_call 106; refine (HNu.out _).mono ?_; rintro e w' ⟨rfl, rfl⟩) | (go_at_call 107; refine (HNa.out _).mono ?_; rintro e w1 ⟨rfl, hb1⟩; have hW1 := (hb1.block _ (by simp)).trans (World.alloc_heap_new w _); have hB1 := (lbelow1 w _).trans (hb1.mono (by simp))) | (go_at_call 108; refine (HKe.out _).mono ?_; rintro e w2 ⟨rfl, hb2⟩; have hW2 := (hb2.block _ (lt_of_heap hW1)).trans hW1; have hB2 := hB1.trans (hb2.mono (by have := lt_of_heap hW1; omega)); have x0 := Lib.cell_of_heap hW2 0; have x1 := Lib.cell_of_heap hW2 1; have x2 := Lib.cell_of_heap hW2 2; simp only [List.getElem?_toArray, List.getElem?_cons_zero, List.getElem?_cons_succ] at x0 x1 x2; have f0 := Lib.frozen_of_heap hW2 0; have f1 := Lib.frozen_of_heap hW2 1; have f2 := Lib.frozen_of_heap hW2 2))
          exact next_out _ (by rw [← HJ.out] at HW; rw [HW.out]; rfl) (by rfl) (by rw [HJ.out]) hW2 hB2 (by rfl)
    · obtain rfl : j = s.size := by omega
      have HN := Lib.hid (rn_end lf (bs s) s.size (by rw [HZ.out]; exact Nat.le_refl _))
      have HJ : Hid (rn lf (bs s) k = s.size) := Lib.hid (HR.out.symm.trans HN.out)
      clear HN HR
      have hz : (s.extract k s.size).size ≤ 10000 := by rw [← bs_size, bs_cut, List.length_take, List.length_drop, bs_size]; omega
      rcases wk_all (s.extract k s.size) with ⟨hn, hm, hw, HW⟩ | ⟨hn, hm, hw, HW⟩ | ⟨n, hn, hm, hw, HW⟩ | ⟨hn, hm, hw, HW⟩
      all_goals
        have HNu := Lib.hid (fun w => refNumber_any (s.extract k s.size) hz w)
        have HNa := Lib.hid (fun w => refName_any (s.extract k s.size) hz w)
        have HKe := Lib.hid (fun w => refKeyword_any (s.extract k s.size) w)
        rw [hn] at HNu
        rw [hm, hw] at HNa
        rw [hw] at HKe
        simp only [Bool.not_true, Bool.not_false, Bool.and_true, Bool.and_false] at HNa
        clear hn hm hw
        go_wp2_with (first | (go_at_call 106; refine (HNu.out _).mono ?_; rintro e w' ⟨rfl, rfl⟩) | (go_at_call 107; refine (HNa.out _).mono ?_; rintro e w1 ⟨rfl, hb1⟩; have hW1 := (hb1.block _ (by simp)).trans (World.alloc_heap_new w _); have hB1 := (lbelow1 w _).trans (hb1.mono (by simp))) | (go_at_call 108; refine (HKe.out _).mono ?_; rintro e w2 ⟨rfl, hb2⟩; have hW2 := (hb2.block _ (lt_of_heap hW1)).trans hW1; have hB2 := hB1.trans (hb2.mono (by have := lt_of_heap hW1; omega)); have x0 := Lib.cell_of_heap hW2 0; have x1 := Lib.cell_of_heap hW2 1; have x2 := Lib.cell_of_heap hW2 2; simp only [List.getElem?_toArray, List.getElem?_cons_zero, List.getElem?_cons_succ] at x0 x1 x2; have f0 := Lib.frozen_of_heap hW2 0; have f1 := Lib.frozen_of_heap hW2 1; have f2 := Lib.frozen_of_heap hW2 2))
        exact next_out _ (by rw [← HJ.out] at HW; rw [HW.out]; rfl) (by rfl) (by rw [HJ.out]) hW2 hB2 (by rfl)

theorem rn_drop (p : Int → Bool) (l : List UInt8) (k : Nat) : rn p l k = k + rn p (l.drop k) 0 := by
  unfold rn; simp

theorem drop_cons (s : ByteArray) (k : Nat) (hk : k < s.size) : ∃ r, (bs s).drop k = s[k] :: r :=
  ⟨_, List.drop_eq_getElem_cons (by rw [bs_size]; exact hk)⟩

theorem pre47 {c : UInt8} {d : UInt8} {r : List UInt8} (h : [47, d].isPrefixOf (c :: r) = true) : c = 47 := by
  simp [List.isPrefixOf] at h; exact h.1.symm
theorem pre38 {c : UInt8} {r : List UInt8} (h : [38, 38].isPrefixOf (c :: r) = true) : c = 38 := by
  simp [List.isPrefixOf] at h; exact h.1.symm

theorem next_any (s : ByteArray) (hs : s.size ≤ 10000) (k : Nat) (hk : k < s.size) (w : World) :
    Calls Tryz.prog 87 #[.string s, .int .i64 (k : Nat)] w fun e w' => e = .returned (tkv ⟨(ft ((bs s).drop k)).1, k, k + (ft ((bs s).drop k)).2⟩) ∧ Below w.heap.size w w' := by
  obtain ⟨r, hr⟩ := drop_cons s k hk
  have hh : ((bs s).drop k).headD 0 = s[k] := by rw [hr]; rfl
  have hlz : lfAt (bs s) (k + 18) = lfAt ((bs s).drop k) 18 := by unfold lfAt; rw [List.getElem?_drop]
  cases hb : bk (nb s[k]) with
  | true =>
    have e : ft ((bs s).drop k) = (1, rn bk ((bs s).drop k) 0) := by unfold ft; rw [hh, if_pos hb]
    rw [e]
    dsimp only
    rw [← rn_drop]
    exact next_blank s hs k hk hb w
  | false =>
    have e0 : ft ((bs s).drop k) = if s[k] = 47 then sl ((bs s).drop k) else if lf (nb s[k]) = true then wo ((bs s).drop k) else mk ((bs s).drop k) := by
      unfold ft; rw [hh, hb]; rfl
    cases ha : [47, 47].isPrefixOf ((bs s).drop k) with
    | true =>
      have h47 : s[k] = 47 := pre47 (r := r) (by rw [← hr]; exact ha)
      rw [e0, if_pos h47, sl_line ha]
      dsimp only
      rw [← rn_drop]
      exact next_line s hs k hk hb ha w
    | false =>
      cases hst : [47, 42].isPrefixOf ((bs s).drop k) with
      | true =>
        have h47 : s[k] = 47 := pre47 (r := r) (by rw [← hr]; exact hst)
        rw [e0, if_pos h47]
        exact next_star s hs k hk hb hst w
      | false =>
        cases hl : lf (nb s[k]) with
        | true =>
          have h47 : s[k] ≠ 47 := fun h => by rw [h] at hl; revert hl; decide
          rw [e0, if_neg h47, if_pos hl]
          have e1 : ((bs s).drop k).take (rn lf ((bs s).drop k) 0) = bs (s.extract k (rn lf (bs s) k)) := by
            rw [bs_cut, rn_drop lf (bs s) k, Nat.add_sub_cancel_left]
          cases hp : pr.isPrefixOf ((bs s).drop k) with
          | false =>
            have e2 : wo ((bs s).drop k) = (wk (((bs s).drop k).take (rn lf ((bs s).drop k) 0)), rn lf ((bs s).drop k) 0) := by
              unfold wo; rw [if_neg (fun h => by rw [hp] at h; cases h.1)]
            rw [e2, e1]
            dsimp only
            rw [← rn_drop]
            exact next_word s hs k hk hb ha hst hp hl w
          | true =>
            cases h18 : lfAt (bs s) (k + 18) with
            | true =>
              have e2 : wo ((bs s).drop k) = (wk (((bs s).drop k).take (rn lf ((bs s).drop k) 0)), rn lf ((bs s).drop k) 0) := by
                unfold wo; rw [if_neg (fun h => by rw [← hlz, h18] at h; cases h.2)]
              rw [e2, e1]
              dsimp only
              rw [← rn_drop]
              exact next_word2 s hs k hk hb ha hst hp h18 hl w
            | false =>
              have e2 : wo ((bs s).drop k) = (3, 18) := by unfold wo; rw [if_pos ⟨hp, by rw [← hlz]; exact h18⟩]
              rw [e2]
              exact next_print s hs k hk hb ha hst hp h18 w
        | false =>
          have hp : pr.isPrefixOf ((bs s).drop k) = false := by
            cases hp : pr.isPrefixOf ((bs s).drop k) with
            | false => rfl
            | true => rw [hr] at hp; have := pr_head hp; rw [this] at hl; revert hl; decide
          cases hm : [38, 38].isPrefixOf ((bs s).drop k) with
          | true =>
            have h38 : s[k] = 38 := pre38 (r := r) (by rw [← hr]; exact hm)
            rw [e0, if_neg (by rw [h38]; decide), hl, if_neg (by decide)]
            have e2 : mk ((bs s).drop k) = (6, 2) := by unfold mk; rw [if_pos hm]
            rw [e2]
            exact next_and s hs k hk hb ha hst hp hl hm w
          | false =>
            have e2 : ft ((bs s).drop k) = (if sg.contains s[k] = true then 6 else 7, 1) := by
              rw [e0, hl, if_neg (by decide : ¬ (false = true))]
              by_cases h47 : s[k] = 47
              · rw [if_pos h47, sl_bad ha hst, h47]; rfl
              · rw [if_neg h47]
                unfold mk
                rw [hm, hh, if_neg (by decide)]
                split <;> rfl
            rw [e2]
            exact next_sign s hs k hk hb ha hst hp hl hm _ rfl w
end Go.Proofs.YtjnclchbklehgaaGreatDoor
