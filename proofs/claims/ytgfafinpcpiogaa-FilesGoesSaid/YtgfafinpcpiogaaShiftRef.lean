/- Goes and Came as the document has them; what is too large. -/
import Derived.Test.YtgfafinpcpiogaaShiftFrom
namespace Go.Proofs.Ytgfafinpcpiogaa
open Go.RowKit EditMath ShiftMath

def rgR (S : List Int) (x : Int) : Value := match (if 0 ≤ x then S.findIdx? (fun y => y == x) else none) with
  | some i => .tuple #[.int .i64 (i : Nat), .int .i64 0]
  | none => .tuple #[.int .i64 0, .int .i64 5]

theorem refGoes_bad (A : Option Addr) (c : Nat) (l : List Ed) (size x : Int) (w : World) (hl : l.length ≤ 10000) (hr : Eds w w.heap.size A l) (hR : rt l size = false) :
    Calls Try.prog 16 #[.slice A l.length c, .int .i64 size, .int .i64 x] w fun e w' => e = .returned (.tuple #[.int .i64 0, .int .i64 2]) ∧ Below w.heap.size w w' := by
  have HR := Lib.hid hR
  clear hR
  go_enter Try.func16, Try.ntmps16
  go_wp2_with (go_at_call 20; refine (refRight_any A c l size _ hl hr).mono ?_; rw [HR.out]; rintro e w1 ⟨rfl, hB1⟩)
  go_ret2
  exact ⟨rfl, hB1⟩
theorem refCame_bad (A : Option Addr) (c : Nat) (l : List Ed) (size x : Int) (w : World) (hl : l.length ≤ 10000) (hr : Eds w w.heap.size A l) (hR : rt l size = false) :
    Calls Try.prog 17 #[.slice A l.length c, .int .i64 size, .int .i64 x] w fun e w' => e = .returned (.tuple #[.int .i64 0, .int .i64 2]) ∧ Below w.heap.size w w' := by
  have HR := Lib.hid hR
  clear hR
  go_enter Try.func17, Try.ntmps17
  go_wp2_with (go_at_call 20; refine (refRight_any A c l size _ hl hr).mono ?_; rw [HR.out]; rintro e w1 ⟨rfl, hB1⟩)
  go_ret2
  exact ⟨rfl, hB1⟩

set_option maxRecDepth 100000 in
set_option maxHeartbeats 1000000 in
theorem refGoes_ok (A : Option Addr) (c : Nat) (l : List Ed) (size x : Int) (w : World) (hl : l.length ≤ 10000) (hr : Eds w w.heap.size A l) (hR : rt l size = true) (hsz : size ≤ 1000000) (hs : Small l) (hlen : (srcOf (pcs l size)).length ≤ 10000000) :
    Calls Try.prog 16 #[.slice A l.length c, .int .i64 size, .int .i64 x] w fun e w' => e = .returned (rgR (srcOf (pcs l size)) x) ∧ Below w.heap.size w w' := by
  have HR := Lib.hid hR
  have HF : Hid (∀ W, Below w.heap.size w W → Calls Try.prog 52 #[.slice A l.length c, .int .i64 size] W (FromV (pcs l size) W)) := Lib.hid fun W hb => from_any A c l size W hl (hr.after hb) hR hsz hs
  clear hR
  go_enter Try.func16, Try.ntmps16
  go_wp2_with (first | (go_at_call 20; refine (refRight_any A c l size _ hl hr).mono ?_; rw [HR.out]; rintro e w1 ⟨rfl, hB1⟩) | (go_at_call 52; refine (HF.out _ hB1).mono ?_; rintro e w2 ⟨A2, c2, t2, rfl, hT, hRd, hB2⟩))
  clear hT
  obtain ⟨S, hS⟩ : ∃ S, srcOf (pcs l size) = S := ⟨_, rfl⟩
  rw [hS] at hRd hlen ⊢
  have HRd := Lib.hid hRd
  have HS := Lib.hid hS
  clear hS hRd HF HR
  have hB := hB1.trans (hB2.mono hB1.size)
  go_loop [10] (fun i => ∃ k : Nat, k ≤ S.length ∧ i = .int .i64 k ∧ Hid (0 ≤ x → ∀ (j : Nat) (y : Int), j < k → S[j]? = some y → y ≠ x)) (fun i => S.length - (intOf i).toNat)
  case atStart => exact ⟨0, Nat.zero_le _, rfl, Lib.hid fun _ j y hj => by omega⟩
  case round =>
    obtain ⟨k, hk, rfl, HN⟩ := hrel
    by_cases hlt : k < S.length
    · obtain ⟨y, hy⟩ : ∃ y, S[k]? = some y := ⟨S[k], List.getElem?_eq_getElem hlt⟩
      obtain ⟨b, off, rfl, hb, hc⟩ := HRd.out (by rw [icells_length]; omega)
      have hck := hc k _ (icells_at hy)
      have HY := Lib.hid hy
      clear hy hc
      cases t1 : (y == x) with
      | false =>
        have T1 := Lib.hid (beq_eq_false_iff_ne.1 t1)
        go_wp2
        go_round
        case rel => exact ⟨k + 1, by omega, by go_num, Lib.hid fun h j z hj hz => (Nat.lt_succ_iff_lt_or_eq.1 hj).elim (fun h' => HN.out h j z h' hz) (fun e => by subst e; rw [HY.out] at hz; injection hz with hz; subst hz; exact T1.out)⟩
        case measure => simp [intOf]; omega
      | true =>
        have T1 := Lib.hid (beq_iff_eq.1 t1)
        by_cases hx : 0 ≤ x
        · go_wp2
          go_ret2
          refine ⟨?_, hB⟩
          have : S.findIdx? (fun y => y == x) = some k := by
            rw [List.findIdx?_eq_some_iff_getElem]
            have hy := HY.out
            rw [List.getElem?_eq_getElem hlt] at hy
            injection hy with hy
            refine ⟨hlt, by rw [hy]; simp [T1.out], fun j hj => ?_⟩
            have := HN.out hx j _ hj (List.getElem?_eq_getElem (by omega))
            simpa using this
          have e : rgR (srcOf (pcs l size)) x = .tuple #[.int .i64 k, .int .i64 0] := by rw [HS.out, rgR, if_pos hx, this]
          rw [e]; rfl
        · have hx' : ¬ 0 ≤ x := hx
          go_wp2
          go_round
          case rel => exact ⟨k + 1, by omega, by go_num, Lib.hid fun h => absurd h hx⟩
          case measure => simp [intOf]; omega
    · go_wp2
      go_ret2
      refine ⟨?_, hB⟩
      by_cases hx : 0 ≤ x
      · have : S.findIdx? (fun y => y == x) = none := by
          rw [List.findIdx?_eq_none_iff]
          intro y hy
          obtain ⟨j, hj⟩ := List.getElem?_of_mem hy
          have := HN.out hx j y (by have := (List.getElem?_eq_some_iff.1 hj).1; omega) hj
          simpa using this
        have e : rgR (srcOf (pcs l size)) x = .tuple #[.int .i64 0, .int .i64 5] := by rw [HS.out, rgR, if_pos hx, this]
        rw [e]; rfl
      · have e : rgR (srcOf (pcs l size)) x = .tuple #[.int .i64 0, .int .i64 5] := by rw [rgR, if_neg hx]
        rw [e]; rfl

def rcR (S : List Int) (x : Int) : Value := match (if 0 ≤ x then S[x.toNat]? else none) with
  | some y => if y < 0 then .tuple #[.int .i64 0, .int .i64 5] else .tuple #[.int .i64 y, .int .i64 0]
  | none => .tuple #[.int .i64 0, .int .i64 5]

def FromV2 (S : List Int) (T : List UInt8) (w : World) (e : Ending) (w' : World) : Prop := ∃ A c t, e = .returned (.tuple #[.slice A S.length c, .string t]) ∧ t.data.toList = T ∧ Rdc w' w'.heap.size A (icells S) ∧ Below w.heap.size w w'
theorem FromV_to {L : List Pc} {S : List Int} (h : srcOf L = S) {w : World} {e : Ending} {w' : World} (hv : FromV L w e w') : FromV2 S (textOf L) w e w' := by subst h; exact hv

set_option maxRecDepth 100000 in
set_option maxHeartbeats 1000000 in
theorem refCame_ok (A : Option Addr) (c : Nat) (l : List Ed) (size x : Int) (w : World) (hl : l.length ≤ 10000) (hr : Eds w w.heap.size A l) (hR : rt l size = true) (hsz : size ≤ 1000000) (hs : Small l) (hlen : (srcOf (pcs l size)).length ≤ 10000000) (hx1 : x ≤ 9223372036854775807) :
    Calls Try.prog 17 #[.slice A l.length c, .int .i64 size, .int .i64 x] w fun e w' => e = .returned (rcR (srcOf (pcs l size)) x) ∧ Below w.heap.size w w' := by
  have HR := Lib.hid hR
  have HF : Hid (∀ W, Below w.heap.size w W → Calls Try.prog 52 #[.slice A l.length c, .int .i64 size] W (FromV (pcs l size) W)) := Lib.hid fun W hb => from_any A c l size W hl (hr.after hb) hR hsz hs
  clear hR
  obtain ⟨S, hS⟩ : ∃ S, srcOf (pcs l size) = S := ⟨_, rfl⟩
  have HS := Lib.hid hS
  by_cases hx : 0 ≤ x
  · by_cases hlt : x < S.length
    · obtain ⟨y, hy⟩ : ∃ y, S[x.toNat]? = some y := ⟨S[x.toNat], List.getElem?_eq_getElem (by omega)⟩
      have HY := Lib.hid hy
      have hres : rcR S x = if y < 0 then .tuple #[.int .i64 0, .int .i64 5] else .tuple #[.int .i64 y, .int .i64 0] := by rw [rcR, if_pos hx, hy]
      rw [hS, hres]
      clear hy hres
      rw [hS] at hlen
      clear hS
      have hxn : (x.toNat : Int) = x := by omega
      have hpos : 0 < S.length := by omega
      have z1 : x ≤ S.length := by omega
      cases t1 : decide (y < 0) with
      | true =>
        rw [if_pos (of_decide_eq_true t1)]
        go_enter Try.func17, Try.ntmps17
        go_wp2_with (first | (go_at_call 20; refine (refRight_any A c l size _ hl hr).mono ?_; rw [HR.out]; rintro e w1 ⟨rfl, hB1⟩) | (go_at_call 52; refine ((HF.out _ hB1).mono fun _ _ h => FromV_to HS.out h).mono ?_; rintro e w2 ⟨A2, c2, t2, rfl, hT, hRd, hB2⟩; clear hT; obtain ⟨b, off, rfl, hb, hc⟩ := hRd (by rw [icells_length]; omega); have hck := hc x.toNat _ (icells_at HY.out); clear hc hRd))
        go_ret2
        exact ⟨rfl, hB1.trans (hB2.mono hB1.size)⟩
      | false =>
        rw [if_neg (of_decide_eq_false t1)]
        go_enter Try.func17, Try.ntmps17
        go_wp2_with (first | (go_at_call 20; refine (refRight_any A c l size _ hl hr).mono ?_; rw [HR.out]; rintro e w1 ⟨rfl, hB1⟩) | (go_at_call 52; refine ((HF.out _ hB1).mono fun _ _ h => FromV_to HS.out h).mono ?_; rintro e w2 ⟨A2, c2, t2, rfl, hT, hRd, hB2⟩; clear hT; obtain ⟨b, off, rfl, hb, hc⟩ := hRd (by rw [icells_length]; omega); have hck := hc x.toNat _ (icells_at HY.out); clear hc hRd))
        go_ret2
        exact ⟨rfl, hB1.trans (hB2.mono hB1.size)⟩
    · have hres : rcR S x = .tuple #[.int .i64 0, .int .i64 5] := by rw [rcR, if_pos hx, List.getElem?_eq_none (by omega)]
      rw [hS, hres]
      rw [hS] at hlen
      clear hres hS
      have hge : (S.length : Int) ≤ x := by omega
      go_enter Try.func17, Try.ntmps17
      go_wp2_with (first | (go_at_call 20; refine (refRight_any A c l size _ hl hr).mono ?_; rw [HR.out]; rintro e w1 ⟨rfl, hB1⟩) | (go_at_call 52; refine ((HF.out _ hB1).mono fun _ _ h => FromV_to HS.out h).mono ?_; rintro e w2 ⟨A2, c2, t2, rfl, hT, hRd, hB2⟩; clear hT hRd))
      go_ret2
      exact ⟨rfl, hB1.trans (hB2.mono hB1.size)⟩
  · have hres : rcR S x = .tuple #[.int .i64 0, .int .i64 5] := by rw [rcR, if_neg hx]
    rw [hS, hres]
    rw [hS] at hlen
    clear hres hS
    have hneg : x < 0 := by omega
    go_enter Try.func17, Try.ntmps17
    go_wp2_with (first | (go_at_call 20; refine (refRight_any A c l size _ hl hr).mono ?_; rw [HR.out]; rintro e w1 ⟨rfl, hB1⟩) | (go_at_call 52; refine ((HF.out _ hB1).mono fun _ _ h => FromV_to HS.out h).mono ?_; rintro e w2 ⟨A2, c2, t2, rfl, hT, hRd, hB2⟩; clear hT hRd))
    go_ret2
    exact ⟨rfl, hB1.trans (hB2.mono hB1.size)⟩

end Go.Proofs.Ytgfafinpcpiogaa
