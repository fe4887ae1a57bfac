/- What both Joins answer. -/
import Derived.Test.YtgfafinpcpiogaaShiftJoin
import Derived.Test.YtgfafinpcpiogaaShiftRefJoin
import Derived.Test.YtgfafinpcpiogaaShiftGoesWalk
import Derived.Test.YtgfafinpcpiogaaEditSame
namespace Go.Proofs.Ytgfafinpcpiogaa
open Go.RowKit Go.Shelf EditMath ShiftMath

set_option maxHeartbeats 1000000 in
theorem edits_same2 (A A2 : Option Addr) (c c2 : Nat) (l : List Ed) (w : World) (hl : l.length ≤ 10000) (hr : Eds w w.heap.size A l) (hr2 : Eds w w.heap.size A2 l) :
    Calls Try.prog 26 #[.slice A l.length c, .slice A2 l.length c2] w fun e w' => e = .returned (.bool true) ∧ Below w.heap.size w w' := by
  have hn : (((l.length : Nat) : Int) != l.length) = false := by simp
  have hm : Try.prog.eqGuardType Try.prog.depth 87 = false := by kernel_rfl
  go_enter Try.func26, Try.ntmps26
  go_wp2
  go_loopw [5, 13] (fun _ i wr => ∃ k : Nat, k ≤ l.length ∧ i = .int .i64 (k : Int) ∧ Below w.heap.size w wr) (fun _ i _ => l.length + 1 - (intOf i).toNat)
  case atStart => exact ⟨0, Nat.zero_le _, rfl, Below.refl _ _⟩
  case round =>
    obtain ⟨k, hk, rfl, hB⟩ := hrel
    by_cases hlt : k < l.length
    · have he : l[k]? = some l[k] := List.getElem?_eq_getElem hlt
      generalize l[k] = e at he
      have z1 : (0 : Int) ≤ k := by omega
      have z2 : (k : Int) < l.length := by omega
      obtain ⟨b, off, rfl, hb, c0, c1, c2⟩ := (hr.below hB).at_ he
      obtain ⟨b2, off2, rfl, hb2, d0, d1, d2⟩ := (hr2.below hB).at_ he
      have hs := same_ed e
      clear he hr hr2
      go_wp2
      go_quiet (fail)
      go_wp2
      go_roundw
      case rel => exact ⟨k + 1, by omega, by go_num, below_drewN hB _⟩
      case measure => simp [intOf]; omega
    · obtain rfl : k = l.length := by omega
      go_wp2
      go_ret
      exact ⟨rfl, hB⟩

theorem empty_own3 (w : World) (base : Nat) (h : base ≤ w.heap.size) : Own (w.alloc (.cells #[] 87)) base (some ⟨w.heap.size, 0, none⟩) 0 [] :=
  World.ownsRow_made w #[] 0 h (by unfold maxLen; omega) rfl

def JoP (L : List Ed) (n : Int) (W : World) (e : Ending) (w' : World) : Prop := ∃ A c, e = .returned (.tuple #[.slice A L.length c, errV n]) ∧ Eds w' w'.heap.size A L ∧ Below W.heap.size W w'
def RjP (L : List Ed) (n : Int) (W : World) (e : Ending) (w' : World) : Prop := ∃ A c, e = .returned (.tuple #[.slice A L.length c, .int .i64 n]) ∧ Eds w' w'.heap.size A L ∧ Below W.heap.size W w'

theorem joins_pair (a b : List Ed) (size : Int) (hl : a.length ≤ 31) (hl1 : b.length ≤ 31) (hsz : size ≤ 500) (htx : tx a ≤ 500) (htx1 : tx b ≤ 500) : ∃ (L : List Ed) (n : Int), 0 ≤ n ∧ L.length ≤ 10000 ∧
    (∀ (A0 A1 : Option Addr) (c0 c1 : Nat) (W : World), Eds W W.heap.size A0 a → Eds W W.heap.size A1 b → Calls Try.prog 24 #[.slice A0 a.length c0, .slice A1 b.length c1, .int .i64 size] W (JoP L n W)) ∧
    (∀ (A0 A1 : Option Addr) (c0 c1 : Nat) (W : World), Eds W W.heap.size A0 a → Eds W W.heap.size A1 b → Calls Try.prog 25 #[.slice A0 a.length c0, .slice A1 b.length c1, .int .i64 size] W (RjP L n W)) := by
  have bad1 : ∀ {W : World} {e : Ending} {w' : World}, JoB W e w' → JoP [] 2 W e w' := fun {W e w'} h => ⟨none, 0, h.1, Eds.none_, h.2⟩
  have bad2 : ∀ {W : World} {e : Ending} {w' : World}, RjB W e w' → RjP [] 2 W e w' := fun {W e w'} h => ⟨none, 0, h.1, Eds.none_, h.2⟩
  cases hR : rt a size with
  | false =>
    exact ⟨[], 2, by omega, by simp, fun A0 A1 c0 c1 W h0 h1 => (join_bad1 A0 A1 c0 c1 a b size W hl h0 hsz htx hR).mono fun _ _ h => bad1 h, fun A0 A1 c0 c1 W h0 h1 => (refJoin_bad1 A0 A1 c0 c1 a b size W hl h0 hR).mono fun _ _ h => bad2 h⟩
  | true =>
    have hz0 := (rt_parts hR).1
    have t0 := tx_nonneg a
    have t1 := tx_nonneg b
    obtain ⟨g1, g2, _⟩ := gr_bounds hR
    cases hR2 : rt b (size + gr a) with
    | false =>
      exact ⟨[], 2, by omega, by simp, fun A0 A1 c0 c1 W h0 h1 => (join_bad2 A0 A1 c0 c1 a b size W hl hl1 h0 h1 hz0 hsz htx (by omega) (by omega) hR hR2).mono fun _ _ h => bad1 h, fun A0 A1 c0 c1 W h0 h1 => (refJoin_bad2 A0 A1 c0 c1 a b size W hl hl1 h0 h1 hz0 hsz (by omega) (by omega) hR hR2).mono fun _ _ h => bad2 h⟩
    | true =>
      obtain ⟨g3, g4, _⟩ := gr_bounds hR2
      obtain ⟨hb1, hb2⟩ := bhd_bys hR hR2
      have e : jput (pst (bhd (pcs a size) (pcs b (size + gr a)))) size = joinB ((bysOf (pcs b (size + gr a))).map (comb (bysOf (pcs a size)))) size := by
        unfold joinB jst
        rw [← hb1, ← pfold_eq _ hb2]
      refine ⟨joinB ((bysOf (pcs b (size + gr a))).map (comb (bysOf (pcs a size)))) size, 0, by omega, ?_, fun A0 A1 c0 c1 W h0 h1 => ?_, fun A0 A1 c0 c1 W h0 h1 => ?_⟩
      · rw [← e]
        have h1 := jput_len (pst (bhd (pcs a size) (pcs b (size + gr a)))) size
        have h2 : (pst (bhd (pcs a size) (pcs b (size + gr a)))).out.length ≤ 0 + (bhd (pcs a size) (pcs b (size + gr a))).length := pfold_len _ ⟨[], 0, []⟩
        have h3 := bhd_length (pcs a size) (pcs b (size + gr a))
        have h4 := pcs_length a size
        have h5 := pcs_length b (size + gr a)
        have h6 : (pcs b (size + gr a)).length * ((pcs a size).length + 1) ≤ 63 * 64 := Nat.mul_le_mul (by omega) (by omega)
        omega
      · have := join_ok A0 A1 c0 c1 a b size W hl hl1 h0 h1 hz0 hsz htx htx1 (by omega) (by omega) hR hR2
        rw [e] at this
        exact this
      · exact refJoin_ok A0 A1 c0 c1 a b size W hl hl1 h0 h1 hz0 hsz htx htx1 (by omega) (by omega) (by omega) hR hR2

end Go.Proofs.Ytgfafinpcpiogaa
