/- Apply as the document has it: from the last edit on. -/
import Derived.Test.YtfkpnfhhmldodaaEditApply
import Derived.Test.YtfkpnfhhmldodaaEditInv
import Derived.Lib.SmallJoins
namespace Go.Proofs.Ytfkpnfhhmldodaa
open Go.RowKit EditMath

theorem joined_data (a b : ByteArray) : (a ++ b).data.toList = a.data.toList ++ b.data.toList := Joins.data_append a b
theorem bytes_ext {a b : ByteArray} (h : a.data.toList = b.data.toList) : a = b := WideShapes.bytes_inj h

/-- the text on the way from the last edit on: how long it is -/
theorem bk_bounds (s : ByteArray) {l : List Ed} (h : rt l s.size = true) {k : Nat} {e : Ed} (he : l[k]? = some e) :
    e.t ≤ ((bk s.data.toList l (k + 1)).length : Int) ∧ ((bk s.data.toList l (k + 1)).length : Int) ≤ s.size + tx l := by
  obtain ⟨p1, p2, p3⟩ := (rt_parts h).2.1 k e he
  have hsz : s.data.toList.length = s.size := rfl
  have hd := rt_drop h (k + 1)
  have hf : ∀ y, (l.drop (k + 1))[0]? = some y → ((e.t.toNat : Nat) : Int) ≤ y.f := by
    intro y hy
    rw [List.getElem?_drop] at hy
    have := ((rt_parts h).2.2 k e y he hy).1
    omega
  have h1 := put_ap s.data.toList (l.drop (k + 1)) e.t.toNat s.size hd rfl (by omega) hf
  have h2 := ap_length s.data.toList (l.drop (k + 1)) e.t.toNat s.size hd rfl (by omega) hf
  have h3 : bk s.data.toList l (k + 1) = s.data.toList.take e.t.toNat ++ ap s.data.toList e.t.toNat (l.drop (k + 1)) := h1
  have h4 := gr_bounds hd
  have h5 : tx l = tx (l.take (k + 1)) + tx (l.drop (k + 1)) := by rw [← tx_append, List.take_append_drop]
  have h6 := tx_nonneg (l.take (k + 1))
  rw [h3, List.length_append, List.length_take]
  omega

set_option maxHeartbeats 800000 in
theorem refApply_bad (s : ByteArray) (A : Option Addr) (c : Nat) (l : List Ed) (hb : bad s l ≠ 0) (htx : (s.size : Int) + tx l ≤ 70000) (w : World) (hl : l.length ≤ 10000) (hr : Eds w w.heap.size A l) :
    Calls Try.prog 75 #[.string s, .slice A l.length c] w fun e w' => e = .returned (.tuple #[.string ⟨#[]⟩, .int .i64 (bad s l)]) ∧ Below w.heap.size w w' := by
  have h0 := tx_nonneg l
  have HC := Lib.hid (refRight_any A c l s.size w hl hr)
  rcases bad_cases s l with h | ⟨h, h1⟩ | ⟨h, h1, h2⟩
  · exact absurd h hb
  · rw [h1] at HC
    rw [h]
    clear hb hr h1 h
    go_enter Try.func75, Try.ntmps75
    go_wp2_with fail
    refine HC.out.mono ?_
    rintro e w1 ⟨rfl, hb1⟩
    go_wp2
    go_ret2
    exact ⟨rfl, hb1⟩
  · obtain ⟨g1, g2⟩ := gr_small h1
    have hg : wrap64 (gr l) = gr l := IntWalk.wrap64_in _ (by omega)
    have HG : Hid (∀ W, Below w.heap.size w W → Calls Try.prog 55 #[.slice A l.length c] W fun e w' => e = .returned (.int .i64 (gr l)) ∧ Below W.heap.size W w') :=
      Lib.hid fun W hb => by have := refGrow_any A c l W hl (hr.after hb); rw [hg] at this; exact this
    rw [h1] at HC
    rw [h]
    clear hb hr h1 h hg
    have hx : decide (65536 < (s.size : Int) + gr l) = true := by simp; omega
    generalize gr l = g at *
    go_enter Try.func75, Try.ntmps75
    go_wp2_with fail
    refine HC.out.mono ?_
    rintro e w1 ⟨rfl, hb1⟩
    go_wp2_with fail
    refine (HG.out w1 hb1).mono ?_
    rintro e w2 ⟨rfl, hb2⟩
    go_wp2
    go_ret2
    exact ⟨rfl, hb1.trans (hb2.mono hb1.size)⟩

set_option maxRecDepth 100000 in
set_option maxHeartbeats 2000000 in
theorem refApply_ok (s : ByteArray) (A : Option Addr) (c : Nat) (l : List Ed) (hb : bad s l = 0) (htx : (s.size : Int) + tx l ≤ 70000) (w : World) (hl : l.length ≤ 10000) (hr : Eds w w.heap.size A l) :
    Calls Try.prog 75 #[.string s, .slice A l.length c] w fun e w' => e = .returned (.tuple #[.string ⟨(ap s.data.toList 0 l).toArray⟩, .int .i64 0]) ∧ Below w.heap.size w w' := by
  have h0 := tx_nonneg l
  obtain ⟨h1, h2⟩ := bad_zero hb
  obtain ⟨g1, g2⟩ := gr_small h1
  have HC := Lib.hid (refRight_any A c l s.size w hl hr)
  have hg : wrap64 (gr l) = gr l := IntWalk.wrap64_in _ (by omega)
  have HG : Hid (∀ W, Below w.heap.size w W → Calls Try.prog 55 #[.slice A l.length c] W fun e w' => e = .returned (.int .i64 (gr l)) ∧ Below W.heap.size W w') :=
    Lib.hid fun W hb => by have := refGrow_any A c l W hl (hr.after hb); rw [hg] at this; exact this
  rw [h1] at HC
  have HT := Lib.hid h1
  clear hb h1 hg
  have hx : decide (65536 < (s.size : Int) + gr l) = false := by simp; omega
  go_enter Try.func75, Try.ntmps75
  go_wp2_with fail
  refine HC.out.mono ?_
  rintro e w1 ⟨rfl, hb1⟩
  go_wp2_with fail
  refine (HG.out w1 hb1).mono ?_
  rintro e w2 ⟨rfl, hb2⟩
  have hB2 := hb1.trans (hb2.mono hb1.size)
  clear HC HG hb1 hb2 hx
  go_wp2
  go_loopw [0, 6] (fun t i wr => ∃ (k : Nat) (X : ByteArray), k ≤ l.length ∧ i = .int .i64 ((k : Int) - 1) ∧ t = .string X ∧ Hid (X.data.toList = bk s.data.toList l k) ∧ Below w.heap.size w wr) (fun _ i _ => ((intOf i) + 1).toNat)
  case atStart => exact ⟨l.length, s, Nat.le_refl _, rfl, rfl, Lib.hid (bk_all _ _).symm, hB2⟩
  case round =>
    clear hB2
    obtain ⟨k, X, hk, rfl, rfl, HX, hB⟩ := hrel
    by_cases hlt : 0 < k
    · obtain ⟨m, hm⟩ : ∃ m, m + 1 = k := ⟨k - 1, by omega⟩
      have he : l[m]? = some l[m] := List.getElem?_eq_getElem (by omega)
      generalize l[m] = e at he
      have HE := Lib.hid he
      obtain ⟨b, off, rfl, hb, c0, c1, c2⟩ := (hr.below hB).at_ he
      obtain ⟨s0, s1, s2⟩ := (rt_parts HT.out).2.1 m e he
      have hbk := bk_bounds s HT.out he
      have hX : (X.size : Int) = ((bk s.data.toList l (m + 1)).length : Int) := by
        rw [hm, ← HX.out]; rfl
      rw [← hX] at hbk
      obtain ⟨hb1, hb2⟩ := hbk
      have hes : (e.s.size : Int) ≤ 70000 := by
        have h1 := tx_snoc he
        have h2 := tx_take_le l (m + 1)
        have h3 := tx_nonneg (l.take m)
        omega
      have hz : (k : Int) - 1 = m := by omega
      have z1 : (0 : Int) ≤ m := by omega
      have z2 : (m : Int) < l.length := by omega
      have z3 : decide ((0 : Int) ≤ (m : Int)) = true := by simp
      have hX2 : (X.size : Int) ≤ 70000 := by omega
      have HM := Lib.hid hm
      clear he hr hX hm
      rw [hz]
      clear hz
      go_wp2
      go_quiet (fail)
      go_wp2
      refine ⟨⟨m, _, by omega, rfl, rfl, Lib.hid ?_, below_drewN hB _⟩, by simp [intOf]⟩
      have hx := HX.out
      rw [bk_step s.data.toList HE.out, HM.out, ← hx]
      simp only [put, joined_data, Lib.extract_data, List.drop_zero, Nat.sub_zero, List.append_assoc]
      rw [List.take_of_length_le (l := List.drop e.t.toNat X.data.toList) (by rw [List.length_drop]; exact Nat.le_refl _)]
    · obtain rfl : k = 0 := by omega
      have hz : decide (0 ≤ ((0 : Nat) : Int) - 1) = false := by decide
      have HF := Lib.hid (bk_ap s.data.toList l s.size HT.out rfl)
      clear hr
      go_wp2
      go_ret2
      refine ⟨?_, hB⟩
      have : X = ⟨(ap s.data.toList 0 l).toArray⟩ := bytes_ext (by rw [HX.out, HF.out])
      rw [← this]
      rfl

end Go.Proofs.Ytfkpnfhhmldodaa
