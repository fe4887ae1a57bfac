/- Invert, as the document has it. -/
import Derived.Test.YtfkpnfhhmldodaaEditInvert
import Derived.Test.YtfkpnfhhmldodaaEditRefApply
namespace Go.Proofs.Ytfkpnfhhmldodaa
open Go.RowKit EditMath

theorem iv_take (s : ByteArray) (l : List Ed) (k m : Nat) (h : m < k) (hk : k ≤ l.length) : (iv s 0 (l.take k))[m]? = (iv s 0 l)[m]? := by
  have : iv s 0 l = iv s 0 (l.take k) ++ iv s (0 + gr (l.take k)) (l.drop k) := by rw [← iv_append, List.take_append_drop]
  rw [this, List.getElem?_append_left (by rw [iv_length, List.length_take]; omega)]

theorem first_new (w : World) (p : Obj) : (w.alloc p).drew.heap[w.heap.size]? = some p := heap_alloc_new w p

set_option maxHeartbeats 800000 in
theorem refInvert_bad (s : ByteArray) (A : Option Addr) (c : Nat) (l : List Ed) (hb : bad s l ≠ 0) (htx : (s.size : Int) + tx l ≤ 70000) (w : World) (hl : l.length ≤ 10000) (hr : Eds w w.heap.size A l) :
    Calls Try.prog 77 #[.string s, .slice A l.length c] w (ListV [] (.int .i64 (bad s l)) w) := by
  have HC := Lib.hid (refApply_bad s A c l hb htx w hl hr)
  have hn : (bad s l != 0) = true := by rw [bne_iff_ne]; exact hb
  clear hb hr
  generalize bad s l = n at *
  go_enter Try.func77, Try.ntmps77
  go_wp2_with fail
  refine HC.out.mono ?_
  rintro e w1 ⟨rfl, hb1⟩
  go_wp2
  go_ret2
  exact ⟨none, 0, rfl, Eds.none_, hb1⟩

/-- behind some rounds -/
def RInvI (w : World) (s : ByteArray) (l : List Ed) (v i : Value) (wr : World) : Prop :=
  ∃ (k : Nat) (A' : Option Addr) (c' : Nat), k ≤ l.length ∧ i = .int .i64 (k : Int) ∧ v = .slice A' (iv s 0 (l.take k)).length c' ∧ Below w.heap.size w wr ∧ Own wr w.heap.size A' c' (iv s 0 (l.take k)) ∧ nodup (iv s 0 (l.take k)) = true

set_option maxRecDepth 100000 in
set_option maxHeartbeats 4000000 in
theorem refInvert_okN (s : ByteArray) (A : Option Addr) (c : Nat) (l : List Ed) (hb : bad s l = 0) (htx : (s.size : Int) + tx l ≤ 70000) (w : World) (hl : l.length ≤ 10000) (hc : l.length ≤ c) (hr : Eds w w.heap.size A l) :
    Calls Try.prog 77 #[.string s, .slice A l.length c] w (ListN (if nodup (iv s 0 l) = true then iv s 0 l else []) (if nodup (iv s 0 l) = true then .int .i64 0 else .int .i64 6) w) := by
  obtain ⟨h1, h2⟩ := bad_zero hb
  have HC := Lib.hid (refApply_ok s A c l hb htx w hl hr)
  have HT := Lib.hid h1
  have htx0 := tx_nonneg l
  have HM1 : Hid (nodup (iv s 0 l) = true → (if nodup (iv s 0 l) = true then iv s 0 l else []) = iv s 0 l ∧ (if nodup (iv s 0 l) = true then (.int .i64 0 : Value) else .int .i64 6) = .int .i64 0) := Lib.hid (fun h => ⟨if_pos h, if_pos h⟩)
  have HM2 : Hid (nodup (iv s 0 l) = false → (if nodup (iv s 0 l) = true then iv s 0 l else []) = [] ∧ (if nodup (iv s 0 l) = true then (.int .i64 0 : Value) else .int .i64 6) = .int .i64 6) := Lib.hid (fun h => ⟨if_neg (by simp [h]), if_neg (by simp [h])⟩)
  generalize (if nodup (iv s 0 l) = true then iv s 0 l else []) = M at HM1 HM2 ⊢
  generalize (if nodup (iv s 0 l) = true then (.int .i64 0 : Value) else .int .i64 6) = V at HM1 HM2 ⊢
  have hn : ((0 : Int) != 0) = false := by decide
  clear hb h1 h2
  go_enter Try.func77, Try.ntmps77
  go_wp2_with fail
  refine HC.out.mono ?_
  rintro e w1 ⟨rfl, hb1⟩
  clear HC
  go_wp2
  go_loopw [8, 9] (fun v i wr => RInvI w s l v i wr) (fun _ i _ => l.length + 1 - (intOf i).toNat)
  case atStart => exact ⟨0, none, 0, Nat.zero_le _, rfl, rfl, hb1, Own.nil _ _, rfl⟩
  case round =>
    obtain ⟨k, A', c', hk, rfl, rfl, hB, hown, hnd⟩ := hrel
    have HN := Lib.hid hnd
    clear hnd hn
    by_cases hlt : k < l.length
    · have he : l[k]? = some l[k] := List.getElem?_eq_getElem hlt
      generalize l[k] = e at he
      have HE := Lib.hid he
      have z1 : (0 : Int) ≤ k := by omega
      have z2 : (k : Int) < l.length := by omega
      have z3 : (k : Int) ≤ c := by omega
      obtain ⟨s0, s1, s2⟩ := (rt_parts HT.out).2.1 k e he
      have hle : (e.s.size : Int) ≤ 70000 := by
        have h1 := tx_snoc he
        have h2 := tx_take_le l (k + 1)
        have h3 := tx_nonneg (l.take k)
        omega
      obtain ⟨p1, p2, p3⟩ := iv_place HT.out he
      have p4 := gr_bounds HT.out
      have p5 : e.f + gr (l.take k) + (e.s.size : Int) ≤ 200000 := by omega
      have HI := Lib.hid (iv_snoc s he)
      have p8 : -200000 ≤ gr (l.take k) := by omega
      have p9 : gr (l.take k) ≤ 200000 := by omega
      have hml : (iv s 0 (l.take k)).length ≤ 20000 := by rw [iv_length, List.length_take]; omega
      have hwrap : wrap64 (gr (l.take k)) = gr (l.take k) := IntWalk.wrap64_in _ (by omega)
      have hlk : (l.take k).length = k := by rw [List.length_take]; omega
      have HGR : Hid (∀ W, Below w.heap.size w W → Calls Try.prog 55 #[.slice A k c] W fun r w' => r = .returned (.int .i64 (gr (l.take k))) ∧ Below W.heap.size W w') :=
        Lib.hid fun W hW => by
          have := refGrow_any A c (l.take k) W (by omega) ((hr.after hW).take k)
          rw [hwrap, hlk] at this
          exact this
      have HR := Lib.hid (hr.below hB)
      obtain ⟨b, off, rfl, hb, c0, c1, c2⟩ := (hr.below hB).at_ he
      have hbb : b < wr.heap.size := Nat.lt_of_lt_of_le hb hB.size
      clear p2 p3 p4 he hr hwrap hlk
      generalize hgg : gr (l.take k) = g at *
      have HGG := Lib.hid hgg
      clear hgg
      have q1 : IntKind.i64.wrap (e.f + g) = e.f + g := IntWalk.i64_in _ (by omega)
      have HO := Lib.hid hown
      clear hown
      go_wp2
      go_region_held3 (fun w' => w'.cell? ⟨b, off + k * 3, none⟩ = some (.int .i64 e.f))
        (first
          | go_keep
          | (rw [hb2.cell (p := ⟨b, off + k * 3, none⟩) (by simp; omega)]; assumption))
        ((go_at_call 55; refine (HGR.out _ (by first | exact hB.drew | exact hB)).mono ?_; rintro r w2 ⟨rfl, hb2⟩))
      have hB2 : Below w.heap.size w w2 := hB.drew.trans (hb2.mono hB.size)
      have hown2 : Own w2 w.heap.size A' c' (iv s 0 (l.take k)) := HO.out.drew.below hb2
      have C0 := (hb2.cell (p := ⟨b, off + k * 3, none⟩) hbb).trans c0
      have C1 := (hb2.cell (p := ⟨b, off + k * 3 + 1, none⟩) hbb).trans c1
      have C2 := (hb2.cell (p := ⟨b, off + k * 3 + 2, none⟩) hbb).trans c2
      have hs2 := hB2.size
      clear c0 c1 c2 HGR HO hb2
      by_cases hk0 : k = 0
      · have HK : Hid (nodup (iv s 0 (l.take k) ++ [iv1 s g e]) = true) := Lib.hid (by subst hk0; simp [iv, nodup, each])
        have hg : decide (0 < (k : Int)) = false := by simp; omega
        have hg2 : decide (0 < k) = false := by simp; omega
        clear hk0
        have q1 : IntKind.i64.wrap (e.f + g + (e.s.size : Int)) = e.f + g + (e.s.size : Int) := IntWalk.i64_in _ (by omega)
        have q2 : (0 : Int) ≤ e.t := by omega
        have HL : Hid (∀ k', (Value.slice A' (iv s 0 (l.take k)).length c').ownBlock = some k' → w.heap.size ≤ k') := Lib.hid (fun k' h => (hown2.lt k' h).1)
        have HO2 := Lib.hid hown2
        clear hown2
        go_wp2
        go_region_held3 (fun w' => w'.cell? ⟨b, off + k * 3, none⟩ = some (.int .i64 e.f) ∧ w'.cell? ⟨b, off + k * 3 + 1, none⟩ = some (.int .i64 e.t) ∧ w'.cell? ⟨b, off + k * 3 + 2, none⟩ = some (.string e.s))
          (first
            | go_keep
            | (go_split_ands
               refine ⟨?_, ?_, ?_⟩
               all_goals (rw [hgrow.cell_far _ (by simp; omega) (fun h => absurd (HL.out _ h.symm) (Nat.not_le.2 hb))]; assumption)))
          ((refine step_append_ed (by rfl) _ _ (by rfl) _ w.heap.size A' c' (iv s 0 (l.take k)) (iv1 s g e) w2.heap.size (by rfl) (by rfl) (by exact first_new _ _) ((HO2.out.alloc _).drew) hml (by simp; omega) ?_; intro A3 c3 w3 hown3 hgrow))
        have hb3 : Below w.heap.size w w3 := below_append (hB2.alloc hB2.size _).drew hgrow (HO2.out.alloc _).drew (Nat.le_refl _) (by simp; omega)
        have HO3 := Lib.hid hown3
        clear hgrow hown3 q1
        go_wp2
        go_roundw
        case rel =>
          refine ⟨k + 1, A3, c3, by omega, by go_num, by rw [HI.out, List.length_append]; rfl, hb3, ?_, ?_⟩
          · rw [HI.out]; exact HO3.out
          · rw [HI.out]; exact HK.out
        case measure => simp [intOf]; omega
      · obtain ⟨m, hm⟩ : ∃ m, m + 1 = k := ⟨k - 1, by omega⟩
        obtain ⟨x, hx⟩ : ∃ x, (iv s 0 (l.take k))[m]? = some x := ⟨_, List.getElem?_eq_getElem (by rw [iv_length, List.length_take]; omega)⟩
        have hlen : (iv s 0 (l.take k)).length = m + 1 := by rw [iv_length, List.length_take]; omega
        have hg : decide (0 < (k : Int)) = true := by simp; omega
        have hg2 : decide (0 < k) = true := by simp; omega
        have hz : (k : Int) - 1 = m := by omega
        have z4 : (0 : Int) ≤ m := by omega
        have z5 : (m : Int) < ((iv s 0 (l.take k)).length : Int) := by omega
        obtain ⟨b2, off2, rfl, hbx, x0, x1, x2⟩ := hown2.eds.at_ hx
        cases x4 : (x.f == e.f + g) with
        | false =>
          have HK : Hid (nodup (iv s 0 (l.take k) ++ [iv1 s g e]) = true) := Lib.hid (nodup_snoc hlen hx HN.out (beq_eq_false_iff_ne.1 x4))
          clear hk0 hx hlen hm
          have q1 : IntKind.i64.wrap (e.f + g + (e.s.size : Int)) = e.f + g + (e.s.size : Int) := IntWalk.i64_in _ (by omega)
          have q2 : (0 : Int) ≤ e.t := by omega
          have HL : Hid (∀ k', (Value.slice (some ⟨b2, off2, none⟩) (iv s 0 (l.take k)).length c').ownBlock = some k' → w.heap.size ≤ k') := Lib.hid (fun k' h => (hown2.lt k' h).1)
          have HO2 := Lib.hid hown2
          clear hown2
          go_wp2
          go_region_held3 (fun w' => w'.cell? ⟨b, off + k * 3, none⟩ = some (.int .i64 e.f) ∧ w'.cell? ⟨b, off + k * 3 + 1, none⟩ = some (.int .i64 e.t) ∧ w'.cell? ⟨b, off + k * 3 + 2, none⟩ = some (.string e.s))
            (first
              | go_keep
              | (go_split_ands
                 refine ⟨?_, ?_, ?_⟩
                 all_goals (rw [hgrow.cell_far _ (by simp; omega) (fun h => absurd (HL.out _ h.symm) (Nat.not_le.2 hb))]; assumption)))
            ((refine step_append_ed (by rfl) _ _ (by rfl) _ w.heap.size (some ⟨b2, off2, none⟩) c' (iv s 0 (l.take k)) (iv1 s g e) w2.heap.size (by rfl) (by rfl) (by exact first_new _ _) ((HO2.out.alloc _).drew) hml (by simp; omega) ?_; intro A3 c3 w3 hown3 hgrow))
          have hb3 : Below w.heap.size w w3 := below_append (hB2.alloc hB2.size _).drew hgrow (HO2.out.alloc _).drew (Nat.le_refl _) (by simp; omega)
          have HO3 := Lib.hid hown3
          clear hgrow hown3 q1
          go_wp2
          go_roundw
          case rel =>
            refine ⟨k + 1, A3, c3, by omega, by go_num, by rw [HI.out, List.length_append]; rfl, hb3, ?_, ?_⟩
            · rw [HI.out]; exact HO3.out
            · rw [HI.out]; exact HK.out
          case measure => simp [intOf]; omega
        | true =>
          have HK : Hid (nodup (iv s 0 l) = false) := Lib.hid (nodup_no (i := m) (a := x) (b := iv1 s g e) (by rw [← iv_take s l k m (by omega) hk]; exact hx) (by
            have := iv_at s l 0 k e HE.out
            rw [hm, this, HGG.out, Int.zero_add]) (beq_iff_eq.1 x4))
          obtain ⟨rfl, rfl⟩ := HM2.out HK.out
          clear hk0 hx hlen hm HM1 HM2 HK
          go_wp2
          go_ret2
          exact listN_none hB2
    · obtain rfl : k = l.length := by omega
      have hnd := HN.out
      rw [List.take_length] at hown hnd ⊢
      obtain ⟨rfl, rfl⟩ := HM1.out hnd
      clear hr HM1 HM2 hnd HN
      go_wp2
      go_ret2
      exact listN_own hown hB (Below.refl _ _)

theorem refInvert_ok (s : ByteArray) (A : Option Addr) (c : Nat) (l : List Ed) (hb : bad s l = 0) (htx : (s.size : Int) + tx l ≤ 70000) (w : World) (hl : l.length ≤ 10000) (hc : l.length ≤ c) (hr : Eds w w.heap.size A l) :
    Calls Try.prog 77 #[.string s, .slice A l.length c] w (ListV (if nodup (iv s 0 l) = true then iv s 0 l else []) (if nodup (iv s 0 l) = true then .int .i64 0 else .int .i64 6) w) :=
  (refInvert_okN s A c l hb htx w hl hc hr).mono fun _ _ h => h.v

end Go.Proofs.Ytfkpnfhhmldodaa
