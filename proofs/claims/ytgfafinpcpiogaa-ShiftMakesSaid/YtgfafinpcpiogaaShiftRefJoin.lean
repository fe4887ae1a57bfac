/- Join as the document has it. -/
import Derived.Test.YtgfafinpcpiogaaShiftRefMath
import Derived.Test.YtgfafinpcpiogaaShiftRef
import Derived.Test.YtgfafinpcpiogaaShiftSmall
import Derived.Test.YtgfafinpcpiogaaEditOwn
import Derived.Lib.Strings
namespace Go.Proofs.Ytgfafinpcpiogaa
open Go.RowKit EditMath ShiftMath

/-- one edit appended -/
theorem wpList_append_ed2 {ops : Array Oper} {rest : List Oper} {o : Oper} {a : Act} {Q : Exit → Act → World → Prop} (hgd : o.guard = none) (s x : Operand)
    (ho : o.op = .call { callee := .builtin .append, args := #[s, x], argTypes := #[22, 22] }) (W : World) (base : Nat) (A : Option Addr) (c : Nat) (m : List Ed) (e : Ed)
    (hs : a.eval s = .slice A m.length c) (hx : a.eval x = .slice (some ⟨W.heap.size, 0, none⟩) 1 1) (hown : Own W base A c m) (hn : m.length ≤ 10000) (hbase : base ≤ W.heap.size)
    (h : ∀ A' c' w', Own w' base A' c' (m ++ [e]) → W.grownBy w' (Value.slice A m.length c).ownBlock → wpList Try.prog ops Q rest (a.put o.dst (.slice A' (m ++ [e]).length c')) w') :
    wpList Try.prog ops Q (o :: rest) a (W.alloc (.cells #[.int .i64 e.f, .int .i64 e.t, .string e.s] 87)) := by
  obtain ⟨i0, hi, hz0, hz1, hz2⟩ := info_parts info_edit
  refine wpList_append_own _ hgd s x 22 ho base 87 i0 _ 3 32 Try.underlying22 hi hz0 hz1 hz2 rfl (by decide) _ _ _ hs (hown.alloc _) ⟨W.heap.size, 0, none⟩ 1 1 (ecs e) hx rfl (three_new W e) (by intro u hu; simp [ecs] at hu; rcases hu with rfl | rfl | rfl <;> rfl) (by unfold maxLen; omega) (by omega) (by simp; omega) ?_
  intro v' w' hown' hgrow _
  have he : ecells m ++ ecs e = ecells (m ++ [e]) := by rw [ecells_append]; simp [ecells]
  rw [he] at hown'
  obtain ⟨A', c', rfl, _, ho'⟩ := own_form hown'
  exact h A' c' w' ho' ((World.grownBy_alloc W _ _).trans hgrow)

def RjV (L : List Ed) (w : World) (e : Ending) (w' : World) : Prop := ∃ A c, e = .returned (.tuple #[.slice A L.length c, .int .i64 0]) ∧ Eds w' w'.heap.size A L ∧ Below w.heap.size w w'
def RjB (w : World) (e : Ending) (w' : World) : Prop := e = .returned (.tuple #[.slice none 0 0, .int .i64 2]) ∧ Below w.heap.size w w'
structure RjR (w : World) (D : List By) (o at_ tx i : Value) (wr : World) (k : Nat) (A : Option Addr) (c : Nat) (t : ByteArray) : Prop where
  hk : k ≤ D.length
  hi : i = .int .i64 (k : Int)
  ho : o = .slice A (jst (D.take k)).out.length c
  ha : at_ = .int .i64 (jst (D.take k)).at_
  ht : tx = .string t
  hT : t.data.toList = (jst (D.take k)).tx
  hO : Own wr w.heap.size A c (jst (D.take k)).out
  hB : Below w.heap.size w wr

theorem take1 {L : List UInt8} {k : Nat} {x : UInt8} (h : L[k]? = some x) : (L.drop k).take (k + 1 - k) = [x] := by
  obtain ⟨hlt, rfl⟩ := List.getElem?_eq_some_iff.1 h
  rw [List.drop_eq_getElem_cons hlt, show k + 1 - k = 1 by omega]
  rfl
theorem ba_of {t : ByteArray} {l : List UInt8} (h : t.data.toList = l) : t = ⟨l.toArray⟩ := by
  subst h
  simp

section
variable (A0 A1 : Option Addr) (c0 c1 : Nat) (a b : List Ed) (size : Int) (w : World)
set_option maxRecDepth 100000 in
set_option maxHeartbeats 400000 in
theorem refJoin_bad1 (hl : a.length ≤ 31) (hr : Eds w w.heap.size A0 a) (hR : rt a size = false) :
    Calls Try.prog 25 #[.slice A0 a.length c0, .slice A1 b.length c1, .int .i64 size] w (RjB w) := by
  have HR := Lib.hid hR
  clear hR
  go_enter Try.func25, Try.ntmps25
  go_wp2_with (go_at_call 20; refine (refRight_any A0 c0 a size _ (by omega) hr).mono ?_; rw [HR.out]; rintro e w1 ⟨rfl, hB1⟩)
  go_ret2
  exact ⟨rfl, hB1⟩

set_option maxRecDepth 100000 in
set_option maxHeartbeats 400000 in
theorem refJoin_bad2 (hl : a.length ≤ 31) (hl1 : b.length ≤ 31) (hr : Eds w w.heap.size A0 a) (hr1 : Eds w w.heap.size A1 b) (hz0 : 0 ≤ size) (hsz : size ≤ 500) (hg0 : -1000000 ≤ gr a) (hg1 : gr a ≤ 1000000) (hR : rt a size = true) (hR2 : rt b (size + gr a) = false) :
    Calls Try.prog 25 #[.slice A0 a.length c0, .slice A1 b.length c1, .int .i64 size] w (RjB w) := by
  have HR := Lib.hid hR
  have HR2 := Lib.hid hR2
  have HW : Hid (wrap64 (gr a) = gr a) := Lib.hid (IntWalk.wrap64_in _ (by omega))
  clear hR hR2
  go_enter Try.func25, Try.ntmps25
  go_wp2_with fail
  refine (refRight_any A0 c0 a size _ (by omega) hr).mono ?_
  rw [HR.out]
  rintro e w1 ⟨rfl, hB1⟩
  go_wp2_with fail
  refine (refGrow_any A0 c0 a _ (by omega) (hr.after hB1)).mono ?_
  rw [HW.out]
  rintro e w2 ⟨rfl, hB2⟩
  have hB12 := hB1.trans (hB2.mono hB1.size)
  generalize hg : gr a = g at *
  go_wp2_with fail
  refine (refRight_any A1 c1 b (size + g) _ (by omega) (hr1.after hB12)).mono ?_
  rw [HR2.out]
  rintro e w3 ⟨rfl, hB3⟩
  go_wp2
  go_ret2
  exact ⟨rfl, hB12.trans (hB3.mono hB12.size)⟩

set_option maxRecDepth 100000 in
set_option maxHeartbeats 1000000 in
theorem refJoin_ok (hl : a.length ≤ 31) (hl1 : b.length ≤ 31) (hr : Eds w w.heap.size A0 a) (hr1 : Eds w w.heap.size A1 b) (hz0 : 0 ≤ size) (hsz : size ≤ 500) (htx : tx a ≤ 500) (htx1 : tx b ≤ 500) (hg0 : -1000000 ≤ gr a) (hg1 : gr a ≤ 500) (hg2 : gr b ≤ 500) (hR : rt a size = true) (hR2 : rt b (size + gr a) = true) :
    Calls Try.prog 25 #[.slice A0 a.length c0, .slice A1 b.length c1, .int .i64 size] w (RjV (joinB ((bysOf (pcs b (size + gr a))).map (comb (bysOf (pcs a size)))) size) w) := by
  have hz2 : 0 ≤ size + gr a := (rt_parts hR2).1
  have hs0 := small_of hR (by omega) (by omega)
  have hs1 := small_of hR2 (by omega) (by omega)
  have HF0 : Hid (∀ W, Below w.heap.size w W → Calls Try.prog 52 #[.slice A0 a.length c0, .int .i64 size] W (FromV (pcs a size) W)) := Lib.hid fun W hb => from_any A0 c0 a size W (by omega) (hr.after hb) hR (by omega) hs0
  have HF1 : Hid (∀ W, Below w.heap.size w W → Calls Try.prog 52 #[.slice A1 b.length c1, .int .i64 (size + gr a)] W (FromV (pcs b (size + gr a)) W)) := Lib.hid fun W hb => from_any A1 c1 b (size + gr a) W (by omega) (hr1.after hb) hR2 (by omega) hs1
  have HR := Lib.hid hR
  have HR2 := Lib.hid hR2
  have HW : Hid (wrap64 (gr a) = gr a) := Lib.hid (IntWalk.wrap64_in _ (by omega))
  have lenF : ((srcOf (pcs a size)).length : Int) = size + gr a := (pcs_pos hR).2.2
  have lenG : ((srcOf (pcs b (size + gr a))).length : Int) = size + gr a + gr b := (pcs_pos hR2).2.2
  have tlF := Lib.hid (src_text (pcs a size))
  have tlG := Lib.hid (src_text (pcs b (size + gr a)))
  have topF := src_top hR
  have topG := src_top hR2
  have LF := Lib.hid lenF
  have hFG : ∀ (k : Nat) (y : Int), (srcOf (pcs b (size + gr a)))[k]? = some y → ∃ ch, (textOf (pcs b (size + gr a)))[k]? = some ch ∧ ((y < 0 ∧ ((bysOf (pcs b (size + gr a))).map (comb (bysOf (pcs a size))))[k]? = some (y, ch)) ∨
      (0 ≤ y ∧ ∃ z cz, (srcOf (pcs a size))[y.toNat]? = some z ∧ (textOf (pcs a size))[y.toNat]? = some cz ∧ z < size ∧ y < ((srcOf (pcs a size)).length : Int) ∧ ((bysOf (pcs b (size + gr a))).map (comb (bysOf (pcs a size))))[k]? = some (z, cz))) := by
    intro k y hy
    obtain ⟨ch, h1, h2⟩ := bys_at hy
    refine ⟨ch, h1, ?_⟩
    by_cases hy0 : y < 0
    · left
      exact ⟨hy0, by rw [List.getElem?_map, h2]; simp [comb, hy0]⟩
    · right
      have hyt := (topG y (List.mem_of_getElem? hy)).resolve_right hy0
      have hlt : y.toNat < (srcOf (pcs a size)).length := by omega
      obtain ⟨cz, h3, h4⟩ := bys_at (List.getElem?_eq_getElem hlt)
      refine ⟨by omega, _, cz, List.getElem?_eq_getElem hlt, h3, ?_, by omega, ?_⟩
      · rcases topF _ (List.getElem_mem hlt) with h | h
        · exact h
        · omega
      · rw [List.getElem?_map, h2]
        simp only [Option.map_some, comb]
        rw [if_neg hy0, h4]
        rfl
  have hlenC : Hid (((bysOf (pcs b (size + gr a))).map (comb (bysOf (pcs a size)))).length = (srcOf (pcs b (size + gr a))).length) := Lib.hid (by rw [List.length_map, bysOf_length])
  generalize (bysOf (pcs b (size + gr a))).map (comb (bysOf (pcs a size))) = C at *
  have HFG := Lib.hid hFG
  clear hR hR2 hFG topF topG
  go_enter Try.func25, Try.ntmps25
  go_wp2_with fail
  refine (refRight_any A0 c0 a size _ (by omega) hr).mono ?_
  rw [HR.out]
  rintro e w1 ⟨rfl, hB1⟩
  go_wp2_with fail
  refine (refGrow_any A0 c0 a _ (by omega) (hr.after hB1)).mono ?_
  rw [HW.out]
  rintro e w2 ⟨rfl, hB2⟩
  have hB12 := hB1.trans (hB2.mono hB1.size)
  generalize gr a = g at *
  go_wp2_with fail
  refine (refRight_any A1 c1 b (size + g) _ (by omega) (hr1.after hB12)).mono ?_
  rw [HR2.out]
  rintro e w3 ⟨rfl, hB3⟩
  have hB123 := hB12.trans (hB3.mono hB12.size)
  go_wp2_with fail
  refine (HF0.out _ hB123).mono ?_
  rintro e w4 ⟨A4, c4, t4, rfl, hT4, hRd4, hb4⟩
  have hB4 := hB123.trans (hb4.mono hB123.size)
  generalize srcOf (pcs a size) = F at *
  generalize textOf (pcs a size) = TF at *
  clear hb4 hB3 hB2 hB1 HF0
  go_wp2_with fail
  refine (HF1.out _ hB4).mono ?_
  rintro e w5 ⟨A5, c5, t5, rfl, hT5, hRd5, hb5⟩
  have hB5 := hB4.trans (hb5.mono hB4.size)
  generalize srcOf (pcs b (size + g)) = G at *
  generalize textOf (pcs b (size + g)) = TG at *
  have HRF := Lib.hid (hRd4.below hb5)
  have hW45 := hb5.size
  have HRG := Lib.hid hRd5
  clear HF1 hRd4 hRd5 hb5 hB123 hB12 hB4 hr hr1 HW HR HR2
  have hn5 : G.length ≤ 1500 := by omega
  have HW4 : Hid (w4.heap.size ≤ w5.heap.size) := Lib.hid hW45
  have hn4 : F.length ≤ 1500 := by omega
  have t5s : t5.size = G.length := by rw [tlG.out, ← hT5]; rfl
  have t4s : t4.size = F.length := by rw [tlF.out, ← hT4]; rfl
  have LG := Lib.hid lenG
  clear lenF lenG LF tlF tlG
  have HT4 := Lib.hid hT4
  have HT5 := Lib.hid hT5
  clear hT4 hT5 hs0 hs1
  obtain ⟨D, hD⟩ : ∃ D, C ++ [(size, 0)] = D := ⟨_, rfl⟩
  have hDl : D.length = G.length + 1 := by rw [← hD]; simp [hlenC.out]
  have HJB : Hid (joinB C size = (jst D).out) := Lib.hid (by rw [← hD, jst_snoc]; simp only [jstep]; rw [if_neg (by omega)]; rfl)
  have HDC : Hid (∀ k, k < G.length → D[k]? = C[k]?) := Lib.hid (fun k hk => by rw [← hD]; exact List.getElem?_append_left (by rw [hlenC.out]; exact hk))
  have HDE : Hid (D[G.length]? = some (size, 0)) := Lib.hid (by rw [← hD, ← hlenC.out]; simp)
  have HDL := Lib.hid hDl
  clear hlenC
  clear hD
  go_wp2
  go_loopw [12, 13, 14, 15] (fun o at_ t i wr => ∃ k A c tb, RjR w5 D o at_ t i wr k A c tb) (fun o at_ t i wr => D.length - (intOf i).toNat)
  case atStart => exact ⟨0, none, 0, ⟨#[]⟩, by omega, rfl, rfl, rfl, rfl, rfl, World.ownsRow_nil _ _ _ _, Below.refl _ _⟩
  case round =>
    obtain ⟨k, A, c, tb, hk, rfl, rfl, rfl, rfl, hT, hO, hB⟩ := hrel
    obtain ⟨hln1, hln2⟩ := jst_len (D.take k)
    have hlt0 : (D.take k).length ≤ k := by rw [List.length_take]; omega
    have HST : Hid (∀ d, D[k]? = some d → jst (D.take (k + 1)) = jstep (jst (D.take k)) d) := Lib.hid fun d hd => jst_take hd
    have HALL : Hid (k = D.length → jst (D.take k) = jst D) := Lib.hid fun h => by rw [h, List.take_length]
    obtain ⟨st, hst⟩ : ∃ st, jst (D.take k) = st := ⟨_, rfl⟩
    rw [hst] at hT hO hln1 hln2 HST HALL ⊢
    clear hst
    obtain ⟨out, at_, tx⟩ := st
    simp only at hT hO hln1 hln2 ⊢
    have htb : tb.size ≤ 2000 := by have : tb.data.toList.length = tb.size := rfl; rw [← this, hT]; omega
    have hol : out.length ≤ 2000 := by omega
    have HT := Lib.hid hT
    have HO := Lib.hid hO
    clear hT hO hln1 hln2 hlt0
    by_cases hlt : k < G.length
    · obtain ⟨y, hy⟩ : ∃ y, G[k]? = some y := ⟨G[k], List.getElem?_eq_getElem hlt⟩
      obtain ⟨bg, og, rfl, hbg, hcg⟩ := (HRG.out.below hB) (by rw [icells_length]; omega)
      have g0 := hcg k _ (icells_at hy)
      clear hcg
      have z1 : (k : Int) ≤ (G.length : Int) := by omega
      have z2 : (k : Int) < (G.length : Int) := by omega
      have z3 : (0 : Int) ≤ (k : Int) := by omega
      have z4 : (k : Int) + 1 ≤ (t5.size : Int) := by omega
      obtain ⟨ch, hch, (⟨hy0, hd⟩ | ⟨hy0, z, cz, hz, hcz, hzs, hyF, hd⟩)⟩ := HFG.out k y hy
      · have HD : Hid (D[k]? = some (y, ch)) := Lib.hid ((HDC.out k hlt).trans hd)
        have HCH := Lib.hid hch
        have hy1 : ¬ (0 ≤ y) := by omega
        have hadd : ∀ W, Sem.run Try.prog (Op.stringOp .add tb (t5.extract k (k + 1))) W = .ok (.string (tb ++ t5.extract k (k + 1))) W := fun W => run_string_add_sum _ _ _ (by rw [ByteArray.size_extract]; omega)
        have E : Hid (jst (D.take (k + 1)) = ⟨out, at_, tx ++ [ch]⟩) := Lib.hid (by rw [HST.out _ HD.out]; simp [jstep, hy0])
        clear hd hch hy HFG
        go_wp2
        refine ⟨⟨k + 1, A, c, _, by omega, by go_num, by rw [E.out], by rw [E.out], rfl, ?_, by rw [E.out]; exact HO.out, hB⟩, by simp [intOf]; omega⟩
        rw [E.out, ByteArray.data_append, Array.toList_append, HT.out, Lib.extract_data, HT5.out, take1 HCH.out]
      · obtain ⟨q, rfl⟩ : ∃ q : Nat, y = (q : Int) := ⟨y.toNat, by omega⟩
        rw [Int.toNat_natCast] at hz hcz
        have HD : Hid (D[k]? = some (z, cz)) := Lib.hid ((HDC.out k hlt).trans hd)
        have HCZ := Lib.hid hcz
        have hqF : q < F.length := by omega
        obtain ⟨bf, of, rfl, hbf, hcf⟩ := ((HRF.out.more HW4.out).below hB) (by rw [icells_length]; omega)
        have f0 := hcf q _ (icells_at hz)
        clear hcf hd hch hcz hz hy HFG
        have y1 : (0 : Int) ≤ (q : Int) := by omega
        have y2 : (q : Int) + 1 ≤ (t4.size : Int) := by omega
        have y3 : (q : Int) ≤ (q : Int) + 1 := by omega
        have y4 : (q : Int) ≤ (t4.size : Int) := by omega
        have hwq : IntKind.i64.wrap ((q : Int) + 1) = (q : Int) + 1 := IntWalk.i64_in _ (by omega)
        clear t4s t5s
        by_cases hz0' : z < 0
        · have hadd : ∀ W, Sem.run Try.prog (Op.stringOp .add tb (t4.extract q (q + 1))) W = .ok (.string (tb ++ t4.extract q (q + 1))) W := fun W => run_string_add_sum _ _ _ (by rw [ByteArray.size_extract]; omega)
          have E : Hid (jst (D.take (k + 1)) = ⟨out, at_, tx ++ [cz]⟩) := Lib.hid (by rw [HST.out _ HD.out]; simp [jstep, hz0'])
          go_wp2
          go_quiet (fail)
          go_wp2
          refine ⟨⟨k + 1, A, c, _, by omega, by go_num, by rw [E.out], by rw [E.out], rfl, ?_, by rw [E.out]; exact HO.out.drewN _, below_drewN hB _⟩, by simp [intOf]; omega⟩
          rw [E.out, ByteArray.data_append, Array.toList_append, HT.out, Lib.extract_data, HT4.out, take1 HCZ.out]
        · have hz1 : 0 ≤ z := by omega
          by_cases d1 : at_ < z
          · have E : Hid (jst (D.take (k + 1)) = ⟨out ++ [⟨at_, z, tb⟩], z + 1, []⟩) := Lib.hid (by rw [HST.out _ HD.out]; simp only [jstep]; rw [if_neg (by omega)]; simp only [jput]; rw [if_pos (.inl d1), ← ba_of HT.out])
            go_wp2_with (at_builtin; refine wpList_append_ed2 rfl _ _ rfl wr w5.heap.size A c out ⟨at_, z, tb⟩ rfl rfl HO.out (by omega) hB.size ?_; intro A3 c3 w3 hO3 hg3)
            have hB3 : Below w5.heap.size w5 w3 := hB.grown hg3 hB.size (fun k e => (World.ownsRow.lt HO.out k e).1)
            go_roundw
            case rel =>
              refine ⟨k + 1, A3, c3, ⟨#[]⟩, by omega, by go_num, by rw [E.out]; simp, by rw [E.out], rfl, by rw [E.out], by rw [E.out]; exact hO3, hB3⟩
            case measure => simp [intOf]; omega
          · by_cases d2 : 0 < tb.size
            · have d3 : (0 : Int) < (tb.size : Int) := by omega
              have d4 : tx ≠ [] := fun h => by have h1 := HT.out; rw [h] at h1; have h2 : tb.data.toList.length = tb.size := rfl; rw [h1] at h2; simp at h2; omega
              have E : Hid (jst (D.take (k + 1)) = ⟨out ++ [⟨at_, z, tb⟩], z + 1, []⟩) := Lib.hid (by rw [HST.out _ HD.out]; simp only [jstep]; rw [if_neg (by omega)]; simp only [jput]; rw [if_pos (.inr d4), ← ba_of HT.out])
              go_wp2_with (at_builtin; refine wpList_append_ed2 rfl _ _ rfl wr w5.heap.size A c out ⟨at_, z, tb⟩ rfl rfl HO.out (by omega) hB.size ?_; intro A3 c3 w3 hO3 hg3)
              have hB3 : Below w5.heap.size w5 w3 := hB.grown hg3 hB.size (fun k e => (World.ownsRow.lt HO.out k e).1)
              go_roundw
              case rel =>
                refine ⟨k + 1, A3, c3, ⟨#[]⟩, by omega, by go_num, by rw [E.out]; simp, by rw [E.out], rfl, by rw [E.out], by rw [E.out]; exact hO3, hB3⟩
              case measure => simp [intOf]; omega
            · have d3 : ¬ (0 : Int) < (tb.size : Int) := by omega
              have d4 : tx = [] := by have h2 : tb.data.toList.length = tb.size := rfl; rw [HT.out] at h2; exact List.length_eq_zero_iff.1 (by omega)
              have E : Hid (jst (D.take (k + 1)) = ⟨out, z + 1, []⟩) := Lib.hid (by rw [HST.out _ HD.out]; simp only [jstep]; rw [if_neg (by omega)]; simp only [jput]; rw [if_neg (fun h => h.elim d1 (fun h => h d4))])
              go_wp2
              go_roundw
              case rel =>
                refine ⟨k + 1, A, c, ⟨#[]⟩, by omega, by go_num, by rw [E.out], by rw [E.out], rfl, by rw [E.out], by rw [E.out]; exact HO.out, hB⟩
              case measure => simp [intOf]; omega
    · by_cases hlt2 : k = G.length
      · subst hlt2
        have HD := HDE
        by_cases d1 : at_ < size
        · have E : Hid (jst (D.take (G.length + 1)) = ⟨out ++ [⟨at_, size, tb⟩], size + 1, []⟩) := Lib.hid (by rw [HST.out _ HD.out]; simp only [jstep]; rw [if_neg (by omega)]; simp only [jput]; rw [if_pos (.inl d1), ← ba_of HT.out])
          go_wp2_with (at_builtin; refine wpList_append_ed2 rfl _ _ rfl wr w5.heap.size A c out ⟨at_, size, tb⟩ rfl rfl HO.out (by omega) hB.size ?_; intro A3 c3 w3 hO3 hg3)
          have hB3 : Below w5.heap.size w5 w3 := hB.grown hg3 hB.size (fun k e => (World.ownsRow.lt HO.out k e).1)
          go_roundw
          case rel =>
            refine ⟨G.length + 1, A3, c3, ⟨#[]⟩, by omega, by go_num, by rw [E.out]; simp, by rw [E.out], rfl, by rw [E.out], by rw [E.out]; exact hO3, hB3⟩
          case measure => simp [intOf]; omega
        · by_cases d2 : 0 < tb.size
          · have d3 : (0 : Int) < (tb.size : Int) := by omega
            have d4 : tx ≠ [] := fun h => by have h1 := HT.out; rw [h] at h1; have h2 : tb.data.toList.length = tb.size := rfl; rw [h1] at h2; simp at h2; omega
            have E : Hid (jst (D.take (G.length + 1)) = ⟨out ++ [⟨at_, size, tb⟩], size + 1, []⟩) := Lib.hid (by rw [HST.out _ HD.out]; simp only [jstep]; rw [if_neg (by omega)]; simp only [jput]; rw [if_pos (.inr d4), ← ba_of HT.out])
            go_wp2_with (at_builtin; refine wpList_append_ed2 rfl _ _ rfl wr w5.heap.size A c out ⟨at_, size, tb⟩ rfl rfl HO.out (by omega) hB.size ?_; intro A3 c3 w3 hO3 hg3)
            have hB3 : Below w5.heap.size w5 w3 := hB.grown hg3 hB.size (fun k e => (World.ownsRow.lt HO.out k e).1)
            go_roundw
            case rel =>
              refine ⟨G.length + 1, A3, c3, ⟨#[]⟩, by omega, by go_num, by rw [E.out]; simp, by rw [E.out], rfl, by rw [E.out], by rw [E.out]; exact hO3, hB3⟩
            case measure => simp [intOf]; omega
          · have d3 : ¬ (0 : Int) < (tb.size : Int) := by omega
            have d4 : tx = [] := by have h2 : tb.data.toList.length = tb.size := rfl; rw [HT.out] at h2; exact List.length_eq_zero_iff.1 (by omega)
            have E : Hid (jst (D.take (G.length + 1)) = ⟨out, size + 1, []⟩) := Lib.hid (by rw [HST.out _ HD.out]; simp only [jstep]; rw [if_neg (by omega)]; simp only [jput]; rw [if_neg (fun h => h.elim d1 (fun h => h d4))])
            go_wp2
            go_roundw
            case rel =>
              refine ⟨G.length + 1, A, c, ⟨#[]⟩, by omega, by go_num, by rw [E.out], by rw [E.out], rfl, by rw [E.out], by rw [E.out]; exact HO.out, hB⟩
            case measure => simp [intOf]; omega
      · obtain rfl : k = D.length := by omega
        have HF := HALL.out rfl
        have z1 : ¬ ((D.length : Nat) : Int) ≤ (G.length : Int) := by omega
        go_wp2
        go_ret2
        rw [HJB.out, ← HF]
        exact ⟨A, c, rfl, HO.out.eds, hB5.trans (hB.mono hB5.size)⟩
end
end Go.Proofs.Ytgfafinpcpiogaa
