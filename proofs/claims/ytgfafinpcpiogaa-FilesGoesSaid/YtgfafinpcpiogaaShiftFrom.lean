/- From, as the document has it: whence each byte came, and the bytes. -/
import Derived.Test.YtgfafinpcpiogaaShiftSrc
import Derived.Test.YtgfafinpcpiogaaShiftRow
import Derived.Test.YtgfafinpcpiogaaEditGrowA
import Derived.OwnWalk
import Derived.Laws.Concat
namespace Go.Proofs.Ytgfafinpcpiogaa
open Go.RowKit EditMath ShiftMath

def icells (L : List Int) : List Value := L.map fun x => .int .i64 x
theorem icells_at {L : List Int} {i : Nat} {x : Int} (h : L[i]? = some x) : (icells L)[i]? = some (.int .i64 x) := by simp [icells, h]
theorem icells_length (L : List Int) : (icells L).length = L.length := by simp [icells]
def OwnI (w : World) (base : Nat) (A : Option Addr) (c : Nat) (L : List Int) : Prop := w.ownsRow base 3 1 (.slice A L.length c) L.length (icells L)
theorem info_int : (Try.prog.info? 3).map (fun i => (i.zero, i.size, i.bytes)) = some (some (.int .i64 0), 1, 8) := by kernel_rfl

theorem wpList_append_int {ops : Array Oper} {rest : List Oper} {o : Oper} {a : Act} {Q : Exit → Act → World → Prop} (hgd : o.guard = none) (s x : Operand)
    (ho : o.op = .call { callee := .builtin .append, args := #[s, x], argTypes := #[94, 94] }) (W : World) (base : Nat) (A : Option Addr) (c : Nat) (L : List Int) (y : Int)
    (hs : a.eval s = .slice A L.length c) (hx : a.eval x = .slice (some ⟨W.heap.size, 0, none⟩) 1 1) (hown : OwnI W base A c L) (hn : L.length ≤ 10000000) (hbase : base ≤ W.heap.size)
    (h : ∀ A' c' w', OwnI w' base A' c' (L ++ [y]) → W.grownBy w' (Value.slice A L.length c).ownBlock → wpList Try.prog ops Q rest (a.put o.dst (.slice A' (L ++ [y]).length c')) w') :
    wpList Try.prog ops Q (o :: rest) a (W.alloc (.cells #[.int .i64 y] 3)) := by
  obtain ⟨i0, hi, hz0, hz1, hz2⟩ := info_parts info_int
  refine wpList_append_own_at _ hgd s x 94 ho base 3 i0 _ 1 8 Try.underlying94 hi hz0 hz1 hz2 rfl (by decide) _ _ _ hs (World.ownsRow.alloc hown _) ⟨W.heap.size, 0, none⟩ 1 1 [.int .i64 y] hx rfl
    (World.news_of_block (cs := #[.int .i64 y]) (World.alloc_heap_new W _)) (by intro u hu; simp at hu; subst hu; rfl) (by unfold maxLen; omega) (by omega) (by simp; omega) ?_
  intro v' w' hown' hgrow _ _
  obtain ⟨A', c', rfl⟩ := own_slice hown'
  have e1 : L.length + 1 = (L ++ [y]).length := by simp
  have e2 : icells L ++ [.int .i64 y] = icells (L ++ [y]) := by simp [icells]
  rw [e1, e2] at hown'
  have := h A' c' w' hown' ((World.grownBy_alloc W _ _).trans hgrow)
  rwa [← e1] at this

def outK (l : List Ed) (size : Int) (k : Nat) : List Pc := if k ≤ l.length then (stOf (l.take k)).out else pcs l size

def FromR (w : World) (l : List Ed) (size : Int) (o t a i : Value) (wr : World) : Prop := ∃ (k : Nat) (A : Option Addr) (c : Nat) (tb : ByteArray) (av : Int), k ≤ l.length + 1 ∧ i = .int .i64 k ∧ o = .slice A (srcOf (outK l size k)).length c ∧ t = .string tb ∧ a = .int .i64 av ∧
  tb.data.toList = textOf (outK l size k) ∧ OwnI wr w.heap.size A c (srcOf (outK l size k)) ∧ Below w.heap.size w wr ∧ (k ≤ l.length → av = (stOf (l.take k)).fr)
def FromR2 (w : World) (S0 : List Int) (T0 : List UInt8) (fr en : Int) (o t a : Value) (wr : World) : Prop := ∃ (j : Nat) (A : Option Addr) (c : Nat) (tb : ByteArray), fr + (j : Int) ≤ en ∧ o = .slice A (S0 ++ rangeI fr (fr + j)).length c ∧ t = .string tb ∧ a = .int .i64 (fr + j) ∧
  tb.data.toList = T0 ++ List.replicate j 46 ∧ OwnI wr w.heap.size A c (S0 ++ rangeI fr (fr + j)) ∧ Below w.heap.size w wr
def FromR3 (w : World) (S1 : List Int) (n : Nat) (o i : Value) (wr : World) : Prop := ∃ (j : Nat) (A : Option Addr) (c : Nat), j ≤ n ∧ o = .slice A (S1 ++ List.replicate j (-1)).length c ∧ i = .int .i64 j ∧ OwnI wr w.heap.size A c (S1 ++ List.replicate j (-1)) ∧ Below w.heap.size w wr
def FromV (L : List Pc) (w : World) (e : Ending) (w' : World) : Prop := ∃ A c t, e = .returned (.tuple #[.slice A (srcOf L).length c, .string t]) ∧ t.data.toList = textOf L ∧ Rdc w' w'.heap.size A (icells (srcOf L)) ∧ Below w.heap.size w w'

set_option maxRecDepth 100000 in
set_option maxHeartbeats 2000000 in
theorem from_any (A0 : Option Addr) (c0 : Nat) (l : List Ed) (size : Int) (w : World) (hl : l.length ≤ 10000) (hr : Eds w w.heap.size A0 l) (hR : rt l size = true) (hsz : size ≤ 1000000) (hs : Small l) :
    Calls Try.prog 52 #[.slice A0 l.length c0, .int .i64 size] w (FromV (pcs l size) w) := by
  have hz0 := (rt_parts hR).1
  have HP := Lib.hid (st_pos hR)
  have HK := Lib.hid (st_ok hs)
  have HS := Lib.hid hs
  clear hR hs
  go_enter Try.func52, Try.ntmps52
  go_wp2
  go_loopw [6, 7, 8, 9] (fun o t a i wr => FromR w l size o t a i wr) (fun o t a i wr => l.length + 1 - (intOf i).toNat)
  case atStart => exact ⟨0, none, 0, ⟨#[]⟩, 0, by omega, rfl, by simp [outK, stOf, srcOf], rfl, rfl, by simp [outK, stOf, textOf], by simp only [outK, Nat.zero_le, if_true, List.take_zero]; exact World.ownsRow_nil _ _ _ _, Below.refl _ _, fun _ => by simp [stOf]⟩
  case round =>
    obtain ⟨k, A, c, tb, av, hk, rfl, rfl, rfl, rfl, hT, hO, hB, hav⟩ := hrel
    by_cases hk1 : k ≤ l.length
    · have hav := hav hk1
      subst hav
      obtain ⟨st, hst⟩ : ∃ st, stOf (l.take k) = st := ⟨_, rfl⟩
      obtain ⟨P1, P2, P3, P4, P5, P6⟩ := HP.out k hk1
      obtain ⟨K1, K2, K3, K4, K5⟩ := HK.out k hk1
      obtain ⟨S0, hS0⟩ : ∃ S0, srcOf (outK l size k) = S0 := ⟨_, rfl⟩
      obtain ⟨T0, hT0⟩ : ∃ T0, textOf (outK l size k) = T0 := ⟨_, rfl⟩
      have hSl : (S0.length : Int) = st.fr + st.sh := by rw [← hS0, outK, if_pos hk1, ← hst]; exact P2
      rw [hS0] at hO ⊢
      rw [hT0] at hT
      have HS0 : Hid (srcOf st.out = S0) := Lib.hid (by rw [← hS0, outK, if_pos hk1, hst])
      have HT0 : Hid (textOf st.out = T0) := Lib.hid (by rw [← hT0, outK, if_pos hk1, hst])
      have HST := Lib.hid hst
      have HT := Lib.hid hT
      have HO := Lib.hid hO
      rw [hst] at P4 P5 P6 K2 K3 K4 K5 ⊢
      have HP6 := Lib.hid P6
      have hS4 : S0.length ≤ 5000000 := by omega
      clear hst hS0 hT0 hT hO P1 P2 P3 K1 P6 hSl
      by_cases hlt : k < l.length
      · obtain ⟨e, he⟩ : ∃ e, l[k]? = some e := ⟨l[k], List.getElem?_eq_getElem hlt⟩
        have hfe := HP6.out e he
        obtain ⟨e0, e1, e2, e3, e4, e5, e6⟩ := HS.out k e he
        have HE := Lib.hid he
        obtain ⟨b, off, rfl, hb, c0', c1', c2'⟩ := (hr.below hB).at_ he
        clear he
        go_wp2
        go_loopw [6, 7, 8] (fun o t a wr => FromR2 w S0 T0 st.fr e.f o t a wr) (fun o t a wr => (e.f - intOf a).toNat)
        case atStart => exact ⟨0, A, c, tb, by omega, by simp [rangeI_self], rfl, by simp, by simpa using HT.out, by simpa [rangeI_self] using HO.out, hB⟩
        case round =>
          obtain ⟨j, A2, c2, tb2, hj, rfl, rfl, rfl, hT2, hO2, hB2⟩ := hrel
          have HT2 := Lib.hid hT2
          have HO2 := Lib.hid hO2
          clear hT2 hO2
          have hl2 : (S0 ++ rangeI st.fr (st.fr + j)).length ≤ 7000000 := by rw [List.length_append, rangeI_length]; omega
          by_cases hlt2 : st.fr + (j : Int) < e.f
          · have htb : tb2.size ≤ 9000000 := by
              have h1 : tb2.data.toList.length = tb2.size := rfl
              rw [← h1, HT2.out, List.length_append, List.length_replicate, ← HT0.out, ← src_text, HS0.out]
              omega
            have hadd : ∀ W, Sem.run Try.prog (Op.stringOp .add tb2 ⟨#[46]⟩) W = .ok (.string (tb2 ++ ⟨#[46]⟩)) W := fun W => run_string_add_sum _ _ _ (by show tb2.size + 1 ≤ _; omega)
            go_wp2_with (at_builtin; refine wpList_append_int rfl _ _ rfl wr w.heap.size A2 c2 _ (st.fr + j) rfl rfl HO2.out (by omega) hB2.size ?_; intro A3 c3 w3 hO3 hg3)
            have hB3 : Below w.heap.size w w3 := hB2.grown hg3 hB2.size (fun k e => (World.ownsRow.lt HO2.out k e).1)
            go_roundw
            case rel =>
              refine ⟨j + 1, A3, c3, _, by omega, ?_, rfl, by go_num, ?_, ?_, hB3⟩
              · rw [show st.fr + ((j + 1 : Nat) : Int) = st.fr + j + 1 by omega, rangeI_snoc (by omega)]; simp only [List.length_append, List.length_cons, List.length_nil]
              · rw [ByteArray.data_append, Array.toList_append, HT2.out, List.append_assoc, List.replicate_succ']
              · rw [show st.fr + ((j + 1 : Nat) : Int) = st.fr + j + 1 by omega, rangeI_snoc (by omega), ← List.append_assoc]; exact hO3
            case measure => simp [intOf]; omega
          · have ej : st.fr + (j : Int) = e.f := by omega
            have ejn : j = (e.f - st.fr).toNat := by omega
            have EJN := Lib.hid ejn
            obtain ⟨S1, hS1⟩ : ∃ S1, S0 ++ rangeI st.fr (st.fr + j) = S1 := ⟨_, rfl⟩
            have HS1 := Lib.hid hS1
            have HO1 : Hid (OwnI wr w.heap.size A2 c2 S1) := Lib.hid (by rw [← hS1]; exact HO2.out)
            rw [hS1] at hl2 ⊢
            have EJ := Lib.hid ej
            clear hS1 ej ejn HO2
            have hE2 := (hr.below hB2).at_ HE.out
            obtain ⟨_, _, hA', _, d0, d1, d2⟩ := hE2
            injection hA' with hA'
            injection hA' with hb' ho' _
            subst hb' ho'
            obtain ⟨w2, hw2⟩ : ∃ w2, wr = w2 := ⟨_, rfl⟩
            rw [hw2] at hB2 d0 d1 d2 HO1 ⊢
            clear hw2
            go_wp2
            go_loopw [6, 11] (fun o i wr => FromR3 w S1 e.s.size o i wr) (fun o i wr => e.s.size - (intOf i).toNat)
            case atStart => exact ⟨0, A2, c2, by omega, by simp, rfl, by simpa using HO1.out, hB2⟩
            case round =>
              obtain ⟨i, A4, c4, hi, rfl, rfl, hO4, hB4⟩ := hrel
              have HO4 := Lib.hid hO4
              clear hO4
              obtain ⟨_, _, hA', _, g0, g1, g2⟩ := (hr.below hB4).at_ HE.out
              injection hA' with hA'
              injection hA' with hb' ho' _
              subst hb' ho'
              have hl4 : (S1 ++ List.replicate i (-1)).length ≤ 9000000 := by rw [List.length_append, List.length_replicate]; omega
              by_cases hlt4 : i < e.s.size
              · go_wp2_with (at_builtin; refine wpList_append_int rfl _ _ rfl wr w.heap.size A4 c4 _ (-1) rfl rfl HO4.out (by omega) hB4.size ?_; intro A5 c5 w5 hO5 hg5)
                have hB5 : Below w.heap.size w w5 := hB4.grown hg5 hB4.size (fun k e => (World.ownsRow.lt HO4.out k e).1)
                go_roundw
                case rel =>
                  refine ⟨i + 1, A5, c5, by omega, ?_, by go_num, ?_, hB5⟩
                  · rw [List.replicate_succ']; simp only [List.length_append, List.length_cons, List.length_nil, List.length_replicate]
                  · rw [List.replicate_succ', ← List.append_assoc]; exact hO5
                case measure => simp [intOf]; omega
              · obtain rfl : i = e.s.size := by omega
                have htb : tb2.size ≤ 9000000 := by
                  have h1 : tb2.data.toList.length = tb2.size := rfl
                  rw [← h1, HT2.out, List.length_append, List.length_replicate, ← HT0.out, ← src_text, HS0.out]
                  omega
                have hadd : ∀ W, Sem.run Try.prog (Op.stringOp .add tb2 e.s) W = .ok (.string (tb2 ++ e.s)) W := fun W => run_string_add_sum _ _ _ (by omega)
                go_wp2
                go_roundw
                case rel =>
                  have hsk := stOf_take HE.out
                  have hsrc := (em_src (sh := st.sh) hfe).1
                  have htx := (em_src (sh := st.sh) hfe).2
                  have hK : srcOf (outK l size (k + 1)) = S1 ++ List.replicate e.s.size (-1) := by
                    rw [outK, if_pos (by omega), hsk, HST.out]
                    simp only [stp]
                    rw [srcOf_append, hsrc, HS0.out, ← HS1.out, EJ.out, List.append_assoc]
                  have hKT : textOf (outK l size (k + 1)) = T0 ++ List.replicate j 46 ++ e.s.data.toList := by
                    rw [outK, if_pos (by omega), hsk, HST.out]
                    simp only [stp]
                    rw [textOf_append, htx, HT0.out, EJN.out, List.append_assoc]
                  refine ⟨k + 1, A4, c4, _, e.t, by omega, by go_num, by rw [hK], rfl, rfl, ?_, ?_, hB4, fun _ => ?_⟩
                  · rw [hKT, ByteArray.data_append, Array.toList_append, HT2.out]
                  · rw [hK]; exact HO4.out
                  · rw [hsk]; rfl
                case measure => simp [intOf]; omega
      · obtain rfl : k = l.length := by omega
        go_wp2
        go_loopw [6, 7, 8] (fun o t a wr => FromR2 w S0 T0 st.fr size o t a wr) (fun o t a wr => (size - intOf a).toNat)
        case atStart => exact ⟨0, A, c, tb, by omega, by simp [rangeI_self], rfl, by simp, by simpa using HT.out, by simpa [rangeI_self] using HO.out, hB⟩
        case round =>
          obtain ⟨j, A2, c2, tb2, hj, rfl, rfl, rfl, hT2, hO2, hB2⟩ := hrel
          have HT2 := Lib.hid hT2
          have HO2 := Lib.hid hO2
          clear hT2 hO2
          have hl2 : (S0 ++ rangeI st.fr (st.fr + j)).length ≤ 7000000 := by rw [List.length_append, rangeI_length]; omega
          by_cases hlt2 : st.fr + (j : Int) < size
          · have htb : tb2.size ≤ 9000000 := by
              have h1 : tb2.data.toList.length = tb2.size := rfl
              rw [← h1, HT2.out, List.length_append, List.length_replicate, ← HT0.out, ← src_text, HS0.out]
              omega
            have hadd : ∀ W, Sem.run Try.prog (Op.stringOp .add tb2 ⟨#[46]⟩) W = .ok (.string (tb2 ++ ⟨#[46]⟩)) W := fun W => run_string_add_sum _ _ _ (by show tb2.size + 1 ≤ _; omega)
            go_wp2_with (at_builtin; refine wpList_append_int rfl _ _ rfl wr w.heap.size A2 c2 _ (st.fr + j) rfl rfl HO2.out (by omega) hB2.size ?_; intro A3 c3 w3 hO3 hg3)
            have hB3 : Below w.heap.size w w3 := hB2.grown hg3 hB2.size (fun k e => (World.ownsRow.lt HO2.out k e).1)
            go_roundw
            case rel =>
              refine ⟨j + 1, A3, c3, _, by omega, ?_, rfl, by go_num, ?_, ?_, hB3⟩
              · rw [show st.fr + ((j + 1 : Nat) : Int) = st.fr + j + 1 by omega, rangeI_snoc (by omega)]; simp only [List.length_append, List.length_cons, List.length_nil]
              · rw [ByteArray.data_append, Array.toList_append, HT2.out, List.append_assoc, List.replicate_succ']
              · rw [show st.fr + ((j + 1 : Nat) : Int) = st.fr + j + 1 by omega, rangeI_snoc (by omega), ← List.append_assoc]; exact hO3
            case measure => simp [intOf]; omega
          · have ej : st.fr + (j : Int) = size := by omega
            have ejn : j = (size - st.fr).toNat := by omega
            have EJN := Lib.hid ejn
            obtain ⟨S1, hS1⟩ : ∃ S1, S0 ++ rangeI st.fr (st.fr + j) = S1 := ⟨_, rfl⟩
            have HS1 := Lib.hid hS1
            have HO1 : Hid (OwnI wr w.heap.size A2 c2 S1) := Lib.hid (by rw [← hS1]; exact HO2.out)
            rw [hS1] at hl2 ⊢
            have EJ := Lib.hid ej
            clear hS1 ej ejn HO2
            go_wp2
            go_roundw
            case rel =>
              have hpc : outK l size (l.length + 1) = pcs l size := by rw [outK, if_neg (by omega)]
              have hst' : stOf l = st := by have := HST.out; rwa [List.take_length] at this
              have hK : srcOf (outK l size (l.length + 1)) = S1 := by
                rw [hpc, pcs, srcOf_append, hst', tail_src.1, HS0.out, ← HS1.out, EJ.out]
              have hKT : textOf (outK l size (l.length + 1)) = T0 ++ List.replicate j 46 := by
                rw [hpc, pcs, textOf_append, hst', tail_src.2, HT0.out, EJN.out]
              refine ⟨l.length + 1, A2, c2, tb2, st.fr + j, by omega, by go_num, by rw [hK], rfl, rfl, ?_, ?_, hB2, fun h => by omega⟩
              · rw [hKT, HT2.out]
              · rw [hK]; exact HO1.out
            case measure => simp [intOf]
    · obtain rfl : k = l.length + 1 := by omega
      have hpc : outK l size (l.length + 1) = pcs l size := by rw [outK, if_neg (by omega)]
      rw [hpc] at hT hO ⊢
      have HT := Lib.hid hT
      have HO := Lib.hid hO
      clear hT hO hpc hav
      go_wp2
      go_ret2
      exact ⟨A, c, tb, rfl, HT.out, own_read HO.out, hB⟩
end Go.Proofs.Ytgfafinpcpiogaa
