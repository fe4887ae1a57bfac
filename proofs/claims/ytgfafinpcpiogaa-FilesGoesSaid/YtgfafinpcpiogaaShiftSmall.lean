/- Spans as the document has it, what is too large, the fixed fact. -/
import Derived.Test.YtgfafinpcpiogaaShiftRef
import Derived.Test.YtgfafinpcpiogaaShiftCame
import Derived.Test.YtgfafinpcpiogaaShiftSpans
import Derived.Deep.RegionHeld3
namespace Go.Proofs.Ytgfafinpcpiogaa
open Go.RowKit EditMath ShiftMath

def RsV (L : List (Int × Int)) (w : World) (e : Ending) (w' : World) : Prop := ∃ A c, e = .returned (.slice A L.length c) ∧ Rdc w' w'.heap.size A (scells L) ∧ Below w.heap.size w w'
def OwnS (w : World) (base : Nat) (A : Option Addr) (c : Nat) (L : List (Int × Int)) : Prop := w.ownsRow base 39 2 (.slice A L.length c) L.length (scells L)

theorem wpList_append_sp {ops : Array Oper} {rest : List Oper} {o : Oper} {a : Act} {Q : Exit → Act → World → Prop} (hgd : o.guard = none) (s x : Operand)
    (ho : o.op = .call { callee := .builtin .append, args := #[s, x], argTypes := #[31, 31] }) (W : World) (base : Nat) (A : Option Addr) (c : Nat) (L : List (Int × Int)) (y : Int × Int)
    (hs : a.eval s = .slice A L.length c) (hx : a.eval x = .slice (some ⟨W.heap.size, 0, none⟩) 1 1) (hown : OwnS W base A c L) (hn : L.length ≤ 20000) (hbase : base ≤ W.heap.size)
    (h : ∀ A' c' w', OwnS w' base A' c' (L ++ [y]) → W.grownBy w' (Value.slice A L.length c).ownBlock → wpList Try.prog ops Q rest (a.put o.dst (.slice A' (L ++ [y]).length c')) w') :
    wpList Try.prog ops Q (o :: rest) a (W.alloc (.cells #[.int .i64 y.1, .int .i64 y.2] 39)) := by
  obtain ⟨i0, hi, hz0, hz1, hz2⟩ := info_parts info_span
  refine wpList_append_own_at _ hgd s x 31 ho base 39 i0 _ 2 16 Try.underlying31 hi hz0 hz1 hz2 rfl (by decide) _ _ _ hs (World.ownsRow.alloc hown _) ⟨W.heap.size, 0, none⟩ 1 1 [.int .i64 y.1, .int .i64 y.2] hx rfl
    (World.news_of_block (cs := #[.int .i64 y.1, .int .i64 y.2]) (World.alloc_heap_new W _)) (by intro u hu; simp at hu; rcases hu with rfl | rfl <;> rfl) (by unfold maxLen; omega) (by omega) (by simp; omega) ?_
  intro v' w' hown' hgrow _ _
  obtain ⟨A', c', rfl⟩ := own_slice hown'
  have e1 : L.length + 1 = (L ++ [y]).length := by simp
  rw [e1, ← scells_snoc] at hown'
  have := h A' c' w' hown' ((World.grownBy_alloc W _ _).trans hgrow)
  rwa [← e1] at this

def RsR (w : World) (l : List Ed) (v i : Value) (wr : World) : Prop := ∃ (k : Nat) (A : Option Addr) (c : Nat), k ≤ l.length ∧ i = .int .i64 (k : Int) ∧ v = .slice A (((pld l).take k).map spI).length c ∧ Below w.heap.size w wr ∧ OwnS wr w.heap.size A c (((pld l).take k).map spI)

set_option maxRecDepth 100000 in
set_option maxHeartbeats 2000000 in
theorem refSpans_any (A : Option Addr) (c : Nat) (l : List Ed) (w : World) (hl : l.length ≤ 10000) (hc : l.length ≤ c) (hr : Eds w w.heap.size A l) (hs : Small l) :
    Calls Try.prog 22 #[.slice A l.length c] w (RsV ((pld l).map spI) w) := by
  have HS := Lib.hid hs
  clear hs
  go_enter Try.func22, Try.ntmps22
  go_wp2
  go_loopw [3, 4] (fun v i wr => RsR w l v i wr) (fun v i wr => l.length - (intOf i).toNat)
  case atStart => exact ⟨0, none, 0, Nat.zero_le _, rfl, rfl, Below.refl _ _, World.ownsRow_nil _ _ _ _⟩
  case round =>
    obtain ⟨k, A', c', hk, rfl, rfl, hB, hown⟩ := hrel
    by_cases hlt : k < l.length
    · have he : l[k]? = some l[k] := List.getElem?_eq_getElem hlt
      generalize l[k] = e at he
      have HE := Lib.hid he
      have z1 : (0 : Int) ≤ k := by omega
      have z2 : (k : Int) < l.length := by omega
      have z3 : (k : Int) ≤ c := by omega
      obtain ⟨e0, e1, e2, e3, e4, e5, e6⟩ := HS.out k e he
      have hwrap : wrap64 (gr (l.take k)) = gr (l.take k) := IntWalk.wrap64_in _ (by omega)
      have hlk : (l.take k).length = k := by rw [List.length_take]; omega
      have HGR : Hid (∀ W, Below w.heap.size w W → Calls Try.prog 55 #[.slice A k c] W fun r w' => r = .returned (.int .i64 (gr (l.take k))) ∧ Below W.heap.size W w') :=
        Lib.hid fun W hW => by
          have := refGrow_any A c (l.take k) W (by omega) ((hr.after hW).take k)
          rw [hwrap, hlk] at this
          exact this
      obtain ⟨b, off, rfl, hb, c0, c1, c2⟩ := (hr.below hB).at_ he
      have hbb : b < wr.heap.size := Nat.lt_of_lt_of_le hb hB.size
      have HX : Hid ((pld l).take (k + 1) = (pld l).take k ++ [(e, gr (l.take k))]) := Lib.hid (by rw [List.take_add_one, pld_mk he]; rfl)
      have hml : (((pld l).take k).map spI).length ≤ 20000 := by rw [List.length_map, List.length_take]; omega
      clear he hr hwrap hlk
      generalize hgg : gr (l.take k) = g at *
      generalize hLL : ((pld l).take k).map spI = LL at *
      have HLL := Lib.hid hLL
      clear hgg hLL
      have q1 : IntKind.i64.wrap (e.f + g) = e.f + g := IntWalk.i64_in _ (by omega)
      have HO := Lib.hid hown
      clear hown
      go_wp2
      go_region_held3 (fun w' => w'.cell? ⟨b, off + k * 3, none⟩ = some (.int .i64 e.f))
        (first
          | go_keep
          | (rw [hb2.cell (p := ⟨b, off + k * 3, none⟩) (by simp; omega)]; assumption))
        ((go_at_call 55; refine (HGR.out _ (by first | exact hB.drew | exact hB)).mono ?_; rintro r w2 ⟨rfl, hb2⟩))
      have hB2 : Below w.heap.size w w2 := hB.drew.trans (hb2.mono hB.size)
      have hown2 : OwnS w2 w.heap.size A' c' LL := own_below (w := wr.drew) HO.out hb2
      have C2 := (hb2.cell (p := ⟨b, off + k * 3 + 2, none⟩) hbb).trans c2
      have hs2 := hB2.size
      have HO2 := Lib.hid hown2
      clear c0 c1 c2 HGR HO hb2 q1 hown2
      go_wp2_with (at_builtin; refine wpList_append_sp rfl _ _ rfl w2 w.heap.size A' c' LL (e.f + g, e.f + g + e.s.size) rfl rfl HO2.out hml hs2 ?_; intro A3 c3 w3 hO3 hg3)
      have hB3 : Below w.heap.size w w3 := hB2.grown hg3 hs2 (fun k e => (World.ownsRow.lt HO2.out k e).1)
      have HO3 := Lib.hid hO3
      clear hO3
      go_wp2
      go_roundw
      case rel =>
        have hXX : ((pld l).take (k + 1)).map spI = LL ++ [(e.f + g, e.f + g + e.s.size)] := by rw [HX.out, List.map_append, HLL.out]; rfl
        refine ⟨k + 1, A3, c3, by omega, by go_num, ?_, hB3, ?_⟩
        · rw [hXX, List.length_append]; rfl
        · rw [hXX]; exact HO3.out
      case measure => simp [intOf]; omega
    · obtain rfl : k = l.length := by omega
      have e : (pld l).take l.length = pld l := List.take_of_length_le (by rw [pld_length]; omega)
      rw [e] at hown ⊢
      have HO := Lib.hid hown
      clear hown e
      go_wp2
      go_ret
      exact ⟨A', c', rfl, own_read HO.out, hB⟩

def LargeV3 (size : Int) (l : List Ed) (w : World) (e : Ending) (w' : World) : Prop :=
  (e = .returned (.bool true) ∨ (e = .returned (.bool false) ∧ l.length ≤ 31 ∧ tx l ≤ 500 ∧ size ≤ 500)) ∧ Below w.heap.size w w'

set_option maxRecDepth 100000 in
set_option maxHeartbeats 1600000 in
theorem large3_any (size : Int) (A : Option Addr) (c : Nat) (l : List Ed) (hes : ∀ (i : Nat) (e : Ed), l[i]? = some e → (e.s.size : Int) ≤ 140737488355328) (_hl : (l.length : Int) ≤ 9223372036854775807) (w : World) (hr : Eds w w.heap.size A l) :
    Calls Try.prog 13 #[.int .i64 size, .slice A l.length c] w (LargeV3 size l w) := by
  have HS := Lib.hid hes
  clear hes
  go_enter Try.func13, Try.ntmps13
  go_wp2
  go_loopw [5, 6, 7, 10] (fun n _ _ i wr => ∃ k : Nat, k ≤ l.length ∧ k ≤ 31 ∧ i = .int .i64 (k : Int) ∧ Below w.heap.size w wr ∧ n = .int .i64 (tx (l.take k)) ∧ tx (l.take k) ≤ 500) (fun _ _ _ i _ => l.length + 1 - (intOf i).toNat)
  case atStart => exact ⟨0, Nat.zero_le _, by omega, rfl, Below.refl _ _, by simp [tx], by simp [tx]⟩
  case round =>
    obtain ⟨k, hk, hk41, rfl, hB, rfl, hz⟩ := hrel
    have hn0 := tx_nonneg (l.take k)
    by_cases hlt : k < l.length
    · have he : l[k]? = some l[k] := List.getElem?_eq_getElem hlt
      generalize l[k] = e at he
      have z2 : (k : Int) < l.length := by omega
      obtain ⟨b, off, rfl, hb, c0, c1, c2⟩ := (hr.below hB).at_ he
      have HG := Lib.hid (tx_snoc he)
      have hle := HS.out k e he
      have hbb : b < wr.heap.size := Nat.lt_of_lt_of_le hb hB.size
      have hne : b ≠ wr.heap.size := by omega
      generalize tx (l.take k) = g at HG hz hn0 ⊢
      clear he hr
      cases x1 : decide (30 < (k : Int)) with
      | true =>
        go_wp2
        go_ret
        exact ⟨.inl rfl, hB.alloc hB.size _⟩
      | false =>
        have hk40 : k < 31 := by simp at x1; omega
        cases x2 : decide (500 < g + (e.s.size : Int)) with
        | true =>
          go_wp2
          go_ret
          exact ⟨.inl rfl, hB.alloc hB.size _⟩
        | false =>
          have h70 : g + (e.s.size : Int) ≤ 500 := by simp only [decide_eq_false_iff_not] at x2; omega
          go_wp2
          go_roundw
          case rel => exact ⟨k + 1, by omega, by omega, by go_num, hB.alloc hB.size _, by rw [HG.out], by rw [HG.out]; omega⟩
          case measure => simp [intOf]; omega
    · obtain rfl : k = l.length := by omega
      rw [List.take_length] at hn0 hz ⊢
      clear hr
      cases x2 : decide (500 < size) with
      | true =>
        go_wp2
        go_ret
        exact ⟨.inl rfl, hB⟩
      | false =>
        go_wp2
        go_ret
        exact ⟨.inr ⟨rfl, hk41, hz, by simp only [decide_eq_false_iff_not] at x2; omega⟩, hB⟩

end Go.Proofs.Ytgfafinpcpiogaa
