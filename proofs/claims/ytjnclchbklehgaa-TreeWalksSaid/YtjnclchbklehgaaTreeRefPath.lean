/- The document's Path. -/
import Derived.Test.YtjnclchbklehgaaTreePathAll
import Derived.Test.YtjnclchbklehgaaTreeRefAsk
namespace Go.Proofs.Ytjnclchbklehgaa
open Go.RowKit Go.Shelf TreeMath

/-- the kinds from one node down -/
def rpt (a : Int) (T : Tr) : List Int := if hasB a T = true then pthT a T else []
theorem rpt_pth (a : Int) (T : Tr) : pth a [T] = rpt a T := by
  unfold pth rpt
  cases h : hasB a T <;> simp [h]
theorem rpt_miss {a : Int} {T : Tr} (h : hasB a T = false) : rpt a T = [] := by unfold rpt; rw [h]; rfl
theorem rpt_hit {a : Int} {T : Tr} (h : hasB a T = true) : rpt a T = T.k :: pth a T.kids := by unfold rpt; rw [if_pos h, pthT_eq]
theorem pth_none {a : Int} {l : List Tr} (h : ∀ (i : Nat) (x : Tr), l[i]? = some x → hasB a x = false) : pth a l = [] := pth_miss (idxT_miss h)
theorem pth_first {a : Int} {l : List Tr} {k : Nat} {x : Tr} (hx : l[k]? = some x) (hp : hasB a x = true) (h : ∀ (i : Nat) (x : Tr), i < k → l[i]? = some x → hasB a x = false) : pth a l = rpt a x := by
  rw [rpt_hit hp]; exact pth_hit hx (idxT_hit hx hp h)

/-- a row of ints of the call's own -/
def OwnJ (w : World) (base : Nat) (A : Option Addr) (c : Nat) (L : List Int) : Prop := w.ownsRow base 3 1 (.slice A L.length c) L.length (kcells L)
theorem info_jint : (Try.prog.info? 3).map (fun i => (i.zero, i.size, i.bytes)) = some (some (.int .i64 0), 1, 8) := by kernel_rfl
theorem kcells_length (L : List Int) : (kcells L).length = L.length := by simp [kcells]
theorem ownj_less {w : World} {B B' : Nat} {A : Option Addr} {c : Nat} {L : List Int} (h : OwnJ w B A c L) (hB : B' ≤ B) : OwnJ w B' A c L := by
  refine ⟨h.1, ?_⟩
  rcases h.2 with h2 | ⟨g, cap, cur, hv, hb, r⟩
  · exact .inl h2
  · exact .inr ⟨g, cap, cur, hv, Nat.le_trans hB hb, r⟩
theorem ownj_below {w w' : World} {B : Nat} {A : Option Addr} {c : Nat} {L : List Int} (h : OwnJ w B A c L) (hb' : Below w.heap.size w w') : OwnJ w' B A c L := by
  refine ⟨h.1, ?_⟩
  rcases h.2 with h2 | ⟨g, cap, cur, hv, hb, hg, r⟩
  · exact .inl h2
  · exact .inr ⟨g, cap, cur, hv, hb, (hb'.block g (Array.getElem?_eq_some_iff.1 hg).1).trans hg, r⟩
theorem ownj_one {w : World} {B : Nat} (hB : B ≤ w.heap.size) (k : Int) : OwnJ (w.alloc (.cells #[.int .i64 k] 3)) B (some ⟨w.heap.size, 0, none⟩) 1 [k] :=
  ⟨rfl, .inr ⟨w.heap.size, 1, #[.int .i64 k], rfl, hB, World.alloc_heap_new w _, Nat.le_refl _, by decide, rfl, rfl⟩⟩

/-- a row of ints appended to one -/
theorem wpList_append_ints {ops : Array Oper} {rest : List Oper} {o : Oper} {a : Act} {Q : Exit → Act → World → Prop} (hgd : o.guard = none) (s x : Operand)
    (ho : o.op = .call { callee := .builtin .append, args := #[s, x], argTypes := #[44, 44] }) (W : World) (base B : Nat) (A A2 : Option Addr) (c c2 : Nat) (L M : List Int)
    (hs : a.eval s = .slice A L.length c) (hx : a.eval x = .slice A2 M.length c2) (hown : OwnJ W base A c L) (hown2 : OwnJ W B A2 c2 M) (hpos : 0 < M.length) (hn : L.length + M.length ≤ 10000000) (hbase : base ≤ W.heap.size)
    (h : ∀ A' c' w', OwnJ w' base A' c' (L ++ M) → W.grownBy w' (Value.slice A L.length c).ownBlock → wpList Try.prog ops Q rest (a.put o.dst (.slice A' (L ++ M).length c')) w') :
    wpList Try.prog ops Q (o :: rest) a W := by
  obtain ⟨i0, hi, hz0, hz1, hz2⟩ := info_parts info_jint
  obtain ⟨g, rfl⟩ : ∃ g, A2 = some ⟨g, 0, none⟩ := by
    rcases hown2.2 with ⟨_, hn⟩ | ⟨g, cap, cur, hv, _⟩
    · omega
    · injection hv with hA; exact ⟨g, hA⟩
  refine wpList_append_own _ hgd s x 44 ho base 3 i0 _ 1 8 Try.underlying44 hi hz0 hz1 hz2 rfl (by decide) _ _ _ hs hown ⟨g, 0, none⟩ M.length c2 (kcells M) hx (by simp [kcells]) (World.ownsRow.cells hown2 rfl) (by intro u hu; simp [kcells] at hu; obtain ⟨y, _, rfl⟩ := hu; rfl) (by unfold maxLen; omega) (by omega) hbase ?_
  intro v' w' hown' hgrow _
  obtain ⟨A', c', rfl⟩ : ∃ A' c', v' = .slice A' (L.length + M.length) c' := by
    rcases hown'.2 with ⟨hv, hn⟩ | ⟨g, cap, cur, hv, _⟩
    · omega
    · exact ⟨_, _, hv⟩
  have e1 : L.length + M.length = (L ++ M).length := by simp
  have e2 : kcells L ++ kcells M = kcells (L ++ M) := by simp [kcells]
  rw [e1, e2] at hown'
  have := h A' c' w' hown' hgrow
  rwa [← e1] at this

/-- what the document's Path answers -/
def RpV (L : List Int) (w : World) (e : Ending) (w' : World) : Prop := ∃ A c, e = .returned (.slice A L.length c) ∧ OwnJ w' w.heap.size A c L ∧ Below w.heap.size w w'

theorem pthT_len (a : Int) (T : Tr) : (pthT a T).length ≤ wt T := by
  induction T using Tr.ind with | _ k g t a' A c kids ih =>
  rw [pthT_eq]
  simp only [List.length_cons]
  unfold pth
  cases hf : kids.find? (hasB a) with
  | none => have := kids_le (T := ⟨k, g, t, a', A, c, kids⟩); simp only at this; simp; omega
  | some x =>
    have hm := List.mem_of_find?_eq_some hf
    have h1 := ih x hm
    have h2 := wt_kid (T := ⟨k, g, t, a', A, c, kids⟩) hm
    simp; omega
theorem rpt_len (a : Int) (T : Tr) : (rpt a T).length ≤ wt T := by
  unfold rpt
  split
  · exact pthT_len a T
  · simp

abbrev rnb (T : Tr) : Obj := .cells (ncc T) 29 (0, 0)
set_option maxRecDepth 100000 in
set_option maxHeartbeats 1000000 in
theorem rpath_any (a : Int) (T : Tr) : ∀ (w : World), wt T ≤ 5000 → Tn (lo w.heap.size) w T → Calls Try.prog 19 #[nv T, .int .i64 a] w (RpV (rpt a T) w) := by
  induction T using Tr.ind with | _ k g t a' A c kids ih =>
  intro w hw hT
  have hkl : kids.length < 5000 := by have := kids_le (T := ⟨k, g, t, a', A, c, kids⟩); simp only at this; omega
  have HT := Lib.hid hT
  have HB := Lib.hid (below1 w (rnb ⟨k, g, t, a', A, c, kids⟩))
  have HS := Lib.hid (rspan_any ⟨k, g, t, a', A, c, kids⟩ (w.alloc (rnb ⟨k, g, t, a', A, c, kids⟩)) ((hT.below HB.out).more HB.out.size) hw)
  have HI : Hid (∀ x ∈ kids, ∀ W, Below w.heap.size w W → Calls Try.prog 19 #[nv x, .int .i64 a] W (RpV (rpt a x) W)) := Lib.hid fun x hx W hb =>
    ih x hx W (by have := wt_kid (T := ⟨k, g, t, a', A, c, kids⟩) hx; omega) (((hT.kid hx).below hb).more hb.size)
  have HLN : Hid (∀ x ∈ kids, (rpt a x).length ≤ 5000) := Lib.hid fun x hx => Nat.le_trans (rpt_len a x) (by have := wt_kid (T := ⟨k, g, t, a', A, c, kids⟩) hx; omega)
  have HM : Hid (hasB a ⟨k, g, t, a', A, c, kids⟩ = false → rpt a ⟨k, g, t, a', A, c, kids⟩ = []) := Lib.hid rpt_miss
  have HH : Hid (hasB a ⟨k, g, t, a', A, c, kids⟩ = true → rpt a ⟨k, g, t, a', A, c, kids⟩ = k :: pth a kids) := Lib.hid rpt_hit
  unfold hasB at HM HH
  clear ih hw hT
  generalize rpt a ⟨k, g, t, a', A, c, kids⟩ = R at HM HH ⊢
  generalize spf (lf ⟨k, g, t, a', A, c, kids⟩) = F at HS HM HH
  generalize spt (lf ⟨k, g, t, a', A, c, kids⟩) = E at HS HM HH
  generalize spo (lf ⟨k, g, t, a', A, c, kids⟩) = O at HS HM HH
  go_enter Try.func19, Try.ntmps19
  go_wp2_with fail
  refine HS.out.mono ?_
  rintro e w1 ⟨rfl, hb1⟩
  have hc1 := box5 hb1
  have HB1 := Lib.hid (HB.out.trans (hb1.mono HB.out.size))
  clear hb1 HS
  cases O with
  | false =>
    obtain rfl := HM.out (by simp)
    go_wp2
    go_ret
    exact ⟨none, 0, rfl, World.ownsRow_nil _ _ _ _, HB1.out⟩
  | true =>
    by_cases h1 : a < F
    · obtain rfl := HM.out (by simp; omega)
      go_wp2
      go_ret
      exact ⟨none, 0, rfl, World.ownsRow_nil _ _ _ _, HB1.out⟩
    · by_cases h2 : E ≤ a
      · obtain rfl := HM.out (by simp; omega)
        go_wp2
        go_ret
        exact ⟨none, 0, rfl, World.ownsRow_nil _ _ _ _, HB1.out⟩
      · obtain rfl := HH.out (by simp; omega)
        clear HM HH
        have HO1 := Lib.hid (ownj_one HB1.out.size k)
        have HW2 := Lib.hid (below1 w1 (.cells #[.int .i64 k] 3))
        go_wp2
        go_loopw [9] (fun i wr => ∃ (j : Nat), i = .int .i64 j ∧ j ≤ kids.length ∧ Hid (∀ (i : Nat) (x : Tr), i < j → kids[i]? = some x → hasB a x = false) ∧ Below (w1.alloc (.cells #[.int .i64 k] 3)).heap.size (w1.alloc (.cells #[.int .i64 k] 3)) wr) (fun i _ => kids.length + 1 - (intOf i).toNat)
        case atStart => exact ⟨0, rfl, Nat.zero_le _, Lib.hid (fun i x hi _ => absurd hi (Nat.not_lt_zero _)), Below.refl _ _⟩
        case round =>
          obtain ⟨j, rfl, hj, HJ, hWr⟩ := hrel
          have hB12 : Below w1.heap.size w1 wr := HW2.out.trans (hWr.mono HW2.out.size)
          have q4 := (cell_of (i := 4) (hB12.block w.heap.size hc1.2.2.2.2.2)).trans hc1.2.2.2.2.1
          have HBr := Lib.hid (HB1.out.trans (hB12.mono HB1.out.size))
          have HOr := Lib.hid (ownj_below HO1.out hWr)
          have HWr := Lib.hid hWr
          clear hWr hB12
          by_cases hlt : j < kids.length
          · obtain ⟨x, hx⟩ : ∃ x, kids[j]? = some x := ⟨_, List.getElem?_eq_getElem hlt⟩
            have hmem := List.mem_of_getElem? hx
            obtain ⟨b, off, rfl, hb, d0, d1, d2, d3, d4⟩ := (HT.out.below HBr.out).at_ hx
            have HC := Lib.hid (HI.out x hmem wr HBr.out)
            have HX := Lib.hid hx
            have HL5 := Lib.hid (HLN.out x hmem)
            have z1 : (0 : Int) ≤ j := by omega
            have z2 : (j : Int) < kids.length := by omega
            clear hx hmem hb
            cases hp : hasB a x with
            | false =>
              have HP := Lib.hid hp
              rw [rpt_miss hp] at HC
              clear hp
              go_wp2_with (go_at_call 19; refine HC.out.mono ?_; rintro r w3 ⟨A3, c3, rfl, hO3, hb3⟩)
              go_wp2
              go_roundw
              case rel =>
                refine ⟨j + 1, by go_num, by omega, Lib.hid (fun i y hi hy => ?_), HWr.out.trans (hb3.mono HWr.out.size)⟩
                by_cases e : i = j
                · subst e; rw [HX.out] at hy; injection hy with hy; subst hy; exact HP.out
                · exact HJ.out i y (by omega) hy
              case measure => simp [intOf]; omega
            | true =>
              have hpf := pth_first HX.out hp HJ.out
              have hpos : 0 < (rpt a x).length := by rw [rpt_hit hp]; simp
              generalize rpt a x = M at HC hpos HL5 hpf
              have hl5 := HL5.out
              have HPF := Lib.hid hpf
              clear hp hpf
              go_wp2_with (first | (go_at_call 19; refine HC.out.mono ?_; rintro r w3 ⟨A3, c3, rfl, hO3, hb3⟩) | (at_builtin; refine wpList_append_ints rfl _ _ rfl w3 w.heap.size wr.heap.size (some ⟨w1.heap.size, 0, none⟩) A3 1 c3 [k] M rfl rfl (ownj_below HOr.out hb3) hO3 hpos (by simp; omega) (Nat.le_trans HBr.out.size hb3.size) ?_; intro A4 c4 w4 hO4 hg4))
              go_ret
              have hb4 := HBr.out.trans (hb3.mono HBr.out.size)
              exact ⟨A4, c4, by rw [HPF.out]; rfl, by rw [HPF.out]; exact hO4, hb4.grown hg4 hb4.size (fun k e => (World.ownsRow.lt HOr.out k e).1)⟩
          · obtain rfl : j = kids.length := by omega
            have HPN := Lib.hid (pth_none (a := a) fun i x hx => HJ.out i x (List.getElem?_eq_some_iff.1 hx).1 hx)
            go_wp2
            go_ret
            exact ⟨_, 1, by rw [HPN.out]; rfl, by rw [HPN.out]; exact HOr.out, HBr.out⟩
end Go.Proofs.Ytjnclchbklehgaa
