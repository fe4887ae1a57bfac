/- The document's Text, Stands and Span. -/
import Derived.Test.YtjnclchbklehgaaTreeRefLeaves
import Derived.Test.YtjnclchbklehgaaTreeSpanMath
import Derived.Deep.QuietTactic
import Derived.BigQuiet
import Derived.Laws.Concat
namespace Go.Proofs.Ytjnclchbklehgaa
open Go.RowKit TreeMath

theorem Tks.below {B : Nat} {w w' : World} {A : Option Addr} {l : List Tr} (h : Tks (lo B) w A l) (hb : Below B w w') : Tks (lo B) w' A l := h.keep (fun _ _ hp => cell_of (hb.block _ hp)) fun _ h => h
theorem Tks.at_ {S : Nat → Prop} {w : World} {A : Option Addr} {l : List Tr} (h : Tks S w A l) {i : Nat} {x : Tr} (hx : l[i]? = some x) : ∃ b off, A = some ⟨b, off, none⟩ ∧ S b ∧ At5 w b (off + i * 5) x := by
  have hl := (List.getElem?_eq_some_iff.1 hx).1
  obtain ⟨b, off, e, hb, hc⟩ := h (by omega)
  exact ⟨b, off, e, hb, hc i x hx⟩

set_option maxRecDepth 100000 in
set_option maxHeartbeats 2000000 in
theorem rtext_any (T : Tr) (w : World) (hT : Tn (lo w.heap.size) w T) (hw : wt T ≤ 5000) :
    Calls Try.prog 16 #[nv T] w fun e w' => e = .returned (.string (tx (lf T))) ∧ Below w.heap.size w w' := by
  have HLV := Lib.hid (rleaves_any T (w.alloc (.cells (ncc T) 29)) ((hT.below (below1 w _)).more (by simp)) hw)
  have hsz : (tx (lf T)).size ≤ 250000 := by have := tx_le T; omega
  have hln : (lf T).length ≤ 5000 := Nat.le_trans (List.length_filter_le _ _) (Nat.le_trans (cn_wt T) hw)
  have HB0 := Lib.hid (below1 w (.cells (ncc T) 29))
  clear hT hw
  obtain ⟨L, hLL⟩ : ∃ L, lf T = L := ⟨_, rfl⟩
  rw [hLL] at HLV hsz hln
  have HLL := Lib.hid hLL
  clear hLL
  go_enter Try.func16, Try.ntmps16
  go_wp2_with (go_at_call 39; refine HLV.out.mono ?_; rintro r w2 ⟨A, c, rfl, h2, hb2⟩)
  have HBW := Lib.hid (HB0.out.trans (hb2.mono (by simp)))
  have H2 := Lib.hid h2
  clear hb2 h2 HLV
  go_wp2
  go_loopw [3, 5] (fun sv i wr => ∃ (j : Nat) (s : ByteArray), i = .int .i64 j ∧ j ≤ L.length ∧ sv = .string s ∧ Hid (s = tx (L.take j)) ∧ Below w2.heap.size w2 wr) (fun _ i _ => L.length + 1 - (intOf i).toNat)
  case atStart => exact ⟨0, ⟨#[]⟩, rfl, Nat.zero_le _, rfl, Lib.hid rfl, Below.refl _ _⟩
  case round =>
    obtain ⟨j, s, rfl, hj, rfl, HS, hB⟩ := hrel
    by_cases hlt : j < L.length
    · obtain ⟨e, he⟩ : ∃ e, L[j]? = some e := ⟨_, List.getElem?_eq_getElem hlt⟩
      obtain ⟨b, off, rfl, hb, c0, c1, c2, c3, c4⟩ := (H2.out.below hB).at_ he
      have hsn : tx (L.take (j + 1)) = s ++ e.g ++ e.t := by rw [List.take_add_one, he, HS.out]; exact tx_snoc _ _
      have hle := tx_pre (List.take_prefix (j + 1) L)
      rw [hsn] at hle
      simp only [ByteArray.size_append] at hle
      have HSN := Lib.hid hsn
      have ha1 : ∀ W, Sem.run Try.prog (Op.stringOp .add s e.g) W = .ok (.string (s ++ e.g)) W := fun W => run_string_add_sum _ _ _ (by omega)
      have ha2 : ∀ W, Sem.run Try.prog (Op.stringOp .add (s ++ e.g) e.t) W = .ok (.string (s ++ e.g ++ e.t)) W := fun W => run_string_add_sum _ _ _ (by rw [ByteArray.size_append]; omega)
      have z1 : (0 : Int) ≤ j := by omega
      have z2 : (j : Int) < L.length := by omega
      clear he hb hsn hle hsz
      go_wp2
      go_quiet (fail)
      go_wp2
      go_roundw
      case rel => exact ⟨j + 1, s ++ e.g ++ e.t, by go_num, by omega, rfl, Lib.hid HSN.out.symm, below_drewN hB _⟩
      case measure => simp [intOf]; omega
    · obtain rfl : j = L.length := by omega
      have hs := HS.out
      rw [List.take_length] at hs
      subst hs
      go_wp2
      go_ret
      exact ⟨by rw [HLL.out]; rfl, HBW.out.trans (hB.mono HBW.out.size)⟩

/-- do leaves stand right, as the document reckons it? -/
def rsb (p : Int) : Int → List Tr → Bool
  | _, [] => true
  | q, x :: xs => decide (wrap64 (x.a - (q + x.g.size)) = p) && rsb p (q + x.g.size + x.t.size) xs
def rsa : Int → List Tr → Int
  | q, [] => q
  | q, x :: xs => rsa (q + x.g.size + x.t.size) xs
theorem rsa_snoc (l : List Tr) (x : Tr) : ∀ q, rsa q (l ++ [x]) = rsa q l + x.g.size + x.t.size := by
  induction l with
  | nil => intro q; rfl
  | cons y ys ih => intro q; exact ih _
theorem rsa_tx (l : List Tr) : ∀ q, rsa q l = q + (tx l).size := by
  induction l with
  | nil => intro q; show q = q + ((0 : Nat) : Int); omega
  | cons y ys ih => intro q; rw [rsa, ih, tx]; simp only [ByteArray.size_append]; omega
theorem rsb_append (p : Int) (l k : List Tr) : ∀ q, rsb p q (l ++ k) = (rsb p q l && rsb p (rsa q l) k) := by
  induction l with
  | nil => intro q; rfl
  | cons y ys ih => intro q; rw [List.cons_append, rsb, rsb, rsa, ih, Bool.and_assoc]

set_option maxRecDepth 100000 in
set_option maxHeartbeats 2000000 in
theorem rstands_any (T : Tr) (p : Int) (w : World) (hT : Tn (lo w.heap.size) w T) (hw : wt T ≤ 5000) :
    Calls Try.prog 17 #[nv T, .int .i64 p] w fun e w' => e = .returned (.bool (rsb p 0 (lf T))) ∧ Below w.heap.size w w' := by
  have HLV := Lib.hid (rleaves_any T (w.alloc (.cells (ncc T) 29)) ((hT.below (below1 w _)).more (by simp)) hw)
  have hsz : (tx (lf T)).size ≤ 250000 := by have := tx_le T; omega
  have hln : (lf T).length ≤ 5000 := Nat.le_trans (List.length_filter_le _ _) (Nat.le_trans (cn_wt T) hw)
  have HB0 := Lib.hid (below1 w (.cells (ncc T) 29))
  clear hT hw
  obtain ⟨L, hLL⟩ : ∃ L, lf T = L := ⟨_, rfl⟩
  rw [hLL] at HLV hsz hln
  have HLL := Lib.hid hLL
  clear hLL
  go_enter Try.func17, Try.ntmps17
  go_wp2_with (go_at_call 39; refine HLV.out.mono ?_; rintro r w2 ⟨A, c, rfl, h2, hb2⟩)
  have HBW := Lib.hid (HB0.out.trans (hb2.mono (by simp)))
  have H2 := Lib.hid h2
  clear hb2 h2 HLV
  go_wp2
  go_loopw [5, 7] (fun qv i wr => ∃ (j : Nat) (q : Int), i = .int .i64 j ∧ j ≤ L.length ∧ qv = .int .i64 q ∧ Hid (q = rsa 0 (L.take j)) ∧ 0 ≤ q ∧ q ≤ 250000 ∧ Hid (rsb p 0 (L.take j) = true) ∧ Below w2.heap.size w2 wr) (fun _ i _ => L.length + 1 - (intOf i).toNat)
  case atStart => exact ⟨0, 0, rfl, Nat.zero_le _, rfl, Lib.hid rfl, by omega, by omega, Lib.hid rfl, Below.refl _ _⟩
  case round =>
    obtain ⟨j, q, rfl, hj, rfl, HQ, y1, y2, HS, hB⟩ := hrel
    by_cases hlt : j < L.length
    · obtain ⟨e, he⟩ : ∃ e, L[j]? = some e := ⟨_, List.getElem?_eq_getElem hlt⟩
      obtain ⟨b, off, rfl, hb, c0, c1, c2, c3, c4⟩ := (H2.out.below hB).at_ he
      have htk : L.take (j + 1) = L.take j ++ [e] := by rw [List.take_add_one, he]; rfl
      have hq2 : rsa 0 (L.take (j + 1)) = q + e.g.size + e.t.size := by rw [htk, rsa_snoc, HQ.out]
      have hle := tx_pre (List.take_prefix (j + 1) L)
      have hle2 := rsa_tx (L.take (j + 1)) 0
      rw [hq2] at hle2
      obtain ⟨v, hv⟩ : ∃ v, wrap64 (e.a - (q + e.g.size)) = v := ⟨_, rfl⟩
      have hb2 : rsb p 0 (L.take (j + 1)) = decide (v = p) := by rw [htk, rsb_append, HS.out, ← HQ.out]; simp [rsb, hv]
      have hst : decide (v = p) = false → rsb p 0 L = false := fun h => by
        rw [← List.take_append_drop (j + 1) L, rsb_append, hb2, h]; rfl
      have HST := Lib.hid hst
      have HB2 := Lib.hid hb2
      have HQ2 := Lib.hid hq2
      have z1 : (0 : Int) ≤ j := by omega
      have z2 : (j : Int) < L.length := by omega
      have z3 : q + (e.g.size : Int) ≤ 250000 := by omega
      have z4 : q + (e.g.size : Int) + e.t.size ≤ 250000 := by omega
      clear he hb htk hq2 hle hle2 hb2 hst hsz
      by_cases hp : v = p
      · have hd : (v != p) = false := by simp [hp]
        have HP := Lib.hid hp
        clear hp
        go_wp2
        go_roundw
        case rel => exact ⟨j + 1, q + e.g.size + e.t.size, by go_num, by omega, by go_num, Lib.hid HQ2.out.symm, by omega, z4, Lib.hid (by rw [HB2.out, HP.out]; simp), hB⟩
        case measure => simp [intOf]; omega
      · have hd : (v != p) = true := by simp [hp]
        have HP := Lib.hid (decide_eq_false hp)
        clear hp
        go_wp2
        go_ret
        exact ⟨ret_bool (by rw [HLL.out, HST.out HP.out]), HBW.out.trans (hB.mono HBW.out.size)⟩
    · obtain rfl : j = L.length := by omega
      have hs := HS.out
      rw [List.take_length] at hs
      have HSS := Lib.hid hs
      clear hs
      go_wp2
      go_ret
      exact ⟨ret_bool (by rw [HLL.out, HSS.out]), HBW.out.trans (hB.mono HBW.out.size)⟩

set_option maxRecDepth 100000 in
set_option maxHeartbeats 2000000 in
theorem rspan_any (T : Tr) (w : World) (hT : Tn (lo w.heap.size) w T) (hw : wt T ≤ 5000) :
    Calls Try.prog 15 #[nv T] w fun e w' => e = .returned (.tuple #[.int .i64 (spf (lf T)), .int .i64 (spt (lf T)), .bool (spo (lf T))]) ∧ Below w.heap.size w w' := by
  have HLV := Lib.hid (rleaves_any T (w.alloc (.cells (ncc T) 29)) ((hT.below (below1 w _)).more (by simp)) hw)
  have HRG : Hid (∀ x ∈ lf T, rng x.a) := Lib.hid fun x hx => (hT.node x (List.mem_filter.1 hx).1).rng
  have HSZ : Hid (∀ x ∈ lf T, (x.t.size : Int) ≤ 250000) := Lib.hid fun x hx => by have := text_le (List.mem_filter.1 hx).1; omega
  have hln : (lf T).length ≤ 5000 := Nat.le_trans (List.length_filter_le _ _) (Nat.le_trans (cn_wt T) hw)
  have HB0 := Lib.hid (below1 w (.cells (ncc T) 29))
  clear hT hw
  obtain ⟨L, hLL⟩ : ∃ L, lf T = L := ⟨_, rfl⟩
  rw [hLL] at HLV hln HRG HSZ
  have HLL := Lib.hid hLL
  clear hLL
  go_enter Try.func15, Try.ntmps15
  go_wp2_with (go_at_call 39; refine HLV.out.mono ?_; rintro r w2 ⟨A, c, rfl, h2, hb2⟩; refine Stay.out ?_)
  refine Stay.mk ?_
  have HBW := Lib.hid (HB0.out.trans (hb2.mono (by simp)))
  have H2 := Lib.hid h2
  clear hb2 h2 HLV
  by_cases hl0 : L.length = 0
  · have hs : spf L = 0 ∧ spt L = 0 ∧ spo L = false := by rw [List.eq_nil_of_length_eq_zero hl0]; exact ⟨rfl, rfl, rfl⟩
    have HS := Lib.hid hs
    clear hs
    go_wp2
    refine bodyPost_ret (v := .tuple #[.int .i64 0, .int .i64 0, .bool false]) (by simp [results, Try.results15, go_sem]) rfl ⟨?_, HBW.out⟩
    rw [HLL.out, HS.out.1, HS.out.2.1, HS.out.2.2]
  · have hl1 : 0 < L.length := by omega
    clear hl0
    have he : L[0]? = some (L[0]) := List.getElem?_eq_getElem hl1
    have hz : L[L.length - 1]? = some (L[L.length - 1]) := List.getElem?_eq_getElem (by omega)
    have hsf : spf L = (L[0]).a := by unfold spf; rw [List.head?_eq_getElem?, he]; rfl
    have hst : spt L = wrap64 ((L[L.length - 1]).a + (L[L.length - 1]).t.size) := by unfold spt; rw [List.getLast?_eq_getElem?, hz]; rfl
    have hso : spo L = true := by unfold spo; cases L with | nil => simp at hl1 | cons => rfl
    have r1 := HRG.out _ (List.mem_of_getElem? hz)
    have r2 := HSZ.out _ (List.mem_of_getElem? hz)
    unfold rng at r1
    obtain ⟨r3, r4⟩ := r1
    generalize L[0] = e at he hsf
    generalize L[L.length - 1] = z at hz hst r2 r3 r4
    obtain ⟨b, off, rfl, hb, c0, c1, c2, c3, c4⟩ := H2.out.at_ he
    obtain ⟨b', off', hA, hb', d0, d1, d2, d3, d4⟩ := H2.out.at_ hz
    injection hA with hA
    injection hA with hA1 hA2
    subst hA1 hA2
    obtain ⟨v, hv⟩ : ∃ v, wrap64 (z.a + z.t.size) = v := ⟨_, rfl⟩
    rw [hv] at hst
    have HS := Lib.hid (And.intro hsf (And.intro hst hso))
    obtain ⟨q, hq⟩ : ∃ q, L.length - 1 = q := ⟨_, rfl⟩
    have hqi : (L.length : Int) - 1 = q := by omega
    rw [hq] at d0 d1 d2 d3 d4
    have hq1 : (q : Int) < L.length := by omega
    have hq2 : (0 : Int) ≤ q := by omega
    have hq3 : (0 : Int) < L.length := by omega
    have hq4 : ((L.length : Int) == 0) = false := by rw [beq_eq_false_iff_ne]; omega
    simp only [Nat.zero_mul, Nat.add_zero] at c0 c1 c2 c3 c4
    have HB2 := Lib.hid (below1 w2 (.cells (ncc z) 29))
    clear he hz hb' hsf hst hso hq
    go_wp2
    go_quiet (fail)
    go_wp2
    refine bodyPost_ret (v := .tuple #[.int .i64 e.a, .int .i64 v, .bool true]) (by simp [results, Try.results15, go_sem, hv]) rfl ⟨?_, below_drewN (HBW.out.trans (HB2.out.mono HBW.out.size)) _⟩
    rw [HLL.out, HS.out.1, HS.out.2.1, HS.out.2.2]
end Go.Proofs.Ytjnclchbklehgaa
