/- The document's list of tokens; two lists of tokens that read alike are the same; the chapter's example. -/
import Derived.Test.YtjmdnjflcifpmaaDoorLexRefNext
import Derived.BigQuiet
import Derived.Deep.QuietTactic
import Derived.Laws.StructEq
namespace Go.Proofs.YtjmdnjflcifpmaaDoor
open Go.RowKit Go.Shelf SignMath

attribute [local go_sem] Oper.semAt_some

/-- the walk stops here -/
structure Stay (p : Prop) : Prop where
  out : p
theorem Stay.in_ {p : Prop} (h : p) : Stay p := ⟨h⟩

/-- a slice's tokens, one by one -/
theorem tok_at {w : World} {B : Nat} {A : Option Addr} {l : List Tk} {k : Nat} {t : Tk} (h : Rdc w B A (tcells l)) (hk : l[k]? = some t) : ∃ b off, A = some ⟨b, off, none⟩ ∧ b < B ∧
    w.cell? ⟨b, off + k * 3, none⟩ = some (.int .i64 (t.k : Nat)) ∧ w.cell? ⟨b, off + k * 3 + 1, none⟩ = some (.int .i64 (t.a : Nat)) ∧ w.cell? ⟨b, off + k * 3 + 2, none⟩ = some (.int .i64 (t.z : Nat)) := by
  have hl := (List.getElem?_eq_some_iff.1 hk).1
  obtain ⟨b, off, rfl, hb, hc⟩ := h.at_ (by rw [tcells_length]; omega)
  obtain ⟨h0, h1, h2⟩ := tcells_at l k t hk
  exact ⟨b, off, rfl, hb, hc _ _ h0, by rw [Nat.add_assoc]; exact hc _ _ h1, by rw [Nat.add_assoc]; exact hc _ _ h2⟩

theorem info_rtoken : (Tryd.prog.info? 33).map (fun i => (i.zero, i.size, i.bytes)) = some (some (.agg #[.int .i64 0, .int .i64 0, .int .i64 0]), 3, 24) := by kernel_rfl

set_option maxRecDepth 100000 in
set_option maxHeartbeats 2000000 in
theorem refList_in (s : ByteArray) (hs : s.size ≤ 10000) (w : World) :
    CallsIn Fence.wide 8 Tryd.prog 9 #[.string s] w (CoV (tk (bs s) 0) w) := by
  have HZ := Lib.hid (bs_size s)
  refine callsIn_of_wp Tryd.func9 rfl trivial ?_ rfl
  simp only [Tryd.ntmps9, List.size_toArray, List.length_cons, List.length_nil, Nat.reduceAdd, Nat.reduceSub, Array.replicate_succ, Array.replicate_zero, List.push_toArray, List.append_toArray, List.nil_append, List.cons_append]
  gi_wp2
  gi_loopw [3, 4, 5] (fun o i _ wr => ∃ (k : Nat) (pre : List Tk), i = .int .i64 k ∧ k ≤ s.size ∧ Hid (pre.length ≤ k ∧ pre ++ tk (bs s) k = tk (bs s) 0) ∧ Below w.heap.size w wr ∧ wr.ownsRow w.heap.size 33 3 o pre.length (tcells pre)) (fun _ i _ _ => s.size - (intOf i).toNat)
  case atStart => exact ⟨0, [], rfl, Nat.zero_le _, Lib.hid ⟨Nat.le_refl _, rfl⟩, Below.refl _ _, World.ownsRow_nil _ _ _ _⟩
  case round =>
    obtain ⟨k, pre, rfl, hk, HT, hB, hown⟩ := hrel
    obtain ⟨A0, c0, rfl⟩ := own_slice hown
    by_cases hlt : k < s.size
    · have HF := Lib.hid (next_any s hs k hlt wr)
      have hsz := ft_size (l := (bs s).drop k) (by intro e; have := congrArg List.length e; rw [List.length_drop, bs_size] at this; simp at this; omega)
      rw [List.length_drop, bs_size] at hsz
      have HS := Lib.hid (tk_step (l := bs s) (at_ := k) (by rw [bs_size]; exact hlt))
      generalize ft ((bs s).drop k) = x at HF hsz HS
      obtain ⟨q, z⟩ := x
      dsimp only at hsz HS HF
      have hpl : pre.length ≤ k := HT.out.1
      have HT2 : Hid ((pre ++ [⟨q, k, k + z⟩]) ++ tk (bs s) (k + z) = tk (bs s) 0) := Lib.hid (by rw [← HT.out.2, HS.out]; simp)
      simp only [tkv, Int.natCast_add] at HF
      gi_wp2
      refine ⟨trivial, ?_⟩
      gi_at_call 21
      refine (callsIn_wide.2 HF.out).mono ?_
      rintro e w1 ⟨rfl, hb1⟩
      have hown1 := own_below hown hb1
      have hB1 : Below w.heap.size w w1 := hB.trans (hb1.mono hB.size)
      have hlt1 := fun j hj => World.ownsRow.lt hown1 j hj
      clear hown hb1 hB
      gi_wp2_with (gi_at_builtin; refine Stay.out ?_)
      refine Stay.in_ ?_
      refine wpListIn_append_at ((w1.alloc _).alloc _) rfl _ _ 23 rfl w.heap.size 33 _ 3 24 Tryd.underlying23 info_rtoken rfl (by decide) _ pre.length _ rfl ((hown1.alloc _).alloc _) (w1.heap.size + 1) _ (by first | rfl | simp [go_sem]) (by have := World.alloc_heap_new (w1.alloc (.cells #[.int .i64 (q : Nat), .int .i64 (k : Nat), .int .i64 ((k : Nat) + (z : Nat))] 33)) (.cells #[.int .i64 (q : Nat), .int .i64 (k : Nat), .int .i64 ((k : Nat) + (z : Nat))] 33); rw [World.size_alloc] at this; exact this) rfl (by intro u hu; simp at hu; rcases hu with rfl | rfl | rfl <;> rfl) (by unfold maxLen; omega) (by omega) (by have := hB1.size; simp; omega) ?_
      intro v' w2 hown2 hgrow hat
      obtain ⟨A1, c1, rfl⟩ := own_slice hown2
      have hbx : w2.heap[w1.heap.size]? = some (.cells #[.int .i64 (q : Nat), .int .i64 (k : Nat), .int .i64 ((k : Nat) + (z : Nat))] 33 (0, 0)) := ((hgrow.block w1.heap.size (by rw [World.size_alloc, World.size_alloc]; omega) (fun hh => by have := (hlt1 _ hh.symm).2; omega)).trans (Below.heap_alloc _ _ _ (by rw [World.size_alloc]; omega))).trans (World.alloc_heap_new w1 _)
      have q2 := Lib.cell_of_heap hbx 2
      simp only [List.getElem?_toArray, List.getElem?_cons_zero, List.getElem?_cons_succ] at q2
      gi_wp2
      go_roundw
      case rel =>
        refine ⟨k + z, pre ++ [⟨q, k, k + z⟩], by go_num, by omega, Lib.hid ⟨by simp; omega, HT2.out⟩, ?_, ?_⟩
        · exact ((hB1.alloc hB1.size _).alloc (by have := hB1.size; simp; omega) _).grown hgrow (by have := hB1.size; simp; omega) (fun j hj => (hlt1 j hj).1)
        · rw [List.length_append, tcells_snoc]
          simpa using hown2
      case measure => simp [intOf]; omega
    · obtain rfl : k = s.size := by omega
      have HE := Lib.hid (tk_end (l := bs s) (at_ := s.size) (by rw [bs_size]; exact Nat.le_refl _))
      gi_wp2
      refine bodyPost_ret (results_tmp Tryd.results9 _ _ _) rfl ?_
      have hT := HT.out.2
      rw [HE.out, List.append_nil] at hT
      rw [← hT]
      exact ⟨A0, c0, rfl, own_read hown, (fun a ha => (World.ownsRow.lt hown a.block (by rw [ha]; rfl)).1), hB⟩

theorem refList_any (s : ByteArray) (hs : s.size ≤ 10000) (w : World) : Calls Tryd.prog 9 #[.string s] w (CoV (tk (bs s) 0) w) := callsIn_wide.1 (refList_in s hs w)

theorem below_drewN {B : Nat} {a w : World} (h : Below B a w) (n : Nat) : Below B a (w.drewN n) := ⟨h.os, h.tape, h.output, h.size, h.block⟩

set_option maxRecDepth 100000 in
set_option maxHeartbeats 2000000 in
theorem same_any (A A2 : Option Addr) (c c2 : Nat) (l : List Tk) (w : World) (hl : l.length ≤ 20000) (hr : Rdc w w.heap.size A (tcells l)) (hr2 : Rdc w w.heap.size A2 (tcells l)) :
    Calls Tryd.prog 11 #[.slice A l.length c, .slice A2 l.length c2] w fun e w' => e = .returned (.bool true) ∧ Below w.heap.size w w' := by
  have hn : (((l.length : Nat) : Int) != l.length) = false := by simp
  go_enter Tryd.func11, Tryd.ntmps11
  go_wp2
  go_loopw [5, 13] (fun _ i wr => ∃ k : Nat, k ≤ l.length ∧ i = .int .i64 (k : Int) ∧ Below w.heap.size w wr) (fun _ i _ => l.length + 1 - (intOf i).toNat)
  case atStart => exact ⟨0, Nat.zero_le _, rfl, Below.refl _ _⟩
  case round =>
    obtain ⟨k, hk, rfl, hB⟩ := hrel
    by_cases hlt : k < l.length
    · have he : l[k]? = some l[k] := List.getElem?_eq_getElem hlt
      generalize l[k] = e at he
      have z1 : (0 : Int) ≤ k := by omega
      have z2 : (k : Int) < l.length := by omega
      obtain ⟨b, off, rfl, hb, c0, c1, c2⟩ := tok_at (hr.below hB) he
      obtain ⟨b2, off2, rfl, hb2, d0, d1, d2⟩ := tok_at (hr2.below hB) he
      have n0 : ((e.k : Int) != e.k) = false := by simp
      have n1 : ((e.a : Int) != e.a) = false := by simp
      have n2 : ((e.z : Int) != e.z) = false := by simp
      clear he hr hr2
      go_wp2
      go_quiet (fail)
      go_wp2
      go_roundw
      case rel => exact ⟨k + 1, by omega, by go_num, below_drewN hB _⟩
      case measure => simp [intOf]; omega
    · obtain rfl : k = l.length := by omega
      go_wp2
      go_ret
      exact ⟨rfl, hB⟩

theorem eq_token (a b c : Int) (w : World) : (binOp .eql 31 (.agg #[.int .i64 a, .int .i64 b, .int .i64 c]) (.agg #[.int .i64 a, .int .i64 b, .int .i64 c])).run Tryd.prog w = .ok (.bool true) w := by
  have u3 := Tryd.underlying3
  have a3 := Tryd.isAgg3
  have z3 := Tryd.sizeOf3
  have u9 := Tryd.underlying29
  have a9 := Tryd.isAgg29
  have z9 := Tryd.sizeOf29
  have hS : Tryd.prog.underlying 31 = some (.struct (Tryd.prog.fieldsOf 31)) := by kernel_rfl
  have hp : Tryd.prog.stoodInHeld 31 = false := by kernel_rfl
  rw [run_eql_struct, show (10000 : Nat) = 9999 + 1 from rfl, run_equalIn_agg w 9999 31 _ _ hS hp]
  simp only [Program.fieldsOf, Tryd.underlying31]
  go_simp

theorem alive_toks : tk [97, 61, 49, 59, 47, 47, 120] 0 = [⟨4, 0, 1⟩, ⟨6, 1, 2⟩, ⟨5, 2, 3⟩, ⟨6, 3, 4⟩, ⟨2, 4, 7⟩] := by decide +kernel

set_option maxRecDepth 100000 in
set_option maxHeartbeats 2000000 in
theorem alive_any (w : World) (hL : LaidX w) : Calls Tryd.prog 8 #[] w fun e w' => e = .returned (.bool true) ∧ Below w.heap.size w w' := by
  have H := list_any ⟨#[97, 61, 49, 59, 47, 47, 120]⟩ (by decide) w hL
  rw [show tk (bs ⟨#[97, 61, 49, 59, 47, 47, 120]⟩) 0 = _ from alive_toks] at H
  have HL := Lib.hid H
  clear H hL
  have hm : Tryd.prog.eqGuardType Tryd.prog.depth 31 = false := by kernel_rfl
  have e1 := eq_token 4 0 1
  have e2 := eq_token 2 4 7
  go_enter Tryd.func8, Tryd.ntmps8
  go_wp2_with (go_at_call 12; refine HL.out.mono ?_; rintro e w1 ⟨A, c, rfl, hr, _, hB⟩; obtain ⟨b, off, rfl, hb, a0, a1, a2⟩ := tok_at (k := 0) hr rfl; obtain ⟨b', off', hh, hb', b0, b1, b2⟩ := tok_at (k := 2) hr rfl; obtain ⟨rfl, rfl⟩ : b = b' ∧ off = off' := (by injection hh with hh; injection hh with h1 h2 _; exact ⟨h1, h2⟩); obtain ⟨b'', off'', hh', hb'', c0, c1, c2⟩ := tok_at (k := 4) hr rfl; obtain ⟨rfl, rfl⟩ : b = b'' ∧ off = off'' := (by injection hh' with hh'; injection hh' with h1 h2 _; exact ⟨h1, h2⟩); clear hr hh hh' hb hb' hb''; simp only [Nat.zero_mul, Nat.reduceMul, Nat.add_zero, Nat.add_assoc, Nat.reduceAdd] at a0 a1 a2 b0 b1 b2 c0 c1 c2)
  go_ret
  exact ⟨rfl, hB⟩
end Go.Proofs.YtjmdnjflcifpmaaDoor
