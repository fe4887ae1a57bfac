/- The document's list of tokens; two lists of tokens that read alike are the same; the chapter's example. -/
import Derived.Test.YtjnclchbklehgaaGreatDoorMzLex
import Derived.BigQuiet
import Derived.Deep.QuietTactic
import Derived.Laws.StructEq
namespace Go.Proofs.YtjnclchbklehgaaGreatDoor
open Go.RowKit Go.Shelf SignMath

attribute [local go_sem] Oper.semAt_some

theorem info_rtoken : (Tryz.prog.info? 108).map (fun i => (i.zero, i.size, i.bytes)) = some (some (.agg #[.int .i64 0, .int .i64 0, .int .i64 0]), 3, 24) := by kernel_rfl

set_option maxRecDepth 100000 in
set_option maxHeartbeats 2000000 in
theorem refList_in (s : ByteArray) (hs : s.size ≤ 10000) (w : World) :
    CallsIn Fence.wide 8 Tryz.prog 71 #[.string s] w (CoV (tk (bs s) 0) w) := by
  have HZ := Lib.hid (bs_size s)
  refine callsIn_of_wp Tryz.func71 rfl trivial ?_ rfl
  simp only [Tryz.ntmps71, List.size_toArray, List.length_cons, List.length_nil, Nat.reduceAdd, Nat.reduceSub, Array.replicate_succ, Array.replicate_zero, List.push_toArray, List.append_toArray, List.nil_append, List.cons_append]
  gi_wp2
  gi_loopw [3, 4, 5] (fun o i _ wr => ∃ (k : Nat) (pre : List Tk), i = .int .i64 k ∧ k ≤ s.size ∧ Hid (pre.length ≤ k ∧ pre ++ tk (bs s) k = tk (bs s) 0) ∧ Below w.heap.size w wr ∧ wr.ownsRow w.heap.size 108 3 o pre.length (tcells pre)) (fun _ i _ _ => s.size - (intOf i).toNat)
  case atStart => exact ⟨0, [], rfl, Nat.zero_le _, Lib.hid ⟨Nat.le_refl _, rfl⟩, Below.refl _ _, World.ownsRow_nil _ _ _ _⟩
  case round =>
    obtain ⟨k, pre, rfl, hk, HT, hB, hown⟩ := hrel
    obtain ⟨A0, c0, rfl⟩ := own_slice hown
    by_cases hlt : k < s.size
    · have HF := Lib.hid (next_any s hs k hlt wr)
      have hsz := ft_size (l := (bs s).drop k) (by intro e; have := congrArg List.length e; rw [List.length_drop, bs_size] at this; simp at this; omega)
      rw [List.length_drop, bs_size] at hsz
      have HS := Lib.hid (tk_step (l := bs s) (at_ := k) (by rw [bs_size]; exact hlt))
      generalize ft ((bs s).drop k) = x at HF hsz HS
      obtain ⟨q, z⟩ := x
      dsimp only at hsz HS HF
      have hpl : pre.length ≤ k := HT.out.1
      have HT2 : Hid ((pre ++ [⟨q, k, k + z⟩]) ++ tk (bs s) (k + z) = tk (bs s) 0) := Lib.hid (by rw [← HT.out.2, HS.out]; simp)
      simp only [tkv, Int.natCast_add] at HF
      gi_wp2
      refine ⟨trivial, ?_⟩
      gi_at_call 87
      refine (callsIn_wide.2 HF.out).mono ?_
      rintro e w1 ⟨rfl, hb1⟩
      have hown1 := own_below hown hb1
      have hB1 : Below w.heap.size w w1 := hB.trans (hb1.mono hB.size)
      have hlt1 := fun j hj => World.ownsRow.lt hown1 j hj
      clear hown hb1 hB
      gi_wp2_with (gi_at_builtin; refine LStay.out ?_)
      refine LStay.in_ ?_
      refine wpListIn_append_at ((w1.alloc _).alloc _) rfl _ _ 29 rfl w.heap.size 108 _ 3 24 Tryz.underlying29 info_rtoken rfl (by decide) _ pre.length _ rfl ((hown1.alloc _).alloc _) (w1.heap.size + 1) _ (by first | rfl | simp [go_sem]) (by have := World.alloc_heap_new (w1.alloc (.cells #[.int .i64 (q : Nat), .int .i64 (k : Nat), .int .i64 ((k : Nat) + (z : Nat))] 108)) (.cells #[.int .i64 (q : Nat), .int .i64 (k : Nat), .int .i64 ((k : Nat) + (z : Nat))] 108); rw [World.size_alloc] at this; exact this) rfl (by intro u hu; simp at hu; rcases hu with rfl | rfl | rfl <;> rfl) (by unfold maxLen; omega) (by omega) (by have := hB1.size; simp; omega) ?_
      intro v' w2 hown2 hgrow hat
      obtain ⟨A1, c1, rfl⟩ := own_slice hown2
      have hbx : w2.heap[w1.heap.size]? = some (.cells #[.int .i64 (q : Nat), .int .i64 (k : Nat), .int .i64 ((k : Nat) + (z : Nat))] 108 (0, 0)) := ((hgrow.block w1.heap.size (by rw [World.size_alloc, World.size_alloc]; omega) (fun hh => by have := (hlt1 _ hh.symm).2; omega)).trans (Below.heap_alloc _ _ _ (by rw [World.size_alloc]; omega))).trans (World.alloc_heap_new w1 _)
      have q2 := Lib.cell_of_heap hbx 2
      simp only [List.getElem?_toArray, List.getElem?_cons_zero, List.getElem?_cons_succ] at q2
      gi_wp2
      go_roundw
      case rel =>
        refine ⟨k + z, pre ++ [⟨q, k, k + z⟩], by go_num, by omega, Lib.hid ⟨by simp; omega, HT2.out⟩, ?_, ?_⟩
        · exact ((hB1.alloc hB1.size _).alloc (by have := hB1.size; simp; omega) _).grown hgrow (by have := hB1.size; simp; omega) (fun j hj => (hlt1 j hj).1)
        · rw [List.length_append, tcells_snoc]
          simpa using hown2
      case measure => simp [intOf]; omega
    · obtain rfl : k = s.size := by omega
      have HE := Lib.hid (tk_end (l := bs s) (at_ := s.size) (by rw [bs_size]; exact Nat.le_refl _))
      gi_wp2
      refine bodyPost_ret (results_tmp Tryz.results71 _ _ _) rfl ?_
      have hT := HT.out.2
      rw [HE.out, List.append_nil] at hT
      rw [← hT]
      exact ⟨A0, c0, rfl, own_read hown, (fun a ha => (World.ownsRow.lt hown a.block (by rw [ha]; rfl)).1), hB⟩

theorem refList_any (s : ByteArray) (hs : s.size ≤ 10000) (w : World) : Calls Tryz.prog 71 #[.string s] w (CoV (tk (bs s) 0) w) := callsIn_wide.1 (refList_in s hs w)



































theorem eq_token (a b c : Int) (w : World) : (binOp .eql 105 (.agg #[.int .i64 a, .int .i64 b, .int .i64 c]) (.agg #[.int .i64 a, .int .i64 b, .int .i64 c])).run Tryz.prog w = .ok (.bool true) w := by
  have u3 := Tryz.underlying3
  have a3 := Tryz.isAgg3
  have z3 := Tryz.sizeOf3
  have u9 := Tryz.underlying42
  have a9 := Tryz.isAgg42
  have z9 := Tryz.sizeOf42
  have hS : Tryz.prog.underlying 105 = some (.struct (Tryz.prog.fieldsOf 105)) := by kernel_rfl
  have hp : Tryz.prog.stoodInHeld 105 = false := by kernel_rfl
  rw [run_eql_struct, show (10000 : Nat) = 9999 + 1 from rfl, run_equalIn_agg w 9999 105 _ _ hS hp]
  simp only [Program.fieldsOf, Tryz.underlying105]
  go_simp

theorem alive_toks : tk [97, 61, 49, 59, 47, 47, 120] 0 = [⟨4, 0, 1⟩, ⟨6, 1, 2⟩, ⟨5, 2, 3⟩, ⟨6, 3, 4⟩, ⟨2, 4, 7⟩] := by decide +kernel















end Go.Proofs.YtjnclchbklehgaaGreatDoor
