/- The iterator over a text's lines: strings.IndexByte, text.Lines and its closure, for every loop body. -/
import Derived.Test.YthmeneklccngeaaTextPlain
import Derived.RangeFuncNested
import Derived.RangeFuncBound
import Derived.RangeFuncCalls
import Derived.RangeFuncLeaves
import Derived.Shelf.Abstract
import Derived.Shelf.RegionOpen
import Derived.OwnWalkIn
import Derived.TacticsInMore
import Derived.LoopNIn
import Derived.LoopIn
import Derived.Lib.IndexBytes
namespace Go.Proofs.Ythmeneklccngeaa
open Go.RowKit Go.Shelf

attribute [local go_sem] Oper.semAt_some

theorem run_index (s : ByteArray) (c : Int) (w : World) : (callFunc 36 #[.string s, .int .u8 c]).run Try.prog w = .ok (.value (.int .i64 (Lib.indexByte s.data.toList c.toNat.toUInt8))) w := by
  rw [run_callFunc_extern Try.func36 (by kernel_rfl) (by kernel_rfl) (by kernel_rfl) (e := Extern.BytealgIndexByte.indexByte) (by kernel_rfl), Lib.run_indexByteString]
  rfl

set_option maxRecDepth 100000 in
set_option maxHeartbeats 400000 in
theorem liteIndex_any (s : ByteArray) (w : World) :
    Calls Try.prog 31 #[.string s, .int .u8 10] w fun e w' => e = .returned (.int .i64 (Lib.indexByte s.data.toList 10)) ∧ w = w' := by
  have hr := run_index s 10
  go_enter Try.func31, Try.ntmps31
  go_wp2
  go_ret
  exact ⟨rfl, rfl⟩

set_option maxHeartbeats 400000 in
theorem indexByte_any (s : ByteArray) (w : World) :
    Calls Try.prog 24 #[.string s, .int .u8 10] w fun e w' => e = .returned (.int .i64 (Lib.indexByte s.data.toList 10)) ∧ w = w' := by
  go_enter Try.func24, Try.ntmps24
  go_wp2_with (go_at_call 31; refine (liteIndex_any _ _).mono ?_; rintro e w' ⟨rfl, rfl⟩)
  go_ret
  exact ⟨rfl, rfl⟩

theorem index_none (s : ByteArray) (h : Lib.indexByte s.data.toList 10 = -1) (w : World) :
    Calls Try.prog 24 #[.string s, .int .u8 10] w fun e w' => e = .returned (.int .i64 (-1)) ∧ w = w' :=
  (indexByte_any s w).mono fun _ _ ⟨he, hw⟩ => ⟨by rw [he, h], hw⟩
theorem index_at (s : ByteArray) (o : Nat) (h : Lib.indexByte s.data.toList 10 = o) (w : World) :
    Calls Try.prog 24 #[.string s, .int .u8 10] w fun e w' => e = .returned (.int .i64 o) ∧ w = w' :=
  (indexByte_any s w).mono fun _ _ ⟨he, hw⟩ => ⟨by rw [he, h], hw⟩

/-- the lines of s from off on, each with its beginning, as pieces of s -/
def bl (s : ByteArray) (off : Nat) : List (Nat × ByteArray) := (TextMath.lns off (s.data.toList.drop off)).map fun p => (p.1, s.extract p.1 (p.1 + p.2.length))

theorem bl_last {s : ByteArray} {off : Nat} (h : off ≤ s.size) (hi : Lib.indexByte (s.extract off s.size).data.toList 10 = -1) : bl s off = [(off, s.extract off s.size)] := by
  rw [Lib.extract_to_end] at hi
  have hn : (10 : UInt8) ∉ s.data.toList.drop off := fun hm => by
    obtain ⟨k, hk, e⟩ := List.getElem_of_mem hm
    exact Lib.indexByte_none hi k (by rw [List.getElem?_eq_getElem hk, e])
  unfold bl
  rw [TextMath.lns_last _ hn]
  have : off + (s.data.toList.drop off).length = s.size := by simp; omega
  simp only [List.map_cons, List.map_nil, this]

theorem bl_step {s : ByteArray} {off o : Nat} (h : off ≤ s.size) (hi : Lib.indexByte (s.extract off s.size).data.toList 10 = o) : bl s off = (off, s.extract off (off + o)) :: bl s (off + o + 1) ∧ off + o + 1 ≤ s.size := by
  rw [Lib.extract_to_end] at hi
  obtain ⟨h1, h2⟩ := Lib.indexByte_some hi
  have hlt : o < (s.data.toList.drop off).length := by
    rcases Nat.lt_or_ge o (s.data.toList.drop off).length with h' | h'
    · exact h'
    · rw [List.getElem?_eq_none h'] at h1; cases h1
  have hl : (s.data.toList.drop off).length = s.size - off := by simp
  have hsp : s.data.toList.drop off = (s.data.toList.drop off).take o ++ 10 :: s.data.toList.drop (off + o + 1) := by
    have e := (List.take_append_drop o (s.data.toList.drop off)).symm
    rw [List.drop_eq_getElem_cons hlt, List.drop_drop] at e
    rw [List.getElem?_eq_getElem hlt] at h1
    injection h1 with h1
    rw [h1] at e
    exact e
  have hn : (10 : UInt8) ∉ (s.data.toList.drop off).take o := fun hm => by
    obtain ⟨k, hk, e⟩ := List.getElem_of_mem hm
    have hk' : k < o := by simp at hk; omega
    refine h2 k hk' ?_
    rw [← List.getElem?_take_of_lt hk', List.getElem?_eq_getElem hk, e]
  have hlen : ((s.data.toList.drop off).take o).length = o := by rw [List.length_take]; omega
  refine ⟨?_, by omega⟩
  show (TextMath.lns off (s.data.toList.drop off)).map _ = _
  rw [hsp, TextMath.lns_step _ _ hn, hlen]
  simp only [List.map_cons, hlen]
  rfl

theorem bl_pos (s : ByteArray) (off : Nat) : bl s off ≠ [] := by
  unfold bl
  have := TextMath.lns_pos (s.data.toList.drop off) off
  intro h
  have h2 := congrArg List.length h
  rw [List.length_map, List.length_nil] at h2
  omega

/-- what a round keeps for the iterator -/
def KeepCell (Bn : Nat) (W W' : World) : Prop := W'.cell? ⟨Bn, 0, none⟩ = W.cell? ⟨Bn, 0, none⟩

theorem KeepCell.trans {Bn : Nat} {A B C : World} (h : KeepCell Bn A B) (k : KeepCell Bn B C) : KeepCell Bn A C := Eq.trans k h
theorem KeepCell.put {Bn m : Nat} (hm : Bn < m) (W : World) (l : Nat) (o o' : Obj) (hl : m ≤ l) (_ : W.heap[l]? = some o) (_ : o.isCells = false) (_ : o.isWalk = false) : KeepCell Bn W (W.putObj l o') :=
  World.cell?_of_block (World.putObj_heap_other (by show Bn ≠ l; omega))

set_option maxRecDepth 100000 in
set_option maxHeartbeats 1000000 in
/-- the closure of text.Lines, for every loop body that keeps the box of the text -/
theorem lines1_in {α : Type} (val : α → Nat × ByteArray) (n : Nat) (hn : 1 ≤ n) (l Bn : Nat) (s : ByteArray) (hs : s.size ≤ 70000) (xs : List α) (hxs : xs.map val = bl s 0) (J Jx : List α → World → Prop)
    (hY : ∀ pre x W, J pre W → pre.length < xs.length → YieldAt Fence.wide (n - 1) Try.prog l #[.int .i64 (val x).1, .string (val x).2] W fun e W' =>
      (e = .returned (.bool true) ∧ J (pre ++ [x]) W' ∧ KeepCell Bn W W') ∨ (e = .returned (.bool false) ∧ Jx (pre ++ [x]) W'))
    (W : World) (hBn : W.cell? ⟨Bn, 0, none⟩ = some (.string s)) (h0 : J [] W) :
    CallsIn Fence.wide n Try.prog 23 #[.func (.yield l) #[] #[], .pointer (some ⟨Bn, 0, none⟩)] W fun e W' => (∃ v, e = .returned v) ∧
      ((∃ ys, ys = xs ∧ J ys W') ∨ (∃ pre, pre <+: xs ∧ Jx pre W')) := by
  have HX := Lib.hid hxs
  clear hxs
  refine callsIn_of_wp Try.func23 rfl trivial ?_ rfl
  simp only [Try.ntmps23, List.size_toArray, List.length_cons, List.length_nil, Nat.reduceAdd, Nat.reduceSub, Array.replicate_succ, Array.replicate_zero, List.push_toArray, List.append_toArray, List.nil_append, List.cons_append]
  gi_wp2
  gi_loopw [3] (fun p wr => ∃ (pre rest : List α) (k : Nat), p = .int .i64 k ∧ k ≤ s.size ∧ xs = pre ++ rest ∧ rest.map val = bl s k ∧ wr.cell? ⟨Bn, 0, none⟩ = some (.string s) ∧ J pre wr)
    (fun p wr => s.size - (intOf p).toNat)
  case atStart =>
    exact ⟨[], xs, 0, rfl, Nat.zero_le _, rfl, HX.out, hBn, h0⟩
  case round =>
    obtain ⟨pre, rest, k, rfl, hk, hx, hr, hcell, hJs⟩ := hrel
    rcases Lib.indexByte_piece s k s.size 10 with hm | ⟨o, ho, hlt⟩
    · rw [bl_last hk hm] at hr
      have HM := Lib.hid hm
      clear hm
      obtain ⟨x, rfl, hvx⟩ : ∃ x, rest = [x] ∧ val x = (k, s.extract k s.size) := by
        match rest, hr with
        | [], hr => cases hr
        | [x], hr => exact ⟨x, rfl, by simpa using hr⟩
        | _ :: _ :: _, hr => simp at hr
      obtain ⟨fn, tmps, assign, body, hy, hR⟩ := hY pre x wr hJs (by rw [hx]; simp)
      rw [hvx] at hy
      clear hr hvx
      have HX2 := Lib.hid hx
      clear hx
      gi_wp2_with (refine ⟨trivial, ?_⟩; gi_at_call 24; refine (callsIn_wide.2 (index_none _ HM.out _)).mono ?_; rintro e w' ⟨rfl, rfl⟩)
      refine hR.mono ?_
      rintro e W3 (⟨rfl, hJ3, hk3⟩ | ⟨rfl, hJx3⟩)
      · gi_wp2
        refine bodyPost_ret (results_none rfl _ _ _) rfl ?_
        exact ⟨⟨_, rfl⟩, .inl ⟨pre ++ [x], HX2.out.symm, hJ3⟩⟩
      · gi_wp2
        refine bodyPost_ret (results_none rfl _ _ _) rfl ?_
        exact ⟨⟨_, rfl⟩, .inr ⟨pre ++ [x], ⟨[], by rw [HX2.out]; simp⟩, hJx3⟩⟩
    · obtain ⟨hst, hle⟩ := bl_step hk ho
      rw [hst] at hr
      have HM := Lib.hid ho
      clear ho
      obtain ⟨x, rest', rfl, hvx, hr'⟩ : ∃ x rest', rest = x :: rest' ∧ val x = (k, s.extract k (k + o)) ∧ rest'.map val = bl s (k + o + 1) := by
        match rest, hr with
        | [], hr => cases hr
        | x :: rest', hr => rw [List.map_cons] at hr; injection hr with h1 h2; exact ⟨x, rest', rfl, h1, h2⟩
      obtain ⟨fn, tmps, assign, body, hy, hR⟩ := hY pre x wr hJs (by rw [hx]; simp)
      rw [hvx] at hy
      clear hr hvx
      have HX2 := Lib.hid hx
      have HR := Lib.hid hr'
      clear hx hr' hst
      gi_wp2_with (refine ⟨trivial, ?_⟩; gi_at_call 24; refine (callsIn_wide.2 (index_at _ o HM.out _)).mono ?_; rintro e w' ⟨rfl, rfl⟩)
      refine hR.mono ?_
      rintro e W3 (⟨rfl, hJ3, hk3⟩ | ⟨rfl, hJx3⟩)
      · have hc3 : W3.cell? ⟨Bn, 0, none⟩ = some (.string s) := Eq.trans hk3 hcell
        gi_wp2
        go_roundw
        case rel => exact ⟨pre ++ [x], rest', k + o + 1, by go_num, hle, by rw [HX2.out]; simp, HR.out, hc3, hJ3⟩
        case measure => simp [intOf]; omega
      · gi_wp2
        refine bodyPost_ret (results_none rfl _ _ _) rfl ?_
        exact ⟨⟨_, rfl⟩, .inr ⟨pre ++ [x], ⟨rest', by rw [HX2.out]; simp⟩, hJx3⟩⟩

set_option maxHeartbeats 1000000 in
/-- text.Lines(s): the text is boxed; the function value captures the box. -/
theorem lines_any (s : ByteArray) (w : World) :
    Calls Try.prog 15 #[.string s] w fun e w' => e = .returned (.func (.func 23) #[] #[.pointer (some ⟨w.heap.size, 0, none⟩)]) ∧ w.alloc (.cells #[.string s] 9) = w' := by
  have hmf : ∀ (fn : Fn) (first cap : Array Value) (w : World), (Instr.makeFunc fn first cap).run Try.prog w = .ok (.func fn first cap) w := fun _ _ _ _ => rfl
  go_enter Try.func15, Try.ntmps15
  go_wp2
  go_ret
  exact ⟨rfl, rfl⟩

/-- text.Lines(s) hands back a value that tells the lines, in order, or as many as are asked for. -/
theorem lines_stops {α : Type} (val : α → Nat × ByteArray) (n : Nat) (hn : 1 ≤ n) (Bn : Nat) (s : ByteArray) (hs : s.size ≤ 70000) (xs : List α) (hxs : xs.map val = bl s 0) (w : World) (hBn : Bn < w.heap.size)
    (hc : w.cell? ⟨Bn, 0, none⟩ = some (.string s)) :
    SeqStopsK Fence.wide n Try.prog 23 #[.pointer (some ⟨Bn, 0, none⟩)] (fun x : α => #[Value.int .i64 (val x).1, .string (val x).2]) (KeepCell Bn) (fun ys => ys = xs) (fun pre => pre <+: xs) xs.length w := fun l J Jx W hW _ _ hY h0 =>
  lines1_in val n hn l Bn s hs xs hxs J Jx hY W ((hW.cell (p := ⟨Bn, 0, none⟩) hBn).trans hc) h0

end Go.Proofs.Ythmeneklccngeaa
