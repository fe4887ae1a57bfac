/- The law LexReals, walked: lex.Clean, the document's Real. -/
import Derived.Test.YtjnclchbklehgaaGreatDoorLexReal
import Derived.Test.YtjnclchbklehgaaGreatDoorLexSame
namespace Go.Proofs.YtjnclchbklehgaaGreatDoor
open Go.RowKit Go.Shelf SignMath

attribute [local go_sem] Oper.semAt_some

def ClI (w : World) (s : ByteArray) (pre : List Tk) : As := fun X W => Low w.heap.size w X W ∧ Has w.heap.size (.cells #[.bool false] 4 (0, 0)) X W ∧ Has (w.heap.size + 1) (.cells #[.string s] 9 (0, 0)) X W ∧ bad pre = none
theorem ClI.frames (w : World) (s : ByteArray) (pre : List Tk) : Frames (ClI w s pre) := (Low.frames _ _).and ((Has.frames _ _).and ((Has.frames _ _).and (Frames.pure _)))
def ClX (w : World) (L : List Tk) (c : Code) (_ : List Tk) : As := fun X W => c = .ret ∧ Low w.heap.size w X W ∧ rlB L = false ∧ Has w.heap.size (.cells #[.bool false] 4 (0, 0)) X W
theorem ClX.frames (w : World) (L : List Tk) (c : Code) (pre : List Tk) : Frames (ClX w L c pre) := (Frames.pure _).and ((Low.frames _ _).and ((Frames.pure _).and (Has.frames _ _)))
abbrev clFrm (s : ByteArray) (y bp : Nat) (x : Tk) : Act := { tmps := #[.string s, undef, .pointer (some ⟨y, 0, none⟩), .pointer (some ⟨bp, 0, none⟩), .string s, .func (.func 85) #[] #[.pointer (some ⟨y + 1, 0, none⟩)], tkv x, undef, undef, undef], defers := [] }

theorem retB {w W : World} {D : Nat} {v0 : Value} {t0 : TypeId} (hlow : Low w.heap.size w (· = D) W) (h0 : Has w.heap.size (.cells #[v0] t0 (0, 0)) (· = D) W) :
    (W.putObj D (.deferred none)).cell? ⟨w.heap.size, 0, none⟩ = some v0 ∧ Below w.heap.size w (W.putObj D (.deferred none)) := by
  have ho : Off (· = D) W (W.putObj D (.deferred none)) := Off.putObj (X := (· = D)) rfl _ _
  exact ⟨((Has.frames _ _).off h0 ho).cell, ((Low.frames _ _).off hlow ho).1⟩





























































def RrV (L : List Tk) (w : World) (e : Ending) (w' : World) : Prop := ∃ A c, e = .returned (.tuple #[.slice A (rlT L).length c, .int .i64 (rlA L : Nat), .bool (rlB L)]) ∧ Rdc w' w'.heap.size A (tcells (rlT L)) ∧ (∀ a, A = some a → w.heap.size ≤ a.block) ∧ Below w.heap.size w w'

theorem take_next {L : List Tk} {k : Nat} {x : Tk} (h : L[k]? = some x) : L.take (k + 1) = L.take k ++ [x] := by
  rw [List.take_add_one, h]; rfl

set_option maxRecDepth 100000 in
set_option maxHeartbeats 2000000 in
theorem refReal_in (s : ByteArray) (hs : s.size ≤ 10000) (w : World) :
    CallsIn Fence.wide 8 Tryz.prog 43 #[.string s] w (RrV (tk (bs s) 0) w) := by
  have hLn := tk_size s
  have HL := Lib.hid (refList_any s hs w)
  generalize tk (bs s) 0 = L at HL hLn ⊢
  refine callsIn_of_wp Tryz.func43 rfl trivial ?_ rfl
  simp only [Tryz.ntmps43, List.size_toArray, List.length_cons, List.length_nil, Nat.reduceAdd, Nat.reduceSub, Array.replicate_succ, Array.replicate_zero, List.push_toArray, List.append_toArray, List.nil_append, List.cons_append]
  gi_wp2_with (refine ⟨trivial, ?_⟩; gi_at_call 71; refine (callsIn_wide.2 HL.out).mono ?_; rintro e w1 ⟨A, c, rfl, hr, hra, hB1⟩)
  gi_loopw [6, 7] (fun o i wr => ∃ k : Nat, i = .int .i64 k ∧ k ≤ L.length ∧ Below w1.heap.size w1 wr ∧ wr.ownsRow w1.heap.size 108 3 o (rls (L.take k)).length (tcells (rls (L.take k))) ∧ bad (L.take k) = none) (fun _ i _ => L.length + 1 - (intOf i).toNat)
  case atStart => exact ⟨0, rfl, Nat.zero_le _, Below.refl _ _, World.ownsRow_nil _ _ _ _, rfl⟩
  case round =>
    obtain ⟨k, rfl, hk, hB, hown, hbd⟩ := hrel
    obtain ⟨A0, c0, rfl⟩ := own_slice hown
    have hlen : (rls (L.take k)).length ≤ k := Nat.le_trans (rls_len _) (by simp; omega)
    by_cases hlt : k < L.length
    · have he : L[k]? = some L[k] := List.getElem?_eq_getElem hlt
      generalize L[k] = x at he
      have z1 : (0 : Int) ≤ k := by omega
      have z2 : (k : Int) < L.length := by omega
      obtain ⟨b, off, rfl, hb, c0', c1', c2'⟩ := tok_at (hr.below hB) he
      have HT := Lib.hid (take_next he)
      have HB := Lib.hid hbd
      have b7 := beqd (x.k : Int) 7
      clear hbd he
      by_cases k7 : x.k = 7
      · rw [decide_eq_true (by omega)] at b7
        have HF : Hid (bad L = some x) := Lib.hid (bad_first (l := L.take k) (by rw [← HT.out]; exact List.take_prefix _ _) HB.out k7)
        refine wpIn_wide.2 ?_
        go_wp2
        go_quiet (fail)
        go_wp2
        refine bodyPost_ret (v := .tuple #[.slice none 0 0, .int .i64 (x.a : Nat), .bool false]) (by simp [results, Tryz.results43, go_sem]) rfl ?_
        exact ⟨none, 0, by simp [rlT, rlA, rlB, HF.out], by simp [rlT, HF.out, tcells, Rdc], (fun a ha => by cases ha), lbelow_drewN (hB1.trans (hB.mono hB1.size)) _⟩
      · rw [decide_eq_false (by omega)] at b7
        by_cases k2 : 2 < x.k
        · have d2 : decide ((2 : Int) < (x.k : Int)) = true := decide_eq_true (by omega)
          gi_wp2_with (gi_at_builtin; refine LStay.out ?_)
          refine LStay.in_ ?_
          refine wpListIn_append_at (wr.alloc _) rfl _ _ 29 rfl w1.heap.size 108 _ 3 24 Tryz.underlying29 info_rtoken rfl (by decide) _ (rls (L.take k)).length _ rfl (hown.alloc _) wr.heap.size _ rfl (World.alloc_heap_new wr _) rfl (by intro u hu; simp at hu; rcases hu with rfl | rfl | rfl <;> rfl) (by unfold maxLen; omega) (by omega) (by have := hB.size; simp; omega) ?_
          intro v' w2 hown2 hgrow hat
          obtain ⟨A1, c1, rfl⟩ := own_slice hown2
          gi_wp2
          go_roundw
          case rel =>
            refine ⟨k + 1, by go_num, by omega, (hB.alloc hB.size _).grown hgrow (by have := hB.size; simp; omega) (fun j hj => (World.ownsRow.lt hown j hj).1), ?_, by rw [HT.out]; exact bad_snoc HB.out k7⟩
            rw [HT.out, rls_snoc, if_pos k2, List.length_append, tcells_snoc]
            simpa using hown2
          case measure => simp [intOf]; omega
        · have d2 : decide ((2 : Int) < (x.k : Int)) = false := decide_eq_false (by omega)
          gi_wp2
          go_roundw
          case rel => exact ⟨k + 1, by go_num, by omega, hB, by rw [HT.out, rls_snoc, if_neg k2]; exact hown, by rw [HT.out]; exact bad_snoc HB.out k7⟩
          case measure => simp [intOf]; omega
    · obtain rfl : k = L.length := by omega
      gi_wp2
      rw [List.take_length] at hown hbd
      refine bodyPost_ret (v := .tuple #[.slice A0 (rls L).length c0, .int .i64 0, .bool true]) (by simp [results, Tryz.results43, go_sem]) rfl ?_
      refine ⟨A0, c0, by simp [rlT, rlA, rlB, hbd], by rw [show rlT L = rls L by simp [rlT, hbd]]; exact own_read hown, (fun a ha => Nat.le_trans hB1.size (World.ownsRow.lt hown a.block (by rw [ha]; rfl)).1), hB1.trans (hB.mono hB1.size)⟩

theorem refReal_any (s : ByteArray) (hs : s.size ≤ 10000) (w : World) : Calls Tryz.prog 43 #[.string s] w (RrV (tk (bs s) 0) w) := callsIn_wide.1 (refReal_in s hs w)

theorem assert_errno (w : World) (v : Value) : (Instr.typeAssert (.iface 55 v) 26 55 true).run Tryz.prog w = .ok (.tuple #[v, .bool true]) w := by kernel_rfl

set_option maxRecDepth 100000 in
set_option maxHeartbeats 400000 in
theorem num_errno (n : Int) (hn : 0 < n) (w : World) :
    Calls Tryz.prog 11 #[errn n] w fun e w' => e = .returned (.int .i64 n) ∧ w = w' := by
  have h1 : (n != 0) = true := by rw [bne_iff_ne]; omega
  have ha := assert_errno
  go_enter Tryz.func11, Tryz.ntmps11
  go_wp2
  go_ret
  exact ⟨rfl, rfl⟩



































































end Go.Proofs.YtjnclchbklehgaaGreatDoor
