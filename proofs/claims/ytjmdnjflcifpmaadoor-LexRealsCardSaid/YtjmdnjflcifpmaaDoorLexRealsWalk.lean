/- The law LexReals, walked: lex.Clean, the document's Real. -/
import Derived.Test.YtjmdnjflcifpmaaDoorLexReal
namespace Go.Proofs.YtjmdnjflcifpmaaDoor
open Go.RowKit Go.Shelf SignMath

attribute [local go_sem] Oper.semAt_some

def ClI (w : World) (s : ByteArray) (pre : List Tk) : As := fun X W => Low w.heap.size w X W ∧ Has w.heap.size (.cells #[.bool false] 4 (0, 0)) X W ∧ Has (w.heap.size + 1) (.cells #[.string s] 9 (0, 0)) X W ∧ bad pre = none
theorem ClI.frames (w : World) (s : ByteArray) (pre : List Tk) : Frames (ClI w s pre) := (Low.frames _ _).and ((Has.frames _ _).and ((Has.frames _ _).and (Frames.pure _)))
def ClX (w : World) (L : List Tk) (c : Code) (_ : List Tk) : As := fun X W => c = .ret ∧ Low w.heap.size w X W ∧ rlB L = false ∧ Has w.heap.size (.cells #[.bool false] 4 (0, 0)) X W
theorem ClX.frames (w : World) (L : List Tk) (c : Code) (pre : List Tk) : Frames (ClX w L c pre) := (Frames.pure _).and ((Low.frames _ _).and ((Frames.pure _).and (Has.frames _ _)))
abbrev clFrm (s : ByteArray) (y bp : Nat) (x : Tk) : Act := { tmps := #[.string s, undef, .pointer (some ⟨y, 0, none⟩), .pointer (some ⟨bp, 0, none⟩), .string s, .func (.func 22) #[] #[.pointer (some ⟨y + 1, 0, none⟩)], tkv x, undef, undef, undef], defers := [] }

theorem retB {w W : World} {D : Nat} {v0 : Value} {t0 : TypeId} (hlow : Low w.heap.size w (· = D) W) (h0 : Has w.heap.size (.cells #[v0] t0 (0, 0)) (· = D) W) :
    (W.putObj D (.deferred none)).cell? ⟨w.heap.size, 0, none⟩ = some v0 ∧ Below w.heap.size w (W.putObj D (.deferred none)) := by
  have ho : Off (· = D) W (W.putObj D (.deferred none)) := Off.putObj (X := (· = D)) rfl _ _
  exact ⟨((Has.frames _ _).off h0 ho).cell, ((Low.frames _ _).off hlow ho).1⟩

set_option maxRecDepth 100000 in
set_option maxHeartbeats 2000000 in
theorem clean_any (s : ByteArray) (hs : s.size ≤ 10000) (w : World) (hL : LaidX w) :
    Calls Tryd.prog 16 #[.string s] w fun e w' => e = .returned (.bool (rlB (tk (bs s) 0))) ∧ Below w.heap.size w w' := by
  have HIT := Lib.hid (all_iter s hs w hL (w.heap.size + 1))
  generalize tk (bs s) 0 = L at HIT ⊢
  refine (callsIn_wide (n := 8)).1 ?_
  refine callsIn_of_wp_marks Tryd.func16 rfl trivial ?_ rfl
  simp only [Tryd.ntmps16, List.size_toArray, List.length_cons, List.length_nil, Nat.reduceAdd, Nat.reduceSub, Array.replicate_succ, Array.replicate_zero, List.push_toArray, List.append_toArray, List.nil_append, List.cons_append]
  gi_wp2_with (refine ⟨trivial, ?_⟩; gi_at_call 10; refine (callsIn_wide.2 (lexAll_any s _)).mono ?_; rintro e w' ⟨rfl, rfl⟩)
  refine range_out HIT.out rfl eg_all (fun _ => rfl) (ClI w s) (ClX w L) (fun pre x a' X W => ∃ bp, ClI w s pre X W ∧ Has bp (tkc x) X W ∧ a' = clFrm s w.heap.size bp x) ?fI ?fX ?fA ?hC ?h0 ?assign ?body ?done ?stop
  case fI => exact fun pre => ClI.frames _ _ _
  case fX => exact fun c pre => ClX.frames _ _ _ _
  case fA => exact fun pre p a' => Frames.ex fun bp => (ClI.frames _ _ _).and ((Has.frames _ _).and (Frames.pure _))
  case hC => exact fun pre X W1 h => ⟨h.1, h.2.2.1⟩
  case h0 => exact ⟨⟨(below1 w _).alloc (by simp) _, by simp; omega, fun _ h => h.elim⟩, (Has.newAt (fun h => h) rfl _).alloc _, Has.newAt (fun h => h) (by simp) _, rfl⟩
  case assign =>
    rintro lq X pre x W1 K hX hXb hi hp hK
    gi_wp2
    exact hK _ _ (by simp) (Kept.alloc _ _ _) ⟨W1.heap.size, (ClI.frames _ _ _).off hi (Off.alloc _ _ _), Has.new hXb _, rfl⟩
  case body =>
    rintro lq X pre x a' W1 hX hXb hr2 ⟨bp, ⟨hlow, h0, hg, hbd⟩, hbp, rfl⟩ hp
    have p0 := hbp.cell (i := 0)
    have q0 := h0.cell (i := 0)
    have f0 := h0.frozen (i := 0)
    simp only [List.getElem?_toArray, List.getElem?_cons_zero] at p0 q0
    have HP := Lib.hid hp
    have HB := Lib.hid hbd
    clear hp hbd
    have b7 := beqd (x.k : Int) 7
    by_cases k7 : x.k = 7
    · rw [decide_eq_true (by omega)] at b7
      gi_wp2
      refine ⟨?_, ?_, rfl, ?_, ?_, ?_⟩
      · simp only [World.setCell, Array.size_modify]; exact Nat.le_refl _
      · exact Kept.set h0.1 _ _
      · exact ⟨hlow.1.setCell (p := ⟨w.heap.size, 0, none⟩) (by simp) _, by have := hlow.2.1; simp [World.setCell]; omega, hlow.2.2⟩
      · simp [rlB, bad_first HP.out HB.out k7]
      · exact h0.set
    · rw [decide_eq_false (by omega)] at b7
      gi_wp2
      exact ⟨Nat.le_refl _, Kept.refl _ _, hlow, h0, hg, bad_snoc HB.out k7⟩
  case done =>
    rintro D W1 ⟨hlow, h0, hg, hbd⟩ hD
    have q0 := h0.cell (i := 0)
    have f0 := h0.frozen (i := 0)
    simp only [List.getElem?_toArray, List.getElem?_cons_zero] at q0
    gi_wp2
    have hlow3 : Low w.heap.size w (· = D) (W1.setCell ⟨w.heap.size, 0, none⟩ (.bool true)) := ⟨hlow.1.setCell (p := ⟨w.heap.size, 0, none⟩) (by simp) _, by have := hlow.2.1; simp [World.setCell]; omega, hlow.2.2⟩
    have hD3 : (W1.setCell ⟨w.heap.size, 0, none⟩ (.bool true)).heap[D]? = some (.deferred (some [])) := (Below.heap_setCell _ _ _ _ (fun e => h0.1 e.symm)).trans hD
    obtain ⟨r0, r4⟩ := retB hlow3 (h0.set (v' := .bool true))
    refine ⟨by simp, .inl ⟨_, _, rfl, run_takeDeferred hD3, ?_⟩⟩
    refine ⟨.bool true, by simp [results, Tryd.results16, go_sem, r0], by simp [rlB, hbd], r4⟩
  case stop =>
    rintro D c pre W1 hp ⟨rfl, hlow, hf, g0⟩ hD
    gi_wp2
    obtain ⟨r0, r4⟩ := retB hlow g0
    refine ⟨by simp, .inl ⟨_, _, rfl, run_takeDeferred hD, ?_⟩⟩
    exact ⟨.bool false, by simp [results, Tryd.results16, go_sem, r0], by rw [hf], r4⟩

def RrV (L : List Tk) (w : World) (e : Ending) (w' : World) : Prop := ∃ A c, e = .returned (.tuple #[.slice A (rlT L).length c, .int .i64 (rlA L : Nat), .bool (rlB L)]) ∧ Rdc w' w'.heap.size A (tcells (rlT L)) ∧ (∀ a, A = some a → w.heap.size ≤ a.block) ∧ Below w.heap.size w w'

theorem take_next {L : List Tk} {k : Nat} {x : Tk} (h : L[k]? = some x) : L.take (k + 1) = L.take k ++ [x] := by
  rw [List.take_add_one, h]; rfl

set_option maxRecDepth 100000 in
set_option maxHeartbeats 2000000 in
theorem refReal_in (s : ByteArray) (hs : s.size ≤ 10000) (w : World) :
    CallsIn Fence.wide 8 Tryd.prog 14 #[.string s] w (RrV (tk (bs s) 0) w) := by
  have hLn := tk_size s
  have HL := Lib.hid (refList_any s hs w)
  generalize tk (bs s) 0 = L at HL hLn ⊢
  refine callsIn_of_wp Tryd.func14 rfl trivial ?_ rfl
  simp only [Tryd.ntmps14, List.size_toArray, List.length_cons, List.length_nil, Nat.reduceAdd, Nat.reduceSub, Array.replicate_succ, Array.replicate_zero, List.push_toArray, List.append_toArray, List.nil_append, List.cons_append]
  gi_wp2_with (refine ⟨trivial, ?_⟩; gi_at_call 9; refine (callsIn_wide.2 HL.out).mono ?_; rintro e w1 ⟨A, c, rfl, hr, hra, hB1⟩)
  gi_loopw [6, 7] (fun o i wr => ∃ k : Nat, i = .int .i64 k ∧ k ≤ L.length ∧ Below w1.heap.size w1 wr ∧ wr.ownsRow w1.heap.size 33 3 o (rls (L.take k)).length (tcells (rls (L.take k))) ∧ bad (L.take k) = none) (fun _ i _ => L.length + 1 - (intOf i).toNat)
  case atStart => exact ⟨0, rfl, Nat.zero_le _, Below.refl _ _, World.ownsRow_nil _ _ _ _, rfl⟩
  case round =>
    obtain ⟨k, rfl, hk, hB, hown, hbd⟩ := hrel
    obtain ⟨A0, c0, rfl⟩ := own_slice hown
    have hlen : (rls (L.take k)).length ≤ k := Nat.le_trans (rls_len _) (by simp; omega)
    by_cases hlt : k < L.length
    · have he : L[k]? = some L[k] := List.getElem?_eq_getElem hlt
      generalize L[k] = x at he
      have z1 : (0 : Int) ≤ k := by omega
      have z2 : (k : Int) < L.length := by omega
      obtain ⟨b, off, rfl, hb, c0', c1', c2'⟩ := tok_at (hr.below hB) he
      have HT := Lib.hid (take_next he)
      have HB := Lib.hid hbd
      have b7 := beqd (x.k : Int) 7
      clear hbd he
      by_cases k7 : x.k = 7
      · rw [decide_eq_true (by omega)] at b7
        have HF : Hid (bad L = some x) := Lib.hid (bad_first (l := L.take k) (by rw [← HT.out]; exact List.take_prefix _ _) HB.out k7)
        refine wpIn_wide.2 ?_
        go_wp2
        go_quiet (fail)
        go_wp2
        refine bodyPost_ret (v := .tuple #[.slice none 0 0, .int .i64 (x.a : Nat), .bool false]) (by simp [results, Tryd.results14, go_sem]) rfl ?_
        exact ⟨none, 0, by simp [rlT, rlA, rlB, HF.out], by simp [rlT, HF.out, tcells, Rdc], (fun a ha => by cases ha), below_drewN (hB1.trans (hB.mono hB1.size)) _⟩
      · rw [decide_eq_false (by omega)] at b7
        by_cases k2 : 2 < x.k
        · have d2 : decide ((2 : Int) < (x.k : Int)) = true := decide_eq_true (by omega)
          gi_wp2_with (gi_at_builtin; refine Stay.out ?_)
          refine Stay.in_ ?_
          refine wpListIn_append_at (wr.alloc _) rfl _ _ 23 rfl w1.heap.size 33 _ 3 24 Tryd.underlying23 info_rtoken rfl (by decide) _ (rls (L.take k)).length _ rfl (hown.alloc _) wr.heap.size _ rfl (World.alloc_heap_new wr _) rfl (by intro u hu; simp at hu; rcases hu with rfl | rfl | rfl <;> rfl) (by unfold maxLen; omega) (by omega) (by have := hB.size; simp; omega) ?_
          intro v' w2 hown2 hgrow hat
          obtain ⟨A1, c1, rfl⟩ := own_slice hown2
          gi_wp2
          go_roundw
          case rel =>
            refine ⟨k + 1, by go_num, by omega, (hB.alloc hB.size _).grown hgrow (by have := hB.size; simp; omega) (fun j hj => (World.ownsRow.lt hown j hj).1), ?_, by rw [HT.out]; exact bad_snoc HB.out k7⟩
            rw [HT.out, rls_snoc, if_pos k2, List.length_append, tcells_snoc]
            simpa using hown2
          case measure => simp [intOf]; omega
        · have d2 : decide ((2 : Int) < (x.k : Int)) = false := decide_eq_false (by omega)
          gi_wp2
          go_roundw
          case rel => exact ⟨k + 1, by go_num, by omega, hB, by rw [HT.out, rls_snoc, if_neg k2]; exact hown, by rw [HT.out]; exact bad_snoc HB.out k7⟩
          case measure => simp [intOf]; omega
    · obtain rfl : k = L.length := by omega
      gi_wp2
      rw [List.take_length] at hown hbd
      refine bodyPost_ret (v := .tuple #[.slice A0 (rls L).length c0, .int .i64 0, .bool true]) (by simp [results, Tryd.results14, go_sem]) rfl ?_
      refine ⟨A0, c0, by simp [rlT, rlA, rlB, hbd], by rw [show rlT L = rls L by simp [rlT, hbd]]; exact own_read hown, (fun a ha => Nat.le_trans hB1.size (World.ownsRow.lt hown a.block (by rw [ha]; rfl)).1), hB1.trans (hB.mono hB1.size)⟩

theorem refReal_any (s : ByteArray) (hs : s.size ≤ 10000) (w : World) : Calls Tryd.prog 14 #[.string s] w (RrV (tk (bs s) 0) w) := callsIn_wide.1 (refReal_in s hs w)

theorem assert_errno (w : World) (v : Value) : (Instr.typeAssert (.iface 45 v) 39 45 true).run Tryd.prog w = .ok (.tuple #[v, .bool true]) w := by kernel_rfl

set_option maxRecDepth 100000 in
set_option maxHeartbeats 400000 in
theorem num_errno (n : Int) (hn : 0 < n) (w : World) :
    Calls Tryd.prog 25 #[errn n] w fun e w' => e = .returned (.int .i64 n) ∧ w = w' := by
  have h1 : (n != 0) = true := by rw [bne_iff_ne]; omega
  have ha := assert_errno
  go_enter Tryd.func25, Tryd.ntmps25
  go_wp2
  go_ret
  exact ⟨rfl, rfl⟩

set_option maxHeartbeats 400000 in
theorem is_errno (n m : Int) (hn : 0 < n) (w : World) :
    Calls Tryd.prog 15 #[errn n, .int .i64 m] w fun e w' => e = .returned (.bool (n == m)) ∧ w = w' := by
  go_enter Tryd.func15, Tryd.ntmps15
  go_wp2_with (go_at_call 25; refine (num_errno n hn _).mono ?_; rintro e w' ⟨rfl, rfl⟩)
  go_ret
  exact ⟨rfl, rfl⟩

set_option maxHeartbeats 1000000 in
theorem reals_long (s : ByteArray) (hs : 4000 < s.size) (w : World) (hL : LaidX w) :
    Calls Tryd.prog 4 #[.string s] w fun e w' => e = .returned (.bool true) ∧ Below w.heap.size w w' := by
  go_enter Tryd.func4, Tryd.ntmps4
  go_wp2_with (go_at_call 8; refine (alive_any _ hL).mono ?_; rintro e w1 ⟨rfl, hB1⟩)
  go_ret
  exact ⟨rfl, hB1⟩

set_option maxRecDepth 100000 in
set_option maxHeartbeats 4000000 in
theorem reals_short (s : ByteArray) (hs : ¬ 4000 < s.size) (w : World) (hL : LaidX w) :
    Calls Tryd.prog 4 #[.string s] w fun e w' => e = .returned (.bool true) ∧ Below w.heap.size w w' := by
  have HR := Lib.hid (real_any s (by omega))
  have HD := Lib.hid (refReal_any s (by omega))
  have HC := Lib.hid (clean_any s (by omega))
  have hLn := tk_size s
  generalize tk (bs s) 0 = L at HR HD HC hLn
  have hT : (rlT L).length ≤ 20000 := by
    unfold rlT
    split
    · simp
    · have := rls_len L; omega
  have HS := Lib.hid (fun (A A2 : Option Addr) (c c2 : Nat) (w : World) => same_any A A2 c c2 (rlT L) w hT)
  clear hT
  unfold RlV at HR
  unfold RrV at HD
  have hbe : ((rlA L : Int) == (rlA L : Int)) = true := by simp
  cases hb : bad L with
  | none =>
    have e1 : rlE L = .nilIface := by simp [rlE, hb]
    have e2 : rlB L = true := by simp [rlB, hb]
    rw [e1] at HR
    rw [e2] at HD HC
    generalize rlT L = T at HR HD HS
    generalize rlA L = k at HR HD hbe
    clear e1 e2 hb
    go_enter Tryd.func4, Tryd.ntmps4
    go_wp2_with (first | (go_at_call 8; refine (alive_any _ hL).mono ?_; rintro e w1 ⟨rfl, hB1⟩) | (go_at_call 13; refine (HR.out _ (hL.below hB1)).mono ?_; rintro e w2 ⟨A, c, rfl, hr, _, hB2⟩) | (go_at_call 14; refine (HD.out _).mono ?_; rintro e w3 ⟨A2, c2, rfl, hr2, _, hB3⟩) | (go_at_call 11; refine (HS.out _ _ _ _ _ (hr.after hB3) hr2).mono ?_; rintro e w4 ⟨rfl, hB4⟩; have hB24 : Below w.heap.size w w4 := hB1.trans ((hB2.trans ((hB3.trans (hB4.mono hB3.size)).mono hB2.size)).mono hB1.size)) | (go_at_call 16; refine (HC.out _ (hL.below hB24)).mono ?_; rintro e w5 ⟨rfl, hB5⟩))
    go_ret
    exact ⟨rfl, hB24.trans (hB5.mono hB24.size)⟩
  | some t =>
    have e1 : rlE L = errn 2 := by simp [rlE, hb]
    have e2 : rlB L = false := by simp [rlB, hb]
    rw [e1] at HR
    rw [e2] at HD HC
    generalize rlT L = T at HR HD HS
    generalize rlA L = k at HR HD hbe
    clear e1 e2 hb
    go_enter Tryd.func4, Tryd.ntmps4
    go_wp2_with (first | (go_at_call 8; refine (alive_any _ hL).mono ?_; rintro e w1 ⟨rfl, hB1⟩) | (go_at_call 13; refine (HR.out _ (hL.below hB1)).mono ?_; rintro e w2 ⟨A, c, rfl, hr, _, hB2⟩) | (go_at_call 14; refine (HD.out _).mono ?_; rintro e w3 ⟨A2, c2, rfl, hr2, _, hB3⟩) | (go_at_call 11; refine (HS.out _ _ _ _ _ (hr.after hB3) hr2).mono ?_; rintro e w4 ⟨rfl, hB4⟩; have hB24 : Below w.heap.size w w4 := hB1.trans ((hB2.trans ((hB3.trans (hB4.mono hB3.size)).mono hB2.size)).mono hB1.size)) | (go_at_call 15; refine (is_errno _ _ (by omega) _).mono ?_; rintro e w' ⟨rfl, rfl⟩) | (go_at_call 16; refine (HC.out _ (hL.below hB24)).mono ?_; rintro e w5 ⟨rfl, hB5⟩))
    go_ret
    exact ⟨rfl, hB24.trans (hB5.mono hB24.size)⟩

theorem reals_walk (s : ByteArray) (w : World) (hL : LaidX w) :
    Calls Tryd.prog 4 #[.string s] w fun e w' => e = .returned (.bool true) ∧ Below w.heap.size w w' := by
  by_cases hs : 4000 < s.size
  · exact reals_long s hs w hL
  · exact reals_short s hs w hL
end Go.Proofs.YtjmdnjflcifpmaaDoor
