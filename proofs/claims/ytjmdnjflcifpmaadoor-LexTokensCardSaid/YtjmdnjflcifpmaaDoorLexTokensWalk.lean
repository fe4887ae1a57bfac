/- The law LexTokens, walked. -/
import Derived.Test.YtjmdnjflcifpmaaDoorLexSame
import Derived.Test.YtjmdnjflcifpmaaDoorTextStore
import Derived.Deep.DeepCutAuto
import Derived.Deep.RegionHeld3
namespace Go.Proofs.YtjmdnjflcifpmaaDoor
open Go.RowKit Go.Shelf SignMath

attribute [local go_sem] Oper.semAt_some

/-- A region of a round that draws its order, and only reads. -/
theorem wpIn_region_quiet_lit {P : Program} {l n id : Nat} {Q : Exit → Act → World → Prop} {a : Act} {w : World} {ops : List Oper} (hm : P.follows .mixedOrders = true) (hB : Region.lexB .any ops.toArray = true) (hnd : noDefer ops.toArray = true) (hQ : ¬ LetsOut Q)
    (h : wpQuiet P ops.toArray (fun w' => ∃ n, w' = w.drewN n) (fun a' => ∀ w', (∃ n, w' = w.drewN n) → Q .normal a' w') ops a) : (Code.region id ops.toArray true).wpIn (Fence.wide.inRound l) n P Q a w := by
  simp only [Region.lexB, Bool.and_eq_true] at hB
  refine wpIn_region_any hm (wpAnyIn_of_wpAny hQ (noDefer_spec hnd) _ _ _ _ (wpAny_of_quiet (C := fun w' => ∃ n, w' = w.drewN n) (Q := fun a' => ∀ w', (∃ n, w' = w.drewN n) → Q .normal a' w') (fun _ w' hw' h => h w' hw') _ _ _ _ ⟨1, rfl⟩ ?_))
  have := wpAnyQ_lex (C := fun w' => ∃ n, w' = w.drewN n) (md := .any) hB.1 ops 0 (Array.replicate ops.toArray.size false) a (by simp) (by simpa using hB.2) h
  simpa using this

theorem Rdc.setOther {w : World} {B : Nat} {A : Option Addr} {cs : List Value} {p : Addr} {v : Value} (h : Rdc w B A cs) (hne : ∀ a, A = some a → a.block ≠ p.block) : Rdc (w.setCell p v) B A cs := fun hn => by
  obtain ⟨b, off, rfl, hb, hc⟩ := h.at_ hn
  exact ⟨b, off, rfl, hb, fun j u hu => by rw [World.cell?_setCell_other _ _ _ _ (fun e => hne _ rfl (by rw [e]))]; exact hc j u hu⟩

theorem stop_range (st : Int) : 1 ≤ wrap64 (1 + wrap64 ((IntKind.u64.wrap st).tmod 40)) ∧ wrap64 (1 + wrap64 ((IntKind.u64.wrap st).tmod 40)) ≤ 40 := by
  have h0 : 0 ≤ IntKind.u64.wrap st := by simp [IntKind.wrap, IntKind.signed, IntKind.bits]; omega
  have h1 := Int.tmod_nonneg 40 h0
  have h2 := Int.tmod_lt_of_pos (IntKind.u64.wrap st) (by decide : (0 : Int) < 40)
  generalize (IntKind.u64.wrap st).tmod 40 = x at h1 h2
  unfold wrap64
  omega

theorem Off.drewN (X : Nat → Prop) (W : World) (n : Nat) : Off X W (W.drewN n) := ⟨rfl, rfl, rfl, Nat.le_refl _, fun _ _ _ => rfl⟩
theorem Kept.drewN (X : Nat → Prop) (W : World) (n : Nat) : Kept X W (W.drewN n) := fun _ _ _ => rfl
theorem pref_at {α : Type} {pre : List α} {x : α} {xs : List α} (h : (pre ++ [x]) <+: xs) : xs[pre.length]? = some x := by
  obtain ⟨r, rfl⟩ := h; simp

/-- between two tokens -/
def TkB (w : World) (s : ByteArray) (pre : List Tk) : As := fun X W => Low w.heap.size w X W ∧ Has (w.heap.size + 1) (.cells #[.string s] 9 (0, 0)) X W ∧ Has w.heap.size (.cells #[.int .i64 (pre.length : Nat)] 3 (0, 0)) X W
theorem TkB.frames (w : World) (s : ByteArray) (pre : List Tk) : Frames (TkB w s pre) := (Low.frames _ _).and ((Has.frames _ _).and (Has.frames _ _))
def TkI (w : World) (s : ByteArray) (v : Nat) (pre : List Tk) : As := fun X W => TkB w s pre X W ∧ pre.length < v
theorem TkI.frames (w : World) (s : ByteArray) (v : Nat) (pre : List Tk) : Frames (TkI w s v pre) := (TkB.frames _ _ _).and (Frames.pure _)
def TkX (w : World) (s : ByteArray) (v : Nat) (c : Code) (pre : List Tk) : As := fun X W => TkB w s pre X W ∧ (pre.length = v ∧ c = .exit 0)
theorem TkX.frames (w : World) (s : ByteArray) (v : Nat) (c : Code) (pre : List Tk) : Frames (TkX w s v c pre) := (TkB.frames _ _ _).and (Frames.pure _)
theorem TkB.step {w W : World} {s : ByteArray} {pre : List Tk} {x : Tk} {X : Nat → Prop} (h : TkB w s pre X W) : TkB w s (pre ++ [x]) X (W.setCell ⟨w.heap.size, 0, none⟩ (.int .i64 ((pre.length : Nat) + 1))) := by
  obtain ⟨hlow, h7, h6⟩ := h
  refine ⟨⟨hlow.1.setCell (p := ⟨w.heap.size, 0, none⟩) (Nat.le_refl _) _, by have := hlow.2.1; simp only [World.setCell, Array.size_modify]; exact this, hlow.2.2⟩, h7.other (by omega), ?_⟩
  have := h6.set (v' := .int .i64 ((pre.length : Nat) + 1))
  simpa using this

set_option maxRecDepth 100000 in
set_option maxHeartbeats 4000000 in
theorem tokens_in (s : ByteArray) (st : Int) (_hst : -9223372036854775808 ≤ st ∧ st ≤ 9223372036854775807) (hs : ¬ 4000 < s.size) (w : World) (hL : LaidX w) :
    CallsIn Fence.wide 8 Tryd.prog 3 #[.string s, .int .i64 st] w fun e w' => e = .returned (.bool true) ∧ Below w.heap.size w w' := by
  have HRL := Lib.hid (refList_any s (by omega))
  have HLI := Lib.hid (list_any s (by omega))
  have HIT := Lib.hid (all_iter s (by omega))
  have hLn := tk_size s
  generalize tk (bs s) 0 = L at HRL HLI HIT hLn
  refine callsIn_of_wp_marks Tryd.func3 rfl trivial ?_ rfl
  simp only [Tryd.ntmps3, List.size_toArray, List.length_cons, List.length_nil, Nat.reduceAdd, Nat.reduceSub, Array.replicate_succ, Array.replicate_zero, List.push_toArray, List.append_toArray, List.nil_append, List.cons_append]
  refine wpIn_wide.2 ?_
  go_upto_region 6 with (first | (go_at_call 8; refine (alive_any _ (hL.below ((below1 w _).trans ((below1 _ _).mono (by simp))))).mono ?_; rintro e w1 ⟨rfl, hB1⟩; have hR1 : w1.heap[w.heap.size]? = some (.cells #[.int .i64 st] 3 (0, 0)) := (hB1.block w.heap.size (by simp; omega)).trans ((Below.heap_alloc _ _ _ (by simp)).trans (World.alloc_heap_new w _)); have hR2 : w1.heap[w.heap.size + 1]? = some (.cells #[.bool false] 4 (0, 0)) := (hB1.block (w.heap.size + 1) (by simp)).trans (by have := World.alloc_heap_new (w.alloc (.cells #[.int .i64 st] 3)) (.cells #[.bool false] 4); rwa [World.size_alloc] at this); have hc := Lib.cell_of_heap hR2 0; have hf := Lib.frozen_of_heap hR2 0; simp only [List.getElem?_toArray, List.getElem?_cons_zero] at hc; have hB0 : Below w.heap.size w w1 := ((below1 w _).trans ((below1 _ _).mono (by simp))).trans (hB1.mono (by simp; omega))) | (go_at_call 9; refine (HRL.out _).mono ?_; rintro e w2 ⟨A, c, rfl, hr, hra, hB2⟩))
  obtain ⟨b5, hb5⟩ : ∃ b5, b5 = w2.heap.size := ⟨_, rfl⟩
  have hB3 : Below w1.heap.size w1 (w2.alloc (.cells #[.slice A L.length c] 23)) := hB2.alloc hB2.size _
  have h35 : (w2.alloc (.cells #[.slice A L.length c] 23)).heap[b5]? = some (.cells #[.slice A L.length c] 23 (0, 0)) := by rw [hb5]; exact World.alloc_heap_new _ _
  have hr3 := hr.after (below1 w2 (.cells #[.slice A L.length c] 23))
  rw [← hb5]
  generalize w2.alloc (.cells #[.slice A L.length c] 23) = w3 at *
  have hBw : Below w.heap.size w w3 := hB0.trans (hB3.mono hB0.size)
  have h30 : w3.heap[w.heap.size]? = some (.cells #[.int .i64 st] 3 (0, 0)) := (hB3.block _ (lt_of_heap hR1)).trans hR1
  have h31 : w3.heap[w.heap.size + 1]? = some (.cells #[.bool false] 4 (0, 0)) := (hB3.block _ (lt_of_heap hR2)).trans hR2
  have h5w : w.heap.size + 1 < b5 := by have := lt_of_heap hR2; have := hB2.size; omega
  have hA5 : ∀ a, A = some a → a.block ≠ w.heap.size := fun a ha => by have := hra a ha; have := lt_of_heap hR1; omega
  clear hB1 hR1 hR2 hf hc hB0 hr hra hB2 hB3 hb5
  have c30 := Lib.cell_of_heap h30 0
  have f30 := Lib.frozen_of_heap h30 0
  simp only [List.getElem?_toArray, List.getElem?_cons_zero] at c30
  go_wp2_with (go_at_call 10; refine (lexAll_any s _).mono ?_; rintro e w4 ⟨rfl, rfl⟩)
  have hV := stop_range st
  generalize wrap64 (1 + wrap64 ((IntKind.u64.wrap st).tmod 40)) = V at hV
  obtain ⟨v, rfl⟩ : ∃ v : Nat, V = v := ⟨V.toNat, by omega⟩
  have hv1 : 1 ≤ v ∧ v ≤ 40 := by omega
  clear hV c30 f30
  have h40 : (w3.setCell ⟨w.heap.size, 0, none⟩ (.int .i64 (v : Nat))).heap[w.heap.size]? = some (.cells #[.int .i64 (v : Nat)] 3 (0, 0)) := Boxed.set _ h30
  have h41 : (w3.setCell ⟨w.heap.size, 0, none⟩ (.int .i64 (v : Nat))).heap[w.heap.size + 1]? = some (.cells #[.bool false] 4 (0, 0)) := (Below.heap_setCell _ _ _ _ (by simp)).trans h31
  have h45 : (w3.setCell ⟨w.heap.size, 0, none⟩ (.int .i64 (v : Nat))).heap[b5]? = some (.cells #[.slice A L.length c] 23 (0, 0)) := (Below.heap_setCell _ _ _ _ (by show b5 ≠ w.heap.size; omega)).trans h35
  have hsz4 : (w3.setCell ⟨w.heap.size, 0, none⟩ (.int .i64 (v : Nat))).heap.size = w3.heap.size := by simp [World.setCell]
  have hr4 : Rdc (w3.setCell ⟨w.heap.size, 0, none⟩ (.int .i64 (v : Nat))) (w3.setCell ⟨w.heap.size, 0, none⟩ (.int .i64 (v : Nat))).heap.size A (tcells L) := by rw [hsz4]; exact hr3.setOther hA5
  have hB4 := hBw.setCell (p := ⟨w.heap.size, 0, none⟩) (Nat.le_refl _) (.int .i64 (v : Nat))
  clear hr3 hBw h30 h31 h35 hA5
  generalize w3.setCell ⟨w.heap.size, 0, none⟩ (.int .i64 (v : Nat)) = w4 at *
  rw [← hsz4]
  clear hsz4
  have hL4 := hL.below hB4
  have hcell0 : ∀ W' : World, Below w4.heap.size w4 W' → W'.cell? ⟨w.heap.size, 0, none⟩ = some (.int .i64 (v : Nat)) ∧ W'.cell? ⟨b5, 0, none⟩ = some (.slice A L.length c) := fun W' hb => by
    have e0 := Lib.cell_of_heap ((hb.block _ (lt_of_heap h40)).trans h40) 0
    have e5 := Lib.cell_of_heap ((hb.block _ (lt_of_heap h45)).trans h45) 0
    exact ⟨by simpa using e0, by simpa using e5⟩
  have HC0 := Lib.hid hcell0
  clear hcell0
  refine (wpIn_wide (n := 8)).1 ?_
  refine range_post (HIT.out w4 hL4 (w4.heap.size + 1)) rfl eg_all (fun _ => rfl) (TkI w4 s v) (TkX w4 s v) (fun pre x a' X W => ∃ bp, TkI w4 s v pre X W ∧ Has bp (tkc x) X W ∧ a' = ({ tmps := #[.string s, .int .i64 st, undef, .pointer (some ⟨w.heap.size, 0, none⟩), .pointer (some ⟨w.heap.size + 1, 0, none⟩), .pointer (some ⟨b5, 0, none⟩), .pointer (some ⟨w4.heap.size, 0, none⟩), .pointer (some ⟨bp, 0, none⟩), .bool true, .bool false, .string s, .int .i64 (s.size : Nat), .bool (decide (4000 < (s.size : Int))), .string s, .slice A L.length c, .int .i64 st, .int .u64 (IntKind.u64.wrap st), .int .u64 ((IntKind.u64.wrap st).tmod 40), .int .i64 (wrap64 ((IntKind.u64.wrap st).tmod 40)), .int .i64 (v : Nat), .string s, .func (.func 22) #[] #[.pointer (some ⟨w4.heap.size + 1, 0, none⟩)], tkv x, undef, undef, undef, undef, undef, undef, undef, undef, undef, undef, undef, undef, undef, undef, undef, undef, undef, undef, undef, undef, undef, undef, undef, undef, undef, undef, undef, undef, undef, undef, undef, undef, undef, undef, undef, undef, undef, undef, undef, undef, undef, undef, undef, undef, undef, undef, undef, undef, undef, undef, undef], defers := [] } : Act)) ?fI ?fX ?fA ?hC ?h0 0 ?hQ (fun D W => ∃ pre : List Tk, TkB w4 s pre (· = D) W ∧ (pre.length = min v L.length) ∧ W.heap[D]? = some (.deferred (some []))) ?done ?stop ?assign ?body ?tail
  case assign =>
    rintro lq X pre x W1 K hX hXb hi hp hK
    gi_wp2
    have hi' := (TkI.frames w4 s v pre).off hi (Off.alloc X W1 (tkc x))
    have hn' := Has.new hXb (tkc x)
    have hk' := Kept.alloc X W1 (tkc x)
    have hs' : W1.heap.size ≤ (W1.alloc (tkc x)).heap.size := by simp
    generalize hbp : W1.heap.size = bp at *
    exact hK _ _ hs' hk' ⟨bp, hi', hn', rfl⟩
  case fI => exact fun pre => TkI.frames _ _ _ _
  case fX => exact fun c pre => TkX.frames _ _ _ _ _
  case fA => exact fun pre p a' => Frames.ex fun bp => (TkI.frames _ _ _ _).and ((Has.frames _ _).and (Frames.pure _))
  case hC => exact fun pre X W1 h => ⟨h.1.1, h.1.2.1⟩
  case h0 => exact ⟨⟨⟨((below1 w4 _).trans ((below1 _ _).mono (by simp))), by simp; omega, fun _ h => h.elim⟩, ⟨fun h => h, by have := World.alloc_heap_new (w4.alloc (.cells #[.int .i64 0] 3)) (.cells #[.string s] 9); rwa [World.size_alloc] at this⟩, ⟨fun h => h, (Below.heap_alloc _ _ _ (by simp)).trans (World.alloc_heap_new w4 _)⟩⟩, by have := hv1.1; simp; omega⟩
  case hQ => exact fun a w h => h
  case done => exact fun D W hi hD => ⟨L, hi.1, by have := hi.2; omega, hD⟩
  case stop => exact fun D c pre W hp hi hD => ⟨hi.2.2, pre, hi.1, by have := hi.2.1; have := hp.length_le; omega, hD⟩
  case body =>
    rintro lq X pre x a' W1 hX hXb hr2 ⟨bp, ⟨⟨hlow, h7, h6⟩, hltv⟩, hbp, rfl⟩ hp
    have hx := pref_at hp
    have hlen := (List.getElem?_eq_some_iff.1 hx).1
    obtain ⟨c0, c5⟩ := HC0.out W1 hlow.1
    have q6 := h6.cell (i := 0)
    have f6 := h6.frozen (i := 0)
    have p0 := hbp.cell (i := 0)
    have p1 := hbp.cell (i := 1)
    have p2 := hbp.cell (i := 2)
    simp only [List.getElem?_toArray, List.getElem?_cons_zero, List.getElem?_cons_succ] at q6 p0 p1 p2
    obtain ⟨b, off, rfl, hb, t0, t1, t2⟩ := tok_at (hr4.below hlow.1) hx
    have n0 : ((x.k : Int) != x.k) = false := by simp
    have n1 : ((x.a : Int) != x.a) = false := by simp
    have n2 : ((x.z : Int) != x.z) = false := by simp
    have z1 : (0 : Int) ≤ pre.length := by omega
    have z2 : (pre.length : Int) < L.length := by omega
    have hge : decide ((L.length : Int) ≤ (pre.length : Int)) = false := decide_eq_false (by omega)
    clear hp hx hb
    gi_wp2
    refine wpIn_region_quiet_lit (by kernel_rfl) (by kernel_rfl) (by kernel_rfl) ?hQ2 ?_
    case hQ2 => rintro ⟨_, _, h⟩; exact h
    repeat (quiet_step (fail))
    refine wpQuiet_nil ?_
    rintro _ ⟨nq, rfl⟩
    have hT : TkB w4 s pre X (W1.drewN nq) := (TkB.frames _ _ _).off ⟨hlow, h7, h6⟩ (Off.drewN X W1 nq)
    have hk1 : Kept X W1 (W1.drewN nq) := Kept.drewN X W1 nq
    have hs1 : W1.heap.size ≤ (W1.drewN nq).heap.size := Nat.le_refl _
    clear hlow h7 h6 c0 c5 q6 f6 p0 p1 p2 t0 t1 t2 hbp
    generalize W1.drewN nq = W3 at *
    obtain ⟨c0, c5⟩ := HC0.out W3 hT.1.1
    have q6 := hT.2.2.cell (i := 0)
    have f6 := hT.2.2.frozen (i := 0)
    simp only [List.getElem?_toArray, List.getElem?_cons_zero] at q6
    have hne : w.heap.size ≠ w4.heap.size := by have := lt_of_heap h40; omega
    have hnx := hT.2.2.1
    have hT2 := hT.step (x := x)
    have hs3 : W1.heap.size ≤ (W3.setCell ⟨w4.heap.size, 0, none⟩ (.int .i64 ((pre.length : Nat) + 1))).heap.size := by simp only [World.setCell, Array.size_modify]; exact hs1
    have hk3 : Kept X W1 (W3.setCell ⟨w4.heap.size, 0, none⟩ (.int .i64 ((pre.length : Nat) + 1))) := Kept.trans hs1 hk1 (Kept.set hnx _ _)
    clear hT hk1 hs1
    have hbe := beqd ((pre.length : Int) + 1) (v : Int)
    by_cases hq : pre.length + 1 = v
    · rw [decide_eq_true (by omega)] at hbe
      gi_wp2
      exact ⟨hs3, hk3, hT2, by simpa using hq, rfl⟩
    · rw [decide_eq_false (by omega)] at hbe
      gi_wp2
      exact ⟨hs3, hk3, hT2, by simp; omega⟩
  case tail =>
    rintro D W1 ⟨pre, ⟨hlow, h7, h6⟩, hmin, hD⟩
    have hBd : Below w4.heap.size w4 W1.drew := hlow.1.drew
    have hBs : w4.heap.size ≤ W1.drew.heap.size := hlow.2.1
    have hLd : LaidX W1.drew := hL4.below hBd
    have hr4d : Rdc W1.drew W1.drew.heap.size A (tcells L) := (hr4.below hBd).more hBs
    have hb1 : W1.drew.heap[w.heap.size + 1]? = some (.cells #[.bool false] 4 (0, 0)) := (hBd.block _ (lt_of_heap h41)).trans h41
    have hDs := hlow.2.2 D rfl
    have hDd : W1.drew.heap[D]? = some (.deferred (some [])) := hD
    have hcell : ∀ W' : World, Below W1.drew.heap.size W1.drew W' → W'.cell? ⟨w4.heap.size, 0, none⟩ = some (.int .i64 (pre.length : Nat)) ∧ W'.cell? ⟨w.heap.size, 0, none⟩ = some (.int .i64 (v : Nat)) ∧ W'.cell? ⟨b5, 0, none⟩ = some (.slice A L.length c) := fun W' hb => by
      obtain ⟨e0, e5⟩ := HC0.out W' (hBd.trans (hb.mono hBs))
      have e6 := Lib.cell_of_heap ((hb.block _ h6.lt).trans h6.2) 0
      exact ⟨by simpa using e6, e0, e5⟩
    have hS := hcell W1.drew (Below.refl _ _)
    have hne1 : w.heap.size + 1 ≠ w4.heap.size := by have := lt_of_heap h41; omega
    have hne5 : w.heap.size + 1 ≠ b5 := by omega
    have hBw4 := hB4
    have hmn : min (v : Int) (L.length : Int) = (pre.length : Int) := by omega
    have hbe : ((pre.length : Int) == (pre.length : Int)) = true := by simp
    clear h40 h45 hlow h7 h6 hD hr4
    go_wp2
    rename_i K0 hK0
    refine wp_region_noPanic (wp_region_held (S := fun W' => W'.cell? ⟨w4.heap.size, 0, none⟩ = some (.int .i64 (pre.length : Nat)) ∧ W'.cell? ⟨w.heap.size, 0, none⟩ = some (.int .i64 (v : Nat)) ∧ W'.cell? ⟨b5, 0, none⟩ = some (.slice A L.length c)) (by kernel_rfl) ?_)
    show wpAnyH _ _ _ _ _ _ _ _ W1.drew
    refine wpAnyH_take_d (i := 0) (v := .string s) 62 rfl rfl (by kernel_rfl) (by kernel_rfl) (by kernel_rfl) (fun _ _ _ h => h) (Or.inl ⟨by kernel_rfl, fun w' hS' => ?y0⟩) hS ?_
    case y0 => (obtain ⟨s1, s2, s3⟩ := hS'; go_simp)
    simp only [Act.put, List.setIfInBounds_toArray, List.set_cons_zero, List.set_cons_succ]
    refine wpAnyH_take_d (i := 2) (v := .slice A L.length c) 64 rfl rfl (by kernel_rfl) (by kernel_rfl) (by kernel_rfl) (fun _ _ _ h => h) (Or.inl ⟨by kernel_rfl, fun w' hS' => ?y2⟩) hS ?_
    case y2 => (obtain ⟨s1, s2, s3⟩ := hS'; go_simp)
    simp only [Act.put, List.setIfInBounds_toArray, List.set_cons_zero, List.set_cons_succ]
    refine wpAnyH_ready (rs := [1]) (by kernel_rfl) (by simp) ?_
    refine AllReadyH.cons rfl (fun K hK => ?_) AllReadyH.nil
    go_simp
    refine (HLI.out _ hLd).mono ?_
    rintro e w6 ⟨A2, c2, rfl, hr6, _, hb6⟩
    have hS6 := hcell w6 hb6
    refine hK.out _ _ hS6 (fun _ => ?_)
    clear hK K
    try simp only [Act.put, List.setIfInBounds_toArray, List.set_cons_zero, List.set_cons_succ]
    refine wpAnyH_ready (rs := [3]) (by kernel_rfl) (by simp) ?_
    refine AllReadyH.cons rfl (fun K hK => ?_) AllReadyH.nil
    go_simp
    refine (same_any A2 A c2 c L w6 (by omega) hr6 (hr4d.after hb6)).mono ?_
    rintro e w7 ⟨rfl, hb7⟩
    have hB7 := hb6.trans (hb7.mono hb6.size)
    have hS7 := hcell w7 hB7
    refine hK.out _ _ hS7 (fun _ => ?_)
    clear hK K
    try simp only [Act.put, List.setIfInBounds_toArray, List.set_cons_zero, List.set_cons_succ]
    refine wpAnyH_take_d (i := 4) (v := .bool true) 66 rfl rfl (by kernel_rfl) (by kernel_rfl) (by kernel_rfl) (fun _ _ _ h => h) (Or.inl ⟨by kernel_rfl, fun w' hS' => ?y4⟩) hS7 ?_
    case y4 => (obtain ⟨s1, s2, s3⟩ := hS'; go_simp)
    simp only [Act.put, List.setIfInBounds_toArray, List.set_cons_zero, List.set_cons_succ]
    refine wpAnyH_take_d (i := 5) (v := .int .i64 (pre.length : Nat)) 67 rfl rfl (by kernel_rfl) (by kernel_rfl) (by kernel_rfl) (fun _ _ _ h => h) (Or.inl ⟨by kernel_rfl, fun w' hS' => ?y5⟩) hS7 ?_
    case y5 => (obtain ⟨s1, s2, s3⟩ := hS'; go_simp)
    simp only [Act.put, List.setIfInBounds_toArray, List.set_cons_zero, List.set_cons_succ]
    refine wpAnyH_take_d (i := 6) (v := .int .i64 (v : Nat)) 68 rfl rfl (by kernel_rfl) (by kernel_rfl) (by kernel_rfl) (fun _ _ _ h => h) (Or.inl ⟨by kernel_rfl, fun w' hS' => ?y6⟩) hS7 ?_
    case y6 => (obtain ⟨s1, s2, s3⟩ := hS'; go_simp)
    simp only [Act.put, List.setIfInBounds_toArray, List.set_cons_zero, List.set_cons_succ]
    refine wpAnyH_take_d (i := 7) (v := .slice A L.length c) 69 rfl rfl (by kernel_rfl) (by kernel_rfl) (by kernel_rfl) (fun _ _ _ h => h) (Or.inl ⟨by kernel_rfl, fun w' hS' => ?y7⟩) hS7 ?_
    case y7 => (obtain ⟨s1, s2, s3⟩ := hS'; go_simp)
    simp only [Act.put, List.setIfInBounds_toArray, List.set_cons_zero, List.set_cons_succ]
    refine wpAnyH_take_d (i := 8) (v := .int .i64 (L.length : Nat)) 70 rfl rfl (by kernel_rfl) (by kernel_rfl) (by kernel_rfl) (fun _ _ _ h => h) (Or.inl ⟨by kernel_rfl, fun w' hS' => ?y8⟩) hS7 ?_
    case y8 => (obtain ⟨s1, s2, s3⟩ := hS'; go_simp)
    simp only [Act.put, List.setIfInBounds_toArray, List.set_cons_zero, List.set_cons_succ]
    refine wpAnyH_take_d (i := 9) (v := .int .i64 (pre.length : Nat)) 71 rfl rfl (by kernel_rfl) (by kernel_rfl) (by kernel_rfl) (fun _ _ _ h => h) (Or.inl ⟨by kernel_rfl, fun w' hS' => ?y9⟩) hS7 ?_
    case y9 => (obtain ⟨s1, s2, s3⟩ := hS'; go_simp)
    simp only [Act.put, List.setIfInBounds_toArray, List.set_cons_zero, List.set_cons_succ]
    refine wpAnyH_take_d (i := 10) (v := .bool true) 72 rfl rfl (by kernel_rfl) (by kernel_rfl) (by kernel_rfl) (fun _ _ _ h => h) (Or.inl ⟨by kernel_rfl, fun w' hS' => ?y10⟩) hS7 ?_
    case y10 => (obtain ⟨s1, s2, s3⟩ := hS'; go_simp)
    simp only [Act.put, List.setIfInBounds_toArray, List.set_cons_zero, List.set_cons_succ]
    refine wpAnyH_take_d (i := 11) (v := .bool true) 73 rfl rfl (by kernel_rfl) (by kernel_rfl) (by kernel_rfl) (fun _ _ _ h => h) (Or.inl ⟨by kernel_rfl, fun w' hS' => ?y11⟩) hS7 ?_
    case y11 => (obtain ⟨s1, s2, s3⟩ := hS'; go_simp)
    simp only [Act.put, List.setIfInBounds_toArray, List.set_cons_zero, List.set_cons_succ]
    have hb7' := (hB7.block _ (lt_of_heap hb1)).trans hb1
    have g1 := Lib.cell_of_heap hb7' 0
    have g2 := Lib.frozen_of_heap hb7' 0
    simp only [List.getElem?_toArray, List.getElem?_cons_zero] at g1
    refine wpAnyH_store 12 4 (.tmp 4) (.tmp 73) (by kernel_rfl) (by kernel_rfl) Tryd.sizeOf4 ⟨w.heap.size + 1, 0, none⟩ true (by kernel_rfl) (by kernel_rfl) ⟨_, g1⟩ g2
      ⟨(World.cell?_setCell_other _ _ _ _ (fun e => hne1 (by injection e))).trans hS7.1, (World.cell?_setCell_other _ _ _ _ (fun e => by injection e with e1; omega)).trans hS7.2.1, (World.cell?_setCell_other _ _ _ _ (fun e => hne5 (by injection e))).trans hS7.2.2⟩ (by kernel_rfl) ?_
    have hD7 : (w7.setCell ⟨w.heap.size + 1, 0, none⟩ (.bool true)).heap[D]? = some (.deferred (some [])) := (Below.heap_setCell _ _ _ _ (by show D ≠ w.heap.size + 1; have := lt_of_heap h41; omega)).trans ((hB7.block _ (lt_of_heap hDd)).trans hDd)
    have hres : (w7.setCell ⟨w.heap.size + 1, 0, none⟩ (.bool true)).heap[w.heap.size + 1]? = some (.cells #[.bool true] 4 (0, 0)) := Boxed.set _ hb7'
    have hBf : Below w.heap.size w (w7.setCell ⟨w.heap.size + 1, 0, none⟩ (.bool true)) := ((hBw4.trans (hBd.mono hBw4.size)).trans (hB7.mono (Nat.le_trans hBw4.size hBs))).setCell (p := ⟨w.heap.size + 1, 0, none⟩) (by show w.heap.size ≤ w.heap.size + 1; omega) _
    generalize w7.setCell ⟨w.heap.size + 1, 0, none⟩ (.bool true) = w8 at hD7 hres hBf ⊢
    refine hK0 _ _ ?_
    go_wp2
    refine ⟨by simp, .inl ⟨_, _, rfl, run_takeDeferred hD7, ?_⟩⟩
    have r2 : (w8.putObj D (.deferred none)).cell? ⟨w.heap.size + 1, 0, none⟩ = some (.bool true) := by
      have := Lib.cell_of_heap ((World.putObj_heap_other (o := .deferred none) (fun e : w.heap.size + 1 = D => by have := lt_of_heap h41; omega)).trans hres) 0
      simpa using this
    have r3 : Below w.heap.size w (w8.putObj D (.deferred none)) := ((Low.frames w.heap.size w).off (X := (· = D)) ⟨hBf, hBf.size, fun k hk => by subst hk; have := hBw4.size; omega⟩ (Off.putObj (X := (· = D)) rfl _ _)).1
    exact ⟨.bool true, by simp [results, Tryd.results3, go_sem, r2], rfl, r3⟩

set_option maxHeartbeats 1000000 in
/-- a long text -/
theorem tokens_long (s : ByteArray) (st : Int) (hs : 4000 < s.size) (w : World) (hL : LaidX w) :
    Calls Tryd.prog 3 #[.string s, .int .i64 st] w fun e w' => e = .returned (.bool true) ∧ Below w.heap.size w w' := by
  go_enter Tryd.func3, Tryd.ntmps3
  go_wp2_with (go_at_call 8; refine (alive_any _ (hL.below ((below1 w _).trans ((below1 _ _).mono (by simp))))).mono ?_; rintro e w1 ⟨rfl, hB1⟩; have hR2 : Boxed w1 (w.heap.size + 1) 4 (.bool false) := (hB1.block (w.heap.size + 1) (by simp)).trans (by have := World.alloc_heap_new (w.alloc (.cells #[.int .i64 st] 3)) (.cells #[.bool false] 4); rwa [World.size_alloc] at this); have hc := hR2.cell; have hf := hR2.frozen)
  have hres := (hR2.set (.bool true)).cell
  have hB0 : Below w.heap.size w w1 := ((below1 w _).trans ((below1 _ _).mono (by simp))).trans (hB1.mono (by simp; omega))
  exact bodyPost_ret (v := .bool true) (by simp [results, Tryd.results3, go_sem, hres]) rfl ⟨rfl, hB0.setCell (p := ⟨w.heap.size + 1, 0, none⟩) (by show w.heap.size ≤ w.heap.size + 1; omega) _⟩

theorem tokens_walk (s : ByteArray) (st : Int) (hst : -9223372036854775808 ≤ st ∧ st ≤ 9223372036854775807) (w : World) (hL : LaidX w) :
    Calls Tryd.prog 3 #[.string s, .int .i64 st] w fun e w' => e = .returned (.bool true) ∧ Below w.heap.size w w' := by
  by_cases hs : 4000 < s.size
  · exact tokens_long s st hs w hL
  · exact callsIn_wide.1 (tokens_in s st hst hs w hL)
end Go.Proofs.YtjmdnjflcifpmaaDoor
