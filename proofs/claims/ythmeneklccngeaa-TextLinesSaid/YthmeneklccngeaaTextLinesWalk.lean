/- The law TextLines, walked: any text's lines are told as the document tells them. -/
import Derived.Test.YthmeneklccngeaaTextPlacesWalk
import Derived.Test.YthmeneklccngeaaTextRef
import Derived.Test.YthmeneklccngeaaTextLoop
import Derived.Test.YthmeneklccngeaaTextStore
import Derived.Deep.RegionHeld3
namespace Go.Proofs.Ythmeneklccngeaa
open Go.RowKit Go.Shelf

attribute [local go_sem] Oper.semAt_some

theorem stop_val (stop : Int) : ∃ st : Nat, wrap64 (1 + wrap64 ((IntKind.u64.wrap stop).tmod 20)) = (st : Int) ∧ 1 ≤ st ∧ st ≤ 20 := by
  have h0 := wrap_u64_nonneg stop
  generalize IntKind.u64.wrap stop = x at h0
  have h1 : x.tmod 20 = x % 20 := Int.tmod_eq_emod_of_nonneg h0
  rw [h1]
  refine ⟨(1 + x % 20).toNat, ?_, by omega, by omega⟩
  unfold wrap64
  omega

/-- while the lines come: all boxes, and how many have come -/
def LinesI (w w2 : World) (s : ByteArray) (base g cap st : Nat) (pre : List (Nat × ByteArray)) (W : World) : Prop :=
  Boxed W w.heap.size 3 (.int .i64 st) ∧ Boxed W (w.heap.size + 1) 4 (.bool false) ∧
  Boxed W w2.heap.size 38 (.slice (some ⟨g, 0, none⟩) (lnsOf s).length cap) ∧ Fresh W (w2.heap.size + 1) s ∧
  Boxed W (w2.heap.size + 2) 3 (.int .i64 pre.length) ∧ Boxed W (w2.heap.size + 3) 9 (.string s) ∧
  W.ownsRow base 46 2 (.slice (some ⟨g, 0, none⟩) (lnsOf s).length cap) (lnsOf s).length (lcells s (lnsOf s)) ∧ Below w.heap.size w W

theorem linesI_own {w w2 : World} {s : ByteArray} {base g cap st : Nat} {B : Nat} (hB : w.heap.size ≤ B) : OwnFrom B (LinesI w w2 s base g cap st) := by
  rintro pre X Y row ⟨h1, h2, h3, h4, h5, h6, h7, h8⟩ hG hrow
  have ne : ∀ {k : Nat} {c : Array Value} {t : TypeId} {fr : Nat × Nat}, X.heap[k]? = some (.cells c t fr) → some k ≠ row := fun {k c t fr} hk e => by
    obtain ⟨_, o, ho, hc⟩ := hrow k e.symm
    rw [hk] at ho; cases ho; cases hc
  refine ⟨h1.kept hG (ne h1), h2.kept hG (ne h2), h3.kept hG (ne h3), Blk.kept h4 hG (ne h4), h5.kept hG (ne h5), h6.kept hG (ne h6), h7.kept hG ?_, h8.grown hG h8.size (fun k e => by have := (hrow k e).1; omega)⟩
  rcases h7.2 with ⟨h, _⟩ | ⟨g', cap', cur, h, _, hgb, _⟩
  · exact .inl (by rw [h]; rfl)
  · refine .inr ?_
    rw [h]
    exact ne hgb

theorem linesI_step {w w2 W : World} {s : ByteArray} {base g cap st : Nat} {pre : List (Nat × ByteArray)} (h : LinesI w w2 s base g cap st pre W) (z : w.heap.size + 2 ≤ base) (z' : base ≤ w2.heap.size) (hg : g < w2.heap.size) (x : Nat × ByteArray) (B : Nat) :
    KeepsFrom B W (W.setCell ⟨w2.heap.size + 2, 0, none⟩ (.int .i64 ((pre.length : Int) + 1))) ∧ KeepCell (w2.heap.size + 3) W (W.setCell ⟨w2.heap.size + 2, 0, none⟩ (.int .i64 ((pre.length : Int) + 1))) ∧
    LinesI w w2 s base g cap st (pre ++ [x]) (W.setCell ⟨w2.heap.size + 2, 0, none⟩ (.int .i64 ((pre.length : Int) + 1))) := by
  obtain ⟨h1, h2, h3, h4, h5, h6, h7, h8⟩ := h
  have hset := grown_set W ⟨w2.heap.size + 2, 0, none⟩ (.int .i64 ((pre.length : Int) + 1))
  have h6' := h6.kept hset (by simp)
  have e : (((pre ++ [x]).length : Nat) : Int) = (pre.length : Int) + 1 := by simp
  refine ⟨(KeepsOthers.setCell _ _ _).from _, h6'.cell.trans h6.cell.symm, h1.kept hset (by simp; omega), h2.kept hset (by simp; omega), h3.kept hset (by simp), Blk.kept h4 hset (by simp), ?_, h6', h7.kept hset (.inr (by simp [Value.ownBlock]; omega)), h8.grown hset h8.size (fun k e => by cases e; show w.heap.size ≤ w2.heap.size + 2; omega)⟩
  rw [e]
  exact h5.set _

/-- behind the loop: all boxes, the table, and what is still to be called at the end -/
def LinesE (w w2 : World) (s : ByteArray) (base g cap st kk D : Nat) (W : World) : Prop :=
  Boxed W w.heap.size 3 (.int .i64 st) ∧ (∃ v, Boxed W (w.heap.size + 1) 4 (.bool v)) ∧
  Boxed W w2.heap.size 38 (.slice (some ⟨g, 0, none⟩) (lnsOf s).length cap) ∧ Boxed W (w2.heap.size + 2) 3 (.int .i64 kk) ∧ Made W (w2.heap.size + 2) (w2.heap.size + 1) s ∧
  W.ownsRow base 46 2 (.slice (some ⟨g, 0, none⟩) (lnsOf s).length cap) (lnsOf s).length (lcells s (lnsOf s)) ∧ W.heap[D]? = some (.deferred (some [])) ∧ Below w.heap.size w W ∧ w2.heap.size + 4 ≤ W.heap.size

section
variable {w w2 : World} {s : ByteArray} {base g cap st kk D : Nat} {W : World}
theorem LinesE.step {W' : World} (h : LinesE w w2 s base g cap st kk D W) (z : w.heap.size + 2 ≤ base) (z' : base ≤ w2.heap.size) (hg' : g < w2.heap.size) (hm : Made W' (w2.heap.size + 2) (w2.heap.size + 1) s) (hg : W.grownBy W' (some (w2.heap.size + 1))) : LinesE w w2 s base g cap st kk D W' := by
  obtain ⟨h1, ⟨v, h2⟩, h3, h4, h5, h6, h7, h8, h9⟩ := h
  have hb : D ≠ w2.heap.size + 1 := fun e => by
    subst e
    obtain ⟨v, hb, _⟩ := h5
    rw [show W.heap[w2.heap.size + 1]? = _ from hb] at h7; cases h7
  refine ⟨h1.kept hg (by simp; omega), ⟨v, h2.kept hg (by simp; omega)⟩, h3.kept hg (by simp), h4.kept hg (by simp), hm, h6.kept hg (.inr (by simp [Value.ownBlock]; omega)), (hg.block D (Array.getElem?_eq_some_iff.1 h7).1 (by simpa using hb)).trans h7, h8.grown hg h8.size (fun k e => by cases e; omega), by have := hg.size; omega⟩

theorem LinesE.drew (h : LinesE w w2 s base g cap st kk D W) : LinesE w w2 s base g cap st kk D W.drew := by
  obtain ⟨h1, h2, h3, h4, h5, h6, h7, h8, h9⟩ := h
  exact ⟨h1, h2, h3, h4, h5, h6, h7, h8.drew, h9⟩

theorem LinesE.rbox (h : LinesE w w2 s base g cap st kk D W) : (∃ u, W.cell? ⟨w.heap.size + 1, 0, none⟩ = some u) ∧ W.frozen? ⟨w.heap.size + 1, 0, none⟩ = false := by
  obtain ⟨_, ⟨v, h2⟩, _⟩ := h
  exact ⟨⟨_, h2.cell⟩, h2.frozen⟩

theorem LinesE.store (h : LinesE w w2 s base g cap st kk D W) (z : w.heap.size + 2 ≤ base) (z' : base ≤ w2.heap.size) (hgb : base ≤ g) (v : Bool) :
    LinesE w w2 s base g cap st kk D (W.setCell ⟨w.heap.size + 1, 0, none⟩ (.bool v)) ∧ Boxed (W.setCell ⟨w.heap.size + 1, 0, none⟩ (.bool v)) (w.heap.size + 1) 4 (.bool v) := by
  obtain ⟨h1, ⟨v', h2⟩, h3, h4, h5, h6, h7, h8, h9⟩ := h
  have hg := grown_set W ⟨w.heap.size + 1, 0, none⟩ (.bool v)
  have hb : D ≠ w.heap.size + 1 := fun e => by subst e; rw [show W.heap[w.heap.size + 1]? = _ from h2] at h7; cases h7
  have h5' : Made (W.setCell ⟨w.heap.size + 1, 0, none⟩ (.bool v)) (w2.heap.size + 2) (w2.heap.size + 1) s := by
    obtain ⟨u, hu, hr⟩ := h5
    refine ⟨u, hu.kept hg (by simp; omega), hr.kept hg ?_⟩
    rcases hr.2 with ⟨rfl, _⟩ | ⟨g1, cap1, cur1, rfl, hg1, _⟩
    · exact .inl rfl
    · exact .inr (by simp [Value.ownBlock]; omega)
  refine ⟨⟨h1.kept hg (by simp), ⟨v, h2.set _⟩, h3.kept hg (by simp; omega), h4.kept hg (by simp; omega), h5', h6.kept hg (.inr (by simp [Value.ownBlock]; omega)), (hg.block D (Array.getElem?_eq_some_iff.1 h7).1 (by simpa using hb)).trans h7, h8.setCell (p := ⟨w.heap.size + 1, 0, none⟩) (by show w.heap.size ≤ w.heap.size + 1; omega) _, by simpa [World.setCell] using h9⟩, h2.set _⟩
end

theorem rbox_ne {W : World} {r D : Nat} {t : TypeId} {v : Value} (h : Boxed W r t v) (hk : W.heap[D]? = some (.deferred (some []))) (e : r = D) : False := by
  subst e; rw [show W.heap[r]? = _ from h] at hk; cases hk

theorem made_cell {W : World} {base b : Nat} {s : ByteArray} (h : Made W base b s) : W.cell? ⟨b, 5, none⟩ = some (.int .i64 1) := by
  obtain ⟨v, hb, _⟩ := h; exact hb.cell 5

theorem size_bool (w : World) : (sizeOf 4).run Try.prog w = .ok 1 w := by kernel_rfl

theorem prefix_at {α : Type} {pre l : List α} {x : α} (h : pre ++ [x] <+: l) : l[pre.length]? = some x := by
  obtain ⟨r, rfl⟩ := h
  simp

set_option maxRecDepth 100000 in
set_option maxHeartbeats 2000000 in
theorem lines_in (s : ByteArray) (hs : s.size ≤ 2000) (n stop : Int) (w : World) :
    CallsIn Fence.wide 8 Try.prog 4 #[.string s, .int .i64 n, .int .i64 stop] w fun e w' => e = .returned (.bool true) ∧ Below w.heap.size w w' := by
  have hs' : ¬ (2000 : Int) < (s.size : Int) := by omega
  refine callsIn_of_wp_marks Try.func4 rfl trivial ?_ rfl
  simp only [Try.ntmps4, List.size_toArray, List.length_cons, List.length_nil, Nat.reduceAdd, Nat.reduceSub, Array.replicate_succ, Array.replicate_zero, List.push_toArray, List.append_toArray, List.nil_append, List.cons_append]
  gi_wp2_with (first | (refine ⟨trivial, ?_⟩; gi_at_call 6; refine (callsIn_wide.2 (alive_any _)).mono ?_; rintro e w1 ⟨rfl, hB1⟩) | (refine ⟨trivial, ?_⟩; gi_at_call 13; refine (callsIn_wide.2 (refLines_any s (by omega) _)).mono ?_; rintro e w2 ⟨g, cap, rfl, hown, hB2⟩))
  have z1 : w.heap.size + 2 ≤ w1.heap.size := by have := hB1.size; simp at this; omega
  have z2 := hB2.size
  have hS1 : Boxed w1 w.heap.size 3 (.int .i64 stop) := (hB1.block w.heap.size (by simp; omega)).trans ((Boxed.new w 3 (.int .i64 stop)).alloc _)
  have hR1 : Boxed w1 (w.heap.size + 1) 4 (.bool false) := (hB1.block (w.heap.size + 1) (by simp)).trans (by have := Boxed.new (w.alloc (.cells #[.int .i64 stop] 3)) 4 (.bool false); rwa [World.size_alloc] at this)
  have hB01 : Below w.heap.size w w1 := (((Below.refl _ w).alloc (Nat.le_refl _) _).alloc (by simp) _).trans (hB1.mono (by simp; omega))
  have hS2 : Boxed w2 w.heap.size 3 (.int .i64 stop) := (hB2.block _ (by omega)).trans hS1
  have hR2 : Boxed w2 (w.heap.size + 1) 4 (.bool false) := (hB2.block _ (by omega)).trans hR1
  have hB02 : Below w.heap.size w w2 := hB01.trans (hB2.mono (by omega))
  clear hB1 hS1 hR1
  refine ⟨trivial, ?_⟩
  refine (callsIn_wide.2 (new_any _ _)).mono ?_
  rintro e w3 ⟨rfl, rfl⟩
  rw [World.size_alloc]
  have hW3 := (Boxed.new w2 38 (.slice (some ⟨g, 0, none⟩) (lnsOf s).length cap)).alloc (.cells (tab s (.slice none 0 0) 0 0 0) 67)
  have hT3 := fresh_new s (w2.alloc (.cells #[.slice (some ⟨g, 0, none⟩) (lnsOf s).length cap] 38))
  rw [World.size_alloc] at hT3
  have hS3 := (hS2.alloc (.cells #[.slice (some ⟨g, 0, none⟩) (lnsOf s).length cap] 38)).alloc (.cells (tab s (.slice none 0 0) 0 0 0) 67)
  have hSc := hS3.cell
  have hSf := hS3.frozen
  gi_wp2_with (refine ⟨trivial, ?_⟩; gi_at_call 14; refine (callsIn_wide.2 (made_any _ _ _ (Blk.cell hT3 5))).mono ?_; rintro e w4 ⟨rfl, rfl⟩)
  obtain ⟨st, hst, hst1, hst2⟩ := stop_val stop
  rw [hst]
  clear hst
  have hR3 := (hR2.alloc (.cells #[.slice (some ⟨g, 0, none⟩) (lnsOf s).length cap] 38)).alloc (.cells (tab s (.slice none 0 0) 0 0 0) 67)
  have hO3 := (hown.alloc (.cells #[.slice (some ⟨g, 0, none⟩) (lnsOf s).length cap] 38)).alloc (.cells (tab s (.slice none 0 0) 0 0 0) 67)
  have hB3 := (hB02.alloc (by omega) (.cells #[.slice (some ⟨g, 0, none⟩) (lnsOf s).length cap] 38)).alloc (by simp; omega) (.cells (tab s (.slice none 0 0) 0 0 0) 67)
  have z3 : ((w2.alloc (.cells #[.slice (some ⟨g, 0, none⟩) (lnsOf s).length cap] 38)).alloc (.cells (tab s (.slice none 0 0) 0 0 0) 67)).heap.size = w2.heap.size + 2 := by simp
  generalize (w2.alloc (.cells #[.slice (some ⟨g, 0, none⟩) (lnsOf s).length cap] 38)).alloc (.cells (tab s (.slice none 0 0) 0 0 0) 67) = w3 at *
  have hset := grown_set w3 ⟨w.heap.size, 0, none⟩ (.int .i64 st)
  have hS4 := hS3.set (.int .i64 st)
  have hR4 := hR3.kept hset (by simp)
  have hW4 := hW3.kept hset (by simp; omega)
  have hT4 : Fresh (w3.setCell ⟨w.heap.size, 0, none⟩ (.int .i64 st)) (w2.heap.size + 1) s := Blk.kept hT3 hset (by simp; omega)
  have hgb := own_base hown
  have hgl : g < w2.heap.size := own_lt hown
  have hO4 := hO3.kept hset (.inr (by simp [Value.ownBlock]; omega))
  have hB4 := hB3.setCell (p := ⟨w.heap.size, 0, none⟩) (Nat.le_refl _) (.int .i64 st)
  have z4 : (w3.setCell ⟨w.heap.size, 0, none⟩ (.int .i64 st)).heap.size = w2.heap.size + 2 := by simp [World.setCell, z3]
  generalize w3.setCell ⟨w.heap.size, 0, none⟩ (.int .i64 st) = w4 at *
  clear hS3 hR3 hW3 hT3 hO3 hB3 hset hSc hSf hown hS2 hR2 hB02
  refine ⟨trivial, ?_⟩
  refine (callsIn_wide.2 (lines_any _ _)).mono ?_
  rintro e w5 ⟨rfl, rfl⟩
  have hK5 := (Boxed.new w4 3 (.int .i64 0)).alloc (.cells #[.string s] 9)
  have hN5 := Boxed.new (w4.alloc (.cells #[.int .i64 0] 3)) 9 (.string s)
  rw [World.size_alloc] at hN5 ⊢
  have hI0 : LinesI w w2 s w1.heap.size g cap st [] ((w4.alloc (.cells #[.int .i64 0] 3)).alloc (.cells #[.string s] 9)) := by
    rw [z4] at hK5 hN5
    exact ⟨(hS4.alloc _).alloc _, (hR4.alloc _).alloc _, (hW4.alloc _).alloc _, Blk.alloc (Blk.alloc hT4 _) _, hK5, hN5, (hO4.alloc _).alloc _, (hB4.alloc (by omega) _).alloc (by simp; omega) _⟩
  rw [z4] at hN5 ⊢
  gi_wp2
  rw [show w2.heap.size + 1 + 1 = w2.heap.size + 2 from rfl, show w2.heap.size + 2 + 1 = w2.heap.size + 3 from rfl]
  rw [show w2.heap.size + 2 + 1 = w2.heap.size + 3 from rfl] at hN5
  have hlen := bl_length s
  have hll : (lnsOf s).length = (bl s 0).length := by rw [bl_eq, List.length_map]
  have z5 : ((w4.alloc (.cells #[.int .i64 0] 3)).alloc (.cells #[.string s] 9)).heap.size = w2.heap.size + 4 := by simp [z4]
  have hseq := lines_stops (id : Nat × ByteArray → Nat × ByteArray) 7 (by omega) (w2.heap.size + 3) s (by omega) (bl s 0) (by simp) ((w4.alloc (.cells #[.int .i64 0] 3)).alloc (.cells #[.string s] 9)) (by omega) hN5.cell
  have hput := KeepCell.put (Bn := w2.heap.size + 3) (m := ((w4.alloc (.cells #[.int .i64 0] 3)).alloc (.cells #[.string s] 9)).heap.size) (by omega)
  have hIx : ∀ c : Code, OwnFrom ((w4.alloc (.cells #[.int .i64 0] 3)).alloc (.cells #[.string s] 9)).heap.size (fun (pre : List (Nat × ByteArray)) W => (c = .ret ∧ ¬ pre <+: bl s 0) ∨ (c = .exit 0 ∧ LinesI w w2 s w1.heap.size g cap st pre W ∧ pre.length = st)) := by
    rintro c pre X Y row h hG hrow
    rcases h with h | ⟨h1, h2, h3⟩
    · exact .inl h
    · exact .inr ⟨h1, linesI_own (by omega) pre X Y row h2 hG hrow, h3⟩
  have hI : OwnFrom ((w4.alloc (.cells #[.int .i64 0] 3)).alloc (.cells #[.string s] 9)).heap.size (fun (pre : List (Nat × ByteArray)) W => LinesI w w2 s w1.heap.size g cap st pre W ∧ pre.length < st) := by
    rintro pre X Y row ⟨h2, h3⟩ hG hrow
    exact ⟨linesI_own (by omega) pre X Y row h2 hG hrow, h3⟩
  apply wpIn_rangeFunc_post rfl (by omega) (gf := 23) (lb := #[.pointer (some ⟨w2.heap.size + 3, 0, none⟩)]) rfl trivial (enters_of Try.func23 (by kernel_rfl) rfl)
    (Kp := KeepCell (w2.heap.size + 3)) hseq KeepCell.trans hput (Below.refl _ _) (encs := fun x : Nat × ByteArray => #[Value.int .i64 x.1, .string x.2]) (fun _ => rfl) _ _ hI hIx ⟨hI0, by simp; omega⟩
    0 (fun _ _ h => h) (fun D W => ∃ ys : List (Nat × ByteArray), LinesI w w2 s w1.heap.size g cap st ys W ∧ ys.length = min st (lnsOf s).length ∧ W.heap[D]? = some (.deferred (some [])) ∧ w.heap.size ≤ D)
    (fun D ys W hD hy hi hK => ⟨ys, hi.1, by have h := hi.2; rw [hy] at h ⊢; rw [hll]; omega, hK, by omega⟩)
    (fun D c ys W hD hy hi hK => by
      rcases hi with ⟨_, hx⟩ | ⟨rfl, hi, hlt⟩
      · exact absurd hy hx
      · exact ⟨rfl, ys, hi, by have := List.IsPrefix.length_le hy; rw [hll]; omega, hK, by omega⟩)
  case hassign =>
    intro l x W K hK
    gi_wp2
    exact hK
  case hbody =>
    rintro l pre x W ⟨⟨h1, h2, h3, h4, h5, h6, h7, h8⟩, hlt⟩ hlt2
    obtain ⟨p, hp⟩ := lns_some (s := s) (i := pre.length) hlt2
    obtain ⟨hc1, hc2⟩ := lcells_at s (lnsOf s) pre.length p hp
    have c1 := own_cell h7 hc1
    have c2 := own_cell h7 hc2
    have b1 := h1.cell
    have b2 := h2.cell
    have f2 := h2.frozen
    have b3 := h3.cell
    have b5 := h5.cell
    have f5 := h5.frozen
    have hd : decide ((lnsOf s).length ≤ pre.length) = false := by simp; omega
    have hset := grown_set W ⟨w2.heap.size + 2, 0, none⟩ (.int .i64 ((pre.length : Int) + 1))
    have b1' := (h1.kept hset (by simp; omega)).cell
    have HL := Lib.hid hll
    have HP := Lib.hid hp
    clear hc1 hc2 hll hp hset
    have hbl : (bl s 0)[pre.length]? = some (p.1, s.extract p.1 (p.1 + p.2.length)) := bl_at HP.out
    have hlt3 : pre.length < (lnsOf s).length := by rw [HL.out]; exact hlt2
    have hstep := linesI_step ⟨h1, h2, h3, h4, h5, h6, h7, h8⟩ z1 z2 hgl x ((w4.alloc (.cells #[.int .i64 0] 3)).alloc (.cells #[.string s] 9)).heap.size
    generalize s.extract p.1 (p.1 + p.2.length) = q2 at *
    have HB := Lib.hid hbl
    have HS := Lib.hid hstep
    clear hbl hstep
    gi_wp2
    · have hq : (!x.2.toList == q2.toList) = true := by assumption
      refine ⟨(KeepsOthers.setCell _ _ _).from _, .inl ⟨rfl, fun hpre => ?_⟩⟩
      have := prefix_at hpre
      rw [HB.out] at this
      injection this with this
      rw [← this] at hq
      simp at hq
    · have hq : ((pre.length : Int) + 1 == (st : Int)) = true := by assumption
      exact ⟨HS.out.1, .inr ⟨rfl, HS.out.2.2, by have := eq_of_beq hq; simp; omega⟩⟩
    · have hq : ((pre.length : Int) + 1 == (st : Int)) = false := by assumption
      exact ⟨HS.out.1, HS.out.2.1, HS.out.2.2, by have := beq_eq_false_iff_ne.1 hq; simp; omega⟩
    · have hq : ¬ (x.1 : Int) = (p.1 : Int) := by assumption
      refine ⟨(KeepsOthers.setCell _ _ _).from _, .inl ⟨rfl, fun hpre => ?_⟩⟩
      have := prefix_at hpre
      rw [HB.out] at this
      injection this with this
      rw [← this] at hq
      exact hq rfl
  case tail =>
    rintro D W ⟨ys, ⟨h1, h2, h3, h4, h5, h6, h7, h8⟩, hys, hK, hwD⟩
    rw [hys] at h5
    clear hys
    generalize hkk : min st (lnsOf s).length = kk at h5
    clear hseq hput hIx hI hI0 hK5 hN5 hS4 hR4 hW4 hT4 hO4 hB4
    have hT : Tab W (w2.heap.size + 2) (w2.heap.size + 1) s := .inl h4
    have zW : w2.heap.size + 4 ≤ W.heap.size := by have := h6.lt; omega
    have HL := Lib.hid hll
    have HK := Lib.hid hkk
    have hl1 : (lnsOf s).length ≤ 2001 := by omega
    have hlb : (beg s).length = (lnsOf s).length := by rw [beg_len, hll]
    have HLB := Lib.hid hlb
    clear hll hkk hlb
    by_cases hin : n < 0 ∨ ((lnsOf s).length : Int) ≤ n
    · gi_wp2_with (refine ⟨trivial, ?_⟩; gi_at_call 16; refine (callsIn_wide.2 (line_out _ (w2.heap.size + 2) s (by omega) n (by rw [HLB.out]; exact hin) _ (by omega) hT)).mono ?_; rintro e W1 ⟨rfl, hm1, hg1⟩; have h3' := (h3.kept hg1 (by simp)); have b3 := h3'.cell)
      all_goals
        have hE1 : LinesE w w2 s w1.heap.size g cap st kk D W1 := by
          have hb : D ≠ w2.heap.size + 1 := fun e => by subst e; rw [show W.heap[w2.heap.size + 1]? = _ from h4] at hK; cases hK
          exact ⟨h1.kept hg1 (by simp; omega), ⟨_, h2.kept hg1 (by simp; omega)⟩, h3', h5.kept hg1 (by simp), hm1, h7.kept hg1 (.inr (by simp [Value.ownBlock]; omega)), (hg1.block D (Array.getElem?_eq_some_iff.1 hK).1 (by simpa using hb)).trans hK, h8.grown hg1 h8.size (fun k e => by cases e; omega), by have := hg1.size; omega⟩
        have hS1 : W1.drew.cell? ⟨w2.heap.size + 2, 0, none⟩ = some (.int .i64 kk) ∧ W1.drew.cell? ⟨w.heap.size, 0, none⟩ = some (.int .i64 st) ∧ W1.drew.cell? ⟨w2.heap.size, 0, none⟩ = some (.slice (some ⟨g, 0, none⟩) (lnsOf s).length cap) ∧ True ∧ LinesE w w2 s w1.heap.size g cap st kk D W1.drew := ⟨hE1.2.2.2.1.cell, hE1.1.cell, hE1.2.2.1.cell, trivial, hE1.drew⟩
        have zE1 : w2.heap.size + 2 ≤ W1.drew.heap.size := by have := hE1.2.2.2.2.2.2.2.2; show w2.heap.size + 2 ≤ W1.heap.size; omega
        refine wpIn_wide.2 (wp_region_noPanic (wp_region_held (S := fun W' => W'.cell? ⟨w2.heap.size + 2, 0, none⟩ = some (.int .i64 kk) ∧ W'.cell? ⟨w.heap.size, 0, none⟩ = some (.int .i64 st) ∧ W'.cell? ⟨w2.heap.size, 0, none⟩ = some (.slice (some ⟨g, 0, none⟩) (lnsOf s).length cap) ∧ True ∧ LinesE w w2 s w1.heap.size g cap st kk D W') (by kernel_rfl) ?_))
        change wpAnyH _ _ _ _ _ _ _ _ W1.drew
        refine wpAnyH_take_d (i := 0) (v := errR) 76 rfl (by kernel_rfl) (by kernel_rfl) (by kernel_rfl) (by kernel_rfl) (fun _ _ _ h => h) (Or.inl ⟨by kernel_rfl, fun w' hS' => ?_⟩) hS1 ?_
        · obtain ⟨k1, k2, k3, k4, _⟩ := hS'; go_simp
        simp only [Act.put, List.setIfInBounds_toArray, List.set_cons_zero, List.set_cons_succ]
        refine wpAnyH_ready (rs := [1]) (by kernel_rfl) (by simp) ?_
        refine AllReadyH.cons rfl (fun K hK => ?_) AllReadyH.nil
        go_simp
        refine (is_errno _ _ (by omega) _).mono ?_
        rintro e W2 ⟨rfl, rfl⟩
        refine hK.out _ _ hS1 (fun _ => ?_)
        clear hK K
        refine wpAnyH_take_d (i := 2) (v := .bool true) 78 rfl (by kernel_rfl) (by kernel_rfl) (by kernel_rfl) (by kernel_rfl) (fun _ _ _ h => h) (Or.inl ⟨by kernel_rfl, fun w' hS' => ?_⟩) hS1 ?_
        · obtain ⟨k1, k2, k3, k4, _⟩ := hS'; go_simp
        simp only [Act.put, List.setIfInBounds_toArray, List.set_cons_zero, List.set_cons_succ]
        refine wpAnyH_take_d (i := 3) (v := .string ⟨#[]⟩) 79 rfl (by kernel_rfl) (by kernel_rfl) (by kernel_rfl) (by kernel_rfl) (fun _ _ _ h => h) (Or.inl ⟨by kernel_rfl, fun w' hS' => ?_⟩) hS1 ?_
        · obtain ⟨k1, k2, k3, k4, _⟩ := hS'; go_simp
        simp only [Act.put, List.setIfInBounds_toArray, List.set_cons_zero, List.set_cons_succ]
        refine wpAnyH_take_d (i := 4) (v := .bool true) 80 rfl (by kernel_rfl) (by kernel_rfl) (by kernel_rfl) (by kernel_rfl) (fun _ _ _ h => h) (Or.inl ⟨by kernel_rfl, fun w' hS' => ?_⟩) hS1 ?_
        · obtain ⟨k1, k2, k3, k4, _⟩ := hS'; go_simp
        simp only [Act.put, List.setIfInBounds_toArray, List.set_cons_zero, List.set_cons_succ]
        refine wpAnyH_take_d (i := 5) (v := .bool true) 81 rfl (by kernel_rfl) (by kernel_rfl) (by kernel_rfl) (by kernel_rfl) (fun _ _ _ h => h) (Or.inl ⟨by kernel_rfl, fun w' hS' => ?_⟩) hS1 ?_
        · obtain ⟨k1, k2, k3, k4, _⟩ := hS'; go_simp
        simp only [Act.put, List.setIfInBounds_toArray, List.set_cons_zero, List.set_cons_succ]
        refine wpAnyH_take_d (i := 6) (v := .bool true) 82 rfl (by kernel_rfl) (by kernel_rfl) (by kernel_rfl) (by kernel_rfl) (fun _ _ _ h => h) (Or.inl ⟨by kernel_rfl, fun w' hS' => ?_⟩) hS1 ?_
        · obtain ⟨k1, k2, k3, k4, _⟩ := hS'; go_simp
        simp only [Act.put, List.setIfInBounds_toArray, List.set_cons_zero, List.set_cons_succ]
        refine wpAnyH_take_d (i := 7) (v := .pointer (some ⟨w2.heap.size + 1, 0, none⟩)) 83 rfl (by kernel_rfl) (by kernel_rfl) (by kernel_rfl) (by kernel_rfl) (fun _ _ _ h => h) (Or.inl ⟨by kernel_rfl, fun w' hS' => ?_⟩) hS1 ?_
        · obtain ⟨k1, k2, k3, k4, _⟩ := hS'; go_simp
        simp only [Act.put, List.setIfInBounds_toArray, List.set_cons_zero, List.set_cons_succ]
        refine wpAnyH_take_d (i := 9) (v := .slice (some ⟨g, 0, none⟩) (lnsOf s).length cap) 85 rfl (by kernel_rfl) (by kernel_rfl) (by kernel_rfl) (by kernel_rfl) (fun _ _ _ h => h) (Or.inl ⟨by kernel_rfl, fun w' hS' => ?_⟩) hS1 ?_
        · obtain ⟨k1, k2, k3, k4, _⟩ := hS'; go_simp
        simp only [Act.put, List.setIfInBounds_toArray, List.set_cons_zero, List.set_cons_succ]
        refine wpAnyH_take_d (i := 10) (v := .int .i64 (lnsOf s).length) 86 rfl (by kernel_rfl) (by kernel_rfl) (by kernel_rfl) (by kernel_rfl) (fun _ _ _ h => h) (Or.inl ⟨by kernel_rfl, fun w' hS' => ?_⟩) hS1 ?_
        · obtain ⟨k1, k2, k3, k4, _⟩ := hS'; go_simp
        simp only [Act.put, List.setIfInBounds_toArray, List.set_cons_zero, List.set_cons_succ]
        refine wpAnyH_ready (rs := [8]) (by kernel_rfl) (by simp) ?_
        refine AllReadyH.cons rfl (fun K hK => ?_) AllReadyH.nil
        go_simp
        refine (len_any _ (w2.heap.size + 2) s (by omega) _ zE1 (.inr hS1.2.2.2.2.2.2.2.2.1)).mono ?_
        rintro e W2 ⟨rfl, hm2, hg2⟩
        have hE2 := hS1.2.2.2.2.step z1 z2 hgl hm2 hg2
        rw [HLB.out]
        have hS2 : W2.cell? ⟨w2.heap.size + 2, 0, none⟩ = some (.int .i64 kk) ∧ W2.cell? ⟨w.heap.size, 0, none⟩ = some (.int .i64 st) ∧ W2.cell? ⟨w2.heap.size, 0, none⟩ = some (.slice (some ⟨g, 0, none⟩) (lnsOf s).length cap) ∧ True ∧ LinesE w w2 s w1.heap.size g cap st kk D W2 := ⟨hE2.2.2.2.1.cell, hE2.1.cell, hE2.2.2.1.cell, trivial, hE2⟩
        refine hK.out _ _ hS2 (fun _ => ?_)
        clear hK K
        refine wpAnyH_take_d (i := 11) (v := .bool true) 87 rfl (by kernel_rfl) (by kernel_rfl) (by kernel_rfl) (by kernel_rfl) (fun _ _ _ h => h) (Or.inl ⟨by kernel_rfl, fun w' hS' => ?_⟩) hS2 ?_
        · obtain ⟨k1, k2, k3, k4, _⟩ := hS'; go_simp
        simp only [Act.put, List.setIfInBounds_toArray, List.set_cons_zero, List.set_cons_succ]
        refine wpAnyH_take_d (i := 12) (v := .bool true) 88 rfl (by kernel_rfl) (by kernel_rfl) (by kernel_rfl) (by kernel_rfl) (fun _ _ _ h => h) (Or.inl ⟨by kernel_rfl, fun w' hS' => ?_⟩) hS2 ?_
        · obtain ⟨k1, k2, k3, k4, _⟩ := hS'; go_simp
        simp only [Act.put, List.setIfInBounds_toArray, List.set_cons_zero, List.set_cons_succ]
        refine wpAnyH_take_d (i := 13) (v := .bool true) 89 rfl (by kernel_rfl) (by kernel_rfl) (by kernel_rfl) (by kernel_rfl) (fun _ _ _ h => h) (Or.inl ⟨by kernel_rfl, fun w' hS' => ?_⟩) hS2 ?_
        · obtain ⟨k1, k2, k3, k4, _⟩ := hS'; go_simp
        simp only [Act.put, List.setIfInBounds_toArray, List.set_cons_zero, List.set_cons_succ]
        refine wpAnyH_take_d (i := 14) (v := .int .i64 kk) 90 rfl (by kernel_rfl) (by kernel_rfl) (by kernel_rfl) (by kernel_rfl) (fun _ _ _ h => h) (Or.inl ⟨by kernel_rfl, fun w' hS' => ?_⟩) hS2 ?_
        · obtain ⟨k1, k2, k3, k4, _⟩ := hS'; go_simp
        simp only [Act.put, List.setIfInBounds_toArray, List.set_cons_zero, List.set_cons_succ]
        refine wpAnyH_take_d (i := 15) (v := .int .i64 st) 91 rfl (by kernel_rfl) (by kernel_rfl) (by kernel_rfl) (by kernel_rfl) (fun _ _ _ h => h) (Or.inl ⟨by kernel_rfl, fun w' hS' => ?_⟩) hS2 ?_
        · obtain ⟨k1, k2, k3, k4, _⟩ := hS'; go_simp
        simp only [Act.put, List.setIfInBounds_toArray, List.set_cons_zero, List.set_cons_succ]
        refine wpAnyH_take_d (i := 16) (v := .slice (some ⟨g, 0, none⟩) (lnsOf s).length cap) 92 rfl (by kernel_rfl) (by kernel_rfl) (by kernel_rfl) (by kernel_rfl) (fun _ _ _ h => h) (Or.inl ⟨by kernel_rfl, fun w' hS' => ?_⟩) hS2 ?_
        · obtain ⟨k1, k2, k3, k4, _⟩ := hS'; go_simp
        simp only [Act.put, List.setIfInBounds_toArray, List.set_cons_zero, List.set_cons_succ]
        refine wpAnyH_take_d (i := 17) (v := .int .i64 (lnsOf s).length) 93 rfl (by kernel_rfl) (by kernel_rfl) (by kernel_rfl) (by kernel_rfl) (fun _ _ _ h => h) (Or.inl ⟨by kernel_rfl, fun w' hS' => ?_⟩) hS2 ?_
        · obtain ⟨k1, k2, k3, k4, _⟩ := hS'; go_simp
        simp only [Act.put, List.setIfInBounds_toArray, List.set_cons_zero, List.set_cons_succ]
        refine wpAnyH_take_d (i := 18) (v := .int .i64 kk) 94 rfl (by kernel_rfl) (by kernel_rfl) (by kernel_rfl) (by kernel_rfl) (fun _ _ _ h => h) (Or.inl ⟨by kernel_rfl, fun w' hS' => ?_⟩) hS2 ?_
        · obtain ⟨k1, k2, k3, k4, _⟩ := hS'; go_simp; have hkm := HK.out; split <;> omega
        simp only [Act.put, List.setIfInBounds_toArray, List.set_cons_zero, List.set_cons_succ]
        refine wpAnyH_take_d (i := 19) (v := .bool true) 95 rfl (by kernel_rfl) (by kernel_rfl) (by kernel_rfl) (by kernel_rfl) (fun _ _ _ h => h) (Or.inl ⟨by kernel_rfl, fun w' hS' => ?_⟩) hS2 ?_
        · obtain ⟨k1, k2, k3, k4, _⟩ := hS'; go_simp
        simp only [Act.put, List.setIfInBounds_toArray, List.set_cons_zero, List.set_cons_succ]
        refine wpAnyH_take_d (i := 20) (v := .bool true) 96 rfl (by kernel_rfl) (by kernel_rfl) (by kernel_rfl) (by kernel_rfl) (fun _ _ _ h => h) (Or.inl ⟨by kernel_rfl, fun w' hS' => ?_⟩) hS2 ?_
        · obtain ⟨k1, k2, k3, k4, _⟩ := hS'; go_simp
        simp only [Act.put, List.setIfInBounds_toArray, List.set_cons_zero, List.set_cons_succ]
        refine wpAnyH_take_d (i := 21) (v := .bool true) 97 rfl (by kernel_rfl) (by kernel_rfl) (by kernel_rfl) (by kernel_rfl) (fun _ _ _ h => h) (Or.inl ⟨by kernel_rfl, fun w' hS' => ?_⟩) hS2 ?_
        · obtain ⟨k1, k2, k3, k4, _⟩ := hS'; go_simp
        simp only [Act.put, List.setIfInBounds_toArray, List.set_cons_zero, List.set_cons_succ]
        refine wpAnyH_take_d (i := 22) (v := .int .i64 0) 98 rfl (by kernel_rfl) (by kernel_rfl) (by kernel_rfl) (by kernel_rfl) (fun _ _ _ h => h) (Or.inl ⟨by kernel_rfl, fun w' hS' => ?_⟩) hS2 ?_
        · obtain ⟨k1, k2, k3, k4, _⟩ := hS'; go_simp
        simp only [Act.put, List.setIfInBounds_toArray, List.set_cons_zero, List.set_cons_succ]
        refine wpAnyH_take_d (i := 23) (v := .bool true) 99 rfl (by kernel_rfl) (by kernel_rfl) (by kernel_rfl) (by kernel_rfl) (fun _ _ _ h => h) (Or.inl ⟨by kernel_rfl, fun w' hS' => ?_⟩) hS2 ?_
        · obtain ⟨k1, k2, k3, k4, _⟩ := hS'; go_simp
        simp only [Act.put, List.setIfInBounds_toArray, List.set_cons_zero, List.set_cons_succ]
        refine wpAnyH_take_d (i := 24) (v := .bool true) 100 rfl (by kernel_rfl) (by kernel_rfl) (by kernel_rfl) (by kernel_rfl) (fun _ _ _ h => h) (Or.inl ⟨by kernel_rfl, fun w' hS' => ?_⟩) hS2 ?_
        · obtain ⟨k1, k2, k3, k4, _⟩ := hS'; go_simp
        simp only [Act.put, List.setIfInBounds_toArray, List.set_cons_zero, List.set_cons_succ]
        have hE9 := LinesE.store hS2.2.2.2.2 z1 z2 hgb true
        have hrb := LinesE.rbox hS2.2.2.2.2
        refine wpAnyH_store 25 4 (.tmp 6) (.tmp 100) (by kernel_rfl) (by kernel_rfl) size_bool ⟨w.heap.size + 1, 0, none⟩ true (by kernel_rfl) (by kernel_rfl) hrb.1 hrb.2 ⟨hE9.1.2.2.2.1.cell, hE9.1.1.cell, hE9.1.2.2.1.cell, trivial, hE9.1⟩ (by kernel_rfl) (NoPanic.normal ?_)
        gi_wp2
        have hK9 := hE9.1.2.2.2.2.2.2.1
        have hDr : w.heap.size + 1 ≠ D := fun e => rbox_ne hE9.2 hK9 e
        have hres := (hE9.2.kept (grownBy_putObj' _ D (.deferred none)) (by simpa using hDr)).cell
        refine ⟨by simp, .inl ⟨_, _, rfl, run_takeDeferred hK9, ?_⟩⟩
        refine ⟨.bool true, by simp [results, Try.results4, go_sem, hres], rfl, ?_⟩
        exact hE9.1.2.2.2.2.2.2.2.1.trans (belowK_b (w := w) (Nat.le_refl _) _ D _ _ (by omega) hK9 rfl rfl)
    · obtain ⟨i, rfl⟩ := Int.eq_ofNat_of_zero_le (show 0 ≤ n by omega)
      obtain ⟨p, hp⟩ : ∃ p, (lnsOf s)[i]? = some p := ⟨_, List.getElem?_eq_getElem (by omega)⟩
      have hq := (lcells_at s (lnsOf s) i p hp).2
      have HP := Lib.hid hp
      have hi1 : decide ((i : Int) < 0) = false := by simp
      have hi2 : decide ((lnsOf s).length ≤ i) = false := by simp; omega
      have hi3 : i < (lnsOf s).length := by omega
      clear hp hin
      have hline : ∀ (W : World), w2.heap.size + 2 ≤ W.heap.size → Tab W (w2.heap.size + 2) (w2.heap.size + 1) s → Calls Try.prog 16 #[.pointer (some ⟨w2.heap.size + 1, 0, none⟩), .int .i64 i] W (Asked (w2.heap.size + 1) (w2.heap.size + 2) s W (.tuple #[.string (s.extract p.1 (p.1 + p.2.length)), .nilIface])) := fun W h1 h2 => line_in _ _ s (by omega) i p HP.out W h1 h2
      generalize s.extract p.1 (p.1 + p.2.length) = q2 at hq hline
      have HQ := Lib.hid hq
      have HLn := Lib.hid hline
      clear hq hline
      gi_wp2_with (refine ⟨trivial, ?_⟩; gi_at_call 16; refine (callsIn_wide.2 (HLn.out _ (by omega) hT)).mono ?_; rintro e W1 ⟨rfl, hm1, hg1⟩; have h3' := (h3.kept hg1 (by simp)); have b3 := h3'.cell)
      have hE1 : LinesE w w2 s w1.heap.size g cap st kk D W1 := by
        have hb : D ≠ w2.heap.size + 1 := fun e => by subst e; rw [show W.heap[w2.heap.size + 1]? = _ from h4] at hK; cases hK
        exact ⟨h1.kept hg1 (by simp; omega), ⟨_, h2.kept hg1 (by simp; omega)⟩, h3', h5.kept hg1 (by simp), hm1, h7.kept hg1 (.inr (by simp [Value.ownBlock]; omega)), (hg1.block D (Array.getElem?_eq_some_iff.1 hK).1 (by simpa using hb)).trans hK, h8.grown hg1 h8.size (fun k e => by cases e; omega), by have := hg1.size; omega⟩
      have hS1 : W1.drew.cell? ⟨w2.heap.size + 2, 0, none⟩ = some (.int .i64 kk) ∧ W1.drew.cell? ⟨w.heap.size, 0, none⟩ = some (.int .i64 st) ∧ W1.drew.cell? ⟨w2.heap.size, 0, none⟩ = some (.slice (some ⟨g, 0, none⟩) (lnsOf s).length cap) ∧ W1.drew.cell? ⟨g, i * 2 + 1, none⟩ = some (.string q2) ∧ LinesE w w2 s w1.heap.size g cap st kk D W1.drew := ⟨hE1.2.2.2.1.cell, hE1.1.cell, hE1.2.2.1.cell, own_cell hE1.2.2.2.2.2.1 HQ.out, hE1.drew⟩
      have zE1 : w2.heap.size + 2 ≤ W1.drew.heap.size := by have := hE1.2.2.2.2.2.2.2.2; show w2.heap.size + 2 ≤ W1.heap.size; omega
      refine wpIn_wide.2 (wp_region_noPanic (wp_region_held (S := fun W' => W'.cell? ⟨w2.heap.size + 2, 0, none⟩ = some (.int .i64 kk) ∧ W'.cell? ⟨w.heap.size, 0, none⟩ = some (.int .i64 st) ∧ W'.cell? ⟨w2.heap.size, 0, none⟩ = some (.slice (some ⟨g, 0, none⟩) (lnsOf s).length cap) ∧ W'.cell? ⟨g, i * 2 + 1, none⟩ = some (.string q2) ∧ LinesE w w2 s w1.heap.size g cap st kk D W') (by kernel_rfl) ?_))
      change wpAnyH _ _ _ _ _ _ _ _ W1.drew
      refine wpAnyH_take_d (i := 0) (v := .nilIface) 101 rfl (by kernel_rfl) (by kernel_rfl) (by kernel_rfl) (by kernel_rfl) (fun _ _ _ h => h) (Or.inl ⟨by kernel_rfl, fun w' hS' => ?_⟩) hS1 ?_
      · obtain ⟨k1, k2, k3, k4, _⟩ := hS'; go_simp
      simp only [Act.put, List.setIfInBounds_toArray, List.set_cons_zero, List.set_cons_succ]
      refine wpAnyH_take_d (i := 1) (v := .bool true) 102 rfl (by kernel_rfl) (by kernel_rfl) (by kernel_rfl) (by kernel_rfl) (fun _ _ _ h => h) (Or.inl ⟨by kernel_rfl, fun w' hS' => ?_⟩) hS1 ?_
      · obtain ⟨k1, k2, k3, k4, _⟩ := hS'; go_simp
      simp only [Act.put, List.setIfInBounds_toArray, List.set_cons_zero, List.set_cons_succ]
      refine wpAnyH_take_d (i := 2) (v := .bool true) 103 rfl (by kernel_rfl) (by kernel_rfl) (by kernel_rfl) (by kernel_rfl) (fun _ _ _ h => h) (Or.inl ⟨by kernel_rfl, fun w' hS' => ?_⟩) hS1 ?_
      · obtain ⟨k1, k2, k3, k4, _⟩ := hS'; go_simp
      simp only [Act.put, List.setIfInBounds_toArray, List.set_cons_zero, List.set_cons_succ]
      refine wpAnyH_take_d (i := 3) (v := .string q2) 104 rfl (by kernel_rfl) (by kernel_rfl) (by kernel_rfl) (by kernel_rfl) (fun _ _ _ h => h) (Or.inl ⟨by kernel_rfl, fun w' hS' => ?_⟩) hS1 ?_
      · obtain ⟨k1, k2, k3, k4, _⟩ := hS'; go_simp
      simp only [Act.put, List.setIfInBounds_toArray, List.set_cons_zero, List.set_cons_succ]
      refine wpAnyH_take_d (i := 4) (v := .slice (some ⟨g, 0, none⟩) (lnsOf s).length cap) 105 rfl (by kernel_rfl) (by kernel_rfl) (by kernel_rfl) (by kernel_rfl) (fun _ _ _ h => h) (Or.inl ⟨by kernel_rfl, fun w' hS' => ?_⟩) hS1 ?_
      · obtain ⟨k1, k2, k3, k4, _⟩ := hS'; go_simp
      simp only [Act.put, List.setIfInBounds_toArray, List.set_cons_zero, List.set_cons_succ]
      refine wpAnyH_take_d (i := 5) (v := .int .i64 i) 106 rfl (by kernel_rfl) (by kernel_rfl) (by kernel_rfl) (by kernel_rfl) (fun _ _ _ h => h) (Or.inl ⟨by kernel_rfl, fun w' hS' => ?_⟩) hS1 ?_
      · obtain ⟨k1, k2, k3, k4, _⟩ := hS'; go_simp
      simp only [Act.put, List.setIfInBounds_toArray, List.set_cons_zero, List.set_cons_succ]
      refine wpAnyH_take_d (i := 6) (v := .pointer (some ⟨g, i * 2, none⟩)) 107 rfl (by kernel_rfl) (by kernel_rfl) (by kernel_rfl) (by kernel_rfl) (fun _ _ _ h => h) (Or.inl ⟨by kernel_rfl, fun w' hS' => ?_⟩) hS1 ?_
      · obtain ⟨k1, k2, k3, k4, _⟩ := hS'; go_simp
      simp only [Act.put, List.setIfInBounds_toArray, List.set_cons_zero, List.set_cons_succ]
      refine wpAnyH_take_d (i := 7) (v := .pointer (some ⟨g, i * 2 + 1, none⟩)) 108 rfl (by kernel_rfl) (by kernel_rfl) (by kernel_rfl) (by kernel_rfl) (fun _ _ _ h => h) (Or.inl ⟨by kernel_rfl, fun w' hS' => ?_⟩) hS1 ?_
      · obtain ⟨k1, k2, k3, k4, _⟩ := hS'; go_simp
      simp only [Act.put, List.setIfInBounds_toArray, List.set_cons_zero, List.set_cons_succ]
      refine wpAnyH_take_d (i := 8) (v := .string q2) 109 rfl (by kernel_rfl) (by kernel_rfl) (by kernel_rfl) (by kernel_rfl) (fun _ _ _ h => h) (Or.inl ⟨by kernel_rfl, fun w' hS' => ?_⟩) hS1 ?_
      · obtain ⟨k1, k2, k3, k4, _⟩ := hS'; go_simp
      simp only [Act.put, List.setIfInBounds_toArray, List.set_cons_zero, List.set_cons_succ]
      refine wpAnyH_take_d (i := 9) (v := .bool true) 110 rfl (by kernel_rfl) (by kernel_rfl) (by kernel_rfl) (by kernel_rfl) (fun _ _ _ h => h) (Or.inl ⟨by kernel_rfl, fun w' hS' => ?_⟩) hS1 ?_
      · obtain ⟨k1, k2, k3, k4, _⟩ := hS'; go_simp
      simp only [Act.put, List.setIfInBounds_toArray, List.set_cons_zero, List.set_cons_succ]
      refine wpAnyH_take_d (i := 10) (v := .bool true) 111 rfl (by kernel_rfl) (by kernel_rfl) (by kernel_rfl) (by kernel_rfl) (fun _ _ _ h => h) (Or.inl ⟨by kernel_rfl, fun w' hS' => ?_⟩) hS1 ?_
      · obtain ⟨k1, k2, k3, k4, _⟩ := hS'; go_simp
      simp only [Act.put, List.setIfInBounds_toArray, List.set_cons_zero, List.set_cons_succ]
      refine wpAnyH_take_d (i := 11) (v := .bool true) 112 rfl (by kernel_rfl) (by kernel_rfl) (by kernel_rfl) (by kernel_rfl) (fun _ _ _ h => h) (Or.inl ⟨by kernel_rfl, fun w' hS' => ?_⟩) hS1 ?_
      · obtain ⟨k1, k2, k3, k4, _⟩ := hS'; go_simp
      simp only [Act.put, List.setIfInBounds_toArray, List.set_cons_zero, List.set_cons_succ]
      refine wpAnyH_take_d (i := 12) (v := .pointer (some ⟨w2.heap.size + 1, 0, none⟩)) 113 rfl (by kernel_rfl) (by kernel_rfl) (by kernel_rfl) (by kernel_rfl) (fun _ _ _ h => h) (Or.inl ⟨by kernel_rfl, fun w' hS' => ?_⟩) hS1 ?_
      · obtain ⟨k1, k2, k3, k4, _⟩ := hS'; go_simp
      simp only [Act.put, List.setIfInBounds_toArray, List.set_cons_zero, List.set_cons_succ]
      refine wpAnyH_take_d (i := 14) (v := .slice (some ⟨g, 0, none⟩) (lnsOf s).length cap) 115 rfl (by kernel_rfl) (by kernel_rfl) (by kernel_rfl) (by kernel_rfl) (fun _ _ _ h => h) (Or.inl ⟨by kernel_rfl, fun w' hS' => ?_⟩) hS1 ?_
      · obtain ⟨k1, k2, k3, k4, _⟩ := hS'; go_simp
      simp only [Act.put, List.setIfInBounds_toArray, List.set_cons_zero, List.set_cons_succ]
      refine wpAnyH_take_d (i := 15) (v := .int .i64 (lnsOf s).length) 116 rfl (by kernel_rfl) (by kernel_rfl) (by kernel_rfl) (by kernel_rfl) (fun _ _ _ h => h) (Or.inl ⟨by kernel_rfl, fun w' hS' => ?_⟩) hS1 ?_
      · obtain ⟨k1, k2, k3, k4, _⟩ := hS'; go_simp
      simp only [Act.put, List.setIfInBounds_toArray, List.set_cons_zero, List.set_cons_succ]
      refine wpAnyH_ready (rs := [13]) (by kernel_rfl) (by simp) ?_
      refine AllReadyH.cons rfl (fun K hK => ?_) AllReadyH.nil
      go_simp
      refine (len_any _ (w2.heap.size + 2) s (by omega) _ zE1 (.inr hS1.2.2.2.2.2.2.2.2.1)).mono ?_
      rintro e W2 ⟨rfl, hm2, hg2⟩
      have hE2 := hS1.2.2.2.2.step z1 z2 hgl hm2 hg2
      rw [HLB.out]
      have hS2 : W2.cell? ⟨w2.heap.size + 2, 0, none⟩ = some (.int .i64 kk) ∧ W2.cell? ⟨w.heap.size, 0, none⟩ = some (.int .i64 st) ∧ W2.cell? ⟨w2.heap.size, 0, none⟩ = some (.slice (some ⟨g, 0, none⟩) (lnsOf s).length cap) ∧ W2.cell? ⟨g, i * 2 + 1, none⟩ = some (.string q2) ∧ LinesE w w2 s w1.heap.size g cap st kk D W2 := ⟨hE2.2.2.2.1.cell, hE2.1.cell, hE2.2.2.1.cell, own_cell hE2.2.2.2.2.2.1 HQ.out, hE2⟩
      refine hK.out _ _ hS2 (fun _ => ?_)
      clear hK K
      refine wpAnyH_take_d (i := 16) (v := .bool true) 117 rfl (by kernel_rfl) (by kernel_rfl) (by kernel_rfl) (by kernel_rfl) (fun _ _ _ h => h) (Or.inl ⟨by kernel_rfl, fun w' hS' => ?_⟩) hS2 ?_
      · obtain ⟨k1, k2, k3, k4, _⟩ := hS'; go_simp
      simp only [Act.put, List.setIfInBounds_toArray, List.set_cons_zero, List.set_cons_succ]
      refine wpAnyH_take_d (i := 17) (v := .bool true) 118 rfl (by kernel_rfl) (by kernel_rfl) (by kernel_rfl) (by kernel_rfl) (fun _ _ _ h => h) (Or.inl ⟨by kernel_rfl, fun w' hS' => ?_⟩) hS2 ?_
      · obtain ⟨k1, k2, k3, k4, _⟩ := hS'; go_simp
      simp only [Act.put, List.setIfInBounds_toArray, List.set_cons_zero, List.set_cons_succ]
      refine wpAnyH_take_d (i := 18) (v := .bool true) 119 rfl (by kernel_rfl) (by kernel_rfl) (by kernel_rfl) (by kernel_rfl) (fun _ _ _ h => h) (Or.inl ⟨by kernel_rfl, fun w' hS' => ?_⟩) hS2 ?_
      · obtain ⟨k1, k2, k3, k4, _⟩ := hS'; go_simp
      simp only [Act.put, List.setIfInBounds_toArray, List.set_cons_zero, List.set_cons_succ]
      refine wpAnyH_take_d (i := 19) (v := .int .i64 kk) 120 rfl (by kernel_rfl) (by kernel_rfl) (by kernel_rfl) (by kernel_rfl) (fun _ _ _ h => h) (Or.inl ⟨by kernel_rfl, fun w' hS' => ?_⟩) hS2 ?_
      · obtain ⟨k1, k2, k3, k4, _⟩ := hS'; go_simp
      simp only [Act.put, List.setIfInBounds_toArray, List.set_cons_zero, List.set_cons_succ]
      refine wpAnyH_take_d (i := 20) (v := .int .i64 st) 121 rfl (by kernel_rfl) (by kernel_rfl) (by kernel_rfl) (by kernel_rfl) (fun _ _ _ h => h) (Or.inl ⟨by kernel_rfl, fun w' hS' => ?_⟩) hS2 ?_
      · obtain ⟨k1, k2, k3, k4, _⟩ := hS'; go_simp
      simp only [Act.put, List.setIfInBounds_toArray, List.set_cons_zero, List.set_cons_succ]
      refine wpAnyH_take_d (i := 21) (v := .slice (some ⟨g, 0, none⟩) (lnsOf s).length cap) 122 rfl (by kernel_rfl) (by kernel_rfl) (by kernel_rfl) (by kernel_rfl) (fun _ _ _ h => h) (Or.inl ⟨by kernel_rfl, fun w' hS' => ?_⟩) hS2 ?_
      · obtain ⟨k1, k2, k3, k4, _⟩ := hS'; go_simp
      simp only [Act.put, List.setIfInBounds_toArray, List.set_cons_zero, List.set_cons_succ]
      refine wpAnyH_take_d (i := 22) (v := .int .i64 (lnsOf s).length) 123 rfl (by kernel_rfl) (by kernel_rfl) (by kernel_rfl) (by kernel_rfl) (fun _ _ _ h => h) (Or.inl ⟨by kernel_rfl, fun w' hS' => ?_⟩) hS2 ?_
      · obtain ⟨k1, k2, k3, k4, _⟩ := hS'; go_simp
      simp only [Act.put, List.setIfInBounds_toArray, List.set_cons_zero, List.set_cons_succ]
      refine wpAnyH_take_d (i := 23) (v := .int .i64 kk) 124 rfl (by kernel_rfl) (by kernel_rfl) (by kernel_rfl) (by kernel_rfl) (fun _ _ _ h => h) (Or.inl ⟨by kernel_rfl, fun w' hS' => ?_⟩) hS2 ?_
      · obtain ⟨k1, k2, k3, k4, _⟩ := hS'; go_simp; have hkm := HK.out; split <;> omega
      simp only [Act.put, List.setIfInBounds_toArray, List.set_cons_zero, List.set_cons_succ]
      refine wpAnyH_take_d (i := 24) (v := .bool true) 125 rfl (by kernel_rfl) (by kernel_rfl) (by kernel_rfl) (by kernel_rfl) (fun _ _ _ h => h) (Or.inl ⟨by kernel_rfl, fun w' hS' => ?_⟩) hS2 ?_
      · obtain ⟨k1, k2, k3, k4, _⟩ := hS'; go_simp
      simp only [Act.put, List.setIfInBounds_toArray, List.set_cons_zero, List.set_cons_succ]
      refine wpAnyH_take_d (i := 25) (v := .bool true) 126 rfl (by kernel_rfl) (by kernel_rfl) (by kernel_rfl) (by kernel_rfl) (fun _ _ _ h => h) (Or.inl ⟨by kernel_rfl, fun w' hS' => ?_⟩) hS2 ?_
      · obtain ⟨k1, k2, k3, k4, _⟩ := hS'; go_simp
      simp only [Act.put, List.setIfInBounds_toArray, List.set_cons_zero, List.set_cons_succ]
      refine wpAnyH_take_d (i := 26) (v := .bool true) 127 rfl (by kernel_rfl) (by kernel_rfl) (by kernel_rfl) (by kernel_rfl) (fun _ _ _ h => h) (Or.inl ⟨by kernel_rfl, fun w' hS' => ?_⟩) hS2 ?_
      · obtain ⟨k1, k2, k3, k4, _⟩ := hS'; go_simp
      simp only [Act.put, List.setIfInBounds_toArray, List.set_cons_zero, List.set_cons_succ]
      refine wpAnyH_take_d (i := 27) (v := .int .i64 0) 128 rfl (by kernel_rfl) (by kernel_rfl) (by kernel_rfl) (by kernel_rfl) (fun _ _ _ h => h) (Or.inl ⟨by kernel_rfl, fun w' hS' => ?_⟩) hS2 ?_
      · obtain ⟨k1, k2, k3, k4, _⟩ := hS'; go_simp
      simp only [Act.put, List.setIfInBounds_toArray, List.set_cons_zero, List.set_cons_succ]
      refine wpAnyH_take_d (i := 28) (v := .bool true) 129 rfl (by kernel_rfl) (by kernel_rfl) (by kernel_rfl) (by kernel_rfl) (fun _ _ _ h => h) (Or.inl ⟨by kernel_rfl, fun w' hS' => ?_⟩) hS2 ?_
      · obtain ⟨k1, k2, k3, k4, _⟩ := hS'; go_simp
      simp only [Act.put, List.setIfInBounds_toArray, List.set_cons_zero, List.set_cons_succ]
      refine wpAnyH_take_d (i := 29) (v := .bool true) 130 rfl (by kernel_rfl) (by kernel_rfl) (by kernel_rfl) (by kernel_rfl) (fun _ _ _ h => h) (Or.inl ⟨by kernel_rfl, fun w' hS' => ?_⟩) hS2 ?_
      · obtain ⟨k1, k2, k3, k4, _⟩ := hS'; go_simp
      simp only [Act.put, List.setIfInBounds_toArray, List.set_cons_zero, List.set_cons_succ]
      refine wpAnyH_take_d (i := 30) (v := .bool true) 131 rfl (by kernel_rfl) (by kernel_rfl) (by kernel_rfl) (by kernel_rfl) (fun _ _ _ h => h) (Or.inl ⟨by kernel_rfl, fun w' hS' => ?_⟩) hS2 ?_
      · obtain ⟨k1, k2, k3, k4, _⟩ := hS'; go_simp
      simp only [Act.put, List.setIfInBounds_toArray, List.set_cons_zero, List.set_cons_succ]
      refine wpAnyH_take_d (i := 31) (v := .pointer (some ⟨w2.heap.size + 1, 0, none⟩)) 132 rfl (by kernel_rfl) (by kernel_rfl) (by kernel_rfl) (by kernel_rfl) (fun _ _ _ h => h) (Or.inl ⟨by kernel_rfl, fun w' hS' => ?_⟩) hS2 ?_
      · obtain ⟨k1, k2, k3, k4, _⟩ := hS'; go_simp
      simp only [Act.put, List.setIfInBounds_toArray, List.set_cons_zero, List.set_cons_succ]
      refine wpAnyH_ready (rs := [32]) (by kernel_rfl) (by simp) ?_
      refine AllReadyH.cons rfl (fun K hK => ?_) AllReadyH.nil
      go_simp
      refine (made_any _ _ _ (made_cell hS2.2.2.2.2.2.2.2.2.1)).mono ?_
      rintro e W3 ⟨rfl, rfl⟩
      refine hK.out _ _ hS2 (fun _ => ?_)
      clear hK K
      refine wpAnyH_take_d (i := 33) (v := .bool true) 134 rfl (by kernel_rfl) (by kernel_rfl) (by kernel_rfl) (by kernel_rfl) (fun _ _ _ h => h) (Or.inl ⟨by kernel_rfl, fun w' hS' => ?_⟩) hS2 ?_
      · obtain ⟨k1, k2, k3, k4, _⟩ := hS'; go_simp
      simp only [Act.put, List.setIfInBounds_toArray, List.set_cons_zero, List.set_cons_succ]
      refine wpAnyH_take_d (i := 34) (v := .bool true) 135 rfl (by kernel_rfl) (by kernel_rfl) (by kernel_rfl) (by kernel_rfl) (fun _ _ _ h => h) (Or.inl ⟨by kernel_rfl, fun w' hS' => ?_⟩) hS2 ?_
      · obtain ⟨k1, k2, k3, k4, _⟩ := hS'; go_simp
      simp only [Act.put, List.setIfInBounds_toArray, List.set_cons_zero, List.set_cons_succ]
      have hE9 := LinesE.store hS2.2.2.2.2 z1 z2 hgb true
      have hrb := LinesE.rbox hS2.2.2.2.2
      refine wpAnyH_store 35 4 (.tmp 6) (.tmp 135) (by kernel_rfl) (by kernel_rfl) size_bool ⟨w.heap.size + 1, 0, none⟩ true (by kernel_rfl) (by kernel_rfl) hrb.1 hrb.2 ⟨hE9.1.2.2.2.1.cell, hE9.1.1.cell, hE9.1.2.2.1.cell, own_cell hE9.1.2.2.2.2.2.1 HQ.out, hE9.1⟩ (by kernel_rfl) (NoPanic.normal ?_)
      gi_wp2
      have hK9 := hE9.1.2.2.2.2.2.2.1
      have hDr : w.heap.size + 1 ≠ D := fun e => rbox_ne hE9.2 hK9 e
      have hres := (hE9.2.kept (grownBy_putObj' _ D (.deferred none)) (by simpa using hDr)).cell
      refine ⟨by simp, .inl ⟨_, _, rfl, run_takeDeferred hK9, ?_⟩⟩
      refine ⟨.bool true, by simp [results, Try.results4, go_sem, hres], rfl, ?_⟩
      exact hE9.1.2.2.2.2.2.2.2.1.trans (belowK_b (w := w) (Nat.le_refl _) _ D _ _ (by omega) hK9 rfl rfl)

set_option maxRecDepth 100000 in
set_option maxHeartbeats 800000 in
theorem lines_walk (s : ByteArray) (n stop : Int) (w : World) :
    Calls Try.prog 4 #[.string s, .int .i64 n, .int .i64 stop] w fun e w' => e = .returned (.bool true) ∧ Below w.heap.size w w' := by
  by_cases hs : s.size ≤ 2000
  · exact callsIn_wide.1 (lines_in s hs n stop w)
  · have hs' : (2000 : Int) < (s.size : Int) := by omega
    go_enter Try.func4, Try.ntmps4
    go_wp2_with (go_at_call 6; refine (alive_any _).mono ?_; rintro e w1 ⟨rfl, hB1⟩; have hR1 : Boxed w1 (w.heap.size + 1) 4 (.bool false) := (hB1.block (w.heap.size + 1) (by simp)).trans (by have := Boxed.new (w.alloc (.cells #[.int .i64 stop] 3)) 4 (.bool false); rwa [World.size_alloc] at this); have hc := hR1.cell; have hf := hR1.frozen)
    have hres := (hR1.set (.bool true)).cell
    have hB0 : Below w.heap.size w w1 := (((Below.refl _ w).alloc (Nat.le_refl _) _).alloc (by simp) _).trans (hB1.mono (by simp; omega))
    exact bodyPost_ret (v := .bool true) (by simp [results, Try.results4, go_sem, hres]) rfl ⟨rfl, hB0.setCell (p := ⟨w.heap.size + 1, 0, none⟩) (by show w.heap.size ≤ w.heap.size + 1; omega) _⟩

end Go.Proofs.Ythmeneklccngeaa
