/- tree.Right and tree.Count: what they answer of any tree of at most 9000 nodes. -/
import Derived.Test.YtfmlcddakfbleaaGreatDoorTreeLeaves
namespace Go.Proofs.YtfmlcddakfbleaaGreatDoor
open Go.RowKit Go.Shelf TreeMath

attribute [local go_sem] Oper.semAt_some

theorem Low.set {n : Nat} {w : World} {X : Nat → Prop} {W : World} (h : Low n w X W) {p : Addr} (hp : n ≤ p.block) (v : Value) : Low n w X (W.setCell p v) :=
  ⟨h.1.setCell hp v, by have := h.2.1; simp only [World.setCell, Array.size_modify]; exact this, h.2.2⟩
theorem Low.begin (w : World) {W : World} (h : Below w.heap.size w W) : Low w.heap.size w no W := ⟨h, h.size, fun _ h => h.elim⟩
theorem size_set (W : World) (p : Addr) (v : Value) : (W.setCell p v).heap.size = W.heap.size := by simp [World.setCell]
/-- the five cells of a box that a call has left -/
theorem cell_new5 {w w1 : World} {T : Tr} (h : Below (w.alloc (nbx T)).heap.size (w.alloc (nbx T)) w1) : w1.cell? ⟨w.heap.size, 0, none⟩ = some (.int .i64 T.k) ∧ w1.cell? ⟨w.heap.size, 1, none⟩ = some (.string T.g) ∧ w1.cell? ⟨w.heap.size, 2, none⟩ = some (.string T.t) ∧ w1.cell? ⟨w.heap.size, 3, none⟩ = some (.int .i64 T.a) ∧ w1.cell? ⟨w.heap.size, 4, none⟩ = some (.slice T.A T.kids.length T.c) := by
  have hb := h.block w.heap.size (by simp)
  rw [World.alloc_heap_new] at hb
  simp [World.cell?, hb]
theorem below4 (w : World) (a b c d : Obj) : Below w.heap.size w ((((w.alloc a).alloc b).alloc c).alloc d) := (((below1 w a).alloc (by simp) b).alloc (by simp; omega) c).alloc (by simp; omega) d
theorem below5 (w : World) (a b c d e : Obj) : Below w.heap.size w (((((w.alloc a).alloc b).alloc c).alloc d).alloc e) := (below4 w a b c d).alloc (by simp; omega) e
theorem below3 (w : World) (a b c : Obj) : Below w.heap.size w (((w.alloc a).alloc b).alloc c) := ((below1 w a).alloc (by simp) b).alloc (by simp; omega) c
theorem below2 (w : World) (a b : Obj) : Below w.heap.size w ((w.alloc a).alloc b) := (below1 w a).alloc (by simp) b

abbrev tbx (x : Tr) : Obj := .cells (ncc (tok x)) 30 (0, 0)
abbrev bbx (b : Bool) : Obj := .cells #[.bool b] 4 (0, 0)
abbrev ibx (i : Int) : Obj := .cells #[.int .i64 i] 3 (0, 0)

def RtI (w : World) (T : Tr) (pre : List (Nat × Tr)) : As := fun X W => Low w.heap.size w X W ∧ Has (w.heap.size + 1) (bbx false) X W ∧ Has (w.heap.size + 2) (ibx (pre.length : Nat)) X W ∧ Has (w.heap.size + 3) (nbx T) X W ∧ (pre.all fun p => snd p.2) = true
theorem RtI.frames (w : World) (T : Tr) (pre : List (Nat × Tr)) : Frames (RtI w T pre) := (Low.frames _ _).and ((Has.frames _ _).and ((Has.frames _ _).and ((Has.frames _ _).and (Frames.pure _))))
def RtX (w : World) (T : Tr) (c : Code) (_ : List (Nat × Tr)) : As := fun X W => c = .ret ∧ rgt T = false ∧ Low w.heap.size w X W ∧ Has (w.heap.size + 1) (bbx false) X W
theorem RtX.frames (w : World) (T : Tr) (c : Code) (pre : List (Nat × Tr)) : Frames (RtX w T c pre) := (Frames.pure _).and ((Frames.pure _).and ((Low.frames _ _).and (Has.frames _ _)))
abbrev rtFrm (y bp : Nat) (T : Tr) (x : Nat × Tr) : Act :=
  { tmps := #[nv T, .pointer (some ⟨y, 0, none⟩), .pointer (some ⟨y + 1, 0, none⟩), .pointer (some ⟨y + 2, 0, none⟩), undef, .pointer (some ⟨bp, 0, none⟩), nv T, .func (.func 74) #[] #[.pointer (some ⟨y + 3, 0, none⟩)], .int .i64 (x.1 : Nat), nv x.2, undef, undef, undef, undef, undef, undef, undef, undef, undef], defers := [] }

theorem all_wk {T : Tr} {p : Tr → Bool} : ((wk 0 T).all fun q => p q.2) = (ns T).all p := by
  unfold ns
  rw [List.all_map]
  rfl

theorem wk_mem {T x : Tr} {d : Nat} (h : (d, x) ∈ wk 0 T) : x ∈ ns T := List.mem_map.2 ⟨_, h, rfl⟩

set_option maxRecDepth 100000 in
set_option maxHeartbeats 2000000 in
theorem right_any (T : Tr) (w : World) (hT : Tn (lo w.heap.size) w T) (hw : wt T ≤ 9000) :
    Calls Tryz.prog 30 #[nv T] w fun e w' => e = .returned (.bool (rgt T)) ∧ Below w.heap.size w w' := by
  have HIT := Lib.hid (nodes_iter T w (w.heap.size + 3) hT hw)
  have hlen : (wk 0 T).length ≤ 9000 := by rw [wk_length]; exact Nat.le_trans (cn_wt T) hw
  clear hT hw
  refine (callsIn_wide (n := 8)).1 ?_
  refine callsIn_of_wp_marks Tryz.func30 rfl trivial ?_ rfl
  simp only [Tryz.ntmps30, List.size_toArray, List.length_cons, List.length_nil, Nat.reduceAdd, Nat.reduceSub, Array.replicate_succ, Array.replicate_zero, List.push_toArray, List.append_toArray, List.nil_append, List.cons_append]
  gi_wp2_with (refine ⟨trivial, ?_⟩; gi_at_call 54; refine (callsIn_wide.2 (nodes_any T _)).mono ?_; rintro e w' ⟨rfl, rfl⟩)
  refine range_out HIT.out rfl eg_nodes (fun _ => rfl) (RtI w T) (RtX w T) (fun pre x a' X W => ∃ bp, RtI w T pre X W ∧ Has bp (nbx x.2) X W ∧ a' = rtFrm w.heap.size bp T x) ?fI ?fX ?fA ?hC ?h0 ?assign ?body ?done ?stop
  case fI => exact fun pre => RtI.frames _ _ _
  case fX => exact fun c pre => RtX.frames _ _ _ _
  case fA => exact fun pre p a' => Frames.ex fun bp => (RtI.frames _ _ _).and ((Has.frames _ _).and (Frames.pure _))
  case hC => exact fun pre X W1 h => ⟨h.1, h.2.2.2.1⟩
  case h0 =>
    refine ⟨Low.begin w (below4 w _ _ _ _), ?_, ?_, ?_, rfl⟩
    · exact ((Has.newAt (fun h => h) (by simp) _).alloc _).alloc _
    · exact (Has.newAt (fun h => h) (by simp) _).alloc _
    · exact Has.newAt (fun h => h) (by simp) _
  case assign =>
    rintro lq X pre x W1 K hX hXb hi hp hK
    gi_wp2
    exact hK _ _ (by simp) (Kept.alloc _ _ _) ⟨W1.heap.size, (RtI.frames _ _ _).off hi (Off.alloc _ _ _), Has.new hXb _, rfl⟩
  case body =>
    rintro lq X pre ⟨d, x⟩ a' W1 hX hXb hr2 ⟨bp, ⟨hlow, hr, hc, hn, ha⟩, hbp, rfl⟩ hp
    have hl5 : (pre.length : Int) + 1 ≤ 9000 := by have := hp.length_le; simp at this; omega
    have HP := Lib.hid hp
    have HA := Lib.hid ha
    clear hp ha hlen
    obtain ⟨c, hcc⟩ : ∃ c : Int, (pre.length : Int) + 1 = c := ⟨_, rfl⟩
    have hz0 : 0 ≤ c := by omega
    have hz5 : c ≤ 9000 := by omega
    have hg : decide ((20000 : Int) < c) = false := decide_eq_false (by omega)
    have hne : bp ≠ w.heap.size + 2 := hbp.ne hc (by simp)
    have hlow1 : Low w.heap.size w X (W1.setCell ⟨w.heap.size + 2, 0, none⟩ (.int .i64 c)) := hlow.set (by simp) _
    have hr1 : Has (w.heap.size + 1) (bbx false) X (W1.setCell ⟨w.heap.size + 2, 0, none⟩ (.int .i64 c)) := hr.other (by omega)
    have hc1 : Has (w.heap.size + 2) (ibx c) X (W1.setCell ⟨w.heap.size + 2, 0, none⟩ (.int .i64 c)) := hc.set
    have hn1 : Has (w.heap.size + 3) (nbx T) X (W1.setCell ⟨w.heap.size + 2, 0, none⟩ (.int .i64 c)) := hn.other (by omega)
    have hb1 : Has bp (nbx x) X (W1.setCell ⟨w.heap.size + 2, 0, none⟩ (.int .i64 c)) := hbp.other hne
    have hk1 : Kept X W1 (W1.setCell ⟨w.heap.size + 2, 0, none⟩ (.int .i64 c)) := Kept.set hc.1 _ _
    have hs1 := size_set W1 ⟨w.heap.size + 2, 0, none⟩ (.int .i64 c)
    have q0 := hc.cell (i := 0)
    have f0 := hc.frozen (i := 0)
    have c0 := hc1.cell (i := 0)
    have p0 := hb1.cell (i := 0)
    have p1 := hb1.cell (i := 1)
    have p2 := hb1.cell (i := 2)
    have p3 := hb1.cell (i := 3)
    have p4 := hb1.cell (i := 4)
    simp only [List.getElem?_toArray, List.getElem?_cons_zero, List.getElem?_cons_succ] at q0 c0 p0 p1 p2 p3 p4
    have HS1 := Lib.hid hs1
    clear hs1
    clear hl5
    cases hs : snd x with
    | true =>
      have HS := Lib.hid hs
      clear hs
      gi_wp2_with (refine ⟨trivial, ?_⟩; gi_at_call 55; refine (CallsIn.inRound lq (callsIn_wide.2 (sound_any x _))).mono ?_; rw [HS.out]; rintro r W2 ⟨rfl, hB2⟩)
      have hB3 : W1.heap.size ≤ W2.heap.size := by rw [← HS1.out]; exact hB2.size
      refine ⟨hB3, Kept.trans (by rw [HS1.out]; exact Nat.le_refl _) hk1 (Kept.below hB2), (Low.frames _ _).off hlow1 (Off.of_below hB2), (Has.frames _ _).off hr1 (Off.of_below hB2), ?_, (Has.frames _ _).off hn1 (Off.of_below hB2), ?_⟩
      · have := (Has.frames _ _).off hc1 (Off.of_below hB2)
        rw [List.length_append, Int.natCast_add]
        simp only [List.length_cons, List.length_nil, Nat.zero_add, Int.natCast_one, hcc]
        exact this
      · rw [List.all_append, HA.out]; simp [HS.out]
    | false =>
      have HS := Lib.hid hs
      clear hs
      gi_wp2_with (refine ⟨trivial, ?_⟩; gi_at_call 55; refine (CallsIn.inRound lq (callsIn_wide.2 (sound_any x _))).mono ?_; rw [HS.out]; rintro r W2 ⟨rfl, hB2⟩; have g0 := ((Has.frames _ _).off hr1 (Off.of_below hB2)).cell (i := 0); have g1 := ((Has.frames _ _).off hr1 (Off.of_below hB2)).frozen (i := 0); simp only [List.getElem?_toArray, List.getElem?_cons_zero] at g0)
      have hB3 : W1.heap.size ≤ W2.heap.size := by rw [← HS1.out]; exact hB2.size
      have hr2 := (Has.frames _ _).off hr1 (Off.of_below hB2)
      refine ⟨by rw [size_set]; exact hB3, ?_, rfl, ?_, ((Low.frames _ _).off hlow1 (Off.of_below hB2)).set (by simp) _, hr2.set⟩
      · exact Kept.trans hB3 (Kept.trans (by rw [HS1.out]; exact Nat.le_refl _) hk1 (Kept.below hB2)) (Kept.set hr2.1 _ _)
      · refine Bool.eq_false_iff.2 fun h => ?_
        have := rgt_node h (wk_mem (HP.out.subset (by simp) : (d, x) ∈ wk 0 T))
        rw [HS.out] at this
        cases this
  case done =>
    rintro D W1 ⟨hlow, hr, hc, hn, ha⟩ hD
    have q0 := hr.cell (i := 0)
    have f0 := hr.frozen (i := 0)
    simp only [List.getElem?_toArray, List.getElem?_cons_zero] at q0
    have hR : rgt T = true := by unfold rgt; rw [← all_wk]; exact ha
    have HR := Lib.hid hR
    clear hR
    have hD2 : (W1.setCell ⟨w.heap.size + 1, 0, none⟩ (.bool true)).heap[D]? = some (.deferred (some [])) := (Below.heap_setCell _ _ _ _ (fun e => hr.1 e.symm)).trans hD
    have ho : Off (· = D) (W1.setCell ⟨w.heap.size + 1, 0, none⟩ (.bool true)) ((W1.setCell ⟨w.heap.size + 1, 0, none⟩ (.bool true)).putObj D (.deferred none)) := Off.putObj (X := (· = D)) rfl _ _
    have g0 := ((Has.frames _ _).off (hr.set (v' := .bool true)) ho).cell (i := 0)
    have g1 := ((Low.frames _ _).off (hlow.set (p := ⟨w.heap.size + 1, 0, none⟩) (by simp) (.bool true)) ho).1
    simp only [List.getElem?_toArray, List.getElem?_cons_zero] at g0
    gi_wp2
    refine ⟨by simp, .inl ⟨_, _, rfl, run_takeDeferred hD2, ?_⟩⟩
    exact ⟨.bool true, by simp [results, Tryz.results30, go_sem, g0], ret_bool HR.out.symm, g1⟩
  case stop =>
    rintro D c pre W1 hp ⟨rfl, hR, hlow, hr⟩ hD
    have ho : Off (· = D) W1 (W1.putObj D (.deferred none)) := Off.putObj (X := (· = D)) rfl _ _
    have g0 := ((Has.frames _ _).off hr ho).cell (i := 0)
    have g1 := ((Low.frames _ _).off hlow ho).1
    simp only [List.getElem?_toArray, List.getElem?_cons_zero] at g0
    have HR := Lib.hid hR
    clear hR
    gi_wp2
    refine ⟨by simp, .inl ⟨_, _, rfl, run_takeDeferred hD, ?_⟩⟩
    exact ⟨.bool false, by simp [results, Tryz.results30, go_sem, g0], ret_bool HR.out.symm, g1⟩
end Go.Proofs.YtfmlcddakfbleaaGreatDoor
