/- tree.Span, tree.Stands. -/
import Derived.Test.YtfmlcddakfbleaaGreatDoorTreeRight
import Derived.Test.YtfmlcddakfbleaaGreatDoorTreeLeaves
import Derived.Test.YtfmlcddakfbleaaGreatDoorTreeBox
namespace Go.Proofs.YtfmlcddakfbleaaGreatDoor
open Go.RowKit Go.Shelf TreeMath

attribute [local go_sem] Oper.semAt_some

/-- where the place stands behind leaves -/
def sta : Int → List Tr → Int
  | p, [] => p
  | p, x :: xs => sta (wrap64 (wrap64 (p + x.g.size) + x.t.size)) xs
/-- do leaves stand right? -/
def stb : Int → List Tr → Bool
  | _, [] => true
  | p, x :: xs => decide (x.a = wrap64 (p + x.g.size)) && stb (wrap64 (wrap64 (p + x.g.size) + x.t.size)) xs
theorem sta_snoc (l : List Tr) (x : Tr) : ∀ p, sta p (l ++ [x]) = wrap64 (wrap64 (sta p l + x.g.size) + x.t.size) := by
  induction l with
  | nil => intro p; rfl
  | cons y ys ih => intro p; exact ih _
theorem stb_append (l k : List Tr) : ∀ p, stb p (l ++ k) = (stb p l && stb (sta p l) k) := by
  induction l with
  | nil => intro p; rfl
  | cons y ys ih => intro p; rw [List.cons_append, stb, stb, sta, ih, Bool.and_assoc]
theorem stb_snoc (l : List Tr) (x : Tr) (p : Int) : stb p (l ++ [x]) = (stb p l && decide (x.a = wrap64 (sta p l + x.g.size))) := by
  rw [stb_append]; simp [stb]

def StI (w : World) (T : Tr) (p : Int) (b : Nat) (pre : List Tr) : As := fun X W => Low w.heap.size w X W ∧ Has (w.heap.size + 1) (bbx false) X W ∧ Has b (ibx (sta p pre)) X W ∧ Has (b + 1) (nbx T) X W ∧ stb p pre = true
theorem StI.frames (w : World) (T : Tr) (p : Int) (b : Nat) (pre : List Tr) : Frames (StI w T p b pre) := (Low.frames _ _).and ((Has.frames _ _).and ((Has.frames _ _).and ((Has.frames _ _).and (Frames.pure _))))
def StX (w : World) (T : Tr) (p : Int) (c : Code) (_ : List Tr) : As := fun X W => c = .ret ∧ stb p (lf T) = false ∧ Low w.heap.size w X W ∧ Has (w.heap.size + 1) (bbx false) X W
theorem StX.frames (w : World) (T : Tr) (p : Int) (c : Code) (pre : List Tr) : Frames (StX w T p c pre) := (Frames.pure _).and ((Frames.pure _).and ((Low.frames _ _).and (Has.frames _ _)))
abbrev stFrm (y b bp : Nat) (p : Int) (T x : Tr) : Act :=
  { tmps := #[nv T, .int .i64 p, .pointer (some ⟨y, 0, none⟩), undef, .pointer (some ⟨y + 1, 0, none⟩), .pointer (some ⟨b, 0, none⟩), .pointer (some ⟨bp, 0, none⟩), nv T, .bool true, .bool false, .int .i64 p, nv T, .func (.func 56) #[] #[.pointer (some ⟨b + 1, 0, none⟩)], nv (tok x), undef, undef, undef, undef, undef, undef, undef, undef, undef, undef, undef, undef, undef, undef], defers := [] }

set_option maxRecDepth 100000 in
set_option maxHeartbeats 2000000 in
theorem stands_any (T : Tr) (p : Int) (w : World) (hT : Tn (lo w.heap.size) w T) (hw : wt T ≤ 9000) :
    Calls Tryz.prog 9 #[nv T, .int .i64 p] w fun e w' => e = .returned (.bool (rgt T && stb p (lf T))) ∧ Below w.heap.size w w' := by
  have HR := Lib.hid (right_any T ((w.alloc (nbx T)).alloc (bbx false)) ((hT.below (below2 w _ _)).more (by simp; omega)) hw)
  have HITS := Lib.hid (fun b => leaves_iter T w b hT hw)
  have HSZ : Hid (∀ x ∈ lf T, (x.g.size : Int) + x.t.size ≤ 450000) := Lib.hid fun x hx => by have := text_le (List.mem_filter.1 hx).1; omega
  clear hT hw
  refine (callsIn_wide (n := 8)).1 ?_
  cases hr : rgt T with
  | false =>
    rw [hr] at HR
    clear hr
    refine callsIn_of_wp_marks Tryz.func9 rfl trivial ?_ rfl
    simp only [Tryz.ntmps9, List.size_toArray, List.length_cons, List.length_nil, Nat.reduceAdd, Nat.reduceSub, Array.replicate_succ, Array.replicate_zero, List.push_toArray, List.append_toArray, List.nil_append, List.cons_append]
    gi_wp2_with (refine ⟨trivial, ?_⟩; gi_at_call 30; refine (callsIn_wide.2 HR.out).mono ?_; rintro e w1 ⟨rfl, hb1⟩; have hr1 := hb1.block (w.heap.size + 1) (by simp); have hz : w.heap.size + 1 < w1.heap.size := (by have := hb1.size; simp at this; omega); have hr2 : w1.heap[w.heap.size + 1]? = some (bbx false) := hr1.trans (by have := World.alloc_heap_new (w.alloc (nbx T)) (bbx false); simpa using this); have q0 := Has.cell (X := no) ⟨fun h => h, hr2⟩ (i := 0); have f0 := Has.frozen (X := no) ⟨fun h => h, hr2⟩ (i := 0); simp only [List.getElem?_toArray, List.getElem?_cons_zero] at q0; have hr3 := heap_set hr2 (i := 0) (.bool false); have q1 := Has.cell (X := no) ⟨fun h => h, hr3⟩ (i := 0); simp at q1)
    exact ⟨.bool false, by simp [results, Tryz.results9, go_sem, q1], by simp, ((below2 w _ _).trans (hb1.mono (by simp; omega))).setCell (by simp) _⟩
  | true =>
    rw [hr] at HR
    clear hr
    refine callsIn_of_wp_marks Tryz.func9 rfl trivial ?_ rfl
    simp only [Tryz.ntmps9, List.size_toArray, List.length_cons, List.length_nil, Nat.reduceAdd, Nat.reduceSub, Array.replicate_succ, Array.replicate_zero, List.push_toArray, List.append_toArray, List.nil_append, List.cons_append]
    gi_wp2_with (first | (refine ⟨trivial, ?_⟩; gi_at_call 30; refine (callsIn_wide.2 HR.out).mono ?_; rintro e w1 ⟨rfl, hb1⟩; have hc1 := cell_new5 ((below1 (w.alloc (nbx T)) (bbx false)).trans (hb1.mono (by simp))); have hz : w.heap.size < w1.heap.size := (by have := hb1.size; simp at this; omega); have HRB := Lib.hid ((hb1.block (w.heap.size + 1) (by simp)).trans (show ((w.alloc (nbx T)).alloc (bbx false)).heap[w.heap.size + 1]? = some (bbx false) from by have := World.alloc_heap_new (w.alloc (nbx T)) (bbx false); simpa using this))) | (refine ⟨trivial, ?_⟩; gi_at_call 31; refine (callsIn_wide.2 (leaves_any T _)).mono ?_; rintro e w' ⟨rfl, rfl⟩))
    have hbB : Below w.heap.size w w1 := (below2 w _ _).trans (hb1.mono (by simp; omega))
    have hz1 : w.heap.size + 1 < w1.heap.size := by have := hb1.size; simp at this; omega
    refine range_out (HITS.out (w1.heap.size + 1)) rfl eg_leaves (fun _ => rfl) (StI w T p w1.heap.size) (StX w T p) (fun pre x a' X W => ∃ bp, StI w T p w1.heap.size pre X W ∧ Has bp (tbx x) X W ∧ a' = stFrm w.heap.size w1.heap.size bp p T x) ?fI ?fX ?fA ?hC ?h0 ?assign ?body ?done ?stop
    case fI => exact fun pre => StI.frames _ _ _ _ _
    case fX => exact fun c pre => StX.frames _ _ _ _ _
    case fA => exact fun pre q a' => Frames.ex fun bp => (StI.frames _ _ _ _ _).and ((Has.frames _ _).and (Frames.pure _))
    case hC => exact fun pre X W1 h => ⟨h.1, h.2.2.2.1⟩
    case h0 =>
      refine ⟨Low.begin w (hbB.trans ((below2 w1 _ _).mono hbB.size)), ⟨fun h => h, ?_⟩, ?_, ?_, rfl⟩
      · exact (Below.heap_alloc _ _ _ (by simp; omega)).trans ((Below.heap_alloc _ _ _ hz1).trans HRB.out)
      · exact (Has.newAt (fun h => h) (by simp) _).alloc _
      · exact Has.newAt (fun h => h) (by simp) _
    case assign =>
      rintro lq X pre x W1 K hX hXb hi hp hK
      gi_wp2
      exact hK _ _ (by simp) (Kept.alloc _ _ _) ⟨W1.heap.size, (StI.frames _ _ _ _ _).off hi (Off.alloc _ _ _), Has.new hXb _, rfl⟩
    case body =>
      rintro lq X pre x a' W1 hX hXb hr2 ⟨bp, ⟨hlow, hr, hc, hn, hs⟩, hbp, rfl⟩ hp
      have s1 := HSZ.out x (hp.subset (by simp))
      have HP := Lib.hid hp
      have HSS := Lib.hid hs
      clear hp hs
      have hne : bp ≠ w1.heap.size := hbp.ne hc (by simp)
      obtain ⟨c, hcc⟩ : ∃ c, sta p pre = c := ⟨_, rfl⟩
      obtain ⟨v, hv⟩ : ∃ v, wrap64 (c + x.g.size) = v := ⟨_, rfl⟩
      obtain ⟨u, hu⟩ : ∃ u, wrap64 (v + x.t.size) = u := ⟨_, rfl⟩
      rw [hcc] at hc
      have HSN := Lib.hid (sta_snoc pre x p)
      have HBN := Lib.hid (stb_snoc pre x p)
      rw [hcc, hv, hu] at HSN
      rw [hcc, hv] at HBN
      clear hcc
      have hc1 : Has w1.heap.size (ibx v) X (W1.setCell ⟨w1.heap.size, 0, none⟩ (.int .i64 v)) := hc.set
      have hr1 : Has (w.heap.size + 1) (bbx false) X (W1.setCell ⟨w1.heap.size, 0, none⟩ (.int .i64 v)) := hr.other (by omega)
      have hb1 : Has bp (tbx x) X (W1.setCell ⟨w1.heap.size, 0, none⟩ (.int .i64 v)) := hbp.other hne
      have q0 := hc.cell (i := 0)
      have f0 := hc.frozen (i := 0)
      have p1 := hbp.cell (i := 1)
      have c0 := hc1.cell (i := 0)
      have p2 := hb1.cell (i := 2)
      have p3 := hb1.cell (i := 3)
      have r0 := hr1.cell (i := 0)
      have f1 := hr1.frozen (i := 0)
      simp only [List.getElem?_toArray, List.getElem?_cons_zero, List.getElem?_cons_succ, tok] at q0 p1 c0 p2 p3 r0
      by_cases ha : x.a = v
      · have hd : (x.a != v) = false := by simp [ha]
        have HA := Lib.hid ha
        clear ha
        gi_wp2
        refine ⟨by simp only [size_set]; exact Nat.le_refl _, Kept.trans (by simp only [size_set]; exact Nat.le_refl _) (Kept.set hc.1 _ _) (Kept.set hc.1 _ _), (hlow.set (by exact hbB.size) _).set (by exact hbB.size) _, hr1.other (by omega), ?_, (hn.other (by omega)).other (by omega), ?_⟩
        · rw [HSN.out]; exact hc1.set
        · rw [HBN.out, HSS.out, HA.out]; simp
      · have hd : (x.a != v) = true := by simp [ha]
        have HA := Lib.hid ha
        clear ha
        gi_wp2
        refine ⟨by simp only [size_set]; exact Nat.le_refl _, Kept.trans (by simp only [size_set]; exact Nat.le_refl _) (Kept.set hc.1 _ _) (Kept.set hr.1 _ _), rfl, ?_, (hlow.set (by exact hbB.size) _).set (by simp) _, hr1.set⟩
        obtain ⟨q, hq⟩ := HP.out
        rw [← hq, stb_append, HBN.out, HSS.out]
        simp [HA.out]
    case done =>
      rintro D W1 ⟨hlow, hr, hc, hn, hs⟩ hD
      have q0 := hr.cell (i := 0)
      have f0 := hr.frozen (i := 0)
      simp only [List.getElem?_toArray, List.getElem?_cons_zero] at q0
      have HR := Lib.hid hs
      clear hs
      have hD2 : (W1.setCell ⟨w.heap.size + 1, 0, none⟩ (.bool true)).heap[D]? = some (.deferred (some [])) := (Below.heap_setCell _ _ _ _ (fun e => hr.1 e.symm)).trans hD
      have ho : Off (· = D) (W1.setCell ⟨w.heap.size + 1, 0, none⟩ (.bool true)) ((W1.setCell ⟨w.heap.size + 1, 0, none⟩ (.bool true)).putObj D (.deferred none)) := Off.putObj (X := (· = D)) rfl _ _
      have g0 := ((Has.frames _ _).off (hr.set (v' := .bool true)) ho).cell (i := 0)
      have g1 := ((Low.frames _ _).off (hlow.set (p := ⟨w.heap.size + 1, 0, none⟩) (by simp) (.bool true)) ho).1
      simp only [List.getElem?_toArray, List.getElem?_cons_zero] at g0
      gi_wp2
      refine ⟨by simp, .inl ⟨_, _, rfl, run_takeDeferred hD2, ?_⟩⟩
      exact ⟨.bool true, by simp [results, Tryz.results9, go_sem, g0], ret_bool (by rw [HR.out]; rfl), g1⟩
    case stop =>
      rintro D c pre W1 hp ⟨rfl, hR, hlow, hr⟩ hD
      have ho : Off (· = D) W1 (W1.putObj D (.deferred none)) := Off.putObj (X := (· = D)) rfl _ _
      have g0 := ((Has.frames _ _).off hr ho).cell (i := 0)
      have g1 := ((Low.frames _ _).off hlow ho).1
      simp only [List.getElem?_toArray, List.getElem?_cons_zero] at g0
      have HR := Lib.hid hR
      clear hR
      gi_wp2
      refine ⟨by simp, .inl ⟨_, _, rfl, run_takeDeferred hD, ?_⟩⟩
      exact ⟨.bool false, by simp [results, Tryz.results9, go_sem, g0], ret_bool (by rw [HR.out]; rfl), g1⟩
end Go.Proofs.YtfmlcddakfbleaaGreatDoor
