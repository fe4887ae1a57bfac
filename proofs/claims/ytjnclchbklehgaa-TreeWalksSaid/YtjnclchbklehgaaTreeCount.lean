/- tree.Count. -/
import Derived.Test.YtjnclchbklehgaaTreeRight
namespace Go.Proofs.Ytjnclchbklehgaa
open Go.RowKit Go.Shelf TreeMath

attribute [local go_sem] Oper.semAt_some

def CtI (w : World) (T : Tr) (b : Nat) (pre : List (Nat × Tr)) : As := fun X W => Low w.heap.size w X W ∧ Has b (ibx (pre.length : Nat)) X W ∧ Has (b + 1) (nbx T) X W
theorem CtI.frames (w : World) (T : Tr) (b : Nat) (pre : List (Nat × Tr)) : Frames (CtI w T b pre) := (Low.frames _ _).and ((Has.frames _ _).and (Has.frames _ _))
abbrev ctFrm (y b : Nat) (T : Tr) (x : Nat × Tr) : Act :=
  { tmps := #[nv T, .pointer (some ⟨y, 0, none⟩), .int .i64 0, .pointer (some ⟨b, 0, none⟩), nv T, .bool true, .bool false, nv T, .func (.func 51) #[] #[.pointer (some ⟨b + 1, 0, none⟩)], .int .i64 (x.1 : Nat), nv x.2, undef, undef, undef], defers := [] }

set_option maxRecDepth 100000 in
set_option maxHeartbeats 2000000 in
theorem count_any (T : Tr) (w : World) (hT : Tn (lo w.heap.size) w T) (hw : wt T ≤ 5000) :
    Calls Try.prog 14 #[nv T] w fun e w' => e = .returned (.int .i64 (if rgt T then (cn T : Int) else 0)) ∧ Below w.heap.size w w' := by
  have HR := Lib.hid (right_any T (w.alloc (nbx T)) ((hT.below (below1 w _)).more (by simp)) hw)
  have HITS := Lib.hid (fun b => nodes_iter T w b hT hw)
  have hlen : (wk 0 T).length ≤ 5000 := by rw [wk_length]; exact Nat.le_trans (cn_wt T) hw
  have HCN : Hid ((wk 0 T).length = cn T) := Lib.hid (wk_length 0 T)
  clear hT hw
  refine (callsIn_wide (n := 8)).1 ?_
  cases hr : rgt T with
  | false =>
    rw [hr] at HR
    clear hr
    refine callsIn_of_wp_marks Try.func14 rfl trivial ?_ rfl
    simp only [Try.ntmps14, List.size_toArray, List.length_cons, List.length_nil, Nat.reduceAdd, Nat.reduceSub, Array.replicate_succ, Array.replicate_zero, List.push_toArray, List.append_toArray, List.nil_append, List.cons_append]
    gi_wp2_with (refine ⟨trivial, ?_⟩; gi_at_call 11; refine (callsIn_wide.2 HR.out).mono ?_; rintro e w1 ⟨rfl, hb1⟩)
    exact ⟨.int .i64 0, by simp [results, Try.results14, go_sem], by simp, (below1 w _).trans (hb1.mono (by simp))⟩
  | true =>
    rw [hr] at HR
    clear hr
    refine callsIn_of_wp_marks Try.func14 rfl trivial ?_ rfl
    simp only [Try.ntmps14, List.size_toArray, List.length_cons, List.length_nil, Nat.reduceAdd, Nat.reduceSub, Array.replicate_succ, Array.replicate_zero, List.push_toArray, List.append_toArray, List.nil_append, List.cons_append]
    gi_wp2_with (first | (refine ⟨trivial, ?_⟩; gi_at_call 11; refine (callsIn_wide.2 HR.out).mono ?_; rintro e w1 ⟨rfl, hb1⟩; have hc1 := cell_new5 hb1; have hz : w.heap.size < w1.heap.size := (by have := hb1.size; simp at this; omega)) | (refine ⟨trivial, ?_⟩; gi_at_call 34; refine (callsIn_wide.2 (nodes_any T _)).mono ?_; rintro e w' ⟨rfl, rfl⟩))
    have hbB : Below w.heap.size w w1 := (below1 w _).trans (hb1.mono (by simp))
    refine range_out (HITS.out (w1.heap.size + 1)) rfl eg_nodes (fun _ => rfl) (CtI w T w1.heap.size) (fun _ _ _ _ => False) (fun pre x a' X W => CtI w T w1.heap.size pre X W ∧ a' = ctFrm w.heap.size w1.heap.size T x) ?fI ?fX ?fA ?hC ?h0 ?assign ?body ?done ?stop
    case fI => exact fun pre => CtI.frames _ _ _ _
    case fX => exact fun c pre => Frames.pure _
    case fA => exact fun pre p a' => (CtI.frames _ _ _ _).and (Frames.pure _)
    case hC => exact fun pre X W1 h => ⟨h.1, h.2.2⟩
    case h0 =>
      refine ⟨Low.begin w (hbB.trans ((below2 w1 _ _).mono hbB.size)), ?_, ?_⟩
      · exact (Has.newAt (fun h => h) (by simp) _).alloc _
      · exact Has.newAt (fun h => h) (by simp) _
    case assign =>
      rintro lq X pre x W1 K hX hXb hi hp hK
      gi_wp2
      refine hK _ _ (Nat.le_refl _) (Kept.refl _ _) ⟨hi, ?_⟩
      simp
    case body =>
      rintro lq X pre ⟨d, x⟩ a' W1 hX hXb hr2 ⟨⟨hlow, hc, hn⟩, rfl⟩ hp
      have hl5 : (pre.length : Int) + 1 ≤ 5000 := by have := hp.length_le; simp at this; omega
      clear hp hlen
      obtain ⟨c, hcc⟩ : ∃ c : Int, (pre.length : Int) + 1 = c := ⟨_, rfl⟩
      have hz0 : 0 ≤ c := by omega
      have hz5 : c ≤ 5000 := by omega
      have q0 := hc.cell (i := 0)
      have f0 := hc.frozen (i := 0)
      simp only [List.getElem?_toArray, List.getElem?_cons_zero] at q0
      clear hl5
      gi_wp2
      refine ⟨by rw [size_set]; exact Nat.le_refl _, Kept.set hc.1 _ _, hlow.set (by exact hbB.size) _, ?_, hn.other (by omega)⟩
      have := hc.set (v' := .int .i64 c)
      rw [List.length_append, Int.natCast_add]
      simp only [List.length_cons, List.length_nil, Nat.zero_add, Int.natCast_one, hcc]
      exact this
    case done =>
      rintro D W1 ⟨hlow, hc, hn⟩ hD
      have q0 := hc.cell (i := 0)
      simp only [List.getElem?_toArray, List.getElem?_cons_zero] at q0
      have ho : Off (· = D) W1 (W1.putObj D (.deferred none)) := Off.putObj (X := (· = D)) rfl _ _
      have g1 := ((Low.frames _ _).off hlow ho).1
      gi_wp2
      refine ⟨by simp, .inl ⟨_, _, rfl, run_takeDeferred hD, ?_⟩⟩
      exact ⟨.int .i64 ((wk 0 T).length : Nat), by simp [results, Try.results14, go_sem], ret_int (by simp [HCN.out]), g1⟩
    case stop =>
      rintro D c pre W1 hp h hD
      exact h.elim
end Go.Proofs.Ytjnclchbklehgaa
