/- Kept, and the iterator that it hands back, for every loop body. -/
import Derived.Test.YtgfafinpcpiogaaShiftCollect
import Derived.Test.YtgfafinpcpiogaaShiftKeptMath
namespace Go.Proofs.Ytgfafinpcpiogaa
open Go.RowKit Go.Shelf EditMath ShiftMath

attribute [local go_sem] Oper.semAt_some

theorem Low.has {n b : Nat} {w W : World} {X : Nat → Prop} {o : Obj} (h : Low n w X W) (hb : w.heap[b]? = some o) (hlt : b < n) : Has b o X W :=
  ⟨fun hx => by have := h.2.2 b hx; omega, (h.1.block b hlt).trans hb⟩

theorem em_length (fr sh : Int) (e : Ed) : (em fr sh e).length ≤ 2 := by
  unfold em
  rw [List.length_append]
  split <;> split <;> simp
theorem st_length (l : List Ed) : (stOf l).out.length ≤ 2 * l.length := by
  suffices h : ∀ (l : List Ed) (st : St), (l.foldl stp st).out.length ≤ st.out.length + 2 * l.length by have := h l ⟨[], 0, 0⟩; simpa [stOf] using this
  intro l
  induction l with
  | nil => intro st; simp
  | cons e l ih =>
    intro st
    rw [List.foldl_cons]
    have h1 := ih (stp st e)
    have h2 := em_length st.fr st.sh e
    have h3 : (stp st e).out.length = st.out.length + (em st.fr st.sh e).length := by simp [stp]
    simp only [List.length_cons]
    omega
theorem pcs_length (l : List Ed) (size : Int) : (pcs l size).length ≤ 2 * l.length + 1 := by
  have h1 := st_length l
  have h2 : (tailP (stOf l) size).length ≤ 1 := by unfold tailP; split <;> simp
  unfold pcs
  rw [List.length_append]
  omega

def KeV (L : List Pc) (w : World) (e : Ending) (w' : World) : Prop := ∃ A c, e = .returned (.func (.func 57) #[] #[.pointer (some ⟨w.heap.size, 0, none⟩)]) ∧
  w'.heap[w.heap.size]? = some (.cells #[.slice A L.length c] 103 (0, 0)) ∧ Rdc w' w'.heap.size A (pcells L) ∧ (∀ a, A = some a → w.heap.size < a.block) ∧ Below w.heap.size w w'

set_option maxRecDepth 100000 in
set_option maxHeartbeats 400000 in
theorem kept_bad (A : Option Addr) (c : Nat) (l : List Ed) (size : Int) (w : World) (hl : l.length ≤ 10000) (hr : Eds w w.heap.size A l) (hR : rt l size = false) :
    Calls Try.prog 23 #[.slice A l.length c, .int .i64 size] w (KeV [] w) := by
  have HR := Lib.hid hR
  clear hR
  have hmf : ∀ (fn : Fn) (first cap : Array Value) (w : World), (Instr.makeFunc fn first cap).run Try.prog w = .ok (.func fn first cap) w := fun _ _ _ _ => rfl
  go_enter Try.func23, Try.ntmps23
  go_wp2_with (go_at_call 49; refine (right_any A c l size _ hl (hr.after (below1 _ _))).mono ?_; rw [HR.out]; rintro e w1 ⟨rfl, hB1⟩)
  go_ret
  exact ⟨none, 0, rfl, (hB1.block _ (by simp)).trans (World.alloc_heap_new w _), fun h => absurd h (by simp [pcells]), (fun a h => by cases h), (below1 w _).trans (hB1.mono (by simp))⟩

set_option maxRecDepth 100000 in
set_option maxHeartbeats 400000 in
theorem kept_ok (A : Option Addr) (c : Nat) (l : List Ed) (size : Int) (w : World) (hl : l.length ≤ 5000) (hr : Eds w w.heap.size A l) (hR : rt l size = true) (hsz : size ≤ 1000000) (hs : Small l) :
    Calls Try.prog 23 #[.slice A l.length c, .int .i64 size] w (KeV ((pcs l size).filter went) w) := by
  have h0 := (rt_parts hR).1
  have HR := Lib.hid hR
  clear hR
  have HCo : Hid (∀ w1, Below (w.alloc (.cells #[.slice none 0 0] 103)).heap.size (w.alloc (.cells #[.slice none 0 0] 103)) w1 →
      Calls Try.prog 56 #[.func (.func 85) #[] #[.pointer (some ⟨w1.heap.size, 0, none⟩), .pointer (some ⟨w1.heap.size + 1, 0, none⟩)]] ((w1.alloc (.cells #[.slice A l.length c] 22)).alloc (.cells #[.int .i64 size] 3))
        (CoV ((pcs l size).filter went) ((w1.alloc (.cells #[.slice A l.length c] 22)).alloc (.cells #[.int .i64 size] 3)))) := Lib.hid fun w1 hB1 => by
    have hB : Below w.heap.size w w1 := (below1 w _).trans (hB1.mono (by simp))
    refine collect_any (going_iter w1.heap.size (w1.heap.size + 1) A c l size (by omega) hs h0 hsz) (enters_of Try.func85 (by kernel_rfl) rfl) _ (fun X W hlow => ⟨?_, ?_, w.heap.size, ?_, ?_⟩) ?_
    · exact hlow.has ((Below.heap_alloc _ _ _ (by simp)).trans (World.alloc_heap_new w1 _)) (by simp; omega)
    · exact hlow.has (by have := World.alloc_heap_new (w1.alloc (.cells #[.slice A l.length c] 22)) (.cells #[.int .i64 size] 3); rwa [World.size_alloc] at this) (by simp)
    · exact (hr.below (hB.trans ((below2 w1 _ _).mono hB.size))).below (hlow.1.mono (by have := hB.size; simp; omega))
    · have := hB.size; have := hlow.2.1; simp at this; omega
    · exact Nat.le_trans (List.length_filter_le _ _) (by have := pcs_length l size; omega)
  clear hs
  have hmf : ∀ (fn : Fn) (first cap : Array Value) (w : World), (Instr.makeFunc fn first cap).run Try.prog w = .ok (.func fn first cap) w := fun _ _ _ _ => rfl
  go_enter Try.func23, Try.ntmps23
  go_wp2_with (first | (go_at_call 49; refine (right_any A c l size _ (by omega) (hr.after (below1 _ _))).mono ?_; rw [HR.out]; rintro e w1 ⟨rfl, hB1⟩) | (go_at_call 50; refine (going_any _ _ _ _ _).mono ?_; rintro e w' ⟨rfl, rfl⟩) | (go_at_call 56; refine (HCo.out _ hB1).mono ?_; rintro e w3 ⟨A3, c3, rfl, hd3, hba3, hb3⟩; have hbx : Has w.heap.size (.cells #[.slice none 0 0] 103 (0, 0)) no w3 := ⟨fun h => h, (hb3.block _ (by have := hB1.size; simp at this ⊢; omega)).trans (((Below.heap_alloc _ _ _ (by have := hB1.size; simp at this ⊢; omega)).trans (Below.heap_alloc _ _ _ (by have := hB1.size; simp at this; omega))).trans ((hB1.block _ (by simp)).trans (World.alloc_heap_new w _)))⟩; have q1 := hbx.cell (i := 0); have f1 := hbx.frozen (i := 0); simp only [List.getElem?_toArray, List.getElem?_cons_zero] at q1; have HD3 := Lib.hid hd3; have HBA := Lib.hid hba3; clear hd3 hba3))
  have hB : Below w.heap.size w w1 := (below1 w _).trans (hB1.mono (by simp))
  have hB3 : Below w.heap.size w w3 := hB.trans (((below2 w1 _ _).mono hB.size).trans (hb3.mono (by have := hB.size; simp; omega)))
  go_ret
  have hset := hbx.set (v' := .slice A3 ((pcs l size).filter went).length c3)
  refine ⟨A3, c3, rfl, hset.2, ?_, (fun a ha => by have h1 := HBA.out a ha; have h2 := hB1.size; simp at h1 h2; omega), hB3.setCell (p := ⟨w.heap.size, 0, none⟩) (Nat.le_refl _) _⟩
  intro hn
  obtain ⟨b, off, e, hb, hc⟩ := HD3.out hn
  have hbb := HBA.out _ e
  refine ⟨b, off, e, by simp only [World.setCell, Array.size_modify]; exact hb, fun j u hu => (cell_set_other (by have := hB.size; simp at hbb; omega) _).trans (hc j u hu)⟩

def KeC (b : Nat) (A : Option Addr) (c : Nat) (L : List Pc) : As := fun X W => Has b (.cells #[.slice A L.length c] 103 (0, 0)) X W ∧ ∃ B, Rdc W B A (pcells L) ∧ B ≤ W.heap.size

theorem kp_at {p : Pc} {j : Nat} (h : p.f + (j : Int) < p.t) : (kp p)[j]? = some (p.f + (j : Int), p.f + (j : Int) + (p.a - p.f)) := by
  unfold kp; rw [List.getElem?_map, rangeI_get (by omega)]; rfl
theorem kp_length (p : Pc) : (kp p).length = (p.t - p.f).toNat := by rw [kp, List.length_map, rangeI_length]
theorem kp_take {p : Pc} {j : Nat} (h : p.f + (j : Int) < p.t) : (kp p).take (j + 1) = (kp p).take j ++ [(p.f + (j : Int), p.f + (j : Int) + (p.a - p.f))] := by rw [List.take_add_one, kp_at h]; rfl
theorem kept_pref {L : List Pc} {k j : Nat} {p : Pc} (hp : L[k]? = some p) (h : p.f + (j : Int) < p.t) : (keptL (L.take k) ++ (kp p).take j ++ [(p.f + (j : Int), p.f + (j : Int) + (p.a - p.f))]) <+: keptL L := by
  have e : L = L.take k ++ p :: L.drop (k + 1) := by
    have hlt := (List.getElem?_eq_some_iff.1 hp).1
    rw [List.getElem?_eq_getElem hlt] at hp
    injection hp with hp
    rw [← hp, ← List.drop_eq_getElem_cons hlt, List.take_append_drop]
  have e2 : keptL L = keptL (L.take k) ++ (kp p ++ keptL (L.drop (k + 1))) := by
    conv => lhs; rw [e]
    rw [keptL_append]; simp [keptL]
  rw [List.append_assoc, ← kp_take h, e2]
  exact List.prefix_append_right_inj _ |>.2 ((List.take_prefix _ _).trans (List.prefix_append _ _))

set_option maxRecDepth 100000 in
set_option maxHeartbeats 1000000 in
theorem kept_iter (Bn : Nat) (A : Option Addr) (c : Nat) (L : List Pc) (hl : L.length ≤ 20000) (hok : ∀ p ∈ L, PcOk p ∧ p.f < p.t) :
    Iter Try.prog 57 #[.pointer (some ⟨Bn, 0, none⟩)] (fun x : Int × Int => #[.int .i64 x.1, .int .i64 x.2]) (keptL L) (KeC Bn A c L) := by
  intro n m lp J Jx W hJ hJx hC hY h0
  have HOK := Lib.hid hok
  have HY := Lib.hid hY
  have HC := Lib.hid hC
  have HJ := Lib.hid hJ
  have HJx := Lib.hid hJx
  clear hok hY hC hJ hJx
  obtain ⟨hbox, B, hE, hBs⟩ := HC.out _ _ _ h0
  have hcell : W.cell? ⟨Bn, 0, none⟩ = some (.slice A L.length c) := Boxed.cell hbox.2
  clear hE hbox
  refine callsIn_wide.2 ((callsIn_wide (n := 8)).1 ?_)
  refine callsIn_of_wp Try.func57 rfl trivial ?_ rfl
  simp only [Try.ntmps57, List.size_toArray, List.length_cons, List.length_nil, Nat.reduceAdd, Nat.reduceSub, Array.replicate_succ, Array.replicate_zero, List.push_toArray, List.append_toArray, List.nil_append, List.cons_append]
  gi_wp2
  clear hcell
  gi_loopw [8] (fun i wr => ∃ k : Nat, i = .int .i64 k ∧ k ≤ L.length ∧ J (keptL (L.take k)) no wr) (fun i wr => L.length - (intOf i).toNat)
  case atStart => exact ⟨0, rfl, Nat.zero_le _, h0⟩
  case round =>
    obtain ⟨k, rfl, hk, hJs⟩ := hrel
    by_cases hlt : k < L.length
    · obtain ⟨p, hp⟩ : ∃ p, L[k]? = some p := ⟨L[k], List.getElem?_eq_getElem hlt⟩
      obtain ⟨⟨o1, o2, o3, o4, o5, o6, o7⟩, o8⟩ := HOK.out p (List.mem_of_getElem? hp)
      obtain ⟨_, B', hE', hB'⟩ := HC.out _ _ _ hJs
      obtain ⟨b, off, rfl, hb, hc⟩ := hE' (by rw [pcells_length]; omega)
      obtain ⟨s1, s2, s3, s4⟩ := pcells_at L k p hp
      have c1 := hc _ _ s1
      have c2 := hc _ _ s2
      have c3 := hc _ _ s3
      have c4 := hc _ _ s4
      rw [← Nat.add_assoc] at c2 c3 c4
      have HPK := Lib.hid hp
      have hbw : b < wr.heap.size := by omega
      clear hp hc s1 s2 s3 s4
      have HJ2 : J (keptL (L.take k)) (· = wr.heap.size) (wr.alloc (.cells #[.int .i64 p.a, .int .i64 p.f, .int .i64 p.t, .string p.s] 92)) := (HJ.out _).more hJs (Off.alloc _ _ _) (fun j hj => .inr (by omega))
      have hbp : Has wr.heap.size (pcc p) no (wr.alloc (.cells #[.int .i64 p.a, .int .i64 p.f, .int .i64 p.t, .string p.s] 92)) := Has.newAt (fun h => h) rfl _
      gi_wp2
      clear hJs c1 c2 c3 c4 hE' hB' hbw
      generalize wr.alloc (.cells #[.int .i64 p.a, .int .i64 p.f, .int .i64 p.t, .string p.s] 92) = w1 at *
      generalize wr.heap.size = bp at *
      gi_loopw [5] (fun a wr => ∃ j : Nat, a = .int .i64 (p.f + j) ∧ p.f + (j : Int) ≤ p.t ∧ J (keptL (L.take k) ++ (kp p).take j) (· = bp) wr ∧ Has bp (pcc p) no wr) (fun a wr => (p.t - intOf a).toNat)
      case atStart => exact ⟨0, by simp, by omega, by simpa using HJ2, hbp⟩
      case round =>
        obtain ⟨j, rfl, hj, hJj, hbj⟩ := hrel
        have q0 := hbj.cell (i := 0)
        have q1 := hbj.cell (i := 1)
        have q2 := hbj.cell (i := 2)
        have q3 := hbj.cell (i := 3)
        simp only [List.getElem?_toArray, List.getElem?_cons_zero, List.getElem?_cons_succ] at q0 q1 q2 q3
        by_cases hjt : p.f + (j : Int) < p.t
        · have HPR := Lib.hid (kept_pref HPK.out hjt)
          gi_wp2_with (refine ⟨trivial, ?_⟩; gi_at_call 51; refine (callsIn_wide.2 (shift_any p _ (by omega) (by omega) (by omega) (by omega))).mono ?_; rintro r W2 ⟨rfl, hB2⟩; have hbj2 := (Has.frames _ _).off hbj (Off.of_below hB2); have hJ2 := (HJ.out _).off hJj (Off.of_below hB2); obtain ⟨fn, tmps, assign, body, hy, hR⟩ := HY.out _ (p.f + (j : Int), p.f + (j : Int) + (p.a - p.f)) _ _ (fun i hi => by rw [hi]; exact hbj2.ok) hJ2 HPR.out; dsimp only at hy)
          refine round_out (hR.mono ?_)
          rintro r W3 ⟨hs3, hk3, (⟨rfl, hJ3⟩ | ⟨rfl, hJx3⟩)⟩
          · have hbj3 := hbj2.kept hk3 rfl
            gi_wp2
            go_roundw
            case rel =>
              refine ⟨j + 1, by go_num, by omega, ?_, hbj3⟩
              rw [kp_take hjt, ← List.append_assoc]
              exact hJ3
            case measure => simp [intOf]; omega
          · gi_wp2
            refine bodyPost_ret (results_none rfl _ _ _) rfl ?_
            exact ⟨⟨_, rfl⟩, .inr ⟨_, HPR.out, (HJx.out _).less hJx3 (fun _ h => h.elim)⟩⟩
        · have HKK : Hid (keptL (L.take k) ++ (kp p).take j = keptL (L.take (k + 1))) := Lib.hid (by
            rw [List.take_add_one, HPK.out, keptL_append, List.take_of_length_le (show (kp p).length ≤ j by rw [kp_length]; omega)]
            simp [keptL])
          rw [HKK.out] at hJj
          gi_wp2
          go_roundw
          case rel => exact ⟨k + 1, by go_num, by omega, (HJ.out _).less hJj (fun _ h => h.elim)⟩
          case measure => simp [intOf]; omega
    · gi_wp2
      go_end0
      refine ⟨⟨_, rfl⟩, .inl ?_⟩
      rw [List.take_of_length_le (by omega)] at hJs
      exact hJs
end Go.Proofs.Ytgfafinpcpiogaa
