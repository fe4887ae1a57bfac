/- decl.Text. -/
import Derived.Test.YtfmlcddakfbleaaGreatDoorMzDeC
import Derived.Test.YtfmlcddakfbleaaGreatDoorTreeBuilder
namespace Go.Proofs.YtfmlcddakfbleaaGreatDoor
namespace Dc
open Go.RowKit SignMath TreeMath

set_option maxRecDepth 100000 in
set_option maxHeartbeats 8000000 in
theorem dtext_any (T : Tr) (tl : ByteArray) (w : World) (hT : Tn (lo w.heap.size) w T) (hw : wt T ≤ 9000) (htl : tl.size ≤ 4000) :
    Calls Tryz.prog 17 #[pvl T tl] w fun e w' => e = .returned (.string ((if rgt T = true then tx (TreeMath.lf T) else ⟨#[]⟩) ++ tl)) ∧ Below w.heap.size w w' := by
  have hb0 := below1 w (pbx T tl)
  have hbd : Below w.heap.size w (w.alloc (pbx T tl)).drew := hb0.trans (⟨rfl, rfl, rfl, Nat.le_refl _, fun _ _ => rfl⟩ : Below w.heap.size (w.alloc (pbx T tl)) (w.alloc (pbx T tl)).drew)
  have hT1 : Tn (lo (w.alloc (pbx T tl)).drew.heap.size) (w.alloc (pbx T tl)).drew T := (hT.after hbd)
  have HC := Lib.hid (text_any T _ hT1 hw)
  have hsz : (if rgt T = true then tx (TreeMath.lf T) else ⟨#[]⟩ : ByteArray).size ≤ 450000 := by
    split
    · have := tx_le T; omega
    · exact Nat.zero_le _
  generalize (if rgt T = true then tx (TreeMath.lf T) else ⟨#[]⟩ : ByteArray) = Y at HC hsz ⊢
  have hadd : ∀ W, Sem.run Tryz.prog (Op.stringOp .add Y tl) W = .ok (.string (Y ++ tl)) W := fun W => run_string_add_sum _ _ _ (by omega)
  have hz := heap_alloc_new w (pbx T tl)
  have HB := Lib.hid hbd
  clear hT hw htl hb0 hbd hT1 hsz
  go_enter Tryz.func17, Tryz.ntmps17
  go_wp2
  rename_i K0 hK0
  refine wp_region_noPanic (wp_region_held (S := fun W' : World => W'.heap[w.heap.size]? = some (pbx T tl) ∧ True) (by kernel_rfl) ?_)
  show wpAnyH _ _ _ _ _ _ _ _ (w.alloc (pbx T tl)).drew
  have hS0 : (w.alloc (pbx T tl)).drew.heap[w.heap.size]? = some (pbx T tl) ∧ True := ⟨hz, trivial⟩
  have hBd : Below w.heap.size w (w.alloc (pbx T tl)).drew := HB.out
  have hwl : w.heap.size < (w.alloc (pbx T tl)).drew.heap.size := (Array.getElem?_eq_some_iff.1 hS0.1).1
  generalize (w.alloc (pbx T tl)).drew = w1 at HC hS0 hBd hwl ⊢
  have HB := Lib.hid (And.intro hBd hwl)
  clear hz hBd hwl
  refine wpAnyH_take_d (i := 0) (v := .pointer (some ⟨w.heap.size, 0, none⟩)) 3 rfl rfl (by kernel_rfl) (by kernel_rfl) (by kernel_rfl) (fun _ _ _ h => h) (Or.inl ⟨by kernel_rfl, fun w' hS' => ?y0⟩) hS0 ?_
  case y0 => (skip; clear hS'; go_simp)
  simp only [Act.put, List.setIfInBounds_toArray, List.set_cons_zero, List.set_cons_succ]
  refine wpAnyH_take_d (i := 1) (v := nv T) 4 rfl rfl (by kernel_rfl) (by kernel_rfl) (by kernel_rfl) (fun _ _ _ h => h) (Or.inl ⟨by kernel_rfl, fun w' hS' => ?y1⟩) hS0 ?_
  case y1 => (obtain ⟨s0, s1, s2, s3, s4, s5⟩ := heap6p hS'.1; clear hS'; go_simp)
  simp only [Act.put, List.setIfInBounds_toArray, List.set_cons_zero, List.set_cons_succ]
  refine wpAnyH_take_d (i := 3) (v := .pointer (some ⟨w.heap.size, 5, none⟩)) 6 rfl rfl (by kernel_rfl) (by kernel_rfl) (by kernel_rfl) (fun _ _ _ h => h) (Or.inl ⟨by kernel_rfl, fun w' hS' => ?y3⟩) hS0 ?_
  case y3 => (skip; clear hS'; go_simp)
  simp only [Act.put, List.setIfInBounds_toArray, List.set_cons_zero, List.set_cons_succ]
  refine wpAnyH_take_d (i := 4) (v := .string tl) 7 rfl rfl (by kernel_rfl) (by kernel_rfl) (by kernel_rfl) (fun _ _ _ h => h) (Or.inl ⟨by kernel_rfl, fun w' hS' => ?y4⟩) hS0 ?_
  case y4 => (obtain ⟨s0, s1, s2, s3, s4, s5⟩ := heap6p hS'.1; clear hS'; go_simp)
  simp only [Act.put, List.setIfInBounds_toArray, List.set_cons_zero, List.set_cons_succ]
  refine wpAnyH_ready (rs := [2]) (by kernel_rfl) (by simp) ?_
  refine AllReadyH.cons rfl (fun K hK => ?_) AllReadyH.nil
  go_simp
  refine HC.out.mono ?_
  rintro e w2 ⟨rfl, hb⟩
  have hS2 : w2.heap[w.heap.size]? = some (pbx T tl) ∧ True := ⟨(hb.block _ HB.out.2).trans hS0.1, trivial⟩
  have HB2 := Lib.hid (HB.out.1.trans (hb.mono HB.out.1.size))
  clear hb HC
  refine hK.out _ _ hS2 (fun _ => ?_)
  clear hK K
  try simp only [Act.put, List.setIfInBounds_toArray, List.set_cons_zero, List.set_cons_succ]
  refine wpAnyH_take_d (i := 5) (v := .string (Y ++ tl)) 8 rfl rfl (by kernel_rfl) (by kernel_rfl) (by kernel_rfl) (fun _ _ _ h => h) (Or.inl ⟨by kernel_rfl, fun w' hS' => ?y5⟩) hS2 ?_
  case y5 => (skip; clear hS'; go_simp)
  simp only [Act.put, List.setIfInBounds_toArray, List.set_cons_zero, List.set_cons_succ]
  refine wpAnyH_take_d (i := 6) (v := .string (Y ++ tl)) 2 rfl rfl (by kernel_rfl) (by kernel_rfl) (by kernel_rfl) (fun _ _ _ h => h) (Or.inl ⟨by kernel_rfl, fun w' hS' => ?y6⟩) hS2 ?_
  case y6 => (skip; clear hS'; go_simp)
  simp only [Act.put, List.setIfInBounds_toArray, List.set_cons_zero, List.set_cons_succ]
  refine wpAnyH_done (by kernel_rfl) ?_ _
  refine hK0 _ _ ?_
  clear hS0 hS2 hK0
  go_wp2
  go_ret
  exact ⟨rfl, HB2.out⟩
end Dc
end Go.Proofs.YtfmlcddakfbleaaGreatDoor

namespace Go.Proofs.YtfmlcddakfbleaaGreatDoor
namespace Dc
open Go.RowKit SignMath TreeMath

def sDx : ByteArray := ⟨#[99, 108, 97, 115, 115, 32, 65, 32, 123, 32, 105, 110, 116, 32, 120, 59, 32, 112, 117, 98, 108, 105, 99, 32, 105, 110, 116, 32, 109, 40, 41, 32, 123, 32, 114, 101, 116, 117, 114, 110, 32, 120, 59, 32, 125, 32, 125]⟩
set_option maxRecDepth 100000 in
theorem dx_is : (fok sDx && decide ((ftr sDx).kids.map (·.k) = [4]) && decide ((ftr sDx).kids.map (·.kids.length) = [6])) = true := by decide +kernel
theorem ftr_eq (s : ByteArray) : ftr s = nod 2 (fil (cu0 s)).2 := rfl
theorem nod_kids (k : Int) (l : List Tr) : (nod k l).kids = l := rfl
theorem one_of {m : List Tr} {P : List Tr} {a : Int} {n : Nat} (h : m.map pl = P) (hk : P.map (·.k) = [a]) (hn : P.map (·.kids.length) = [n]) : ∃ x, m = [x] ∧ x.k = a ∧ x.kids.length = n := by
  subst h
  match m, hk, hn with
  | [x], hk, hn =>
    simp only [List.map_cons, List.map_nil, List.cons.injEq, and_true] at hk hn
    refine ⟨x, rfl, ?_, ?_⟩
    · rw [← hk, pl_eq]
    · rw [← hn, pl_eq]; simp
set_option maxRecDepth 100000 in
set_option maxHeartbeats 8000000 in
theorem declAlive_of (w : World) (P : List Tr) (tl : ByteArray) (hC : Calls Tryz.prog 18 #[.string ⟨#[99, 108, 97, 115, 115, 32, 65, 32, 123, 32, 105, 110, 116, 32, 120, 59, 32, 112, 117, 98, 108, 105, 99, 32, 105, 110, 116, 32, 109, 40, 41, 32, 123, 32, 114, 101, 116, 117, 114, 110, 32, 120, 59, 32, 125, 32, 125]⟩] w (FrdV true (nod 2 P) tl w)) (k1 : P.map (·.k) = [4]) (l1 : P.map (·.kids.length) = [6]) : Calls Tryz.prog 11 #[] w fun e w' => e = .returned (.bool true) ∧ Below w.heap.size w w' := by
  have HK := Lib.hid (And.intro k1 l1)
  have C1 := Lib.hid hC
  clear hC k1 l1
  go_enter Tryz.func11, Tryz.ntmps11
  go_wp2_with fail
  refine C1.out.mono ?_
  rintro e w1 ⟨hb1, T, rfl, hp, hT⟩
  have hp2 : T.k = 2 ∧ T.kids.map pl = P := by
    rw [pl_eq] at hp
    have e1 := congrArg Tr.k hp
    have e2 := congrArg Tr.kids hp
    exact ⟨e1, e2⟩
  obtain ⟨x, hx, hxk, hxl⟩ := one_of hp2.2 HK.out.1 HK.out.2
  obtain ⟨-, hTk, -⟩ := tn_iff.1 hT
  obtain ⟨g, off, hA, hg, hc⟩ := hTk (by rw [hx]; simp)
  obtain ⟨c0, -, -, -, c4⟩ := hc 0 x (by rw [hx]; rfl)
  rw [hxk, Nat.zero_mul, Nat.add_zero] at c0
  rw [hxl, Nat.zero_mul, Nat.add_zero] at c4
  have hz1 := heap_alloc_new w1 zb6
  have hs1 := set6p_self hz1 T tl
  have hB1 := below_set6p ((below1 w1 zb6)) (Nat.le_refl _) T tl
  have d0 := (cell_of (hB1.block g hg.2)).trans c0
  have d4 := (cell_of (hB1.block g hg.2)).trans c4
  have HB := Lib.hid (hb1.trans (hB1.mono hb1.size))
  have hl1 : T.kids.length = 1 := by rw [hx]; rfl
  have hk2 := hp2.1
  clear hp hp2 hx hxk hxl hTk hc c0 c4 hB1 hb1 hT C1
  go_wp2_with (with_reducible refine stay_store 47 (.tmp 1) (.tmp 6) (by rfl) ?_)
  refine Stay.mk ?_
  refine wpList_store_parsed (by rfl) 47 (.tmp 1) (.tmp 6) (by rfl) size_parsed (w1.heap.size) T tl (by rfl) (by rfl) hz1 ?_
  generalize set6p (w1.alloc zb6) w1.heap.size T tl = w2 at hs1 d0 d4 HB ⊢
  obtain ⟨t0, t1, t2, t3, t4, t5⟩ := heap6p hs1
  rw [hk2] at t0
  rw [hA, hl1] at t4
  clear hs1 hz1 hk2 hA hl1 hg
  generalize T.g = Tg at t1
  generalize T.t = Tt at t2
  generalize T.a = Ta at t3
  generalize T.c = Tc at t4
  generalize x.A = xA at d4
  generalize x.c = xc at d4
  go_wp2
  go_ret
  exact ⟨rfl, HB.out⟩
theorem declAlive_any (w : World) (hL : LaidX w) : Calls Tryz.prog 11 #[] w fun e w' => e = .returned (.bool true) ∧ Below w.heap.size w w' := by
  have i1 := dx_is
  simp only [Bool.and_eq_true, decide_eq_true_eq] at i1
  obtain ⟨⟨o1, k1⟩, l1⟩ := i1
  have h := fread_any sDx w hL
  rw [o1, ftr_eq] at h
  rw [ftr_eq, nod_kids] at k1 l1
  exact declAlive_of w _ _ h k1 l1
end Dc
end Go.Proofs.YtfmlcddakfbleaaGreatDoor
