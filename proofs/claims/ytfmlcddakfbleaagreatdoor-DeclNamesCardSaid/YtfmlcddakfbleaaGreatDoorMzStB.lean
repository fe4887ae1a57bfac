/- stmt's types and variables. -/
import Derived.Test.YtfmlcddakfbleaaGreatDoorMzStA
namespace Go.Proofs.YtfmlcddakfbleaaGreatDoor
open Go.RowKit SignMath TreeMath


set_option maxRecDepth 100000 in
theorem results_cell {fn : Func} {a : Act} {z : Nat} {T : Tr} {W : World} (hr : fn.results = #[.cell 2 30]) (e : a.eval (.tmp 2) = .pointer (some ⟨z, 0, none⟩)) (hs : W.heap[z]? = some (.cells (ncc T) 30 (0, 0))) : (results fn a.tmps).run Tryz.prog W = .ok (nv T) W := by
  have g0 := cell_heap hs (i := 0)
  have g1 := cell_heap hs (i := 1)
  have g2 := cell_heap hs (i := 2)
  have g3 := cell_heap hs (i := 3)
  have g4 := cell_heap hs (i := 4)
  simp only [List.getElem?_toArray, List.getElem?_cons_zero, List.getElem?_cons_succ] at g0 g1 g2 g3 g4
  have e' : a.tmps[(2 : Nat)]?.getD undef = .pointer (some ⟨z, 0, none⟩) := by
    rw [← e]
    exact (Array.getD_eq_getD_getElem? ..).symm
  simp [results, hr, go_sem, e', g0, g1, g2, g3, g4]
theorem ent_typed : Ent 98 := ent_of Tryz.func98 (by kernel_rfl) (by kernel_rfl)
theorem ent_sname : Ent 99 := ent_of Tryz.func99 (by kernel_rfl) (by kernel_rfl)
section
variable {b : Nat} {A : Option Addr} {c : Nat}
theorem con_name (x : Nat) : Con b A c 0 (.list 99 nam 1 x) := ⟨ent_sname, sname_any, (Got.nam 0).zero, .inr fun _ _ => Nat.le_refl _⟩
set_option maxRecDepth 100000 in
set_option maxHeartbeats 4000000 in
theorem variable_any (hT : PartF 98 b A c typ 0) : PartF 72 b A c vrb 0 := by
  intro w C h hk hd _
  have ek2 := EK.starts h hk
  have E2 := Lib.hid ek2
  clear ek2 h hk
  go_enter Tryz.func72, Tryz.ntmps72
  go_wp2
  rename_i K0 hK0
  refine region_any (D := [.load, .tree 98 typ 0, .one 1, .load, .list 99 nam 1 3, .load, .row [sSemi], .toks [sSemi] 5 6, .bund [2, 4, 7], .node 8 8, .store 9]) (base := 3) (nt := 13) (Dp := 0) (z1 := w.heap.size) (z2 := w.heap.size + 1) (by omega) (by decide) hd (Nat.zero_le _)
    ⟨⟨rfl, ⟨rfl, rfl⟩, by kernel_rfl, by kernel_rfl, by kernel_rfl, trivial, trivial⟩, ⟨rfl, ⟨⟨_, rfl⟩, rfl⟩, by kernel_rfl, by kernel_rfl, by kernel_rfl, rfl, ⟨ent_typed, hT, Got.typ 0⟩⟩, ⟨rfl, ⟨⟨_, rfl⟩, rfl⟩, by kernel_rfl, by kernel_rfl, by kernel_rfl, ⟨_, _, _, rfl⟩, trivial⟩, ⟨rfl, ⟨rfl, rfl⟩, by kernel_rfl, by kernel_rfl, by kernel_rfl, trivial, trivial⟩, ⟨rfl, ⟨⟨_, rfl⟩, rfl⟩, by kernel_rfl, by kernel_rfl, by kernel_rfl, rfl, (con_name 3)⟩, ⟨rfl, ⟨rfl, rfl⟩, by kernel_rfl, by kernel_rfl, by kernel_rfl, trivial, trivial⟩, ⟨rfl, ⟨⟨_, rfl, rfl⟩, by decide, rfl⟩, by kernel_rfl, by kernel_rfl, by kernel_rfl, (by show _ ≤ 9; decide), trivial⟩, ⟨rfl, ⟨⟨_, rfl⟩, rfl⟩, by kernel_rfl, by kernel_rfl, by kernel_rfl, ⟨rfl, rfl, by decide⟩, trivial⟩, ⟨rfl, ⟨⟨_, rfl, rfl⟩, by decide, rfl⟩, by kernel_rfl, by kernel_rfl, by kernel_rfl, ⟨by decide, by kernel_rfl, Nat.le_of_ble_eq_true (by kernel_rfl)⟩, trivial⟩, ⟨rfl, ⟨⟨_, rfl⟩, rfl⟩, by kernel_rfl, by kernel_rfl, by kernel_rfl, ⟨_, rfl⟩, trivial⟩, ⟨rfl, ⟨rfl, rfl⟩, by kernel_rfl, by kernel_rfl, by kernel_rfl, ⟨_, _, rfl⟩, trivial⟩, trivial⟩ (by decide) rfl rfl rfl E2.out (by simp) (by simp) (by simp) ?_
  intro a' W' T zs' x g1 g2 g3 g4 g5 ek hp
  have g5 : some (Kd.store 9) = some (Kd.store x) := g5
  injection g5 with g5
  injection g5 with g5
  subst g5
  have hp : [pl T] = [(vrb C).2] := hp
  injection hp with hp
  have hs := ek.box (z := w.heap.size + 1) (o := .cells (ncc T) 30 (0, 0)) (by simp)
  have HV := Lib.hid (ek.fin (r := vrb C) (T := T) (by simp) rfl hp)
  show K0 a' W'
  refine hK0 _ _ ?_
  go_wp2
  refine bodyPost_ret (v := nv T) (results_cell rfl g4 hs) g1 HV.out
end
end Go.Proofs.YtfmlcddakfbleaaGreatDoor

namespace Go.Proofs.YtfmlcddakfbleaaGreatDoor
open Go.RowKit SignMath TreeMath

theorem EK.isq {b : Nat} {A : Option Addr} {c : Nat} {S X : Nat → Prop} {w W : World} {C : Cu} {bs : List (Nat × Obj)} {zs : List Nat} {ts : List Tr} (h : EK b A c S X w C bs zs ts W) (i : Int) (s : ByteArray) (hi : rng i) :
    Calls Tryz.prog 83 #[.pointer (some ⟨b, 0, none⟩), .int .i64 i, .string s] W fun e W' => e = .returned (.bool (C.isb i s)) ∧ EK b A c S X w C bs zs ts W' :=
  (is_any i s hi h.cu h.ok).mono fun _ _ hv => ⟨hv.1, h.below hv.2⟩

section
variable {b : Nat} {A : Option Addr} {c : Nat}
set_option maxRecDepth 100000 in
set_option maxHeartbeats 8000000 in
theorem typed_any : PartF 98 b A c typ 0 := by
  intro w C h hk hd _
  have E2 := Lib.hid (EK.starts h hk)
  clear h hk
  by_cases h1 : C.isb 0 sInt = true
  · by_cases h2 : C.isb 1 sSq = true
    · have HT : Hid (typ C = ndq 9 [tkq [sInt, sSq, sSq2]] C) := Lib.hid (by unfold typ; simp [h1, h2])
      go_enter Tryz.func98, Tryz.ntmps98
      have p0 := cell_heap (E2.out.box (z := w.heap.size) (o := sdb b) (by simp)) (i := 0)
      simp only [List.getElem?_toArray, List.getElem?_cons_zero] at p0
      have HC := Lib.hid (E2.out.isq 0 sInt ⟨by omega, by omega⟩)
      rw [h1] at HC
      go_wp2_with fail
      refine HC.out.mono ?_
      rintro e w3 ⟨rfl, ek_⟩
      have E3 := Lib.hid ek_
      clear ek_ HC E2 p0
      have p0 := cell_heap (E3.out.box (z := w.heap.size) (o := sdb b) (by simp)) (i := 0)
      simp only [List.getElem?_toArray, List.getElem?_cons_zero] at p0
      have HC := Lib.hid (E3.out.isq 1 sSq ⟨by omega, by omega⟩)
      rw [h2] at HC
      go_wp2_with fail
      refine HC.out.mono ?_
      rintro e w4 ⟨rfl, ek_⟩
      have E4 := Lib.hid ek_
      clear ek_ HC E3 p0
      clear h1 h2
      have p0 := cell_heap (E4.out.box (z := w.heap.size) (o := sdb b) (by simp)) (i := 0)
      simp only [List.getElem?_toArray, List.getElem?_cons_zero] at p0
      have hgb : w4.heap.size ≠ b := by have := E4.out.cu.lt; omega
      have ekr := E4.out.alloc (rowO [sInt, sSq, sSq2])
      have HK := Lib.hid (tokens_any [sInt, sSq, sSq2] 3 rfl (by omega) w4.heap.size 0 (rowO [sInt, sSq, sSq2]) (w4.alloc (rowO [sInt, sSq, sSq2])) C hgb (heap_alloc_new w4 (rowO [sInt, sSq, sSq2])) (fun W' h' => ss_row W' _ [sInt, sSq, sSq2] 9 _ rfl h') ekr.cu ekr.ok)
      have ER := Lib.hid ekr
      have HGG := Lib.hid (Got.tkq [sInt, sSq, sSq2] 0 C ekr.ok hd (Nat.zero_le _))
      clear ekr E4 hgb
      go_wp2_with fail
      refine HK.out.mono ?_
      rintro e w5 ⟨Al, cl, m, rfl, hp, hnil, hTk, hT, h9, hm, ho⟩
      have HM := Lib.hid (And.intro hnil h9)
      have HP := Lib.hid hp
      have E5 := Lib.hid (ER.out.gotl (cl := cl) hTk hT hm ⟨HGG.out.ok, HGG.out.L⟩ ho)
      clear hp hnil hTk hT h9 hm ho HK ER HGG p0
      have HN := Lib.hid (E5.out.noded 9 [⟨Al, cl, m⟩] 1 rfl (by omega) (by simp) (by simpa using HM.out.1) (by show (([⟨Al, cl, m⟩] : List Pp).flatMap Pp.m).length ≤ 20000; have := HM.out.2; simp; omega) (ppO [⟨Al, cl, m⟩]) 23 rfl)
      go_wp2_with fail
      refine HN.out.mono ?_
      rintro e w6 ⟨A', c', rfl, ek6⟩
      have hz := ek6.box (z := w.heap.size + 1) (o := zb5) (by simp)
      have hfin := ek6.result (r := typ C) (T := ⟨9, ⟨#[]⟩, ⟨#[]⟩, 0, A', c', [(⟨Al, cl, m⟩ : Pp)].flatMap Pp.m⟩) (z := w.heap.size + 1) (by simp) (by simp) hz (by rw [HT.out]; rfl) (by rw [pl_nod, HT.out]; show nod 9 (([(⟨Al, cl, m⟩ : Pp)].flatMap Pp.m).map pl) = _; rw [List.flatMap_cons, List.flatMap_nil, List.append_nil, HP.out]; show _ = nod 9 (_ ++ []); rw [List.append_nil])
      generalize [(⟨Al, cl, m⟩ : Pp)].flatMap Pp.m = M at hfin ⊢
      clear ek6 HN E5 HM
      go_wp2_with (with_reducible refine stay_store 30 (.tmp 2) (.tmp 16) (by rfl) ?_)
      refine Stay.mk ?_
      refine wpList_store_node (by rfl) 30 (.tmp 2) (.tmp 16) (by rfl) size_tnode (w.heap.size + 1) ⟨9, ⟨#[]⟩, ⟨#[]⟩, 0, A', c', M⟩ (by rfl) (by rfl) hz ?_
      generalize set5 w6 (w.heap.size + 1) ⟨9, ⟨#[]⟩, ⟨#[]⟩, 0, A', c', M⟩ = w9 at hfin ⊢
      clear hz
      obtain ⟨hs, hv⟩ := hfin
      have HV := Lib.hid hv
      clear hv
      go_wp2
      have g0 := cell_heap hs (i := 0)
      have g1 := cell_heap hs (i := 1)
      have g2 := cell_heap hs (i := 2)
      have g3 := cell_heap hs (i := 3)
      have g4 := cell_heap hs (i := 4)
      simp only [List.getElem?_toArray, List.getElem?_cons_zero, List.getElem?_cons_succ] at g0 g1 g2 g3 g4
      refine bodyPost_ret (v := nv ⟨9, ⟨#[]⟩, ⟨#[]⟩, 0, A', c', M⟩) (by simp [results, Tryz.results98, go_sem, g0, g1, g2, g3, g4]) rfl HV.out
    · have h2 : C.isb 1 sSq = false := by simpa using h2
      have HT : Hid (typ C = ndq 9 [tkq [sInt]] C) := Lib.hid (by unfold typ; simp [h1, h2])
      go_enter Tryz.func98, Tryz.ntmps98
      have p0 := cell_heap (E2.out.box (z := w.heap.size) (o := sdb b) (by simp)) (i := 0)
      simp only [List.getElem?_toArray, List.getElem?_cons_zero] at p0
      have HC := Lib.hid (E2.out.isq 0 sInt ⟨by omega, by omega⟩)
      rw [h1] at HC
      go_wp2_with fail
      refine HC.out.mono ?_
      rintro e w3 ⟨rfl, ek_⟩
      have E3 := Lib.hid ek_
      clear ek_ HC E2 p0
      have p0 := cell_heap (E3.out.box (z := w.heap.size) (o := sdb b) (by simp)) (i := 0)
      simp only [List.getElem?_toArray, List.getElem?_cons_zero] at p0
      have HC := Lib.hid (E3.out.isq 1 sSq ⟨by omega, by omega⟩)
      rw [h2] at HC
      go_wp2_with fail
      refine HC.out.mono ?_
      rintro e w4 ⟨rfl, ek_⟩
      have E4 := Lib.hid ek_
      clear ek_ HC E3 p0
      have p0 := cell_heap (E4.out.box (z := w.heap.size) (o := sdb b) (by simp)) (i := 0)
      simp only [List.getElem?_toArray, List.getElem?_cons_zero] at p0
      have HC := Lib.hid (E4.out.isq 0 sInt ⟨by omega, by omega⟩)
      rw [h1] at HC
      go_wp2_with fail
      refine HC.out.mono ?_
      rintro e w44 ⟨rfl, ek_⟩
      have E44 := Lib.hid ek_
      clear ek_ HC E4 p0
      clear h1 h2
      have p0 := cell_heap (E44.out.box (z := w.heap.size) (o := sdb b) (by simp)) (i := 0)
      simp only [List.getElem?_toArray, List.getElem?_cons_zero] at p0
      have hgb : w44.heap.size ≠ b := by have := E44.out.cu.lt; omega
      have ekr := E44.out.alloc (rowO [sInt])
      have HK := Lib.hid (tokens_any [sInt] 1 rfl (by omega) w44.heap.size 0 (rowO [sInt]) (w44.alloc (rowO [sInt])) C hgb (heap_alloc_new w44 (rowO [sInt])) (fun W' h' => ss_row W' _ [sInt] 9 _ rfl h') ekr.cu ekr.ok)
      have ER := Lib.hid ekr
      have HGG := Lib.hid (Got.tkq [sInt] 0 C ekr.ok hd (Nat.zero_le _))
      clear ekr E44 hgb
      go_wp2_with fail
      refine HK.out.mono ?_
      rintro e w5 ⟨Al, cl, m, rfl, hp, hnil, hTk, hT, h9, hm, ho⟩
      have HM := Lib.hid (And.intro hnil h9)
      have HP := Lib.hid hp
      have E5 := Lib.hid (ER.out.gotl (cl := cl) hTk hT hm ⟨HGG.out.ok, HGG.out.L⟩ ho)
      clear hp hnil hTk hT h9 hm ho HK ER HGG p0
      have HN := Lib.hid (E5.out.noded 9 [⟨Al, cl, m⟩] 1 rfl (by omega) (by simp) (by simpa using HM.out.1) (by show (([⟨Al, cl, m⟩] : List Pp).flatMap Pp.m).length ≤ 20000; have := HM.out.2; simp; omega) (ppO [⟨Al, cl, m⟩]) 23 rfl)
      go_wp2_with fail
      refine HN.out.mono ?_
      rintro e w6 ⟨A', c', rfl, ek6⟩
      have hz := ek6.box (z := w.heap.size + 1) (o := zb5) (by simp)
      have hfin := ek6.result (r := typ C) (T := ⟨9, ⟨#[]⟩, ⟨#[]⟩, 0, A', c', [(⟨Al, cl, m⟩ : Pp)].flatMap Pp.m⟩) (z := w.heap.size + 1) (by simp) (by simp) hz (by rw [HT.out]; rfl) (by rw [pl_nod, HT.out]; show nod 9 (([(⟨Al, cl, m⟩ : Pp)].flatMap Pp.m).map pl) = _; rw [List.flatMap_cons, List.flatMap_nil, List.append_nil, HP.out]; show _ = nod 9 (_ ++ []); rw [List.append_nil])
      generalize [(⟨Al, cl, m⟩ : Pp)].flatMap Pp.m = M at hfin ⊢
      clear ek6 HN E5 HM
      go_wp2_with (with_reducible refine stay_store 30 (.tmp 2) (.tmp 25) (by rfl) ?_)
      refine Stay.mk ?_
      refine wpList_store_node (by rfl) 30 (.tmp 2) (.tmp 25) (by rfl) size_tnode (w.heap.size + 1) ⟨9, ⟨#[]⟩, ⟨#[]⟩, 0, A', c', M⟩ (by rfl) (by rfl) hz ?_
      generalize set5 w6 (w.heap.size + 1) ⟨9, ⟨#[]⟩, ⟨#[]⟩, 0, A', c', M⟩ = w9 at hfin ⊢
      clear hz
      obtain ⟨hs, hv⟩ := hfin
      have HV := Lib.hid hv
      clear hv
      go_wp2
      have g0 := cell_heap hs (i := 0)
      have g1 := cell_heap hs (i := 1)
      have g2 := cell_heap hs (i := 2)
      have g3 := cell_heap hs (i := 3)
      have g4 := cell_heap hs (i := 4)
      simp only [List.getElem?_toArray, List.getElem?_cons_zero, List.getElem?_cons_succ] at g0 g1 g2 g3 g4
      refine bodyPost_ret (v := nv ⟨9, ⟨#[]⟩, ⟨#[]⟩, 0, A', c', M⟩) (by simp [results, Tryz.results98, go_sem, g0, g1, g2, g3, g4]) rfl HV.out
  · have h1 : C.isb 0 sInt = false := by simpa using h1
    by_cases h3 : C.isb 0 sBool = true
    · have HT : Hid (typ C = ndq 9 [tkq [sBool]] C) := Lib.hid (by unfold typ; simp [h1, h3])
      go_enter Tryz.func98, Tryz.ntmps98
      have p0 := cell_heap (E2.out.box (z := w.heap.size) (o := sdb b) (by simp)) (i := 0)
      simp only [List.getElem?_toArray, List.getElem?_cons_zero] at p0
      have HC := Lib.hid (E2.out.isq 0 sInt ⟨by omega, by omega⟩)
      rw [h1] at HC
      go_wp2_with fail
      refine HC.out.mono ?_
      rintro e w3 ⟨rfl, ek_⟩
      have E3 := Lib.hid ek_
      clear ek_ HC E2 p0
      have p0 := cell_heap (E3.out.box (z := w.heap.size) (o := sdb b) (by simp)) (i := 0)
      simp only [List.getElem?_toArray, List.getElem?_cons_zero] at p0
      have HC := Lib.hid (E3.out.isq 0 sInt ⟨by omega, by omega⟩)
      rw [h1] at HC
      go_wp2_with fail
      refine HC.out.mono ?_
      rintro e w4 ⟨rfl, ek_⟩
      have E4 := Lib.hid ek_
      clear ek_ HC E3 p0
      have p0 := cell_heap (E4.out.box (z := w.heap.size) (o := sdb b) (by simp)) (i := 0)
      simp only [List.getElem?_toArray, List.getElem?_cons_zero] at p0
      have HC := Lib.hid (E4.out.isq 0 sBool ⟨by omega, by omega⟩)
      rw [h3] at HC
      go_wp2_with fail
      refine HC.out.mono ?_
      rintro e w44 ⟨rfl, ek_⟩
      have E44 := Lib.hid ek_
      clear ek_ HC E4 p0
      clear h1 h3
      have p0 := cell_heap (E44.out.box (z := w.heap.size) (o := sdb b) (by simp)) (i := 0)
      simp only [List.getElem?_toArray, List.getElem?_cons_zero] at p0
      have hgb : w44.heap.size ≠ b := by have := E44.out.cu.lt; omega
      have ekr := E44.out.alloc (rowO [sBool])
      have HK := Lib.hid (tokens_any [sBool] 1 rfl (by omega) w44.heap.size 0 (rowO [sBool]) (w44.alloc (rowO [sBool])) C hgb (heap_alloc_new w44 (rowO [sBool])) (fun W' h' => ss_row W' _ [sBool] 9 _ rfl h') ekr.cu ekr.ok)
      have ER := Lib.hid ekr
      have HGG := Lib.hid (Got.tkq [sBool] 0 C ekr.ok hd (Nat.zero_le _))
      clear ekr E44 hgb
      go_wp2_with fail
      refine HK.out.mono ?_
      rintro e w5 ⟨Al, cl, m, rfl, hp, hnil, hTk, hT, h9, hm, ho⟩
      have HM := Lib.hid (And.intro hnil h9)
      have HP := Lib.hid hp
      have E5 := Lib.hid (ER.out.gotl (cl := cl) hTk hT hm ⟨HGG.out.ok, HGG.out.L⟩ ho)
      clear hp hnil hTk hT h9 hm ho HK ER HGG p0
      have HN := Lib.hid (E5.out.noded 9 [⟨Al, cl, m⟩] 1 rfl (by omega) (by simp) (by simpa using HM.out.1) (by show (([⟨Al, cl, m⟩] : List Pp).flatMap Pp.m).length ≤ 20000; have := HM.out.2; simp; omega) (ppO [⟨Al, cl, m⟩]) 23 rfl)
      go_wp2_with fail
      refine HN.out.mono ?_
      rintro e w6 ⟨A', c', rfl, ek6⟩
      have hz := ek6.box (z := w.heap.size + 1) (o := zb5) (by simp)
      have hfin := ek6.result (r := typ C) (T := ⟨9, ⟨#[]⟩, ⟨#[]⟩, 0, A', c', [(⟨Al, cl, m⟩ : Pp)].flatMap Pp.m⟩) (z := w.heap.size + 1) (by simp) (by simp) hz (by rw [HT.out]; rfl) (by rw [pl_nod, HT.out]; show nod 9 (([(⟨Al, cl, m⟩ : Pp)].flatMap Pp.m).map pl) = _; rw [List.flatMap_cons, List.flatMap_nil, List.append_nil, HP.out]; show _ = nod 9 (_ ++ []); rw [List.append_nil])
      generalize [(⟨Al, cl, m⟩ : Pp)].flatMap Pp.m = M at hfin ⊢
      clear ek6 HN E5 HM
      go_wp2_with (with_reducible refine stay_store 30 (.tmp 2) (.tmp 34) (by rfl) ?_)
      refine Stay.mk ?_
      refine wpList_store_node (by rfl) 30 (.tmp 2) (.tmp 34) (by rfl) size_tnode (w.heap.size + 1) ⟨9, ⟨#[]⟩, ⟨#[]⟩, 0, A', c', M⟩ (by rfl) (by rfl) hz ?_
      generalize set5 w6 (w.heap.size + 1) ⟨9, ⟨#[]⟩, ⟨#[]⟩, 0, A', c', M⟩ = w9 at hfin ⊢
      clear hz
      obtain ⟨hs, hv⟩ := hfin
      have HV := Lib.hid hv
      clear hv
      go_wp2
      have g0 := cell_heap hs (i := 0)
      have g1 := cell_heap hs (i := 1)
      have g2 := cell_heap hs (i := 2)
      have g3 := cell_heap hs (i := 3)
      have g4 := cell_heap hs (i := 4)
      simp only [List.getElem?_toArray, List.getElem?_cons_zero, List.getElem?_cons_succ] at g0 g1 g2 g3 g4
      refine bodyPost_ret (v := nv ⟨9, ⟨#[]⟩, ⟨#[]⟩, 0, A', c', M⟩) (by simp [results, Tryz.results98, go_sem, g0, g1, g2, g3, g4]) rfl HV.out
    · have h3 : C.isb 0 sBool = false := by simpa using h3
      have HT : Hid (typ C = ndq 9 [nam] C) := Lib.hid (by unfold typ; simp [h1, h3])
      go_enter Tryz.func98, Tryz.ntmps98
      have p0 := cell_heap (E2.out.box (z := w.heap.size) (o := sdb b) (by simp)) (i := 0)
      simp only [List.getElem?_toArray, List.getElem?_cons_zero] at p0
      have HC := Lib.hid (E2.out.isq 0 sInt ⟨by omega, by omega⟩)
      rw [h1] at HC
      go_wp2_with fail
      refine HC.out.mono ?_
      rintro e w3 ⟨rfl, ek_⟩
      have E3 := Lib.hid ek_
      clear ek_ HC E2 p0
      have p0 := cell_heap (E3.out.box (z := w.heap.size) (o := sdb b) (by simp)) (i := 0)
      simp only [List.getElem?_toArray, List.getElem?_cons_zero] at p0
      have HC := Lib.hid (E3.out.isq 0 sInt ⟨by omega, by omega⟩)
      rw [h1] at HC
      go_wp2_with fail
      refine HC.out.mono ?_
      rintro e w4 ⟨rfl, ek_⟩
      have E4 := Lib.hid ek_
      clear ek_ HC E3 p0
      have p0 := cell_heap (E4.out.box (z := w.heap.size) (o := sdb b) (by simp)) (i := 0)
      simp only [List.getElem?_toArray, List.getElem?_cons_zero] at p0
      have HC := Lib.hid (E4.out.isq 0 sBool ⟨by omega, by omega⟩)
      rw [h3] at HC
      go_wp2_with fail
      refine HC.out.mono ?_
      rintro e w44 ⟨rfl, ek_⟩
      have E44 := Lib.hid ek_
      clear ek_ HC E4 p0
      clear h1 h3
      have p0 := cell_heap (E44.out.box (z := w.heap.size) (o := sdb b) (by simp)) (i := 0)
      simp only [List.getElem?_toArray, List.getElem?_cons_zero] at p0
      have HK := Lib.hid (sname_any w44 C E44.out.cu E44.out.ok hd (Nat.zero_le _))
      have ER := E44
      have HGG := Lib.hid (Got.nam 0 C E44.out.ok hd (Nat.zero_le _))
      clear E44
      go_wp2_with fail
      refine HK.out.mono ?_
      rintro e w5 ⟨Al, cl, m, rfl, hp, hnil, hTk, hT, h9, hm, ho⟩
      have HM := Lib.hid (And.intro hnil h9)
      have HP := Lib.hid hp
      have E5 := Lib.hid (ER.out.gotl (cl := cl) hTk hT hm ⟨HGG.out.ok, HGG.out.L⟩ ho)
      clear hp hnil hTk hT h9 hm ho HK ER HGG p0
      have HN := Lib.hid (E5.out.noded 9 [⟨Al, cl, m⟩] 1 rfl (by omega) (by simp) (by simpa using HM.out.1) (by show (([⟨Al, cl, m⟩] : List Pp).flatMap Pp.m).length ≤ 20000; have := HM.out.2; simp; omega) (ppO [⟨Al, cl, m⟩]) 23 rfl)
      go_wp2_with fail
      refine HN.out.mono ?_
      rintro e w6 ⟨A', c', rfl, ek6⟩
      have hz := ek6.box (z := w.heap.size + 1) (o := zb5) (by simp)
      have hfin := ek6.result (r := typ C) (T := ⟨9, ⟨#[]⟩, ⟨#[]⟩, 0, A', c', [(⟨Al, cl, m⟩ : Pp)].flatMap Pp.m⟩) (z := w.heap.size + 1) (by simp) (by simp) hz (by rw [HT.out]; rfl) (by rw [pl_nod, HT.out]; show nod 9 (([(⟨Al, cl, m⟩ : Pp)].flatMap Pp.m).map pl) = _; rw [List.flatMap_cons, List.flatMap_nil, List.append_nil, HP.out]; show _ = nod 9 (_ ++ []); rw [List.append_nil])
      generalize [(⟨Al, cl, m⟩ : Pp)].flatMap Pp.m = M at hfin ⊢
      clear ek6 HN E5 HM
      go_wp2_with (with_reducible refine stay_store 30 (.tmp 2) (.tmp 38) (by rfl) ?_)
      refine Stay.mk ?_
      refine wpList_store_node (by rfl) 30 (.tmp 2) (.tmp 38) (by rfl) size_tnode (w.heap.size + 1) ⟨9, ⟨#[]⟩, ⟨#[]⟩, 0, A', c', M⟩ (by rfl) (by rfl) hz ?_
      generalize set5 w6 (w.heap.size + 1) ⟨9, ⟨#[]⟩, ⟨#[]⟩, 0, A', c', M⟩ = w9 at hfin ⊢
      clear hz
      obtain ⟨hs, hv⟩ := hfin
      have HV := Lib.hid hv
      clear hv
      go_wp2
      have g0 := cell_heap hs (i := 0)
      have g1 := cell_heap hs (i := 1)
      have g2 := cell_heap hs (i := 2)
      have g3 := cell_heap hs (i := 3)
      have g4 := cell_heap hs (i := 4)
      simp only [List.getElem?_toArray, List.getElem?_cons_zero, List.getElem?_cons_succ] at g0 g1 g2 g3 g4
      refine bodyPost_ret (v := nv ⟨9, ⟨#[]⟩, ⟨#[]⟩, 0, A', c', M⟩) (by simp [results, Tryz.results98, go_sem, g0, g1, g2, g3, g4]) rfl HV.out
end
end Go.Proofs.YtfmlcddakfbleaaGreatDoor

namespace Go.Proofs.YtfmlcddakfbleaaGreatDoor
open Go.RowKit SignMath TreeMath

/-- what is asked of a text -/
def AsksS (g : Nat) (lb : Array Value) (p : ByteArray → Bool) (l : List ByteArray) (w : World) : Prop :=
  ∀ (W : World) (x : ByteArray), x ∈ l → Below w.heap.size w W → Calls Tryz.prog g (#[.string x] ++ lb) W fun e w' => e = .returned (.bool (p x)) ∧ Below W.heap.size W w'
def idxS (p : ByteArray → Bool) (l : List ByteArray) : Int := match l.findIdx? p with | some i => (i : Int) | none => -1
theorem idxS_hit {p : ByteArray → Bool} {l : List ByteArray} {k : Nat} {e : ByteArray} (he : l[k]? = some e) (hp : p e = true) (h : ∀ (i : Nat) (x : ByteArray), i < k → l[i]? = some x → p x = false) : idxS p l = k := by
  unfold idxS
  have hk := (List.getElem?_eq_some_iff.1 he).1
  have hx := (List.getElem?_eq_some_iff.1 he).2
  have : l.findIdx? p = some k := by
    rw [List.findIdx?_eq_some_iff_getElem]
    exact ⟨hk, by rw [hx]; exact hp, fun j hj => by simp [h j l[j] hj (List.getElem?_eq_getElem (by omega))]⟩
  rw [this]
theorem idxS_miss {p : ByteArray → Bool} {l : List ByteArray} (h : ∀ (i : Nat) (x : ByteArray), l[i]? = some x → p x = false) : idxS p l = -1 := by
  unfold idxS
  have : l.findIdx? p = none := by
    rw [List.findIdx?_eq_none_iff]
    intro x hx
    obtain ⟨i, hi⟩ := List.getElem?_of_mem hx
    exact h i x hi
  rw [this]
theorem idxS_any (p : ByteArray → Bool) (l : List ByteArray) : decide (0 ≤ idxS p l) = l.any p := by
  unfold idxS
  cases h : l.findIdx? p with
  | none =>
    rw [List.findIdx?_eq_none_iff] at h
    have : l.any p = false := by
      rw [List.any_eq_false]
      intro x hx
      simp [h x hx]
    rw [this]
    simp
  | some i =>
    rw [List.findIdx?_eq_some_iff_getElem] at h
    obtain ⟨h1, h2, -⟩ := h
    have : l.any p = true := List.any_eq_true.2 ⟨_, List.getElem_mem h1, h2⟩
    rw [this]
    simp

set_option maxRecDepth 100000 in
set_option maxHeartbeats 1000000 in
theorem indexS_any (l : List ByteArray) (n gb : Nat) (o : Obj) (g : Nat) (lb : Array Value) (eg : ∀ args w, (callFunc g args).run Tryz.prog w = .ok (.enter g args) w) (p : ByteArray → Bool) (w : World) (hn : l.length = n) (hl : n ≤ 4) (hgo : w.heap[gb]? = some o) (hsm : ∀ W' : World, W'.heap[gb]? = some o → SsM W' gb 0 l) (hp : AsksS g lb p l w) :
    Calls Tryz.prog 116 #[.slice (some ⟨gb, 0, none⟩) n n, .func (.func g) #[] lb] w fun e w' => e = .returned (.int .i64 (idxS p l)) ∧ Below w.heap.size w w' := by
  have hgw : gb < w.heap.size := (Array.getElem?_eq_some_iff.1 hgo).1
  have HP := Lib.hid (And.intro hp (And.intro hgo hsm))
  have HN0 := Lib.hid hn
  clear hp hgo hsm hn
  go_enter Tryz.func116, Tryz.ntmps116
  go_wp2
  go_loopw [5, 8] (fun _ i wr => ∃ k : Nat, k ≤ n ∧ i = .int .i64 k ∧ Below w.heap.size w wr ∧ Hid (∀ (i : Nat) (x : ByteArray), i < k → l[i]? = some x → p x = false)) (fun _ i _ => n - (intOf i).toNat)
  case atStart => exact ⟨0, Nat.zero_le _, rfl, Below.refl _ _, Lib.hid (fun i x hi _ => absurd hi (Nat.not_lt_zero _))⟩
  case round =>
    obtain ⟨k, hk, rfl, hB, HN⟩ := hrel
    by_cases hlt : k < n
    · obtain ⟨e, he⟩ : ∃ e, l[k]? = some e := ⟨_, List.getElem?_eq_getElem (by have := HN0.out; omega)⟩
      have c0 := HP.out.2.2 wr ((hB.block gb hgw).trans HP.out.2.1) k e he
      rw [Nat.zero_add] at c0
      have hcall := HP.out.1 wr e (List.mem_of_getElem? he) hB
      have HC := Lib.hid hcall
      have HE := Lib.hid he
      have z1 : (0 : Int) ≤ (k : Nat) := by omega
      have z2 : ((k : Nat) : Int) < n := by omega
      have z3 : ((k : Nat) : Int) ≤ 4 := by omega
      clear hcall he
      cases hq : p e with
      | true =>
        have HQ := Lib.hid hq
        clear hq
        go_wp2_with (go_at_fn g; refine HC.out.mono ?_; rw [HQ.out]; rintro r w1 ⟨rfl, hb1⟩)
        go_ret
        exact ⟨ret_int (idxS_hit HE.out HQ.out HN.out).symm, hB.trans (hb1.mono hB.size)⟩
      | false =>
        have HQ := Lib.hid hq
        clear hq
        go_wp2_with (go_at_fn g; refine HC.out.mono ?_; rw [HQ.out]; rintro r w1 ⟨rfl, hb1⟩)
        go_roundw
        case rel =>
          refine ⟨k + 1, by omega, by go_num, hB.trans (hb1.mono hB.size), Lib.hid (fun i x hi hx => ?_)⟩
          by_cases e : i = k
          · subst e; rw [HE.out] at hx; injection hx with hx; subst hx; exact HQ.out
          · exact HN.out i x (by omega) hx
        case measure => simp [intOf]; omega
    · obtain rfl : k = n := by omega
      go_wp2
      go_ret
      exact ⟨ret_int (idxS_miss fun i x hx => HN.out i x (by have := (List.getElem?_eq_some_iff.1 hx).1; have := HN0.out; omega) hx).symm, hB⟩
section
variable {b : Nat} {A : Option Addr} {c : Nat}
set_option maxRecDepth 100000 in
set_option maxHeartbeats 1000000 in
theorem comes1_any {W : World} {C : Cu} (g : Nat) (s : ByteArray) (h : CuM b A c C W) (hk : C.Ok) (hg : W.heap[g]? = some (sdb b)) : Calls Tryz.prog 94 #[.string s, .pointer (some ⟨g, 0, none⟩)] W (Rd W (.bool (C.isb 0 s))) := by
  have HC := Lib.hid (is_any 0 s ⟨by omega, by omega⟩ h hk)
  have p0 := cell_heap hg (i := 0)
  simp only [List.getElem?_toArray, List.getElem?_cons_zero] at p0
  generalize C.isb 0 s = r at HC ⊢
  unfold Rd at HC ⊢
  clear h hk hg
  go_enter Tryz.func94, Tryz.ntmps94
  go_wp2_with fail
  refine HC.out.mono ?_
  rintro e w1 ⟨rfl, hb⟩
  have HB := Lib.hid hb
  clear hb
  go_wp2
  go_ret
  exact ⟨rfl, HB.out⟩
set_option maxRecDepth 100000 in
set_option maxHeartbeats 1000000 in
theorem containsS_any (l : List ByteArray) (n gb : Nat) (o : Obj) (g : Nat) (lb : Array Value) (eg : ∀ args w, (callFunc g args).run Tryz.prog w = .ok (.enter g args) w) (p : ByteArray → Bool) (w : World) (hn : l.length = n) (hl : n ≤ 4) (hgo : w.heap[gb]? = some o) (hsm : ∀ W' : World, W'.heap[gb]? = some o → SsM W' gb 0 l) (hp : AsksS g lb p l w) :
    Calls Tryz.prog 93 #[.slice (some ⟨gb, 0, none⟩) n n, .func (.func g) #[] lb] w (Rd w (.bool (l.any p))) := by
  have HC := Lib.hid (indexS_any l n gb o g lb eg p w hn hl hgo hsm hp)
  have he := idxS_any p l
  generalize idxS p l = r at HC he
  rw [← he]
  unfold Rd
  clear hp hgo hsm hn he
  go_enter Tryz.func93, Tryz.ntmps93
  go_wp2_with fail
  refine HC.out.mono ?_
  rintro e w1 ⟨rfl, hb⟩
  have HB := Lib.hid hb
  clear hb
  go_wp2
  go_ret
  exact ⟨rfl, HB.out⟩
set_option maxRecDepth 100000 in
set_option maxHeartbeats 1000000 in
theorem comes_any {w : World} {C : Cu} (l : List ByteArray) (n : Nat) (hn : l.length = n) (hl : n ≤ 4) (g : Nat) (o : Obj) (hgo : w.heap[g]? = some o) (hsm : ∀ W' : World, W'.heap[g]? = some o → SsM W' g 0 l) (h : CuM b A c C w) (hk : C.Ok) : Calls Tryz.prog 70 #[rcv b, .slice (some ⟨g, 0, none⟩) n n] w (Rd w (.bool (cms l C))) := by
  have hb0 := below1 w (sdb b)
  have hgw : g < w.heap.size := (Array.getElem?_eq_some_iff.1 hgo).1
  have HC := Lib.hid (containsS_any l n g o 94 #[.pointer (some ⟨w.heap.size, 0, none⟩)] (ent_of Tryz.func94 (by kernel_rfl) (by kernel_rfl)) (fun s => C.isb 0 s) (w.alloc (sdb b)) hn hl ((hb0.block g hgw).trans hgo) hsm fun W s _ hB => comes1_any w.heap.size s ((h.below hb0).below hB) hk ((hB.block w.heap.size (by simp)).trans (heap_alloc_new w (sdb b))))
  have HB0 := Lib.hid hb0
  unfold cms
  unfold Rd at HC ⊢
  generalize (l.any fun s => C.isb 0 s) = r at HC ⊢
  clear h hk hb0 hgo hsm hn
  go_enter Tryz.func70, Tryz.ntmps70
  go_wp2_with fail
  refine HC.out.mono ?_
  rintro e w1 ⟨rfl, hb⟩
  have HB := Lib.hid (HB0.out.trans (hb.mono (by simp)))
  clear hb
  go_wp2
  go_ret
  exact ⟨rfl, HB.out⟩
end
end Go.Proofs.YtfmlcddakfbleaaGreatDoor

namespace Go.Proofs.YtfmlcddakfbleaaGreatDoor
open Go.RowKit SignMath TreeMath

/-- ahead of each round -/
structure LsI (b : Nat) (A : Option Addr) (c : Nat) (w : World) (bg : Cu → Bool) (f : Cu → Cu × Tr) (C : Cu) (res : Cu × List Tr) (q : Nat) (C' : Cu) (m : List Tr) (n : Nat) (Al : Option Addr) (cl : Nat) (zs : List Nat) (W : World) : Prop where
  ek : EK b A c no (· = b) w C' [(w.heap.size, sdb b)] zs m W
  row : RowN W (.slice Al n cl) m
  own : ∀ k, (Value.slice Al n cl).ownBlock = some k → k ∈ zs
  ne : ∀ k ∈ [(w.heap.size, sdb b)], (Value.slice Al n cl).ownBlock ≠ some k.1
  hn : m.length = n
  lf : C'.left ≤ q
  res : lst bg f q (C', m.map pl) = res
  len : n + C'.left ≤ 4000
  d : C'.d = C.d
/-- an answer of a list in a row of the call's own -/
def TlW (b : Nat) (A : Option Addr) (c : Nat) (r : Cu × List Tr) (w : World) (e : Ending) (W' : World) : Prop :=
  ∃ (Al : Option Addr) (cl : Nat) (m : List Tr), e = .returned (.slice Al m.length cl) ∧ m.map pl = r.2 ∧ (Al = none → cl = 0) ∧ Tks (nw w.heap.size W') W' Al m ∧ (∀ x ∈ m, Tn (nw w.heap.size W') W' x) ∧ m.length ≤ 9000 ∧ CuM b A c r.1 W' ∧ Of b w W' ∧ RowN W' (.slice Al m.length cl) m ∧ (∀ k, (Value.slice Al m.length cl).ownBlock = some k → w.heap.size ≤ k) ∧ ∀ x ∈ m, Tn (fun k => (w.heap.size ≤ k ∧ k < W'.heap.size) ∧ (Value.slice Al m.length cl).ownBlock ≠ some k) W' x
theorem TlW.v {b : Nat} {A : Option Addr} {c : Nat} {r : Cu × List Tr} {w W' : World} {e : Ending} (h : TlW b A c r w e W') : TlV b A c r w e W' := by
  obtain ⟨Al, cl, m, h1, h2, h3, h4, h5, h6, h7, h8, -⟩ := h
  exact ⟨Al, cl, m, h1, h2, h3, h4, h5, h6, h7, h8⟩
def WhatW (gf b : Nat) (A : Option Addr) (c : Nat) (what : Cu → Cu × List Tr) (D : Nat) : Prop := ∀ (W : World) (C : Cu), CuM b A c C W → C.Ok → C.d ≤ 200 → D ≤ C.d → Calls Tryz.prog gf #[rcv b] W (TlW b A c (what C) W)
theorem WhatW.v {gf b : Nat} {A : Option Addr} {c : Nat} {f : Cu → Cu × List Tr} {D : Nat} (h : WhatW gf b A c f D) : WhatF gf b A c f D := fun W C h1 h2 h3 h4 => (h W C h1 h2 h3 h4).mono fun _ _ h => h.v
theorem EK.listw {b : Nat} {A : Option Addr} {c : Nat} {w W : World} {C : Cu} {bs : List (Nat × Obj)} {zs : List Nat} {ts : List Tr} (h : EK b A c no (· = b) w C bs zs ts W) {m : List Tr} {Al : Option Addr} {cl : Nat} {r : Cu × List Tr} (hrow : RowN W (.slice Al m.length cl) m) (hz : ∀ k, (Value.slice Al m.length cl).ownBlock = some k → k ∈ zs) (hm : ∀ x ∈ m, x ∈ ts) (hl : m.length ≤ 9000) (h1 : r.1 = C) (h2 : m.map pl = r.2) :
    TlW b A c r w (.returned (.slice Al m.length cl)) W := by
  have hlo : ∀ k, (Value.slice Al m.length cl).ownBlock = some k → w.heap.size ≤ k := fun k hk => (h.zn k (hz k hk)).1
  refine ⟨Al, cl, m, rfl, h2, ?_, ?_, fun x hx => (h.tn x (hm x hx)).keep (fun _ _ _ => rfl) fun _ hk => hk.1.resolve_left fun h => h, hl, by rw [h1]; exact h.cu, h.off, hrow, hlo, fun x hx => (h.tn x (hm x hx)).keep (fun _ _ _ => rfl) fun k hk => ⟨hk.1.resolve_left fun h => h, fun e => hk.2 (hz k e)⟩⟩
  · obtain ⟨A', c', e, hn⟩ := hrow.form
    injection e with e1 e2 e3
    subst e1 e3
    exact hn
  · exact hrow.tks.keep (fun _ _ _ => rfl) fun k hk => ⟨hlo k hk, hrow.lt k hk⟩
/-- a call that read a list in a row of its own -/
theorem EK.gotw2 {b : Nat} {A : Option Addr} {c : Nat} {S X : Nat → Prop} {w W W' : World} {C C' : Cu} {bs : List (Nat × Obj)} {zs : List Nat} {ts m : List Tr} {Al : Option Addr} {cl : Nat} (h : EK b A c S X w C bs zs ts W) (hrow : RowN W' (.slice Al m.length cl) m) (hown : ∀ k, (Value.slice Al m.length cl).ownBlock = some k → W.heap.size ≤ k)
    (hout : ∀ x ∈ m, Tn (fun k => (W.heap.size ≤ k ∧ k < W'.heap.size) ∧ (Value.slice Al m.length cl).ownBlock ≠ some k) W' x) (hm : CuM b A c C' W') (hk : C'.Ok ∧ C'.L = C.L) (ho : Of b W W') :
    ∃ zs', EK b A c S X w C' bs zs' (m ++ ts) W' ∧ (∀ z ∈ zs, z ∈ zs') ∧ ∀ k, (Value.slice Al m.length cl).ownBlock = some k → k ∈ zs' := by
  have h' := h.call hm hk ho
  have hs := h.size
  refine ⟨zs ++ (Value.slice Al m.length cl).ownBlock.toList, ⟨h'.cu, h'.ok, h'.off, h'.rl, h'.bX, h'.hX, h'.hS, h'.has, fun z hz => ?_, fun T hT => ?_⟩, fun z hz => List.mem_append_left _ hz, fun k hk => List.mem_append_right _ (by rw [hk]; simp)⟩
  · rcases List.mem_append.1 hz with hz | hz
    · exact h'.zn z hz
    · have e : (Value.slice Al m.length cl).ownBlock = some z := by simpa using hz
      exact ⟨Nat.le_trans hs (hown z e), hrow.lt z e⟩
  · rcases List.mem_append.1 hT with hT | hT
    · refine (hout T hT).keep (fun _ _ _ => rfl) fun k hk => ⟨.inr ⟨Nat.le_trans hs hk.1.1, hk.1.2⟩, fun hz => ?_⟩
      rcases List.mem_append.1 hz with hz | hz
      · have := (h.zn k hz).2
        have := hk.1.1
        omega
      · exact hk.2 (by simpa using hz)
    · refine (h.tn T hT).keep (fun k _ hp => cell_of (ho.block _ (h.inS hp.1).1 (h.inS hp.1).2)) fun k hp => ⟨hp.1.imp id fun hh => ⟨hh.1, Nat.lt_of_lt_of_le hh.2 ho.size⟩, fun hz => ?_⟩
      rcases List.mem_append.1 hz with hz | hz
      · exact hp.2 hz
      · have h1 := (h.inS hp.1).1
        have h2 := hown k (by simpa using hz)
        omega
def vlen : Value → Nat
  | .slice _ n _ => n
  | _ => 0
theorem lst_no {bg : Cu → Bool} {f : Cu → Cu × Tr} {q : Nat} {x : Cu × List Tr} (h : bg x.1 = false) : lst bg f q x = x := by
  cases q with
  | zero => rfl
  | succ q => unfold lst; rw [h]; rfl
theorem lst_go {bg : Cu → Bool} {f : Cu → Cu × Tr} {q : Nat} {x : Cu × List Tr} (h : bg x.1 = true) : lst bg f (q + 1) x = lst bg f q ((f x.1).1, x.2 ++ [(f x.1).2]) := by
  rw [lst, if_pos h]

section
variable {b : Nat} {A : Option Addr} {c : Nat}
set_option maxRecDepth 100000 in
set_option maxHeartbeats 8000000 in
theorem variablesW_any  : WhatW 49 b A c vbs 0 := by
  intro w C h hk hd hD
  have ek1 := (EK.begin h hk).alloc (sdb b)
  have hlen := hk.len
  have hll : C.left ≤ 4000 := by { unfold Cu.left; split <;> omega }
  generalize hres : vbs C = res
  have HI0 : Hid (LsI b A c w vbg vrb C res C.left C [] 0 none 0 [w.heap.size] (w.alloc (sdb b))) := Lib.hid ⟨ek1.sub (by simp) (by simp), RowN.nil _, fun q hq => (by cases hq), fun q _ e => (by cases e), rfl, Nat.le_refl _, hres, by omega, rfl⟩
  have HK := Lib.hid (And.intro hd hD)
  clear ek1 h hk hd hD hlen hll hres
  go_enter Tryz.func49, Tryz.ntmps49
  go_wp2
  go_loopw [3] (fun v wr => ∃ (q : Nat) (C' : Cu) (m : List Tr) (n : Nat) (Al : Option Addr) (cl : Nat) (zs : List Nat), v = .slice Al n cl ∧ Hid (LsI b A c w vbg vrb C res q C' m n Al cl zs wr)) (fun v _ => 4001 - vlen v)
  case atStart => exact ⟨_, _, _, _, _, _, _, rfl, HI0⟩
  case round =>
    obtain ⟨q, C', m, n, Al, cl, zs, rfl, HD⟩ := hrel
    clear HI0
    have E := Lib.hid HD.out.ek
    have HR := Lib.hid HD.out.row
    cases h1 : cms [sInt, sBool] C' with
    | true =>
      have hbg : vbg C' = true := by unfold vbg; rw [h1]; rfl
      have hko := HD.out.ek.ok
      have hd2 : C'.d ≤ 200 := by rw [HD.out.d]; exact HK.out.1
      have hD2 : 0 ≤ C'.d := by rw [HD.out.d]; exact HK.out.2
      have hlt := vrb_left hko hd2 hbg
      have HGG := Lib.hid ((Got.vrb 0) C' hko hd2 hD2)
      obtain ⟨q, rfl⟩ : ∃ q', q = q' + 1 := ⟨q - 1, by have := HD.out.lf; omega⟩
      have hres := HD.out.res
      rw [lst_go (by exact hbg)] at hres
      have HRES := Lib.hid hres
      have hq := HD.out.lf
      have hl := HD.out.len
      have HNM : Hid ((vrb C').1.left ≤ q ∧ n + 1 + (vrb C').1.left ≤ 4000 ∧ n ≤ 3999) := Lib.hid ⟨by omega, by omega, by omega⟩
      have HO := Lib.hid (And.intro HD.out.own (And.intro HD.out.ne (And.intro HD.out.hn HD.out.d)))
      have HP := Lib.hid (fun (W : World) (hm : CuM b A c C' W) => (variable_any typed_any) W C' hm hko hd2 hD2)
      clear hbg hko hd2 hD2 hlt hres hq hl HD
      have p0 := cell_heap (E.out.box (z := w.heap.size) (o := sdb b) (by simp)) (i := 0)
      simp only [List.getElem?_toArray, List.getElem?_cons_zero] at p0
      have HC := Lib.hid (comes_any [sInt, sBool] 2 rfl (by omega) wr.heap.size (rowO [sInt, sBool]) (heap_alloc_new wr (rowO [sInt, sBool])) (fun W' h' => ss_row W' _ [sInt, sBool] 9 _ rfl h') (E.out.below (below1 wr (rowO [sInt, sBool]))).cu E.out.ok)
      rw [h1] at HC
      unfold Rd at HC
      have ER := Lib.hid (E.out.below (below1 wr (rowO [sInt, sBool])))
      have HRr := Lib.hid (HR.out.below (below1 wr (rowO [sInt, sBool])))
      clear E HR
      go_wp2_with fail
      refine HC.out.mono ?_
      rintro e v1 ⟨rfl, hb⟩
      have E1 := Lib.hid (ER.out.below hb)
      have HR1 := Lib.hid (HRr.out.below hb)
      clear hb HC ER HRr p0
      have p0 := cell_heap (E1.out.box (z := w.heap.size) (o := sdb b) (by simp)) (i := 0)
      simp only [List.getElem?_toArray, List.getElem?_cons_zero] at p0
      clear h1
      have HC := Lib.hid (HP.out v1 E1.out.cu)
      go_wp2_with fail
      refine HC.out.mono ?_
      rintro e w2 ⟨SG, rfl, hp1, hT1, hm1, ho1⟩
      have hob : (Value.slice Al n cl).ownBlock ≠ some b := fun e => by
        have := (E1.out.zn b (HO.out.1 b e)).1
        have := E1.out.hX b rfl
        omega
      have ek2 := E1.out.got hT1 hm1 ⟨HGG.out.ok, HGG.out.L⟩ ho1
      have hrow2 := HR1.out.of ho1 hob
      have ek3 := ek2.rowOf 0 1 (l := [SG]) rfl (by simp) (.cells #[.int .i64 SG.k, .string SG.g, .string SG.t, .int .i64 SG.a, .slice SG.A SG.kids.length SG.c] 30 (0, 0)) 30 rfl
      have hrow3 := hrow2.below (below1 w2 (.cells #[.int .i64 SG.k, .string SG.g, .string SG.t, .int .i64 SG.a, .slice SG.A SG.kids.length SG.c] 30 (0, 0)))
      have hlies := (tn_iff.1 (ek3.tn ⟨0, ⟨#[]⟩, ⟨#[]⟩, 0, some ⟨w2.heap.size, 0, none⟩, 1, [SG]⟩ (by simp))).2.1
      have E3' := Lib.hid (ek3.sub (bs' := [(w.heap.size, sdb b)]) (ts' := SG :: m) (by simp) (by simp only [List.mem_cons]; rintro T (h | h) <;> simp [h]))
      have HR3' := Lib.hid hrow3
      have HLI := Lib.hid hlies
      clear ek2 hrow2 ek3 hrow3 hlies hT1 hm1 ho1 p0 HC E1 HR1 hob HP
      go_wp2_with (at_builtin; refine Stay.out ?_)
      refine Stay.mk ?_
      refine wpList_append_n (by rfl) (.tmp 15) (.tmp 18) (by rfl) (w2.alloc (.cells #[.int .i64 SG.k, .string SG.g, .string SG.t, .int .i64 SG.a, .slice SG.A SG.kids.length SG.c] 30 (0, 0))) (.slice Al n cl) m [SG] (some ⟨w2.heap.size, 0, none⟩) 1 1 _ rfl (by rfl) (by rfl) HLI.out (by simp) HR3'.out (by have := HO.out.2.2.1; have := HNM.out.2.2; simp; omega) ?_
      intro A1 c1 w4 hrow4 hg4 hat4
      obtain ⟨zs4, ek4, hz4, ho4, hn4'⟩ := E3'.out.grows hg4 (own' := (Value.slice A1 (m ++ [SG]).length c1).ownBlock) (fun q hq => .inl (HO.out.1 q hq)) HO.out.2.1 hat4 hrow4.lt
      have hlen : (m ++ [SG]).length = n + 1 := by rw [List.length_append, HO.out.2.2.1]; rfl
      have hmap : lst vbg vrb q ((vrb C').1, (m ++ [SG]).map pl) = res := by rw [List.map_append, List.map_cons, List.map_nil, hp1]; exact HRES.out
      have ek5 := ek4.sub (bs' := [(w.heap.size, sdb b)]) (ts' := m ++ [SG]) (by simp) (by simp only [List.mem_append, List.mem_cons, List.not_mem_nil, or_false]; rintro T (h | h) <;> simp [h])
      rw [hlen] at hrow4 ho4 hn4'
      rw [hlen]
      have HI : Hid (LsI b A c w vbg vrb C res q (vrb C').1 (m ++ [SG]) (n + 1) A1 c1 zs4 w4) := Lib.hid ⟨ek5, hrow4, fun q hq => (ho4 q hq).resolve_right (fun hh => hh.2 hh.1), hn4', hlen, HNM.out.1, hmap, HNM.out.2.1, HGG.out.d.trans HO.out.2.2.2⟩
      have hn9 := HNM.out.2.2
      clear ek4 ek5 hrow4 hg4 hat4 hz4 ho4 hn4' hlen hmap E3' HR3' HLI HRES hp1
      go_wp2
      go_roundw
      case rel => exact ⟨q, (vrb C').1, m ++ [SG], n + 1, A1, c1, zs4, rfl, HI⟩
      case measure => simp [vlen]; omega
    | false =>
      cases h2 : nmd 0 C' with
      | false =>
        have hbg : vbg C' = false := by unfold vbg; rw [h1, h2]; rfl
        have hres := HD.out.res
        rw [lst_no (by exact hbg)] at hres
        have HRES := Lib.hid hres
        clear hbg hres
        have p0 := cell_heap (E.out.box (z := w.heap.size) (o := sdb b) (by simp)) (i := 0)
        simp only [List.getElem?_toArray, List.getElem?_cons_zero] at p0
        have HC := Lib.hid (comes_any [sInt, sBool] 2 rfl (by omega) wr.heap.size (rowO [sInt, sBool]) (heap_alloc_new wr (rowO [sInt, sBool])) (fun W' h' => ss_row W' _ [sInt, sBool] 9 _ rfl h') (E.out.below (below1 wr (rowO [sInt, sBool]))).cu E.out.ok)
        rw [h1] at HC
        unfold Rd at HC
        have ER := Lib.hid (E.out.below (below1 wr (rowO [sInt, sBool])))
        have HRr := Lib.hid (HR.out.below (below1 wr (rowO [sInt, sBool])))
        clear E HR
        go_wp2_with fail
        refine HC.out.mono ?_
        rintro e v1 ⟨rfl, hb⟩
        have E1 := Lib.hid (ER.out.below hb)
        have HR1 := Lib.hid (HRr.out.below hb)
        clear hb HC ER HRr p0
        have p0 := cell_heap (E1.out.box (z := w.heap.size) (o := sdb b) (by simp)) (i := 0)
        simp only [List.getElem?_toArray, List.getElem?_cons_zero] at p0
        have HC := Lib.hid (named_any 0 ⟨by omega, by omega⟩ E1.out.cu E1.out.ok)
        rw [h2] at HC
        unfold Rd at HC
        go_wp2_with fail
        refine HC.out.mono ?_
        rintro e v2 ⟨rfl, hb⟩
        have E2 := Lib.hid (E1.out.below hb)
        have HR2 := Lib.hid (HR1.out.below hb)
        clear hb HC E1 HR1 p0
        clear h1 h2
        have hmn := HD.out.hn
        subst hmn
        have HV := Lib.hid (E2.out.listw (r := res) (m := m) HR2.out HD.out.own (fun x hx => hx) (by have := HD.out.len; omega) (by rw [← HRES.out]) (by rw [← HRES.out]))
        clear E2 HR2 HD HRES
        go_wp2
        refine bodyPost_ret (v := .slice Al m.length cl) (by simp [results, Tryz.results49, go_sem]) rfl HV.out
      | true =>
        cases h3 : nmd 1 C' with
        | false =>
          have hbg : vbg C' = false := by unfold vbg; rw [h1, h2, h3]; rfl
          have hres := HD.out.res
          rw [lst_no (by exact hbg)] at hres
          have HRES := Lib.hid hres
          clear hbg hres
          have p0 := cell_heap (E.out.box (z := w.heap.size) (o := sdb b) (by simp)) (i := 0)
          simp only [List.getElem?_toArray, List.getElem?_cons_zero] at p0
          have HC := Lib.hid (comes_any [sInt, sBool] 2 rfl (by omega) wr.heap.size (rowO [sInt, sBool]) (heap_alloc_new wr (rowO [sInt, sBool])) (fun W' h' => ss_row W' _ [sInt, sBool] 9 _ rfl h') (E.out.below (below1 wr (rowO [sInt, sBool]))).cu E.out.ok)
          rw [h1] at HC
          unfold Rd at HC
          have ER := Lib.hid (E.out.below (below1 wr (rowO [sInt, sBool])))
          have HRr := Lib.hid (HR.out.below (below1 wr (rowO [sInt, sBool])))
          clear E HR
          go_wp2_with fail
          refine HC.out.mono ?_
          rintro e v1 ⟨rfl, hb⟩
          have E1 := Lib.hid (ER.out.below hb)
          have HR1 := Lib.hid (HRr.out.below hb)
          clear hb HC ER HRr p0
          have p0 := cell_heap (E1.out.box (z := w.heap.size) (o := sdb b) (by simp)) (i := 0)
          simp only [List.getElem?_toArray, List.getElem?_cons_zero] at p0
          have HC := Lib.hid (named_any 0 ⟨by omega, by omega⟩ E1.out.cu E1.out.ok)
          rw [h2] at HC
          unfold Rd at HC
          go_wp2_with fail
          refine HC.out.mono ?_
          rintro e v2 ⟨rfl, hb⟩
          have E2 := Lib.hid (E1.out.below hb)
          have HR2 := Lib.hid (HR1.out.below hb)
          clear hb HC E1 HR1 p0
          have p0 := cell_heap (E2.out.box (z := w.heap.size) (o := sdb b) (by simp)) (i := 0)
          simp only [List.getElem?_toArray, List.getElem?_cons_zero] at p0
          have HC := Lib.hid (named_any 1 ⟨by omega, by omega⟩ E2.out.cu E2.out.ok)
          rw [h3] at HC
          unfold Rd at HC
          go_wp2_with fail
          refine HC.out.mono ?_
          rintro e v3 ⟨rfl, hb⟩
          have E3 := Lib.hid (E2.out.below hb)
          have HR3 := Lib.hid (HR2.out.below hb)
          clear hb HC E2 HR2 p0
          clear h1 h2 h3
          have hmn := HD.out.hn
          subst hmn
          have HV := Lib.hid (E3.out.listw (r := res) (m := m) HR3.out HD.out.own (fun x hx => hx) (by have := HD.out.len; omega) (by rw [← HRES.out]) (by rw [← HRES.out]))
          clear E3 HR3 HD HRES
          go_wp2
          refine bodyPost_ret (v := .slice Al m.length cl) (by simp [results, Tryz.results49, go_sem]) rfl HV.out
        | true =>
          have hbg : vbg C' = true := by unfold vbg; rw [h1, h2, h3]; rfl
          have hko := HD.out.ek.ok
          have hd2 : C'.d ≤ 200 := by rw [HD.out.d]; exact HK.out.1
          have hD2 : 0 ≤ C'.d := by rw [HD.out.d]; exact HK.out.2
          have hlt := vrb_left hko hd2 hbg
          have HGG := Lib.hid ((Got.vrb 0) C' hko hd2 hD2)
          obtain ⟨q, rfl⟩ : ∃ q', q = q' + 1 := ⟨q - 1, by have := HD.out.lf; omega⟩
          have hres := HD.out.res
          rw [lst_go (by exact hbg)] at hres
          have HRES := Lib.hid hres
          have hq := HD.out.lf
          have hl := HD.out.len
          have HNM : Hid ((vrb C').1.left ≤ q ∧ n + 1 + (vrb C').1.left ≤ 4000 ∧ n ≤ 3999) := Lib.hid ⟨by omega, by omega, by omega⟩
          have HO := Lib.hid (And.intro HD.out.own (And.intro HD.out.ne (And.intro HD.out.hn HD.out.d)))
          have HP := Lib.hid (fun (W : World) (hm : CuM b A c C' W) => (variable_any typed_any) W C' hm hko hd2 hD2)
          clear hbg hko hd2 hD2 hlt hres hq hl HD
          have p0 := cell_heap (E.out.box (z := w.heap.size) (o := sdb b) (by simp)) (i := 0)
          simp only [List.getElem?_toArray, List.getElem?_cons_zero] at p0
          have HC := Lib.hid (comes_any [sInt, sBool] 2 rfl (by omega) wr.heap.size (rowO [sInt, sBool]) (heap_alloc_new wr (rowO [sInt, sBool])) (fun W' h' => ss_row W' _ [sInt, sBool] 9 _ rfl h') (E.out.below (below1 wr (rowO [sInt, sBool]))).cu E.out.ok)
          rw [h1] at HC
          unfold Rd at HC
          have ER := Lib.hid (E.out.below (below1 wr (rowO [sInt, sBool])))
          have HRr := Lib.hid (HR.out.below (below1 wr (rowO [sInt, sBool])))
          clear E HR
          go_wp2_with fail
          refine HC.out.mono ?_
          rintro e v1 ⟨rfl, hb⟩
          have E1 := Lib.hid (ER.out.below hb)
          have HR1 := Lib.hid (HRr.out.below hb)
          clear hb HC ER HRr p0
          have p0 := cell_heap (E1.out.box (z := w.heap.size) (o := sdb b) (by simp)) (i := 0)
          simp only [List.getElem?_toArray, List.getElem?_cons_zero] at p0
          have HC := Lib.hid (named_any 0 ⟨by omega, by omega⟩ E1.out.cu E1.out.ok)
          rw [h2] at HC
          unfold Rd at HC
          go_wp2_with fail
          refine HC.out.mono ?_
          rintro e v2 ⟨rfl, hb⟩
          have E2 := Lib.hid (E1.out.below hb)
          have HR2 := Lib.hid (HR1.out.below hb)
          clear hb HC E1 HR1 p0
          have p0 := cell_heap (E2.out.box (z := w.heap.size) (o := sdb b) (by simp)) (i := 0)
          simp only [List.getElem?_toArray, List.getElem?_cons_zero] at p0
          have HC := Lib.hid (named_any 1 ⟨by omega, by omega⟩ E2.out.cu E2.out.ok)
          rw [h3] at HC
          unfold Rd at HC
          go_wp2_with fail
          refine HC.out.mono ?_
          rintro e v3 ⟨rfl, hb⟩
          have E3 := Lib.hid (E2.out.below hb)
          have HR3 := Lib.hid (HR2.out.below hb)
          clear hb HC E2 HR2 p0
          have p0 := cell_heap (E3.out.box (z := w.heap.size) (o := sdb b) (by simp)) (i := 0)
          simp only [List.getElem?_toArray, List.getElem?_cons_zero] at p0
          clear h1 h2 h3
          have HC := Lib.hid (HP.out v3 E3.out.cu)
          go_wp2_with fail
          refine HC.out.mono ?_
          rintro e w2 ⟨SG, rfl, hp1, hT1, hm1, ho1⟩
          have hob : (Value.slice Al n cl).ownBlock ≠ some b := fun e => by
            have := (E3.out.zn b (HO.out.1 b e)).1
            have := E3.out.hX b rfl
            omega
          have ek2 := E3.out.got hT1 hm1 ⟨HGG.out.ok, HGG.out.L⟩ ho1
          have hrow2 := HR3.out.of ho1 hob
          have ek3 := ek2.rowOf 0 1 (l := [SG]) rfl (by simp) (.cells #[.int .i64 SG.k, .string SG.g, .string SG.t, .int .i64 SG.a, .slice SG.A SG.kids.length SG.c] 30 (0, 0)) 30 rfl
          have hrow3 := hrow2.below (below1 w2 (.cells #[.int .i64 SG.k, .string SG.g, .string SG.t, .int .i64 SG.a, .slice SG.A SG.kids.length SG.c] 30 (0, 0)))
          have hlies := (tn_iff.1 (ek3.tn ⟨0, ⟨#[]⟩, ⟨#[]⟩, 0, some ⟨w2.heap.size, 0, none⟩, 1, [SG]⟩ (by simp))).2.1
          have E3' := Lib.hid (ek3.sub (bs' := [(w.heap.size, sdb b)]) (ts' := SG :: m) (by simp) (by simp only [List.mem_cons]; rintro T (h | h) <;> simp [h]))
          have HR3' := Lib.hid hrow3
          have HLI := Lib.hid hlies
          clear ek2 hrow2 ek3 hrow3 hlies hT1 hm1 ho1 p0 HC E3 HR3 hob HP
          go_wp2_with (at_builtin; refine Stay.out ?_)
          refine Stay.mk ?_
          refine wpList_append_n (by rfl) (.tmp 15) (.tmp 18) (by rfl) (w2.alloc (.cells #[.int .i64 SG.k, .string SG.g, .string SG.t, .int .i64 SG.a, .slice SG.A SG.kids.length SG.c] 30 (0, 0))) (.slice Al n cl) m [SG] (some ⟨w2.heap.size, 0, none⟩) 1 1 _ rfl (by rfl) (by rfl) HLI.out (by simp) HR3'.out (by have := HO.out.2.2.1; have := HNM.out.2.2; simp; omega) ?_
          intro A1 c1 w4 hrow4 hg4 hat4
          obtain ⟨zs4, ek4, hz4, ho4, hn4'⟩ := E3'.out.grows hg4 (own' := (Value.slice A1 (m ++ [SG]).length c1).ownBlock) (fun q hq => .inl (HO.out.1 q hq)) HO.out.2.1 hat4 hrow4.lt
          have hlen : (m ++ [SG]).length = n + 1 := by rw [List.length_append, HO.out.2.2.1]; rfl
          have hmap : lst vbg vrb q ((vrb C').1, (m ++ [SG]).map pl) = res := by rw [List.map_append, List.map_cons, List.map_nil, hp1]; exact HRES.out
          have ek5 := ek4.sub (bs' := [(w.heap.size, sdb b)]) (ts' := m ++ [SG]) (by simp) (by simp only [List.mem_append, List.mem_cons, List.not_mem_nil, or_false]; rintro T (h | h) <;> simp [h])
          rw [hlen] at hrow4 ho4 hn4'
          rw [hlen]
          have HI : Hid (LsI b A c w vbg vrb C res q (vrb C').1 (m ++ [SG]) (n + 1) A1 c1 zs4 w4) := Lib.hid ⟨ek5, hrow4, fun q hq => (ho4 q hq).resolve_right (fun hh => hh.2 hh.1), hn4', hlen, HNM.out.1, hmap, HNM.out.2.1, HGG.out.d.trans HO.out.2.2.2⟩
          have hn9 := HNM.out.2.2
          clear ek4 ek5 hrow4 hg4 hat4 hz4 ho4 hn4' hlen hmap E3' HR3' HLI HRES hp1
          go_wp2
          go_roundw
          case rel => exact ⟨q, (vrb C').1, m ++ [SG], n + 1, A1, c1, zs4, rfl, HI⟩
          case measure => simp [vlen]; omega
theorem variables_any  : WhatF 49 b A c vbs 0 := (variablesW_any).v
set_option maxRecDepth 100000 in
set_option maxHeartbeats 8000000 in
theorem statementsW_any {st : Cu → Cu × Tr} {D : Nat} (hS : PartF 73 b A c st D) (hG : GX st D) (hL : ∀ C : Cu, C.Ok → C.d ≤ 200 → D ≤ C.d → sbg C = true → (st C).1.left < C.left) : WhatW 50 b A c (sts st) D := by
  intro w C h hk hd hD
  have ek1 := (EK.begin h hk).alloc (sdb b)
  have hlen := hk.len
  have hll : C.left ≤ 4000 := by { unfold Cu.left; split <;> omega }
  generalize hres : (sts st) C = res
  have HI0 : Hid (LsI b A c w sbg st C res C.left C [] 0 none 0 [w.heap.size] (w.alloc (sdb b))) := Lib.hid ⟨ek1.sub (by simp) (by simp), RowN.nil _, fun q hq => (by cases hq), fun q _ e => (by cases e), rfl, Nat.le_refl _, hres, by omega, rfl⟩
  have HK := Lib.hid (And.intro hd hD)
  clear ek1 h hk hd hD hlen hll hres
  go_enter Tryz.func50, Tryz.ntmps50
  go_wp2
  go_loopw [3] (fun v wr => ∃ (q : Nat) (C' : Cu) (m : List Tr) (n : Nat) (Al : Option Addr) (cl : Nat) (zs : List Nat), v = .slice Al n cl ∧ Hid (LsI b A c w sbg st C res q C' m n Al cl zs wr)) (fun v _ => 4001 - vlen v)
  case atStart => exact ⟨_, _, _, _, _, _, _, rfl, HI0⟩
  case round =>
    obtain ⟨q, C', m, n, Al, cl, zs, rfl, HD⟩ := hrel
    clear HI0
    have E := Lib.hid HD.out.ek
    have HR := Lib.hid HD.out.row
    cases h1 : cms [sBrO, sIf, sWhile, sPrint] C' with
    | true =>
      have hbg : sbg C' = true := by unfold sbg; rw [h1]; rfl
      have hko := HD.out.ek.ok
      have hd2 : C'.d ≤ 200 := by rw [HD.out.d]; exact HK.out.1
      have hD2 : D ≤ C'.d := by rw [HD.out.d]; exact HK.out.2
      have hlt := hL C' hko hd2 hD2 hbg
      have HGG := Lib.hid (hG C' hko hd2 hD2)
      obtain ⟨q, rfl⟩ : ∃ q', q = q' + 1 := ⟨q - 1, by have := HD.out.lf; omega⟩
      have hres := HD.out.res
      rw [lst_go (by exact hbg)] at hres
      have HRES := Lib.hid hres
      have hq := HD.out.lf
      have hl := HD.out.len
      have HNM : Hid ((st C').1.left ≤ q ∧ n + 1 + (st C').1.left ≤ 4000 ∧ n ≤ 3999) := Lib.hid ⟨by omega, by omega, by omega⟩
      have HO := Lib.hid (And.intro HD.out.own (And.intro HD.out.ne (And.intro HD.out.hn HD.out.d)))
      have HP := Lib.hid (fun (W : World) (hm : CuM b A c C' W) => hS W C' hm hko hd2 hD2)
      clear hbg hko hd2 hD2 hlt hres hq hl HD
      have p0 := cell_heap (E.out.box (z := w.heap.size) (o := sdb b) (by simp)) (i := 0)
      simp only [List.getElem?_toArray, List.getElem?_cons_zero] at p0
      have HC := Lib.hid (comes_any [sBrO, sIf, sWhile, sPrint] 4 rfl (by omega) wr.heap.size (rowO [sBrO, sIf, sWhile, sPrint]) (heap_alloc_new wr (rowO [sBrO, sIf, sWhile, sPrint])) (fun W' h' => ss_row W' _ [sBrO, sIf, sWhile, sPrint] 9 _ rfl h') (E.out.below (below1 wr (rowO [sBrO, sIf, sWhile, sPrint]))).cu E.out.ok)
      rw [h1] at HC
      unfold Rd at HC
      have ER := Lib.hid (E.out.below (below1 wr (rowO [sBrO, sIf, sWhile, sPrint])))
      have HRr := Lib.hid (HR.out.below (below1 wr (rowO [sBrO, sIf, sWhile, sPrint])))
      clear E HR
      go_wp2_with fail
      refine HC.out.mono ?_
      rintro e v1 ⟨rfl, hb⟩
      have E1 := Lib.hid (ER.out.below hb)
      have HR1 := Lib.hid (HRr.out.below hb)
      clear hb HC ER HRr p0
      have p0 := cell_heap (E1.out.box (z := w.heap.size) (o := sdb b) (by simp)) (i := 0)
      simp only [List.getElem?_toArray, List.getElem?_cons_zero] at p0
      clear h1
      have HC := Lib.hid (HP.out v1 E1.out.cu)
      go_wp2_with fail
      refine HC.out.mono ?_
      rintro e w2 ⟨SG, rfl, hp1, hT1, hm1, ho1⟩
      have hob : (Value.slice Al n cl).ownBlock ≠ some b := fun e => by
        have := (E1.out.zn b (HO.out.1 b e)).1
        have := E1.out.hX b rfl
        omega
      have ek2 := E1.out.got hT1 hm1 ⟨HGG.out.ok, HGG.out.L⟩ ho1
      have hrow2 := HR1.out.of ho1 hob
      have ek3 := ek2.rowOf 0 1 (l := [SG]) rfl (by simp) (.cells #[.int .i64 SG.k, .string SG.g, .string SG.t, .int .i64 SG.a, .slice SG.A SG.kids.length SG.c] 30 (0, 0)) 30 rfl
      have hrow3 := hrow2.below (below1 w2 (.cells #[.int .i64 SG.k, .string SG.g, .string SG.t, .int .i64 SG.a, .slice SG.A SG.kids.length SG.c] 30 (0, 0)))
      have hlies := (tn_iff.1 (ek3.tn ⟨0, ⟨#[]⟩, ⟨#[]⟩, 0, some ⟨w2.heap.size, 0, none⟩, 1, [SG]⟩ (by simp))).2.1
      have E3' := Lib.hid (ek3.sub (bs' := [(w.heap.size, sdb b)]) (ts' := SG :: m) (by simp) (by simp only [List.mem_cons]; rintro T (h | h) <;> simp [h]))
      have HR3' := Lib.hid hrow3
      have HLI := Lib.hid hlies
      clear ek2 hrow2 ek3 hrow3 hlies hT1 hm1 ho1 p0 HC E1 HR1 hob HP
      go_wp2_with (at_builtin; refine Stay.out ?_)
      refine Stay.mk ?_
      refine wpList_append_n (by rfl) (.tmp 11) (.tmp 14) (by rfl) (w2.alloc (.cells #[.int .i64 SG.k, .string SG.g, .string SG.t, .int .i64 SG.a, .slice SG.A SG.kids.length SG.c] 30 (0, 0))) (.slice Al n cl) m [SG] (some ⟨w2.heap.size, 0, none⟩) 1 1 _ rfl (by rfl) (by rfl) HLI.out (by simp) HR3'.out (by have := HO.out.2.2.1; have := HNM.out.2.2; simp; omega) ?_
      intro A1 c1 w4 hrow4 hg4 hat4
      obtain ⟨zs4, ek4, hz4, ho4, hn4'⟩ := E3'.out.grows hg4 (own' := (Value.slice A1 (m ++ [SG]).length c1).ownBlock) (fun q hq => .inl (HO.out.1 q hq)) HO.out.2.1 hat4 hrow4.lt
      have hlen : (m ++ [SG]).length = n + 1 := by rw [List.length_append, HO.out.2.2.1]; rfl
      have hmap : lst sbg st q ((st C').1, (m ++ [SG]).map pl) = res := by rw [List.map_append, List.map_cons, List.map_nil, hp1]; exact HRES.out
      have ek5 := ek4.sub (bs' := [(w.heap.size, sdb b)]) (ts' := m ++ [SG]) (by simp) (by simp only [List.mem_append, List.mem_cons, List.not_mem_nil, or_false]; rintro T (h | h) <;> simp [h])
      rw [hlen] at hrow4 ho4 hn4'
      rw [hlen]
      have HI : Hid (LsI b A c w sbg st C res q (st C').1 (m ++ [SG]) (n + 1) A1 c1 zs4 w4) := Lib.hid ⟨ek5, hrow4, fun q hq => (ho4 q hq).resolve_right (fun hh => hh.2 hh.1), hn4', hlen, HNM.out.1, hmap, HNM.out.2.1, HGG.out.d.trans HO.out.2.2.2⟩
      have hn9 := HNM.out.2.2
      clear ek4 ek5 hrow4 hg4 hat4 hz4 ho4 hn4' hlen hmap E3' HR3' HLI HRES hp1
      go_wp2
      go_roundw
      case rel => exact ⟨q, (st C').1, m ++ [SG], n + 1, A1, c1, zs4, rfl, HI⟩
      case measure => simp [vlen]; omega
    | false =>
      cases h2 : nmd 0 C' with
      | false =>
        have hbg : sbg C' = false := by unfold sbg; rw [h1, h2]; rfl
        have hres := HD.out.res
        rw [lst_no (by exact hbg)] at hres
        have HRES := Lib.hid hres
        clear hbg hres
        have p0 := cell_heap (E.out.box (z := w.heap.size) (o := sdb b) (by simp)) (i := 0)
        simp only [List.getElem?_toArray, List.getElem?_cons_zero] at p0
        have HC := Lib.hid (comes_any [sBrO, sIf, sWhile, sPrint] 4 rfl (by omega) wr.heap.size (rowO [sBrO, sIf, sWhile, sPrint]) (heap_alloc_new wr (rowO [sBrO, sIf, sWhile, sPrint])) (fun W' h' => ss_row W' _ [sBrO, sIf, sWhile, sPrint] 9 _ rfl h') (E.out.below (below1 wr (rowO [sBrO, sIf, sWhile, sPrint]))).cu E.out.ok)
        rw [h1] at HC
        unfold Rd at HC
        have ER := Lib.hid (E.out.below (below1 wr (rowO [sBrO, sIf, sWhile, sPrint])))
        have HRr := Lib.hid (HR.out.below (below1 wr (rowO [sBrO, sIf, sWhile, sPrint])))
        clear E HR
        go_wp2_with fail
        refine HC.out.mono ?_
        rintro e v1 ⟨rfl, hb⟩
        have E1 := Lib.hid (ER.out.below hb)
        have HR1 := Lib.hid (HRr.out.below hb)
        clear hb HC ER HRr p0
        have p0 := cell_heap (E1.out.box (z := w.heap.size) (o := sdb b) (by simp)) (i := 0)
        simp only [List.getElem?_toArray, List.getElem?_cons_zero] at p0
        have HC := Lib.hid (named_any 0 ⟨by omega, by omega⟩ E1.out.cu E1.out.ok)
        rw [h2] at HC
        unfold Rd at HC
        go_wp2_with fail
        refine HC.out.mono ?_
        rintro e v2 ⟨rfl, hb⟩
        have E2 := Lib.hid (E1.out.below hb)
        have HR2 := Lib.hid (HR1.out.below hb)
        clear hb HC E1 HR1 p0
        clear h1 h2
        have hmn := HD.out.hn
        subst hmn
        have HV := Lib.hid (E2.out.listw (r := res) (m := m) HR2.out HD.out.own (fun x hx => hx) (by have := HD.out.len; omega) (by rw [← HRES.out]) (by rw [← HRES.out]))
        clear E2 HR2 HD HRES
        go_wp2
        refine bodyPost_ret (v := .slice Al m.length cl) (by simp [results, Tryz.results50, go_sem]) rfl HV.out
      | true =>
        have hbg : sbg C' = true := by unfold sbg; rw [h1, h2]; rfl
        have hko := HD.out.ek.ok
        have hd2 : C'.d ≤ 200 := by rw [HD.out.d]; exact HK.out.1
        have hD2 : D ≤ C'.d := by rw [HD.out.d]; exact HK.out.2
        have hlt := hL C' hko hd2 hD2 hbg
        have HGG := Lib.hid (hG C' hko hd2 hD2)
        obtain ⟨q, rfl⟩ : ∃ q', q = q' + 1 := ⟨q - 1, by have := HD.out.lf; omega⟩
        have hres := HD.out.res
        rw [lst_go (by exact hbg)] at hres
        have HRES := Lib.hid hres
        have hq := HD.out.lf
        have hl := HD.out.len
        have HNM : Hid ((st C').1.left ≤ q ∧ n + 1 + (st C').1.left ≤ 4000 ∧ n ≤ 3999) := Lib.hid ⟨by omega, by omega, by omega⟩
        have HO := Lib.hid (And.intro HD.out.own (And.intro HD.out.ne (And.intro HD.out.hn HD.out.d)))
        have HP := Lib.hid (fun (W : World) (hm : CuM b A c C' W) => hS W C' hm hko hd2 hD2)
        clear hbg hko hd2 hD2 hlt hres hq hl HD
        have p0 := cell_heap (E.out.box (z := w.heap.size) (o := sdb b) (by simp)) (i := 0)
        simp only [List.getElem?_toArray, List.getElem?_cons_zero] at p0
        have HC := Lib.hid (comes_any [sBrO, sIf, sWhile, sPrint] 4 rfl (by omega) wr.heap.size (rowO [sBrO, sIf, sWhile, sPrint]) (heap_alloc_new wr (rowO [sBrO, sIf, sWhile, sPrint])) (fun W' h' => ss_row W' _ [sBrO, sIf, sWhile, sPrint] 9 _ rfl h') (E.out.below (below1 wr (rowO [sBrO, sIf, sWhile, sPrint]))).cu E.out.ok)
        rw [h1] at HC
        unfold Rd at HC
        have ER := Lib.hid (E.out.below (below1 wr (rowO [sBrO, sIf, sWhile, sPrint])))
        have HRr := Lib.hid (HR.out.below (below1 wr (rowO [sBrO, sIf, sWhile, sPrint])))
        clear E HR
        go_wp2_with fail
        refine HC.out.mono ?_
        rintro e v1 ⟨rfl, hb⟩
        have E1 := Lib.hid (ER.out.below hb)
        have HR1 := Lib.hid (HRr.out.below hb)
        clear hb HC ER HRr p0
        have p0 := cell_heap (E1.out.box (z := w.heap.size) (o := sdb b) (by simp)) (i := 0)
        simp only [List.getElem?_toArray, List.getElem?_cons_zero] at p0
        have HC := Lib.hid (named_any 0 ⟨by omega, by omega⟩ E1.out.cu E1.out.ok)
        rw [h2] at HC
        unfold Rd at HC
        go_wp2_with fail
        refine HC.out.mono ?_
        rintro e v2 ⟨rfl, hb⟩
        have E2 := Lib.hid (E1.out.below hb)
        have HR2 := Lib.hid (HR1.out.below hb)
        clear hb HC E1 HR1 p0
        have p0 := cell_heap (E2.out.box (z := w.heap.size) (o := sdb b) (by simp)) (i := 0)
        simp only [List.getElem?_toArray, List.getElem?_cons_zero] at p0
        clear h1 h2
        have HC := Lib.hid (HP.out v2 E2.out.cu)
        go_wp2_with fail
        refine HC.out.mono ?_
        rintro e w2 ⟨SG, rfl, hp1, hT1, hm1, ho1⟩
        have hob : (Value.slice Al n cl).ownBlock ≠ some b := fun e => by
          have := (E2.out.zn b (HO.out.1 b e)).1
          have := E2.out.hX b rfl
          omega
        have ek2 := E2.out.got hT1 hm1 ⟨HGG.out.ok, HGG.out.L⟩ ho1
        have hrow2 := HR2.out.of ho1 hob
        have ek3 := ek2.rowOf 0 1 (l := [SG]) rfl (by simp) (.cells #[.int .i64 SG.k, .string SG.g, .string SG.t, .int .i64 SG.a, .slice SG.A SG.kids.length SG.c] 30 (0, 0)) 30 rfl
        have hrow3 := hrow2.below (below1 w2 (.cells #[.int .i64 SG.k, .string SG.g, .string SG.t, .int .i64 SG.a, .slice SG.A SG.kids.length SG.c] 30 (0, 0)))
        have hlies := (tn_iff.1 (ek3.tn ⟨0, ⟨#[]⟩, ⟨#[]⟩, 0, some ⟨w2.heap.size, 0, none⟩, 1, [SG]⟩ (by simp))).2.1
        have E3' := Lib.hid (ek3.sub (bs' := [(w.heap.size, sdb b)]) (ts' := SG :: m) (by simp) (by simp only [List.mem_cons]; rintro T (h | h) <;> simp [h]))
        have HR3' := Lib.hid hrow3
        have HLI := Lib.hid hlies
        clear ek2 hrow2 ek3 hrow3 hlies hT1 hm1 ho1 p0 HC E2 HR2 hob HP
        go_wp2_with (at_builtin; refine Stay.out ?_)
        refine Stay.mk ?_
        refine wpList_append_n (by rfl) (.tmp 11) (.tmp 14) (by rfl) (w2.alloc (.cells #[.int .i64 SG.k, .string SG.g, .string SG.t, .int .i64 SG.a, .slice SG.A SG.kids.length SG.c] 30 (0, 0))) (.slice Al n cl) m [SG] (some ⟨w2.heap.size, 0, none⟩) 1 1 _ rfl (by rfl) (by rfl) HLI.out (by simp) HR3'.out (by have := HO.out.2.2.1; have := HNM.out.2.2; simp; omega) ?_
        intro A1 c1 w4 hrow4 hg4 hat4
        obtain ⟨zs4, ek4, hz4, ho4, hn4'⟩ := E3'.out.grows hg4 (own' := (Value.slice A1 (m ++ [SG]).length c1).ownBlock) (fun q hq => .inl (HO.out.1 q hq)) HO.out.2.1 hat4 hrow4.lt
        have hlen : (m ++ [SG]).length = n + 1 := by rw [List.length_append, HO.out.2.2.1]; rfl
        have hmap : lst sbg st q ((st C').1, (m ++ [SG]).map pl) = res := by rw [List.map_append, List.map_cons, List.map_nil, hp1]; exact HRES.out
        have ek5 := ek4.sub (bs' := [(w.heap.size, sdb b)]) (ts' := m ++ [SG]) (by simp) (by simp only [List.mem_append, List.mem_cons, List.not_mem_nil, or_false]; rintro T (h | h) <;> simp [h])
        rw [hlen] at hrow4 ho4 hn4'
        rw [hlen]
        have HI : Hid (LsI b A c w sbg st C res q (st C').1 (m ++ [SG]) (n + 1) A1 c1 zs4 w4) := Lib.hid ⟨ek5, hrow4, fun q hq => (ho4 q hq).resolve_right (fun hh => hh.2 hh.1), hn4', hlen, HNM.out.1, hmap, HNM.out.2.1, HGG.out.d.trans HO.out.2.2.2⟩
        have hn9 := HNM.out.2.2
        clear ek4 ek5 hrow4 hg4 hat4 hz4 ho4 hn4' hlen hmap E3' HR3' HLI HRES hp1
        go_wp2
        go_roundw
        case rel => exact ⟨q, (st C').1, m ++ [SG], n + 1, A1, c1, zs4, rfl, HI⟩
        case measure => simp [vlen]; omega
theorem statements_any {st : Cu → Cu × Tr} {D : Nat} (hS : PartF 73 b A c st D) (hG : GX st D) (hL : ∀ C : Cu, C.Ok → C.d ≤ 200 → D ≤ C.d → sbg C = true → (st C).1.left < C.left) : WhatF 50 b A c (sts st) D := (statementsW_any hS hG hL).v
end
end Go.Proofs.YtfmlcddakfbleaaGreatDoor
