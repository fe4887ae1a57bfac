/- The law CursorPlays: its own questions. -/
import Derived.Test.YtjnclchbklehgaaGreatDoorRefNew
import Derived.Test.YtjnclchbklehgaaGreatDoorTreeRefSame
import Derived.Test.YtjnclchbklehgaaGreatDoorTreeDoc
namespace Go.Proofs.YtjnclchbklehgaaGreatDoor
open Go.RowKit SignMath TreeMath

attribute [local go_sem] Oper.semAt_some

set_option maxHeartbeats 1600000 in
theorem is8_any (T U : Tr) (w : World) (hw : wt T ≤ 5000) (hv : wt U ≤ 5000) (hT : Tn (lo w.heap.size) w T) (hU : Tn (lo w.heap.size) w U) :
    Calls Tryz.prog 14 #[nv T, nv U] w (AlV T U w) := by
  have hB2 := below2 w (nbx T) (rbx U)
  have hT2 := (hT.below hB2).more hB2.size
  have hU2 := (hU.below hB2).more hB2.size
  have HD := Lib.hid (doc_any T 5000 ((w.alloc (nbx T)).alloc (rbx U)) (by omega) (by omega) (Szd.of hw) hT2)
  have HS : Hid (∀ (V : Tr) W, pl V = pl T → Below ((w.alloc (nbx T)).alloc (rbx U)).heap.size ((w.alloc (nbx T)).alloc (rbx U)) W → Tn (lo W.heap.size) W V → Calls Tryz.prog 47 #[nv V, nv U] W (AlV T U W)) :=
    Lib.hid fun V W hp hb hV => by
      have h1 := rsame_any V U W (by rw [(same_of hp).2.2.1]; exact hw) hv hV ((hU2.below hb).more hb.size)
      have h2 : sm V U = sm T U := by
        rw [Bool.eq_iff_iff, sm_iff, sm_iff, hp]
      unfold AlV at h1 ⊢
      rwa [h2] at h1
  have HB := Lib.hid hB2
  have HW := Lib.hid hw
  unfold AlV at HS ⊢
  obtain ⟨S, hS⟩ : ∃ S, sm T U = S := ⟨_, rfl⟩
  rw [hS] at HS ⊢
  clear hB2 hT2 hU2 hw hv hT hU hS
  go_enter Tryz.func14, Tryz.ntmps14
  go_wp2_with fail
  refine HD.out.mono ?_
  rintro r w1 ⟨V, l, rfl, hb1, hV, l1, l2, l3, l4⟩
  obtain ⟨hl, hp⟩ := l3 (by have := HW.out; omega)
  have hl0 : 0 ≤ l := by have := HW.out; omega
  have hb2 : Below ((w.alloc (nbx T)).alloc (rbx U)).heap.size ((w.alloc (nbx T)).alloc (rbx U)) (w1.alloc (rbx V)) := hb1.trans ((below1 w1 _).mono hb1.size)
  have hd1 := box5 hb1
  rw [World.size_alloc] at hd1
  have hsz : w.heap.size + 2 ≤ w1.heap.size := by have := hb1.size; simpa using this
  have HC := Lib.hid (HS.out V (w1.alloc (rbx V)) hp hb2 ((hV.all.below (below1 w1 _)).more (by simp)))
  have HB2 := Lib.hid hb2
  clear hp hl l1 l2 l3 l4 hb1 hb2 hV HD HS
  go_wp2_with fail
  refine HC.out.mono ?_
  rintro e w2 ⟨rfl, hb3⟩
  go_wp2
  go_ret
  exact ⟨rfl, HB.out.trans ((HB2.out.trans (hb3.mono HB2.out.size)).mono HB.out.size)⟩

theorem num_nil (w : World) : Calls Tryz.prog 11 #[.nilIface] w fun e w' => e = .returned (.int .i64 0) ∧ w = w' := by
  go_enter Tryz.func11, Tryz.ntmps11
  go_wp2
  go_ret
  exact ⟨rfl, rfl⟩
/-- an act: what, a number, how far ahead, a text -/
structure Ac where
  k : Int
  n : Int
  a : Int
  t : ByteArray
abbrev acv (x : Ac) : Value := .agg #[.int .i64 x.k, .int .i64 x.n, .int .i64 x.a, .string x.t]
abbrev acb (x : Ac) : Obj := .cells #[.int .i64 x.k, .int .i64 x.n, .int .i64 x.a, .string x.t] 36 (0, 0)
theorem heap4 {W : World} {b : Nat} {x : Ac} (h : W.heap[b]? = some (acb x)) : W.cell? ⟨b, 0, none⟩ = some (.int .i64 x.k) ∧ W.cell? ⟨b, 1, none⟩ = some (.int .i64 x.n) ∧ W.cell? ⟨b, 2, none⟩ = some (.int .i64 x.a) ∧ W.cell? ⟨b, 3, none⟩ = some (.string x.t) := ⟨cell_heap h, cell_heap h, cell_heap h, cell_heap h⟩
/-- what stands holds -/
structure Sd (W : World) (b : Nat) (A : Option Addr) (c : Nat) (A' : Option Addr) (c' : Nat) (C : Cu) (x : Ac) (w : World) : Prop where
  low : Below W.heap.size W w
  cm : CuM b A c C w
  mb : w.heap[W.heap.size]? = some (rcb C A' c')
  ab : w.heap[W.heap.size + 1]? = some (acb x)
  rc : RcR C A' w
theorem Sd.step {W w w' : World} {b c c' : Nat} {A A' : Option Addr} {C : Cu} {x : Ac} (h : Sd W b A c A' c' C x w) (hb : Below w.heap.size w w') : Sd W b A c A' c' C x w' := by
  have k : ∀ {b : Nat} {o : Obj}, w.heap[b]? = some o → w'.heap[b]? = some o := fun h => (hb.block _ (Array.getElem?_eq_some_iff.1 h).1).trans h
  exact ⟨h.low.trans (hb.mono h.low.size), h.cm.below hb, k h.mb, k h.ab, rc_after h.rc hb⟩

set_option maxRecDepth 100000 in
set_option maxHeartbeats 4000000 in
theorem stands_zero {W : World} {b c c' : Nat} {A A' : Option Addr} {C : Cu} (x : Ac) (ha : rng x.a) (hm : CuM b A c C W) (hr : RcR C A' W) (hk : C.Ok) (hf : C.f = 0) : Calls Tryz.prog 23 #[.pointer (some ⟨b, 0, none⟩), rcv C A' c', acv x] W (Rd W (.bool true)) := by
  have hB := (below1 W (rcb C A' c')).alloc (by simp) (acb x)
  have h0 : Sd W b A c A' c' C x ((W.alloc (rcb C A' c')).alloc (acb x)) := ⟨hB, hm.below hB, (Below.heap_alloc _ _ _ (by simp)).trans (heap_alloc_new W _), by have := heap_alloc_new (W.alloc (rcb C A' c')) (acb x); rwa [World.size_alloc] at this, rc_after hr hB⟩
  have HPK : Hid (∀ w, CuM b A c C w → Calls Tryz.prog 29 #[.pointer (some ⟨b, 0, none⟩), .int .i64 x.a] w (Rd w (.tuple #[.int .i64 (C.pk x.a).1, .string (C.pk x.a).2]))) := Lib.hid fun w h => peek_any x.a ha h hk
  have HPR : Hid (∀ w, RcR C A' w → Calls Tryz.prog 30 #[rcv C A' c', .int .i64 x.a] w (Rd w (.tuple #[.int .i64 (C.pk x.a).1, .string (C.pk x.a).2]))) := Lib.hid fun w h => rpeek_any x.a h hk
  have HI : Hid (∀ w, CuM b A c C w → Calls Tryz.prog 48 #[.pointer (some ⟨b, 0, none⟩), .int .i64 x.a, .string x.t] w (Rd w (.bool (C.isb x.a x.t)))) := Lib.hid fun w h => is_any x.a x.t ha h hk
  have HJ : Hid (∀ w, RcR C A' w → Calls Tryz.prog 49 #[rcv C A' c', .int .i64 x.a, .string x.t] w (Rd w (.bool (C.isb x.a x.t)))) := Lib.hid fun w h => ris_any x.a x.t h hk
  have HAT : Hid (∀ w, CuM b A c C w → Calls Tryz.prog 50 #[.pointer (some ⟨b, 0, none⟩)] w (Rd w (.int .i64 (C.at : Nat)))) := Lib.hid fun w h => at_any h hk
  have HAR : Hid (∀ w, RcR C A' w → Calls Tryz.prog 51 #[rcv C A' c'] w (Rd w (.int .i64 (C.at : Nat)))) := Lib.hid fun w h => rat_any h hk
  have HDP : Hid (∀ w, CuM b A c C w → Calls Tryz.prog 36 #[.pointer (some ⟨b, 0, none⟩)] w (Rd w (.int .i64 (C.d : Nat)))) := Lib.hid fun w h => deep_any h
  have HLF : Hid (∀ w, CuM b A c C w → Calls Tryz.prog 35 #[.pointer (some ⟨b, 0, none⟩)] w (Rd w (.int .i64 (C.left : Nat)))) := Lib.hid fun w h => left_any h hk
  have HLR : Hid (∀ w, Calls Tryz.prog 28 #[rcv C A' c'] w (Rd w (.int .i64 (C.left : Nat)))) := Lib.hid fun w => rleft_any hk
  have HEN : Hid (∀ w, CuM b A c C w → Calls Tryz.prog 52 #[.pointer (some ⟨b, 0, none⟩)] w (Rd w (.string C.en))) := Lib.hid fun w h => end_any h hk
  have HER : Hid (∀ w, RcR C A' w → Calls Tryz.prog 53 #[rcv C A' c'] w (Rd w (.string C.en))) := Lib.hid fun w h => rend_any h hk
  have HFL : Hid (∀ w, CuM b A c C w → Calls Tryz.prog 34 #[.pointer (some ⟨b, 0, none⟩)] w (Rd w (.tuple #[.int .i64 0, .nilIface]))) := Lib.hid fun w h => by have := failed_any h; unfold Cu.fl at this; rwa [if_pos hf] at this
  have HNM : Hid (∀ w, Calls Tryz.prog 11 #[.nilIface] w (Rd w (.int .i64 C.f))) := Lib.hid fun w => (num_nil w).mono fun e w' h => ⟨by rw [hf]; exact h.1, h.2 ▸ Below.refl _ _⟩
  have e1 : (C.f == 0) = true := by rw [beq_iff_eq]; exact hf
  have e2 : (C.f != 0) = false := by simp [bne, e1]
  unfold Rd at HPK HPR HI HJ HAT HAR HDP HLF HLR HEN HER HFL HNM ⊢
  generalize C.pk x.a = pk at HPK HPR
  obtain ⟨k1, k2⟩ := pk
  simp only at HPK HPR
  generalize C.isb x.a x.t = ib at HI HJ
  generalize C.at = qa at HAT HAR
  generalize C.left = ql at HLF HLR
  generalize C.en = qe at HEN HER
  have hi : (ib == ib) = true := by simp
  clear hm hr hk hf hB ha
  go_enter Tryz.func23, Tryz.ntmps23
  have a4 := heap4 h0.ab
  go_wp2_with fail
  refine (HPK.out _ h0.cm).mono ?_
  rintro e w1 ⟨rfl, hb⟩
  have h1 := h0.step hb
  clear hb h0 a4 HPK
  have a4 := heap4 h1.ab
  have m6 := heap6 h1.mb
  go_wp2_with fail
  refine (HPR.out _ h1.rc).mono ?_
  rintro e w2 ⟨rfl, hb⟩
  have h2 := h1.step hb
  clear hb h1 a4 m6 HPR
  go_wp2_with fail
  refine (HFL.out _ h2.cm).mono ?_
  rintro e w3 ⟨rfl, hb⟩
  have h3 := h2.step hb
  clear hb h2 HFL
  have m6 := heap6 h3.mb
  go_wp2
  rename_i K0 hK0
  refine wp_region_noPanic (wp_region_held (S := fun w' : World => Sd W b A c A' c' C x w') (by kernel_rfl) ?_)
  have h9 := h3.step (w' := w3.drew) ⟨rfl, rfl, rfl, Nat.le_refl _, fun _ _ => rfl⟩
  clear h3 m6
  show wpAnyH _ _ _ _ _ _ _ _ w3.drew
  generalize w3.drew = w9 at h9 ⊢
  refine wpAnyH_take_d (i := 0) (v := .int .i64 k1) 38 rfl rfl (by kernel_rfl) (by kernel_rfl) (by kernel_rfl) (fun _ _ _ h => h) (Or.inl ⟨by kernel_rfl, fun w' hS' => ?y0⟩) (h9) ?_
  case y0 => (clear hS'; go_simp)
  simp only [Act.put, List.setIfInBounds_toArray, List.set_cons_zero, List.set_cons_succ]
  refine wpAnyH_take_d (i := 1) (v := .int .i64 k1) 39 rfl rfl (by kernel_rfl) (by kernel_rfl) (by kernel_rfl) (fun _ _ _ h => h) (Or.inl ⟨by kernel_rfl, fun w' hS' => ?y1⟩) (h9) ?_
  case y1 => (clear hS'; go_simp)
  simp only [Act.put, List.setIfInBounds_toArray, List.set_cons_zero, List.set_cons_succ]
  refine wpAnyH_take_d (i := 2) (v := .bool true) 40 rfl rfl (by kernel_rfl) (by kernel_rfl) (by kernel_rfl) (fun _ _ _ h => h) (Or.inl ⟨by kernel_rfl, fun w' hS' => ?y2⟩) (h9) ?_
  case y2 => (clear hS'; go_simp)
  simp only [Act.put, List.setIfInBounds_toArray, List.set_cons_zero, List.set_cons_succ]
  refine wpAnyH_take_d (i := 3) (v := .bool true) 41 rfl rfl (by kernel_rfl) (by kernel_rfl) (by kernel_rfl) (fun _ _ _ h => h) (Or.inl ⟨by kernel_rfl, fun w' hS' => ?y3⟩) (h9) ?_
  case y3 => (clear hS'; go_simp)
  simp only [Act.put, List.setIfInBounds_toArray, List.set_cons_zero, List.set_cons_succ]
  refine wpAnyH_take_d (i := 4) (v := .string k2) 42 rfl rfl (by kernel_rfl) (by kernel_rfl) (by kernel_rfl) (fun _ _ _ h => h) (Or.inl ⟨by kernel_rfl, fun w' hS' => ?y4⟩) (h9) ?_
  case y4 => (clear hS'; go_simp)
  simp only [Act.put, List.setIfInBounds_toArray, List.set_cons_zero, List.set_cons_succ]
  refine wpAnyH_take_d (i := 5) (v := .string k2) 43 rfl rfl (by kernel_rfl) (by kernel_rfl) (by kernel_rfl) (fun _ _ _ h => h) (Or.inl ⟨by kernel_rfl, fun w' hS' => ?y5⟩) (h9) ?_
  case y5 => (clear hS'; go_simp)
  simp only [Act.put, List.setIfInBounds_toArray, List.set_cons_zero, List.set_cons_succ]
  refine wpAnyH_take_d (i := 6) (v := .bool true) 44 rfl rfl (by kernel_rfl) (by kernel_rfl) (by kernel_rfl) (fun _ _ _ h => h) (Or.inl ⟨by kernel_rfl, fun w' hS' => ?y6⟩) (h9) ?_
  case y6 => (clear hS'; go_simp)
  simp only [Act.put, List.setIfInBounds_toArray, List.set_cons_zero, List.set_cons_succ]
  refine wpAnyH_take_d (i := 7) (v := .bool true) 45 rfl rfl (by kernel_rfl) (by kernel_rfl) (by kernel_rfl) (fun _ _ _ h => h) (Or.inl ⟨by kernel_rfl, fun w' hS' => ?y7⟩) (h9) ?_
  case y7 => (clear hS'; go_simp)
  simp only [Act.put, List.setIfInBounds_toArray, List.set_cons_zero, List.set_cons_succ]
  refine wpAnyH_take_d (i := 8) (v := .bool true) 46 rfl rfl (by kernel_rfl) (by kernel_rfl) (by kernel_rfl) (fun _ _ _ h => h) (Or.inl ⟨by kernel_rfl, fun w' hS' => ?y8⟩) (h9) ?_
  case y8 => (clear hS'; go_simp)
  simp only [Act.put, List.setIfInBounds_toArray, List.set_cons_zero, List.set_cons_succ]
  refine wpAnyH_take_d (i := 9) (v := .pointer (some ⟨b, 0, none⟩)) 47 rfl rfl (by kernel_rfl) (by kernel_rfl) (by kernel_rfl) (fun _ _ _ h => h) (Or.inl ⟨by kernel_rfl, fun w' hS' => ?y9⟩) (h9) ?_
  case y9 => (clear hS'; go_simp)
  simp only [Act.put, List.setIfInBounds_toArray, List.set_cons_zero, List.set_cons_succ]
  refine wpAnyH_take_d (i := 10) (v := .pointer (some ⟨W.heap.size + 1, 2, none⟩)) 48 rfl rfl (by kernel_rfl) (by kernel_rfl) (by kernel_rfl) (fun _ _ _ h => h) (Or.inl ⟨by kernel_rfl, fun w' hS' => ?y10⟩) (h9) ?_
  case y10 => (clear hS'; go_simp)
  simp only [Act.put, List.setIfInBounds_toArray, List.set_cons_zero, List.set_cons_succ]
  refine wpAnyH_take_d (i := 11) (v := .int .i64 x.a) 49 rfl rfl (by kernel_rfl) (by kernel_rfl) (by kernel_rfl) (fun _ _ _ h => h) (Or.inl ⟨by kernel_rfl, fun w' hS' => ?y11⟩) (h9) ?_
  case y11 => (obtain ⟨s0, s1, s2, s3⟩ := heap4 hS'.ab; clear hS'; go_simp)
  simp only [Act.put, List.setIfInBounds_toArray, List.set_cons_zero, List.set_cons_succ]
  refine wpAnyH_take_d (i := 12) (v := .pointer (some ⟨W.heap.size + 1, 3, none⟩)) 50 rfl rfl (by kernel_rfl) (by kernel_rfl) (by kernel_rfl) (fun _ _ _ h => h) (Or.inl ⟨by kernel_rfl, fun w' hS' => ?y12⟩) (h9) ?_
  case y12 => (clear hS'; go_simp)
  simp only [Act.put, List.setIfInBounds_toArray, List.set_cons_zero, List.set_cons_succ]
  refine wpAnyH_take_d (i := 13) (v := .string x.t) 51 rfl rfl (by kernel_rfl) (by kernel_rfl) (by kernel_rfl) (fun _ _ _ h => h) (Or.inl ⟨by kernel_rfl, fun w' hS' => ?y13⟩) (h9) ?_
  case y13 => (obtain ⟨s0, s1, s2, s3⟩ := heap4 hS'.ab; clear hS'; go_simp)
  simp only [Act.put, List.setIfInBounds_toArray, List.set_cons_zero, List.set_cons_succ]
  refine wpAnyH_take_d (i := 15) (v := rcv C A' c') 53 rfl rfl (by kernel_rfl) (by kernel_rfl) (by kernel_rfl) (fun _ _ _ h => h) (Or.inl ⟨by kernel_rfl, fun w' hS' => ?y15⟩) (h9) ?_
  case y15 => (obtain ⟨s0, s1, s2, s3, s4, s5⟩ := heap6 hS'.mb; clear hS'; go_simp)
  simp only [Act.put, List.setIfInBounds_toArray, List.set_cons_zero, List.set_cons_succ]
  refine wpAnyH_take_d (i := 16) (v := .pointer (some ⟨W.heap.size + 1, 2, none⟩)) 54 rfl rfl (by kernel_rfl) (by kernel_rfl) (by kernel_rfl) (fun _ _ _ h => h) (Or.inl ⟨by kernel_rfl, fun w' hS' => ?y16⟩) (h9) ?_
  case y16 => (clear hS'; go_simp)
  simp only [Act.put, List.setIfInBounds_toArray, List.set_cons_zero, List.set_cons_succ]
  refine wpAnyH_take_d (i := 17) (v := .int .i64 x.a) 55 rfl rfl (by kernel_rfl) (by kernel_rfl) (by kernel_rfl) (fun _ _ _ h => h) (Or.inl ⟨by kernel_rfl, fun w' hS' => ?y17⟩) (h9) ?_
  case y17 => (obtain ⟨s0, s1, s2, s3⟩ := heap4 hS'.ab; clear hS'; go_simp)
  simp only [Act.put, List.setIfInBounds_toArray, List.set_cons_zero, List.set_cons_succ]
  refine wpAnyH_take_d (i := 18) (v := .pointer (some ⟨W.heap.size + 1, 3, none⟩)) 56 rfl rfl (by kernel_rfl) (by kernel_rfl) (by kernel_rfl) (fun _ _ _ h => h) (Or.inl ⟨by kernel_rfl, fun w' hS' => ?y18⟩) (h9) ?_
  case y18 => (clear hS'; go_simp)
  simp only [Act.put, List.setIfInBounds_toArray, List.set_cons_zero, List.set_cons_succ]
  refine wpAnyH_take_d (i := 19) (v := .string x.t) 57 rfl rfl (by kernel_rfl) (by kernel_rfl) (by kernel_rfl) (fun _ _ _ h => h) (Or.inl ⟨by kernel_rfl, fun w' hS' => ?y19⟩) (h9) ?_
  case y19 => (obtain ⟨s0, s1, s2, s3⟩ := heap4 hS'.ab; clear hS'; go_simp)
  simp only [Act.put, List.setIfInBounds_toArray, List.set_cons_zero, List.set_cons_succ]
  refine wpAnyH_ready (rs := [14]) (by kernel_rfl) (by simp) ?_
  refine AllReadyH.cons rfl (fun K hK => ?_) AllReadyH.nil
  go_simp
  refine (HI.out w9 h9.cm).mono ?_
  rintro e w10 ⟨rfl, hb⟩
  have h10 := h9.step hb
  clear hb
  refine hK.out _ _ (h10) (fun _ => ?_)
  clear hK K
  try simp only [Act.put, List.setIfInBounds_toArray, List.set_cons_zero, List.set_cons_succ]
  refine wpAnyH_ready (rs := [20]) (by kernel_rfl) (by simp) ?_
  refine AllReadyH.cons rfl (fun K hK => ?_) AllReadyH.nil
  go_simp
  refine (HJ.out w10 h10.rc).mono ?_
  rintro e w11 ⟨rfl, hb⟩
  have h11 := h10.step hb
  clear hb
  refine hK.out _ _ (h11) (fun _ => ?_)
  clear hK K
  try simp only [Act.put, List.setIfInBounds_toArray, List.set_cons_zero, List.set_cons_succ]
  refine wpAnyH_take_d (i := 21) (v := .bool true) 59 rfl rfl (by kernel_rfl) (by kernel_rfl) (by kernel_rfl) (fun _ _ _ h => h) (Or.inl ⟨by kernel_rfl, fun w' hS' => ?y21⟩) (h11) ?_
  case y21 => (clear hS'; go_simp)
  simp only [Act.put, List.setIfInBounds_toArray, List.set_cons_zero, List.set_cons_succ]
  refine wpAnyH_take_d (i := 22) (v := .bool true) 60 rfl rfl (by kernel_rfl) (by kernel_rfl) (by kernel_rfl) (fun _ _ _ h => h) (Or.inl ⟨by kernel_rfl, fun w' hS' => ?y22⟩) (h11) ?_
  case y22 => (clear hS'; go_simp)
  simp only [Act.put, List.setIfInBounds_toArray, List.set_cons_zero, List.set_cons_succ]
  refine wpAnyH_take_d (i := 23) (v := .bool true) 61 rfl rfl (by kernel_rfl) (by kernel_rfl) (by kernel_rfl) (fun _ _ _ h => h) (Or.inl ⟨by kernel_rfl, fun w' hS' => ?y23⟩) (h11) ?_
  case y23 => (clear hS'; go_simp)
  simp only [Act.put, List.setIfInBounds_toArray, List.set_cons_zero, List.set_cons_succ]
  refine wpAnyH_take_d (i := 24) (v := .pointer (some ⟨b, 0, none⟩)) 62 rfl rfl (by kernel_rfl) (by kernel_rfl) (by kernel_rfl) (fun _ _ _ h => h) (Or.inl ⟨by kernel_rfl, fun w' hS' => ?y24⟩) (h11) ?_
  case y24 => (clear hS'; go_simp)
  simp only [Act.put, List.setIfInBounds_toArray, List.set_cons_zero, List.set_cons_succ]
  refine wpAnyH_take_d (i := 26) (v := rcv C A' c') 64 rfl rfl (by kernel_rfl) (by kernel_rfl) (by kernel_rfl) (fun _ _ _ h => h) (Or.inl ⟨by kernel_rfl, fun w' hS' => ?y26⟩) (h11) ?_
  case y26 => (obtain ⟨s0, s1, s2, s3, s4, s5⟩ := heap6 hS'.mb; clear hS'; go_simp)
  simp only [Act.put, List.setIfInBounds_toArray, List.set_cons_zero, List.set_cons_succ]
  refine wpAnyH_ready (rs := [25]) (by kernel_rfl) (by simp) ?_
  refine AllReadyH.cons rfl (fun K hK => ?_) AllReadyH.nil
  go_simp
  refine (HAT.out w11 h11.cm).mono ?_
  rintro e w12 ⟨rfl, hb⟩
  have h12 := h11.step hb
  clear hb
  refine hK.out _ _ (h12) (fun _ => ?_)
  clear hK K
  try simp only [Act.put, List.setIfInBounds_toArray, List.set_cons_zero, List.set_cons_succ]
  refine wpAnyH_ready (rs := [27]) (by kernel_rfl) (by simp) ?_
  refine AllReadyH.cons rfl (fun K hK => ?_) AllReadyH.nil
  go_simp
  refine (HAR.out w12 h12.rc).mono ?_
  rintro e w13 ⟨rfl, hb⟩
  have h13 := h12.step hb
  clear hb
  refine hK.out _ _ (h13) (fun _ => ?_)
  clear hK K
  try simp only [Act.put, List.setIfInBounds_toArray, List.set_cons_zero, List.set_cons_succ]
  refine wpAnyH_take_d (i := 28) (v := .bool true) 66 rfl rfl (by kernel_rfl) (by kernel_rfl) (by kernel_rfl) (fun _ _ _ h => h) (Or.inl ⟨by kernel_rfl, fun w' hS' => ?y28⟩) (h13) ?_
  case y28 => (clear hS'; go_simp)
  simp only [Act.put, List.setIfInBounds_toArray, List.set_cons_zero, List.set_cons_succ]
  refine wpAnyH_take_d (i := 29) (v := .bool true) 67 rfl rfl (by kernel_rfl) (by kernel_rfl) (by kernel_rfl) (fun _ _ _ h => h) (Or.inl ⟨by kernel_rfl, fun w' hS' => ?y29⟩) (h13) ?_
  case y29 => (clear hS'; go_simp)
  simp only [Act.put, List.setIfInBounds_toArray, List.set_cons_zero, List.set_cons_succ]
  refine wpAnyH_take_d (i := 30) (v := .bool true) 68 rfl rfl (by kernel_rfl) (by kernel_rfl) (by kernel_rfl) (fun _ _ _ h => h) (Or.inl ⟨by kernel_rfl, fun w' hS' => ?y30⟩) (h13) ?_
  case y30 => (clear hS'; go_simp)
  simp only [Act.put, List.setIfInBounds_toArray, List.set_cons_zero, List.set_cons_succ]
  refine wpAnyH_take_d (i := 31) (v := .pointer (some ⟨b, 0, none⟩)) 69 rfl rfl (by kernel_rfl) (by kernel_rfl) (by kernel_rfl) (fun _ _ _ h => h) (Or.inl ⟨by kernel_rfl, fun w' hS' => ?y31⟩) (h13) ?_
  case y31 => (clear hS'; go_simp)
  simp only [Act.put, List.setIfInBounds_toArray, List.set_cons_zero, List.set_cons_succ]
  refine wpAnyH_take_d (i := 33) (v := .pointer (some ⟨W.heap.size, 3, none⟩)) 71 rfl rfl (by kernel_rfl) (by kernel_rfl) (by kernel_rfl) (fun _ _ _ h => h) (Or.inl ⟨by kernel_rfl, fun w' hS' => ?y33⟩) (h13) ?_
  case y33 => (clear hS'; go_simp)
  simp only [Act.put, List.setIfInBounds_toArray, List.set_cons_zero, List.set_cons_succ]
  refine wpAnyH_take_d (i := 34) (v := .int .i64 (C.d : Nat)) 72 rfl rfl (by kernel_rfl) (by kernel_rfl) (by kernel_rfl) (fun _ _ _ h => h) (Or.inl ⟨by kernel_rfl, fun w' hS' => ?y34⟩) (h13) ?_
  case y34 => (obtain ⟨s0, s1, s2, s3, s4, s5⟩ := heap6 hS'.mb; clear hS'; go_simp)
  simp only [Act.put, List.setIfInBounds_toArray, List.set_cons_zero, List.set_cons_succ]
  refine wpAnyH_ready (rs := [32]) (by kernel_rfl) (by simp) ?_
  refine AllReadyH.cons rfl (fun K hK => ?_) AllReadyH.nil
  go_simp
  refine (HDP.out w13 h13.cm).mono ?_
  rintro e w14 ⟨rfl, hb⟩
  have h14 := h13.step hb
  clear hb
  refine hK.out _ _ (h14) (fun _ => ?_)
  clear hK K
  try simp only [Act.put, List.setIfInBounds_toArray, List.set_cons_zero, List.set_cons_succ]
  refine wpAnyH_take_d (i := 35) (v := .bool true) 73 rfl rfl (by kernel_rfl) (by kernel_rfl) (by kernel_rfl) (fun _ _ _ h => h) (Or.inl ⟨by kernel_rfl, fun w' hS' => ?y35⟩) (h14) ?_
  case y35 => (clear hS'; go_simp)
  simp only [Act.put, List.setIfInBounds_toArray, List.set_cons_zero, List.set_cons_succ]
  refine wpAnyH_take_d (i := 36) (v := .bool true) 74 rfl rfl (by kernel_rfl) (by kernel_rfl) (by kernel_rfl) (fun _ _ _ h => h) (Or.inl ⟨by kernel_rfl, fun w' hS' => ?y36⟩) (h14) ?_
  case y36 => (clear hS'; go_simp)
  simp only [Act.put, List.setIfInBounds_toArray, List.set_cons_zero, List.set_cons_succ]
  refine wpAnyH_take_d (i := 37) (v := .bool true) 75 rfl rfl (by kernel_rfl) (by kernel_rfl) (by kernel_rfl) (fun _ _ _ h => h) (Or.inl ⟨by kernel_rfl, fun w' hS' => ?y37⟩) (h14) ?_
  case y37 => (clear hS'; go_simp)
  simp only [Act.put, List.setIfInBounds_toArray, List.set_cons_zero, List.set_cons_succ]
  refine wpAnyH_take_d (i := 38) (v := .pointer (some ⟨b, 0, none⟩)) 76 rfl rfl (by kernel_rfl) (by kernel_rfl) (by kernel_rfl) (fun _ _ _ h => h) (Or.inl ⟨by kernel_rfl, fun w' hS' => ?y38⟩) (h14) ?_
  case y38 => (clear hS'; go_simp)
  simp only [Act.put, List.setIfInBounds_toArray, List.set_cons_zero, List.set_cons_succ]
  refine wpAnyH_take_d (i := 40) (v := rcv C A' c') 78 rfl rfl (by kernel_rfl) (by kernel_rfl) (by kernel_rfl) (fun _ _ _ h => h) (Or.inl ⟨by kernel_rfl, fun w' hS' => ?y40⟩) (h14) ?_
  case y40 => (obtain ⟨s0, s1, s2, s3, s4, s5⟩ := heap6 hS'.mb; clear hS'; go_simp)
  simp only [Act.put, List.setIfInBounds_toArray, List.set_cons_zero, List.set_cons_succ]
  refine wpAnyH_ready (rs := [39]) (by kernel_rfl) (by simp) ?_
  refine AllReadyH.cons rfl (fun K hK => ?_) AllReadyH.nil
  go_simp
  refine (HLF.out w14 h14.cm).mono ?_
  rintro e w15 ⟨rfl, hb⟩
  have h15 := h14.step hb
  clear hb
  refine hK.out _ _ (h15) (fun _ => ?_)
  clear hK K
  try simp only [Act.put, List.setIfInBounds_toArray, List.set_cons_zero, List.set_cons_succ]
  refine wpAnyH_ready (rs := [41]) (by kernel_rfl) (by simp) ?_
  refine AllReadyH.cons rfl (fun K hK => ?_) AllReadyH.nil
  go_simp
  refine (HLR.out w15).mono ?_
  rintro e w16 ⟨rfl, hb⟩
  have h16 := h15.step hb
  clear hb
  refine hK.out _ _ (h16) (fun _ => ?_)
  clear hK K
  try simp only [Act.put, List.setIfInBounds_toArray, List.set_cons_zero, List.set_cons_succ]
  refine wpAnyH_take_d (i := 42) (v := .bool true) 80 rfl rfl (by kernel_rfl) (by kernel_rfl) (by kernel_rfl) (fun _ _ _ h => h) (Or.inl ⟨by kernel_rfl, fun w' hS' => ?y42⟩) (h16) ?_
  case y42 => (clear hS'; go_simp)
  simp only [Act.put, List.setIfInBounds_toArray, List.set_cons_zero, List.set_cons_succ]
  refine wpAnyH_take_d (i := 43) (v := .bool true) 81 rfl rfl (by kernel_rfl) (by kernel_rfl) (by kernel_rfl) (fun _ _ _ h => h) (Or.inl ⟨by kernel_rfl, fun w' hS' => ?y43⟩) (h16) ?_
  case y43 => (clear hS'; go_simp)
  simp only [Act.put, List.setIfInBounds_toArray, List.set_cons_zero, List.set_cons_succ]
  refine wpAnyH_take_d (i := 44) (v := .bool true) 82 rfl rfl (by kernel_rfl) (by kernel_rfl) (by kernel_rfl) (fun _ _ _ h => h) (Or.inl ⟨by kernel_rfl, fun w' hS' => ?y44⟩) (h16) ?_
  case y44 => (clear hS'; go_simp)
  simp only [Act.put, List.setIfInBounds_toArray, List.set_cons_zero, List.set_cons_succ]
  refine wpAnyH_take_d (i := 45) (v := .pointer (some ⟨b, 0, none⟩)) 83 rfl rfl (by kernel_rfl) (by kernel_rfl) (by kernel_rfl) (fun _ _ _ h => h) (Or.inl ⟨by kernel_rfl, fun w' hS' => ?y45⟩) (h16) ?_
  case y45 => (clear hS'; go_simp)
  simp only [Act.put, List.setIfInBounds_toArray, List.set_cons_zero, List.set_cons_succ]
  refine wpAnyH_take_d (i := 47) (v := rcv C A' c') 85 rfl rfl (by kernel_rfl) (by kernel_rfl) (by kernel_rfl) (fun _ _ _ h => h) (Or.inl ⟨by kernel_rfl, fun w' hS' => ?y47⟩) (h16) ?_
  case y47 => (obtain ⟨s0, s1, s2, s3, s4, s5⟩ := heap6 hS'.mb; clear hS'; go_simp)
  simp only [Act.put, List.setIfInBounds_toArray, List.set_cons_zero, List.set_cons_succ]
  refine wpAnyH_ready (rs := [46]) (by kernel_rfl) (by simp) ?_
  refine AllReadyH.cons rfl (fun K hK => ?_) AllReadyH.nil
  go_simp
  refine (HEN.out w16 h16.cm).mono ?_
  rintro e w17 ⟨rfl, hb⟩
  have h17 := h16.step hb
  clear hb
  refine hK.out _ _ (h17) (fun _ => ?_)
  clear hK K
  try simp only [Act.put, List.setIfInBounds_toArray, List.set_cons_zero, List.set_cons_succ]
  refine wpAnyH_ready (rs := [48]) (by kernel_rfl) (by simp) ?_
  refine AllReadyH.cons rfl (fun K hK => ?_) AllReadyH.nil
  go_simp
  refine (HER.out w17 h17.rc).mono ?_
  rintro e w18 ⟨rfl, hb⟩
  have h18 := h17.step hb
  clear hb
  refine hK.out _ _ (h18) (fun _ => ?_)
  clear hK K
  try simp only [Act.put, List.setIfInBounds_toArray, List.set_cons_zero, List.set_cons_succ]
  refine wpAnyH_take_d (i := 49) (v := .bool true) 87 rfl rfl (by kernel_rfl) (by kernel_rfl) (by kernel_rfl) (fun _ _ _ h => h) (Or.inl ⟨by kernel_rfl, fun w' hS' => ?y49⟩) (h18) ?_
  case y49 => (clear hS'; go_simp)
  simp only [Act.put, List.setIfInBounds_toArray, List.set_cons_zero, List.set_cons_succ]
  refine wpAnyH_take_d (i := 50) (v := .bool true) 88 rfl rfl (by kernel_rfl) (by kernel_rfl) (by kernel_rfl) (fun _ _ _ h => h) (Or.inl ⟨by kernel_rfl, fun w' hS' => ?y50⟩) (h18) ?_
  case y50 => (clear hS'; go_simp)
  simp only [Act.put, List.setIfInBounds_toArray, List.set_cons_zero, List.set_cons_succ]
  refine wpAnyH_take_d (i := 51) (v := .bool true) 89 rfl rfl (by kernel_rfl) (by kernel_rfl) (by kernel_rfl) (fun _ _ _ h => h) (Or.inl ⟨by kernel_rfl, fun w' hS' => ?y51⟩) (h18) ?_
  case y51 => (clear hS'; go_simp)
  simp only [Act.put, List.setIfInBounds_toArray, List.set_cons_zero, List.set_cons_succ]
  refine wpAnyH_take_d (i := 52) (v := .int .i64 0) 90 rfl rfl (by kernel_rfl) (by kernel_rfl) (by kernel_rfl) (fun _ _ _ h => h) (Or.inl ⟨by kernel_rfl, fun w' hS' => ?y52⟩) (h18) ?_
  case y52 => (clear hS'; go_simp)
  simp only [Act.put, List.setIfInBounds_toArray, List.set_cons_zero, List.set_cons_succ]
  refine wpAnyH_take_d (i := 53) (v := .int .i64 0) 91 rfl rfl (by kernel_rfl) (by kernel_rfl) (by kernel_rfl) (fun _ _ _ h => h) (Or.inl ⟨by kernel_rfl, fun w' hS' => ?y53⟩) (h18) ?_
  case y53 => (clear hS'; go_simp)
  simp only [Act.put, List.setIfInBounds_toArray, List.set_cons_zero, List.set_cons_succ]
  refine wpAnyH_take_d (i := 54) (v := .bool true) 92 rfl rfl (by kernel_rfl) (by kernel_rfl) (by kernel_rfl) (fun _ _ _ h => h) (Or.inl ⟨by kernel_rfl, fun w' hS' => ?y54⟩) (h18) ?_
  case y54 => (clear hS'; go_simp)
  simp only [Act.put, List.setIfInBounds_toArray, List.set_cons_zero, List.set_cons_succ]
  refine wpAnyH_take_d (i := 55) (v := .bool true) 93 rfl rfl (by kernel_rfl) (by kernel_rfl) (by kernel_rfl) (fun _ _ _ h => h) (Or.inl ⟨by kernel_rfl, fun w' hS' => ?y55⟩) (h18) ?_
  case y55 => (clear hS'; go_simp)
  simp only [Act.put, List.setIfInBounds_toArray, List.set_cons_zero, List.set_cons_succ]
  refine wpAnyH_take_d (i := 56) (v := .bool true) 94 rfl rfl (by kernel_rfl) (by kernel_rfl) (by kernel_rfl) (fun _ _ _ h => h) (Or.inl ⟨by kernel_rfl, fun w' hS' => ?y56⟩) (h18) ?_
  case y56 => (clear hS'; go_simp)
  simp only [Act.put, List.setIfInBounds_toArray, List.set_cons_zero, List.set_cons_succ]
  refine wpAnyH_take_d (i := 57) (v := .nilIface) 95 rfl rfl (by kernel_rfl) (by kernel_rfl) (by kernel_rfl) (fun _ _ _ h => h) (Or.inl ⟨by kernel_rfl, fun w' hS' => ?y57⟩) (h18) ?_
  case y57 => (clear hS'; go_simp)
  simp only [Act.put, List.setIfInBounds_toArray, List.set_cons_zero, List.set_cons_succ]
  refine wpAnyH_take_d (i := 59) (v := .pointer (some ⟨W.heap.size, 5, none⟩)) 97 rfl rfl (by kernel_rfl) (by kernel_rfl) (by kernel_rfl) (fun _ _ _ h => h) (Or.inl ⟨by kernel_rfl, fun w' hS' => ?y59⟩) (h18) ?_
  case y59 => (clear hS'; go_simp)
  simp only [Act.put, List.setIfInBounds_toArray, List.set_cons_zero, List.set_cons_succ]
  refine wpAnyH_take_d (i := 60) (v := .int .i64 C.f) 98 rfl rfl (by kernel_rfl) (by kernel_rfl) (by kernel_rfl) (fun _ _ _ h => h) (Or.inl ⟨by kernel_rfl, fun w' hS' => ?y60⟩) (h18) ?_
  case y60 => (obtain ⟨s0, s1, s2, s3, s4, s5⟩ := heap6 hS'.mb; clear hS'; go_simp)
  simp only [Act.put, List.setIfInBounds_toArray, List.set_cons_zero, List.set_cons_succ]
  refine wpAnyH_ready (rs := [58]) (by kernel_rfl) (by simp) ?_
  refine AllReadyH.cons rfl (fun K hK => ?_) AllReadyH.nil
  go_simp
  refine (HNM.out w18).mono ?_
  rintro e w19 ⟨rfl, hb⟩
  have h19 := h18.step hb
  clear hb
  refine hK.out _ _ (h19) (fun _ => ?_)
  clear hK K
  try simp only [Act.put, List.setIfInBounds_toArray, List.set_cons_zero, List.set_cons_succ]
  refine wpAnyH_take_d (i := 61) (v := .bool true) 99 rfl rfl (by kernel_rfl) (by kernel_rfl) (by kernel_rfl) (fun _ _ _ h => h) (Or.inl ⟨by kernel_rfl, fun w' hS' => ?y61⟩) (h19) ?_
  case y61 => (clear hS'; go_simp)
  simp only [Act.put, List.setIfInBounds_toArray, List.set_cons_zero, List.set_cons_succ]
  refine wpAnyH_take_d (i := 62) (v := .bool true) 100 rfl rfl (by kernel_rfl) (by kernel_rfl) (by kernel_rfl) (fun _ _ _ h => h) (Or.inl ⟨by kernel_rfl, fun w' hS' => ?y62⟩) (h19) ?_
  case y62 => (clear hS'; go_simp)
  simp only [Act.put, List.setIfInBounds_toArray, List.set_cons_zero, List.set_cons_succ]
  refine wpAnyH_take_d (i := 63) (v := .bool true) 6 rfl rfl (by kernel_rfl) (by kernel_rfl) (by kernel_rfl) (fun _ _ _ h => h) (Or.inl ⟨by kernel_rfl, fun w' hS' => ?y63⟩) (h19) ?_
  case y63 => (clear hS'; go_simp)
  simp only [Act.put, List.setIfInBounds_toArray, List.set_cons_zero, List.set_cons_succ]
  refine wpAnyH_done (by kernel_rfl) ?_ _
  refine hK0 _ _ ?_
  go_wp2
  go_ret
  exact ⟨rfl, h19.low⟩

set_option maxRecDepth 100000 in
set_option maxHeartbeats 4000000 in
theorem stands_fault {W : World} {b c c' : Nat} {A A' : Option Addr} {C : Cu} (x : Ac) (ha : rng x.a) (hm : CuM b A c C W) (hr : RcR C A' W) (hk : C.Ok) (hf : C.f ≠ 0) : Calls Tryz.prog 23 #[.pointer (some ⟨b, 0, none⟩), rcv C A' c', acv x] W (Rd W (.bool true)) := by
  have hB := (below1 W (rcb C A' c')).alloc (by simp) (acb x)
  have h0 : Sd W b A c A' c' C x ((W.alloc (rcb C A' c')).alloc (acb x)) := ⟨hB, hm.below hB, (Below.heap_alloc _ _ _ (by simp)).trans (heap_alloc_new W _), by have := heap_alloc_new (W.alloc (rcb C A' c')) (acb x); rwa [World.size_alloc] at this, rc_after hr hB⟩
  have HPK : Hid (∀ w, CuM b A c C w → Calls Tryz.prog 29 #[.pointer (some ⟨b, 0, none⟩), .int .i64 x.a] w (Rd w (.tuple #[.int .i64 (C.pk x.a).1, .string (C.pk x.a).2]))) := Lib.hid fun w h => peek_any x.a ha h hk
  have HPR : Hid (∀ w, RcR C A' w → Calls Tryz.prog 30 #[rcv C A' c', .int .i64 x.a] w (Rd w (.tuple #[.int .i64 (C.pk x.a).1, .string (C.pk x.a).2]))) := Lib.hid fun w h => rpeek_any x.a h hk
  have HI : Hid (∀ w, CuM b A c C w → Calls Tryz.prog 48 #[.pointer (some ⟨b, 0, none⟩), .int .i64 x.a, .string x.t] w (Rd w (.bool (C.isb x.a x.t)))) := Lib.hid fun w h => is_any x.a x.t ha h hk
  have HJ : Hid (∀ w, RcR C A' w → Calls Tryz.prog 49 #[rcv C A' c', .int .i64 x.a, .string x.t] w (Rd w (.bool (C.isb x.a x.t)))) := Lib.hid fun w h => ris_any x.a x.t h hk
  have HAT : Hid (∀ w, CuM b A c C w → Calls Tryz.prog 50 #[.pointer (some ⟨b, 0, none⟩)] w (Rd w (.int .i64 (C.at : Nat)))) := Lib.hid fun w h => at_any h hk
  have HAR : Hid (∀ w, RcR C A' w → Calls Tryz.prog 51 #[rcv C A' c'] w (Rd w (.int .i64 (C.at : Nat)))) := Lib.hid fun w h => rat_any h hk
  have HDP : Hid (∀ w, CuM b A c C w → Calls Tryz.prog 36 #[.pointer (some ⟨b, 0, none⟩)] w (Rd w (.int .i64 (C.d : Nat)))) := Lib.hid fun w h => deep_any h
  have HLF : Hid (∀ w, CuM b A c C w → Calls Tryz.prog 35 #[.pointer (some ⟨b, 0, none⟩)] w (Rd w (.int .i64 (C.left : Nat)))) := Lib.hid fun w h => left_any h hk
  have HLR : Hid (∀ w, Calls Tryz.prog 28 #[rcv C A' c'] w (Rd w (.int .i64 (C.left : Nat)))) := Lib.hid fun w => rleft_any hk
  have HEN : Hid (∀ w, CuM b A c C w → Calls Tryz.prog 52 #[.pointer (some ⟨b, 0, none⟩)] w (Rd w (.string C.en))) := Lib.hid fun w h => end_any h hk
  have HER : Hid (∀ w, RcR C A' w → Calls Tryz.prog 53 #[rcv C A' c'] w (Rd w (.string C.en))) := Lib.hid fun w h => rend_any h hk
  have HFL : Hid (∀ w, CuM b A c C w → Calls Tryz.prog 34 #[.pointer (some ⟨b, 0, none⟩)] w (Rd w (.tuple #[.int .i64 C.p, errn C.f]))) := Lib.hid fun w h => by have := failed_any h; unfold Cu.fl at this; rwa [if_neg hf] at this
  have HNM : Hid (∀ w, Calls Tryz.prog 11 #[errn C.f] w (Rd w (.int .i64 C.f))) := Lib.hid fun w => (num_errno C.f (by have := hk.f.1; omega) w).mono fun e w' h => ⟨h.1, h.2 ▸ Below.refl _ _⟩
  have e1 : (C.f == 0) = false := by rw [beq_eq_false_iff_ne]; exact hf
  have e2 : (C.f != 0) = true := by simp [bne, e1]
  unfold Rd at HPK HPR HI HJ HAT HAR HDP HLF HLR HEN HER HFL HNM ⊢
  generalize C.pk x.a = pk at HPK HPR
  obtain ⟨k1, k2⟩ := pk
  simp only at HPK HPR
  generalize C.isb x.a x.t = ib at HI HJ
  generalize C.at = qa at HAT HAR
  generalize C.left = ql at HLF HLR
  generalize C.en = qe at HEN HER
  have hi : (ib == ib) = true := by simp
  clear hm hr hk hf hB ha
  go_enter Tryz.func23, Tryz.ntmps23
  have a4 := heap4 h0.ab
  go_wp2_with fail
  refine (HPK.out _ h0.cm).mono ?_
  rintro e w1 ⟨rfl, hb⟩
  have h1 := h0.step hb
  clear hb h0 a4 HPK
  have a4 := heap4 h1.ab
  have m6 := heap6 h1.mb
  go_wp2_with fail
  refine (HPR.out _ h1.rc).mono ?_
  rintro e w2 ⟨rfl, hb⟩
  have h2 := h1.step hb
  clear hb h1 a4 m6 HPR
  go_wp2_with fail
  refine (HFL.out _ h2.cm).mono ?_
  rintro e w3 ⟨rfl, hb⟩
  have h3 := h2.step hb
  clear hb h2 HFL
  have m6 := heap6 h3.mb
  go_wp2
  rename_i K0 hK0
  refine wp_region_noPanic (wp_region_held (S := fun w' : World => Sd W b A c A' c' C x w') (by kernel_rfl) ?_)
  have h9 := h3.step (w' := w3.drew) ⟨rfl, rfl, rfl, Nat.le_refl _, fun _ _ => rfl⟩
  clear h3 m6
  show wpAnyH _ _ _ _ _ _ _ _ w3.drew
  generalize w3.drew = w9 at h9 ⊢
  refine wpAnyH_take_d (i := 0) (v := .int .i64 k1) 38 rfl rfl (by kernel_rfl) (by kernel_rfl) (by kernel_rfl) (fun _ _ _ h => h) (Or.inl ⟨by kernel_rfl, fun w' hS' => ?y0⟩) (h9) ?_
  case y0 => (clear hS'; go_simp)
  simp only [Act.put, List.setIfInBounds_toArray, List.set_cons_zero, List.set_cons_succ]
  refine wpAnyH_take_d (i := 1) (v := .int .i64 k1) 39 rfl rfl (by kernel_rfl) (by kernel_rfl) (by kernel_rfl) (fun _ _ _ h => h) (Or.inl ⟨by kernel_rfl, fun w' hS' => ?y1⟩) (h9) ?_
  case y1 => (clear hS'; go_simp)
  simp only [Act.put, List.setIfInBounds_toArray, List.set_cons_zero, List.set_cons_succ]
  refine wpAnyH_take_d (i := 2) (v := .bool true) 40 rfl rfl (by kernel_rfl) (by kernel_rfl) (by kernel_rfl) (fun _ _ _ h => h) (Or.inl ⟨by kernel_rfl, fun w' hS' => ?y2⟩) (h9) ?_
  case y2 => (clear hS'; go_simp)
  simp only [Act.put, List.setIfInBounds_toArray, List.set_cons_zero, List.set_cons_succ]
  refine wpAnyH_take_d (i := 3) (v := .bool true) 41 rfl rfl (by kernel_rfl) (by kernel_rfl) (by kernel_rfl) (fun _ _ _ h => h) (Or.inl ⟨by kernel_rfl, fun w' hS' => ?y3⟩) (h9) ?_
  case y3 => (clear hS'; go_simp)
  simp only [Act.put, List.setIfInBounds_toArray, List.set_cons_zero, List.set_cons_succ]
  refine wpAnyH_take_d (i := 4) (v := .string k2) 42 rfl rfl (by kernel_rfl) (by kernel_rfl) (by kernel_rfl) (fun _ _ _ h => h) (Or.inl ⟨by kernel_rfl, fun w' hS' => ?y4⟩) (h9) ?_
  case y4 => (clear hS'; go_simp)
  simp only [Act.put, List.setIfInBounds_toArray, List.set_cons_zero, List.set_cons_succ]
  refine wpAnyH_take_d (i := 5) (v := .string k2) 43 rfl rfl (by kernel_rfl) (by kernel_rfl) (by kernel_rfl) (fun _ _ _ h => h) (Or.inl ⟨by kernel_rfl, fun w' hS' => ?y5⟩) (h9) ?_
  case y5 => (clear hS'; go_simp)
  simp only [Act.put, List.setIfInBounds_toArray, List.set_cons_zero, List.set_cons_succ]
  refine wpAnyH_take_d (i := 6) (v := .bool true) 44 rfl rfl (by kernel_rfl) (by kernel_rfl) (by kernel_rfl) (fun _ _ _ h => h) (Or.inl ⟨by kernel_rfl, fun w' hS' => ?y6⟩) (h9) ?_
  case y6 => (clear hS'; go_simp)
  simp only [Act.put, List.setIfInBounds_toArray, List.set_cons_zero, List.set_cons_succ]
  refine wpAnyH_take_d (i := 7) (v := .bool true) 45 rfl rfl (by kernel_rfl) (by kernel_rfl) (by kernel_rfl) (fun _ _ _ h => h) (Or.inl ⟨by kernel_rfl, fun w' hS' => ?y7⟩) (h9) ?_
  case y7 => (clear hS'; go_simp)
  simp only [Act.put, List.setIfInBounds_toArray, List.set_cons_zero, List.set_cons_succ]
  refine wpAnyH_take_d (i := 8) (v := .bool true) 46 rfl rfl (by kernel_rfl) (by kernel_rfl) (by kernel_rfl) (fun _ _ _ h => h) (Or.inl ⟨by kernel_rfl, fun w' hS' => ?y8⟩) (h9) ?_
  case y8 => (clear hS'; go_simp)
  simp only [Act.put, List.setIfInBounds_toArray, List.set_cons_zero, List.set_cons_succ]
  refine wpAnyH_take_d (i := 9) (v := .pointer (some ⟨b, 0, none⟩)) 47 rfl rfl (by kernel_rfl) (by kernel_rfl) (by kernel_rfl) (fun _ _ _ h => h) (Or.inl ⟨by kernel_rfl, fun w' hS' => ?y9⟩) (h9) ?_
  case y9 => (clear hS'; go_simp)
  simp only [Act.put, List.setIfInBounds_toArray, List.set_cons_zero, List.set_cons_succ]
  refine wpAnyH_take_d (i := 10) (v := .pointer (some ⟨W.heap.size + 1, 2, none⟩)) 48 rfl rfl (by kernel_rfl) (by kernel_rfl) (by kernel_rfl) (fun _ _ _ h => h) (Or.inl ⟨by kernel_rfl, fun w' hS' => ?y10⟩) (h9) ?_
  case y10 => (clear hS'; go_simp)
  simp only [Act.put, List.setIfInBounds_toArray, List.set_cons_zero, List.set_cons_succ]
  refine wpAnyH_take_d (i := 11) (v := .int .i64 x.a) 49 rfl rfl (by kernel_rfl) (by kernel_rfl) (by kernel_rfl) (fun _ _ _ h => h) (Or.inl ⟨by kernel_rfl, fun w' hS' => ?y11⟩) (h9) ?_
  case y11 => (obtain ⟨s0, s1, s2, s3⟩ := heap4 hS'.ab; clear hS'; go_simp)
  simp only [Act.put, List.setIfInBounds_toArray, List.set_cons_zero, List.set_cons_succ]
  refine wpAnyH_take_d (i := 12) (v := .pointer (some ⟨W.heap.size + 1, 3, none⟩)) 50 rfl rfl (by kernel_rfl) (by kernel_rfl) (by kernel_rfl) (fun _ _ _ h => h) (Or.inl ⟨by kernel_rfl, fun w' hS' => ?y12⟩) (h9) ?_
  case y12 => (clear hS'; go_simp)
  simp only [Act.put, List.setIfInBounds_toArray, List.set_cons_zero, List.set_cons_succ]
  refine wpAnyH_take_d (i := 13) (v := .string x.t) 51 rfl rfl (by kernel_rfl) (by kernel_rfl) (by kernel_rfl) (fun _ _ _ h => h) (Or.inl ⟨by kernel_rfl, fun w' hS' => ?y13⟩) (h9) ?_
  case y13 => (obtain ⟨s0, s1, s2, s3⟩ := heap4 hS'.ab; clear hS'; go_simp)
  simp only [Act.put, List.setIfInBounds_toArray, List.set_cons_zero, List.set_cons_succ]
  refine wpAnyH_take_d (i := 15) (v := rcv C A' c') 53 rfl rfl (by kernel_rfl) (by kernel_rfl) (by kernel_rfl) (fun _ _ _ h => h) (Or.inl ⟨by kernel_rfl, fun w' hS' => ?y15⟩) (h9) ?_
  case y15 => (obtain ⟨s0, s1, s2, s3, s4, s5⟩ := heap6 hS'.mb; clear hS'; go_simp)
  simp only [Act.put, List.setIfInBounds_toArray, List.set_cons_zero, List.set_cons_succ]
  refine wpAnyH_take_d (i := 16) (v := .pointer (some ⟨W.heap.size + 1, 2, none⟩)) 54 rfl rfl (by kernel_rfl) (by kernel_rfl) (by kernel_rfl) (fun _ _ _ h => h) (Or.inl ⟨by kernel_rfl, fun w' hS' => ?y16⟩) (h9) ?_
  case y16 => (clear hS'; go_simp)
  simp only [Act.put, List.setIfInBounds_toArray, List.set_cons_zero, List.set_cons_succ]
  refine wpAnyH_take_d (i := 17) (v := .int .i64 x.a) 55 rfl rfl (by kernel_rfl) (by kernel_rfl) (by kernel_rfl) (fun _ _ _ h => h) (Or.inl ⟨by kernel_rfl, fun w' hS' => ?y17⟩) (h9) ?_
  case y17 => (obtain ⟨s0, s1, s2, s3⟩ := heap4 hS'.ab; clear hS'; go_simp)
  simp only [Act.put, List.setIfInBounds_toArray, List.set_cons_zero, List.set_cons_succ]
  refine wpAnyH_take_d (i := 18) (v := .pointer (some ⟨W.heap.size + 1, 3, none⟩)) 56 rfl rfl (by kernel_rfl) (by kernel_rfl) (by kernel_rfl) (fun _ _ _ h => h) (Or.inl ⟨by kernel_rfl, fun w' hS' => ?y18⟩) (h9) ?_
  case y18 => (clear hS'; go_simp)
  simp only [Act.put, List.setIfInBounds_toArray, List.set_cons_zero, List.set_cons_succ]
  refine wpAnyH_take_d (i := 19) (v := .string x.t) 57 rfl rfl (by kernel_rfl) (by kernel_rfl) (by kernel_rfl) (fun _ _ _ h => h) (Or.inl ⟨by kernel_rfl, fun w' hS' => ?y19⟩) (h9) ?_
  case y19 => (obtain ⟨s0, s1, s2, s3⟩ := heap4 hS'.ab; clear hS'; go_simp)
  simp only [Act.put, List.setIfInBounds_toArray, List.set_cons_zero, List.set_cons_succ]
  refine wpAnyH_ready (rs := [14]) (by kernel_rfl) (by simp) ?_
  refine AllReadyH.cons rfl (fun K hK => ?_) AllReadyH.nil
  go_simp
  refine (HI.out w9 h9.cm).mono ?_
  rintro e w10 ⟨rfl, hb⟩
  have h10 := h9.step hb
  clear hb
  refine hK.out _ _ (h10) (fun _ => ?_)
  clear hK K
  try simp only [Act.put, List.setIfInBounds_toArray, List.set_cons_zero, List.set_cons_succ]
  refine wpAnyH_ready (rs := [20]) (by kernel_rfl) (by simp) ?_
  refine AllReadyH.cons rfl (fun K hK => ?_) AllReadyH.nil
  go_simp
  refine (HJ.out w10 h10.rc).mono ?_
  rintro e w11 ⟨rfl, hb⟩
  have h11 := h10.step hb
  clear hb
  refine hK.out _ _ (h11) (fun _ => ?_)
  clear hK K
  try simp only [Act.put, List.setIfInBounds_toArray, List.set_cons_zero, List.set_cons_succ]
  refine wpAnyH_take_d (i := 21) (v := .bool true) 59 rfl rfl (by kernel_rfl) (by kernel_rfl) (by kernel_rfl) (fun _ _ _ h => h) (Or.inl ⟨by kernel_rfl, fun w' hS' => ?y21⟩) (h11) ?_
  case y21 => (clear hS'; go_simp)
  simp only [Act.put, List.setIfInBounds_toArray, List.set_cons_zero, List.set_cons_succ]
  refine wpAnyH_take_d (i := 22) (v := .bool true) 60 rfl rfl (by kernel_rfl) (by kernel_rfl) (by kernel_rfl) (fun _ _ _ h => h) (Or.inl ⟨by kernel_rfl, fun w' hS' => ?y22⟩) (h11) ?_
  case y22 => (clear hS'; go_simp)
  simp only [Act.put, List.setIfInBounds_toArray, List.set_cons_zero, List.set_cons_succ]
  refine wpAnyH_take_d (i := 23) (v := .bool true) 61 rfl rfl (by kernel_rfl) (by kernel_rfl) (by kernel_rfl) (fun _ _ _ h => h) (Or.inl ⟨by kernel_rfl, fun w' hS' => ?y23⟩) (h11) ?_
  case y23 => (clear hS'; go_simp)
  simp only [Act.put, List.setIfInBounds_toArray, List.set_cons_zero, List.set_cons_succ]
  refine wpAnyH_take_d (i := 24) (v := .pointer (some ⟨b, 0, none⟩)) 62 rfl rfl (by kernel_rfl) (by kernel_rfl) (by kernel_rfl) (fun _ _ _ h => h) (Or.inl ⟨by kernel_rfl, fun w' hS' => ?y24⟩) (h11) ?_
  case y24 => (clear hS'; go_simp)
  simp only [Act.put, List.setIfInBounds_toArray, List.set_cons_zero, List.set_cons_succ]
  refine wpAnyH_take_d (i := 26) (v := rcv C A' c') 64 rfl rfl (by kernel_rfl) (by kernel_rfl) (by kernel_rfl) (fun _ _ _ h => h) (Or.inl ⟨by kernel_rfl, fun w' hS' => ?y26⟩) (h11) ?_
  case y26 => (obtain ⟨s0, s1, s2, s3, s4, s5⟩ := heap6 hS'.mb; clear hS'; go_simp)
  simp only [Act.put, List.setIfInBounds_toArray, List.set_cons_zero, List.set_cons_succ]
  refine wpAnyH_ready (rs := [25]) (by kernel_rfl) (by simp) ?_
  refine AllReadyH.cons rfl (fun K hK => ?_) AllReadyH.nil
  go_simp
  refine (HAT.out w11 h11.cm).mono ?_
  rintro e w12 ⟨rfl, hb⟩
  have h12 := h11.step hb
  clear hb
  refine hK.out _ _ (h12) (fun _ => ?_)
  clear hK K
  try simp only [Act.put, List.setIfInBounds_toArray, List.set_cons_zero, List.set_cons_succ]
  refine wpAnyH_ready (rs := [27]) (by kernel_rfl) (by simp) ?_
  refine AllReadyH.cons rfl (fun K hK => ?_) AllReadyH.nil
  go_simp
  refine (HAR.out w12 h12.rc).mono ?_
  rintro e w13 ⟨rfl, hb⟩
  have h13 := h12.step hb
  clear hb
  refine hK.out _ _ (h13) (fun _ => ?_)
  clear hK K
  try simp only [Act.put, List.setIfInBounds_toArray, List.set_cons_zero, List.set_cons_succ]
  refine wpAnyH_take_d (i := 28) (v := .bool true) 66 rfl rfl (by kernel_rfl) (by kernel_rfl) (by kernel_rfl) (fun _ _ _ h => h) (Or.inl ⟨by kernel_rfl, fun w' hS' => ?y28⟩) (h13) ?_
  case y28 => (clear hS'; go_simp)
  simp only [Act.put, List.setIfInBounds_toArray, List.set_cons_zero, List.set_cons_succ]
  refine wpAnyH_take_d (i := 29) (v := .bool true) 67 rfl rfl (by kernel_rfl) (by kernel_rfl) (by kernel_rfl) (fun _ _ _ h => h) (Or.inl ⟨by kernel_rfl, fun w' hS' => ?y29⟩) (h13) ?_
  case y29 => (clear hS'; go_simp)
  simp only [Act.put, List.setIfInBounds_toArray, List.set_cons_zero, List.set_cons_succ]
  refine wpAnyH_take_d (i := 30) (v := .bool true) 68 rfl rfl (by kernel_rfl) (by kernel_rfl) (by kernel_rfl) (fun _ _ _ h => h) (Or.inl ⟨by kernel_rfl, fun w' hS' => ?y30⟩) (h13) ?_
  case y30 => (clear hS'; go_simp)
  simp only [Act.put, List.setIfInBounds_toArray, List.set_cons_zero, List.set_cons_succ]
  refine wpAnyH_take_d (i := 31) (v := .pointer (some ⟨b, 0, none⟩)) 69 rfl rfl (by kernel_rfl) (by kernel_rfl) (by kernel_rfl) (fun _ _ _ h => h) (Or.inl ⟨by kernel_rfl, fun w' hS' => ?y31⟩) (h13) ?_
  case y31 => (clear hS'; go_simp)
  simp only [Act.put, List.setIfInBounds_toArray, List.set_cons_zero, List.set_cons_succ]
  refine wpAnyH_take_d (i := 33) (v := .pointer (some ⟨W.heap.size, 3, none⟩)) 71 rfl rfl (by kernel_rfl) (by kernel_rfl) (by kernel_rfl) (fun _ _ _ h => h) (Or.inl ⟨by kernel_rfl, fun w' hS' => ?y33⟩) (h13) ?_
  case y33 => (clear hS'; go_simp)
  simp only [Act.put, List.setIfInBounds_toArray, List.set_cons_zero, List.set_cons_succ]
  refine wpAnyH_take_d (i := 34) (v := .int .i64 (C.d : Nat)) 72 rfl rfl (by kernel_rfl) (by kernel_rfl) (by kernel_rfl) (fun _ _ _ h => h) (Or.inl ⟨by kernel_rfl, fun w' hS' => ?y34⟩) (h13) ?_
  case y34 => (obtain ⟨s0, s1, s2, s3, s4, s5⟩ := heap6 hS'.mb; clear hS'; go_simp)
  simp only [Act.put, List.setIfInBounds_toArray, List.set_cons_zero, List.set_cons_succ]
  refine wpAnyH_ready (rs := [32]) (by kernel_rfl) (by simp) ?_
  refine AllReadyH.cons rfl (fun K hK => ?_) AllReadyH.nil
  go_simp
  refine (HDP.out w13 h13.cm).mono ?_
  rintro e w14 ⟨rfl, hb⟩
  have h14 := h13.step hb
  clear hb
  refine hK.out _ _ (h14) (fun _ => ?_)
  clear hK K
  try simp only [Act.put, List.setIfInBounds_toArray, List.set_cons_zero, List.set_cons_succ]
  refine wpAnyH_take_d (i := 35) (v := .bool true) 73 rfl rfl (by kernel_rfl) (by kernel_rfl) (by kernel_rfl) (fun _ _ _ h => h) (Or.inl ⟨by kernel_rfl, fun w' hS' => ?y35⟩) (h14) ?_
  case y35 => (clear hS'; go_simp)
  simp only [Act.put, List.setIfInBounds_toArray, List.set_cons_zero, List.set_cons_succ]
  refine wpAnyH_take_d (i := 36) (v := .bool true) 74 rfl rfl (by kernel_rfl) (by kernel_rfl) (by kernel_rfl) (fun _ _ _ h => h) (Or.inl ⟨by kernel_rfl, fun w' hS' => ?y36⟩) (h14) ?_
  case y36 => (clear hS'; go_simp)
  simp only [Act.put, List.setIfInBounds_toArray, List.set_cons_zero, List.set_cons_succ]
  refine wpAnyH_take_d (i := 37) (v := .bool true) 75 rfl rfl (by kernel_rfl) (by kernel_rfl) (by kernel_rfl) (fun _ _ _ h => h) (Or.inl ⟨by kernel_rfl, fun w' hS' => ?y37⟩) (h14) ?_
  case y37 => (clear hS'; go_simp)
  simp only [Act.put, List.setIfInBounds_toArray, List.set_cons_zero, List.set_cons_succ]
  refine wpAnyH_take_d (i := 38) (v := .pointer (some ⟨b, 0, none⟩)) 76 rfl rfl (by kernel_rfl) (by kernel_rfl) (by kernel_rfl) (fun _ _ _ h => h) (Or.inl ⟨by kernel_rfl, fun w' hS' => ?y38⟩) (h14) ?_
  case y38 => (clear hS'; go_simp)
  simp only [Act.put, List.setIfInBounds_toArray, List.set_cons_zero, List.set_cons_succ]
  refine wpAnyH_take_d (i := 40) (v := rcv C A' c') 78 rfl rfl (by kernel_rfl) (by kernel_rfl) (by kernel_rfl) (fun _ _ _ h => h) (Or.inl ⟨by kernel_rfl, fun w' hS' => ?y40⟩) (h14) ?_
  case y40 => (obtain ⟨s0, s1, s2, s3, s4, s5⟩ := heap6 hS'.mb; clear hS'; go_simp)
  simp only [Act.put, List.setIfInBounds_toArray, List.set_cons_zero, List.set_cons_succ]
  refine wpAnyH_ready (rs := [39]) (by kernel_rfl) (by simp) ?_
  refine AllReadyH.cons rfl (fun K hK => ?_) AllReadyH.nil
  go_simp
  refine (HLF.out w14 h14.cm).mono ?_
  rintro e w15 ⟨rfl, hb⟩
  have h15 := h14.step hb
  clear hb
  refine hK.out _ _ (h15) (fun _ => ?_)
  clear hK K
  try simp only [Act.put, List.setIfInBounds_toArray, List.set_cons_zero, List.set_cons_succ]
  refine wpAnyH_ready (rs := [41]) (by kernel_rfl) (by simp) ?_
  refine AllReadyH.cons rfl (fun K hK => ?_) AllReadyH.nil
  go_simp
  refine (HLR.out w15).mono ?_
  rintro e w16 ⟨rfl, hb⟩
  have h16 := h15.step hb
  clear hb
  refine hK.out _ _ (h16) (fun _ => ?_)
  clear hK K
  try simp only [Act.put, List.setIfInBounds_toArray, List.set_cons_zero, List.set_cons_succ]
  refine wpAnyH_take_d (i := 42) (v := .bool true) 80 rfl rfl (by kernel_rfl) (by kernel_rfl) (by kernel_rfl) (fun _ _ _ h => h) (Or.inl ⟨by kernel_rfl, fun w' hS' => ?y42⟩) (h16) ?_
  case y42 => (clear hS'; go_simp)
  simp only [Act.put, List.setIfInBounds_toArray, List.set_cons_zero, List.set_cons_succ]
  refine wpAnyH_take_d (i := 43) (v := .bool true) 81 rfl rfl (by kernel_rfl) (by kernel_rfl) (by kernel_rfl) (fun _ _ _ h => h) (Or.inl ⟨by kernel_rfl, fun w' hS' => ?y43⟩) (h16) ?_
  case y43 => (clear hS'; go_simp)
  simp only [Act.put, List.setIfInBounds_toArray, List.set_cons_zero, List.set_cons_succ]
  refine wpAnyH_take_d (i := 44) (v := .bool true) 82 rfl rfl (by kernel_rfl) (by kernel_rfl) (by kernel_rfl) (fun _ _ _ h => h) (Or.inl ⟨by kernel_rfl, fun w' hS' => ?y44⟩) (h16) ?_
  case y44 => (clear hS'; go_simp)
  simp only [Act.put, List.setIfInBounds_toArray, List.set_cons_zero, List.set_cons_succ]
  refine wpAnyH_take_d (i := 45) (v := .pointer (some ⟨b, 0, none⟩)) 83 rfl rfl (by kernel_rfl) (by kernel_rfl) (by kernel_rfl) (fun _ _ _ h => h) (Or.inl ⟨by kernel_rfl, fun w' hS' => ?y45⟩) (h16) ?_
  case y45 => (clear hS'; go_simp)
  simp only [Act.put, List.setIfInBounds_toArray, List.set_cons_zero, List.set_cons_succ]
  refine wpAnyH_take_d (i := 47) (v := rcv C A' c') 85 rfl rfl (by kernel_rfl) (by kernel_rfl) (by kernel_rfl) (fun _ _ _ h => h) (Or.inl ⟨by kernel_rfl, fun w' hS' => ?y47⟩) (h16) ?_
  case y47 => (obtain ⟨s0, s1, s2, s3, s4, s5⟩ := heap6 hS'.mb; clear hS'; go_simp)
  simp only [Act.put, List.setIfInBounds_toArray, List.set_cons_zero, List.set_cons_succ]
  refine wpAnyH_ready (rs := [46]) (by kernel_rfl) (by simp) ?_
  refine AllReadyH.cons rfl (fun K hK => ?_) AllReadyH.nil
  go_simp
  refine (HEN.out w16 h16.cm).mono ?_
  rintro e w17 ⟨rfl, hb⟩
  have h17 := h16.step hb
  clear hb
  refine hK.out _ _ (h17) (fun _ => ?_)
  clear hK K
  try simp only [Act.put, List.setIfInBounds_toArray, List.set_cons_zero, List.set_cons_succ]
  refine wpAnyH_ready (rs := [48]) (by kernel_rfl) (by simp) ?_
  refine AllReadyH.cons rfl (fun K hK => ?_) AllReadyH.nil
  go_simp
  refine (HER.out w17 h17.rc).mono ?_
  rintro e w18 ⟨rfl, hb⟩
  have h18 := h17.step hb
  clear hb
  refine hK.out _ _ (h18) (fun _ => ?_)
  clear hK K
  try simp only [Act.put, List.setIfInBounds_toArray, List.set_cons_zero, List.set_cons_succ]
  refine wpAnyH_take_d (i := 49) (v := .bool true) 87 rfl rfl (by kernel_rfl) (by kernel_rfl) (by kernel_rfl) (fun _ _ _ h => h) (Or.inl ⟨by kernel_rfl, fun w' hS' => ?y49⟩) (h18) ?_
  case y49 => (clear hS'; go_simp)
  simp only [Act.put, List.setIfInBounds_toArray, List.set_cons_zero, List.set_cons_succ]
  refine wpAnyH_take_d (i := 50) (v := .bool true) 88 rfl rfl (by kernel_rfl) (by kernel_rfl) (by kernel_rfl) (fun _ _ _ h => h) (Or.inl ⟨by kernel_rfl, fun w' hS' => ?y50⟩) (h18) ?_
  case y50 => (clear hS'; go_simp)
  simp only [Act.put, List.setIfInBounds_toArray, List.set_cons_zero, List.set_cons_succ]
  refine wpAnyH_take_d (i := 51) (v := .bool true) 89 rfl rfl (by kernel_rfl) (by kernel_rfl) (by kernel_rfl) (fun _ _ _ h => h) (Or.inl ⟨by kernel_rfl, fun w' hS' => ?y51⟩) (h18) ?_
  case y51 => (clear hS'; go_simp)
  simp only [Act.put, List.setIfInBounds_toArray, List.set_cons_zero, List.set_cons_succ]
  refine wpAnyH_take_d (i := 52) (v := .int .i64 C.p) 90 rfl rfl (by kernel_rfl) (by kernel_rfl) (by kernel_rfl) (fun _ _ _ h => h) (Or.inl ⟨by kernel_rfl, fun w' hS' => ?y52⟩) (h18) ?_
  case y52 => (clear hS'; go_simp)
  simp only [Act.put, List.setIfInBounds_toArray, List.set_cons_zero, List.set_cons_succ]
  refine wpAnyH_take_d (i := 53) (v := .int .i64 C.p) 91 rfl rfl (by kernel_rfl) (by kernel_rfl) (by kernel_rfl) (fun _ _ _ h => h) (Or.inl ⟨by kernel_rfl, fun w' hS' => ?y53⟩) (h18) ?_
  case y53 => (clear hS'; go_simp)
  simp only [Act.put, List.setIfInBounds_toArray, List.set_cons_zero, List.set_cons_succ]
  refine wpAnyH_take_d (i := 54) (v := .bool true) 92 rfl rfl (by kernel_rfl) (by kernel_rfl) (by kernel_rfl) (fun _ _ _ h => h) (Or.inl ⟨by kernel_rfl, fun w' hS' => ?y54⟩) (h18) ?_
  case y54 => (clear hS'; go_simp)
  simp only [Act.put, List.setIfInBounds_toArray, List.set_cons_zero, List.set_cons_succ]
  refine wpAnyH_take_d (i := 55) (v := .bool true) 93 rfl rfl (by kernel_rfl) (by kernel_rfl) (by kernel_rfl) (fun _ _ _ h => h) (Or.inl ⟨by kernel_rfl, fun w' hS' => ?y55⟩) (h18) ?_
  case y55 => (clear hS'; go_simp)
  simp only [Act.put, List.setIfInBounds_toArray, List.set_cons_zero, List.set_cons_succ]
  refine wpAnyH_take_d (i := 56) (v := .bool true) 94 rfl rfl (by kernel_rfl) (by kernel_rfl) (by kernel_rfl) (fun _ _ _ h => h) (Or.inl ⟨by kernel_rfl, fun w' hS' => ?y56⟩) (h18) ?_
  case y56 => (clear hS'; go_simp)
  simp only [Act.put, List.setIfInBounds_toArray, List.set_cons_zero, List.set_cons_succ]
  refine wpAnyH_take_d (i := 57) (v := errn C.f) 95 rfl rfl (by kernel_rfl) (by kernel_rfl) (by kernel_rfl) (fun _ _ _ h => h) (Or.inl ⟨by kernel_rfl, fun w' hS' => ?y57⟩) (h18) ?_
  case y57 => (clear hS'; go_simp)
  simp only [Act.put, List.setIfInBounds_toArray, List.set_cons_zero, List.set_cons_succ]
  refine wpAnyH_take_d (i := 59) (v := .pointer (some ⟨W.heap.size, 5, none⟩)) 97 rfl rfl (by kernel_rfl) (by kernel_rfl) (by kernel_rfl) (fun _ _ _ h => h) (Or.inl ⟨by kernel_rfl, fun w' hS' => ?y59⟩) (h18) ?_
  case y59 => (clear hS'; go_simp)
  simp only [Act.put, List.setIfInBounds_toArray, List.set_cons_zero, List.set_cons_succ]
  refine wpAnyH_take_d (i := 60) (v := .int .i64 C.f) 98 rfl rfl (by kernel_rfl) (by kernel_rfl) (by kernel_rfl) (fun _ _ _ h => h) (Or.inl ⟨by kernel_rfl, fun w' hS' => ?y60⟩) (h18) ?_
  case y60 => (obtain ⟨s0, s1, s2, s3, s4, s5⟩ := heap6 hS'.mb; clear hS'; go_simp)
  simp only [Act.put, List.setIfInBounds_toArray, List.set_cons_zero, List.set_cons_succ]
  refine wpAnyH_ready (rs := [58]) (by kernel_rfl) (by simp) ?_
  refine AllReadyH.cons rfl (fun K hK => ?_) AllReadyH.nil
  go_simp
  refine (HNM.out w18).mono ?_
  rintro e w19 ⟨rfl, hb⟩
  have h19 := h18.step hb
  clear hb
  refine hK.out _ _ (h19) (fun _ => ?_)
  clear hK K
  try simp only [Act.put, List.setIfInBounds_toArray, List.set_cons_zero, List.set_cons_succ]
  refine wpAnyH_take_d (i := 61) (v := .bool true) 99 rfl rfl (by kernel_rfl) (by kernel_rfl) (by kernel_rfl) (fun _ _ _ h => h) (Or.inl ⟨by kernel_rfl, fun w' hS' => ?y61⟩) (h19) ?_
  case y61 => (clear hS'; go_simp)
  simp only [Act.put, List.setIfInBounds_toArray, List.set_cons_zero, List.set_cons_succ]
  refine wpAnyH_take_d (i := 62) (v := .bool true) 100 rfl rfl (by kernel_rfl) (by kernel_rfl) (by kernel_rfl) (fun _ _ _ h => h) (Or.inl ⟨by kernel_rfl, fun w' hS' => ?y62⟩) (h19) ?_
  case y62 => (clear hS'; go_simp)
  simp only [Act.put, List.setIfInBounds_toArray, List.set_cons_zero, List.set_cons_succ]
  refine wpAnyH_take_d (i := 63) (v := .bool true) 6 rfl rfl (by kernel_rfl) (by kernel_rfl) (by kernel_rfl) (fun _ _ _ h => h) (Or.inl ⟨by kernel_rfl, fun w' hS' => ?y63⟩) (h19) ?_
  case y63 => (clear hS'; go_simp)
  simp only [Act.put, List.setIfInBounds_toArray, List.set_cons_zero, List.set_cons_succ]
  refine wpAnyH_done (by kernel_rfl) ?_ _
  refine hK0 _ _ ?_
  go_wp2
  go_ret
  exact ⟨rfl, h19.low⟩

theorem stands8_any {W : World} {b c c' : Nat} {A A' : Option Addr} {C : Cu} (x : Ac) (ha : rng x.a) (hm : CuM b A c C W) (hr : RcR C A' W) (hk : C.Ok) : Calls Tryz.prog 23 #[.pointer (some ⟨b, 0, none⟩), rcv C A' c', acv x] W (Rd W (.bool true)) := by
  by_cases hf : C.f = 0
  · exact stands_zero x ha hm hr hk hf
  · exact stands_fault x ha hm hr hk hf
end Go.Proofs.YtjnclchbklehgaaGreatDoor
