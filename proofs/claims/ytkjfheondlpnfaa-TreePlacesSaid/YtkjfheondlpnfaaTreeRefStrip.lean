/- The document's Strip of a right tree. -/
import Derived.Test.YtkjfheondlpnfaaTreeRefPlace
import Derived.Test.YtkjfheondlpnfaaTextStore
namespace Go.Proofs.Ytkjfheondlpnfaa
open Go.RowKit TreeMath

theorem stp_cg {T : Tr} (hr : rgt T = true) : (cg stp T ()).1 = ⟨T.k, ⟨#[]⟩, T.t, 0, none, 0, (cgs stp T.kids ()).1⟩ := by
  rw [cg_eq]
  by_cases hk : T.k = 1
  · rw [if_pos hk]
    simp only [stp, bare, tok, hk]
    rfl
  · obtain ⟨-, -, hg0, -, ha0⟩ := snd_other (rgt_node hr (ns_self _)) hk
    rw [if_neg hk, size_nil hg0, ha0]
/-- what holds ahead of each round -/
def RtI' (k : Int) (t : ByteArray) (kids : List Tr) (T : Tr) (W : Nat) (j : Nat) (m : List Tr) (A : Option Addr) (c : Nat) (wr : World) : Prop :=
  m.length = j ∧ W + 3 ≤ wr.heap.size ∧ wr.heap[W]? = some (rbx T) ∧ wr.heap[W + 1]? = some (.cells z5 29 (0, 0)) ∧
  wr.heap[W + 2]? = some (.cells #[.int .i64 k, .string ⟨#[]⟩, .string t, .int .i64 0, .slice A m.length c] 29 (0, 0)) ∧ NRow 29 (W + 3) (.slice A m.length c) m wr ∧
  m.map pl = (cgs stp (kids.take j) ()).1
/-- what a round reads of its tree -/
def RtS (y b o : Nat) (T x : Tr) (W : World) : Prop := W.cell? ⟨y, 4, none⟩ = some (.slice T.A T.kids.length T.c) ∧ At5 W b o x

set_option maxRecDepth 100000 in
set_option maxHeartbeats 4000000 in
theorem rstrip_any (T : Tr) : ∀ (w : World), rgt T = true → wt T ≤ 5000 → Tn (lo w.heap.size) w T →
    Calls Try.prog 28 #[nv T] w (CpV (cg stp T ()).1 w) := by
  induction T using Tr.ind with | _ k g t a A c kids ih =>
  intro w hr hw hT
  have hkl : kids.length < 5000 := by have := kids_le (T := ⟨k, g, t, a, A, c, kids⟩); simp only at this; omega
  have HT := Lib.hid hT
  have HI : Hid (∀ x ∈ kids, ∀ (W : World), Tn (lo W.heap.size) W x → Calls Try.prog 28 #[nv x] W (CpV (cg stp x ()).1 W)) := Lib.hid fun x hx W h =>
    ih x hx W (rgt_kid hr hx) (by have := wt_kid (T := ⟨k, g, t, a, A, c, kids⟩) hx; omega) h
  have HCG := Lib.hid (stp_cg hr)
  have hbw : Below w.heap.size w (((w.alloc (rbx ⟨k, g, t, a, A, c, kids⟩)).alloc (.cells z5 29)).alloc (.cells #[.int .i64 k, .string ⟨#[]⟩, .string t, .int .i64 0, .slice none 0 0] 29)) := ((below1 w _).alloc (by simp) _).alloc (by simp; omega) _
  have HI0 : Hid (RtI' k t kids ⟨k, g, t, a, A, c, kids⟩ w.heap.size 0 [] none 0 (((w.alloc (rbx ⟨k, g, t, a, A, c, kids⟩)).alloc (.cells z5 29)).alloc (.cells #[.int .i64 k, .string ⟨#[]⟩, .string t, .int .i64 0, .slice none 0 0] 29))) := Lib.hid (by
    refine ⟨rfl, by simp, ?_, ?_, ?_, NRow.nil _ _ _, rfl⟩
    · exact (Below.heap_alloc _ _ _ (by simp; omega)).trans ((Below.heap_alloc _ _ _ (by simp)).trans (heap_alloc_new w _))
    · exact (Below.heap_alloc _ _ _ (by simp)).trans (by have := heap_alloc_new (w.alloc (rbx ⟨k, g, t, a, A, c, kids⟩)) (.cells z5 29); simpa using this)
    · have := heap_alloc_new ((w.alloc (rbx ⟨k, g, t, a, A, c, kids⟩)).alloc (.cells z5 29)) (.cells #[.int .i64 k, .string ⟨#[]⟩, .string t, .int .i64 0, .slice none 0 0] 29)
      simpa using this)
  clear ih hr hw hT
  rw [HCG.out]
  go_enter Try.func28, Try.ntmps28
  go_wp2
  go_loopw [4] (fun i wr => ∃ (j : Nat) (m : List Tr) (A' : Option Addr) (c' : Nat), i = .int .i64 j ∧ j ≤ kids.length ∧ Below w.heap.size w wr ∧ Hid (RtI' k t kids ⟨k, g, t, a, A, c, kids⟩ w.heap.size j m A' c' wr)) (fun i _ => kids.length + 1 - (intOf i).toNat)
  case atStart => exact ⟨0, [], none, 0, rfl, Nat.zero_le _, hbw, HI0⟩
  case round =>
    obtain ⟨j, m, A', c', rfl, hj, hB, HD⟩ := hrel
    obtain ⟨hml, hsz, h0, h1, h2, hrow, y1⟩ := HD.out
    have HROW := Lib.hid hrow
    have Y1 := Lib.hid y1
    have H0 := Lib.hid h0
    have H1 := Lib.hid h1
    have H2 := Lib.hid h2
    have p4 : wr.cell? ⟨w.heap.size, 4, none⟩ = some (.slice A kids.length c) := cell_heap h0 (i := 4)
    have p0 : wr.cell? ⟨w.heap.size + 1 + 1, 0, none⟩ = some (.int .i64 k) := cell_heap h2 (i := 0)
    have p1 : wr.cell? ⟨w.heap.size + 1 + 1, 1, none⟩ = some (.string ⟨#[]⟩) := cell_heap h2 (i := 1)
    have p2 : wr.cell? ⟨w.heap.size + 1 + 1, 2, none⟩ = some (.string t) := cell_heap h2 (i := 2)
    have p3 : wr.cell? ⟨w.heap.size + 1 + 1, 3, none⟩ = some (.int .i64 0) := cell_heap h2 (i := 3)
    have p5 : wr.cell? ⟨w.heap.size + 1 + 1, 4, none⟩ = some (.slice A' m.length c') := cell_heap h2 (i := 4)
    clear hrow y1 h0 h1 h2 HI0 hbw
    have HML := Lib.hid hml
    clear hml
    by_cases hlt : j < kids.length
    · obtain ⟨e, he⟩ : ∃ e, kids[j]? = some e := ⟨_, List.getElem?_eq_getElem hlt⟩
      have hmem := List.mem_of_getElem? he
      have hzr : w.heap.size < wr.heap.size := by omega
      obtain ⟨b, off, rfl, hb, hcx⟩ := (HT.out.below hB).at_ he
      have z4 : (0 : Int) ≤ j := by omega
      have z5' : (j : Int) < kids.length := by omega
      have hblt : b < w.heap.size := hb
      have HTK : Hid ((cgs stp (kids.take (j + 1)) ()).1 = (cgs stp (kids.take j) ()).1 ++ [(cg stp e ()).1]) := Lib.hid (cgs_take stp () he).1
      have HSS : Hid (∀ W' : World, (∀ q, q < w.heap.size + 1 → W'.heap[q]? = wr.heap[q]?) → RtS w.heap.size b (off + j * 5) ⟨k, g, t, a, some ⟨b, off, none⟩, c, kids⟩ e W') :=
        Lib.hid fun W' h => ⟨(cell_of (h _ (by omega))).trans p4, hcx.keep fun i => cell_of (h _ (by omega))⟩
      go_wp2_with fail
      rename_i K0 hK0
      refine wp_region_held (S := RtS w.heap.size b (off + j * 5) ⟨k, g, t, a, some ⟨b, off, none⟩, c, kids⟩ e) (by kernel_rfl) ?_
      show wpAnyH _ _ _ _ _ _ _ _ wr.drew
      have hdb : ∀ q : Nat, wr.drew.heap[q]? = wr.heap[q]? := fun _ => rfl
      have hds : wr.drew.heap.size = wr.heap.size := rfl
      have hdB : Below wr.heap.size wr wr.drew := ⟨rfl, rfl, rfl, Nat.le_refl _, fun _ _ => rfl⟩
      generalize wr.drew = wd at hdb hds hdB ⊢
      have hS := HSS.out wd (fun q _ => hdb q)
      have hc2 : wd.cell? ⟨w.heap.size + 1 + 1, 4, none⟩ = some (.slice A' m.length c') := (cell_of (w := wr) (w' := wd) (hdb _)).trans p5
      have hBd : Below w.heap.size w wd := hB.trans (hdB.mono hB.size)
      have HC := Lib.hid (HI.out e hmem wd ((((HT.out.kid hmem).below hB).below (hdB.mono hB.size)).more hBd.size))
      have HDB := Lib.hid (And.intro hdb (And.intro hds hBd))
      have HBR := Lib.hid hdB
      clear he hmem hb hcx p0 p1 p2 p3 p4 p5 hdb hdB
      refine wpAnyH_take_d (i := 0) (v := .pointer (some ⟨w.heap.size + 1 + 1, 4, none⟩)) 17 rfl rfl (by kernel_rfl) (by kernel_rfl) (by kernel_rfl) (fun _ _ _ h => h) (Or.inl ⟨by kernel_rfl, fun w' hS' => ?y0⟩) hS ?_
      case y0 => (obtain ⟨s4, ⟨c0, c1, c2, c3, c4⟩⟩ := hS'; go_simp)
      simp only [Act.put, List.setIfInBounds_toArray, List.set_cons_zero, List.set_cons_succ]
      refine wpAnyH_take_d (i := 2) (v := .pointer (some ⟨w.heap.size, 4, none⟩)) 19 rfl rfl (by kernel_rfl) (by kernel_rfl) (by kernel_rfl) (fun _ _ _ h => h) (Or.inl ⟨by kernel_rfl, fun w' hS' => ?y2⟩) hS ?_
      case y2 => (obtain ⟨s4, ⟨c0, c1, c2, c3, c4⟩⟩ := hS'; go_simp)
      simp only [Act.put, List.setIfInBounds_toArray, List.set_cons_zero, List.set_cons_succ]
      refine wpAnyH_take_d (i := 3) (v := .slice (some ⟨b, off, none⟩) kids.length c) 20 rfl rfl (by kernel_rfl) (by kernel_rfl) (by kernel_rfl) (fun _ _ _ h => h) (Or.inl ⟨by kernel_rfl, fun w' hS' => ?y3⟩) hS ?_
      case y3 => (obtain ⟨s4, ⟨c0, c1, c2, c3, c4⟩⟩ := hS'; go_simp)
      simp only [Act.put, List.setIfInBounds_toArray, List.set_cons_zero, List.set_cons_succ]
      refine wpAnyH_take_d (i := 4) (v := .int .i64 (j : Nat)) 21 rfl rfl (by kernel_rfl) (by kernel_rfl) (by kernel_rfl) (fun _ _ _ h => h) (Or.inl ⟨by kernel_rfl, fun w' hS' => ?y4⟩) hS ?_
      case y4 => (obtain ⟨s4, ⟨c0, c1, c2, c3, c4⟩⟩ := hS'; go_simp)
      simp only [Act.put, List.setIfInBounds_toArray, List.set_cons_zero, List.set_cons_succ]
      refine wpAnyH_take_d (i := 5) (v := .pointer (some ⟨b, off + j * 5, none⟩)) 22 rfl rfl (by kernel_rfl) (by kernel_rfl) (by kernel_rfl) (fun _ _ _ h => h) (Or.inl ⟨by kernel_rfl, fun w' hS' => ?y5⟩) hS ?_
      case y5 => (obtain ⟨s4, ⟨c0, c1, c2, c3, c4⟩⟩ := hS'; go_simp)
      simp only [Act.put, List.setIfInBounds_toArray, List.set_cons_zero, List.set_cons_succ]
      refine wpAnyH_take_d (i := 6) (v := nv e) 23 rfl rfl (by kernel_rfl) (by kernel_rfl) (by kernel_rfl) (fun _ _ _ h => h) (Or.inl ⟨by kernel_rfl, fun w' hS' => ?y6⟩) hS ?_
      case y6 => (obtain ⟨s4, ⟨c0, c1, c2, c3, c4⟩⟩ := hS'; go_simp)
      simp only [Act.put, List.setIfInBounds_toArray, List.set_cons_zero, List.set_cons_succ]
      refine wpAnyH_ready (rs := [1, 7]) (by kernel_rfl) (by simp) ?_
      refine AllReadyH.cons rfl (fun K hK => ?_) (AllReadyH.cons rfl (fun K hK => ?_) AllReadyH.nil)
      · go_simp
        refine hK.out _ _ hS (fun _ => ?_)
        clear hK K
        try simp only [Act.put, List.setIfInBounds_toArray, List.set_cons_zero, List.set_cons_succ]
        refine wpAnyH_ready (rs := [7]) (by kernel_rfl) (by simp) ?_
        refine AllReadyH.cons rfl (fun K hK => ?_) AllReadyH.nil
        go_simp
        refine HC.out.mono ?_
        rintro r w6 ⟨U, rfl, hp6, hU, hb6⟩
        have hs6 : wr.heap.size ≤ w6.heap.size := by have := hb6.size; omega
        have old6 : ∀ q, q < wr.heap.size → w6.heap[q]? = wr.heap[q]? := fun q h => (hb6.block q (by omega)).trans (HDB.out.1 q)
        have hc6 : w6.cell? ⟨w.heap.size + 1 + 1, 4, none⟩ = some (.slice A' m.length c') := (cell_of (hb6.block _ (by omega))).trans hc2
        have hS6 := HSS.out w6 (fun q h => old6 q (by omega))
        refine hK.out _ _ hS6 (fun _ => ?_)
        clear hK K
        try simp only [Act.put, List.setIfInBounds_toArray, List.set_cons_zero, List.set_cons_succ]
        refine wpAnyH_ready (rs := [8]) (by kernel_rfl) (by simp) ?_
        refine AllReadyH.cons rfl (fun K hK => ?_) AllReadyH.nil
        go_simp
        have hS7 := HSS.out (w6.alloc (.cells (ncc U) 29)) (fun q h => (Below.heap_alloc _ _ _ (by omega)).trans (old6 q (by omega)))
        have hz2 : w.heap.size + 1 + 1 < w6.heap.size := by omega
        refine hK.out _ _ hS7 (fun _ => ?_)
        clear hK K
        try simp only [Act.put, List.setIfInBounds_toArray, List.set_cons_zero, List.set_cons_succ]
        refine wpAnyH_ready (rs := [9]) (by kernel_rfl) (by simp) ?_
        refine AllReadyH.cons rfl (fun K hK => ?_) AllReadyH.nil
        have hbV : Below wr.heap.size wr (w6.alloc (.cells (ncc U) 29)) := (HBR.out.trans (hb6.mono (by omega))).alloc (by omega) _
        have hxV : (w6.alloc (.cells (ncc U) 29)).heap[w6.heap.size]? = some (.cells (ncc U) 29 (0, 0)) := heap_alloc_new w6 _
        have hUV : Tn (nw wr.heap.size (w6.alloc (.cells (ncc U) 29))) (w6.alloc (.cells (ncc U) 29)) U := hU.keep (fun q i h => cell_of (Below.heap_alloc _ _ _ h.2)) (fun q h => ⟨by have := h.1; omega, by have := h.2; simp; omega⟩)
        have hrowV := HROW.out.below hbV
        have hUV2 := HROW.out.beside hbV.size (by omega) hUV
        refine step_append_node (by rfl) _ _ 27 29 (by rfl) Try.underlying27 info_rnode _ (w.heap.size + 3) (.slice A' m.length c') m U w6.heap.size (by rfl) (by rfl) hxV hrowV hUV2 (by have := HML.out; omega) (by simp; omega) ?_
        intro A2 c2 w9 hr9 hg9
        have own9 : ∀ q, q < w.heap.size + 3 → some q ≠ (Value.slice A' m.length c').ownBlock := fun q h e => by have := (hrowV.lt q e.symm).1; omega
        have all9 : ∀ q, q < w.heap.size + 3 → w9.heap[q]? = wr.heap[q]? := fun q h => (hg9.block _ (by simp; omega) (own9 _ h)).trans ((Below.heap_alloc _ _ _ (by omega)).trans (old6 _ (by omega)))
        have ho9 := (all9 (w.heap.size + 2) (by omega)).trans H2.out
        have hs9 : w.heap.size + 3 ≤ w9.heap.size := by have := hg9.size; simp at this; omega
        have hS9 := HSS.out w9 (fun q h => all9 q (by omega))
        have hS10 := HSS.out (w9.setCell ⟨w.heap.size + 1 + 1, 4, none⟩ (.slice A2 (m.length + 1) c2)) (fun q h => (Below.heap_setCell _ _ _ _ (by simp; omega)).trans (all9 q (by omega)))
        have c9 := cell_heap ho9 (i := 4)
        have f9 := frozen_heap ho9 (i := 4)
        simp only [List.getElem?_toArray, List.getElem?_cons_zero, List.getElem?_cons_succ] at c9
        refine hK.out _ _ hS9 (fun _ => ?_)
        clear hK K
        try simp only [Act.put, List.setIfInBounds_toArray]
        refine wpAnyH_take_d (i := 10) (v := .pointer (some ⟨w.heap.size + 1 + 1, 4, none⟩)) 27 rfl rfl (by kernel_rfl) (by kernel_rfl) (by kernel_rfl) (fun _ _ _ h => h) (Or.inl ⟨by kernel_rfl, fun w' hS' => ?y10⟩) hS9 ?_
        case y10 => (obtain ⟨s4, ⟨c0, c1, c2, c3, c4⟩⟩ := hS'; go_simp)
        simp only [Act.put]
        refine wpAnyH_ready (rs := [11]) (by kernel_rfl) (by simp) ?_
        refine AllReadyH.cons rfl (fun K hK => ?_) AllReadyH.nil
        go_simp
        refine hK.out _ _ hS10 (fun _ => ?_)
        clear hK K
        try simp only [Act.put, List.setIfInBounds_toArray, List.set_cons_zero, List.set_cons_succ]
        refine wpAnyH_done (by kernel_rfl) ?_ _
        refine hK0 _ _ ?_
        have hB9 : Below w.heap.size w (w9.setCell ⟨w.heap.size + 1 + 1, 4, none⟩ (.slice A2 (m ++ [U]).length c2)) := (below_append (hB.trans (hbV.mono (by omega))) hg9 hrowV (by omega) (by simp; omega)).setCell (by simp; omega) _
        have HD9 : Hid (RtI' k t kids ⟨k, g, t, a, some ⟨b, off, none⟩, c, kids⟩ w.heap.size (j + 1) (m ++ [U]) A2 c2 (w9.setCell ⟨w.heap.size + 1 + 1, 4, none⟩ (.slice A2 (m ++ [U]).length c2))) := Lib.hid (by
          refine ⟨by have := HML.out; simp; omega, by rw [World.setCell]; simp; omega, ?_, ?_, ?_, hr9.set (by simp) _, ?_⟩
          · exact (Below.heap_setCell _ _ _ _ (by simp; omega)).trans ((all9 _ (by omega)).trans H0.out)
          · exact (Below.heap_setCell _ _ _ _ (by simp)).trans ((all9 _ (by omega)).trans H1.out)
          · have := heap_set ho9 (i := 4) (.slice A2 (m ++ [U]).length c2)
            simpa using this
          · rw [HTK.out, List.map_append, Y1.out, ← hp6]; rfl)
        have HB9 := Lib.hid hB9
        have hlen : (m ++ [U]).length = m.length + 1 := by simp
        rw [hlen] at HB9 HD9
        clear hlen hbV hxV hUV hrowV hUV2 own9 all9 ho9 hS9 hS10 c9 f9 hB9 hr9 hg9
        go_wp2
        go_roundw
        case rel => exact ⟨j + 1, m ++ [U], A2, c2, by go_num, by omega, HB9.out, HD9⟩
        case measure => simp [intOf]; omega
      · go_simp
        refine HC.out.mono ?_
        rintro r w6 ⟨U, rfl, hp6, hU, hb6⟩
        have hs6 : wr.heap.size ≤ w6.heap.size := by have := hb6.size; omega
        have old6 : ∀ q, q < wr.heap.size → w6.heap[q]? = wr.heap[q]? := fun q h => (hb6.block q (by omega)).trans (HDB.out.1 q)
        have hc6 : w6.cell? ⟨w.heap.size + 1 + 1, 4, none⟩ = some (.slice A' m.length c') := (cell_of (hb6.block _ (by omega))).trans hc2
        have hS6 := HSS.out w6 (fun q h => old6 q (by omega))
        refine hK.out _ _ hS6 (fun _ => ?_)
        clear hK K
        try simp only [Act.put, List.setIfInBounds_toArray, List.set_cons_zero, List.set_cons_succ]
        refine wpAnyH_ready (rs := [1, 8]) (by kernel_rfl) (by simp) ?_
        refine AllReadyH.cons rfl (fun K hK => ?_) (AllReadyH.cons rfl (fun K hK => ?_) AllReadyH.nil)
        · go_simp
          refine hK.out _ _ hS6 (fun _ => ?_)
          clear hK K
          try simp only [Act.put, List.setIfInBounds_toArray, List.set_cons_zero, List.set_cons_succ]
          refine wpAnyH_ready (rs := [8]) (by kernel_rfl) (by simp) ?_
          refine AllReadyH.cons rfl (fun K hK => ?_) AllReadyH.nil
          go_simp
          have hS7 := HSS.out (w6.alloc (.cells (ncc U) 29)) (fun q h => (Below.heap_alloc _ _ _ (by omega)).trans (old6 q (by omega)))
          have hz2 : w.heap.size + 1 + 1 < w6.heap.size := by omega
          refine hK.out _ _ hS7 (fun _ => ?_)
          clear hK K
          try simp only [Act.put, List.setIfInBounds_toArray, List.set_cons_zero, List.set_cons_succ]
          refine wpAnyH_ready (rs := [9]) (by kernel_rfl) (by simp) ?_
          refine AllReadyH.cons rfl (fun K hK => ?_) AllReadyH.nil
          have hbV : Below wr.heap.size wr (w6.alloc (.cells (ncc U) 29)) := (HBR.out.trans (hb6.mono (by omega))).alloc (by omega) _
          have hxV : (w6.alloc (.cells (ncc U) 29)).heap[w6.heap.size]? = some (.cells (ncc U) 29 (0, 0)) := heap_alloc_new w6 _
          have hUV : Tn (nw wr.heap.size (w6.alloc (.cells (ncc U) 29))) (w6.alloc (.cells (ncc U) 29)) U := hU.keep (fun q i h => cell_of (Below.heap_alloc _ _ _ h.2)) (fun q h => ⟨by have := h.1; omega, by have := h.2; simp; omega⟩)
          have hrowV := HROW.out.below hbV
          have hUV2 := HROW.out.beside hbV.size (by omega) hUV
          refine step_append_node (by rfl) _ _ 27 29 (by rfl) Try.underlying27 info_rnode _ (w.heap.size + 3) (.slice A' m.length c') m U w6.heap.size (by rfl) (by rfl) hxV hrowV hUV2 (by have := HML.out; omega) (by simp; omega) ?_
          intro A2 c2 w9 hr9 hg9
          have own9 : ∀ q, q < w.heap.size + 3 → some q ≠ (Value.slice A' m.length c').ownBlock := fun q h e => by have := (hrowV.lt q e.symm).1; omega
          have all9 : ∀ q, q < w.heap.size + 3 → w9.heap[q]? = wr.heap[q]? := fun q h => (hg9.block _ (by simp; omega) (own9 _ h)).trans ((Below.heap_alloc _ _ _ (by omega)).trans (old6 _ (by omega)))
          have ho9 := (all9 (w.heap.size + 2) (by omega)).trans H2.out
          have hs9 : w.heap.size + 3 ≤ w9.heap.size := by have := hg9.size; simp at this; omega
          have hS9 := HSS.out w9 (fun q h => all9 q (by omega))
          have hS10 := HSS.out (w9.setCell ⟨w.heap.size + 1 + 1, 4, none⟩ (.slice A2 (m.length + 1) c2)) (fun q h => (Below.heap_setCell _ _ _ _ (by simp; omega)).trans (all9 q (by omega)))
          have c9 := cell_heap ho9 (i := 4)
          have f9 := frozen_heap ho9 (i := 4)
          simp only [List.getElem?_toArray, List.getElem?_cons_zero, List.getElem?_cons_succ] at c9
          refine hK.out _ _ hS9 (fun _ => ?_)
          clear hK K
          try simp only [Act.put, List.setIfInBounds_toArray]
          refine wpAnyH_take_d (i := 10) (v := .pointer (some ⟨w.heap.size + 1 + 1, 4, none⟩)) 27 rfl rfl (by kernel_rfl) (by kernel_rfl) (by kernel_rfl) (fun _ _ _ h => h) (Or.inl ⟨by kernel_rfl, fun w' hS' => ?y10⟩) hS9 ?_
          case y10 => (obtain ⟨s4, ⟨c0, c1, c2, c3, c4⟩⟩ := hS'; go_simp)
          simp only [Act.put]
          refine wpAnyH_ready (rs := [11]) (by kernel_rfl) (by simp) ?_
          refine AllReadyH.cons rfl (fun K hK => ?_) AllReadyH.nil
          go_simp
          refine hK.out _ _ hS10 (fun _ => ?_)
          clear hK K
          try simp only [Act.put, List.setIfInBounds_toArray, List.set_cons_zero, List.set_cons_succ]
          refine wpAnyH_done (by kernel_rfl) ?_ _
          refine hK0 _ _ ?_
          have hB9 : Below w.heap.size w (w9.setCell ⟨w.heap.size + 1 + 1, 4, none⟩ (.slice A2 (m ++ [U]).length c2)) := (below_append (hB.trans (hbV.mono (by omega))) hg9 hrowV (by omega) (by simp; omega)).setCell (by simp; omega) _
          have HD9 : Hid (RtI' k t kids ⟨k, g, t, a, some ⟨b, off, none⟩, c, kids⟩ w.heap.size (j + 1) (m ++ [U]) A2 c2 (w9.setCell ⟨w.heap.size + 1 + 1, 4, none⟩ (.slice A2 (m ++ [U]).length c2))) := Lib.hid (by
            refine ⟨by have := HML.out; simp; omega, by rw [World.setCell]; simp; omega, ?_, ?_, ?_, hr9.set (by simp) _, ?_⟩
            · exact (Below.heap_setCell _ _ _ _ (by simp; omega)).trans ((all9 _ (by omega)).trans H0.out)
            · exact (Below.heap_setCell _ _ _ _ (by simp)).trans ((all9 _ (by omega)).trans H1.out)
            · have := heap_set ho9 (i := 4) (.slice A2 (m ++ [U]).length c2)
              simpa using this
            · rw [HTK.out, List.map_append, Y1.out, ← hp6]; rfl)
          have HB9 := Lib.hid hB9
          have hlen : (m ++ [U]).length = m.length + 1 := by simp
          rw [hlen] at HB9 HD9
          clear hlen hbV hxV hUV hrowV hUV2 own9 all9 ho9 hS9 hS10 c9 f9 hB9 hr9 hg9
          go_wp2
          go_roundw
          case rel => exact ⟨j + 1, m ++ [U], A2, c2, by go_num, by omega, HB9.out, HD9⟩
          case measure => simp [intOf]; omega
        · go_simp
          have hS7 := HSS.out (w6.alloc (.cells (ncc U) 29)) (fun q h => (Below.heap_alloc _ _ _ (by omega)).trans (old6 q (by omega)))
          have hz2 : w.heap.size + 1 + 1 < w6.heap.size := by omega
          refine hK.out _ _ hS7 (fun _ => ?_)
          clear hK K
          try simp only [Act.put, List.setIfInBounds_toArray, List.set_cons_zero, List.set_cons_succ]
          refine wpAnyH_ready (rs := [1]) (by kernel_rfl) (by simp) ?_
          refine AllReadyH.cons rfl (fun K hK => ?_) AllReadyH.nil
          go_simp
          refine hK.out _ _ hS7 (fun _ => ?_)
          clear hK K
          try simp only [Act.put, List.setIfInBounds_toArray, List.set_cons_zero, List.set_cons_succ]
          refine wpAnyH_ready (rs := [9]) (by kernel_rfl) (by simp) ?_
          refine AllReadyH.cons rfl (fun K hK => ?_) AllReadyH.nil
          have hbV : Below wr.heap.size wr (w6.alloc (.cells (ncc U) 29)) := (HBR.out.trans (hb6.mono (by omega))).alloc (by omega) _
          have hxV : (w6.alloc (.cells (ncc U) 29)).heap[w6.heap.size]? = some (.cells (ncc U) 29 (0, 0)) := heap_alloc_new w6 _
          have hUV : Tn (nw wr.heap.size (w6.alloc (.cells (ncc U) 29))) (w6.alloc (.cells (ncc U) 29)) U := hU.keep (fun q i h => cell_of (Below.heap_alloc _ _ _ h.2)) (fun q h => ⟨by have := h.1; omega, by have := h.2; simp; omega⟩)
          have hrowV := HROW.out.below hbV
          have hUV2 := HROW.out.beside hbV.size (by omega) hUV
          refine step_append_node (by rfl) _ _ 27 29 (by rfl) Try.underlying27 info_rnode _ (w.heap.size + 3) (.slice A' m.length c') m U w6.heap.size (by rfl) (by rfl) hxV hrowV hUV2 (by have := HML.out; omega) (by simp; omega) ?_
          intro A2 c2 w9 hr9 hg9
          have own9 : ∀ q, q < w.heap.size + 3 → some q ≠ (Value.slice A' m.length c').ownBlock := fun q h e => by have := (hrowV.lt q e.symm).1; omega
          have all9 : ∀ q, q < w.heap.size + 3 → w9.heap[q]? = wr.heap[q]? := fun q h => (hg9.block _ (by simp; omega) (own9 _ h)).trans ((Below.heap_alloc _ _ _ (by omega)).trans (old6 _ (by omega)))
          have ho9 := (all9 (w.heap.size + 2) (by omega)).trans H2.out
          have hs9 : w.heap.size + 3 ≤ w9.heap.size := by have := hg9.size; simp at this; omega
          have hS9 := HSS.out w9 (fun q h => all9 q (by omega))
          have hS10 := HSS.out (w9.setCell ⟨w.heap.size + 1 + 1, 4, none⟩ (.slice A2 (m.length + 1) c2)) (fun q h => (Below.heap_setCell _ _ _ _ (by simp; omega)).trans (all9 q (by omega)))
          have c9 := cell_heap ho9 (i := 4)
          have f9 := frozen_heap ho9 (i := 4)
          simp only [List.getElem?_toArray, List.getElem?_cons_zero, List.getElem?_cons_succ] at c9
          refine hK.out _ _ hS9 (fun _ => ?_)
          clear hK K
          try simp only [Act.put, List.setIfInBounds_toArray]
          refine wpAnyH_take_d (i := 10) (v := .pointer (some ⟨w.heap.size + 1 + 1, 4, none⟩)) 27 rfl rfl (by kernel_rfl) (by kernel_rfl) (by kernel_rfl) (fun _ _ _ h => h) (Or.inl ⟨by kernel_rfl, fun w' hS' => ?y10⟩) hS9 ?_
          case y10 => (obtain ⟨s4, ⟨c0, c1, c2, c3, c4⟩⟩ := hS'; go_simp)
          simp only [Act.put]
          refine wpAnyH_ready (rs := [11]) (by kernel_rfl) (by simp) ?_
          refine AllReadyH.cons rfl (fun K hK => ?_) AllReadyH.nil
          go_simp
          refine hK.out _ _ hS10 (fun _ => ?_)
          clear hK K
          try simp only [Act.put, List.setIfInBounds_toArray, List.set_cons_zero, List.set_cons_succ]
          refine wpAnyH_done (by kernel_rfl) ?_ _
          refine hK0 _ _ ?_
          have hB9 : Below w.heap.size w (w9.setCell ⟨w.heap.size + 1 + 1, 4, none⟩ (.slice A2 (m ++ [U]).length c2)) := (below_append (hB.trans (hbV.mono (by omega))) hg9 hrowV (by omega) (by simp; omega)).setCell (by simp; omega) _
          have HD9 : Hid (RtI' k t kids ⟨k, g, t, a, some ⟨b, off, none⟩, c, kids⟩ w.heap.size (j + 1) (m ++ [U]) A2 c2 (w9.setCell ⟨w.heap.size + 1 + 1, 4, none⟩ (.slice A2 (m ++ [U]).length c2))) := Lib.hid (by
            refine ⟨by have := HML.out; simp; omega, by rw [World.setCell]; simp; omega, ?_, ?_, ?_, hr9.set (by simp) _, ?_⟩
            · exact (Below.heap_setCell _ _ _ _ (by simp; omega)).trans ((all9 _ (by omega)).trans H0.out)
            · exact (Below.heap_setCell _ _ _ _ (by simp)).trans ((all9 _ (by omega)).trans H1.out)
            · have := heap_set ho9 (i := 4) (.slice A2 (m ++ [U]).length c2)
              simpa using this
            · rw [HTK.out, List.map_append, Y1.out, ← hp6]; rfl)
          have HB9 := Lib.hid hB9
          have hlen : (m ++ [U]).length = m.length + 1 := by simp
          rw [hlen] at HB9 HD9
          clear hlen hbV hxV hUV hrowV hUV2 own9 all9 ho9 hS9 hS10 c9 f9 hB9 hr9 hg9
          go_wp2
          go_roundw
          case rel => exact ⟨j + 1, m ++ [U], A2, c2, by go_num, by omega, HB9.out, HD9⟩
          case measure => simp [intOf]; omega
    · obtain rfl : j = kids.length := by omega
      have f1 : ∀ i, wr.frozen? ⟨w.heap.size + 1, i, none⟩ = false := fun i => frozen_heap H1.out
      have r0 : wr.cell? ⟨w.heap.size + 1, 0, none⟩ = some (.int .i64 0) := cell_heap H1.out (i := 0)
      have r1 : wr.cell? ⟨w.heap.size + 1, 1, none⟩ = some (.string ⟨#[]⟩) := cell_heap H1.out (i := 1)
      have r2 : wr.cell? ⟨w.heap.size + 1, 2, none⟩ = some (.string ⟨#[]⟩) := cell_heap H1.out (i := 2)
      have r3 : wr.cell? ⟨w.heap.size + 1, 3, none⟩ = some (.int .i64 0) := cell_heap H1.out (i := 3)
      have r4 : wr.cell? ⟨w.heap.size + 1, 4, none⟩ = some (.slice none 0 0) := cell_heap H1.out (i := 4)
      have hb2 : Below w.heap.size w (set5 wr (w.heap.size + 1) ⟨k, ⟨#[]⟩, t, 0, A', c', m⟩) := below_set5 hB (by omega) _
      have hrow2 := HROW.out.keep (w' := set5 wr (w.heap.size + 1) ⟨k, ⟨#[]⟩, t, 0, A', c', m⟩) (by rw [set5_size]; exact Nat.le_refl _) (fun b hb => by rw [set5_other (by have := hb.1; omega)])
      have HB2 := Lib.hid hb2
      have HT2 := Lib.hid ((hrow2.tn (k := k) (g := ⟨#[]⟩) (t := t) (a := 0) (by unfold rng; omega)).keep (fun _ _ _ => rfl) (fun b (hb : nw _ _ b) => (⟨by have := hb.1; omega, hb.2⟩ : nw w.heap.size _ b)))
      have HS2 := Lib.hid (set5_self H1.out ⟨k, ⟨#[]⟩, t, 0, A', c', m⟩)
      clear hb2 hrow2
      go_wp2
      have g0 := cell_heap HS2.out (i := 0)
      have g1 := cell_heap HS2.out (i := 1)
      have g2 := cell_heap HS2.out (i := 2)
      have g3 := cell_heap HS2.out (i := 3)
      have g4 := cell_heap HS2.out (i := 4)
      simp only [List.getElem?_toArray, List.getElem?_cons_zero, List.getElem?_cons_succ] at g0 g1 g2 g3 g4
      refine bodyPost_ret (v := nv ⟨k, ⟨#[]⟩, t, 0, A', c', m⟩) (by simp [results, Try.results28, go_sem, g0, g1, g2, g3, g4]) rfl ?_
      have h3 := Y1.out
      rw [List.take_length] at h3
      refine ⟨⟨k, ⟨#[]⟩, t, 0, A', c', m⟩, rfl, ?_, HT2.out, HB2.out⟩
      rw [pl_eq]
      simp only [h3]
end Go.Proofs.Ytkjfheondlpnfaa
