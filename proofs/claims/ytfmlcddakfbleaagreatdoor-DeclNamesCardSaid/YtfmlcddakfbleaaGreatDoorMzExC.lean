/- expr's dotted, made, operand. -/
import Derived.Test.YtfmlcddakfbleaaGreatDoorMzExB
namespace Go.Proofs.YtfmlcddakfbleaaGreatDoor
open Go.RowKit SignMath TreeMath

theorem win_fst (k : Int) (o s : ByteArray) (what : Cu → Cu × List Tr) (ahead : List Tr) (C : Cu) : (win k o s what ahead C).1 = (win k o s what [] C).1 := by
  unfold win
  split
  · split <;> rfl
  · rfl
theorem win_got {what : Cu → Cu × List Tr} {D : Nat} (hw : GXs what (D + 1)) {C : Cu} (hk : C.Ok) (hd : C.d ≤ 200) (hD : D ≤ C.d) (k : Int) (o s : ByteArray) (ahead : List Tr) : (win k o s what ahead C).1.Ok ∧ (win k o s what ahead C).1.L = C.L := by
  rw [win_fst]
  have h1 : (win k o s what [] C).1 = (win 2 o s what [] C).1 := by
    unfold win
    split
    · split <;> rfl
    · rfl
  rw [h1]
  have := Got.win (k := 2) (o := o) (s := s) ⟨by omega, by omega⟩ hw hd hD (Got.refl hk)
  exact ⟨this.ok, this.L⟩
theorem win_left {what : Cu → Cu × List Tr} {D : Nat} (hw : GXs what (D + 1)) {C : Cu} (hk : C.Ok) (hd : C.d ≤ 200) (hD : D ≤ C.d) (k : Int) {o : ByteArray} (s : ByteArray) (ahead : List Tr) (hb : C.isb 0 o = true) : (win k o s what ahead C).1.left < C.left := by
  have h0 := (Cu.isb_left hb).1
  unfold win
  rw [if_pos hb]
  split
  · rename_i hdn
    obtain ⟨h1, h2, h3⟩ := Cu.down_true hdn
    have hb2 : C.down.1.isb 0 o = true := by rw [h3]; exact hb
    have hl := (Cu.isb_left hb2).2.1
    have hl0 : C.down.1.left = C.left := by rw [h3]; rfl
    have g1 := Got.wnt hk.down o
    have hdd : C.down.1.d = C.d + 1 := by rw [h3]
    have g2 := hw _ g1.ok (by rw [g1.d, hdd]; omega) (by rw [g1.d, hdd]; omega)
    have g3 := Got.wnt g2.ok s
    have l2 := g2.left
    have l3 := g3.left
    show (wnt s (what (wnt o C.down.1).1).1).1.up.left < C.left
    have : (wnt s (what (wnt o C.down.1).1).1).1.up.left = (wnt s (what (wnt o C.down.1).1).1).1.left := rfl
    omega
  · rename_i hdn
    have := Cu.down_f (C := C) (by simpa using hdn)
    show C.down.1.left < C.left
    have e : C.down.1.left = 0 := by unfold Cu.left; rw [if_neg this]
    omega
theorem dot_left {ex : Cu → Cu × Tr} {D : Nat} (hx : GX ex (D + 1)) {C : Cu} (hk : C.Ok) (hd : C.d ≤ 200) (hD : D ≤ C.d) (n : Tr) (hb : C.isb 0 sDot = true) : (dot ex n C).1.left < C.left ∧ (dot ex n C).1.Ok ∧ (dot ex n C).1.L = C.L ∧ (dot ex n C).1.d = C.d := by
  obtain ⟨h0, h1, -⟩ := Cu.isb_left hb
  have g1 := Got.wnt hk sDot
  unfold dot
  split
  · have g2 := Got.wnt g1.ok sLen
    have l2 := g2.left
    exact ⟨by show (wnt sLen (wnt sDot C).1).1.left < _; omega, g2.ok, g2.L.trans g1.L, g2.d.trans g1.d⟩
  · have g2 := Got.any g1.ok 4
    have l2 := g2.left
    have g3 := Got.win (k := 24) (o := sRo) (s := sRo2) ⟨by omega, by omega⟩ (Got.arg hx) (by rw [g2.d, g1.d]; exact hd) (by rw [g2.d, g1.d]; exact hD) (Got.refl g2.ok)
    rw [win_fst]
    have l3 := g3.left
    exact ⟨by omega, g3.ok, g3.L.trans (g2.L.trans g1.L), g3.d.trans (g2.d.trans g1.d)⟩

/-- a reading that takes up a tree that lies in the blocks S -/
def TsV (b : Nat) (A : Option Addr) (c : Nat) (S : Nat → Prop) (r : Cu × Tr) (w : World) (e : Ending) (W' : World) : Prop :=
  ∃ T, e = .returned (nv T) ∧ pl T = r.2 ∧ Tn (fun k => S k ∨ (w.heap.size ≤ k ∧ k < W'.heap.size)) W' T ∧ CuM b A c r.1 W' ∧ Of b w W'
section
variable {b : Nat} {A : Option Addr} {c : Nat} {S : Nat → Prop} {w W : World} {C : Cu} {bs : List (Nat × Obj)} {zs : List Nat} {ts : List Tr} {r : Cu × Tr}
theorem EK.results (h : EK b A c S (· = b) w C bs zs ts W) {T : Tr} {z : Nat} {t : TypeId} {u0 u1 u2 u3 u4 : Value} (hT : T ∈ ts) (hz : z ∈ zs) (hb : W.heap[z]? = some (.cells #[u0, u1, u2, u3, u4] t (0, 0))) (h1 : r.1 = C) (h2 : pl T = r.2) :
    (set5 W z T).heap[z]? = some (.cells (ncc T) t (0, 0)) ∧ TsV b A c S r w (.returned (nv T)) (set5 W z T) := by
  have h' := h.store (bs' := []) T hz hb (by simp)
  exact ⟨set5_self hb T, T, rfl, h2, (h'.tn T hT).keep (fun _ _ _ => rfl) fun _ hk => hk.1, by rw [h1]; exact h'.cu, h'.off⟩
theorem TsV.tr {e : Ending} (h : TsV b A c no r w e W) : TrV b A c r w e W := by
  obtain ⟨T, h1, h2, h3, h4, h5⟩ := h
  exact ⟨T, h1, h2, h3.keep (fun _ _ _ => rfl) fun _ hk => hk.resolve_left fun h => h, h4, h5⟩
end

section
variable {b : Nat} {A : Option Addr} {c : Nat}
theorem eg_arguments : ∀ args w, (callFunc 181 args).run Tryz.prog w = .ok (.enter 181 args) w := by
  intro args w; simp [go_sem]
theorem eg_inside : ∀ args w, (callFunc 175 args).run Tryz.prog w = .ok (.enter 175 args) w := by
  intro args w; simp [go_sem]

set_option maxRecDepth 100000 in
set_option maxHeartbeats 8000000 in
theorem dotted_any {ex : Cu → Cu × Tr} {D : Nat} (hE : PartF 128 b A c ex (D + 1)) (hG : GX ex (D + 1)) (S : Nat → Prop) (n : Tr) (w : World) (C : Cu) (hS : ∀ k, S k → k < w.heap.size ∧ k ≠ b) (hT : Tn S w n) (h : CuM b A c C w) (hk : C.Ok) (hd : C.d ≤ 200) (hD : D ≤ C.d) :
    Calls Tryz.prog 176 #[rcv b, nv n] w (TsV b A c S (dot ex (pl n) C) w) := by
  have ek0 : EK b A c S (· = b) w C [] [] [n] w := ⟨h, hk, Off.refl _ _, (EK.begin h hk).rl, rfl, (EK.begin h hk).hX, hS, by simp, by simp, fun T hT' => by rw [List.mem_singleton.1 hT']; exact hT.keep (fun _ _ _ => rfl) fun q hq => ⟨.inl hq, by simp⟩⟩
  have ek2 := ((ek0.alloc (rdb b)).alloc (.cells (ncc n) 30 (0, 0))).alloc zb5
  rw [World.size_alloc, World.size_alloc] at ek2
  have HW := Lib.hid (wnt_any sDot ek2.cu ek2.ok)
  have p0 := cell_heap (ek2.box (z := w.heap.size) (o := rdb b) (by simp)) (i := 0)
  simp only [List.getElem?_toArray, List.getElem?_cons_zero] at p0
  have E2 := Lib.hid ek2
  have hG1 := Got.wnt hk sDot
  have HG1 := Lib.hid hG1
  have HWA := Lib.hid (arguments_any hE hG)
  have HGA := Lib.hid (Got.arg hG)
  have HK := Lib.hid (And.intro hk (And.intro hd hD))
  clear ek0 ek2 hG1 hE hG hS hT h hk hd hD
  generalize hres : dot ex (pl n) C = res
  have HRES := Lib.hid hres
  clear hres
  go_enter Tryz.func176, Tryz.ntmps176
  go_wp2_with fail
  refine HW.out.mono ?_
  rintro e w3 ⟨PT, rfl, hp1, hT1, hm1, ho1⟩
  have ek3 := E2.out.got hT1 hm1 ⟨HG1.out.ok, HG1.out.L⟩ ho1
  have ek4 := ek3.local_ PT
  have hz3 := heap_alloc_new w3 zb5
  have hwx : w.heap.size + 1 + 1 < w3.heap.size := ek3.lt (z := w.heap.size + 1 + 1) (o := zb5) (by simp)
  clear ek3 hT1 hm1 ho1 p0 HW E2
  go_wp2_with (with_reducible refine stay_store 30 (.tmp 5) (.tmp 8) (by rfl) ?_)
  refine Stay.mk ?_
  refine wpList_store_node (by rfl) 30 (.tmp 5) (.tmp 8) (by rfl) size_tnode (w3.heap.size) PT (by rfl) (by rfl) hz3 ?_
  generalize set5 (w3.alloc zb5) w3.heap.size PT = w4 at ek4 ⊢
  generalize w3.heap.size = x5 at ek4 hwx ⊢
  clear hz3 w3
  have HI := Lib.hid (is_any 0 sLen ⟨by omega, by omega⟩ ek4.cu ek4.ok)
  unfold Rd at HI
  have p0 := cell_heap (ek4.box (z := w.heap.size) (o := rdb b) (by simp)) (i := 0)
  simp only [List.getElem?_toArray, List.getElem?_cons_zero] at p0
  have E4 := Lib.hid ek4
  clear ek4
  unfold dot at HRES
  cases hb : (wnt sDot C).1.isb 0 sLen with
  | true =>
    rw [hb] at HI HRES
    simp only [if_true] at HRES
    clear hb HWA HGA
    go_wp2_with fail
    refine HI.out.mono ?_
    rintro e w5 ⟨rfl, hb5⟩
    have ek5 := (E4.out.below hb5).drew
    have HC := Lib.hid (wnt_any sLen ek5.cu ek5.ok)
    have hG2 := Got.wnt ek5.ok sLen
    have HG2 := Lib.hid hG2
    have E5 := Lib.hid ek5
    clear ek5 hb5 hG2 p0 HI E4
    go_wp2
    rename_i K0 hK0
    refine wp_region_noPanic (wp_region_held (S := fun W' : World => W'.heap[w.heap.size + 1]? = some (.cells (ncc n) 30 (0, 0)) ∧ W'.heap[x5]? = some (.cells (ncc PT) 30 (0, 0)) ∧ W'.heap[w.heap.size]? = some (rdb b) ∧ True) (by kernel_rfl) ?_)
    show wpAnyH _ _ _ _ _ _ _ _ w5.drew
    generalize w5.drew = w6 at HC E5 ⊢
    have hS0 : w6.heap[w.heap.size + 1]? = some (.cells (ncc n) 30 (0, 0)) ∧ w6.heap[x5]? = some (.cells (ncc PT) 30 (0, 0)) ∧ w6.heap[w.heap.size]? = some (rdb b) ∧ True := ⟨E5.out.box (z := w.heap.size + 1) (o := .cells (ncc n) 30 (0, 0)) (by simp), E5.out.box (z := x5) (o := .cells (ncc PT) 30 (0, 0)) (by simp), E5.out.box (z := w.heap.size) (o := rdb b) (by simp), trivial⟩
    refine wpAnyH_take_d (i := 0) (v := nv n) 12 rfl rfl (by kernel_rfl) (by kernel_rfl) (by kernel_rfl) (fun _ _ _ h => h) (Or.inl ⟨by kernel_rfl, fun w' hS' => ?y0⟩) hS0 ?_
    case y0 => (obtain ⟨s0, s1, s2, s3, s4⟩ := heap5 (hS'.1); clear hS'; go_simp)
    simp only [Act.put, List.setIfInBounds_toArray, List.set_cons_zero, List.set_cons_succ]
    refine wpAnyH_take_d (i := 1) (v := nv PT) 13 rfl rfl (by kernel_rfl) (by kernel_rfl) (by kernel_rfl) (fun _ _ _ h => h) (Or.inl ⟨by kernel_rfl, fun w' hS' => ?y1⟩) hS0 ?_
    case y1 => (obtain ⟨s0, s1, s2, s3, s4⟩ := heap5 (hS'.2.1); clear hS'; go_simp)
    simp only [Act.put, List.setIfInBounds_toArray, List.set_cons_zero, List.set_cons_succ]
    refine wpAnyH_take_d (i := 2) (v := .pointer (some ⟨w.heap.size, 0, none⟩)) 14 rfl rfl (by kernel_rfl) (by kernel_rfl) (by kernel_rfl) (fun _ _ _ h => h) (Or.inl ⟨by kernel_rfl, fun w' hS' => ?y2⟩) hS0 ?_
    case y2 => (skip; clear hS'; go_simp)
    simp only [Act.put, List.setIfInBounds_toArray, List.set_cons_zero, List.set_cons_succ]
    refine wpAnyH_take_d (i := 3) (v := .pointer (some ⟨b, 0, none⟩)) 15 rfl rfl (by kernel_rfl) (by kernel_rfl) (by kernel_rfl) (fun _ _ _ h => h) (Or.inl ⟨by kernel_rfl, fun w' hS' => ?y3⟩) hS0 ?_
    case y3 => (have s0 := cell_heap hS'.2.2.1 (i := 0); simp only [List.getElem?_toArray, List.getElem?_cons_zero] at s0; clear hS'; go_simp)
    simp only [Act.put, List.setIfInBounds_toArray, List.set_cons_zero, List.set_cons_succ]
    refine wpAnyH_ready (rs := [4]) (by kernel_rfl) (by simp) ?_
    refine AllReadyH.cons rfl (fun K hK => ?_) AllReadyH.nil
    go_simp
    refine (HC.out).mono ?_
    rintro e w7 ⟨LN, rfl, hp2, hT2, hm2, ho2⟩
    have ek_ := E5.out.got hT2 hm2 ⟨HG2.out.ok, HG2.out.L⟩ ho2
    have hS4 : w7.heap[w.heap.size + 1]? = some (.cells (ncc n) 30 (0, 0)) ∧ w7.heap[x5]? = some (.cells (ncc PT) 30 (0, 0)) ∧ w7.heap[w.heap.size]? = some (rdb b) ∧ True := ⟨ek_.box (z := w.heap.size + 1) (o := .cells (ncc n) 30 (0, 0)) (by simp), ek_.box (z := x5) (o := .cells (ncc PT) 30 (0, 0)) (by simp), ek_.box (z := w.heap.size) (o := rdb b) (by simp), trivial⟩
    have E7 := Lib.hid ek_
    clear ek_
    clear hT2 hm2 ho2 E5 HC
    refine hK.out _ _ hS4 (fun _ => ?_)
    clear hK K
    try simp only [Act.put, List.setIfInBounds_toArray, List.set_cons_zero, List.set_cons_succ]
    refine wpAnyH_ready (rs := [5]) (by kernel_rfl) (by simp) ?_
    refine AllReadyH.cons rfl (fun K hK => ?_) AllReadyH.nil
    have ek_ := E7.out.rowOf 23 3 (l := [n, PT, LN]) rfl (by simp) (.cells #[.int .i64 n.k, .string n.g, .string n.t, .int .i64 n.a, .slice n.A n.kids.length n.c, .int .i64 PT.k, .string PT.g, .string PT.t, .int .i64 PT.a, .slice PT.A PT.kids.length PT.c, .int .i64 LN.k, .string LN.g, .string LN.t, .int .i64 LN.a, .slice LN.A LN.kids.length LN.c] 30 (0, 0)) 30 rfl
    go_simp
    generalize w7.alloc (.cells #[.int .i64 n.k, .string n.g, .string n.t, .int .i64 n.a, .slice n.A n.kids.length n.c, .int .i64 PT.k, .string PT.g, .string PT.t, .int .i64 PT.a, .slice PT.A PT.kids.length PT.c, .int .i64 LN.k, .string LN.g, .string LN.t, .int .i64 LN.a, .slice LN.A LN.kids.length LN.c] 30 (0, 0)) = w8 at ek_ ⊢
    generalize w7.heap.size = y at ek_ ⊢
    have hS5 : w8.heap[w.heap.size + 1]? = some (.cells (ncc n) 30 (0, 0)) ∧ w8.heap[x5]? = some (.cells (ncc PT) 30 (0, 0)) ∧ w8.heap[w.heap.size]? = some (rdb b) ∧ True := ⟨ek_.box (z := w.heap.size + 1) (o := .cells (ncc n) 30 (0, 0)) (by simp), ek_.box (z := x5) (o := .cells (ncc PT) 30 (0, 0)) (by simp), ek_.box (z := w.heap.size) (o := rdb b) (by simp), trivial⟩
    have E8 := Lib.hid ek_
    clear ek_
    refine hK.out _ _ hS5 (fun _ => ?_)
    clear hK K
    try simp only [Act.put, List.setIfInBounds_toArray, List.set_cons_zero, List.set_cons_succ]
    refine wpAnyH_ready (rs := [6]) (by kernel_rfl) (by simp) ?_
    refine AllReadyH.cons rfl (fun K hK => ?_) AllReadyH.nil
    go_simp
    refine (node_any 23 (some ⟨y, 0, none⟩) 3 [n, PT, LN] w8).mono ?_
    rintro e wL ⟨rfl, hb9⟩
    have ek_ := E8.out.below hb9
    have hS6 : wL.heap[w.heap.size + 1]? = some (.cells (ncc n) 30 (0, 0)) ∧ wL.heap[x5]? = some (.cells (ncc PT) 30 (0, 0)) ∧ wL.heap[w.heap.size]? = some (rdb b) ∧ True := ⟨ek_.box (z := w.heap.size + 1) (o := .cells (ncc n) 30 (0, 0)) (by simp), ek_.box (z := x5) (o := .cells (ncc PT) 30 (0, 0)) (by simp), ek_.box (z := w.heap.size) (o := rdb b) (by simp), trivial⟩
    have E9 := Lib.hid ek_
    clear ek_
    clear hb9 E8
    refine hK.out _ _ hS6 (fun _ => ?_)
    clear hK K
    try simp only [Act.put, List.setIfInBounds_toArray, List.set_cons_zero, List.set_cons_succ]
    refine wpAnyH_ready (rs := [7]) (by kernel_rfl) (by simp) ?_
    refine AllReadyH.cons rfl (fun K hK => ?_) AllReadyH.nil
    refine step_store_node (by rfl) 30 (.tmp 4) (.tmp 18) (by rfl) size_tnode (w.heap.size + 1 + 1) ⟨23, ⟨#[]⟩, ⟨#[]⟩, 0, some ⟨y, 0, none⟩, 3, [n, PT, LN]⟩ (by rfl) (by rfl) (E9.out.box (z := w.heap.size + 1 + 1) (o := zb5) (by simp)) ?_
    have hfin := E9.out.results (r := res) (T := ⟨23, ⟨#[]⟩, ⟨#[]⟩, 0, some ⟨y, 0, none⟩, 3, [n, PT, LN]⟩) (z := w.heap.size + 1 + 1) (by simp) (by simp) (E9.out.box (z := w.heap.size + 1 + 1) (o := zb5) (by simp)) (by rw [← HRES.out]) (by rw [pl_nod, ← HRES.out, ← hp1, ← hp2]; rfl)
    have hS7 : (set5 wL (w.heap.size + 1 + 1) ⟨23, ⟨#[]⟩, ⟨#[]⟩, 0, some ⟨y, 0, none⟩, 3, [n, PT, LN]⟩).heap[w.heap.size + 1]? = some (.cells (ncc n) 30 (0, 0)) ∧ (set5 wL (w.heap.size + 1 + 1) ⟨23, ⟨#[]⟩, ⟨#[]⟩, 0, some ⟨y, 0, none⟩, 3, [n, PT, LN]⟩).heap[x5]? = some (.cells (ncc PT) 30 (0, 0)) ∧ (set5 wL (w.heap.size + 1 + 1) ⟨23, ⟨#[]⟩, ⟨#[]⟩, 0, some ⟨y, 0, none⟩, 3, [n, PT, LN]⟩).heap[w.heap.size]? = some (rdb b) ∧ True := ⟨(set5_other (by omega) ⟨23, ⟨#[]⟩, ⟨#[]⟩, 0, some ⟨y, 0, none⟩, 3, [n, PT, LN]⟩).trans (E9.out.box (z := w.heap.size + 1) (o := .cells (ncc n) 30 (0, 0)) (by simp)), (set5_other (by omega) ⟨23, ⟨#[]⟩, ⟨#[]⟩, 0, some ⟨y, 0, none⟩, 3, [n, PT, LN]⟩).trans (E9.out.box (z := x5) (o := .cells (ncc PT) 30 (0, 0)) (by simp)), (set5_other (by omega) ⟨23, ⟨#[]⟩, ⟨#[]⟩, 0, some ⟨y, 0, none⟩, 3, [n, PT, LN]⟩).trans (E9.out.box (z := w.heap.size) (o := rdb b) (by simp)), trivial⟩
    generalize set5 wL (w.heap.size + 1 + 1) ⟨23, ⟨#[]⟩, ⟨#[]⟩, 0, some ⟨y, 0, none⟩, 3, [n, PT, LN]⟩ = w90 at hfin hS7 ⊢
    generalize hNN : (⟨23, ⟨#[]⟩, ⟨#[]⟩, 0, some ⟨y, 0, none⟩, 3, [n, PT, LN]⟩ : Tr) = N at hfin ⊢
    clear hNN E9
    refine hK.out _ _ hS7 (fun _ => ?_)
    clear hK K
    try simp only [Act.put, List.setIfInBounds_toArray]
    refine wpAnyH_done (by kernel_rfl) ?_ _
    refine hK0 _ _ ?_
    obtain ⟨hs, hv⟩ := hfin
    have HV := Lib.hid hv
    clear hv hK0 hS0 hS4 hS5 hS6 hS7 hp1 hp2 HRES
    go_wp2
    have g0 := cell_heap hs (i := 0)
    have g1 := cell_heap hs (i := 1)
    have g2 := cell_heap hs (i := 2)
    have g3 := cell_heap hs (i := 3)
    have g4 := cell_heap hs (i := 4)
    simp only [List.getElem?_toArray, List.getElem?_cons_zero, List.getElem?_cons_succ] at g0 g1 g2 g3 g4
    refine bodyPost_ret (v := nv N) (by simp [results, Tryz.results176, go_sem, g0, g1, g2, g3, g4]) rfl HV.out
  | false =>
    rw [hb] at HI HRES
    simp only [Bool.false_eq_true, if_false] at HRES
    clear hb
    go_wp2_with fail
    refine HI.out.mono ?_
    rintro e w5 ⟨rfl, hb5⟩
    have ek5 := (E4.out.below hb5).drew
    have HC := Lib.hid (anyk_any 4 ek5.cu ek5.ok)
    have hG2 := Got.any ek5.ok 4
    have HG2 := Lib.hid hG2
    have E5 := Lib.hid ek5
    clear ek5 hb5 hG2 p0 HI E4
    go_wp2
    rename_i K0 hK0
    refine wp_region_noPanic (wp_region_held (S := fun W' : World => W'.heap[w.heap.size + 1]? = some (.cells (ncc n) 30 (0, 0)) ∧ W'.heap[x5]? = some (.cells (ncc PT) 30 (0, 0)) ∧ W'.heap[w.heap.size]? = some (rdb b) ∧ True) (by kernel_rfl) ?_)
    show wpAnyH _ _ _ _ _ _ _ _ w5.drew
    generalize w5.drew = w6 at HC E5 ⊢
    have hS0 : w6.heap[w.heap.size + 1]? = some (.cells (ncc n) 30 (0, 0)) ∧ w6.heap[x5]? = some (.cells (ncc PT) 30 (0, 0)) ∧ w6.heap[w.heap.size]? = some (rdb b) ∧ True := ⟨E5.out.box (z := w.heap.size + 1) (o := .cells (ncc n) 30 (0, 0)) (by simp), E5.out.box (z := x5) (o := .cells (ncc PT) 30 (0, 0)) (by simp), E5.out.box (z := w.heap.size) (o := rdb b) (by simp), trivial⟩
    refine wpAnyH_take_d (i := 0) (v := rcv b) 19 rfl rfl (by kernel_rfl) (by kernel_rfl) (by kernel_rfl) (fun _ _ _ h => h) (Or.inl ⟨by kernel_rfl, fun w' hS' => ?y0⟩) hS0 ?_
    case y0 => (have s0 := cell_heap hS'.2.2.1 (i := 0); simp only [List.getElem?_toArray, List.getElem?_cons_zero] at s0; clear hS'; go_simp)
    simp only [Act.put, List.setIfInBounds_toArray, List.set_cons_zero, List.set_cons_succ]
    refine wpAnyH_take_d (i := 1) (v := rcv b) 20 rfl rfl (by kernel_rfl) (by kernel_rfl) (by kernel_rfl) (fun _ _ _ h => h) (Or.inl ⟨by kernel_rfl, fun w' hS' => ?y1⟩) hS0 ?_
    case y1 => (have s0 := cell_heap hS'.2.2.1 (i := 0); simp only [List.getElem?_toArray, List.getElem?_cons_zero] at s0; clear hS'; go_simp)
    simp only [Act.put, List.setIfInBounds_toArray, List.set_cons_zero, List.set_cons_succ]
    refine wpAnyH_take_d (i := 2) (v := .func (.func 181) #[rcv b] #[]) 21 rfl rfl (by kernel_rfl) (by kernel_rfl) (by kernel_rfl) (fun _ _ _ h => h) (Or.inl ⟨by kernel_rfl, fun w' hS' => ?y2⟩) hS0 ?_
    case y2 => (skip; clear hS'; go_simp)
    simp only [Act.put, List.setIfInBounds_toArray, List.set_cons_zero, List.set_cons_succ]
    refine wpAnyH_take_d (i := 3) (v := nv n) 22 rfl rfl (by kernel_rfl) (by kernel_rfl) (by kernel_rfl) (fun _ _ _ h => h) (Or.inl ⟨by kernel_rfl, fun w' hS' => ?y3⟩) hS0 ?_
    case y3 => (obtain ⟨s0, s1, s2, s3, s4⟩ := heap5 (hS'.1); clear hS'; go_simp)
    simp only [Act.put, List.setIfInBounds_toArray, List.set_cons_zero, List.set_cons_succ]
    refine wpAnyH_take_d (i := 4) (v := nv PT) 23 rfl rfl (by kernel_rfl) (by kernel_rfl) (by kernel_rfl) (fun _ _ _ h => h) (Or.inl ⟨by kernel_rfl, fun w' hS' => ?y4⟩) hS0 ?_
    case y4 => (obtain ⟨s0, s1, s2, s3, s4⟩ := heap5 (hS'.2.1); clear hS'; go_simp)
    simp only [Act.put, List.setIfInBounds_toArray, List.set_cons_zero, List.set_cons_succ]
    refine wpAnyH_take_d (i := 5) (v := .pointer (some ⟨w.heap.size, 0, none⟩)) 24 rfl rfl (by kernel_rfl) (by kernel_rfl) (by kernel_rfl) (fun _ _ _ h => h) (Or.inl ⟨by kernel_rfl, fun w' hS' => ?y5⟩) hS0 ?_
    case y5 => (skip; clear hS'; go_simp)
    simp only [Act.put, List.setIfInBounds_toArray, List.set_cons_zero, List.set_cons_succ]
    refine wpAnyH_take_d (i := 6) (v := .pointer (some ⟨b, 0, none⟩)) 25 rfl rfl (by kernel_rfl) (by kernel_rfl) (by kernel_rfl) (fun _ _ _ h => h) (Or.inl ⟨by kernel_rfl, fun w' hS' => ?y6⟩) hS0 ?_
    case y6 => (have s0 := cell_heap hS'.2.2.1 (i := 0); simp only [List.getElem?_toArray, List.getElem?_cons_zero] at s0; clear hS'; go_simp)
    simp only [Act.put, List.setIfInBounds_toArray, List.set_cons_zero, List.set_cons_succ]
    refine wpAnyH_ready (rs := [7]) (by kernel_rfl) (by simp) ?_
    refine AllReadyH.cons rfl (fun K hK => ?_) AllReadyH.nil
    go_simp
    refine (HC.out).mono ?_
    rintro e w7 ⟨NM, rfl, hp2, hT2, hm2, ho2⟩
    have ek_ := E5.out.got hT2 hm2 ⟨HG2.out.ok, HG2.out.L⟩ ho2
    have hS7 : w7.heap[w.heap.size + 1]? = some (.cells (ncc n) 30 (0, 0)) ∧ w7.heap[x5]? = some (.cells (ncc PT) 30 (0, 0)) ∧ w7.heap[w.heap.size]? = some (rdb b) ∧ True := ⟨ek_.box (z := w.heap.size + 1) (o := .cells (ncc n) 30 (0, 0)) (by simp), ek_.box (z := x5) (o := .cells (ncc PT) 30 (0, 0)) (by simp), ek_.box (z := w.heap.size) (o := rdb b) (by simp), trivial⟩
    have E7 := Lib.hid ek_
    clear ek_
    clear hT2 hm2 ho2 E5 HC
    refine hK.out _ _ hS7 (fun _ => ?_)
    clear hK K
    try simp only [Act.put, List.setIfInBounds_toArray, List.set_cons_zero, List.set_cons_succ]
    refine wpAnyH_ready (rs := [8]) (by kernel_rfl) (by simp) ?_
    refine AllReadyH.cons rfl (fun K hK => ?_) AllReadyH.nil
    have ek_ := E7.out.below (below1 w7 (.cells #[.int .i64 n.k, .string n.g, .string n.t, .int .i64 n.a, .slice n.A n.kids.length n.c, .int .i64 PT.k, .string PT.g, .string PT.t, .int .i64 PT.a, .slice PT.A PT.kids.length PT.c, .int .i64 NM.k, .string NM.g, .string NM.t, .int .i64 NM.a, .slice NM.A NM.kids.length NM.c] 30 (0, 0)))
    go_simp
    have hS8 : (w7.alloc (.cells #[.int .i64 n.k, .string n.g, .string n.t, .int .i64 n.a, .slice n.A n.kids.length n.c, .int .i64 PT.k, .string PT.g, .string PT.t, .int .i64 PT.a, .slice PT.A PT.kids.length PT.c, .int .i64 NM.k, .string NM.g, .string NM.t, .int .i64 NM.a, .slice NM.A NM.kids.length NM.c] 30 (0, 0))).heap[w.heap.size + 1]? = some (.cells (ncc n) 30 (0, 0)) ∧ (w7.alloc (.cells #[.int .i64 n.k, .string n.g, .string n.t, .int .i64 n.a, .slice n.A n.kids.length n.c, .int .i64 PT.k, .string PT.g, .string PT.t, .int .i64 PT.a, .slice PT.A PT.kids.length PT.c, .int .i64 NM.k, .string NM.g, .string NM.t, .int .i64 NM.a, .slice NM.A NM.kids.length NM.c] 30 (0, 0))).heap[x5]? = some (.cells (ncc PT) 30 (0, 0)) ∧ (w7.alloc (.cells #[.int .i64 n.k, .string n.g, .string n.t, .int .i64 n.a, .slice n.A n.kids.length n.c, .int .i64 PT.k, .string PT.g, .string PT.t, .int .i64 PT.a, .slice PT.A PT.kids.length PT.c, .int .i64 NM.k, .string NM.g, .string NM.t, .int .i64 NM.a, .slice NM.A NM.kids.length NM.c] 30 (0, 0))).heap[w.heap.size]? = some (rdb b) ∧ True := ⟨ek_.box (z := w.heap.size + 1) (o := .cells (ncc n) 30 (0, 0)) (by simp), ek_.box (z := x5) (o := .cells (ncc PT) 30 (0, 0)) (by simp), ek_.box (z := w.heap.size) (o := rdb b) (by simp), trivial⟩
    clear ek_
    refine hK.out _ _ hS8 (fun _ => ?_)
    clear hK K
    try simp only [Act.put, List.setIfInBounds_toArray, List.set_cons_zero, List.set_cons_succ]
    refine wpAnyH_ready (rs := [9]) (by kernel_rfl) (by simp) ?_
    refine AllReadyH.cons rfl (fun K hK => ?_) AllReadyH.nil
    go_simp
    refine (E7.out.within 181 eg_arguments HWA.out HGA.out 24 ⟨#[40, 41]⟩ sRo sRo2 rfl rfl rfl (by rw [HG2.out.d, HG1.out.d]; exact HK.out.2.1) (by rw [HG2.out.d, HG1.out.d]; exact HK.out.2.2) [n, PT, NM] 3 rfl (by simp) (by omega) (.cells #[.int .i64 n.k, .string n.g, .string n.t, .int .i64 n.a, .slice n.A n.kids.length n.c, .int .i64 PT.k, .string PT.g, .string PT.t, .int .i64 PT.a, .slice PT.A PT.kids.length PT.c, .int .i64 NM.k, .string NM.g, .string NM.t, .int .i64 NM.a, .slice NM.A NM.kids.length NM.c] 30 (0, 0)) rfl (win_got HGA.out E7.out.ok (by rw [HG2.out.d, HG1.out.d]; exact HK.out.2.1) (by rw [HG2.out.d, HG1.out.d]; exact HK.out.2.2) 24 sRo sRo2 _)).mono ?_
    rintro e wL ⟨TW, rfl, hpw, ek_, -⟩
    have hS9 : wL.heap[w.heap.size + 1]? = some (.cells (ncc n) 30 (0, 0)) ∧ wL.heap[x5]? = some (.cells (ncc PT) 30 (0, 0)) ∧ wL.heap[w.heap.size]? = some (rdb b) ∧ True := ⟨ek_.box (z := w.heap.size + 1) (o := .cells (ncc n) 30 (0, 0)) (by simp), ek_.box (z := x5) (o := .cells (ncc PT) 30 (0, 0)) (by simp), ek_.box (z := w.heap.size) (o := rdb b) (by simp), trivial⟩
    have E9 := Lib.hid ek_
    clear ek_ E7
    refine hK.out _ _ hS9 (fun _ => ?_)
    clear hK K
    try simp only [Act.put, List.setIfInBounds_toArray, List.set_cons_zero, List.set_cons_succ]
    refine wpAnyH_ready (rs := [10]) (by kernel_rfl) (by simp) ?_
    refine AllReadyH.cons rfl (fun K hK => ?_) AllReadyH.nil
    refine step_store_node (by rfl) 30 (.tmp 4) (.tmp 28) (by rfl) size_tnode (w.heap.size + 1 + 1) TW (by rfl) (by rfl) (E9.out.box (z := w.heap.size + 1 + 1) (o := zb5) (by simp)) ?_
    have hfin := E9.out.results (r := res) (T := TW) (z := w.heap.size + 1 + 1) (by simp) (by simp) (E9.out.box (z := w.heap.size + 1 + 1) (o := zb5) (by simp)) (by rw [← HRES.out, ← hp1, ← hp2]; rfl) (by rw [hpw, ← HRES.out, ← hp1, ← hp2]; rfl)
    have hS10 : (set5 wL (w.heap.size + 1 + 1) TW).heap[w.heap.size + 1]? = some (.cells (ncc n) 30 (0, 0)) ∧ (set5 wL (w.heap.size + 1 + 1) TW).heap[x5]? = some (.cells (ncc PT) 30 (0, 0)) ∧ (set5 wL (w.heap.size + 1 + 1) TW).heap[w.heap.size]? = some (rdb b) ∧ True := ⟨(set5_other (by omega) TW).trans (E9.out.box (z := w.heap.size + 1) (o := .cells (ncc n) 30 (0, 0)) (by simp)), (set5_other (by omega) TW).trans (E9.out.box (z := x5) (o := .cells (ncc PT) 30 (0, 0)) (by simp)), (set5_other (by omega) TW).trans (E9.out.box (z := w.heap.size) (o := rdb b) (by simp)), trivial⟩
    generalize set5 wL (w.heap.size + 1 + 1) TW = w90 at hfin hS10 ⊢
    generalize hNN : (TW : Tr) = N at hfin ⊢
    clear hNN E9
    refine hK.out _ _ hS10 (fun _ => ?_)
    clear hK K
    try simp only [Act.put, List.setIfInBounds_toArray]
    refine wpAnyH_done (by kernel_rfl) ?_ _
    refine hK0 _ _ ?_
    obtain ⟨hs, hv⟩ := hfin
    have HV := Lib.hid hv
    clear hv hK0 hS0 hS7 hS8 hS9 hS10 hp1 hp2 hpw HRES HWA HGA
    go_wp2
    have g0 := cell_heap hs (i := 0)
    have g1 := cell_heap hs (i := 1)
    have g2 := cell_heap hs (i := 2)
    have g3 := cell_heap hs (i := 3)
    have g4 := cell_heap hs (i := 4)
    simp only [List.getElem?_toArray, List.getElem?_cons_zero, List.getElem?_cons_succ] at g0 g1 g2 g3 g4
    refine bodyPost_ret (v := nv N) (by simp [results, Tryz.results176, go_sem, g0, g1, g2, g3, g4]) rfl HV.out

set_option maxRecDepth 100000 in
set_option maxHeartbeats 8000000 in
theorem made_any {ex : Cu → Cu × Tr} {D : Nat} (hE : PartF 128 b A c ex (D + 1)) (hG : GX ex (D + 1)) : PartF 180 b A c (mad ex) D := by
  intro w C h hk hd hD
  have ek2 := EK.start h hk
  have HW := Lib.hid (wnt_any sNew ek2.cu ek2.ok)
  have p0 := cell_heap (ek2.box (z := w.heap.size) (o := rdb b) (by simp)) (i := 0)
  simp only [List.getElem?_toArray, List.getElem?_cons_zero] at p0
  have E2 := Lib.hid ek2
  have hG1 := Got.wnt hk sNew
  have HG1 := Lib.hid hG1
  have HWI := Lib.hid (inside_any hE hG)
  have HGI := Lib.hid (Got.ins hG)
  have HK := Lib.hid (And.intro hk (And.intro hd hD))
  clear ek2 hG1 hE hG h hk hd hD
  generalize hres : mad ex C = res
  have HRES := Lib.hid hres
  clear hres
  go_enter Tryz.func180, Tryz.ntmps180
  go_wp2_with fail
  refine HW.out.mono ?_
  rintro e w3 ⟨PT, rfl, hp1, hT1, hm1, ho1⟩
  have ek3 := E2.out.got hT1 hm1 ⟨HG1.out.ok, HG1.out.L⟩ ho1
  have ek4 := ek3.local_ PT
  have hz3 := heap_alloc_new w3 zb5
  have hwx : w.heap.size + 1 < w3.heap.size := ek3.lt (z := w.heap.size + 1) (o := zb5) (by simp)
  clear ek3 hT1 hm1 ho1 p0 HW E2
  go_wp2_with (with_reducible refine stay_store 30 (.tmp 3) (.tmp 6) (by rfl) ?_)
  refine Stay.mk ?_
  refine wpList_store_node (by rfl) 30 (.tmp 3) (.tmp 6) (by rfl) size_tnode (w3.heap.size) PT (by rfl) (by rfl) hz3 ?_
  generalize set5 (w3.alloc zb5) w3.heap.size PT = w4 at ek4 ⊢
  generalize w3.heap.size = x5 at ek4 hwx ⊢
  clear hz3 w3
  have HI := Lib.hid (is_any 0 sInt ⟨by omega, by omega⟩ ek4.cu ek4.ok)
  unfold Rd at HI
  have p0 := cell_heap (ek4.box (z := w.heap.size) (o := rdb b) (by simp)) (i := 0)
  simp only [List.getElem?_toArray, List.getElem?_cons_zero] at p0
  have E4 := Lib.hid ek4
  clear ek4
  unfold mad at HRES
  cases hb : (wnt sNew C).1.isb 0 sInt with
  | true =>
    rw [hb] at HI HRES
    simp only [if_true] at HRES
    clear hb
    go_wp2_with fail
    refine HI.out.mono ?_
    rintro e w5 ⟨rfl, hb5⟩
    have ek5 := (E4.out.below hb5).drew
    have HC := Lib.hid (wnt_any sInt ek5.cu ek5.ok)
    have hG2 := Got.wnt ek5.ok sInt
    have HG2 := Lib.hid hG2
    have E5 := Lib.hid ek5
    clear ek5 hb5 hG2 p0 HI E4
    go_wp2
    rename_i K0 hK0
    refine wp_region_noPanic (wp_region_held (S := fun W' : World => W'.heap[x5]? = some (.cells (ncc PT) 30 (0, 0)) ∧ W'.heap[w.heap.size]? = some (rdb b) ∧ True) (by kernel_rfl) ?_)
    show wpAnyH _ _ _ _ _ _ _ _ w5.drew
    generalize w5.drew = w6 at HC E5 ⊢
    have hS0 : w6.heap[x5]? = some (.cells (ncc PT) 30 (0, 0)) ∧ w6.heap[w.heap.size]? = some (rdb b) ∧ True := ⟨E5.out.box (z := x5) (o := .cells (ncc PT) 30 (0, 0)) (by simp), E5.out.box (z := w.heap.size) (o := rdb b) (by simp), trivial⟩
    refine wpAnyH_take_d (i := 0) (v := rcv b) 10 rfl rfl (by kernel_rfl) (by kernel_rfl) (by kernel_rfl) (fun _ _ _ h => h) (Or.inl ⟨by kernel_rfl, fun w' hS' => ?y0⟩) hS0 ?_
    case y0 => (have s0 := cell_heap hS'.2.1 (i := 0); simp only [List.getElem?_toArray, List.getElem?_cons_zero] at s0; clear hS'; go_simp)
    simp only [Act.put, List.setIfInBounds_toArray, List.set_cons_zero, List.set_cons_succ]
    refine wpAnyH_take_d (i := 1) (v := rcv b) 11 rfl rfl (by kernel_rfl) (by kernel_rfl) (by kernel_rfl) (fun _ _ _ h => h) (Or.inl ⟨by kernel_rfl, fun w' hS' => ?y1⟩) hS0 ?_
    case y1 => (have s0 := cell_heap hS'.2.1 (i := 0); simp only [List.getElem?_toArray, List.getElem?_cons_zero] at s0; clear hS'; go_simp)
    simp only [Act.put, List.setIfInBounds_toArray, List.set_cons_zero, List.set_cons_succ]
    refine wpAnyH_take_d (i := 2) (v := .func (.func 175) #[rcv b] #[]) 12 rfl rfl (by kernel_rfl) (by kernel_rfl) (by kernel_rfl) (fun _ _ _ h => h) (Or.inl ⟨by kernel_rfl, fun w' hS' => ?y2⟩) hS0 ?_
    case y2 => (skip; clear hS'; go_simp)
    simp only [Act.put, List.setIfInBounds_toArray, List.set_cons_zero, List.set_cons_succ]
    refine wpAnyH_take_d (i := 3) (v := nv PT) 13 rfl rfl (by kernel_rfl) (by kernel_rfl) (by kernel_rfl) (fun _ _ _ h => h) (Or.inl ⟨by kernel_rfl, fun w' hS' => ?y3⟩) hS0 ?_
    case y3 => (obtain ⟨s0, s1, s2, s3, s4⟩ := heap5 (hS'.1); clear hS'; go_simp)
    simp only [Act.put, List.setIfInBounds_toArray, List.set_cons_zero, List.set_cons_succ]
    refine wpAnyH_take_d (i := 4) (v := .pointer (some ⟨w.heap.size, 0, none⟩)) 14 rfl rfl (by kernel_rfl) (by kernel_rfl) (by kernel_rfl) (fun _ _ _ h => h) (Or.inl ⟨by kernel_rfl, fun w' hS' => ?y4⟩) hS0 ?_
    case y4 => (skip; clear hS'; go_simp)
    simp only [Act.put, List.setIfInBounds_toArray, List.set_cons_zero, List.set_cons_succ]
    refine wpAnyH_take_d (i := 5) (v := .pointer (some ⟨b, 0, none⟩)) 15 rfl rfl (by kernel_rfl) (by kernel_rfl) (by kernel_rfl) (fun _ _ _ h => h) (Or.inl ⟨by kernel_rfl, fun w' hS' => ?y5⟩) hS0 ?_
    case y5 => (have s0 := cell_heap hS'.2.1 (i := 0); simp only [List.getElem?_toArray, List.getElem?_cons_zero] at s0; clear hS'; go_simp)
    simp only [Act.put, List.setIfInBounds_toArray, List.set_cons_zero, List.set_cons_succ]
    refine wpAnyH_ready (rs := [6]) (by kernel_rfl) (by simp) ?_
    refine AllReadyH.cons rfl (fun K hK => ?_) AllReadyH.nil
    go_simp
    refine (HC.out).mono ?_
    rintro e w7 ⟨NM, rfl, hp2, hT2, hm2, ho2⟩
    have ek_ := E5.out.got hT2 hm2 ⟨HG2.out.ok, HG2.out.L⟩ ho2
    have hS6 : w7.heap[x5]? = some (.cells (ncc PT) 30 (0, 0)) ∧ w7.heap[w.heap.size]? = some (rdb b) ∧ True := ⟨ek_.box (z := x5) (o := .cells (ncc PT) 30 (0, 0)) (by simp), ek_.box (z := w.heap.size) (o := rdb b) (by simp), trivial⟩
    have E7 := Lib.hid ek_
    clear ek_
    clear hT2 hm2 ho2 E5 HC
    refine hK.out _ _ hS6 (fun _ => ?_)
    clear hK K
    try simp only [Act.put, List.setIfInBounds_toArray, List.set_cons_zero, List.set_cons_succ]
    refine wpAnyH_ready (rs := [7]) (by kernel_rfl) (by simp) ?_
    refine AllReadyH.cons rfl (fun K hK => ?_) AllReadyH.nil
    have ek_ := E7.out.below (below1 w7 (.cells #[.int .i64 PT.k, .string PT.g, .string PT.t, .int .i64 PT.a, .slice PT.A PT.kids.length PT.c, .int .i64 NM.k, .string NM.g, .string NM.t, .int .i64 NM.a, .slice NM.A NM.kids.length NM.c] 30 (0, 0)))
    go_simp
    have hS7 : (w7.alloc (.cells #[.int .i64 PT.k, .string PT.g, .string PT.t, .int .i64 PT.a, .slice PT.A PT.kids.length PT.c, .int .i64 NM.k, .string NM.g, .string NM.t, .int .i64 NM.a, .slice NM.A NM.kids.length NM.c] 30 (0, 0))).heap[x5]? = some (.cells (ncc PT) 30 (0, 0)) ∧ (w7.alloc (.cells #[.int .i64 PT.k, .string PT.g, .string PT.t, .int .i64 PT.a, .slice PT.A PT.kids.length PT.c, .int .i64 NM.k, .string NM.g, .string NM.t, .int .i64 NM.a, .slice NM.A NM.kids.length NM.c] 30 (0, 0))).heap[w.heap.size]? = some (rdb b) ∧ True := ⟨ek_.box (z := x5) (o := .cells (ncc PT) 30 (0, 0)) (by simp), ek_.box (z := w.heap.size) (o := rdb b) (by simp), trivial⟩
    clear ek_
    refine hK.out _ _ hS7 (fun _ => ?_)
    clear hK K
    try simp only [Act.put, List.setIfInBounds_toArray, List.set_cons_zero, List.set_cons_succ]
    refine wpAnyH_ready (rs := [8]) (by kernel_rfl) (by simp) ?_
    refine AllReadyH.cons rfl (fun K hK => ?_) AllReadyH.nil
    go_simp
    refine (E7.out.within 175 eg_inside HWI.out HGI.out 30 ⟨#[91, 93]⟩ sSq sSq2 rfl rfl rfl (by rw [HG2.out.d, HG1.out.d]; exact HK.out.2.1) (by rw [HG2.out.d, HG1.out.d]; exact HK.out.2.2) [PT, NM] 2 rfl (by simp) (by omega) (.cells #[.int .i64 PT.k, .string PT.g, .string PT.t, .int .i64 PT.a, .slice PT.A PT.kids.length PT.c, .int .i64 NM.k, .string NM.g, .string NM.t, .int .i64 NM.a, .slice NM.A NM.kids.length NM.c] 30 (0, 0)) rfl (win_got HGI.out E7.out.ok (by rw [HG2.out.d, HG1.out.d]; exact HK.out.2.1) (by rw [HG2.out.d, HG1.out.d]; exact HK.out.2.2) 30 sSq sSq2 _)).mono ?_
    rintro e wL ⟨TW, rfl, hpw, ek_, -⟩
    have hS8 : wL.heap[x5]? = some (.cells (ncc PT) 30 (0, 0)) ∧ wL.heap[w.heap.size]? = some (rdb b) ∧ True := ⟨ek_.box (z := x5) (o := .cells (ncc PT) 30 (0, 0)) (by simp), ek_.box (z := w.heap.size) (o := rdb b) (by simp), trivial⟩
    have E9 := Lib.hid ek_
    clear ek_ E7
    refine hK.out _ _ hS8 (fun _ => ?_)
    clear hK K
    try simp only [Act.put, List.setIfInBounds_toArray, List.set_cons_zero, List.set_cons_succ]
    refine wpAnyH_ready (rs := [9]) (by kernel_rfl) (by simp) ?_
    refine AllReadyH.cons rfl (fun K hK => ?_) AllReadyH.nil
    refine step_store_node (by rfl) 30 (.tmp 2) (.tmp 18) (by rfl) size_tnode (w.heap.size + 1) TW (by rfl) (by rfl) (E9.out.box (z := w.heap.size + 1) (o := zb5) (by simp)) ?_
    have hfin := E9.out.result (r := res) (T := TW) (z := w.heap.size + 1) (by simp) (by simp) (E9.out.box (z := w.heap.size + 1) (o := zb5) (by simp)) (by rw [← HRES.out, ← hp1, ← hp2]; rfl) (by rw [hpw, ← HRES.out, ← hp1, ← hp2]; rfl)
    have hS9 : (set5 wL (w.heap.size + 1) TW).heap[x5]? = some (.cells (ncc PT) 30 (0, 0)) ∧ (set5 wL (w.heap.size + 1) TW).heap[w.heap.size]? = some (rdb b) ∧ True := ⟨(set5_other (by omega) TW).trans (E9.out.box (z := x5) (o := .cells (ncc PT) 30 (0, 0)) (by simp)), (set5_other (by omega) TW).trans (E9.out.box (z := w.heap.size) (o := rdb b) (by simp)), trivial⟩
    generalize set5 wL (w.heap.size + 1) TW = w90 at hfin hS9 ⊢
    generalize hNN : (TW : Tr) = N at hfin ⊢
    clear hNN E9
    refine hK.out _ _ hS9 (fun _ => ?_)
    clear hK K
    try simp only [Act.put, List.setIfInBounds_toArray]
    refine wpAnyH_done (by kernel_rfl) ?_ _
    refine hK0 _ _ ?_
    obtain ⟨hs, hv⟩ := hfin
    have HV := Lib.hid hv
    clear hv hK0 hS0 hS6 hS7 hS8 hS9 hp1 hp2 hpw HRES HWI HGI
    go_wp2
    have g0 := cell_heap hs (i := 0)
    have g1 := cell_heap hs (i := 1)
    have g2 := cell_heap hs (i := 2)
    have g3 := cell_heap hs (i := 3)
    have g4 := cell_heap hs (i := 4)
    simp only [List.getElem?_toArray, List.getElem?_cons_zero, List.getElem?_cons_succ] at g0 g1 g2 g3 g4
    refine bodyPost_ret (v := nv N) (by simp [results, Tryz.results180, go_sem, g0, g1, g2, g3, g4]) rfl HV.out
  | false =>
    rw [hb] at HI HRES
    simp only [Bool.false_eq_true, if_false] at HRES
    clear hb HWI HGI
    go_wp2_with fail
    refine HI.out.mono ?_
    rintro e w5 ⟨rfl, hb5⟩
    have ek5 := (E4.out.below hb5).drew
    have HC := Lib.hid (anyk_any 4 ek5.cu ek5.ok)
    have hG2 := Got.any ek5.ok 4
    have HG2 := Lib.hid hG2
    have E5 := Lib.hid ek5
    clear ek5 hb5 hG2 p0 HI E4
    go_wp2
    rename_i K0 hK0
    refine wp_region_noPanic (wp_region_held (S := fun W' : World => W'.heap[x5]? = some (.cells (ncc PT) 30 (0, 0)) ∧ W'.heap[w.heap.size]? = some (rdb b) ∧ True) (by kernel_rfl) ?_)
    show wpAnyH _ _ _ _ _ _ _ _ w5.drew
    generalize w5.drew = w6 at HC E5 ⊢
    have hS0 : w6.heap[x5]? = some (.cells (ncc PT) 30 (0, 0)) ∧ w6.heap[w.heap.size]? = some (rdb b) ∧ True := ⟨E5.out.box (z := x5) (o := .cells (ncc PT) 30 (0, 0)) (by simp), E5.out.box (z := w.heap.size) (o := rdb b) (by simp), trivial⟩
    refine wpAnyH_take_d (i := 0) (v := nv PT) 19 rfl rfl (by kernel_rfl) (by kernel_rfl) (by kernel_rfl) (fun _ _ _ h => h) (Or.inl ⟨by kernel_rfl, fun w' hS' => ?y0⟩) hS0 ?_
    case y0 => (obtain ⟨s0, s1, s2, s3, s4⟩ := heap5 (hS'.1); clear hS'; go_simp)
    simp only [Act.put, List.setIfInBounds_toArray, List.set_cons_zero, List.set_cons_succ]
    refine wpAnyH_take_d (i := 1) (v := .pointer (some ⟨w.heap.size, 0, none⟩)) 20 rfl rfl (by kernel_rfl) (by kernel_rfl) (by kernel_rfl) (fun _ _ _ h => h) (Or.inl ⟨by kernel_rfl, fun w' hS' => ?y1⟩) hS0 ?_
    case y1 => (skip; clear hS'; go_simp)
    simp only [Act.put, List.setIfInBounds_toArray, List.set_cons_zero, List.set_cons_succ]
    refine wpAnyH_take_d (i := 4) (v := .pointer (some ⟨w.heap.size, 0, none⟩)) 23 rfl rfl (by kernel_rfl) (by kernel_rfl) (by kernel_rfl) (fun _ _ _ h => h) (Or.inl ⟨by kernel_rfl, fun w' hS' => ?y4⟩) hS0 ?_
    case y4 => (skip; clear hS'; go_simp)
    simp only [Act.put, List.setIfInBounds_toArray, List.set_cons_zero, List.set_cons_succ]
    refine wpAnyH_take_d (i := 7) (v := .pointer (some ⟨w.heap.size, 0, none⟩)) 26 rfl rfl (by kernel_rfl) (by kernel_rfl) (by kernel_rfl) (fun _ _ _ h => h) (Or.inl ⟨by kernel_rfl, fun w' hS' => ?y7⟩) hS0 ?_
    case y7 => (skip; clear hS'; go_simp)
    simp only [Act.put, List.setIfInBounds_toArray, List.set_cons_zero, List.set_cons_succ]
    refine wpAnyH_take_d (i := 2) (v := .pointer (some ⟨b, 0, none⟩)) 21 rfl rfl (by kernel_rfl) (by kernel_rfl) (by kernel_rfl) (fun _ _ _ h => h) (Or.inl ⟨by kernel_rfl, fun w' hS' => ?y2⟩) hS0 ?_
    case y2 => (have s0 := cell_heap hS'.2.1 (i := 0); simp only [List.getElem?_toArray, List.getElem?_cons_zero] at s0; clear hS'; go_simp)
    simp only [Act.put, List.setIfInBounds_toArray, List.set_cons_zero, List.set_cons_succ]
    refine wpAnyH_take_d (i := 5) (v := .pointer (some ⟨b, 0, none⟩)) 24 rfl rfl (by kernel_rfl) (by kernel_rfl) (by kernel_rfl) (fun _ _ _ h => h) (Or.inl ⟨by kernel_rfl, fun w' hS' => ?y5⟩) hS0 ?_
    case y5 => (have s0 := cell_heap hS'.2.1 (i := 0); simp only [List.getElem?_toArray, List.getElem?_cons_zero] at s0; clear hS'; go_simp)
    simp only [Act.put, List.setIfInBounds_toArray, List.set_cons_zero, List.set_cons_succ]
    refine wpAnyH_take_d (i := 8) (v := .pointer (some ⟨b, 0, none⟩)) 27 rfl rfl (by kernel_rfl) (by kernel_rfl) (by kernel_rfl) (fun _ _ _ h => h) (Or.inl ⟨by kernel_rfl, fun w' hS' => ?y8⟩) hS0 ?_
    case y8 => (have s0 := cell_heap hS'.2.1 (i := 0); simp only [List.getElem?_toArray, List.getElem?_cons_zero] at s0; clear hS'; go_simp)
    simp only [Act.put, List.setIfInBounds_toArray, List.set_cons_zero, List.set_cons_succ]
    refine wpAnyH_ready (rs := [3]) (by kernel_rfl) (by simp) ?_
    refine AllReadyH.cons rfl (fun K hK => ?_) AllReadyH.nil
    go_simp
    refine (HC.out).mono ?_
    rintro e w7 ⟨NM, rfl, hp2, hT2, hm2, ho2⟩
    have ek_ := E5.out.got hT2 hm2 ⟨HG2.out.ok, HG2.out.L⟩ ho2
    have hS3 : w7.heap[x5]? = some (.cells (ncc PT) 30 (0, 0)) ∧ w7.heap[w.heap.size]? = some (rdb b) ∧ True := ⟨ek_.box (z := x5) (o := .cells (ncc PT) 30 (0, 0)) (by simp), ek_.box (z := w.heap.size) (o := rdb b) (by simp), trivial⟩
    have E7 := Lib.hid ek_
    clear ek_
    clear hT2 hm2 ho2 E5 HC
    refine hK.out _ _ hS3 (fun _ => ?_)
    clear hK K
    try simp only [Act.put, List.setIfInBounds_toArray, List.set_cons_zero, List.set_cons_succ]
    refine wpAnyH_ready (rs := [6]) (by kernel_rfl) (by simp) ?_
    refine AllReadyH.cons rfl (fun K hK => ?_) AllReadyH.nil
    go_simp
    refine (wnt_any sRo E7.out.cu E7.out.ok).mono ?_
    rintro e w8 ⟨O1, rfl, hp3, hT3, hm3, ho3⟩
    have ek_ := E7.out.got hT3 hm3 ⟨(Got.wnt E7.out.ok sRo).ok, (Got.wnt E7.out.ok sRo).L⟩ ho3
    have hS6 : w8.heap[x5]? = some (.cells (ncc PT) 30 (0, 0)) ∧ w8.heap[w.heap.size]? = some (rdb b) ∧ True := ⟨ek_.box (z := x5) (o := .cells (ncc PT) 30 (0, 0)) (by simp), ek_.box (z := w.heap.size) (o := rdb b) (by simp), trivial⟩
    have E8 := Lib.hid ek_
    clear ek_
    clear hT3 hm3 ho3 E7
    refine hK.out _ _ hS6 (fun _ => ?_)
    clear hK K
    try simp only [Act.put, List.setIfInBounds_toArray, List.set_cons_zero, List.set_cons_succ]
    refine wpAnyH_ready (rs := [9]) (by kernel_rfl) (by simp) ?_
    refine AllReadyH.cons rfl (fun K hK => ?_) AllReadyH.nil
    go_simp
    refine (wnt_any sRo2 E8.out.cu E8.out.ok).mono ?_
    rintro e w9 ⟨O2, rfl, hp4, hT4, hm4, ho4⟩
    have ek_ := E8.out.got hT4 hm4 ⟨(Got.wnt E8.out.ok sRo2).ok, (Got.wnt E8.out.ok sRo2).L⟩ ho4
    have hS9 : w9.heap[x5]? = some (.cells (ncc PT) 30 (0, 0)) ∧ w9.heap[w.heap.size]? = some (rdb b) ∧ True := ⟨ek_.box (z := x5) (o := .cells (ncc PT) 30 (0, 0)) (by simp), ek_.box (z := w.heap.size) (o := rdb b) (by simp), trivial⟩
    have E9 := Lib.hid ek_
    clear ek_
    clear hT4 hm4 ho4 E8
    refine hK.out _ _ hS9 (fun _ => ?_)
    clear hK K
    try simp only [Act.put, List.setIfInBounds_toArray, List.set_cons_zero, List.set_cons_succ]
    refine wpAnyH_ready (rs := [10]) (by kernel_rfl) (by simp) ?_
    refine AllReadyH.cons rfl (fun K hK => ?_) AllReadyH.nil
    have ek_ := E9.out.rowOf 31 4 (l := [PT, NM, O1, O2]) rfl (by simp) (.cells #[.int .i64 PT.k, .string PT.g, .string PT.t, .int .i64 PT.a, .slice PT.A PT.kids.length PT.c, .int .i64 NM.k, .string NM.g, .string NM.t, .int .i64 NM.a, .slice NM.A NM.kids.length NM.c, .int .i64 O1.k, .string O1.g, .string O1.t, .int .i64 O1.a, .slice O1.A O1.kids.length O1.c, .int .i64 O2.k, .string O2.g, .string O2.t, .int .i64 O2.a, .slice O2.A O2.kids.length O2.c] 30 (0, 0)) 30 rfl
    go_simp
    generalize w9.alloc (.cells #[.int .i64 PT.k, .string PT.g, .string PT.t, .int .i64 PT.a, .slice PT.A PT.kids.length PT.c, .int .i64 NM.k, .string NM.g, .string NM.t, .int .i64 NM.a, .slice NM.A NM.kids.length NM.c, .int .i64 O1.k, .string O1.g, .string O1.t, .int .i64 O1.a, .slice O1.A O1.kids.length O1.c, .int .i64 O2.k, .string O2.g, .string O2.t, .int .i64 O2.a, .slice O2.A O2.kids.length O2.c] 30 (0, 0)) = w10 at ek_ ⊢
    generalize w9.heap.size = y at ek_ ⊢
    have hS10 : w10.heap[x5]? = some (.cells (ncc PT) 30 (0, 0)) ∧ w10.heap[w.heap.size]? = some (rdb b) ∧ True := ⟨ek_.box (z := x5) (o := .cells (ncc PT) 30 (0, 0)) (by simp), ek_.box (z := w.heap.size) (o := rdb b) (by simp), trivial⟩
    have E10 := Lib.hid ek_
    clear ek_
    refine hK.out _ _ hS10 (fun _ => ?_)
    clear hK K
    try simp only [Act.put, List.setIfInBounds_toArray, List.set_cons_zero, List.set_cons_succ]
    refine wpAnyH_ready (rs := [11]) (by kernel_rfl) (by simp) ?_
    refine AllReadyH.cons rfl (fun K hK => ?_) AllReadyH.nil
    go_simp
    refine (node_any 31 (some ⟨y, 0, none⟩) 4 [PT, NM, O1, O2] w10).mono ?_
    rintro e wL ⟨rfl, hb9⟩
    have ek_ := E10.out.below hb9
    have hS11 : wL.heap[x5]? = some (.cells (ncc PT) 30 (0, 0)) ∧ wL.heap[w.heap.size]? = some (rdb b) ∧ True := ⟨ek_.box (z := x5) (o := .cells (ncc PT) 30 (0, 0)) (by simp), ek_.box (z := w.heap.size) (o := rdb b) (by simp), trivial⟩
    have E11 := Lib.hid ek_
    clear ek_
    clear hb9 E10
    refine hK.out _ _ hS11 (fun _ => ?_)
    clear hK K
    try simp only [Act.put, List.setIfInBounds_toArray, List.set_cons_zero, List.set_cons_succ]
    refine wpAnyH_ready (rs := [12]) (by kernel_rfl) (by simp) ?_
    refine AllReadyH.cons rfl (fun K hK => ?_) AllReadyH.nil
    refine step_store_node (by rfl) 30 (.tmp 2) (.tmp 30) (by rfl) size_tnode (w.heap.size + 1) ⟨31, ⟨#[]⟩, ⟨#[]⟩, 0, some ⟨y, 0, none⟩, 4, [PT, NM, O1, O2]⟩ (by rfl) (by rfl) (E11.out.box (z := w.heap.size + 1) (o := zb5) (by simp)) ?_
    have hfin := E11.out.result (r := res) (T := ⟨31, ⟨#[]⟩, ⟨#[]⟩, 0, some ⟨y, 0, none⟩, 4, [PT, NM, O1, O2]⟩) (z := w.heap.size + 1) (by simp) (by simp) (E11.out.box (z := w.heap.size + 1) (o := zb5) (by simp)) (by rw [← HRES.out]) (by rw [pl_nod, ← HRES.out, ← hp1, ← hp2, ← hp3, ← hp4]; rfl)
    have hS12 : (set5 wL (w.heap.size + 1) ⟨31, ⟨#[]⟩, ⟨#[]⟩, 0, some ⟨y, 0, none⟩, 4, [PT, NM, O1, O2]⟩).heap[x5]? = some (.cells (ncc PT) 30 (0, 0)) ∧ (set5 wL (w.heap.size + 1) ⟨31, ⟨#[]⟩, ⟨#[]⟩, 0, some ⟨y, 0, none⟩, 4, [PT, NM, O1, O2]⟩).heap[w.heap.size]? = some (rdb b) ∧ True := ⟨(set5_other (by omega) ⟨31, ⟨#[]⟩, ⟨#[]⟩, 0, some ⟨y, 0, none⟩, 4, [PT, NM, O1, O2]⟩).trans (E11.out.box (z := x5) (o := .cells (ncc PT) 30 (0, 0)) (by simp)), (set5_other (by omega) ⟨31, ⟨#[]⟩, ⟨#[]⟩, 0, some ⟨y, 0, none⟩, 4, [PT, NM, O1, O2]⟩).trans (E11.out.box (z := w.heap.size) (o := rdb b) (by simp)), trivial⟩
    generalize set5 wL (w.heap.size + 1) ⟨31, ⟨#[]⟩, ⟨#[]⟩, 0, some ⟨y, 0, none⟩, 4, [PT, NM, O1, O2]⟩ = w90 at hfin hS12 ⊢
    generalize hNN : (⟨31, ⟨#[]⟩, ⟨#[]⟩, 0, some ⟨y, 0, none⟩, 4, [PT, NM, O1, O2]⟩ : Tr) = N at hfin ⊢
    clear hNN E11
    refine hK.out _ _ hS12 (fun _ => ?_)
    clear hK K
    try simp only [Act.put, List.setIfInBounds_toArray]
    refine wpAnyH_done (by kernel_rfl) ?_ _
    refine hK0 _ _ ?_
    obtain ⟨hs, hv⟩ := hfin
    have HV := Lib.hid hv
    clear hv hK0 hS0 hS3 hS6 hS9 hS10 hS11 hS12 hp1 hp2 hp3 hp4 HRES
    go_wp2
    have g0 := cell_heap hs (i := 0)
    have g1 := cell_heap hs (i := 1)
    have g2 := cell_heap hs (i := 2)
    have g3 := cell_heap hs (i := 3)
    have g4 := cell_heap hs (i := 4)
    simp only [List.getElem?_toArray, List.getElem?_cons_zero, List.getElem?_cons_succ] at g0 g1 g2 g3 g4
    refine bodyPost_ret (v := nv N) (by simp [results, Tryz.results180, go_sem, g0, g1, g2, g3, g4]) rfl HV.out
end
end Go.Proofs.YtfmlcddakfbleaaGreatDoor

namespace Go.Proofs.YtfmlcddakfbleaaGreatDoor
open Go.RowKit SignMath TreeMath

/-- how many tokens are left, in memory -/
def lfc (b m : Nat) (W : World) : Nat := match W.cell? ⟨b, 4, none⟩ with | some v => (if intOf v = 0 then lft b m W else 0) | none => 0
theorem lfc_eq {b : Nat} {A : Option Addr} {c : Nat} {C : Cu} {W : World} (h : CuM b A c C W) : lfc b C.L.length W = C.left := by
  unfold lfc
  rw [h.cells.2.2.2.2.1]
  simp only [intOf, lft_eq h]
  rfl
section
variable {b : Nat} {A : Option Addr} {c : Nat}
set_option maxRecDepth 100000 in
set_option maxHeartbeats 8000000 in
theorem operand_any {ex : Cu → Cu × Tr} {D : Nat} (hE : PartF 128 b A c ex (D + 1)) (hG : GX ex (D + 1)) : PartF 173 b A c (opd ex) D := by
  intro w C h hk hd hD
  have ek2 := EK.start h hk
  have HP := Lib.hid (peek_any 0 ⟨by omega, by omega⟩ ek2.cu ek2.ok)
  unfold Rd at HP
  have p0 := cell_heap (ek2.box (z := w.heap.size) (o := rdb b) (by simp)) (i := 0)
  simp only [List.getElem?_toArray, List.getElem?_cons_zero] at p0
  have E2 := Lib.hid ek2
  have HMA := Lib.hid (made_any hE hG)
  have HWI := Lib.hid (inside_any hE hG)
  have HGI := Lib.hid (Got.ins hG)
  have HGM := Lib.hid (Got.mad hG)
  have HK := Lib.hid (And.intro hk (And.intro hd hD))
  clear ek2 hE hG h hk hd hD
  generalize hres : opd ex C = res
  have HRES := Lib.hid hres
  clear hres
  unfold opd at HRES
  generalize C.pk 0 = pk at HP HRES
  obtain ⟨kd, tx⟩ := pk
  simp only at HP HRES
  go_enter Tryz.func173, Tryz.ntmps173
  go_wp2_with fail
  refine HP.out.mono ?_
  rintro e w3 ⟨rfl, hb3⟩
  have ek3 := E2.out.below hb3
  have E3 := Lib.hid ek3
  have HS := Lib.hid (single_any kd tx w3)
  clear ek3 hb3 HP E2 p0
  go_wp2_with fail
  refine HS.out.mono ?_
  rintro e w4 ⟨rfl, hb4⟩
  have ek4 := E3.out.below hb4
  have p0 := cell_heap (ek4.box (z := w.heap.size) (o := rdb b) (by simp)) (i := 0)
  simp only [List.getElem?_toArray, List.getElem?_cons_zero] at p0
  have E4 := Lib.hid ek4
  clear ek4 hb4 HS E3
  by_cases hsg : sgl kd tx = 0
  · rw [if_pos hsg] at HRES
    have hs0 : (sgl kd tx != 0) = false := by rw [hsg]; rfl
    have HI := Lib.hid (is_any 0 sNew ⟨by omega, by omega⟩ E4.out.cu E4.out.ok)
    unfold Rd at HI
    generalize sgl kd tx = sg at hs0 ⊢
    clear hsg
    cases hb : C.isb 0 sNew with
    | true =>
      rw [hb] at HI HRES
      simp only [if_true] at HRES
      clear hb
      go_wp2_with fail
      refine HI.out.mono ?_
      rintro e w5 ⟨rfl, hb5⟩
      have ek5 := E4.out.below hb5
      have HM := Lib.hid (HMA.out _ C ek5.cu HK.out.1 HK.out.2.1 HK.out.2.2)
      have hG1 := HGM.out C HK.out.1 HK.out.2.1 HK.out.2.2
      have HG1 := Lib.hid hG1
      clear p0
      have p0 := cell_heap (ek5.box (z := w.heap.size) (o := rdb b) (by simp)) (i := 0)
      simp only [List.getElem?_toArray, List.getElem?_cons_zero] at p0
      have E5 := Lib.hid ek5
      clear ek5 hb5 hG1 HI E4 HMA
      go_wp2_with fail
      refine HM.out.mono ?_
      rintro e w6 ⟨T, rfl, hp, hT, hm, ho⟩
      have ek6 := E5.out.got hT hm ⟨HG1.out.ok, HG1.out.L⟩ ho
      have hz := ek6.box (z := w.heap.size + 1) (o := zb5) (by simp)
      have hfin := ek6.result (r := res) (T := T) (z := w.heap.size + 1) (by simp) (by simp) hz (by rw [← HRES.out]) (by rw [hp, HRES.out])
      clear ek6 hT hm ho hp p0 HM E5 hs0
      go_wp2_with (with_reducible refine stay_store 30 (.tmp 2) (.tmp 28) (by rfl) ?_)
      refine Stay.mk ?_
      refine wpList_store_node (by rfl) 30 (.tmp 2) (.tmp 28) (by rfl) size_tnode (w.heap.size + 1) T (by rfl) (by rfl) hz ?_
      generalize hw9 : set5 _ (w.heap.size + 1) T = w9 at hfin ⊢
      clear hz hw9
      obtain ⟨hs, hv⟩ := hfin
      have HV := Lib.hid hv
      clear hv
      go_wp2
      have g0 := cell_heap hs (i := 0)
      have g1 := cell_heap hs (i := 1)
      have g2 := cell_heap hs (i := 2)
      have g3 := cell_heap hs (i := 3)
      have g4 := cell_heap hs (i := 4)
      simp only [List.getElem?_toArray, List.getElem?_cons_zero, List.getElem?_cons_succ] at g0 g1 g2 g3 g4
      refine bodyPost_ret (v := nv T) (by simp [results, Tryz.results173, go_sem, g0, g1, g2, g3, g4]) rfl HV.out
    | false =>
      rw [hb] at HI HRES
      simp only [Bool.false_eq_true, if_false] at HRES
      clear hb
      go_wp2_with fail
      refine HI.out.mono ?_
      rintro e w5 ⟨rfl, hb5⟩
      have ek5 := E4.out.below hb5
      clear p0
      have p0 := cell_heap (ek5.box (z := w.heap.size) (o := rdb b) (by simp)) (i := 0)
      simp only [List.getElem?_toArray, List.getElem?_cons_zero] at p0
      have E5 := Lib.hid ek5
      clear ek5 hb5 HI E4 HMA
      go_wp2_with fail
      refine (E5.out.within0 175 eg_inside HWI.out HGI.out 32 ⟨#[40, 41]⟩ sRo sRo2 rfl rfl rfl HK.out.2.1 HK.out.2.2 (win_got HGI.out E5.out.ok HK.out.2.1 HK.out.2.2 32 sRo sRo2 _)).mono ?_
      rintro e w6 ⟨T, rfl, hp, ek6, -⟩
      have hz := ek6.box (z := w.heap.size + 1) (o := zb5) (by simp)
      have hfin := ek6.result (r := res) (T := T) (z := w.heap.size + 1) (by simp) (by simp) hz (by rw [← HRES.out]) (by rw [hp, ← HRES.out])
      clear ek6 hp p0 E5 hs0
      go_wp2_with (with_reducible refine stay_store 30 (.tmp 2) (.tmp 32) (by rfl) ?_)
      refine Stay.mk ?_
      refine wpList_store_node (by rfl) 30 (.tmp 2) (.tmp 32) (by rfl) size_tnode (w.heap.size + 1) T (by rfl) (by rfl) hz ?_
      generalize hw9 : set5 _ (w.heap.size + 1) T = w9 at hfin ⊢
      clear hz hw9
      obtain ⟨hs, hv⟩ := hfin
      have HV := Lib.hid hv
      clear hv
      go_wp2
      have g0 := cell_heap hs (i := 0)
      have g1 := cell_heap hs (i := 1)
      have g2 := cell_heap hs (i := 2)
      have g3 := cell_heap hs (i := 3)
      have g4 := cell_heap hs (i := 4)
      simp only [List.getElem?_toArray, List.getElem?_cons_zero, List.getElem?_cons_succ] at g0 g1 g2 g3 g4
      refine bodyPost_ret (v := nv T) (by simp [results, Tryz.results173, go_sem, g0, g1, g2, g3, g4]) rfl HV.out
  · rw [if_neg hsg] at HRES
    have hs0 : (sgl kd tx != 0) = true := by simp [bne, hsg]
    have HC := Lib.hid (anyk_any kd E4.out.cu E4.out.ok)
    have hG1 := Got.any HK.out.1 kd
    have HG1 := Lib.hid hG1
    generalize sgl kd tx = sg at hs0 HRES ⊢
    clear hsg hG1 HWI HGI HMA HGM
    go_wp2_with fail
    refine HC.out.mono ?_
    rintro e w5 ⟨NM, rfl, hp1, hT1, hm1, ho1⟩
    have ek5 := E4.out.got hT1 hm1 ⟨HG1.out.ok, HG1.out.L⟩ ho1
    have ek6 := ek5.rowOf sg 1 (l := [NM]) rfl (by simp) (.cells #[.int .i64 NM.k, .string NM.g, .string NM.t, .int .i64 NM.a, .slice NM.A NM.kids.length NM.c] 30 (0, 0)) 30 rfl
    have HNC := Lib.hid (node_any sg (some ⟨w5.heap.size, 0, none⟩) 1 [NM] (w5.alloc (.cells #[.int .i64 NM.k, .string NM.g, .string NM.t, .int .i64 NM.a, .slice NM.A NM.kids.length NM.c] 30 (0, 0))))
    have E6 := Lib.hid ek6
    clear ek5 ek6 hT1 hm1 ho1 p0 HC E4 hs0
    go_wp2_with fail
    refine HNC.out.mono ?_
    rintro e w7 ⟨rfl, hb7⟩
    have ek7 := E6.out.below hb7
    have hz := ek7.box (z := w.heap.size + 1) (o := zb5) (by simp)
    have hfin := ek7.result (r := res) (T := ⟨sg, ⟨#[]⟩, ⟨#[]⟩, 0, some ⟨w5.heap.size, 0, none⟩, 1, [NM]⟩) (z := w.heap.size + 1) (by simp) (by simp) hz (by rw [← HRES.out]) (by rw [pl_nod, ← HRES.out, ← hp1]; rfl)
    clear ek7 hb7 HNC E6
    obtain ⟨T, hTT⟩ : ∃ T : Tr, T = ⟨sg, ⟨#[]⟩, ⟨#[]⟩, 0, some ⟨w5.heap.size, 0, none⟩, 1, [NM]⟩ := ⟨_, rfl⟩
    rw [← hTT] at hfin
    have HTT := Lib.hid hTT
    go_wp2_with (with_reducible refine stay_store 30 (.tmp 2) (.tmp 23) (by rfl) ?_)
    refine Stay.mk ?_
    refine wpList_store_node (by rfl) 30 (.tmp 2) (.tmp 23) (by rfl) size_tnode (w.heap.size + 1) T (by rfl) (by rw [hTT]; rfl) hz ?_
    clear hTT
    generalize hw9 : set5 _ (w.heap.size + 1) T = w9 at hfin ⊢
    clear hz hw9
    obtain ⟨hs, hv⟩ := hfin
    have HV := Lib.hid hv
    clear hv
    go_wp2
    have g0 := cell_heap hs (i := 0)
    have g1 := cell_heap hs (i := 1)
    have g2 := cell_heap hs (i := 2)
    have g3 := cell_heap hs (i := 3)
    have g4 := cell_heap hs (i := 4)
    simp only [List.getElem?_toArray, List.getElem?_cons_zero, List.getElem?_cons_succ] at g0 g1 g2 g3 g4
    refine bodyPost_ret (v := nv T) (by simp [results, Tryz.results173, go_sem, g0, g1, g2, g3, g4]) rfl HV.out

/-- ahead of each round of factor -/
structure FcI (b : Nat) (A : Option Addr) (c : Nat) (w : World) (ex : Cu → Cu × Tr) (C : Cu) (res : Cu × Tr) (x q : Nat) (C' : Cu) (T : Tr) (W : World) : Prop where
  ek : EK b A c no (· = b) w C' [(x, .cells (ncc T) 30 (0, 0)), (w.heap.size + 1, zb5), (w.heap.size, rdb b)] [x, w.heap.size + 1, w.heap.size] [T] W
  lf : C'.left ≤ q
  res : fl ex q (C', pl T) = res
  d : C'.d = C.d
  L : C'.L = C.L

set_option maxRecDepth 100000 in
set_option maxHeartbeats 8000000 in
theorem factor_any {ex fc : Cu → Cu × Tr} {D : Nat} (hE : PartF 128 b A c ex (D + 1)) (hG : GX ex (D + 1)) (hF : PartF 164 b A c fc (D + 1)) (hGF : GX fc (D + 1)) : PartF 164 b A c (fac ex fc) D := by
  intro w C h hk hd hD
  have ek2 := EK.start h hk
  have HI := Lib.hid (is_any 0 sNot ⟨by omega, by omega⟩ ek2.cu ek2.ok)
  unfold Rd at HI
  have p0 := cell_heap (ek2.box (z := w.heap.size) (o := rdb b) (by simp)) (i := 0)
  simp only [List.getElem?_toArray, List.getElem?_cons_zero] at p0
  have E2 := Lib.hid ek2
  have HNT := Lib.hid (not_any hF hGF)
  have HGN := Lib.hid (Got.ntt hGF)
  have HOP := Lib.hid (operand_any hE hG)
  have HGO := Lib.hid (Got.opd hG)
  have HWI := Lib.hid (inside_any hE hG)
  have HGI := Lib.hid (Got.ins hG)
  have HEE := Lib.hid (And.intro hE hG)
  have HK := Lib.hid (And.intro hk (And.intro hd hD))
  clear ek2 hE hG hF hGF h hk hd hD
  generalize hres : fac ex fc C = res
  have HRES := Lib.hid hres
  clear hres
  unfold fac at HRES
  cases hb : C.isb 0 sNot with
  | true =>
    rw [hb] at HI HRES
    simp only [if_true] at HRES
    clear hb HOP HGO HWI HGI HEE
    go_enter Tryz.func164, Tryz.ntmps164
    go_wp2_with fail
    refine HI.out.mono ?_
    rintro e w5 ⟨rfl, hb5⟩
    have ek5 := E2.out.below hb5
    have HM := Lib.hid (HNT.out _ C ek5.cu HK.out.1 HK.out.2.1 HK.out.2.2)
    have hG1 := HGN.out C HK.out.1 HK.out.2.1 HK.out.2.2
    have HG1 := Lib.hid hG1
    clear p0
    have p0 := cell_heap (ek5.box (z := w.heap.size) (o := rdb b) (by simp)) (i := 0)
    simp only [List.getElem?_toArray, List.getElem?_cons_zero] at p0
    have E5 := Lib.hid ek5
    clear ek5 hb5 hG1 HI E2
    go_wp2_with fail
    refine HM.out.mono ?_
    rintro e w6 ⟨T, rfl, hp, hT, hm, ho⟩
    have ek6 := E5.out.got hT hm ⟨HG1.out.ok, HG1.out.L⟩ ho
    have hz := ek6.box (z := w.heap.size + 1) (o := zb5) (by simp)
    have hfin := ek6.result (r := res) (T := T) (z := w.heap.size + 1) (by simp) (by simp) hz (by rw [← HRES.out]) (by rw [hp, HRES.out])
    clear ek6 hT hm ho hp p0 HM E5
    go_wp2_with (with_reducible refine stay_store 30 (.tmp 2) (.tmp 8) (by rfl) ?_)
    refine Stay.mk ?_
    refine wpList_store_node (by rfl) 30 (.tmp 2) (.tmp 8) (by rfl) size_tnode (w.heap.size + 1) T (by rfl) (by rfl) hz ?_
    generalize hw9 : set5 _ (w.heap.size + 1) T = w9 at hfin ⊢
    clear hz hw9
    obtain ⟨hs, hv⟩ := hfin
    have HV := Lib.hid hv
    clear hv
    go_wp2
    have g0 := cell_heap hs (i := 0)
    have g1 := cell_heap hs (i := 1)
    have g2 := cell_heap hs (i := 2)
    have g3 := cell_heap hs (i := 3)
    have g4 := cell_heap hs (i := 4)
    simp only [List.getElem?_toArray, List.getElem?_cons_zero, List.getElem?_cons_succ] at g0 g1 g2 g3 g4
    refine bodyPost_ret (v := nv T) (by simp [results, Tryz.results164, go_sem, g0, g1, g2, g3, g4]) rfl HV.out
  | false =>
    rw [hb] at HI HRES
    simp only [Bool.false_eq_true, if_false] at HRES
    clear hb HNT HGN
    go_enter Tryz.func164, Tryz.ntmps164
    go_wp2_with fail
    refine HI.out.mono ?_
    rintro e w5 ⟨rfl, hb5⟩
    have ek5 := E2.out.below hb5
    have HM := Lib.hid (HOP.out _ C ek5.cu HK.out.1 HK.out.2.1 HK.out.2.2)
    have hG1 := HGO.out C HK.out.1 HK.out.2.1 HK.out.2.2
    have HG1 := Lib.hid hG1
    clear p0
    have p0 := cell_heap (ek5.box (z := w.heap.size) (o := rdb b) (by simp)) (i := 0)
    simp only [List.getElem?_toArray, List.getElem?_cons_zero] at p0
    have E5 := Lib.hid ek5
    clear ek5 hb5 hG1 HI E2
    go_wp2_with fail
    refine HM.out.mono ?_
    rintro e w6 ⟨T, rfl, hp, hT, hm, ho⟩
    have ek6 := E5.out.got hT hm ⟨HG1.out.ok, HG1.out.L⟩ ho
    have ek7 := ek6.local_ T
    have hz6 := heap_alloc_new w6 zb5
    have hwx : w.heap.size + 1 < w6.heap.size := ek6.lt (z := w.heap.size + 1) (o := zb5) (by simp)
    clear ek6 hT hm ho p0 HM E5
    go_wp2_with (with_reducible refine stay_store 30 (.tmp 3) (.tmp 10) (by rfl) ?_)
    refine Stay.mk ?_
    refine wpList_store_node (by rfl) 30 (.tmp 3) (.tmp 10) (by rfl) size_tnode (w6.heap.size) T (by rfl) (by rfl) hz6 ?_
    generalize set5 (w6.alloc zb5) w6.heap.size T = w7 at ek7 ⊢
    generalize w6.heap.size = x at ek7 hwx ⊢
    clear hz6 w6
    have HI0 : Hid (FcI b A c w ex C res x (opd ex C).1.left (opd ex C).1 T w7) := Lib.hid ⟨ek7, Nat.le_refl _, by rw [← HRES.out, hp], HG1.out.d, HG1.out.L⟩
    clear ek7 hp
    go_wp2
    simp only [Act.put]
    go_loopw [12] (fun _ wr => ∃ (q : Nat) (C' : Cu) (T : Tr), True ∧ Hid (FcI b A c w ex C res x q C' T wr)) (fun _ wr => lfc b C.L.length wr)
    case atStart => exact ⟨_, _, _, trivial, HI0⟩
    case round =>
      obtain ⟨q, C', T, -, HD⟩ := hrel
      clear HI0
      have ek := HD.out.ek
      have HI := Lib.hid (is_any 0 sSq ⟨by omega, by omega⟩ ek.cu ek.ok)
      unfold Rd at HI
      have p0 := cell_heap (ek.box (z := w.heap.size) (o := rdb b) (by simp)) (i := 0)
      simp only [List.getElem?_toArray, List.getElem?_cons_zero] at p0
      have HCU := Lib.hid (And.intro ek.cu ek.ok)
      have E7 := Lib.hid ek
      have hdd : C'.d ≤ 200 ∧ D ≤ C'.d := by rw [HD.out.d]; exact HK.out.2
      have HDD := Lib.hid hdd
      clear ek hdd
      cases hb : C'.isb 0 sSq with
      | true =>
        rw [hb] at HI
        have hl := win_left HGI.out E7.out.ok HDD.out.1 HDD.out.2 22 sSq2 [pl T] hb
        have hgot := win_got HGI.out E7.out.ok HDD.out.1 HDD.out.2 22 sSq sSq2 [pl T]
        have hdd : (win 22 sSq sSq2 (ins ex) [pl T] C').1.d = C.d := by
          rw [win_fst]
          exact (Got.win (k := 22) (o := sSq) (s := sSq2) ⟨by omega, by omega⟩ HGI.out HDD.out.1 HDD.out.2 (Got.refl E7.out.ok)).d.trans HD.out.d
        have hlf := HD.out.lf
        obtain ⟨q, rfl⟩ : ∃ q', q = q' + 1 := ⟨q - 1, by omega⟩
        have hres := HD.out.res
        unfold fl at hres
        simp only [hb, if_true] at hres
        have HRES2 := Lib.hid hres
        have HL := Lib.hid (And.intro hl (And.intro hdd (And.intro (hgot.2.trans HD.out.L) (show (win 22 sSq sSq2 (ins ex) [pl T] C').1.left ≤ q from by omega))))
        have HGT := Lib.hid hgot
        clear hb hl hgot hdd hlf hres HD
        go_wp2_with fail
        refine HI.out.mono ?_
        rintro e w8 ⟨rfl, hb8⟩
        have ek8 := E7.out.below hb8
        clear p0
        have p0 := cell_heap (ek8.box (z := w.heap.size) (o := rdb b) (by simp)) (i := 0)
        simp only [List.getElem?_toArray, List.getElem?_cons_zero] at p0
        obtain ⟨t0, t1, t2, t3, t4⟩ := heap5 (ek8.box (z := x) (o := .cells (ncc T) 30 (0, 0)) (by simp))
        have E8 := Lib.hid ek8
        have HC := Lib.hid (ek8.within 175 eg_inside HWI.out HGI.out 22 ⟨#[91, 93]⟩ sSq sSq2 rfl rfl rfl HDD.out.1 HDD.out.2 [T] 1 rfl (by simp) (by omega) (.cells #[.int .i64 T.k, .string T.g, .string T.t, .int .i64 T.a, .slice T.A T.kids.length T.c] 30 (0, 0)) rfl (win_got HGI.out ek8.ok HDD.out.1 HDD.out.2 22 sSq sSq2 _))
        clear ek8 hb8 HI E7
        go_wp2_with fail
        refine HC.out.mono ?_
        rintro e w9 ⟨U, rfl, hpw, ek9, -⟩
        have hz := ek9.box (z := x) (o := .cells (ncc T) 30 (0, 0)) (by simp)
        have ek10 := ek9.store (bs' := [(x, .cells (ncc U) 30 (0, 0)), (w.heap.size + 1, zb5), (w.heap.size, rdb b)]) U (z := x) (by simp) hz (by
          intro q hq
          simp only [List.mem_cons, List.not_mem_nil, or_false] at hq
          rcases hq with rfl | rfl | rfl
          · exact .inl rfl
          all_goals exact .inr ⟨by simp, by dsimp only; omega⟩)
        clear ek9 t0 t1 t2 t3 t4 p0 HC E8
        go_wp2_with (with_reducible refine stay_store 30 (.tmp 3) (.tmp 21) (by rfl) ?_)
        refine Stay.mk ?_
        refine wpList_store_node (by rfl) 30 (.tmp 3) (.tmp 21) (by rfl) size_tnode (x) U (by rfl) (by rfl) hz ?_
        generalize set5 w9 x U = w10 at ek10 ⊢
        have E10 := Lib.hid (ek10.sub (bs' := _) (ts' := [U]) (fun _ h => h) (by simp))
        clear hz ek10
        go_wp2
        simp only [Act.put]
        go_roundw
        case rel => exact ⟨q, (win 22 sSq sSq2 (ins ex) [pl T] C').1, U, trivial, Lib.hid ⟨E10.out, HL.out.2.2.2, by rw [hpw]; exact HRES2.out, HL.out.2.1, HL.out.2.2.1⟩⟩
        case measure =>
          show lfc b _ _ < lfc b _ _
          have e1 := lfc_eq E10.out.cu
          have e2 := lfc_eq HCU.out.1
          have l1 : (win 22 sSq sSq2 (ins ex) [pl T] C').1.L = C.L := HL.out.2.2.1
          have l2 : C'.L = C.L := l1 ▸ HGT.out.2.symm
          have e1' : lfc b C.L.length w10 = (win 22 sSq sSq2 (ins ex) [pl T] C').1.left := by rw [← l1]; exact e1
          rw [l2] at e2
          have := HL.out.1
          omega
      | false =>
        rw [hb] at HI
        go_wp2_with fail
        refine HI.out.mono ?_
        rintro e w8 ⟨rfl, hb8⟩
        have ek8 := E7.out.below hb8
        have HI2 := Lib.hid (is_any 0 sDot ⟨by omega, by omega⟩ ek8.cu ek8.ok)
        unfold Rd at HI2
        clear p0
        have p0 := cell_heap (ek8.box (z := w.heap.size) (o := rdb b) (by simp)) (i := 0)
        simp only [List.getElem?_toArray, List.getElem?_cons_zero] at p0
        have E8 := Lib.hid ek8
        clear ek8 hb8 HI E7
        cases hb2 : C'.isb 0 sDot with
        | true =>
          rw [hb2] at HI2
          obtain ⟨hl, hg1, hg2, hg3⟩ := dot_left HEE.out.2 E8.out.ok HDD.out.1 HDD.out.2 (pl T) hb2
          have hlf := HD.out.lf
          obtain ⟨q, rfl⟩ : ∃ q', q = q' + 1 := ⟨q - 1, by omega⟩
          have hres := HD.out.res
          unfold fl at hres
          simp only [hb, hb2, Bool.false_eq_true, if_false, if_true] at hres
          have HRES2 := Lib.hid hres
          have HL := Lib.hid (And.intro hl (And.intro (hg3.trans HD.out.d) (And.intro (hg2.trans HD.out.L) (show (dot ex (pl T) C').1.left ≤ q from by omega))))
          have HGT := Lib.hid (And.intro hg1 hg2)
          clear hb hb2 hl hg1 hg2 hg3 hlf hres HD
          go_wp2_with fail
          refine HI2.out.mono ?_
          rintro e w9 ⟨rfl, hb9⟩
          have ek9 := E8.out.below hb9
          clear p0
          have p0 := cell_heap (ek9.box (z := w.heap.size) (o := rdb b) (by simp)) (i := 0)
          simp only [List.getElem?_toArray, List.getElem?_cons_zero] at p0
          obtain ⟨t0, t1, t2, t3, t4⟩ := heap5 (ek9.box (z := x) (o := .cells (ncc T) 30 (0, 0)) (by simp))
          have HC := Lib.hid (dotted_any HEE.out.1 HEE.out.2 (fun k => (no k ∨ w.heap.size ≤ k ∧ k < w9.heap.size) ∧ k ∉ [x, w.heap.size + 1, w.heap.size]) T w9 C' (fun k hk => ek9.inS hk.1) (ek9.tn T (by simp)) ek9.cu ek9.ok HDD.out.1 HDD.out.2)
          have E9 := Lib.hid ek9
          clear ek9 hb9 HI2 E8
          go_wp2_with fail
          refine HC.out.mono ?_
          rintro e w10 ⟨U, rfl, hpw, hT, hm, ho⟩
          have ek10 := E9.out.gotw hT hm HGT.out ho
          have hz := ek10.box (z := x) (o := .cells (ncc T) 30 (0, 0)) (by simp)
          have ek11 := ek10.store (bs' := [(x, .cells (ncc U) 30 (0, 0)), (w.heap.size + 1, zb5), (w.heap.size, rdb b)]) U (z := x) (by simp) hz (by
            intro q hq
            simp only [List.mem_cons, List.not_mem_nil, or_false] at hq
            rcases hq with rfl | rfl | rfl
            · exact .inl rfl
            all_goals exact .inr ⟨by simp, by dsimp only; omega⟩)
          clear ek10 hT hm ho t0 t1 t2 t3 t4 p0 HC E9
          go_wp2_with (with_reducible refine stay_store 30 (.tmp 3) (.tmp 28) (by rfl) ?_)
          refine Stay.mk ?_
          refine wpList_store_node (by rfl) 30 (.tmp 3) (.tmp 28) (by rfl) size_tnode (x) U (by rfl) (by rfl) hz ?_
          generalize set5 w10 x U = w11 at ek11 ⊢
          have E11 := Lib.hid (ek11.sub (bs' := _) (ts' := [U]) (fun _ h => h) (by simp))
          clear hz ek11
          go_wp2
          simp only [Act.put]
          go_roundw
          case rel => exact ⟨q, (dot ex (pl T) C').1, U, trivial, Lib.hid ⟨E11.out, HL.out.2.2.2, by rw [hpw]; exact HRES2.out, HL.out.2.1, HL.out.2.2.1⟩⟩
          case measure =>
            show lfc b _ _ < lfc b _ _
            have e1 := lfc_eq E11.out.cu
            have e2 := lfc_eq HCU.out.1
            have l1 : (dot ex (pl T) C').1.L = C.L := HL.out.2.2.1
            have l2 : C'.L = C.L := l1 ▸ HGT.out.2.symm
            have e1' : lfc b C.L.length w11 = (dot ex (pl T) C').1.left := by rw [← l1]; exact e1
            rw [l2] at e2
            have := HL.out.1
            omega
        | false =>
          rw [hb2] at HI2
          have hres : (C', pl T) = res := by
            rw [← HD.out.res]
            cases q with
            | zero => rfl
            | succ q => unfold fl; simp only; rw [hb, hb2]; rfl
          clear hb hb2 HD
          go_wp2_with fail
          refine HI2.out.mono ?_
          rintro e w9 ⟨rfl, hb9⟩
          have ek9 := E8.out.below hb9
          obtain ⟨t0, t1, t2, t3, t4⟩ := heap5 (ek9.box (z := x) (o := .cells (ncc T) 30 (0, 0)) (by simp))
          have hz := ek9.box (z := w.heap.size + 1) (o := zb5) (by simp)
          have hfin := ek9.result (r := res) (T := T) (z := w.heap.size + 1) (by simp) (by simp) hz (by rw [← hres]) (by rw [← hres])
          clear ek9 hb9 hres p0 HI2 E8
          go_wp2_with (with_reducible refine stay_store 30 (.tmp 2) (.tmp 11) (by rfl) ?_)
          refine Stay.mk ?_
          refine wpList_store_node (by rfl) 30 (.tmp 2) (.tmp 11) (by rfl) size_tnode (w.heap.size + 1) T (by rfl) (by rfl) hz ?_
          generalize set5 w9 (w.heap.size + 1) T = w10 at hfin ⊢
          clear hz t0 t1 t2 t3 t4
          obtain ⟨hs, hv⟩ := hfin
          have HV := Lib.hid hv
          clear hv
          go_wp2
          have g0 := cell_heap hs (i := 0)
          have g1 := cell_heap hs (i := 1)
          have g2 := cell_heap hs (i := 2)
          have g3 := cell_heap hs (i := 3)
          have g4 := cell_heap hs (i := 4)
          simp only [List.getElem?_toArray, List.getElem?_cons_zero, List.getElem?_cons_succ] at g0 g1 g2 g3 g4
          refine bodyPost_ret (v := nv T) (by simp [results, Tryz.results164, go_sem, g0, g1, g2, g3, g4]) rfl HV.out
end
/-- a factor, so many constructs left -/
theorem fcN_any (b : Nat) (A : Option Addr) (c : Nat) : ∀ k, k ≤ 201 → PartF 164 b A c (fcN k) (201 - k)
  | 0, _ => fun W C _ _ h2 h1 => absurd h1 (by omega)
  | k + 1, h => by
    have ih := fcN_any b A c k (by omega)
    have ig := Got.fcN k (by omega)
    rw [show 201 - k = (201 - (k + 1)) + 1 from by omega] at ih ig
    exact factor_any (expression_any (comparison_any (sum_any (product_any ih ig) ig) ig) ig) (Got.xpr ig) ih ig
/-- a factor, an expression, at any depth -/
theorem fcX_any (b : Nat) (A : Option Addr) (c : Nat) : PartF 164 b A c fcX 0 := fcN_any b A c 201 (Nat.le_refl _)
theorem exX_any (b : Nat) (A : Option Addr) (c : Nat) : PartF 128 b A c exX 0 :=
  expression_any (comparison_any (sum_any (product_any (fcX_any b A c) Got.fcX) Got.fcX) Got.fcX) Got.fcX
end Go.Proofs.YtfmlcddakfbleaaGreatDoor

namespace Go.Proofs.YtfmlcddakfbleaaGreatDoor
open Go.RowKit SignMath TreeMath

section
variable {b : Nat} {A : Option Addr} {c : Nat}
/-- what Parse comes to -/
def prs (C : Cu) : Cu × Tr := ((exX C).1, if (exX C).1.f = 0 then (exX C).2 else zn1)
set_option maxRecDepth 100000 in
set_option maxHeartbeats 8000000 in
theorem parse_any {w : World} {C : Cu} (h : CuM b A c C w) (hk : C.Ok) (hd : C.d ≤ 200) : Calls Tryz.prog 118 #[.pointer (some ⟨b, 0, none⟩)] w (TrV b A c (prs C) w) := by
  have ek2 := ((EK.begin h hk).alloc zb5).alloc (rdb b)
  rw [World.size_alloc] at ek2
  have HE := Lib.hid (exX_any b A c _ C ek2.cu hk hd (Nat.zero_le _))
  have hG := Got.exX C hk hd (Nat.zero_le _)
  have HG := Lib.hid hG
  have E2 := Lib.hid ek2
  clear ek2 hG h hk hd
  generalize hres : prs C = res
  have HRES := Lib.hid hres
  clear hres
  go_enter Tryz.func118, Tryz.ntmps118
  go_wp2_with fail
  refine HE.out.mono ?_
  rintro e w3 ⟨T, rfl, hp, hT, hm, ho⟩
  have ek3 := E2.out.got hT hm ⟨HG.out.ok, HG.out.L⟩ ho
  have ek4 := ek3.local_ T
  have hz3 := heap_alloc_new w3 zb5
  have hwx : w.heap.size + 1 < w3.heap.size := ek3.lt (z := w.heap.size + 1) (o := rdb b) (by simp)
  clear ek3 hT hm ho HE E2
  go_wp2_with (with_reducible refine stay_store 30 (.tmp 4) (.tmp 10) (by rfl) ?_)
  refine Stay.mk ?_
  refine wpList_store_node (by rfl) 30 (.tmp 4) (.tmp 10) (by rfl) size_tnode (w3.heap.size) T (by rfl) (by rfl) hz3 ?_
  generalize set5 (w3.alloc zb5) w3.heap.size T = w4 at ek4 ⊢
  generalize w3.heap.size = x at ek4 hwx ⊢
  clear hz3 w3
  have HF := Lib.hid (failed_any ek4.cu)
  have p0 := cell_heap (ek4.box (z := w.heap.size + 1) (o := rdb b) (by simp)) (i := 0)
  simp only [List.getElem?_toArray, List.getElem?_cons_zero] at p0
  unfold Rd Cu.fl at HF
  have E4 := Lib.hid ek4
  clear ek4
  by_cases hf : (exX C).1.f = 0
  · rw [if_pos hf] at HF
    have hr : ((exX C).1, (exX C).2) = res := by rw [← HRES.out]; unfold prs; rw [if_pos hf]
    have HR := Lib.hid hr
    clear hf hr
    go_wp2_with fail
    refine HF.out.mono ?_
    rintro e w5 ⟨rfl, hb5⟩
    have ek5 := E4.out.below hb5
    obtain ⟨t0, t1, t2, t3, t4⟩ := heap5 (ek5.box (z := x) (o := .cells (ncc T) 30 (0, 0)) (by simp))
    have hz := ek5.box (z := w.heap.size) (o := zb5) (by simp)
    have hfin := ek5.result (r := res) (T := T) (z := w.heap.size) (by simp) (by simp) hz (by rw [← HR.out]) (by rw [← HR.out, hp])
    clear ek5 hb5 hp p0 HF E4
    go_wp2_with (with_reducible refine stay_store 30 (.tmp 2) (.tmp 20) (by rfl) ?_)
    refine Stay.mk ?_
    refine wpList_store_node (by rfl) 30 (.tmp 2) (.tmp 20) (by rfl) size_tnode (w.heap.size) T (by rfl) (by rfl) hz ?_
    generalize set5 w5 w.heap.size T = w9 at hfin ⊢
    clear hz t0 t1 t2 t3 t4
    obtain ⟨hs, hv⟩ := hfin
    have HV := Lib.hid hv
    clear hv
    go_wp2
    have g0 := cell_heap hs (i := 0)
    have g1 := cell_heap hs (i := 1)
    have g2 := cell_heap hs (i := 2)
    have g3 := cell_heap hs (i := 3)
    have g4 := cell_heap hs (i := 4)
    simp only [List.getElem?_toArray, List.getElem?_cons_zero, List.getElem?_cons_succ] at g0 g1 g2 g3 g4
    refine bodyPost_ret (v := nv T) (by simp [results, Tryz.results118, go_sem, g0, g1, g2, g3, g4]) rfl HV.out
  · rw [if_neg hf] at HF
    have hr : ((exX C).1, zn1) = res := by rw [← HRES.out]; unfold prs; rw [if_neg hf]
    have HR := Lib.hid hr
    clear hf hr
    go_wp2_with fail
    refine HF.out.mono ?_
    rintro e w5 ⟨rfl, hb5⟩
    have ek5 := (E4.out.below hb5).leaf (T := zn1) rfl ⟨by show (-9223372036854775808 : Int) ≤ 0; omega, by show (0 : Int) ≤ 9223372036854775807; omega⟩
    have hz := ek5.box (z := w.heap.size) (o := zb5) (by simp)
    have hfin := ek5.result (r := res) (T := zn1) (z := w.heap.size) (by simp) (by simp) hz (by rw [← HR.out]) (by rw [← HR.out]; exact pl_leaf)
    clear ek5 hb5 hp p0 HF E4
    go_wp2_with (with_reducible refine stay_store 30 (.tmp 2) (.tmp 19) (by rfl) ?_)
    refine Stay.mk ?_
    refine wpList_store_node (by rfl) 30 (.tmp 2) (.tmp 19) (by rfl) size_tnode (w.heap.size) zn1 (by rfl) (by rfl) hz ?_
    generalize set5 w5 w.heap.size zn1 = w9 at hfin ⊢
    clear hz
    obtain ⟨hs, hv⟩ := hfin
    have HV := Lib.hid hv
    clear hv
    go_wp2
    have g0 := cell_heap hs (i := 0)
    have g1 := cell_heap hs (i := 1)
    have g2 := cell_heap hs (i := 2)
    have g3 := cell_heap hs (i := 3)
    have g4 := cell_heap hs (i := 4)
    simp only [List.getElem?_toArray, List.getElem?_cons_zero, List.getElem?_cons_succ] at g0 g1 g2 g3 g4
    refine bodyPost_ret (v := nv zn1) (by simp [results, Tryz.results118, go_sem, g0, g1, g2, g3, g4]) rfl HV.out
end

/-- can the whole text be read? its tree; what stands behind -/
def rok (s : ByteArray) : Bool := decide (s.size ≤ 4000) && (bad (tk (bs s) 0)).isNone && decide ((exX (cu0 s)).1.f = 0) && decide ((exX (cu0 s)).1.left = 0)
def rtr (s : ByteArray) : Tr := (exX (cu0 s)).2
def rtl (s : ByteArray) : ByteArray := (exX (cu0 s)).1.en
/-- what Read answers -/
def RedV (ok : Bool) (P : Tr) (tl : ByteArray) (w : World) (e : Ending) (w' : World) : Prop :=
  Below w.heap.size w w' ∧ match ok with
    | true => ∃ T, e = .returned (.tuple #[nv T, .string tl, .int .i64 0, .nilIface]) ∧ pl T = P ∧ Tn (nw w.heap.size w') w' T
    | false => ∃ (p k : Int), e = .returned (.tuple #[nv zn1, .string ⟨#[]⟩, .int .i64 p, errn k])
theorem RedV.ok {P : Tr} {tl : ByteArray} {w w' : World} {e : Ending} (hB : Below w.heap.size w w') (T : Tr) (he : e = .returned (.tuple #[nv T, .string tl, .int .i64 0, .nilIface])) (hp : pl T = P) (hT : Tn (nw w.heap.size w') w' T) : RedV true P tl w e w' := ⟨hB, T, he, hp, hT⟩
theorem RedV.err {P : Tr} {tl : ByteArray} {w w' : World} {e : Ending} (hB : Below w.heap.size w w') (p k : Int) (he : e = .returned (.tuple #[nv zn1, .string ⟨#[]⟩, .int .i64 p, errn k])) : RedV false P tl w e w' := ⟨hB, p, k, he⟩
theorem of_low2 {n b : Nat} {W W' : World} (h : Of b W W') (hn : n ≤ b) (hs : n ≤ W.heap.size) : Below n W W' :=
  ⟨h.os, h.tape, h.output, h.size, fun k hk => h.block k (by omega) (by show ¬ k = b; omega)⟩















































































































































































































































































/-- a text that can be read: its tree's leaves are the text's, it is right, and no heavier than that -/
theorem rok_facts {s : ByteArray} (h : rok s = true) : s.size ≤ 4000 ∧ rgt (rtr s) = true ∧ TreeMath.lf (rtr s) = lvl s 0 (cu0 s).L ∧ wt (rtr s) ≤ 9000 ∧ tx (TreeMath.lf (rtr s)) ++ rtl s = s := by
  unfold rok at h
  simp only [Bool.and_eq_true, decide_eq_true_eq] at h
  obtain ⟨⟨⟨hs, hb⟩, hf⟩, hl⟩ := h
  have hk := cu0_ok s hs
  have hG := Got.exX (cu0 s) hk (Nat.zero_le _) (Nat.zero_le _)
  have hn : (exX (cu0 s)).1.n = (cu0 s).L.length := by
    have h1 := hG.ok.n
    rw [hG.L] at h1
    unfold Cu.left at hl
    rw [if_pos hf, hG.L] at hl
    omega
  have hlv := hG.lv hf
  rw [hn, List.take_length] at hlv
  have h0 : (cu0 s).L.take (cu0 s).n = [] := rfl
  rw [h0] at hlv
  have hlf : TreeMath.lf (rtr s) = lvl s 0 (cu0 s).L := by
    have : lvl (cu0 s).s 0 (cu0 s).L = lvl (cu0 s).s 0 [] ++ [rtr s].flatMap TreeMath.lf := hlv
    rw [List.flatMap_cons, List.flatMap_nil, List.append_nil] at this
    exact this.symm
  have hr : rgt (rtr s) = true := hG.rg hf _ (by simp [rtr])
  have hen : rtl s = (cuk s (cu0 s).L.length).en := by
    unfold rtl Cu.en
    rw [if_pos ⟨hf, hl⟩, if_pos ⟨rfl, by rw [cuk_left, Nat.sub_self]⟩]
    have e1 : (exX (cu0 s)).1.s = s := hG.s
    have e2 : (exX (cu0 s)).1.beh = (cuk s (cu0 s).L.length).beh := by
      unfold Cu.beh
      rw [hn, hG.L]
      rfl
    rw [e1, e2]
    rfl
  have htx : tx (TreeMath.lf (rtr s)) ++ rtl s = s := by rw [hlf, hen]; exact cu0_all s
  refine ⟨hs, hr, hlf, ?_, htx⟩
  have h1 := wt_le hr
  have h2 : (tx (TreeMath.lf (rtr s))).size ≤ s.size := by
    have := congrArg ByteArray.size htx
    rw [ByteArray.size_append] at this
    omega
  have h3 := hG.cn hf
  simp only [List.map_cons, List.map_nil, List.sum_cons, List.sum_nil, List.flatMap_cons, List.flatMap_nil, List.append_nil] at h3
  have h4 : (TreeMath.lf (rtr s)).length ≤ 4000 := by
    rw [hlf, lvl_len]
    exact hk.len
  have h5 : TreeMath.cn (rtr s) + 0 + 0 ≤ 2 * (TreeMath.lf (rtr s)).length := h3
  omega
end Go.Proofs.YtfmlcddakfbleaaGreatDoor
