/- plainList's closure put: the edit that ends at a place. -/
import Derived.Test.YtgfafinpcpiogaaShiftBuilder
namespace Go.Proofs.Ytgfafinpcpiogaa
open Go.RowKit Go.Shelf EditMath ShiftMath

attribute [local go_sem] Oper.semAt_some

/-- one edit appended, at a step of a region that draws its order; and where the row lies -/
theorem step_append_ed_at {ops : Array Oper} {o : Oper} {a : Act} {K : Act → World → Prop} {Q : Exit → Act → World → Prop} {E : Prop} (hgd : o.guard = none) (s x : Operand)
    (ho : o.op = .call { callee := .builtin .append, args := #[s, x], argTypes := #[22, 22] }) (V : World) (base : Nat) (A : Option Addr) (c : Nat) (m : List Ed) (e : Ed) (X : Nat)
    (hs : a.eval s = .slice A m.length c) (hx : a.eval x = .slice (some ⟨X, 0, none⟩) 1 1) (hblk : V.heap[X]? = some (.cells #[.int .i64 e.f, .int .i64 e.t, .string e.s] 87 (0, 0))) (hown : Own V base A c m) (hn : m.length ≤ 10000) (hbase : base ≤ V.heap.size)
    (h : ∀ A' c' w', Own w' base A' c' (m ++ [e]) → V.grownBy w' (Value.slice A m.length c).ownBlock → ((Value.slice A' (m ++ [e]).length c').ownBlock = (Value.slice A m.length c).ownBlock ∨ (Value.slice A' (m ++ [e]).length c').ownBlock = some V.heap.size) → K (a.put o.dst (.slice A' (m ++ [e]).length c')) w') :
    if Region.wanted o (yielded ops a.tmps) = true then Oper.wp Try.prog o a V K Q else E := by
  obtain ⟨i0, hi, hz0, hz1, hz2⟩ := info_parts info_edit
  have hw : Region.wanted o (yielded ops a.tmps) = true := by simp [Region.wanted, hgd]
  rw [if_pos hw]
  obtain ⟨v', w', hr, h2, h3, _, h4⟩ := run_append_own_at (P := Try.prog) V base 22 o.type 87 i0 _ 3 32 Try.underlying22 hi hz0 hz1 hz2 rfl (by decide) _ _ _ hown ⟨X, 0, none⟩ 1 1 (ecs e) rfl
    (World.news_of_block (cs := #[.int .i64 e.f, .int .i64 e.t, .string e.s]) hblk) (by intro u hu; simp [ecs] at hu; rcases hu with rfl | rfl | rfl <;> rfl) (by unfold maxLen; omega) (by omega) hbase
  unfold Oper.wp execOp
  simp only [ho, resolve, invoke, builtin, Sem.run_bind, Sem.run_pure, Result.andThen_ok, List.map_toArray, List.map_cons, List.map_nil, hs, hx, hr]
  have he : ecells m ++ ecs e = ecells (m ++ [e]) := by rw [ecells_append]; simp [ecells]
  rw [he] at h2
  obtain ⟨A', c', rfl, _, ho'⟩ := own_form h2
  exact h A' c' w' ho' h3 h4

theorem Off.has' {M X : Nat → Prop} {W W' : World} {b : Nat} {o : Obj} (h : Off M W W') (hh : Has b o X W) (hM : ¬ M b) : Has b o X W' := ⟨hh.1, (h.block b hh.lt hM).trans hh.2⟩
theorem Off.low' {M X : Nat → Prop} {w W W' : World} {n : Nat} (h : Off M W W') (hl : Low n w X W) (hM : ∀ k, M k → n ≤ k) : Low n w X W' :=
  ⟨hl.1.trans ⟨h.os, h.tape, h.output, h.size, fun k hk => h.block k (Nat.lt_of_lt_of_le hk hl.2.1) (fun hm => by have := hM k hm; omega)⟩, Nat.le_trans hl.2.1 h.size, hl.2.2⟩
theorem Off.row' {M X : Nat → Prop} {W W' : World} {base : Nat} {e : TypeId} {size : Nat} {v : Value} {n : Nat} {cs : List Value} (h : Off M W W') (hr : Row base e size v n cs X W) (hM : ∀ k, v.ownBlock = some k → ¬ M k) : Row base e size v n cs X W' := by
  obtain ⟨⟨h1, h2⟩, h3⟩ := hr
  refine ⟨⟨h1, ?_⟩, h3⟩
  rcases h2 with h2 | ⟨g, cap, cur, hv, hb, hg, r⟩
  · exact .inl h2
  · exact .inr ⟨g, cap, cur, hv, hb, (h.block g (Array.getElem?_eq_some_iff.1 hg).1 (hM g (by rw [hv]; rfl))).trans hg, r⟩
theorem Off.bd' {M X : Nat → Prop} {W W' : World} {B b : Nat} {l : List UInt8} (h : Off M W W') (hd : Bd B b l X W) (hM : ¬ M b) (hMk : XOk M W) : Bd B b l X W' := by
  have h1 := (Bd.frames _ _ _).off (Bd.of hd.isF hM hMk) h
  obtain ⟨hX, p, v, hp, hB, hb, ho, hn, hk⟩ := hd
  obtain ⟨_, p', v', hp', hB', hb', ho', hn', hk'⟩ := h1
  have e := (h.block b (Array.getElem?_eq_some_iff.1 hb).1 hM).trans hb
  rw [hb'] at e
  injection e with e
  injection e with e
  simp at e
  obtain ⟨rfl, rfl⟩ := e
  exact ⟨hX, p', v', hp', hB', hb', ho', hn', hk⟩
/-- a row of edits is not the builder -/
theorem row_ne2 {W : World} {base size n B b : Nat} {v : Value} {cs : List Value} {l : List UInt8} {X : Nat → Prop} (h : W.ownsRow base 87 size v n cs) (hd : Bd B b l X W) : ∀ k, v.ownBlock = some k → k ≠ b := by
  intro k hk e
  subst e
  obtain ⟨_, p, u, _, _, hb, _⟩ := hd
  rcases h.2 with ⟨rfl, _⟩ | ⟨g, cap, cur, rfl, _, hg, _⟩
  · simp [Value.ownBlock] at hk
  · simp [Value.ownBlock] at hk
    subst hk
    rw [hg] at hb
    injection hb with hb
    injection hb with _ hb
    exact absurd hb (by decide)

/-- what plainList holds -/
structure PL (w : World) (bL bT bF : Nat) (A : Option Addr) (c : Nat) (out : List Ed) (at_ : Int) (tx : List UInt8) (X : Nat → Prop) (W : World) : Prop where
  low : Low w.heap.size w X W
  hF : Has bF (.cells #[.int .i64 at_] 3 (0, 0)) X W
  hT : Bd w.heap.size bT tx X W
  hL : Has bL (.cells #[.slice A out.length c] 22 (0, 0)) X W
  hR : Row w.heap.size 87 3 (.slice A out.length c) out.length (ecells out) X W
theorem PL.frames (w : World) (bL bT bF : Nat) (A : Option Addr) (c : Nat) (out : List Ed) (at_ : Int) (tx : List UInt8) : Frames (PL w bL bT bF A c out at_ tx) := fun X X' W W' h ho hx =>
  ⟨Low.frames _ _ X X' W W' h.low ho hx, Has.frames _ _ X X' W W' h.hF ho hx, Bd.frames _ _ _ X X' W W' h.hT ho hx, Has.frames _ _ X X' W W' h.hL ho hx, Row.frames _ _ _ _ _ _ X X' W W' h.hR ho hx⟩

/-- behind the append: the box still holds the elder row -/
structure PA (w : World) (bL bT bF : Nat) (A : Option Addr) (c n : Nat) (A2 : Option Addr) (c2 : Nat) (out2 : List Ed) (at_ : Int) (tx : List UInt8) (X : Nat → Prop) (W : World) : Prop where
  low : Low w.heap.size w X W
  hF : Has bF (.cells #[.int .i64 at_] 3 (0, 0)) X W
  hT : Bd w.heap.size bT tx X W
  hL : Has bL (.cells #[.slice A n c] 22 (0, 0)) X W
  hR : Row w.heap.size 87 3 (.slice A2 out2.length c2) out2.length (ecells out2) X W

theorem PL.appended {w : World} {bL bT bF : Nat} {A A2 : Option Addr} {c c2 : Nat} {out out2 : List Ed} {at_ : Int} {tx : List UInt8} {X : Nat → Prop} {W4 w2 : World} {o : Obj} (h4 : PL w bL bT bF A c out at_ tx X W4) (hX4 : XOk X W4)
    (hown : Own w2 w.heap.size A2 c2 out2) (hgrow : (W4.alloc o).grownBy w2 (Value.slice A out.length c).ownBlock) (hat : (Value.slice A2 out2.length c2).ownBlock = (Value.slice A out.length c).ownBlock ∨ (Value.slice A2 out2.length c2).ownBlock = some (W4.alloc o).heap.size) :
    PA w bL bT bF A c out.length A2 c2 out2 at_ tx X w2 ∧ Kept X W4 w2 ∧ W4.heap.size ≤ w2.heap.size := by
  have hv := (PL.frames _ _ _ _ _ _ _ _ _).off h4 (Off.alloc _ W4 o)
  obtain ⟨hr, hk⟩ := Row.appended hv.hR hX4 (by simp) hown hgrow hat
  have ho : Off (fun k => (Value.slice A out.length c).ownBlock = some k) (W4.alloc o) w2 := Off.of_grown hgrow (fun k hk => hk)
  refine ⟨⟨ho.low' hv.low (fun k hk => (World.ownsRow.lt hv.hR.1 k hk).1), ho.has' hv.hF (fun e => row_ne hv.hR.1 hv.hF (by decide) e.symm), ho.bd' hv.hT (fun e => row_ne2 hv.hR.1 hv.hT _ e rfl) ?_, ho.has' hv.hL (fun e => row_ne hv.hR.1 hv.hL (by decide) e.symm), hr⟩, Kept.trans (by simp) (Kept.alloc _ _ _) hk, Nat.le_trans (by simp) hgrow.size⟩
  intro k hk
  rcases hv.hR.1.2 with ⟨h1, _⟩ | ⟨g, cap, cur, h1, _, hg, _⟩
  · rw [h1] at hk; simp [Value.ownBlock] at hk
  · rw [h1] at hk
    simp [Value.ownBlock] at hk
    subst hk
    exact ⟨_, hg, rfl⟩

theorem PL.stored {w : World} {bL bT bF : Nat} {A A2 : Option Addr} {c c2 n : Nat} {out2 : List Ed} {at_ : Int} {tx : List UInt8} {X : Nat → Prop} {W : World} (h : PA w bL bT bF A c n A2 c2 out2 at_ tx X W) (hne1 : bL ≠ bF) (hne2 : bL ≠ bT) (hbL : w.heap.size ≤ bL) :
    PL w bL bT bF A2 c2 out2 at_ tx X (W.setCell ⟨bL, 0, none⟩ (.slice A2 out2.length c2)) ∧ Kept X W (W.setCell ⟨bL, 0, none⟩ (.slice A2 out2.length c2)) ∧ W.heap.size ≤ (W.setCell ⟨bL, 0, none⟩ (.slice A2 out2.length c2)).heap.size := by
  have ho : Off (fun k => k = bL) W (W.setCell ⟨bL, 0, none⟩ (.slice A2 out2.length c2)) := Off.setCell (X := fun k => k = bL) (p := ⟨bL, 0, none⟩) rfl W _
  refine ⟨⟨ho.low' h.low (fun k hk => by omega), ho.has' h.hF (fun e => hne1 e.symm), ho.bd' h.hT (fun e => hne2 e.symm) (fun k hk => by subst hk; exact h.hL.ok), h.hL.set, row_set h.hR h.hL (by decide)⟩, Kept.set h.hL.1 _ _, by simp [World.setCell]⟩

def PuV (w : World) (bL bT bF : Nat) (st : JS) (to : Int) (X : Nat → Prop) (W : World) (e : Ending) (W' : World) : Prop := e = .returned (.tuple #[]) ∧ W.heap.size ≤ W'.heap.size ∧ Kept X W W' ∧ ∃ A c, PL w bL bT bF A c (jput st to) st.at_ [] X W'

set_option maxRecDepth 100000 in
set_option maxHeartbeats 1000000 in
theorem put_any (w : World) (bL bT bF : Nat) (A : Option Addr) (c : Nat) (st : JS) (to : Int) (X : Nat → Prop) (W : World) (hXb : XOk X W) (h : PL w bL bT bF A c st.out st.at_ st.tx X W) (hlen : st.out.length ≤ 10000) (hbL : w.heap.size ≤ bL) (hne1 : bL ≠ bF) (hne2 : bL ≠ bT) (hne3 : bF ≠ bT) :
    Calls Try.prog 91 #[.int .i64 to, .pointer (some ⟨bF, 0, none⟩), .pointer (some ⟨bT, 0, none⟩), .pointer (some ⟨bL, 0, none⟩)] W (PuV w bL bT bF st to X W) := by
  obtain ⟨out, at_, tx⟩ := st
  simp only at h hlen
  have f0 := h.hF.cell (i := 0)
  simp only [List.getElem?_toArray, List.getElem?_cons_zero] at f0
  have hsz : w.heap.size ≤ W.heap.size := h.low.2.1
  have H := Lib.hid h
  have HXB := Lib.hid hXb
  have HRT := Lib.hid (row_ne2 h.hR.1 h.hT)
  have HSZ : Hid (∀ W4, Oth w.heap.size bT W.drew W4 → W.heap.size ≤ W4.heap.size) := Lib.hid (fun W4 h => h.low.size)
  clear h hXb
  by_cases d1 : at_ < to
  · have HJ : Hid (jput ⟨out, at_, tx⟩ to = out ++ [⟨at_, to, ⟨tx.toArray⟩⟩]) := Lib.hid (by simp only [jput]; rw [if_pos (.inl d1)])
    go_enter Try.func91, Try.ntmps91
    go_wp2
    have hS : W.drew.cell? ⟨bF, 0, none⟩ = some (.int .i64 at_) := f0
    have l0 := H.out.hL.cell (i := 0)
    simp only [List.getElem?_toArray, List.getElem?_cons_zero] at l0
    have l0' : W.drew.cell? ⟨bL, 0, none⟩ = some (.slice A out.length c) := l0
    refine wp_region_held (S := fun W' => W'.cell? ⟨bF, 0, none⟩ = some (.int .i64 at_)) (by kernel_rfl) ?_
    show wpAnyH _ _ _ _ _ _ _ _ W.drew
    refine wpAnyH_take (i := 1) (v := .int .i64 at_) rfl (by kernel_rfl) (by kernel_rfl) (by kernel_rfl) (fun _ _ _ h => h) (Or.inl ⟨by rfl, fun w' hS' => ?y1⟩) hS ?_
    case y1 => go_simp
    refine wpAnyH_take (i := 2) (v := .int .i64 to) rfl (by kernel_rfl) (by kernel_rfl) (by kernel_rfl) (fun _ _ _ h => h) (Or.inl ⟨by rfl, fun w' hS' => ?y2⟩) hS ?_
    case y2 => go_simp
    simp only [Act.put, List.setIfInBounds_toArray]
    refine wpAnyH_ready (rs := [0, 3]) (by kernel_rfl) (by simp) ?_
    refine AllReadyH.cons rfl (fun K hK => ?b0) (AllReadyH.cons rfl (fun K hK => ?b3) AllReadyH.nil)
    case b0 =>
      go_simp
      refine hK.out _ _ hS (fun _ => ?_)
      clear hK K
      refine wpAnyH_ready (rs := [3]) (by kernel_rfl) (by simp) ?_
      refine AllReadyH.cons rfl (fun K hK => ?_) AllReadyH.nil
      go_simp
      refine (bdString (X := X) (W := W.drew) H.out.hT HXB.out hsz).mono ?_
      rintro r W4 ⟨rfl, hT4, hO4⟩
      have h4 : PL w bL bT bF A c out at_ tx X W4 := ⟨hO4.lows ((Low.frames _ _).off H.out.low (Off.drew _ _)), hO4.has H.out.hF hne3, hT4, hO4.has H.out.hL hne2, hO4.row H.out.hR HRT.out⟩
      have hk4 : Kept X W W4 := hO4.kept (X := X) H.out.hT.1 HXB.out
      have hs4 : W.heap.size ≤ W4.heap.size := HSZ.out _ hO4
      have hX4 : XOk X W4 := HXB.out.kept hk4
      have l4 := h4.hL.cell (i := 0)
      have s4 := h4.hF.cell (i := 0)
      simp only [List.getElem?_toArray, List.getElem?_cons_zero] at l4 s4
      refine hK.out _ _ s4 (fun _ => ?_)
      clear hK K hO4
      refine wpAnyH_ready (rs := [4]) (by kernel_rfl) (by simp) ?_
      refine AllReadyH.cons rfl (fun K hK => ?_) AllReadyH.nil
      go_simp
      refine hK.out _ _ s4 (fun _ => ?_)
      clear hK K
      refine wpAnyH_ready (rs := [5]) (by kernel_rfl) (by simp) ?_
      refine AllReadyH.cons rfl (fun K hK => ?_) AllReadyH.nil
      go_simp
      refine hK.out _ _ ((h4.hF.alloc _).cell (i := 0)) (fun _ => ?_)
      clear hK K
      try simp only [Act.put, List.setIfInBounds_toArray, List.set_cons_zero, List.set_cons_succ]
      refine wpAnyH_ready (rs := [6]) (by kernel_rfl) (by simp) ?_
      refine AllReadyH.cons rfl (fun K hK => ?_) AllReadyH.nil
      refine step_append_ed_at (by rfl) _ _ (by rfl) _ w.heap.size A c out ⟨at_, to, ⟨tx.toArray⟩⟩ W4.heap.size (by rfl) (by rfl) (World.alloc_heap_new W4 _) (World.ownsRow.alloc h4.hR.1 _) hlen (by have := h4.low.2.1; simp; omega) ?_
      intro A2 c2 w2 hown2 hgrow hat
      obtain ⟨h2, hk2, hs2⟩ := PL.appended h4 hX4 hown2 hgrow hat
      refine hK.out _ _ (h2.hF.cell (i := 0)) (fun _ => ?_)
      clear hK K hgrow hat
      have l2 := h2.hL.cell (i := 0)
      have g2 := h2.hL.frozen (i := 0)
      simp only [List.getElem?_toArray, List.getElem?_cons_zero] at l2
      refine wpAnyH_ready (rs := [7]) (by kernel_rfl) (by simp) ?_
      refine AllReadyH.cons rfl (fun K hK => ?_) AllReadyH.nil
      go_simp
      obtain ⟨h3, hk3, hs3⟩ := PL.stored (A2 := A2) (c2 := c2) (out2 := out ++ [⟨at_, to, ⟨tx.toArray⟩⟩]) h2 hne1 hne2 hbL
      have e1 : (out ++ [(⟨at_, to, ⟨tx.toArray⟩⟩ : Ed)]).length = out.length + 1 := by simp
      rw [e1] at h3 hk3 hs3
      refine hK.out _ _ (h3.hF.cell (i := 0)) (fun _ => ?_)
      clear hK K
      try simp only [Act.put, List.setIfInBounds_toArray, List.set_cons_zero, List.set_cons_succ]
      refine wpAnyH_done (by kernel_rfl) ?_ _
      have H3 := Lib.hid h3
      have hsz3 : W.heap.size ≤ (w2.setCell ⟨bL, 0, none⟩ (.slice A2 (out.length + 1) c2)).heap.size := Nat.le_trans hs4 (Nat.le_trans hs2 hs3)
      have hkk : Kept X W (w2.setCell ⟨bL, 0, none⟩ (.slice A2 (out.length + 1) c2)) := Kept.trans hs4 hk4 (Kept.trans hs2 hk2 hk3)
      have HKK := Lib.hid hkk
      have HSS := Lib.hid hsz3
      clear h3 hkk hsz3 l2 g2 h2 hk2 hk3 h4 hk4 hX4 hown2 l4 s4
      generalize (w2.setCell ⟨bL, 0, none⟩ (.slice A2 (out.length + 1) c2)) = W5 at *
      go_wp2_with (go_at_call 93; refine (bdReset H3.out.hT).mono ?_; rintro e w6 ⟨rfl, hT6, hO6, hs6⟩)
      refine bodyPost_end (results_none rfl _ _ _) rfl ?_
      refine ⟨rfl, by rw [hs6]; exact HSS.out, Kept.trans HSS.out HKK.out (Kept.of_off hO6 (fun k hk e => hT6.1 (e ▸ hk))), A2, c2, ?_⟩
      rw [HJ.out]
      exact ⟨hO6.low' H3.out.low (fun k hk => by have := H3.out.hT; obtain ⟨_, _, _, _, hB, _⟩ := this; omega), hO6.has' H3.out.hF hne3, hT6, hO6.has' H3.out.hL hne2, hO6.row' H3.out.hR (fun k hk e => row_ne2 H3.out.hR.1 H3.out.hT k hk e)⟩
    case b3 =>
      go_simp
      refine (bdString (X := X) (W := W.drew) H.out.hT HXB.out hsz).mono ?_
      rintro r W4 ⟨rfl, hT4, hO4⟩
      have h4 : PL w bL bT bF A c out at_ tx X W4 := ⟨hO4.lows ((Low.frames _ _).off H.out.low (Off.drew _ _)), hO4.has H.out.hF hne3, hT4, hO4.has H.out.hL hne2, hO4.row H.out.hR HRT.out⟩
      have hk4 : Kept X W W4 := hO4.kept (X := X) H.out.hT.1 HXB.out
      have hs4 : W.heap.size ≤ W4.heap.size := HSZ.out _ hO4
      have hX4 : XOk X W4 := HXB.out.kept hk4
      have l4 := h4.hL.cell (i := 0)
      have s4 := h4.hF.cell (i := 0)
      simp only [List.getElem?_toArray, List.getElem?_cons_zero] at l4 s4
      refine hK.out _ _ s4 (fun _ => ?_)
      clear hK K hO4
      refine wpAnyH_ready (rs := [0, 4]) (by kernel_rfl) (by simp) ?_
      refine AllReadyH.cons rfl (fun K hK => ?c0) (AllReadyH.cons rfl (fun K hK => ?c4) AllReadyH.nil)
      case c0 =>
        go_simp
        refine hK.out _ _ s4 (fun _ => ?_)
        clear hK K
        refine wpAnyH_ready (rs := [4]) (by kernel_rfl) (by simp) ?_
        refine AllReadyH.cons rfl (fun K hK => ?_) AllReadyH.nil
        go_simp
        refine hK.out _ _ s4 (fun _ => ?_)
        clear hK K
        refine wpAnyH_ready (rs := [5]) (by kernel_rfl) (by simp) ?_
        refine AllReadyH.cons rfl (fun K hK => ?_) AllReadyH.nil
        go_simp
        refine hK.out _ _ ((h4.hF.alloc _).cell (i := 0)) (fun _ => ?_)
        clear hK K
        try simp only [Act.put, List.setIfInBounds_toArray, List.set_cons_zero, List.set_cons_succ]
        refine wpAnyH_ready (rs := [6]) (by kernel_rfl) (by simp) ?_
        refine AllReadyH.cons rfl (fun K hK => ?_) AllReadyH.nil
        refine step_append_ed_at (by rfl) _ _ (by rfl) _ w.heap.size A c out ⟨at_, to, ⟨tx.toArray⟩⟩ W4.heap.size (by rfl) (by rfl) (World.alloc_heap_new W4 _) (World.ownsRow.alloc h4.hR.1 _) hlen (by have := h4.low.2.1; simp; omega) ?_
        intro A2 c2 w2 hown2 hgrow hat
        obtain ⟨h2, hk2, hs2⟩ := PL.appended h4 hX4 hown2 hgrow hat
        refine hK.out _ _ (h2.hF.cell (i := 0)) (fun _ => ?_)
        clear hK K hgrow hat
        have l2 := h2.hL.cell (i := 0)
        have g2 := h2.hL.frozen (i := 0)
        simp only [List.getElem?_toArray, List.getElem?_cons_zero] at l2
        refine wpAnyH_ready (rs := [7]) (by kernel_rfl) (by simp) ?_
        refine AllReadyH.cons rfl (fun K hK => ?_) AllReadyH.nil
        go_simp
        obtain ⟨h3, hk3, hs3⟩ := PL.stored (A2 := A2) (c2 := c2) (out2 := out ++ [⟨at_, to, ⟨tx.toArray⟩⟩]) h2 hne1 hne2 hbL
        have e1 : (out ++ [(⟨at_, to, ⟨tx.toArray⟩⟩ : Ed)]).length = out.length + 1 := by simp
        rw [e1] at h3 hk3 hs3
        refine hK.out _ _ (h3.hF.cell (i := 0)) (fun _ => ?_)
        clear hK K
        try simp only [Act.put, List.setIfInBounds_toArray, List.set_cons_zero, List.set_cons_succ]
        refine wpAnyH_done (by kernel_rfl) ?_ _
        have H3 := Lib.hid h3
        have hsz3 : W.heap.size ≤ (w2.setCell ⟨bL, 0, none⟩ (.slice A2 (out.length + 1) c2)).heap.size := Nat.le_trans hs4 (Nat.le_trans hs2 hs3)
        have hkk : Kept X W (w2.setCell ⟨bL, 0, none⟩ (.slice A2 (out.length + 1) c2)) := Kept.trans hs4 hk4 (Kept.trans hs2 hk2 hk3)
        have HKK := Lib.hid hkk
        have HSS := Lib.hid hsz3
        clear h3 hkk hsz3 l2 g2 h2 hk2 hk3 h4 hk4 hX4 hown2 l4 s4
        generalize (w2.setCell ⟨bL, 0, none⟩ (.slice A2 (out.length + 1) c2)) = W5 at *
        go_wp2_with (go_at_call 93; refine (bdReset H3.out.hT).mono ?_; rintro e w6 ⟨rfl, hT6, hO6, hs6⟩)
        refine bodyPost_end (results_none rfl _ _ _) rfl ?_
        refine ⟨rfl, by rw [hs6]; exact HSS.out, Kept.trans HSS.out HKK.out (Kept.of_off hO6 (fun k hk e => hT6.1 (e ▸ hk))), A2, c2, ?_⟩
        rw [HJ.out]
        exact ⟨hO6.low' H3.out.low (fun k hk => by have := H3.out.hT; obtain ⟨_, _, _, _, hB, _⟩ := this; omega), hO6.has' H3.out.hF hne3, hT6, hO6.has' H3.out.hL hne2, hO6.row' H3.out.hR (fun k hk e => row_ne2 H3.out.hR.1 H3.out.hT k hk e)⟩
      case c4 =>
        go_simp
        refine hK.out _ _ s4 (fun _ => ?_)
        clear hK K
        refine wpAnyH_ready (rs := [0, 5]) (by kernel_rfl) (by simp) ?_
        refine AllReadyH.cons rfl (fun K hK => ?d0) (AllReadyH.cons rfl (fun K hK => ?d5) AllReadyH.nil)
        case d0 =>
          go_simp
          refine hK.out _ _ s4 (fun _ => ?_)
          clear hK K
          refine wpAnyH_ready (rs := [5]) (by kernel_rfl) (by simp) ?_
          refine AllReadyH.cons rfl (fun K hK => ?_) AllReadyH.nil
          go_simp
          refine hK.out _ _ ((h4.hF.alloc _).cell (i := 0)) (fun _ => ?_)
          clear hK K
          try simp only [Act.put, List.setIfInBounds_toArray, List.set_cons_zero, List.set_cons_succ]
          refine wpAnyH_ready (rs := [6]) (by kernel_rfl) (by simp) ?_
          refine AllReadyH.cons rfl (fun K hK => ?_) AllReadyH.nil
          refine step_append_ed_at (by rfl) _ _ (by rfl) _ w.heap.size A c out ⟨at_, to, ⟨tx.toArray⟩⟩ W4.heap.size (by rfl) (by rfl) (World.alloc_heap_new W4 _) (World.ownsRow.alloc h4.hR.1 _) hlen (by have := h4.low.2.1; simp; omega) ?_
          intro A2 c2 w2 hown2 hgrow hat
          obtain ⟨h2, hk2, hs2⟩ := PL.appended h4 hX4 hown2 hgrow hat
          refine hK.out _ _ (h2.hF.cell (i := 0)) (fun _ => ?_)
          clear hK K hgrow hat
          have l2 := h2.hL.cell (i := 0)
          have g2 := h2.hL.frozen (i := 0)
          simp only [List.getElem?_toArray, List.getElem?_cons_zero] at l2
          refine wpAnyH_ready (rs := [7]) (by kernel_rfl) (by simp) ?_
          refine AllReadyH.cons rfl (fun K hK => ?_) AllReadyH.nil
          go_simp
          obtain ⟨h3, hk3, hs3⟩ := PL.stored (A2 := A2) (c2 := c2) (out2 := out ++ [⟨at_, to, ⟨tx.toArray⟩⟩]) h2 hne1 hne2 hbL
          have e1 : (out ++ [(⟨at_, to, ⟨tx.toArray⟩⟩ : Ed)]).length = out.length + 1 := by simp
          rw [e1] at h3 hk3 hs3
          refine hK.out _ _ (h3.hF.cell (i := 0)) (fun _ => ?_)
          clear hK K
          try simp only [Act.put, List.setIfInBounds_toArray, List.set_cons_zero, List.set_cons_succ]
          refine wpAnyH_done (by kernel_rfl) ?_ _
          have H3 := Lib.hid h3
          have hsz3 : W.heap.size ≤ (w2.setCell ⟨bL, 0, none⟩ (.slice A2 (out.length + 1) c2)).heap.size := Nat.le_trans hs4 (Nat.le_trans hs2 hs3)
          have hkk : Kept X W (w2.setCell ⟨bL, 0, none⟩ (.slice A2 (out.length + 1) c2)) := Kept.trans hs4 hk4 (Kept.trans hs2 hk2 hk3)
          have HKK := Lib.hid hkk
          have HSS := Lib.hid hsz3
          clear h3 hkk hsz3 l2 g2 h2 hk2 hk3 h4 hk4 hX4 hown2 l4 s4
          generalize (w2.setCell ⟨bL, 0, none⟩ (.slice A2 (out.length + 1) c2)) = W5 at *
          go_wp2_with (go_at_call 93; refine (bdReset H3.out.hT).mono ?_; rintro e w6 ⟨rfl, hT6, hO6, hs6⟩)
          refine bodyPost_end (results_none rfl _ _ _) rfl ?_
          refine ⟨rfl, by rw [hs6]; exact HSS.out, Kept.trans HSS.out HKK.out (Kept.of_off hO6 (fun k hk e => hT6.1 (e ▸ hk))), A2, c2, ?_⟩
          rw [HJ.out]
          exact ⟨hO6.low' H3.out.low (fun k hk => by have := H3.out.hT; obtain ⟨_, _, _, _, hB, _⟩ := this; omega), hO6.has' H3.out.hF hne3, hT6, hO6.has' H3.out.hL hne2, hO6.row' H3.out.hR (fun k hk e => row_ne2 H3.out.hR.1 H3.out.hT k hk e)⟩
        case d5 =>
          go_simp
          refine hK.out _ _ ((h4.hF.alloc _).cell (i := 0)) (fun _ => ?_)
          clear hK K
          refine wpAnyH_ready (rs := [0]) (by kernel_rfl) (by simp) ?_
          refine AllReadyH.cons rfl (fun K hK => ?_) AllReadyH.nil
          have lv := (h4.hL.alloc (.cells #[.int .i64 at_, .int .i64 to, .string ⟨tx.toArray⟩] 87)).cell (i := 0)
          simp only [List.getElem?_toArray, List.getElem?_cons_zero] at lv
          go_simp
          refine hK.out _ _ ((h4.hF.alloc _).cell (i := 0)) (fun _ => ?_)
          clear hK K
          try simp only [Act.put, List.setIfInBounds_toArray, List.set_cons_zero, List.set_cons_succ]
          refine wpAnyH_ready (rs := [6]) (by kernel_rfl) (by simp) ?_
          refine AllReadyH.cons rfl (fun K hK => ?_) AllReadyH.nil
          refine step_append_ed_at (by rfl) _ _ (by rfl) _ w.heap.size A c out ⟨at_, to, ⟨tx.toArray⟩⟩ W4.heap.size (by rfl) (by rfl) (World.alloc_heap_new W4 _) (World.ownsRow.alloc h4.hR.1 _) hlen (by have := h4.low.2.1; simp; omega) ?_
          intro A2 c2 w2 hown2 hgrow hat
          obtain ⟨h2, hk2, hs2⟩ := PL.appended h4 hX4 hown2 hgrow hat
          refine hK.out _ _ (h2.hF.cell (i := 0)) (fun _ => ?_)
          clear hK K hgrow hat
          have l2 := h2.hL.cell (i := 0)
          have g2 := h2.hL.frozen (i := 0)
          simp only [List.getElem?_toArray, List.getElem?_cons_zero] at l2
          refine wpAnyH_ready (rs := [7]) (by kernel_rfl) (by simp) ?_
          refine AllReadyH.cons rfl (fun K hK => ?_) AllReadyH.nil
          go_simp
          obtain ⟨h3, hk3, hs3⟩ := PL.stored (A2 := A2) (c2 := c2) (out2 := out ++ [⟨at_, to, ⟨tx.toArray⟩⟩]) h2 hne1 hne2 hbL
          have e1 : (out ++ [(⟨at_, to, ⟨tx.toArray⟩⟩ : Ed)]).length = out.length + 1 := by simp
          rw [e1] at h3 hk3 hs3
          refine hK.out _ _ (h3.hF.cell (i := 0)) (fun _ => ?_)
          clear hK K
          try simp only [Act.put, List.setIfInBounds_toArray, List.set_cons_zero, List.set_cons_succ]
          refine wpAnyH_done (by kernel_rfl) ?_ _
          have H3 := Lib.hid h3
          have hsz3 : W.heap.size ≤ (w2.setCell ⟨bL, 0, none⟩ (.slice A2 (out.length + 1) c2)).heap.size := Nat.le_trans hs4 (Nat.le_trans hs2 hs3)
          have hkk : Kept X W (w2.setCell ⟨bL, 0, none⟩ (.slice A2 (out.length + 1) c2)) := Kept.trans hs4 hk4 (Kept.trans hs2 hk2 hk3)
          have HKK := Lib.hid hkk
          have HSS := Lib.hid hsz3
          clear h3 hkk hsz3 l2 g2 h2 hk2 hk3 h4 hk4 hX4 hown2 l4 s4
          generalize (w2.setCell ⟨bL, 0, none⟩ (.slice A2 (out.length + 1) c2)) = W5 at *
          go_wp2_with (go_at_call 93; refine (bdReset H3.out.hT).mono ?_; rintro e w6 ⟨rfl, hT6, hO6, hs6⟩)
          refine bodyPost_end (results_none rfl _ _ _) rfl ?_
          refine ⟨rfl, by rw [hs6]; exact HSS.out, Kept.trans HSS.out HKK.out (Kept.of_off hO6 (fun k hk e => hT6.1 (e ▸ hk))), A2, c2, ?_⟩
          rw [HJ.out]
          exact ⟨hO6.low' H3.out.low (fun k hk => by have := H3.out.hT; obtain ⟨_, _, _, _, hB, _⟩ := this; omega), hO6.has' H3.out.hF hne3, hT6, hO6.has' H3.out.hL hne2, hO6.row' H3.out.hR (fun k hk e => row_ne2 H3.out.hR.1 H3.out.hT k hk e)⟩
  · by_cases d2 : tx = []
    · have HJ : Hid (jput ⟨out, at_, tx⟩ to = out) := Lib.hid (by simp only [jput]; rw [if_neg (fun h => h.elim d1 (fun h => h d2))])
      subst d2
      go_enter Try.func91, Try.ntmps91
      go_wp2_with (go_at_call 92; refine (bdLen H.out.hT).mono ?_; rintro e w1 ⟨rfl, rfl⟩)
      refine bodyPost_end (results_none rfl _ _ _) rfl ?_
      refine ⟨rfl, Nat.le_refl _, Kept.refl _ _, A, c, ?_⟩
      rw [HJ.out]
      exact H.out
    · have HJ : Hid (jput ⟨out, at_, tx⟩ to = out ++ [⟨at_, to, ⟨tx.toArray⟩⟩]) := Lib.hid (by simp only [jput]; rw [if_pos (.inr d2)])
      have d3 : (0 : Int) < (tx.length : Int) := by have := List.length_pos_iff.2 d2; omega
      go_enter Try.func91, Try.ntmps91
      go_wp2_with (go_at_call 92; refine (bdLen H.out.hT).mono ?_; rintro e w1 ⟨rfl, hw1⟩; replace hw1 := hw1.symm; subst hw1)
      have hS : W.drew.cell? ⟨bF, 0, none⟩ = some (.int .i64 at_) := f0
      have l0 := H.out.hL.cell (i := 0)
      simp only [List.getElem?_toArray, List.getElem?_cons_zero] at l0
      have l0' : W.drew.cell? ⟨bL, 0, none⟩ = some (.slice A out.length c) := l0
      refine wp_region_held (S := fun W' => W'.cell? ⟨bF, 0, none⟩ = some (.int .i64 at_)) (by kernel_rfl) ?_
      show wpAnyH _ _ _ _ _ _ _ _ W.drew
      refine wpAnyH_take (i := 1) (v := .int .i64 at_) rfl (by kernel_rfl) (by kernel_rfl) (by kernel_rfl) (fun _ _ _ h => h) (Or.inl ⟨by rfl, fun w' hS' => ?y1⟩) hS ?_
      case y1 => go_simp
      refine wpAnyH_take (i := 2) (v := .int .i64 to) rfl (by kernel_rfl) (by kernel_rfl) (by kernel_rfl) (fun _ _ _ h => h) (Or.inl ⟨by rfl, fun w' hS' => ?y2⟩) hS ?_
      case y2 => go_simp
      simp only [Act.put, List.setIfInBounds_toArray]
      refine wpAnyH_ready (rs := [0, 3]) (by kernel_rfl) (by simp) ?_
      refine AllReadyH.cons rfl (fun K hK => ?b0) (AllReadyH.cons rfl (fun K hK => ?b3) AllReadyH.nil)
      case b0 =>
        go_simp
        refine hK.out _ _ hS (fun _ => ?_)
        clear hK K
        refine wpAnyH_ready (rs := [3]) (by kernel_rfl) (by simp) ?_
        refine AllReadyH.cons rfl (fun K hK => ?_) AllReadyH.nil
        go_simp
        refine (bdString (X := X) (W := W.drew) H.out.hT HXB.out hsz).mono ?_
        rintro r W4 ⟨rfl, hT4, hO4⟩
        have h4 : PL w bL bT bF A c out at_ tx X W4 := ⟨hO4.lows ((Low.frames _ _).off H.out.low (Off.drew _ _)), hO4.has H.out.hF hne3, hT4, hO4.has H.out.hL hne2, hO4.row H.out.hR HRT.out⟩
        have hk4 : Kept X W W4 := hO4.kept (X := X) H.out.hT.1 HXB.out
        have hs4 : W.heap.size ≤ W4.heap.size := HSZ.out _ hO4
        have hX4 : XOk X W4 := HXB.out.kept hk4
        have l4 := h4.hL.cell (i := 0)
        have s4 := h4.hF.cell (i := 0)
        simp only [List.getElem?_toArray, List.getElem?_cons_zero] at l4 s4
        refine hK.out _ _ s4 (fun _ => ?_)
        clear hK K hO4
        refine wpAnyH_ready (rs := [4]) (by kernel_rfl) (by simp) ?_
        refine AllReadyH.cons rfl (fun K hK => ?_) AllReadyH.nil
        go_simp
        refine hK.out _ _ s4 (fun _ => ?_)
        clear hK K
        refine wpAnyH_ready (rs := [5]) (by kernel_rfl) (by simp) ?_
        refine AllReadyH.cons rfl (fun K hK => ?_) AllReadyH.nil
        go_simp
        refine hK.out _ _ ((h4.hF.alloc _).cell (i := 0)) (fun _ => ?_)
        clear hK K
        try simp only [Act.put, List.setIfInBounds_toArray, List.set_cons_zero, List.set_cons_succ]
        refine wpAnyH_ready (rs := [6]) (by kernel_rfl) (by simp) ?_
        refine AllReadyH.cons rfl (fun K hK => ?_) AllReadyH.nil
        refine step_append_ed_at (by rfl) _ _ (by rfl) _ w.heap.size A c out ⟨at_, to, ⟨tx.toArray⟩⟩ W4.heap.size (by rfl) (by rfl) (World.alloc_heap_new W4 _) (World.ownsRow.alloc h4.hR.1 _) hlen (by have := h4.low.2.1; simp; omega) ?_
        intro A2 c2 w2 hown2 hgrow hat
        obtain ⟨h2, hk2, hs2⟩ := PL.appended h4 hX4 hown2 hgrow hat
        refine hK.out _ _ (h2.hF.cell (i := 0)) (fun _ => ?_)
        clear hK K hgrow hat
        have l2 := h2.hL.cell (i := 0)
        have g2 := h2.hL.frozen (i := 0)
        simp only [List.getElem?_toArray, List.getElem?_cons_zero] at l2
        refine wpAnyH_ready (rs := [7]) (by kernel_rfl) (by simp) ?_
        refine AllReadyH.cons rfl (fun K hK => ?_) AllReadyH.nil
        go_simp
        obtain ⟨h3, hk3, hs3⟩ := PL.stored (A2 := A2) (c2 := c2) (out2 := out ++ [⟨at_, to, ⟨tx.toArray⟩⟩]) h2 hne1 hne2 hbL
        have e1 : (out ++ [(⟨at_, to, ⟨tx.toArray⟩⟩ : Ed)]).length = out.length + 1 := by simp
        rw [e1] at h3 hk3 hs3
        refine hK.out _ _ (h3.hF.cell (i := 0)) (fun _ => ?_)
        clear hK K
        try simp only [Act.put, List.setIfInBounds_toArray, List.set_cons_zero, List.set_cons_succ]
        refine wpAnyH_done (by kernel_rfl) ?_ _
        have H3 := Lib.hid h3
        have hsz3 : W.heap.size ≤ (w2.setCell ⟨bL, 0, none⟩ (.slice A2 (out.length + 1) c2)).heap.size := Nat.le_trans hs4 (Nat.le_trans hs2 hs3)
        have hkk : Kept X W (w2.setCell ⟨bL, 0, none⟩ (.slice A2 (out.length + 1) c2)) := Kept.trans hs4 hk4 (Kept.trans hs2 hk2 hk3)
        have HKK := Lib.hid hkk
        have HSS := Lib.hid hsz3
        clear h3 hkk hsz3 l2 g2 h2 hk2 hk3 h4 hk4 hX4 hown2 l4 s4
        generalize (w2.setCell ⟨bL, 0, none⟩ (.slice A2 (out.length + 1) c2)) = W5 at *
        go_wp2_with (go_at_call 93; refine (bdReset H3.out.hT).mono ?_; rintro e w6 ⟨rfl, hT6, hO6, hs6⟩)
        refine bodyPost_end (results_none rfl _ _ _) rfl ?_
        refine ⟨rfl, by rw [hs6]; exact HSS.out, Kept.trans HSS.out HKK.out (Kept.of_off hO6 (fun k hk e => hT6.1 (e ▸ hk))), A2, c2, ?_⟩
        rw [HJ.out]
        exact ⟨hO6.low' H3.out.low (fun k hk => by have := H3.out.hT; obtain ⟨_, _, _, _, hB, _⟩ := this; omega), hO6.has' H3.out.hF hne3, hT6, hO6.has' H3.out.hL hne2, hO6.row' H3.out.hR (fun k hk e => row_ne2 H3.out.hR.1 H3.out.hT k hk e)⟩
      case b3 =>
        go_simp
        refine (bdString (X := X) (W := W.drew) H.out.hT HXB.out hsz).mono ?_
        rintro r W4 ⟨rfl, hT4, hO4⟩
        have h4 : PL w bL bT bF A c out at_ tx X W4 := ⟨hO4.lows ((Low.frames _ _).off H.out.low (Off.drew _ _)), hO4.has H.out.hF hne3, hT4, hO4.has H.out.hL hne2, hO4.row H.out.hR HRT.out⟩
        have hk4 : Kept X W W4 := hO4.kept (X := X) H.out.hT.1 HXB.out
        have hs4 : W.heap.size ≤ W4.heap.size := HSZ.out _ hO4
        have hX4 : XOk X W4 := HXB.out.kept hk4
        have l4 := h4.hL.cell (i := 0)
        have s4 := h4.hF.cell (i := 0)
        simp only [List.getElem?_toArray, List.getElem?_cons_zero] at l4 s4
        refine hK.out _ _ s4 (fun _ => ?_)
        clear hK K hO4
        refine wpAnyH_ready (rs := [0, 4]) (by kernel_rfl) (by simp) ?_
        refine AllReadyH.cons rfl (fun K hK => ?c0) (AllReadyH.cons rfl (fun K hK => ?c4) AllReadyH.nil)
        case c0 =>
          go_simp
          refine hK.out _ _ s4 (fun _ => ?_)
          clear hK K
          refine wpAnyH_ready (rs := [4]) (by kernel_rfl) (by simp) ?_
          refine AllReadyH.cons rfl (fun K hK => ?_) AllReadyH.nil
          go_simp
          refine hK.out _ _ s4 (fun _ => ?_)
          clear hK K
          refine wpAnyH_ready (rs := [5]) (by kernel_rfl) (by simp) ?_
          refine AllReadyH.cons rfl (fun K hK => ?_) AllReadyH.nil
          go_simp
          refine hK.out _ _ ((h4.hF.alloc _).cell (i := 0)) (fun _ => ?_)
          clear hK K
          try simp only [Act.put, List.setIfInBounds_toArray, List.set_cons_zero, List.set_cons_succ]
          refine wpAnyH_ready (rs := [6]) (by kernel_rfl) (by simp) ?_
          refine AllReadyH.cons rfl (fun K hK => ?_) AllReadyH.nil
          refine step_append_ed_at (by rfl) _ _ (by rfl) _ w.heap.size A c out ⟨at_, to, ⟨tx.toArray⟩⟩ W4.heap.size (by rfl) (by rfl) (World.alloc_heap_new W4 _) (World.ownsRow.alloc h4.hR.1 _) hlen (by have := h4.low.2.1; simp; omega) ?_
          intro A2 c2 w2 hown2 hgrow hat
          obtain ⟨h2, hk2, hs2⟩ := PL.appended h4 hX4 hown2 hgrow hat
          refine hK.out _ _ (h2.hF.cell (i := 0)) (fun _ => ?_)
          clear hK K hgrow hat
          have l2 := h2.hL.cell (i := 0)
          have g2 := h2.hL.frozen (i := 0)
          simp only [List.getElem?_toArray, List.getElem?_cons_zero] at l2
          refine wpAnyH_ready (rs := [7]) (by kernel_rfl) (by simp) ?_
          refine AllReadyH.cons rfl (fun K hK => ?_) AllReadyH.nil
          go_simp
          obtain ⟨h3, hk3, hs3⟩ := PL.stored (A2 := A2) (c2 := c2) (out2 := out ++ [⟨at_, to, ⟨tx.toArray⟩⟩]) h2 hne1 hne2 hbL
          have e1 : (out ++ [(⟨at_, to, ⟨tx.toArray⟩⟩ : Ed)]).length = out.length + 1 := by simp
          rw [e1] at h3 hk3 hs3
          refine hK.out _ _ (h3.hF.cell (i := 0)) (fun _ => ?_)
          clear hK K
          try simp only [Act.put, List.setIfInBounds_toArray, List.set_cons_zero, List.set_cons_succ]
          refine wpAnyH_done (by kernel_rfl) ?_ _
          have H3 := Lib.hid h3
          have hsz3 : W.heap.size ≤ (w2.setCell ⟨bL, 0, none⟩ (.slice A2 (out.length + 1) c2)).heap.size := Nat.le_trans hs4 (Nat.le_trans hs2 hs3)
          have hkk : Kept X W (w2.setCell ⟨bL, 0, none⟩ (.slice A2 (out.length + 1) c2)) := Kept.trans hs4 hk4 (Kept.trans hs2 hk2 hk3)
          have HKK := Lib.hid hkk
          have HSS := Lib.hid hsz3
          clear h3 hkk hsz3 l2 g2 h2 hk2 hk3 h4 hk4 hX4 hown2 l4 s4
          generalize (w2.setCell ⟨bL, 0, none⟩ (.slice A2 (out.length + 1) c2)) = W5 at *
          go_wp2_with (go_at_call 93; refine (bdReset H3.out.hT).mono ?_; rintro e w6 ⟨rfl, hT6, hO6, hs6⟩)
          refine bodyPost_end (results_none rfl _ _ _) rfl ?_
          refine ⟨rfl, by rw [hs6]; exact HSS.out, Kept.trans HSS.out HKK.out (Kept.of_off hO6 (fun k hk e => hT6.1 (e ▸ hk))), A2, c2, ?_⟩
          rw [HJ.out]
          exact ⟨hO6.low' H3.out.low (fun k hk => by have := H3.out.hT; obtain ⟨_, _, _, _, hB, _⟩ := this; omega), hO6.has' H3.out.hF hne3, hT6, hO6.has' H3.out.hL hne2, hO6.row' H3.out.hR (fun k hk e => row_ne2 H3.out.hR.1 H3.out.hT k hk e)⟩
        case c4 =>
          go_simp
          refine hK.out _ _ s4 (fun _ => ?_)
          clear hK K
          refine wpAnyH_ready (rs := [0, 5]) (by kernel_rfl) (by simp) ?_
          refine AllReadyH.cons rfl (fun K hK => ?d0) (AllReadyH.cons rfl (fun K hK => ?d5) AllReadyH.nil)
          case d0 =>
            go_simp
            refine hK.out _ _ s4 (fun _ => ?_)
            clear hK K
            refine wpAnyH_ready (rs := [5]) (by kernel_rfl) (by simp) ?_
            refine AllReadyH.cons rfl (fun K hK => ?_) AllReadyH.nil
            go_simp
            refine hK.out _ _ ((h4.hF.alloc _).cell (i := 0)) (fun _ => ?_)
            clear hK K
            try simp only [Act.put, List.setIfInBounds_toArray, List.set_cons_zero, List.set_cons_succ]
            refine wpAnyH_ready (rs := [6]) (by kernel_rfl) (by simp) ?_
            refine AllReadyH.cons rfl (fun K hK => ?_) AllReadyH.nil
            refine step_append_ed_at (by rfl) _ _ (by rfl) _ w.heap.size A c out ⟨at_, to, ⟨tx.toArray⟩⟩ W4.heap.size (by rfl) (by rfl) (World.alloc_heap_new W4 _) (World.ownsRow.alloc h4.hR.1 _) hlen (by have := h4.low.2.1; simp; omega) ?_
            intro A2 c2 w2 hown2 hgrow hat
            obtain ⟨h2, hk2, hs2⟩ := PL.appended h4 hX4 hown2 hgrow hat
            refine hK.out _ _ (h2.hF.cell (i := 0)) (fun _ => ?_)
            clear hK K hgrow hat
            have l2 := h2.hL.cell (i := 0)
            have g2 := h2.hL.frozen (i := 0)
            simp only [List.getElem?_toArray, List.getElem?_cons_zero] at l2
            refine wpAnyH_ready (rs := [7]) (by kernel_rfl) (by simp) ?_
            refine AllReadyH.cons rfl (fun K hK => ?_) AllReadyH.nil
            go_simp
            obtain ⟨h3, hk3, hs3⟩ := PL.stored (A2 := A2) (c2 := c2) (out2 := out ++ [⟨at_, to, ⟨tx.toArray⟩⟩]) h2 hne1 hne2 hbL
            have e1 : (out ++ [(⟨at_, to, ⟨tx.toArray⟩⟩ : Ed)]).length = out.length + 1 := by simp
            rw [e1] at h3 hk3 hs3
            refine hK.out _ _ (h3.hF.cell (i := 0)) (fun _ => ?_)
            clear hK K
            try simp only [Act.put, List.setIfInBounds_toArray, List.set_cons_zero, List.set_cons_succ]
            refine wpAnyH_done (by kernel_rfl) ?_ _
            have H3 := Lib.hid h3
            have hsz3 : W.heap.size ≤ (w2.setCell ⟨bL, 0, none⟩ (.slice A2 (out.length + 1) c2)).heap.size := Nat.le_trans hs4 (Nat.le_trans hs2 hs3)
            have hkk : Kept X W (w2.setCell ⟨bL, 0, none⟩ (.slice A2 (out.length + 1) c2)) := Kept.trans hs4 hk4 (Kept.trans hs2 hk2 hk3)
            have HKK := Lib.hid hkk
            have HSS := Lib.hid hsz3
            clear h3 hkk hsz3 l2 g2 h2 hk2 hk3 h4 hk4 hX4 hown2 l4 s4
            generalize (w2.setCell ⟨bL, 0, none⟩ (.slice A2 (out.length + 1) c2)) = W5 at *
            go_wp2_with (go_at_call 93; refine (bdReset H3.out.hT).mono ?_; rintro e w6 ⟨rfl, hT6, hO6, hs6⟩)
            refine bodyPost_end (results_none rfl _ _ _) rfl ?_
            refine ⟨rfl, by rw [hs6]; exact HSS.out, Kept.trans HSS.out HKK.out (Kept.of_off hO6 (fun k hk e => hT6.1 (e ▸ hk))), A2, c2, ?_⟩
            rw [HJ.out]
            exact ⟨hO6.low' H3.out.low (fun k hk => by have := H3.out.hT; obtain ⟨_, _, _, _, hB, _⟩ := this; omega), hO6.has' H3.out.hF hne3, hT6, hO6.has' H3.out.hL hne2, hO6.row' H3.out.hR (fun k hk e => row_ne2 H3.out.hR.1 H3.out.hT k hk e)⟩
          case d5 =>
            go_simp
            refine hK.out _ _ ((h4.hF.alloc _).cell (i := 0)) (fun _ => ?_)
            clear hK K
            refine wpAnyH_ready (rs := [0]) (by kernel_rfl) (by simp) ?_
            refine AllReadyH.cons rfl (fun K hK => ?_) AllReadyH.nil
            have lv := (h4.hL.alloc (.cells #[.int .i64 at_, .int .i64 to, .string ⟨tx.toArray⟩] 87)).cell (i := 0)
            simp only [List.getElem?_toArray, List.getElem?_cons_zero] at lv
            go_simp
            refine hK.out _ _ ((h4.hF.alloc _).cell (i := 0)) (fun _ => ?_)
            clear hK K
            try simp only [Act.put, List.setIfInBounds_toArray, List.set_cons_zero, List.set_cons_succ]
            refine wpAnyH_ready (rs := [6]) (by kernel_rfl) (by simp) ?_
            refine AllReadyH.cons rfl (fun K hK => ?_) AllReadyH.nil
            refine step_append_ed_at (by rfl) _ _ (by rfl) _ w.heap.size A c out ⟨at_, to, ⟨tx.toArray⟩⟩ W4.heap.size (by rfl) (by rfl) (World.alloc_heap_new W4 _) (World.ownsRow.alloc h4.hR.1 _) hlen (by have := h4.low.2.1; simp; omega) ?_
            intro A2 c2 w2 hown2 hgrow hat
            obtain ⟨h2, hk2, hs2⟩ := PL.appended h4 hX4 hown2 hgrow hat
            refine hK.out _ _ (h2.hF.cell (i := 0)) (fun _ => ?_)
            clear hK K hgrow hat
            have l2 := h2.hL.cell (i := 0)
            have g2 := h2.hL.frozen (i := 0)
            simp only [List.getElem?_toArray, List.getElem?_cons_zero] at l2
            refine wpAnyH_ready (rs := [7]) (by kernel_rfl) (by simp) ?_
            refine AllReadyH.cons rfl (fun K hK => ?_) AllReadyH.nil
            go_simp
            obtain ⟨h3, hk3, hs3⟩ := PL.stored (A2 := A2) (c2 := c2) (out2 := out ++ [⟨at_, to, ⟨tx.toArray⟩⟩]) h2 hne1 hne2 hbL
            have e1 : (out ++ [(⟨at_, to, ⟨tx.toArray⟩⟩ : Ed)]).length = out.length + 1 := by simp
            rw [e1] at h3 hk3 hs3
            refine hK.out _ _ (h3.hF.cell (i := 0)) (fun _ => ?_)
            clear hK K
            try simp only [Act.put, List.setIfInBounds_toArray, List.set_cons_zero, List.set_cons_succ]
            refine wpAnyH_done (by kernel_rfl) ?_ _
            have H3 := Lib.hid h3
            have hsz3 : W.heap.size ≤ (w2.setCell ⟨bL, 0, none⟩ (.slice A2 (out.length + 1) c2)).heap.size := Nat.le_trans hs4 (Nat.le_trans hs2 hs3)
            have hkk : Kept X W (w2.setCell ⟨bL, 0, none⟩ (.slice A2 (out.length + 1) c2)) := Kept.trans hs4 hk4 (Kept.trans hs2 hk2 hk3)
            have HKK := Lib.hid hkk
            have HSS := Lib.hid hsz3
            clear h3 hkk hsz3 l2 g2 h2 hk2 hk3 h4 hk4 hX4 hown2 l4 s4
            generalize (w2.setCell ⟨bL, 0, none⟩ (.slice A2 (out.length + 1) c2)) = W5 at *
            go_wp2_with (go_at_call 93; refine (bdReset H3.out.hT).mono ?_; rintro e w6 ⟨rfl, hT6, hO6, hs6⟩)
            refine bodyPost_end (results_none rfl _ _ _) rfl ?_
            refine ⟨rfl, by rw [hs6]; exact HSS.out, Kept.trans HSS.out HKK.out (Kept.of_off hO6 (fun k hk e => hT6.1 (e ▸ hk))), A2, c2, ?_⟩
            rw [HJ.out]
            exact ⟨hO6.low' H3.out.low (fun k hk => by have := H3.out.hT; obtain ⟨_, _, _, _, hB, _⟩ := this; omega), hO6.has' H3.out.hF hne3, hT6, hO6.has' H3.out.hL hne2, hO6.row' H3.out.hR (fun k hk e => row_ne2 H3.out.hR.1 H3.out.hT k hk e)⟩
end Go.Proofs.Ytgfafinpcpiogaa
