/- The closure that looks for a text's lines: the beginnings are appended to the table's list. -/
import Derived.Test.YthmeneklccngeaaTextIter
import Derived.Test.YthmeneklccngeaaTextBridge
import Derived.Test.YthmeneklccngeaaTextSync
import Derived.RangeFuncBox
import Derived.Deep.RegionHeld
import Derived.Maps.AppendAt
import Derived.Laws.LoneSync
import Derived.Laws.NewBlocks
import Derived.Lib.HexFns
import Derived.Lib.HexFns2
namespace Go.Proofs.Ythmeneklccngeaa
open Go.RowKit Go.Shelf

attribute [local go_sem] Oper.semAt_some

/-- block b holds just these cells -/
def Blk (W : World) (b : Nat) (t : TypeId) (c : Array Value) : Prop := W.heap[b]? = some (.cells c t (0, 0))

section
variable {W W' : World} {b : Nat} {t : TypeId} {c : Array Value}
theorem Blk.lt (h : Blk W b t c) : b < W.heap.size := (Array.getElem?_eq_some_iff.1 h).1
theorem Blk.cell (h : Blk W b t c) (i : Nat) : W.cell? ⟨b, i, none⟩ = c[i]? := by simp [World.cell?, show W.heap[b]? = _ from h]
theorem Blk.frozen (h : Blk W b t c) (i : Nat) : W.frozen? ⟨b, i, none⟩ = false := by simp [World.frozen?, show W.heap[b]? = _ from h]
theorem Blk.kept {row : Option Nat} (h : Blk W b t c) (hg : W.grownBy W' row) (hne : some b ≠ row) : Blk W' b t c := (hg.block b h.lt hne).trans h
theorem Blk.below {B : Nat} (h : Blk W b t c) (hg : Below B W W') (hb : b < B) : Blk W' b t c := (hg.block b hb).trans h
theorem Blk.alloc (h : Blk W b t c) (o : Obj) : Blk (W.alloc o) b t c := h.kept (World.grownBy_alloc W o none) (by simp)
theorem Blk.set (h : Blk W b t c) (i : Nat) (v : Value) : Blk (W.setCell ⟨b, i, none⟩ v) b t (c.setIfInBounds i v) := by
  obtain ⟨hlt, hk⟩ := Array.getElem?_eq_some_iff.1 h
  show (W.heap.modify b _)[b]? = _
  rw [Array.getElem?_eq_getElem (by rw [Array.size_modify]; exact hlt), Array.getElem_modify_self, hk]
  rfl
theorem Blk.other (h : Blk W b t c) (a : Addr) (hne : b ≠ a.block) (v : Value) : Blk (W.setCell a v) b t c := (Below.heap_setCell _ _ _ b hne).trans h
theorem Blk.drew (h : Blk W b t c) : Blk W.drew b t c := h
theorem grown_set (W : World) (a : Addr) (v : Value) : W.grownBy (W.setCell a v) (some a.block) :=
  ⟨rfl, rfl, rfl, by simp [World.setCell], fun k _ hk => Below.heap_setCell _ _ _ k (fun e => hk (by rw [e]))⟩
end

/-- a table's cells: its text, its list, whether it was looked for, the lock, how often -/
def tab (s : ByteArray) (v : Value) (d lk m : Int) : Array Value := #[.string s, v, .int .u32 d, .int .i32 lk, .int .u32 0, .int .i64 m]

theorem info_int : (Try.prog.info? 3).map (fun i => (i.zero, i.size, i.bytes)) = some (some (.int .i64 0), 1, 8) := by kernel_rfl

/-- between two rounds: the list owns the beginnings that have come -/
def LookI (w : World) (p b Bn : Nat) (s : ByteArray) (pre : List (Nat × ByteArray)) (W : World) : Prop :=
  ∃ v, Blk W b 67 (tab s v 0 1 0) ∧ W.ownsRow w.heap.size 3 1 v pre.length (pre.map fun x => .int .i64 x.1) ∧
    Boxed W p 23 (.pointer (some ⟨b, 0, none⟩)) ∧ Boxed W Bn 9 (.string s) ∧ w.grownBy W (some b)

theorem lookI_own (w : World) (p b Bn : Nat) (s : ByteArray) (B : Nat) (hB : w.heap.size ≤ B) : OwnFrom B (LookI w p b Bn s) := by
  rintro pre X Y row ⟨v, hb, hr, hp, hn, hg⟩ hG hrow
  have ne : ∀ {k : Nat} {c : Array Value} {t : TypeId} {fr : Nat × Nat}, X.heap[k]? = some (.cells c t fr) → some k ≠ row := fun {k c t fr} hk e => by
    obtain ⟨_, o, ho, hc⟩ := hrow k e.symm
    rw [hk] at ho; cases ho; cases hc
  refine ⟨v, hb.kept hG (ne hb), hr.kept hG ?_, hp.kept hG (ne hp), hn.kept hG (ne hn), ?_⟩
  · rcases hr.2 with ⟨rfl, _⟩ | ⟨g, cap, cur, rfl, _, hgb, _⟩
    · exact .inl rfl
    · exact .inr (ne hgb)
  · refine hg.andThen hG (fun j e => .inl ?_)
    have := (hrow j e).1
    omega

theorem not_row {W : World} {k : Nat} {t e : TypeId} {c : Array Value} (h : Blk W k t c) (hte : t ≠ e) {base size n : Nat} {v : Value} {xs : List Value} (hr : W.ownsRow base e size v n xs) : some k ≠ v.ownBlock := by
  rcases hr.2 with ⟨rfl, _⟩ | ⟨g, cap, cur, rfl, _, hgb, _⟩
  · simp [Value.ownBlock]
  · intro e'
    obtain rfl : k = g := by simpa [Value.ownBlock] using e'
    have := (show W.heap[k]? = _ from h).symm.trans hgb
    simp at this
    exact hte this.2

/-- behind the append and the store of one round -/
theorem look_step {w W w1 : World} {p b Bn : Nat} {s : ByteArray} {pre : List (Nat × ByteArray)} {x : Nat × ByteArray} {v v' : Value} {tmp : Obj} (B : Nat)
    (hb : Blk W b 67 (tab s v 0 1 0)) (hr : W.ownsRow w.heap.size 3 1 v pre.length (pre.map fun x => .int .i64 x.1))
    (hp : Boxed W p 23 (.pointer (some ⟨b, 0, none⟩))) (hn : Boxed W Bn 9 (.string s)) (hg : w.grownBy W (some b))
    (hown : w1.ownsRow w.heap.size 3 1 v' (pre.length + 1) ((pre.map fun x => .int .i64 x.1) ++ [.int .i64 x.1])) (hgrow : (W.alloc tmp).grownBy w1 v.ownBlock) :
    (w1.cell? ⟨b, 1, none⟩ = some v ∧ w1.frozen? ⟨b, 1, none⟩ = false ∧ w1.cell? ⟨p, 0, none⟩ = some (.pointer (some ⟨b, 0, none⟩))) ∧
    KeepsFrom B W (w1.setCell ⟨b, 1, none⟩ v') ∧ KeepCell Bn W (w1.setCell ⟨b, 1, none⟩ v') ∧ LookI w p b Bn s (pre ++ [x]) (w1.setCell ⟨b, 1, none⟩ v') := by
  have hb1 : Blk w1 b 67 (tab s v 0 1 0) := (hb.alloc tmp).kept hgrow (not_row hb (by decide) hr)
  have hp1 : Boxed w1 p 23 (.pointer (some ⟨b, 0, none⟩)) := (hp.alloc tmp).kept hgrow (hp.not_row (by decide) hr)
  have hn1 : Boxed w1 Bn 9 (.string s) := (hn.alloc tmp).kept hgrow (hn.not_row (by decide) hr)
  have nepb : p ≠ b := fun e => by subst e; have := (show W.heap[p]? = _ from hp).symm.trans hb; simp at this
  have nenb : Bn ≠ b := fun e => by subst e; have := (show W.heap[Bn]? = _ from hn).symm.trans hb; simp at this
  have hset := grown_set w1 ⟨b, 1, none⟩ v'
  refine ⟨⟨hb1.cell 1, hb1.frozen 1, hp1.cell⟩, ?_, ?_, ?_⟩
  · refine (((KeepsOthers.alloc W tmp).trans (KeepsOthers.of_grownBy hgrow fun j o ej hj => ?_)).trans (KeepsOthers.setCell _ _ _)).from _
    rcases (hr.alloc tmp).2 with ⟨rfl, _⟩ | ⟨g, cap, cur, rfl, _, hgb, _⟩
    · simp [Value.ownBlock] at ej
    · obtain rfl : g = j := by simpa [Value.ownBlock] using ej
      rw [hgb] at hj; cases hj; rfl
  · exact (hn1.kept hset (by simpa using nenb)).cell.trans hn.cell.symm
  · refine ⟨v', by have := hb1.set 1 v'; simpa [tab] using this, ?_, hp1.kept hset (by simpa using nepb), hn1.kept hset (by simpa using nenb), ?_⟩
    · have := hown.kept hset (.inr (by have := not_row (hb1) (by decide) hown; exact fun e => this e.symm))
      simpa using this
    · refine ((hg.andThen (World.grownBy_alloc W tmp none) (by simp)).andThen hgrow fun j e => ?_).andThen hset (fun j e => .inr e)
      rcases hr.2 with ⟨rfl, _⟩ | ⟨g, cap, cur, rfl, hge, hgb, _⟩
      · simp [Value.ownBlock] at e
      · obtain rfl : g = j := by simpa [Value.ownBlock] using e
        exact .inl hge

theorem bl_length (s : ByteArray) : (bl s 0).length ≤ s.size + 1 := by
  unfold bl
  rw [List.length_map, TextMath.lns_length]
  have := TextMath.ln_le (s.data.toList.drop 0)
  simp at this ⊢
  exact this

set_option maxRecDepth 100000 in
set_option maxHeartbeats 2000000 in
theorem look1_in (p b : Nat) (s : ByteArray) (hs : s.size ≤ 70000) (w : World) (hp : Boxed w p 23 (.pointer (some ⟨b, 0, none⟩))) (hb : Blk w b 67 (tab s (.slice none 0 0) 0 1 0)) :
    CallsIn Fence.wide 8 Try.prog 26 #[.pointer (some ⟨p, 0, none⟩)] w fun e w' => e = .returned (.tuple #[]) ∧ ∃ v, Blk w' b 67 (tab s v 0 1 1) ∧
      w'.ownsRow w.heap.size 3 1 v (bl s 0).length ((bl s 0).map fun x => .int .i64 x.1) ∧ w.grownBy w' (some b) := by
  obtain ⟨i0, hi, hz0, hz1, hz2⟩ := info_parts info_int
  refine callsIn_of_wp_marks Try.func26 rfl trivial ?_ rfl
  simp only [Try.ntmps26, List.size_toArray, List.length_cons, List.length_nil, Nat.reduceAdd, Nat.reduceSub, Array.replicate_succ, Array.replicate_zero, List.push_toArray, List.append_toArray, List.nil_append, List.cons_append]
  have hpc := hp.cell
  have hbc : w.cell? ⟨b, 0, none⟩ = some (.string s) := hb.cell 0
  gi_wp2_with (refine ⟨trivial, ?_⟩; gi_at_call 15; refine (callsIn_wide.2 (lines_any _ _)).mono ?_; rintro e w' ⟨rfl, rfl⟩)
  have hne : p ≠ b := fun e => by
    subst e
    have := (show w.heap[p]? = _ from hp).symm.trans hb
    simp at this
  have hN := Boxed.new w 9 (.string s)
  refine wpIn_rangeFunc_ownG rfl (by omega) (gf := 23) (lb := #[.pointer (some ⟨w.heap.size, 0, none⟩)]) rfl trivial (enters_of Try.func23 (by kernel_rfl) rfl)
    (lines_stops id 7 (by omega) w.heap.size s hs (bl s 0) (by simp) _ (by simp) hN.cell) KeepCell.trans (KeepCell.put (by simp)) (Below.refl _ _) (fun _ => rfl)
    (LookI w p b w.heap.size s) (fun _ _ _ => False) (lookI_own w p b w.heap.size s _ (by simp)) (fun _ _ _ _ _ hs _ _ => hs)
    ⟨_, hb.alloc _, World.ownsRow_nil _ _ _ _, hp.alloc _, hN, World.grownBy_alloc w _ _⟩
    (fun x => { tmps := #[.pointer (some ⟨p, 0, none⟩), .int .i64 x.1, .pointer (some ⟨b, 0, none⟩), .pointer (some ⟨b, 0, none⟩), .pointer (some ⟨b, 0, none⟩), .string s, .func (.func 23) #[] #[.pointer (some ⟨w.heap.size, 0, none⟩)], .int .i64 x.1, .string x.2, undef, undef, undef, undef, undef, undef, undef, undef, undef, undef, undef, undef, undef, undef], defers := [] }) ?assign ?body ?done ?stop
  case assign =>
    intro l x W K hK
    gi_wp2
    exact hK
  case body =>
    rintro l pre x W ⟨v, hb1, hr1, hp1, hn1, hg1⟩ hlt
    have hlen := bl_length s
    have hpc : W.cell? ⟨p, 0, none⟩ = some (.pointer (some ⟨b, 0, none⟩)) := hp1.cell
    have hvc : W.cell? ⟨b, 1, none⟩ = some v := hb1.cell 1
    gi_wp2
    refine wpIn_region_held (fun W' => W'.cell? ⟨p, 0, none⟩ = some (.pointer (some ⟨b, 0, none⟩))) (by kernel_rfl) (by kernel_rfl) ?hQ ?_
    case hQ => rintro ⟨_, _, h⟩; exact h
    have hS : W.drew.cell? ⟨p, 0, none⟩ = some (.pointer (some ⟨b, 0, none⟩)) := hpc
    have hSa : (W.alloc (.cells #[.int .i64 x.1] 3)).cell? ⟨p, 0, none⟩ = some (.pointer (some ⟨b, 0, none⟩)) := (hp1.alloc _).cell
    have hva : (W.alloc (.cells #[.int .i64 x.1] 3)).cell? ⟨b, 1, none⟩ = some v := (hb1.alloc _).cell 1
    refine wpAnyH_take (i := 0) (v := .pointer (some ⟨b, 0, none⟩)) rfl (by kernel_rfl) (by kernel_rfl) (by kernel_rfl) (fun _ _ _ h => h) (Or.inl ⟨by rfl, fun w' hS' => ?y0⟩) hS ?_
    case y0 => go_simp
    refine wpAnyH_take (i := 1) (v := .pointer (some ⟨b, 0, none⟩)) rfl (by kernel_rfl) (by kernel_rfl) (by kernel_rfl) (fun _ _ _ h => h) (Or.inl ⟨by rfl, fun w' hS' => ?y3⟩) hS ?_
    case y3 => go_simp
    refine wpAnyH_take (i := 2) (v := .pointer (some ⟨b, 0, none⟩)) rfl (by kernel_rfl) (by kernel_rfl) (by kernel_rfl) (fun _ _ _ h => h) (Or.inl ⟨by rfl, fun w' hS' => ?y4⟩) hS ?_
    case y4 => go_simp
    refine wpAnyH_take (i := 3) (v := .pointer (some ⟨b, 1, none⟩)) rfl (by kernel_rfl) (by kernel_rfl) (by kernel_rfl) (fun _ _ _ h => h) (Or.inl ⟨by rfl, fun w' hS' => ?y5⟩) hS ?_
    case y5 => go_simp
    refine wpAnyH_take (i := 5) (v := .int .i64 x.1) rfl (by kernel_rfl) (by kernel_rfl) (by kernel_rfl) (fun _ _ _ h => h) (Or.inl ⟨by rfl, fun w' hS' => ?y6⟩) hS ?_
    case y6 => go_simp
    simp only [Act.put, List.setIfInBounds_toArray, List.set_cons_zero, List.set_cons_succ]
    refine wpAnyH_ready (rs := [4, 6]) (by kernel_rfl) (by simp) ?_
    refine AllReadyH.cons rfl (fun K hK => ?_) ?_
    · go_simp
      refine hK.out _ _ hS (fun _ => ?_)
      clear hK K
      refine wpAnyH_ready (rs := [6]) (by kernel_rfl) (by simp) ?_
      refine AllReadyH.cons rfl (fun K hK => ?_) AllReadyH.nil
      go_simp
      refine hK.out _ _ hSa (fun _ => ?_)
      clear hK K
      refine wpAnyH_ready (rs := [7]) (by kernel_rfl) (by simp) ?_
      refine AllReadyH.cons rfl (fun K hK => ?_) AllReadyH.nil
      rw [if_pos (by rfl)]
      refine wp_append_own _ (.tmp 13) (.tmp 15) 50 rfl w.heap.size 3 i0 (.int .i64 0) 1 8 Try.underlying50 hi hz0 hz1 hz2 rfl (by decide) v pre.length _ rfl (hr1.alloc _) ⟨W.heap.size, 0, none⟩ 1 1 [.int .i64 x.1] rfl rfl (cell_one_new _ _ _) (by simp [Value.oneCell']) (by unfold maxLen; omega) (by omega) (by have := hg1.size; simp; omega) ?_
      intro v' w1 hown' hgrow _
      obtain ⟨g', cap', rfl⟩ := ownsRow_succ hown'
      obtain ⟨⟨c1, c2, c3⟩, k1, k2, k3⟩ := look_step (x := x) (w.alloc (.cells #[.string s] 9)).heap.size hb1 hr1 hp1 hn1 hg1 hown' ⟨hgrow.os, hgrow.tape, hgrow.output, hgrow.size, hgrow.block⟩
      go_simp
      refine hK.out _ _ c3 (fun _ => ?_)
      clear hK K
      refine wpAnyH_take (i := 8) (v := .pointer (some ⟨b, 0, none⟩)) rfl (by kernel_rfl) (by kernel_rfl) (by kernel_rfl) (fun _ _ _ h => h) (Or.inl ⟨by rfl, fun w' hS' => ?y7⟩) c3 ?_
      case y7 => go_simp
      refine wpAnyH_take (i := 9) (v := .pointer (some ⟨b, 1, none⟩)) rfl (by kernel_rfl) (by kernel_rfl) (by kernel_rfl) (fun _ _ _ h => h) (Or.inl ⟨by rfl, fun w' hS' => ?y8⟩) c3 ?_
      case y8 => go_simp
      simp only [Act.put, List.setIfInBounds_toArray, List.set_cons_zero, List.set_cons_succ]
      refine wpAnyH_ready (rs := [10]) (by kernel_rfl) (by simp) ?_
      refine AllReadyH.cons rfl (fun K hK => ?_) AllReadyH.nil
      go_simp
      refine hK.out _ _ ?s10 (fun _ => ?_)
      case s10 => obtain ⟨_, _, _, h, _⟩ := k3; exact h.cell
      clear hK K
      refine wpAnyH_done (by kernel_rfl) ?_ _
      exact ⟨k1, k2, k3⟩
    · refine AllReadyH.cons rfl (fun K hK => ?_) AllReadyH.nil
      go_simp
      refine hK.out _ _ hSa (fun _ => ?_)
      clear hK K
      refine wpAnyH_ready (rs := [4]) (by kernel_rfl) (by simp) ?_
      refine AllReadyH.cons rfl (fun K hK => ?_) AllReadyH.nil
      go_simp
      refine hK.out _ _ hSa (fun _ => ?_)
      clear hK K
      refine wpAnyH_ready (rs := [7]) (by kernel_rfl) (by simp) ?_
      refine AllReadyH.cons rfl (fun K hK => ?_) AllReadyH.nil
      rw [if_pos (by rfl)]
      refine wp_append_own _ (.tmp 13) (.tmp 15) 50 rfl w.heap.size 3 i0 (.int .i64 0) 1 8 Try.underlying50 hi hz0 hz1 hz2 rfl (by decide) v pre.length _ rfl (hr1.alloc _) ⟨W.heap.size, 0, none⟩ 1 1 [.int .i64 x.1] rfl rfl (cell_one_new _ _ _) (by simp [Value.oneCell']) (by unfold maxLen; omega) (by omega) (by have := hg1.size; simp; omega) ?_
      intro v' w1 hown' hgrow _
      obtain ⟨g', cap', rfl⟩ := ownsRow_succ hown'
      obtain ⟨⟨c1, c2, c3⟩, k1, k2, k3⟩ := look_step (x := x) (w.alloc (.cells #[.string s] 9)).heap.size hb1 hr1 hp1 hn1 hg1 hown' ⟨hgrow.os, hgrow.tape, hgrow.output, hgrow.size, hgrow.block⟩
      go_simp
      refine hK.out _ _ c3 (fun _ => ?_)
      clear hK K
      refine wpAnyH_take (i := 8) (v := .pointer (some ⟨b, 0, none⟩)) rfl (by kernel_rfl) (by kernel_rfl) (by kernel_rfl) (fun _ _ _ h => h) (Or.inl ⟨by rfl, fun w' hS' => ?y7⟩) c3 ?_
      case y7 => go_simp
      refine wpAnyH_take (i := 9) (v := .pointer (some ⟨b, 1, none⟩)) rfl (by kernel_rfl) (by kernel_rfl) (by kernel_rfl) (fun _ _ _ h => h) (Or.inl ⟨by rfl, fun w' hS' => ?y8⟩) c3 ?_
      case y8 => go_simp
      simp only [Act.put, List.setIfInBounds_toArray, List.set_cons_zero, List.set_cons_succ]
      refine wpAnyH_ready (rs := [10]) (by kernel_rfl) (by simp) ?_
      refine AllReadyH.cons rfl (fun K hK => ?_) AllReadyH.nil
      go_simp
      refine hK.out _ _ ?s10 (fun _ => ?_)
      case s10 => obtain ⟨_, _, _, h, _⟩ := k3; exact h.cell
      clear hK K
      refine wpAnyH_done (by kernel_rfl) ?_ _
      exact ⟨k1, k2, k3⟩
  case done =>
    rintro D ys W hD rfl ⟨v, hb1, hr1, hp1, hn1, hg1⟩ hK
    have hpc := hp1.cell
    have hm : W.cell? ⟨b, 5, none⟩ = some (.int .i64 0) := hb1.cell 5
    have hmf := hb1.frozen 5
    gi_wp2_with (refine ⟨trivial, ?_⟩; gi_at_call 27; refine (callsIn_wide.2 (add_one _ _ hm hmf)).mono ?_; rintro e w' ⟨rfl, rfl⟩)
    have hK1 : (W.setCell ⟨b, 5, none⟩ (.int .i64 1)).heap[D]? = some (.deferred (some [])) := (KeepsOthers.setCell W _ _).same D _ hK rfl
    refine ⟨by simp, .inl ⟨_, _, rfl, run_takeDeferred hK1, ?_⟩⟩
    have hb2 : Blk (W.setCell ⟨b, 5, none⟩ (.int .i64 1)) b 67 (tab s v 0 1 1) := hb1.set 5 (.int .i64 1)
    have hr2 := hr1.kept (grown_set W ⟨b, 5, none⟩ (.int .i64 1)) (.inr (fun e => not_row hb1 (by decide) hr1 e.symm))
    have hDb : b ≠ D := fun e => by subst e; rw [show (W.setCell ⟨b, 5, none⟩ (.int .i64 1)).heap[b]? = _ from hb2] at hK1; cases hK1
    refine ⟨_, results_none rfl _ _ _, rfl, v, hb2.kept (grownBy_putObj' _ D _) (by simpa using hDb), ownsRow_putObj hr2 _ hK1 rfl, ?_⟩
    exact (hg1.andThen (grown_set W ⟨b, 5, none⟩ (.int .i64 1)) (fun j e => .inr e)).andThen (grownBy_putObj' _ D _) (fun j e => .inl (by simp at hD e; omega))
  case stop =>
    rintro D c pre W _ _ h _
    exact h.elim

end Go.Proofs.Ythmeneklccngeaa
