/- The table: sync.Once, look, and all that a table answers. -/
import Derived.Test.YthmeneklccngeaaTextLook
import Derived.Test.YthmeneklccngeaaTextBegs
import Derived.Deep.QuietTactic
import Derived.BigQuiet
namespace Go.Proofs.Ythmeneklccngeaa
open Go.RowKit Go.Shelf

/-- block b is a table of s that has looked for its lines -/
def Made (W : World) (base b : Nat) (s : ByteArray) : Prop :=
  ∃ v, Blk W b 67 (tab s v 1 0 1) ∧ W.ownsRow base 3 1 v (bl s 0).length ((bl s 0).map fun x => .int .i64 x.1)

/-- block b is a table of s that has not looked for its lines yet -/
def Fresh (W : World) (b : Nat) (s : ByteArray) : Prop := Blk W b 67 (tab s (.slice none 0 0) 0 0 0)

theorem drew_grown {w w' : World} {row : Option Nat} (h : w.grownBy w' row) : w.grownBy w'.drew row := ⟨h.os, h.tape, h.output, h.size, h.block⟩

set_option maxRecDepth 100000 in
set_option maxHeartbeats 1600000 in
theorem slow_any (p b : Nat) (s : ByteArray) (hs : s.size ≤ 70000) (w : World) (hp : Boxed w p 23 (.pointer (some ⟨b, 0, none⟩))) (hb : Fresh w b s) :
    Calls Try.prog 33 #[.pointer (some ⟨b, 2, none⟩), .func (.func 26) #[] #[.pointer (some ⟨p, 0, none⟩)]] w fun e w' => e = .returned (.tuple #[]) ∧
      Made w' w.heap.size b s ∧ w.grownBy w' (some b) := by
  have nepb : p ≠ b := fun e => by subst e; have := (show w.heap[p]? = _ from hp).symm.trans hb; simp at this
  have hbl : Blk (w.setCell ⟨b, 3, none⟩ (.int .i32 1)) b 67 (tab s (.slice none 0 0) 0 1 0) := Blk.set hb 3 (.int .i32 1)
  have hpl : Boxed (w.setCell ⟨b, 3, none⟩ (.int .i32 1)) p 23 (.pointer (some ⟨b, 0, none⟩)) := hp.kept (grown_set w ⟨b, 3, none⟩ _) (by simpa using nepb)
  have hl := run_call_load (P := Try.prog) Try.func37 (by kernel_rfl) (by kernel_rfl) (by kernel_rfl) .u32 (by kernel_rfl) (w := w.setCell ⟨b, 3, none⟩ (.int .i32 1)) (a := ⟨b, 2, none⟩) (x := 0) (hbl.cell 2)
  have hnot : ∀ (x : Bool) (w : World), (Op.unary .not (.bool x)).run Try.prog w = .ok (.bool (!x)) w := fun _ _ => rfl
  have hlk : w.cell? ⟨b, 3, none⟩ = some (.int .i32 0) := Blk.cell hb 3
  have hlf := Blk.frozen hb 3
  go_enter_defers Try.func33, Try.ntmps33
  go_wp2_with (first | (go_at_call 38; refine (lock_free ⟨b, 3, none⟩ _ hlk hlf).mono ?_; rintro e w' ⟨rfl, rfl⟩) | (go_at_call 32; refine (done_load _ _ _ (hbl.cell 2)).mono ?_; rintro e w' ⟨rfl, rfl⟩) | (go_at_call 26; refine (callsIn_wide.1 (look1_in p b s hs _ hpl hbl)).mono ?_; rintro e w1 ⟨rfl, v, hb1, hr1, hg1⟩))
  refine leaves_cons (f := 40) (args := #[.pointer (some ⟨b, 2, none⟩), .bool true]) (by simp) (by simp [go_sem]) ?_
  refine (store_deferred ⟨b, 2, none⟩ (.int .u32 0) .returning _ (hb1.cell 2) (hb1.frozen 2)).mono ?_
  rintro e u' w'' ⟨rfl, rfl, rfl⟩
  have hb2 : Blk (w1.drew.setCell ⟨b, 2, none⟩ (.int .u32 1)) b 67 (tab s v 1 1 1) := Blk.set (W := w1.drew) hb1 2 (.int .u32 1)
  refine leaves_cons (f := 39) (args := #[.pointer (some ⟨b, 3, none⟩)]) (by simp [settle]) (by simp [go_sem]) ?_
  refine (unlock_deferred ⟨b, 3, none⟩ _ _ (hb2.cell 3) (hb2.frozen 3)).mono ?_
  rintro e u' w'' ⟨rfl, rfl, rfl⟩
  have hb3 : Blk ((w1.drew.setCell ⟨b, 2, none⟩ (.int .u32 1)).setCell ⟨b, 3, none⟩ (.int .i32 0)) b 67 (tab s v 1 0 1) := hb2.set 3 (.int .i32 0)
  have hg0 := grown_set w ⟨b, 3, none⟩ (.int .i32 1)
  have hz : (w.setCell ⟨b, 3, none⟩ (.int .i32 1)).heap.size = w.heap.size := by simp [World.setCell]
  rw [hz] at hr1
  have gs : ∀ j, (some b : Option Nat) = some j → w.heap.size ≤ j ∨ some b = some j := fun j e => .inr e
  have hg2 : w.grownBy ((w1.drew.setCell ⟨b, 2, none⟩ (.int .u32 1)).setCell ⟨b, 3, none⟩ (.int .i32 0)) (some b) :=
    ((drew_grown (hg0.andThen hg1 (fun j e => .inr e))).andThen (grown_set w1.drew ⟨b, 2, none⟩ (.int .u32 1)) gs).andThen (grown_set _ ⟨b, 3, none⟩ (.int .i32 0)) gs
  have hn1 : some b ≠ v.ownBlock := not_row hb1 (by decide) hr1
  have hr2 : (w1.drew.setCell ⟨b, 2, none⟩ (.int .u32 1)).ownsRow w.heap.size 3 1 v (bl s 0).length ((bl s 0).map fun x => .int .i64 x.1) := World.ownsRow.kept (w := w1.drew) hr1 (grown_set w1.drew ⟨b, 2, none⟩ (.int .u32 1)) (.inr (fun e => hn1 e.symm))
  have hr3 := hr2.kept (grown_set _ ⟨b, 3, none⟩ (.int .i32 0)) (.inr (fun e => hn1 e.symm))
  have hfin : Made ((w1.drew.setCell ⟨b, 2, none⟩ (.int .u32 1)).setCell ⟨b, 3, none⟩ (.int .i32 0)) w.heap.size b s ∧ w.grownBy ((w1.drew.setCell ⟨b, 2, none⟩ (.int .u32 1)).setCell ⟨b, 3, none⟩ (.int .i32 0)) (some b) := ⟨⟨v, hb3, hr3⟩, hg2⟩
  exact ⟨_, results_none rfl _ _ _, rfl, hfin⟩

set_option maxRecDepth 100000 in
set_option maxHeartbeats 1600000 in
theorem do_first (p b : Nat) (s : ByteArray) (hs : s.size ≤ 70000) (w : World) (hp : Boxed w p 23 (.pointer (some ⟨b, 0, none⟩))) (hb : Fresh w b s) :
    Calls Try.prog 25 #[.pointer (some ⟨b, 2, none⟩), .func (.func 26) #[] #[.pointer (some ⟨p, 0, none⟩)]] w fun e w' => e = .returned (.tuple #[]) ∧
      Made w' w.heap.size b s ∧ w.grownBy w' (some b) := by
  have hc : w.cell? ⟨b, 2, none⟩ = some (.int .u32 0) := Blk.cell hb 2
  have hnot : ∀ (x : Bool) (w : World), (Op.unary .not (.bool x)).run Try.prog w = .ok (.bool (!x)) w := fun _ _ => rfl
  go_enter Try.func25, Try.ntmps25
  go_wp2_with (first | (go_at_call 32; refine (done_load _ _ _ hc).mono ?_; rintro e w' ⟨rfl, rfl⟩) | (go_at_call 33; refine (slow_any p b s hs _ hp hb).mono ?_; rintro e w1 ⟨rfl, hm1, hg1⟩))
  go_end0
  exact ⟨rfl, hm1, hg1⟩

set_option maxHeartbeats 1600000 in
theorem do_done (b base : Nat) (s : ByteArray) (fv : Value) (w : World) (hb : Made w base b s) :
    Calls Try.prog 25 #[.pointer (some ⟨b, 2, none⟩), fv] w fun e w' => e = .returned (.tuple #[]) ∧ w = w' := by
  obtain ⟨v, hb, _⟩ := hb
  have hc : w.cell? ⟨b, 2, none⟩ = some (.int .u32 1) := Blk.cell hb 2
  have hnot : ∀ (x : Bool) (w : World), (Op.unary .not (.bool x)).run Try.prog w = .ok (.bool (!x)) w := fun _ _ => rfl
  go_enter Try.func25, Try.ntmps25
  go_wp2_with (go_at_call 32; refine (done_load _ _ _ hc).mono ?_; rintro e w' ⟨rfl, rfl⟩)
  go_end0
  exact ⟨rfl, rfl⟩

/-- a table, whether it has looked or not; its list lies from base on -/
def Tab (W : World) (base b : Nat) (s : ByteArray) : Prop := Fresh W b s ∨ Made W base b s

theorem Made.kept {W W' : World} {base b : Nat} {s : ByteArray} (h : Made W base b s) {row : Option Nat} (hg : W.grownBy W' row) (hrow : ∀ k, row = some k → W.heap.size ≤ k) : Made W' base b s := by
  obtain ⟨v, hb, hr⟩ := h
  refine ⟨v, hb.kept hg (fun e => ?_), hr.kept hg ?_⟩
  · have := hrow b e.symm; have := hb.lt; omega
  · rcases hr.2 with ⟨rfl, _⟩ | ⟨g, cap, cur, rfl, _, hgb, _⟩
    · exact .inl rfl
    · refine .inr fun e => ?_
      have h1 := hrow g e.symm
      have h2 := (Array.getElem?_eq_some_iff.1 hgb).1
      omega

theorem Made.mono {W : World} {base base' b : Nat} {s : ByteArray} (h : Made W base b s) (hb : base' ≤ base) : Made W base' b s := by
  obtain ⟨v, hb1, hr, hr2⟩ := h
  refine ⟨v, hb1, hr, ?_⟩
  rcases hr2 with h | ⟨g, cap, cur, h1, h2, h3⟩
  · exact .inl h
  · exact .inr ⟨g, cap, cur, h1, by omega, h3⟩

theorem below_grown {W W' : World} (h : Below W.heap.size W W') : W.grownBy W' none := ⟨h.os, h.tape, h.output, h.size, fun k hk _ => h.block k hk⟩

set_option maxRecDepth 100000 in
set_option maxHeartbeats 1600000 in
theorem look_any (b base : Nat) (s : ByteArray) (hs : s.size ≤ 70000) (w : World) (hbase : base ≤ w.heap.size) (hb : Tab w base b s) :
    Calls Try.prog 18 #[.pointer (some ⟨b, 0, none⟩)] w fun e w' => e = .returned (.tuple #[]) ∧ Made w' base b s ∧ w.grownBy w' (some b) := by
  have hmf : ∀ (fn : Fn) (first cap : Array Value) (w : World), (Instr.makeFunc fn first cap).run Try.prog w = .ok (.func fn first cap) w := fun _ _ _ _ => rfl
  have hp := Boxed.new w 23 (.pointer (some ⟨b, 0, none⟩))
  have hg0 := World.grownBy_alloc w (.cells #[.pointer (some ⟨b, 0, none⟩)] 23) (some b)
  rcases hb with hb | hb
  · have hb' : Fresh (w.alloc (.cells #[.pointer (some ⟨b, 0, none⟩)] 23)) b s := Blk.alloc hb _
    go_enter Try.func18, Try.ntmps18
    go_wp2_with (go_at_call 25; refine (do_first w.heap.size b s hs _ hp hb').mono ?_; rintro e w1 ⟨rfl, hm1, hg1⟩)
    go_end0
    exact ⟨rfl, hm1.mono (by simp; omega), hg0.andThen hg1 (fun j e => .inr e)⟩
  · have hb' : Made (w.alloc (.cells #[.pointer (some ⟨b, 0, none⟩)] 23)) base b s := hb.kept (World.grownBy_alloc w _ none) (by simp)
    go_enter Try.func18, Try.ntmps18
    go_wp2_with (go_at_call 25; refine (do_done b base s _ _ hb').mono ?_; rintro e w1 ⟨rfl, rfl⟩)
    go_end0
    exact ⟨rfl, hb', hg0⟩

end Go.Proofs.Ythmeneklccngeaa
