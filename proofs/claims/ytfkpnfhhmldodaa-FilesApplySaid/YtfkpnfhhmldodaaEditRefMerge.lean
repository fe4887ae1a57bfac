/- Merge, as the document has it. -/
import Derived.Test.YtfkpnfhhmldodaaEditMergeWalk
namespace Go.Proofs.Ytfkpnfhhmldodaa
open Go.RowKit EditMath

/-- a list of edits -/
def ListR (m : List Ed) (w : World) (e : Ending) (w' : World) : Prop :=
  ∃ A c, e = .returned (.slice A m.length c) ∧ Eds w' w'.heap.size A m ∧ Below w.heap.size w w'

/-- the same, with its place's size -/
def ListRN (m : List Ed) (w : World) (e : Ending) (w' : World) : Prop :=
  ∃ A c, e = .returned (.slice A m.length c) ∧ Eds w' w'.heap.size A m ∧ Below w.heap.size w w' ∧ m.length ≤ c

/-- a block that holds one edit -/
def Box (w : World) (g : Nat) (e : Ed) : Prop := w.heap[g]? = some (.cells #[.int .i64 e.f, .int .i64 e.t, .string e.s] 87 (0, 0))

theorem Box.cells {w : World} {g : Nat} {e : Ed} (h : Box w g e) : w.cell? ⟨g, 0, none⟩ = some (.int .i64 e.f) ∧ w.cell? ⟨g, 1, none⟩ = some (.int .i64 e.t) ∧ w.cell? ⟨g, 2, none⟩ = some (.string e.s) := cells_three h
theorem Box.free {w : World} {g : Nat} {e : Ed} (h : Box w g e) (j : Nat) : w.frozen? ⟨g, j, none⟩ = false := Lib.frozen_of_heap h j
theorem Box.new (w : World) (e : Ed) : Box (w.alloc (.cells #[.int .i64 e.f, .int .i64 e.t, .string e.s] 87)) w.heap.size e := heap_alloc_new w _
theorem Box.set {w : World} {g : Nat} {e : Ed} (h : Box w g e) (d : Ed) : Box (((w.setCell ⟨g, 0, none⟩ (.int .i64 d.f)).setCell ⟨g, 1, none⟩ (.int .i64 d.t)).setCell ⟨g, 2, none⟩ (.string d.s)) g d := by
  unfold Box at h ⊢
  simp [World.setCell, Array.getElem?_modify, h]
theorem Own.far {w : World} {base c g j : Nat} {A : Option Addr} {m : List Ed} (h : Own w base A c m) (hne : ∀ k, (Value.slice A m.length c).ownBlock = some k → k < g) (u : Value) : Own (w.setCell ⟨g, j, none⟩ u) base A c m :=
  World.ownsRow.kept h (row := some g) ⟨rfl, rfl, rfl, by simp [World.setCell], fun k _ hk => Below.heap_setCell w ⟨g, j, none⟩ u k (fun e => hk (by rw [e]))⟩ (.inr (fun e => Nat.lt_irrefl _ (hne _ e)))

theorem Eds.here {w : World} {B b off : Nat} {l : List Ed} (h : Eds w B (some ⟨b, off, none⟩) l) {k : Nat} {e : Ed} (hk : l[k]? = some e) : b < B ∧
    w.cell? ⟨b, off + k * 3, none⟩ = some (.int .i64 e.f) ∧ w.cell? ⟨b, off + k * 3 + 1, none⟩ = some (.int .i64 e.t) ∧ w.cell? ⟨b, off + k * 3 + 2, none⟩ = some (.string e.s) := by
  obtain ⟨b', off', hA, hb, c0, c1, c2⟩ := h.at_ hk
  injection hA with hA
  injection hA with h1 h2
  subst h1 h2
  exact ⟨hb, c0, c1, c2⟩

/-- the outer loop -/
def RMrgI (w : World) (l : List Ed) (v i : Value) (wr : World) : Prop :=
  ∃ (a : Nat) (A' : Option Addr) (c' : Nat) (M : List Ed), a ≤ l.length ∧ i = .int .i64 (a : Int) ∧ v = .slice A' M.length c' ∧ Below w.heap.size w wr ∧ Own wr w.heap.size A' c' M ∧ M.length ≤ a ∧ M ++ mg (l.drop a) = mg l
/-- the inner loop -/
def RMrgJ (w : World) (l M : List Ed) (A' : Option Addr) (c' a g : Nat) (i : Value) (wr : World) : Prop :=
  ∃ z : Nat, a ≤ z ∧ z < l.length ∧ i = .int .i64 ((z : Int) + 1) ∧ Below w.heap.size w wr ∧ Own wr w.heap.size A' c' M ∧ M ++ mgo (segE l a (z + 1)) (l.drop (z + 1)) = mg l ∧ Box wr g (segE l a (z + 1)) ∧ g < wr.heap.size

/-- what is joined brings no more than all -/
theorem seg_size {l : List Ed} {a z : Nat} {e d : Ed} (he : l[a]? = some e) (haz : a ≤ z) (hd : l[z]? = some d) : ((segE l a (z + 1)).s.size : Int) ≤ tx l := by
  rw [seg_eq he haz hd]
  have h := tx_part l a (z + 1 - a)
  have h2 := txs_length ((l.drop a).take (z + 1 - a))
  have h3 : ((⟨(txs ((l.drop a).take (z + 1 - a))).toArray⟩ : ByteArray).size) = (txs ((l.drop a).take (z + 1 - a))).length := by simp [ByteArray.size]
  simp only [h3]
  omega

set_option maxRecDepth 100000 in
set_option maxHeartbeats 4000000 in
theorem refMerge_N (A : Option Addr) (c : Nat) (l : List Ed) (size : Int) (hb : rt l size = true) (htx : tx l ≤ 70000) (w : World) (hl : l.length ≤ 10000) (hr : Eds w w.heap.size A l) :
    Calls Try.prog 78 #[.slice A l.length c] w (ListRN (mg l) w) := by
  have HT := Lib.hid hb
  clear hb
  go_enter Try.func78, Try.ntmps78
  go_wp2
  go_loopw [3, 4] (fun v i wr => RMrgI w l v i wr) (fun _ i _ => l.length + 1 - (intOf i).toNat)
  case atStart => exact ⟨0, none, 0, [], Nat.zero_le _, rfl, rfl, Below.refl _ _, Own.nil _ _, Nat.le_refl _, rfl⟩
  case round =>
    obtain ⟨a, A', c', M, ha, rfl, rfl, hB, hown, hM, hmg⟩ := hrel
    have HMG := Lib.hid hmg
    clear hmg
    by_cases hlt : a < l.length
    · have he : l[a]? = some l[a] := List.getElem?_eq_getElem hlt
      generalize l[a] = e at he
      have HE := Lib.hid he
      have za : (a : Int) < l.length := by omega
      have HR := Lib.hid hr
      obtain ⟨b, off, rfl, hbl, c0, c1, c2⟩ := (hr.below hB).at_ he
      have hbb : b < wr.heap.size := Nat.lt_of_lt_of_le hbl hB.size
      have hne : b ≠ wr.heap.size := by omega
      have HNE : Hid (∀ k, (Value.slice A' M.length c').ownBlock = some k → k < wr.heap.size) := Lib.hid (fun k h => (hown.lt k h).2)
      have hst : RMrgJ w l M A' c' a wr.heap.size (.int .i64 ((a : Int) + 1)) (wr.alloc (.cells #[.int .i64 e.f, .int .i64 e.t, .string e.s] 87)) :=
        ⟨a, Nat.le_refl _, hlt, rfl, hB.alloc hB.size _, hown.alloc _, by rw [seg_one he, ← mg_drop he]; exact HMG.out, by rw [seg_one he]; exact Box.new wr e, by simp⟩
      have HST := Lib.hid hst
      have hle := (rt_parts HT.out).2.1 a e he
      have hgw : w.heap.size ≤ wr.heap.size := hB.size
      clear he hst hr hown hB
      go_wp2
      clear c0 c1 c2 hbb hne
      generalize wr.heap.size = g at *
      go_loopw [4] (fun i wr' => RMrgJ w l M A' c' a g i wr') (fun i _ => l.length + 1 - (intOf i).toNat)
      case atStart => exact HST.out
      case round =>
        clear HST
        obtain ⟨z, haz, hzl, rfl, hB, hown, hmgo, hbox, hgl⟩ := hrel
        have HMGO := Lib.hid hmgo
        clear hmgo
        have hd : l[z]? = some l[z] := List.getElem?_eq_getElem hzl
        generalize l[z] = d at hd
        have HD := Lib.hid hd
        have z1 : (0 : Int) ≤ z := by omega
        have z2 : (z : Int) < l.length := by omega
        have hss := seg_size HE.out haz hd
        have hft : (segE l a (z + 1)).f ≤ (segE l a (z + 1)).t := by
          rw [seg_f HE.out, seg_t haz hd]
          have h1 := (rt_parts HT.out).2.1 z d hd
          by_cases h : a = z
          · subst h; rw [HE.out] at hd; injection hd with hd; subst hd; omega
          · have h2 := rt_ahead HT.out z d hd
            have h3 := (rt_parts h2).2.1 a e (by rw [List.getElem?_take_of_lt (by omega)]; exact HE.out)
            omega
        obtain ⟨x0, x1, x2⟩ := hbox.cells
        by_cases hz1 : z + 1 < l.length
        · have hb : l[z + 1]? = some l[z + 1] := List.getElem?_eq_getElem hz1
          generalize l[z + 1] = b' at hb
          have HBB := Lib.hid hb
          obtain ⟨hbl2, d0, d1, d2⟩ := (HR.out.below hB).here hb
          have z3 : (0 : Int) ≤ (z : Int) + 1 := by omega
          have z4 : (z : Int) + 1 < l.length := by omega
          have z5 : ((z : Int) + 1).toNat = z + 1 := by omega
          have z7 : decide ((z : Int) + 1 < l.length) = true := by simp; omega
          have z8 : decide (z + 1 < l.length) = true := by simp; omega
          have hbs : (b'.s.size : Int) ≤ 70000 := by
            have h1 := tx_snoc hb
            have h2 := tx_take_le l (z + 1 + 1)
            have h3 := tx_nonneg (l.take (z + 1))
            omega
          clear hd hb
          cases hq : (b'.f == (segE l a (z + 1)).t) with
          | true =>
            have HQ := Lib.hid (beq_iff_eq.1 hq)
            have HO := Lib.hid hown
            have HBX := Lib.hid hbox
            clear hown hbox
            generalize hsg : segE l a (z + 1) = sg at *
            have HSG := Lib.hid hsg
            clear hsg
            go_wp2
            go_quiet (fail)
            have hBW : Below w.heap.size w (wr.drewN nq) := below_drewN hB _
            have HOW := Lib.hid (HO.out.drewN nq)
            have hbx2 : Box (wr.drewN nq) g sg := HBX.out
            obtain ⟨_, e0, e1, e2⟩ := (HR.out.below hBW).here HBB.out
            have hgl2 : g < (wr.drewN nq).heap.size := hgl
            clear HO HBX hB z7 z8 hq x0 x1 x2 d0 d1 d2 hgl
            generalize wr.drewN nq = w2 at *
            obtain ⟨x0, x1, x2⟩ := hbx2.cells
            have f0 := hbx2.free 0
            have f1 := hbx2.free 1
            have f2 := hbx2.free 2
            have HBX := Lib.hid hbx2
            clear hbx2
            have hcat1 : (sg.s.size : Int) ≤ 8388608 := by omega
            have hcat2 : (b'.s.size : Int) ≤ 8388608 := by omega
            have hadd : ∀ W, Sem.run Try.prog (Op.stringOp .add sg.s b'.s) W = .ok (.string (sg.s ++ b'.s)) W := fun W => run_string_add W _ _ hcat1 hcat2
            go_wp2
            go_still_tail 16, (by kernel_rfl)
            change wpList _ _ _ _ _ w2.drew
            clear z5
            go_wp2
            go_roundw
            case rel =>
              have hj : segE l a (z + 1 + 1) = joinE sg b' := by rw [seg_next (by omega) HBB.out, HSG.out]
              refine ⟨z + 1, by omega, hz1, by go_num, ?_, ?_, ?_, ?_, ?_⟩
              · exact ((hBW.drew.setCell (p := ⟨g, 0, none⟩) hgw _).setCell (p := ⟨g, 1, none⟩) hgw _).setCell (p := ⟨g, 2, none⟩) hgw _
              · exact ((HOW.out.drew.far HNE.out _).far HNE.out _).far HNE.out _
              · rw [hj, ← mgo_touch HBB.out HQ.out.symm]; exact HMGO.out
              · rw [hj]; exact Box.set (e := sg) HBX.out (joinE sg b')
              · simpa using hgl2
            case measure => simp [intOf]; omega
          | false =>
            have HX : Hid (mgo (segE l a (z + 1)) (l.drop (z + 1)) = keepE (segE l a (z + 1)) ++ mg (l.drop (z + 1))) := Lib.hid (mgo_apart HBB.out (fun h => (beq_eq_false_iff_ne.1 hq) h.symm))
            have HO := Lib.hid hown
            have HBX := Lib.hid hbox
            clear hown hbox
            go_wp2
            go_quiet (fail)
            have hBW : Below w.heap.size w (wr.drewN nq) := below_drewN hB _
            have HOW := Lib.hid (HO.out.drewN nq)
            have hbox2 : Box (wr.drewN nq) g (segE l a (z + 1)) := HBX.out
            clear HO HBX hB z5 z7 z8 hq x0 x1 x2 d0 d1 d2 hgl
            generalize wr.drewN nq = w2 at *
            obtain ⟨x0, x1, x2⟩ := hbox2.cells
            have HBX := Lib.hid hbox2
            clear hbox2
            generalize hsg : segE l a (z + 1) = sg at *
            have HSG := Lib.hid hsg
            clear hsg
            by_cases hkeep : sg.f < sg.t ∨ 0 < sg.s.size
            · have HQ : Hid (idl sg = false) := Lib.hid (by rw [Bool.eq_false_iff]; intro h; simp only [idl, Bool.and_eq_true, decide_eq_true_eq] at h; omega)
              have hg1 : (decide (sg.f < sg.t) = true) ∨ (decide (sg.f < sg.t) = false ∧ decide (0 < (sg.s.size : Int)) = true ∧ decide (0 < sg.s.size) = true) := by
                by_cases h : sg.f < sg.t
                · exact .inl (by simp [h])
                · exact .inr ⟨decide_eq_false h, decide_eq_true (by omega), decide_eq_true (by omega)⟩
              clear hkeep
              rcases hg1 with y1 | ⟨y1, y2, y3⟩
              all_goals
                go_wp2_with (at_builtin; refine wpList_append_ed (by rfl) _ _ (by rfl) w2 w.heap.size A' c' M sg (by rfl) (by rfl) HOW.out (by omega) hBW.size ?_; intro A5 c5 w5 hown5 hgrow5 _ _)
                have hB5 := below_append hBW hgrow5 HOW.out (Nat.le_refl _) hBW.size
                have HO5 := Lib.hid hown5
                clear hgrow5 hown5
                go_roundw
                case rel =>
                  refine ⟨z + 1, A5, c5, M ++ [sg], by omega, by go_num, by simp, hB5, HO5.out, by simp; omega, ?_⟩
                  have := HMGO.out
                  rw [HX.out] at this
                  simpa [keepE, HQ.out] using this
                case measure => simp [intOf]; omega
            · have HQ : Hid (idl sg = true) := Lib.hid (by simp only [idl, Bool.and_eq_true, decide_eq_true_eq]; omega)
              have y1 : decide (sg.f < sg.t) = false := decide_eq_false (by omega)
              have y2 : decide (0 < (sg.s.size : Int)) = false := decide_eq_false (by omega)
              have y3 : decide (0 < sg.s.size) = false := decide_eq_false (by omega)
              clear hkeep
              go_wp2
              go_roundw
              case rel =>
                refine ⟨z + 1, A', c', M, by omega, by go_num, rfl, hBW, HOW.out, by omega, ?_⟩
                have := HMGO.out
                rw [HX.out] at this
                simpa [keepE, HQ.out] using this
              case measure => simp [intOf]; omega
        · have hzz : z + 1 = l.length := by omega
          have HX : Hid (mgo (segE l a (z + 1)) (l.drop (z + 1)) = keepE (segE l a (z + 1)) ++ mg (l.drop (z + 1))) := Lib.hid (by rw [hzz]; exact mgo_end l _)
          have z7 : decide ((z : Int) + 1 < l.length) = false := by simp; omega
          have z8 : decide (z + 1 < l.length) = false := by simp; omega
          have HO := Lib.hid hown
          have HBX := Lib.hid hbox
          clear hd hzz hown hbox
          go_wp2
          go_quiet (fail)
          have hBW : Below w.heap.size w (wr.drewN nq) := below_drewN hB _
          have HOW := Lib.hid (HO.out.drewN nq)
          have hbox2 : Box (wr.drewN nq) g (segE l a (z + 1)) := HBX.out
          clear HO HBX hB z7 z8 x0 x1 x2 hgl
          generalize wr.drewN nq = w2 at *
          obtain ⟨x0, x1, x2⟩ := hbox2.cells
          have HBX := Lib.hid hbox2
          clear hbox2
          generalize hsg : segE l a (z + 1) = sg at *
          have HSG := Lib.hid hsg
          clear hsg
          by_cases hkeep : sg.f < sg.t ∨ 0 < sg.s.size
          · have HQ : Hid (idl sg = false) := Lib.hid (by rw [Bool.eq_false_iff]; intro h; simp only [idl, Bool.and_eq_true, decide_eq_true_eq] at h; omega)
            have hg1 : (decide (sg.f < sg.t) = true) ∨ (decide (sg.f < sg.t) = false ∧ decide (0 < (sg.s.size : Int)) = true ∧ decide (0 < sg.s.size) = true) := by
              by_cases h : sg.f < sg.t
              · exact .inl (by simp [h])
              · exact .inr ⟨decide_eq_false h, decide_eq_true (by omega), decide_eq_true (by omega)⟩
            clear hkeep
            rcases hg1 with y1 | ⟨y1, y2, y3⟩
            all_goals
              go_wp2_with (at_builtin; refine wpList_append_ed (by rfl) _ _ (by rfl) w2 w.heap.size A' c' M sg (by rfl) (by rfl) HOW.out (by omega) hBW.size ?_; intro A5 c5 w5 hown5 hgrow5 _ _)
              have hB5 := below_append hBW hgrow5 HOW.out (Nat.le_refl _) hBW.size
              have HO5 := Lib.hid hown5
              clear hgrow5 hown5
              go_roundw
              case rel =>
                refine ⟨z + 1, A5, c5, M ++ [sg], by omega, by go_num, by simp, hB5, HO5.out, by simp; omega, ?_⟩
                have := HMGO.out
                rw [HX.out] at this
                simpa [keepE, HQ.out] using this
              case measure => simp [intOf]; omega
          · have HQ : Hid (idl sg = true) := Lib.hid (by simp only [idl, Bool.and_eq_true, decide_eq_true_eq]; omega)
            have y1 : decide (sg.f < sg.t) = false := decide_eq_false (by omega)
            have y2 : decide (0 < (sg.s.size : Int)) = false := decide_eq_false (by omega)
            have y3 : decide (0 < sg.s.size) = false := decide_eq_false (by omega)
            clear hkeep
            go_wp2
            go_roundw
            case rel =>
              refine ⟨z + 1, A', c', M, by omega, by go_num, rfl, hBW, HOW.out, by omega, ?_⟩
              have := HMGO.out
              rw [HX.out] at this
              simpa [keepE, HQ.out] using this
            case measure => simp [intOf]; omega
    · obtain rfl : a = l.length := by omega
      have hm : M = mg l := by have := HMG.out; simp [mg] at this; exact this
      subst hm
      clear hr
      go_wp2
      go_ret
      exact ⟨A', c', rfl, hown.eds, hB, hown.capN.1⟩

theorem refMerge_any (A : Option Addr) (c : Nat) (l : List Ed) (size : Int) (hb : rt l size = true) (htx : tx l ≤ 70000) (w : World) (hl : l.length ≤ 10000) (hr : Eds w w.heap.size A l) :
    Calls Try.prog 78 #[.slice A l.length c] w (ListR (mg l) w) :=
  (refMerge_N A c l size hb htx w hl hr).mono fun _ _ ⟨A', c', h1, h2, h3, _⟩ => ⟨A', c', h1, h2, h3⟩

end Go.Proofs.Ytfkpnfhhmldodaa
