/- The document's names of a tree. -/
import Derived.Test.YtfmlcddakfbleaaGreatDoorMzColl
import Derived.Test.YtfmlcddakfbleaaGreatDoorSignWords
import Derived.Test.YtfmlcddakfbleaaGreatDoorMzDeC
import Derived.Test.YtfmlcddakfbleaaGreatDoorMzDeE
import Derived.Test.YtfmlcddakfbleaaGreatDoorMzNa
import Derived.Test.YtfmlcddakfbleaaGreatDoorTreeHeld
import Derived.Test.YtfmlcddakfbleaaGreatDoorTreeBK
import Derived.Test.YtfmlcddakfbleaaGreatDoorTextStore
namespace Go.Proofs.YtfmlcddakfbleaaGreatDoor
open Go.RowKit TreeMath SignMath

/-- is a text a name? -/
def nmt (s : ByteArray) : Bool := wd (bs s) && !kw s
/-- the names among leaves -/
def nml (l : List Tr) : List Tr := l.filter fun x => nmt x.t
theorem nml_take {L : List Tr} {j : Nat} {x : Tr} (h : L[j]? = some x) : nml (L.take (j + 1)) = nml (L.take j) ++ (if nmt x.t = true then [x] else []) := by
  unfold nml
  rw [List.take_add_one, h]
  by_cases hk : nmt x.t = true <;> simp [hk]
theorem nml_len (L : List Tr) : (nml L).length ≤ L.length := List.length_filter_le _ _
theorem nml_snoc (L : List Tr) (x : Tr) : nml (L ++ [x]) = nml L ++ (if nmt x.t = true then [x] else []) := by
  unfold nml
  by_cases hk : nmt x.t = true <;> simp [hk]
theorem nml_pl (L : List Tr) : nml (L.map pl) = (nml L).map pl := by
  unfold nml
  rw [List.filter_map]
  congr 1
  exact List.filter_congr fun x _ => by simp only [Function.comp]; rw [pl_eq]

/-- a list in new memory -/
def LnV (L : List Tr) (w : World) (e : Ending) (w' : World) : Prop := ∃ A c, e = .returned (.slice A L.length c) ∧ Tks (nw w.heap.size w') w' A L ∧ Below w.heap.size w w'
theorem dn_step {w w' : World} {base : Nat} {e : TypeId} {size : Nat} {v : Value} {n : Nat} {xs : List Value} (h : w.ownsRow base e size v n xs) (hb : Below w.heap.size w w') : w'.ownsRow base e size v n xs :=
  World.ownsRow.kept (row := none) h ⟨hb.os, hb.tape, hb.output, hb.size, fun k hk _ => hb.block k hk⟩ (by cases v.ownBlock <;> simp)

set_option maxRecDepth 100000 in
set_option maxHeartbeats 2000000 in
theorem rnames_any (T : Tr) (w : World) (hT : Tn (lo w.heap.size) w T) (hw : wt T ≤ 9000) :
    Calls Tryz.prog 14 #[nv T] w (LnV (nml (TreeMath.lf T)) w) := by
  have hll : (TreeMath.lf T).length ≤ 9000 := by
    have h1 : (TreeMath.lf T).length ≤ (ns T).length := List.length_filter_le _ _
    have h2 := cn_wt T
    unfold cn at h2
    omega
  have hsz : ∀ x ∈ TreeMath.lf T, x.t.size ≤ 1000000 := fun x hx => by
    have h1 := (List.mem_filter.1 hx).1
    have h2 := text_le h1
    omega
  have HLV := Lib.hid (rleaves_any T (w.alloc (.cells (ncc T) 37)) ((hT.below (below1 w _)).more (by simp)) hw)
  have HSZ := Lib.hid hsz
  have HB0 := Lib.hid (below1 w (.cells (ncc T) 37))
  generalize TreeMath.lf T = L at hll HLV HSZ ⊢
  clear hT hw hsz
  go_enter Tryz.func14, Tryz.ntmps14
  go_wp2_with (go_at_call 35; refine HLV.out.mono ?_; rintro r w2 ⟨A2, c2, rfl, hr2, hg2⟩)
  have hB2 : Below w.heap.size w w2 := HB0.out.trans (hg2.mono (by simp))
  have HI2 := Lib.hid hr2
  clear hr2 hg2 HLV
  go_wp2
  go_loopw [3, 5] (fun ov i wr => ∃ (j : Nat) (v' : Value), i = .int .i64 j ∧ j ≤ L.length ∧ v' = ov ∧ Hid (LRow 37 w2.heap.size v' (nml (L.take j)) wr) ∧ Below w2.heap.size w2 wr) (fun _ i _ => L.length + 1 - (intOf i).toNat)
  case atStart => exact ⟨0, .slice none 0 0, rfl, Nat.zero_le _, rfl, Lib.hid (World.ownsRow_nil _ _ _ _), Below.refl _ _⟩
  case round =>
    obtain ⟨j, v', rfl, hj, rfl, HRr, hB⟩ := hrel
    by_cases hlt : j < L.length
    · obtain ⟨e, he⟩ : ∃ e, L[j]? = some e := ⟨_, List.getElem?_eq_getElem hlt⟩
      obtain ⟨b, off, rfl, hb, c0, c1, c2', c3, c4⟩ := Tks.at_ (Tks.keep HI2.out (fun b i hb => cell_of (hB.block b hb)) (fun b hb => hb)) he
      have HTK := Lib.hid (nml_take he)
      have HNM := Lib.hid (fun W => rname_big e.t (HSZ.out e (List.mem_of_getElem? he)) W)
      have hml : (nml (L.take j)).length ≤ 9000 := Nat.le_trans (nml_len _) (by rw [List.length_take]; omega)
      have z1 : (0 : Int) ≤ j := by omega
      have z2 : (j : Int) < L.length := by omega
      have HNT : Hid ((wd (bs e.t) && !kw e.t) = nmt e.t) := Lib.hid rfl
      have HBL := Lib.hid (Nat.lt_of_lt_of_le hb hB.size)
      clear he hb
      cases hk : nmt e.t with
      | true =>
        rw [hk] at HNT HTK
        have HS : Hid (nml (L.take (j + 1)) = nml (L.take j) ++ [e]) := Lib.hid (by rw [HTK.out, if_pos rfl])
        clear hk
        go_wp2_with fail
        refine (HNM.out _).mono ?_
        rw [HNT.out]
        rintro r w3 ⟨rfl, hb3⟩
        have d0 := (cell_of (hb3.block _ HBL.out)).trans c0
        have d1 := (cell_of (hb3.block _ HBL.out)).trans c1
        have d2 := (cell_of (hb3.block _ HBL.out)).trans c2'
        have d3 := (cell_of (hb3.block _ HBL.out)).trans c3
        have d4 := (cell_of (hb3.block _ HBL.out)).trans c4
        clear c0 c1 c2' c3 c4
        have hB3 := hB.trans (hb3.mono hB.size)
        have HRr3 : Hid (LRow 37 w2.heap.size v' (nml (L.take j)) w3) := Lib.hid (dn_step HRr.out hb3)
        have HBK := Lib.hid (heap_alloc_new w3 (.cells (ncc e) 37))
        have HRA := Lib.hid (World.ownsRow.alloc HRr3.out (.cells (ncc e) 37))
        have HB3 := Lib.hid hB3
        clear hb3 hB3
        go_wp2_with (at_builtin; refine Stay.out ?_)
        have hB3 := HB3.out
        clear d0 d1 d2 d3 d4
        refine Stay.mk ?_
        refine wpList_append_leaf (by rfl) _ _ 35 37 (by rfl) Tryz.underlying35 info_rnode _ w2.heap.size v' (nml (L.take j)) e w3.heap.size (by rfl) (by rfl) HBK.out HRA.out (by omega) (by have := hB3.size; simp; omega) ?_
        intro v3 w4 hr3 hg3
        have HR3 : Hid (LRow 37 w2.heap.size v3 (nml (L.take (j + 1))) w4) := Lib.hid (by rw [HS.out]; exact hr3)
        have hB4 : Below w2.heap.size w2 w4 := (hB3.alloc hB3.size _).grown hg3 (by have := hB3.size; simp; omega) (fun k hk => (World.ownsRow.lt HRr3.out k hk).1)
        clear hr3 hg3
        go_wp2
        go_roundw
        case rel => exact ⟨j + 1, v3, by go_num, by omega, rfl, HR3, hB4⟩
        case measure => simp [intOf]; omega
      | false =>
        rw [hk] at HNT HTK
        have HS : Hid (nml (L.take (j + 1)) = nml (L.take j)) := Lib.hid (by rw [HTK.out]; simp)
        clear hk
        go_wp2_with fail
        refine (HNM.out _).mono ?_
        rw [HNT.out]
        rintro r w3 ⟨rfl, hb3⟩
        clear c0 c1 c2' c3 c4
        have hB3 := hB.trans (hb3.mono hB.size)
        have HRr3 : Hid (LRow 37 w2.heap.size v' (nml (L.take (j + 1))) w3) := Lib.hid (by rw [HS.out]; exact dn_step HRr.out hb3)
        go_wp2
        go_roundw
        case rel => exact ⟨j + 1, v', by go_num, by omega, rfl, HRr3, hB3⟩
        case measure => simp [intOf]; omega
    · obtain rfl : j = L.length := by omega
      have hf := HRr.out
      rw [List.take_length] at hf
      obtain ⟨A3, c3, rfl, h3⟩ := lrow_form hf
      have H3 := Lib.hid h3
      clear hf h3
      go_wp2
      refine bodyPost_ret (v := .slice A3 (nml L).length c3) (by simp [results, Tryz.results14, go_sem]) rfl ?_
      exact ⟨A3, c3, rfl, Tks.keep H3.out (fun _ _ _ => rfl) (fun b hb => ⟨Nat.le_trans hB2.size hb.1, hb.2⟩), hB2.trans (hB.mono hB2.size)⟩
end Go.Proofs.YtfmlcddakfbleaaGreatDoor

namespace Go.Proofs.YtfmlcddakfbleaaGreatDoor
open Go.RowKit Go.Shelf SignMath TreeMath

attribute [local go_sem] Oper.semAt_some

theorem eg_names : ∀ args w, (callFunc 37 args).run Tryz.prog w = .ok (.enter 37 args) w := by
  intro args w; simp [go_sem]
abbrev nyb (lp : Nat) : Obj := .cells #[.func (.yield lp) #[] #[]] 66 (0, 0)
abbrev nfb (b : Nat) : Obj := .cells #[.func (.func 67) #[] #[.pointer (some ⟨b, 0, none⟩)]] 44 (0, 0)
/-- what the iterator reads -/
def NmC (w0 : World) (b1 b : Nat) (A : Option Addr) (n c : Nat) (l : List Tr) : As := fun X W => (TkA A l w0.heap.size X W ∧ Has b (slb A n c) X W) ∧ Has b1 (nfb b) X W ∧ Low w0.heap.size w0 X W
theorem NmC.frames (w0 : World) (b1 b : Nat) (A : Option Addr) (n c : Nat) (l : List Tr) : Frames (NmC w0 b1 b A n c l) := ((TkA.frames _ _ _).and (Has.frames _ _)).and ((Has.frames _ _).and (Low.frames _ _))
def NmI (J : List Tr → As) (lp y : Nat) (pre : List Tr) : As := fun X W => J (nml pre) (fun j => X j ∨ j = y) W ∧ Has y (nyb lp) X W
def NmX (Jx : List Tr → As) (y : Nat) (L : List Tr) (c : Code) (_ : List Tr) : As := fun X W => c = .ret ∧ ∃ q, q <+: L ∧ Jx q (fun j => X j ∨ j = y) W
theorem pref_nml {pre L : List Tr} {x : Tr} (h : (pre ++ [x]) <+: L) (hx : nmt x.t = true) : (nml pre ++ [x]) <+: nml L := by
  obtain ⟨q, rfl⟩ := h
  refine ⟨nml q, ?_⟩
  unfold nml
  rw [List.filter_append, List.filter_append, List.filter_cons, if_pos hx, List.filter_nil]

set_option maxRecDepth 100000 in
set_option maxHeartbeats 2000000 in
theorem names_iter (xs : List Tr) (w0 : World) (hL : Laid w0) (b1 b : Nat) (A : Option Addr) (c : Nat) (hl : xs.length ≤ 20000) (hz : ∀ x ∈ xs, x.t.size ≤ 1000000) :
    Iter Tryz.prog 37 #[.pointer (some ⟨b1, 0, none⟩)] (fun x : Tr => #[nv (tok x)]) (nml xs) (NmC w0 b1 b A xs.length c (xs.map tok)) := by
  intro n m lp J Jx W hJ hJx hC hY h0
  have HY := Lib.hid hY
  have HC := Lib.hid hC
  have HJ := Lib.hid hJ
  have HJx := Lib.hid hJx
  have HL := Lib.hid hL
  have HZ := Lib.hid hz
  have q0 := (hC _ _ _ h0).2.1.cell (i := 0)
  have hlt := (hC _ _ _ h0).2.1.lt
  simp only [List.getElem?_toArray, List.getElem?_cons_zero] at q0
  clear hY hC hJ hJx hL hz
  refine callsIn_wide.2 ((callsIn_wide (n := 8)).1 ?_)
  refine callsIn_of_wp_marks Tryz.func37 rfl trivial ?_ rfl
  simp only [Tryz.ntmps37, List.size_toArray, List.length_cons, List.length_nil, Nat.reduceAdd, Nat.reduceSub, Array.replicate_succ, Array.replicate_zero, List.push_toArray, List.append_toArray, List.nil_append, List.cons_append]
  gi_wp2
  refine range_outG (values_iter xs b A c hl).g gT (fun _ => Frames.pure _) rfl eg_values (fun _ => rfl)
    (fun (t : Array Value) (x : Tr) (bp : Nat) => { tmps := (t.setIfInBounds 5 (nv (tok x))).setIfInBounds 3 (.pointer (some ⟨bp, 0, none⟩)), defers := [] })
    (NmI J lp W.heap.size) (NmX Jx W.heap.size (nml xs)) (fun pre x bp X W1 => J (nml pre) (fun j => X j ∨ j = W.heap.size ∨ j = bp) W1 ∧ Has W.heap.size (nyb lp) X W1 ∧ Has bp (tbx x) X W1) ?fI ?fX ?fA ?hC ?h0 ?assign ?body ?done ?stop
  case fI => exact fun pre => ((HJ.out _).within _).and (Has.frames _ _)
  case fX => exact fun c pre => (Frames.pure _).and (Frames.ex fun q => (Frames.pure _).and ((HJx.out _).within _))
  case fA => exact fun pre x bp => ((HJ.out _).within _).and ((Has.frames _ _).and (Has.frames _ _))
  case hC =>
    rintro pre X W1 ⟨hj, hh⟩
    have h := ((TkA.frames _ _ _).and (Has.frames _ _)).less (HC.out _ _ _ hj).1 (fun j h => .inl h)
    exact ⟨⟨_, h.1⟩, h.2⟩
  case h0 => exact ⟨(HJ.out _).more h0 (Off.alloc _ _ _) (fun j hj => hj.elim (fun h => h.elim) (fun h => .inr (by omega))), Has.newAt (fun h => h) rfl _⟩
  case assign =>
    rintro lq X pre x W1 K hX hXb ⟨hj, hh⟩ - hp hK
    have hb1 := hK W1.heap.size (W1.alloc (tbx x)) (by simp) (Kept.alloc _ _ _) ⟨(HJ.out _).more hj (Off.alloc _ _ _) (fun j hj => by
      rcases hj with h | h | h
      · exact .inl (.inl h)
      · exact .inl (.inr h)
      · exact .inr (by omega)), (Has.frames _ _).off hh (Off.alloc _ _ _), Has.new hXb _⟩
    clear hK h0 q0
    gi_wp2
    simpa only [List.setIfInBounds_toArray, List.set_cons_zero, List.set_cons_succ] using hb1
  case done =>
    rintro D ys W1 rfl ⟨hj, -⟩ hD
    gi_wp2
    refine ⟨by simp, .inl ⟨_, _, rfl, run_takeDeferred hD, ?_⟩⟩
    exact ⟨_, results_none rfl _ _ _, ⟨_, rfl⟩, .inl ((HJ.out _).less ((HJ.out _).off hj (Off.putObj (l := D) (.inl rfl) W1 (.deferred none))) (fun _ h => h.elim))⟩
  case stop =>
    rintro D c pre W1 ⟨rfl, q, hq, hj⟩ hD
    gi_wp2
    refine ⟨by simp, .inl ⟨_, _, rfl, run_takeDeferred hD, ?_⟩⟩
    exact ⟨_, results_none rfl _ _ _, ⟨_, rfl⟩, .inr ⟨_, hq, (HJx.out _).less ((HJx.out _).off hj (Off.putObj (l := D) (.inl rfl) W1 (.deferred none))) (fun _ h => h.elim)⟩⟩
  case body =>
    rintro lq X pre x bp W1 hX hXb hr2 ⟨hj, hh, h1⟩ hp
    simp only [List.setIfInBounds_toArray, List.set_cons_zero, List.set_cons_succ]
    have HP := Lib.hid hp
    have hmem : x ∈ xs := hp.subset (by simp)
    have HLW := Lib.hid (HL.out.below (HC.out _ _ _ hj).2.2.1)
    have HNM := Lib.hid (name_big (tok x).t (HZ.out x hmem) W1 HLW.out)
    have HNT : Hid ((wd (bs (tok x).t) && !kw (tok x).t) = nmt x.t) := Lib.hid rfl
    have HB : XOk (fun j => X j ∨ j = W.heap.size ∨ j = bp) W1 := fun j hj => by
      rcases hj with h | h | h
      · exact hXb j h
      · subst h; exact hh.ok
      · subst h; exact h1.ok
    obtain ⟨p0, p1, p2, p3, p4⟩ : W1.cell? ⟨bp, 0, none⟩ = some (.int .i64 (tok x).k) ∧ W1.cell? ⟨bp, 1, none⟩ = some (.string (tok x).g) ∧ W1.cell? ⟨bp, 2, none⟩ = some (.string (tok x).t) ∧ W1.cell? ⟨bp, 3, none⟩ = some (.int .i64 (tok x).a) ∧ W1.cell? ⟨bp, 4, none⟩ = some (.slice (tok x).A (tok x).kids.length (tok x).c) := ⟨h1.cell (i := 0), h1.cell (i := 1), h1.cell (i := 2), h1.cell (i := 3), h1.cell (i := 4)⟩
    have r0 := hh.cell (i := 0)
    simp only [List.getElem?_toArray, List.getElem?_cons_zero] at r0
    clear hp q0 hlt h0 hmem hr2
    cases hw : nmt x.t with
    | true =>
      rw [hw] at HNT
      rw [HNT.out, if_pos rfl] at HNM
      obtain ⟨fn, tmps, assign, body, hy, hR⟩ := HY.out (nml pre) x _ W1 HB hj (pref_nml HP.out hw)
      have HSN : Hid (nml (pre ++ [x]) = nml pre ++ [x]) := Lib.hid (by rw [nml_snoc, if_pos hw])
      clear hw
      gi_wp2_with (refine ⟨trivial, ?_⟩; gi_at_call 38; refine (CallsIn.inRound lq (callsIn_wide.2 HNM.out)).mono ?_; rintro r W2 ⟨rfl, rfl⟩)
      refine round_at (hR.mono ?_)
      rintro r W3 ⟨hs3, hk3, (⟨rfl, hJ3⟩ | ⟨rfl, hJx3⟩)⟩
      · have hh3 := hh.kept hk3 (.inr (.inl rfl))
        gi_wp2
        refine ⟨hs3, hk3.mono fun _ h => .inl h, ?_, hh3⟩
        rw [HSN.out]
        exact (HJ.out _).less hJ3 (fun j h => h.elim .inl (fun h => .inr (.inl h)))
      · gi_wp2
        exact ⟨hs3, hk3.mono fun _ h => .inl h, rfl, _, pref_nml HP.out (by have := HNT.out; unfold nmt; exact this), (HJx.out _).less hJx3 (fun j h => h.elim .inl (fun h => .inr (.inl h)))⟩
    | false =>
      rw [hw] at HNT
      rw [HNT.out, if_neg (by simp)] at HNM
      have HSN : Hid (nml (pre ++ [x]) = nml pre) := Lib.hid (by rw [nml_snoc, if_neg (by rw [hw]; simp), List.append_nil])
      clear hw
      unfold errn at HNM
      gi_wp2_with (refine ⟨trivial, ?_⟩; gi_at_call 38; refine (CallsIn.inRound lq (callsIn_wide.2 HNM.out)).mono ?_; rintro r W2 ⟨rfl, rfl⟩)
      try refine ⟨fun _ h => (by cases h), ?_⟩
      gi_wp2
      refine ⟨Nat.le_refl _, Kept.refl _ _, ?_, hh⟩
      rw [HSN.out]
      exact (HJ.out _).less hj (fun j h => h.elim .inl (fun h => .inr (.inl h)))

/-- what decl.Names answers -/
def NmsV (T : Tr) (w : World) (e : Ending) (w' : World) : Prop := ∃ b1 b A c, e = .returned (.func (.func 37) #[] #[.pointer (some ⟨b1, 0, none⟩)]) ∧ w'.heap[b1]? = some (nfb b) ∧ w.heap.size ≤ b1 ∧
  w'.heap[b]? = some (slb A (lvs T).length c) ∧ w.heap.size ≤ b ∧ Tks (nw w.heap.size w') w' A ((lvs T).map tok) ∧ Below w.heap.size w w'

set_option maxRecDepth 100000 in
set_option maxHeartbeats 2000000 in
theorem names_any (T : Tr) (tl : ByteArray) (w : World) (hw : wt T ≤ 9000) (hT : Tn (lo w.heap.size) w T) :
    Calls Tryz.prog 15 #[pvl T tl] w (NmsV T w) := by
  have hb0 := below1 w (pbx T tl)
  have HC := Lib.hid (leavesAll_any T (w.alloc (pbx T tl)) hw (hT.after hb0))
  have hz := heap_alloc_new w (pbx T tl)
  have HB := Lib.hid hb0
  have hmf : ∀ (fn : Fn) (first cap : Array Value) (w : World), (Instr.makeFunc fn first cap).run Tryz.prog w = .ok (.func fn first cap) w := fun _ _ _ _ => rfl
  unfold NmsV
  unfold LvsV at HC
  generalize lvs T = L at HC ⊢
  obtain ⟨t0, t1, t2, t3, t4, t5⟩ := heap6p hz
  clear hT hw hb0 hz
  go_enter Tryz.func15, Tryz.ntmps15
  go_wp2_with fail
  refine HC.out.mono ?_
  rintro e w2 ⟨b, A, c, rfl, hsl, hnb, hTk, hb2⟩
  have hB2 := HB.out.trans (hb2.mono HB.out.size)
  have HS := Lib.hid (And.intro hsl (And.intro hnb (And.intro hTk hB2)))
  clear hsl hnb hTk hb2 hB2 t0 t1 t2 t3 t4 t5 HC
  have hz9 := heap_alloc_new w2 (.cells #[.nilFunc] 44 (0, 0))
  have g0 := cell_heap hz9 (i := 0)
  have f0 := frozen_heap hz9 (i := 0)
  simp only [List.getElem?_toArray, List.getElem?_cons_zero] at g0
  have hst : Sem.run Tryz.prog (store ⟨w2.heap.size, 0, none⟩ (.func (.func 67) #[] #[.pointer (some ⟨b, 0, none⟩)])) (w2.alloc (.cells #[.nilFunc] 44 (0, 0))) = .ok () (w2.alloc (nfb b)) :=
    (run_store _ _ _ _ _ rfl).trans (by simp [go_sem, g0, f0])
  clear hz9 g0 f0
  go_wp2
  go_ret
  obtain ⟨hsl, hnb, hTk, hB2⟩ := HS.out
  have hlt := (Array.getElem?_eq_some_iff.1 hsl).1
  rw [World.size_alloc] at hnb
  have hw' := below1 w2 (nfb b)
  exact ⟨w2.heap.size, b, A, c, rfl, heap_alloc_new w2 (nfb b), hB2.size, (hw'.block _ hlt).trans hsl, by omega, Tks.keep hTk (fun k i hk => cell_of (hw'.block _ hk.2)) (fun k hk => ⟨by have := hk.1; rw [World.size_alloc] at this; omega, Nat.lt_of_lt_of_le hk.2 hw'.size⟩), hB2.trans (hw'.mono hB2.size)⟩
end Go.Proofs.YtfmlcddakfbleaaGreatDoor

namespace Go.Proofs.YtfmlcddakfbleaaGreatDoor
open Go.RowKit Go.Shelf SignMath TreeMath
open Dc

attribute [local go_sem] Oper.semAt_some

theorem dn_pl_tok {x : Tr} (hk : x.k = 1) (hd : x.kids = []) : pl (tok x) = pl x := by
  cases x
  simp only at hk hd
  subst hk hd
  rw [pl_eq, pl_eq]
  rfl
theorem dn_lvs_leaf {T x : Tr} (h : x ∈ lvs T) : x ∈ ns T ∧ x.k = 1 ∧ x.kids = [] := by
  unfold lvs at h
  split at h
  · rename_i hr
    obtain ⟨h1, h2⟩ := List.mem_filter.1 (show x ∈ (ns T).filter lfb from h)
    have hk : x.k = 1 := by simpa [lfb] using h2
    exact ⟨h1, hk, (snd_leaf (rgt_node hr h1) hk).2.2⟩
  · simp at h
theorem dn_lvs_map {T U : Tr} (h : pl U = pl T) : (lvs T).map pl = (lvs U).map pl := by
  unfold lvs
  rw [(same_of h).1]
  split
  · rw [← lf_pl, ← lf_pl, h]
  · rfl
theorem dn_wt_tok {x : Tr} : wt (tok x) = w1 x := by rw [wt_eq]; rfl
theorem dn_tn_tok {S : Nat → Prop} {w : World} {x : Tr} (h : rng x.a) : Tn S w (tok x) := tn_iff.2 ⟨h, fun hn => by simp [tok] at hn, by simp [tok]⟩
/-- the two lists of names, one beside the other -/
theorem dn_map {T U : Tr} (h : pl U = pl T) : (nml (lvs T)).map pl = (nml (lvs U)).map pl := by
  rw [← nml_pl, ← nml_pl, dn_lvs_map h]
theorem dn_len {T U : Tr} (h : pl U = pl T) : (nml (lvs T)).length = (nml (lvs U)).length := by
  have := congrArg List.length (dn_map h)
  simpa using this
theorem dn_at {T U : Tr} (h : pl U = pl T) {pre : List Tr} {x : Tr} (hp : pre ++ [x] <+: nml (lvs T)) : x ∈ ns T ∧ ∃ y, (nml (lvs U))[pre.length]? = some y ∧ sm (tok x) y = true ∧ y ∈ ns U := by
  obtain ⟨t, ht⟩ := hp
  have hx : (nml (lvs T))[pre.length]? = some x := by rw [← ht]; simp
  have h1 : ((nml (lvs T)).map pl)[pre.length]? = some (pl x) := by rw [List.getElem?_map, hx]; rfl
  rw [dn_map h, List.getElem?_map] at h1
  obtain ⟨y, hy, he⟩ := Option.map_eq_some_iff.1 h1
  obtain ⟨hm, hk, hd⟩ := dn_lvs_leaf (List.mem_filter.1 (List.mem_of_getElem? hx)).1
  exact ⟨hm, y, hy, (sm_iff _ _).2 (by rw [dn_pl_tok hk hd, he]), (dn_lvs_leaf (List.mem_filter.1 (List.mem_of_getElem? hy)).1).1⟩
theorem dn_act {K : Act → World → Prop} {t : Array Value} {d : List Deferred} {W : World} (h : ∀ t', t' = t → K ⟨t', d⟩ W) : K ⟨t, d⟩ W := h t rfl
theorem dn_u20 (x : Int) : ∃ n : Nat, 1 ≤ n ∧ n ≤ 20 ∧ wrap64 (1 + wrap64 ((IntKind.u64.wrap x).tmod 20)) = n := by
  have h0 : 0 ≤ IntKind.u64.wrap x := by simp [IntKind.wrap, IntKind.signed, IntKind.bits]; omega
  generalize IntKind.u64.wrap x = y at h0
  have h1 : y.tmod 20 = y % 20 := Int.tmod_eq_emod_of_nonneg h0
  rw [h1]
  refine ⟨(1 + y % 20).toNat, by omega, by omega, ?_⟩
  unfold wrap64
  omega
theorem BK.put9 {w W : World} {b : Nat} {u u' : Value} {t' t : TypeId} {bs : List (Nat × Obj)} {ts : List Tr} (h : BK w ((b, .cells #[u] t' (0, 0)) :: bs) ts t [] W) (hn : ∀ q ∈ bs, q.1 ≠ b) (hb : w.heap.size ≤ b) (ht : ∀ T ∈ ts, Tn (fun k => k < W.heap.size ∧ k ≠ b) W T) :
    BK w ((b, .cells #[u'] t' (0, 0)) :: bs) ts t [] (W.setCell ⟨b, 0, none⟩ u') := by
  refine ⟨h.low.setCell (p := ⟨b, 0, none⟩) hb _, fun q hq => ?_, fun T hT => (ht T hT).keep (fun k i hk => cell_of (Below.heap_setCell _ _ _ _ hk.2)) fun k hk => ⟨by rw [size_set]; exact hk.1, by simp⟩, by simp, fun q _ => by simp, List.nodup_nil⟩
  rcases List.mem_cons.1 hq with rfl | hq
  · have := heap_set (h.has _ (List.mem_cons_self)) (i := 0) u'
    simpa only [List.setIfInBounds_toArray, List.set_cons_zero] using this
  · exact (Below.heap_setCell _ _ _ _ (hn q hq)).trans (h.has q (List.mem_cons_of_mem _ hq))
theorem dn_setk {V1 W : World} {b1 b n c : Nat} {A : Option Addr} {l : List Tr} {o : Obj} {X : Nat → Prop} (h : NmC V1 b1 b A n c l X W) (_hk : Has V1.heap.size o X W) (hb : V1.heap.size < b1 ∧ V1.heap.size < b) (v : Value) :
    NmC V1 b1 b A n c l X (W.setCell ⟨V1.heap.size, 0, none⟩ v) := by
  obtain ⟨⟨h1, h2⟩, h3, h4⟩ := h
  exact ⟨⟨Tks.keep h1 (fun k i hk => cell_of (Below.heap_setCell _ _ _ _ hk.2.2)) (fun k hk => ⟨hk.1, by rw [size_set]; exact hk.2.1, hk.2.2⟩), h2.other (by omega)⟩, h3.other (by omega), h4.set (p := ⟨V1.heap.size, 0, none⟩) (Nat.le_refl _) _⟩
theorem BK.add9 {w W : World} {bs : List (Nat × Obj)} {ts : List Tr} {t : TypeId} (h : BK w bs ts t [] W) {b : Nat} {o : Obj} (hb : W.heap[b]? = some o) : BK w ((b, o) :: bs) ts t [] W :=
  ⟨h.low, fun q hq => by
    rcases List.mem_cons.1 hq with rfl | hq
    · exact hb
    · exact h.has q hq, h.tn, h.zb, fun q _ => by simp, h.nd⟩
abbrev nlb (A : Option Addr) (n c : Nat) : Obj := .cells #[.slice A n c] 35 (0, 0)
abbrev rbb (b : Bool) : Obj := .cells #[.bool b] 4 (0, 0)

set_option maxRecDepth 100000 in
set_option maxHeartbeats 2000000 in
/-- a tree, or a tail, that the law says nothing of -/
theorem dn_early (T : Tr) (s : ByteArray) (p : Int) (w : World) (hL : LaidX w) (hz : Szd T) (hT : Tn (lo w.heap.size) w T) (hn : 2000 < wt T ∨ 1000 < s.size) :
    CallsIn Fence.wide 8 Tryz.prog 4 #[nv T, .string s, .int .i64 p] w fun e w' => e = .returned (.bool true) ∧ Below w.heap.size w w' := by
  have hk0 : BK w [(w.heap.size + 1 + 1, rbb false), (w.heap.size + 1, ibx p), (w.heap.size, nbx T)] [T] 37 [] (((w.alloc (nbx T)).alloc (ibx p)).alloc (rbb false)) := by
    have h := ((((BK.begin (t := 37) w).more hT rfl).alloc (nbx T)).alloc (ibx p)).alloc (rbb false)
    simpa only [World.size_alloc] using h
  have HZ := Lib.hid hz
  have HA := Lib.hid (declAlive_any _ (hL.below hk0.low))
  by_cases hn1 : 2000 < wt T
  · have HN := Lib.hid hn1
    clear hz hn hn1 hT hL
    refine callsIn_of_wp_marks Tryz.func4 rfl trivial ?_ rfl
    simp only [Tryz.ntmps4, List.size_toArray, List.length_cons, List.length_nil, Nat.reduceAdd, Nat.reduceSub, Array.replicate_succ, Array.replicate_zero, List.push_toArray, List.append_toArray, List.nil_append, List.cons_append]
    refine wpIn_wide.2 ?_
    go_wp2_with fail
    refine HA.out.mono ?_
    rintro e w1 ⟨rfl, hb⟩
    have hk1 := hk0.step hb
    clear hb hk0 HA
    have HD := Lib.hid (doc_any T 2000 w1 (by omega) (by omega) HZ.out (hk1.tree (T := T) (by simp)))
    have c1 := heap5 (hk1.has (w.heap.size, nbx T) (by simp))
    go_wp2_with fail
    refine HD.out.mono ?_
    rintro r w2 ⟨U, l, rfl, hb2, hU, l1, l2, l3, l4⟩
    have hk2 := (hk1.step hb2).alloc (rbx U)
    have hl : l < 0 := by have := l4 (by have := HN.out; omega); omega
    have r2 := hk2.has (w.heap.size + 1 + 1, rbb false) (by simp)
    have q2 := cell_heap r2 (i := 0)
    have f2 := frozen_heap r2 (i := 0)
    have HK3 := Lib.hid hk2.low
    have r3 := cell_heap (heap_set r2 (i := 0) (.bool true)) (i := 0)
    simp only [List.setIfInBounds_toArray, List.set_cons_zero, List.getElem?_toArray, List.getElem?_cons_zero] at r3 q2
    clear hb2 hU l1 l2 l3 l4 HD c1 hk1 hk2 r2
    go_wp2
    exact ⟨.bool true, by simp [results, Tryz.results4, go_sem, r3], rfl, HK3.out.setCell (p := ⟨w.heap.size + 1 + 1, 0, none⟩) (by simp; omega) _⟩
  · have z1 : (1000 : Int) < (s.size : Nat) := by have := hn.resolve_left hn1; omega
    have HN : Hid (wt T ≤ 2000) := Lib.hid (by omega)
    clear hz hn hn1 hT hL
    refine callsIn_of_wp_marks Tryz.func4 rfl trivial ?_ rfl
    simp only [Tryz.ntmps4, List.size_toArray, List.length_cons, List.length_nil, Nat.reduceAdd, Nat.reduceSub, Array.replicate_succ, Array.replicate_zero, List.push_toArray, List.append_toArray, List.nil_append, List.cons_append]
    refine wpIn_wide.2 ?_
    go_wp2_with fail
    refine HA.out.mono ?_
    rintro e w1 ⟨rfl, hb⟩
    have hk1 := hk0.step hb
    clear hb hk0 HA
    have HD := Lib.hid (doc_any T 2000 w1 (by omega) (by omega) HZ.out (hk1.tree (T := T) (by simp)))
    have c1 := heap5 (hk1.has (w.heap.size, nbx T) (by simp))
    go_wp2_with fail
    refine HD.out.mono ?_
    rintro r w2 ⟨U, l, rfl, hb2, hU, l1, l2, l3, l4⟩
    have hk2 := (hk1.step hb2).alloc (rbx U)
    have hl : ¬ l < 0 := by have := (l3 (by have := HN.out; omega)).1; have := HN.out; omega
    have r2 := hk2.has (w.heap.size + 1 + 1, rbb false) (by simp)
    have q2 := cell_heap r2 (i := 0)
    have f2 := frozen_heap r2 (i := 0)
    have HK3 := Lib.hid hk2.low
    have r3 := cell_heap (heap_set r2 (i := 0) (.bool true)) (i := 0)
    simp only [List.setIfInBounds_toArray, List.set_cons_zero, List.getElem?_toArray, List.getElem?_cons_zero] at r3 q2
    clear hb2 hU l1 l2 l3 l4 HD c1 hk1 hk2 r2
    go_wp2
    exact ⟨.bool true, by simp [results, Tryz.results4, go_sem, r3], rfl, HK3.out.setCell (p := ⟨w.heap.size + 1 + 1, 0, none⟩) (by simp; omega) _⟩

set_option maxRecDepth 100000 in
set_option maxHeartbeats 8000000 in
theorem dn_in (T : Tr) (s : ByteArray) (p : Int) (w : World) (hL : LaidX w) (hz : Szd T) (hT : Tn (lo w.heap.size) w T) (hw : wt T ≤ 2000) (hs : s.size ≤ 1000) :
    CallsIn Fence.wide 8 Tryz.prog 4 #[nv T, .string s, .int .i64 p] w fun e w' => e = .returned (.bool true) ∧ Below w.heap.size w w' := by
  have hk0 : BK w [(w.heap.size + 1 + 1, rbb false), (w.heap.size + 1, ibx p), (w.heap.size, nbx T)] [T] 37 [] (((w.alloc (nbx T)).alloc (ibx p)).alloc (rbb false)) := by
    have h := ((((BK.begin (t := 37) w).more hT rfl).alloc (nbx T)).alloc (ibx p)).alloc (rbb false)
    simpa only [World.size_alloc] using h
  have HZ := Lib.hid hz
  have HW := Lib.hid hw
  have HT := Lib.hid hT
  have HLX := Lib.hid hL
  have HSZ := Lib.hid hs
  have HA := Lib.hid (declAlive_any _ (hL.below hk0.low))
  have z1 : ¬ (1000 : Int) < (s.size : Nat) := by omega
  clear hz hT hw hs hL
  refine callsIn_of_wp_marks Tryz.func4 rfl trivial ?_ rfl
  simp only [Tryz.ntmps4, List.size_toArray, List.length_cons, List.length_nil, Nat.reduceAdd, Nat.reduceSub, Array.replicate_succ, Array.replicate_zero, List.push_toArray, List.append_toArray, List.nil_append, List.cons_append]
  refine wpIn_wide.2 ?_
  go_wp2_with fail
  refine HA.out.mono ?_
  rintro e w1 ⟨rfl, hb⟩
  have hk1 := hk0.step hb
  clear hb hk0 HA
  have HD := Lib.hid (doc_any T 2000 w1 (by omega) (by omega) HZ.out (hk1.tree (T := T) (by simp)))
  have c1 := heap5 (hk1.has (w.heap.size, nbx T) (by simp))
  go_wp2_with fail
  refine HD.out.mono ?_
  rintro r w2 ⟨U, l, rfl, hb2, hU, l1, l2, l3, l4⟩
  have hk2 := ((hk1.call hb2 hU).alloc (rbx U)).alloc (nlb none 0 0)
  have hl : ¬ l < 0 := by have := (l3 (by have := HW.out; omega)).1; have := HW.out; omega
  have hpl : pl U = pl T := (l3 (by have := HW.out; omega)).2
  have HU : Hid (Tn (nw w1.heap.size w2) w2 U) := Lib.hid hU
  have HL1 : Hid (w.heap.size + 2 < w1.heap.size) := Lib.hid (hk1.lt (b := w.heap.size + 1 + 1) (o := rbb false) (by simp))
  have HL2 : Hid (w1.heap.size ≤ w2.heap.size) := Lib.hid hb2.size
  simp only [World.size_alloc] at hk2
  have hz2 : Below w2.heap.size w2 ((w2.alloc (rbx U)).alloc (nlb none 0 0)) := below2 w2 _ _
  clear hb2 hU l3 l4 l1 l2 HD c1 hk1
  have hsm := same_of hpl
  have hwU : wt U ≤ 2000 := by rw [hsm.2.2.1]; exact HW.out
  have HPL := Lib.hid hpl
  have HWU := Lib.hid hwU
  have HR := Lib.hid (rright_any U _ (hk2.tree (T := U) (by simp)) (by omega : wt U ≤ 9000))
  have c2 := heap5 (hk2.has (w2.heap.size, rbx U) (by simp))
  clear hpl hsm hwU
  go_wp2_with fail
  refine HR.out.mono ?_
  rintro r w3 ⟨rfl, hb3⟩
  have hk3 := hk2.step hb3
  have hz3 := hz2.trans (hb3.mono (by simp; omega))
  clear hb3 c2 HR hk2 hz2 z1
  rename_i K2 hK2 K1 hK1 K hK
  refine dn_act fun t ht => ?_
  have REST : Hid (∀ (v28 v29 : Value) (A : Option Addr) (c : Nat) (V : World), BK w [(w2.heap.size + 1, nlb A (nml (lvs U)).length c), (w2.heap.size, rbx U), (w.heap.size + 1 + 1, rbb false), (w.heap.size + 1, ibx p), (w.heap.size, nbx T)] [U, T] 37 [] V →
      Below w2.heap.size w2 V → Tks (fun b => w2.heap.size + 1 < b ∧ b < V.heap.size) V A (nml (lvs U)) →
      K2 { tmps := ((t.setIfInBounds 28 v28).setIfInBounds 29 v29), defers := [] } V) := by
    clear hk3 hz3 hK K hK1 K1
    refine Lib.hid fun v28 v29 A c V hk0 hz0 hw0 => ?_
    subst ht
    simp only [List.setIfInBounds_toArray, List.set_cons_zero, List.set_cons_succ]
    refine hK2 _ _ ?_
    have c5 := cell_heap (hk0.has (w.heap.size + 1, ibx p) (by simp)) (i := 0)
    have f5 := frozen_heap (hk0.has (w.heap.size + 1, ibx p) (by simp)) (i := 0)
    simp only [List.getElem?_toArray, List.getElem?_cons_zero] at c5
    obtain ⟨sv, hs1, hs20, hsv⟩ := dn_u20 p
    have hkA := hk0.sub (bs' := [(w.heap.size + 1, ibx p), (w2.heap.size + 1, nlb A (nml (lvs U)).length c), (w.heap.size + 1 + 1, rbb false), (w.heap.size, nbx T)]) (ts' := [U, T]) (by simp) (by simp)
    have hL1 := HL1.out
    have hL2 := HL2.out
    have hszr := hz0.size
    have hkB := hkA.put9 (u' := .int .i64 (wrap64 (1 + wrap64 ((IntKind.u64.wrap p).tmod 20)))) (by intro q hq; simp at hq; rcases hq with rfl | rfl | rfl <;> simp <;> omega) (by omega) (by
      intro X hX
      simp at hX
      rcases hX with rfl | rfl
      · exact Tn.keep (fun b i hb => cell_of (hz0.block b hb.2)) (fun b hb => ⟨by have := hb.2; omega, by have := hb.1; omega⟩) HU.out
      · exact Tn.keep (fun b i hb => cell_of (hk0.low.block b hb)) (fun b hb => ⟨by have : b < w.heap.size := hb; omega, by have : b < w.heap.size := hb; omega⟩) HT.out)
    have hwV : Tks (fun b => w2.heap.size + 1 < b ∧ b < (V.setCell ⟨w.heap.size + 1, 0, none⟩ (.int .i64 (wrap64 (1 + wrap64 ((IntKind.u64.wrap p).tmod 20))))).heap.size) (V.setCell ⟨w.heap.size + 1, 0, none⟩ (.int .i64 (wrap64 (1 + wrap64 ((IntKind.u64.wrap p).tmod 20))))) A (nml (lvs U)) :=
      Tks.keep hw0 (fun b i hb => cell_of (Below.heap_setCell _ _ _ _ (by have := hb.1; simp; omega))) fun b hb => ⟨hb.1, by rw [size_set]; exact hb.2⟩
    have t5 := heap5 ((hkB.alloc (ibx 0)).has (w.heap.size, nbx T) (by simp))
    have HHW : Hid (w.heap.size + 2 < V.heap.size) := Lib.hid (by omega)
    have HHW2 : Hid (w2.heap.size + 1 < V.heap.size) := Lib.hid (hk0.lt (b := w2.heap.size + 1) (o := nlb A (nml (lvs U)).length c) (by simp))
    have HKB := Lib.hid hkB
    have HWV := Lib.hid hwV
    have HSV := Lib.hid (And.intro hs1 (And.intro hs20 hsv))
    clear hkA hszr hkB hwV hs1 hs20 hsv hk0 hz0 hw0 hL1 hL2 hK2
    go_wp2_with fail
    rw [HSV.out.2.2] at HKB HWV ⊢
    have hszV := size_set V ⟨w.heap.size + 1, 0, none⟩ (.int .i64 (sv : Nat))
    generalize V.setCell ⟨w.heap.size + 1, 0, none⟩ (.int .i64 (sv : Nat)) = V1 at HKB HWV t5 hszV ⊢
    have HHW1 : Hid (w.heap.size + 2 < V1.heap.size) := Lib.hid (by rw [hszV]; exact HHW.out)
    have HHW3 : Hid (w2.heap.size + 1 < V1.heap.size) := Lib.hid (by rw [hszV]; exact HHW2.out)
    rw [← hszV]
    clear hszV HHW HHW2
    have hwT : wt T ≤ 9000 := by have := HW.out; omega
    have hLV : LaidX V1 := HLX.out.below HKB.out.low
    have HIT : Hid (∀ (b1 b : Nat) (A : Option Addr) (c : Nat), Iter Tryz.prog 37 #[.pointer (some ⟨b1, 0, none⟩)] (fun x : Tr => #[nv (tok x)]) (nml (lvs T)) (NmC V1 b1 b A (lvs T).length c ((lvs T).map tok))) := Lib.hid fun b1 b A c => by
      refine names_iter (lvs T) V1 hLV.laid b1 b A c (by have := lvs_len hwT; omega) (fun x hx => ?_)
      have := text_le (dn_lvs_leaf hx).1
      omega
    refine (names_any T s _ hwT ((HKB.out.alloc (ibx 0)).tree (T := T) (by simp))).mono ?_
    rintro r W0 ⟨b1, b, A4, c4, rfl, hx1, hn1, hsl, hnb, hTk, hbW⟩
    have hn0 : W0.heap[V1.heap.size]? = some (ibx 0) := (hbW.block _ (by simp)).trans (heap_alloc_new V1 _)
    have hlw0 : Below V1.heap.size V1 W0 := (below1 V1 _).trans (hbW.mono (by simp))
    have hC0 : NmC V1 b1 b A4 (lvs T).length c4 ((lvs T).map tok) no W0 := ⟨⟨Tks.keep hTk (fun _ _ _ => rfl) fun k hk => ⟨fun h => h, hk.2, by have := hk.1; simp at this; omega⟩, ⟨fun h => h, hsl⟩⟩, ⟨fun h => h, hx1⟩, ⟨hlw0, hlw0.size, fun _ h => h.elim⟩⟩
    have HN1 : Hid (V1.heap.size < b1 ∧ V1.heap.size < b) := Lib.hid (by simp at hn1 hnb; omega)
    have HC0 := Lib.hid hC0
    have HN0 := Lib.hid hn0
    have HS1 := Lib.hid HSV.out.1
    clear hx1 hn1 hsl hnb hTk hbW hn0 hlw0 hC0 t5 hwT hLV c5 f5
    go_wp2_with fail
    refine (wpIn_wide (n := 8)).1 ?_
    refine range_postG (HIT.out b1 b A4 c4).g gT (fun _ => Frames.pure _) rfl eg_names (fun _ => rfl)
      (fun (t : Array Value) (x : Tr) (bp : Nat) => { tmps := (t.setIfInBounds 39 (nv (tok x))).setIfInBounds 11 (.pointer (some ⟨bp, 0, none⟩)), defers := [] })
      (fun pre X W => NmC V1 b1 b A4 (lvs T).length c4 ((lvs T).map tok) X W ∧ Has V1.heap.size (ibx (pre.length : Nat)) X W ∧ pre.length < sv)
      (fun cc pre X W => cc = .exit 0 ∧ Low V1.heap.size V1 X W ∧ Has V1.heap.size (ibx (sv : Nat)) X W ∧ sv ≤ (nml (lvs U)).length)
      (fun pre x bp X W => (NmC V1 b1 b A4 (lvs T).length c4 ((lvs T).map tok) X W ∧ Has V1.heap.size (ibx (pre.length : Nat)) X W ∧ pre.length < sv) ∧ Has bp (tbx x) X W ∧ bp ≠ V1.heap.size) ?fI ?fX ?fB ?hC ?h0 0 ?hQ
      (fun D W => ∃ kk : Nat, kk = min sv (nml (lvs U)).length ∧ Low V1.heap.size V1 (· = D) W ∧ Has V1.heap.size (ibx (kk : Nat)) (· = D) W ∧ W.heap[D]? = some (.deferred (some []))) ?done ?stop ?assign ?body ?tail
    case fI => exact fun pre => (NmC.frames _ _ _ _ _ _ _).and ((Has.frames _ _).and (Frames.pure _))
    case fX => exact fun cc pre => (Frames.pure _).and ((Low.frames _ _).and ((Has.frames _ _).and (Frames.pure _)))
    case fB => exact fun pre x bp => ((NmC.frames _ _ _ _ _ _ _).and ((Has.frames _ _).and (Frames.pure _))).and ((Has.frames _ _).and (Frames.pure _))
    case hC => exact fun pre X W h => h.1
    case h0 => exact ⟨HC0.out, ⟨fun h => h, HN0.out⟩, HSV.out.1⟩
    case hQ => exact fun a w h => h
    case done =>
      rintro D xs W1 hxs ⟨h1, h2, h4⟩ hD
      have he := dn_len HPL.out
      rw [← hxs] at he
      exact ⟨xs.length, by omega, h1.2.2, h2, hD⟩
    case stop =>
      rintro D cc pre W1 ⟨rfl, h1, h2, h3⟩ hD
      exact ⟨rfl, sv, by omega, h1, h2, hD⟩
    case assign =>
      rintro lq X pre x W1 K hX hXb ⟨h1, h2, h4⟩ - hp hK
      have hb1 := hK W1.heap.size (W1.alloc (tbx x)) (by simp) (Kept.alloc _ _ _) ⟨⟨(NmC.frames _ _ _ _ _ _ _).off h1 (Off.alloc _ _ _), (Has.frames _ _).off h2 (Off.alloc _ _ _), h4⟩, Has.new hXb _, by have := h2.lt; omega⟩
      clear hK
      gi_wp2
      simpa only [List.setIfInBounds_toArray, List.set_cons_zero, List.set_cons_succ] using hb1
    case tail =>
      clear HN0 HC0 HIT
      rintro D1 V2 ⟨kk, hkk, hlowA, hkA, hD1⟩
      have hk4 := (((HKB.out.step hlowA.1).add9 hkA.2).add9 hD1).drew
      have HDN := Lib.hid (hlowA.2.2 D1 rfl)
      have hwT : wt T ≤ 9000 := by have := HW.out; omega
      have CTX : Hid (∀ W, Tn (lo W.heap.size) W T → Calls Tryz.prog 17 #[pvl T s] W fun e w' => e = .returned (.string ((if rgt T = true then tx (TreeMath.lf T) else ⟨#[]⟩) ++ s)) ∧ Below W.heap.size W w') := Lib.hid fun W h => dtext_any T s W h hwT (by have := HSZ.out; omega)
      have CTT : Hid (∀ W, Tn (lo W.heap.size) W T → Calls Tryz.prog 10 #[nv T] W fun e w' => e = .returned (.string (if rgt T = true then tx (TreeMath.lf T) else ⟨#[]⟩)) ∧ Below W.heap.size W w') := Lib.hid fun W h => text_any T W h hwT
      have hsz : (if rgt T = true then tx (TreeMath.lf T) else ⟨#[]⟩ : ByteArray).size ≤ 450000 := by
        split
        · have := tx_le T; omega
        · exact Nat.zero_le _
      generalize (if rgt T = true then tx (TreeMath.lf T) else ⟨#[]⟩ : ByteArray) = Y at CTX CTT hsz
      have hadd : ∀ W, Sem.run Tryz.prog (Op.stringOp .add Y s) W = .ok (.string (Y ++ s)) W := fun W => run_string_add_sum _ _ _ (by have := HSZ.out; omega)
      have hmn : (((kk : Nat) : Int) == min (sv : Int) ((nml (lvs U)).length : Int)) = true := by rw [beq_iff_eq]; omega
      have hss : ((Y ++ s).toList == (Y ++ s).toList) = true := by simp
      generalize (nml (lvs U)).length = M at hk4 hmn
      clear hkk hlowA hkA hD1 hwT hsz
      go_wp2
      rename_i K0 hK0
      refine wp_region_noPanic (wp_region_held (S := fun W' : World => W'.heap[V1.heap.size]? = some (ibx (kk : Nat)) ∧ W'.heap[w.heap.size + 1]? = some (ibx (sv : Nat)) ∧ W'.heap[w2.heap.size + 1]? = some (nlb A M c) ∧ W'.heap[w.heap.size]? = some (nbx T) ∧ True) (by kernel_rfl) ?_)
      show wpAnyH _ _ _ _ _ _ _ _ V2.drew
      generalize V2.drew = V3 at hk4 ⊢
      have hS0 : V3.heap[V1.heap.size]? = some (ibx (kk : Nat)) ∧ V3.heap[w.heap.size + 1]? = some (ibx (sv : Nat)) ∧ V3.heap[w2.heap.size + 1]? = some (nlb A M c) ∧ V3.heap[w.heap.size]? = some (nbx T) ∧ True := ⟨hk4.has (V1.heap.size, ibx (kk : Nat)) (by simp), hk4.has (w.heap.size + 1, ibx (sv : Nat)) (by simp), hk4.has (w2.heap.size + 1, nlb A M c) (by simp), hk4.has (w.heap.size, nbx T) (by simp), trivial⟩
      refine wpAnyH_take_d (i := 0) (v := .int .i64 (kk : Nat)) 58 rfl rfl (by kernel_rfl) (by kernel_rfl) (by kernel_rfl) (fun _ _ _ h => h) (Or.inl ⟨by kernel_rfl, fun w' hS' => ?y0⟩) hS0 ?_
      case y0 => (have s0 := cell_heap hS'.1 (i := 0); simp only [List.getElem?_toArray, List.getElem?_cons_zero] at s0; clear hS'; go_simp)
      simp only [Act.put, List.setIfInBounds_toArray, List.set_cons_zero, List.set_cons_succ]
      refine wpAnyH_take_d (i := 1) (v := .int .i64 (sv : Nat)) 59 rfl rfl (by kernel_rfl) (by kernel_rfl) (by kernel_rfl) (fun _ _ _ h => h) (Or.inl ⟨by kernel_rfl, fun w' hS' => ?y1⟩) hS0 ?_
      case y1 => (have s0 := cell_heap hS'.2.1 (i := 0); simp only [List.getElem?_toArray, List.getElem?_cons_zero] at s0; clear hS'; go_simp)
      simp only [Act.put, List.setIfInBounds_toArray, List.set_cons_zero, List.set_cons_succ]
      refine wpAnyH_take_d (i := 2) (v := .slice A M c) 60 rfl rfl (by kernel_rfl) (by kernel_rfl) (by kernel_rfl) (fun _ _ _ h => h) (Or.inl ⟨by kernel_rfl, fun w' hS' => ?y2⟩) hS0 ?_
      case y2 => (have s0 := cell_heap hS'.2.2.1 (i := 0); simp only [List.getElem?_toArray, List.getElem?_cons_zero] at s0; clear hS'; go_simp)
      simp only [Act.put, List.setIfInBounds_toArray, List.set_cons_zero, List.set_cons_succ]
      refine wpAnyH_take_d (i := 3) (v := .int .i64 (M : Nat)) 61 rfl rfl (by kernel_rfl) (by kernel_rfl) (by kernel_rfl) (fun _ _ _ h => h) (Or.inl ⟨by kernel_rfl, fun w' hS' => ?y3⟩) hS0 ?_
      case y3 => (skip; clear hS'; go_simp)
      simp only [Act.put, List.setIfInBounds_toArray, List.set_cons_zero, List.set_cons_succ]
      refine wpAnyH_take_d (i := 4) (v := .int .i64 (min (sv : Int) (M : Int))) 62 rfl rfl (by kernel_rfl) (by kernel_rfl) (by kernel_rfl) (fun _ _ _ h => h) (Or.inl ⟨by kernel_rfl, fun w' hS' => ?y4⟩) hS0 ?_
      case y4 => (skip; clear hS'; go_simp)
      simp only [Act.put, List.setIfInBounds_toArray, List.set_cons_zero, List.set_cons_succ]
      refine wpAnyH_take_d (i := 5) (v := .bool true) 63 rfl rfl (by kernel_rfl) (by kernel_rfl) (by kernel_rfl) (fun _ _ _ h => h) (Or.inl ⟨by kernel_rfl, fun w' hS' => ?y5⟩) hS0 ?_
      case y5 => (skip; clear hS'; go_simp)
      simp only [Act.put, List.setIfInBounds_toArray, List.set_cons_zero, List.set_cons_succ]
      refine wpAnyH_take_d (i := 6) (v := .bool true) 64 rfl rfl (by kernel_rfl) (by kernel_rfl) (by kernel_rfl) (fun _ _ _ h => h) (Or.inl ⟨by kernel_rfl, fun w' hS' => ?y6⟩) hS0 ?_
      case y6 => (skip; clear hS'; go_simp)
      simp only [Act.put, List.setIfInBounds_toArray, List.set_cons_zero, List.set_cons_succ]
      refine wpAnyH_take_d (i := 7) (v := nv T) 65 rfl rfl (by kernel_rfl) (by kernel_rfl) (by kernel_rfl) (fun _ _ _ h => h) (Or.inl ⟨by kernel_rfl, fun w' hS' => ?y7⟩) hS0 ?_
      case y7 => (obtain ⟨s0, s1, s2, s3, s4⟩ := heap5 hS'.2.2.2.1; clear hS'; go_simp)
      simp only [Act.put, List.setIfInBounds_toArray, List.set_cons_zero, List.set_cons_succ]
      refine wpAnyH_take_d (i := 8) (v := .string s) 66 rfl rfl (by kernel_rfl) (by kernel_rfl) (by kernel_rfl) (fun _ _ _ h => h) (Or.inl ⟨by kernel_rfl, fun w' hS' => ?y8⟩) hS0 ?_
      case y8 => (skip; clear hS'; go_simp)
      simp only [Act.put, List.setIfInBounds_toArray, List.set_cons_zero, List.set_cons_succ]
      refine wpAnyH_take_d (i := 9) (v := pvl T s) 67 rfl rfl (by kernel_rfl) (by kernel_rfl) (by kernel_rfl) (fun _ _ _ h => h) (Or.inl ⟨by kernel_rfl, fun w' hS' => ?y9⟩) hS0 ?_
      case y9 => (skip; clear hS'; go_simp)
      simp only [Act.put, List.setIfInBounds_toArray, List.set_cons_zero, List.set_cons_succ]
      refine wpAnyH_take_d (i := 11) (v := nv T) 69 rfl rfl (by kernel_rfl) (by kernel_rfl) (by kernel_rfl) (fun _ _ _ h => h) (Or.inl ⟨by kernel_rfl, fun w' hS' => ?y11⟩) hS0 ?_
      case y11 => (obtain ⟨s0, s1, s2, s3, s4⟩ := heap5 hS'.2.2.2.1; clear hS'; go_simp)
      simp only [Act.put, List.setIfInBounds_toArray, List.set_cons_zero, List.set_cons_succ]
      refine wpAnyH_take_d (i := 13) (v := .string s) 71 rfl rfl (by kernel_rfl) (by kernel_rfl) (by kernel_rfl) (fun _ _ _ h => h) (Or.inl ⟨by kernel_rfl, fun w' hS' => ?y13⟩) hS0 ?_
      case y13 => (skip; clear hS'; go_simp)
      simp only [Act.put, List.setIfInBounds_toArray, List.set_cons_zero, List.set_cons_succ]
      refine wpAnyH_ready (rs := [10]) (by kernel_rfl) (by simp) ?_
      refine AllReadyH.cons rfl (fun K hK => ?_) AllReadyH.nil
      go_simp
      refine (CTX.out _ (hk4.tree (T := T) (by simp))).mono ?_
      rintro e V4 ⟨rfl, hb⟩
      have hk5 := hk4.step hb
      have hS5 : V4.heap[V1.heap.size]? = some (ibx (kk : Nat)) ∧ V4.heap[w.heap.size + 1]? = some (ibx (sv : Nat)) ∧ V4.heap[w2.heap.size + 1]? = some (nlb A M c) ∧ V4.heap[w.heap.size]? = some (nbx T) ∧ True := ⟨hk5.has (V1.heap.size, ibx (kk : Nat)) (by simp), hk5.has (w.heap.size + 1, ibx (sv : Nat)) (by simp), hk5.has (w2.heap.size + 1, nlb A M c) (by simp), hk5.has (w.heap.size, nbx T) (by simp), trivial⟩
      clear hb hk4
      refine hK.out _ _ hS5 (fun _ => ?_)
      clear hK K
      try simp only [Act.put, List.setIfInBounds_toArray, List.set_cons_zero, List.set_cons_succ]
      refine wpAnyH_ready (rs := [12]) (by kernel_rfl) (by simp) ?_
      refine AllReadyH.cons rfl (fun K hK => ?_) AllReadyH.nil
      go_simp
      refine (CTT.out _ (hk5.tree (T := T) (by simp))).mono ?_
      rintro e V5 ⟨rfl, hb⟩
      have hk6 := hk5.step hb
      have hS6 : V5.heap[V1.heap.size]? = some (ibx (kk : Nat)) ∧ V5.heap[w.heap.size + 1]? = some (ibx (sv : Nat)) ∧ V5.heap[w2.heap.size + 1]? = some (nlb A M c) ∧ V5.heap[w.heap.size]? = some (nbx T) ∧ True := ⟨hk6.has (V1.heap.size, ibx (kk : Nat)) (by simp), hk6.has (w.heap.size + 1, ibx (sv : Nat)) (by simp), hk6.has (w2.heap.size + 1, nlb A M c) (by simp), hk6.has (w.heap.size, nbx T) (by simp), trivial⟩
      clear hb hk5
      refine hK.out _ _ hS6 (fun _ => ?_)
      clear hK K
      try simp only [Act.put, List.setIfInBounds_toArray, List.set_cons_zero, List.set_cons_succ]
      refine wpAnyH_take_d (i := 14) (v := .string (Y ++ s)) 72 rfl rfl (by kernel_rfl) (by kernel_rfl) (by kernel_rfl) (fun _ _ _ h => h) (Or.inl ⟨by kernel_rfl, fun w' hS' => ?y14⟩) hS6 ?_
      case y14 => (skip; clear hS'; go_simp)
      simp only [Act.put, List.setIfInBounds_toArray, List.set_cons_zero, List.set_cons_succ]
      refine wpAnyH_take_d (i := 15) (v := .bool true) 73 rfl rfl (by kernel_rfl) (by kernel_rfl) (by kernel_rfl) (fun _ _ _ h => h) (Or.inl ⟨by kernel_rfl, fun w' hS' => ?y15⟩) hS6 ?_
      case y15 => (skip; clear hS'; go_simp)
      simp only [Act.put, List.setIfInBounds_toArray, List.set_cons_zero, List.set_cons_succ]
      refine wpAnyH_take_d (i := 16) (v := .bool true) 74 rfl rfl (by kernel_rfl) (by kernel_rfl) (by kernel_rfl) (fun _ _ _ h => h) (Or.inl ⟨by kernel_rfl, fun w' hS' => ?y16⟩) hS6 ?_
      case y16 => (skip; clear hS'; go_simp)
      simp only [Act.put, List.setIfInBounds_toArray, List.set_cons_zero, List.set_cons_succ]
      refine wpAnyH_ready (rs := [17]) (by kernel_rfl) (by simp) ?_
      refine AllReadyH.cons rfl (fun K hK => ?_) AllReadyH.nil
      have hres := hk6.has (w.heap.size + 1 + 1, rbb false) (by simp)
      have w3c := cell_heap hres (i := 0)
      have w3f := frozen_heap hres (i := 0)
      simp only [List.getElem?_toArray, List.getElem?_cons_zero] at w3c
      have hwv := HHW1.out
      have hL1 := HL1.out
      have hL2 := HL2.out
      have hdn := HDN.out
      have hkC := hk6.sub (bs' := [(w.heap.size + 1 + 1, rbb false), (D1, .deferred (some [])), (V1.heap.size, ibx (kk : Nat)), (w.heap.size + 1, ibx (sv : Nat)), (w2.heap.size + 1, nlb A M c), (w.heap.size, nbx T)]) (ts' := []) (by simp) (by simp)
      have hk7 := hkC.put9 (u' := .bool true) (by intro q hq; simp at hq; rcases hq with rfl | rfl | rfl | rfl | rfl <;> simp <;> omega) (by omega) (by intro X hX; simp at hX)
      clear hkC hk6 hres
      go_simp
      generalize V5.setCell ⟨w.heap.size + 1 + 1, 0, none⟩ (.bool true) = V6 at hk7 ⊢
      have hS7 : V6.heap[V1.heap.size]? = some (ibx (kk : Nat)) ∧ V6.heap[w.heap.size + 1]? = some (ibx (sv : Nat)) ∧ V6.heap[w2.heap.size + 1]? = some (nlb A M c) ∧ V6.heap[w.heap.size]? = some (nbx T) ∧ True := ⟨hk7.has (V1.heap.size, ibx (kk : Nat)) (by simp), hk7.has (w.heap.size + 1, ibx (sv : Nat)) (by simp), hk7.has (w2.heap.size + 1, nlb A M c) (by simp), hk7.has (w.heap.size, nbx T) (by simp), trivial⟩
      clear w3c w3f
      refine hK.out _ _ hS7 (fun _ => ?_)
      clear hK K
      try simp only [Act.put, List.setIfInBounds_toArray, List.set_cons_zero, List.set_cons_succ]
      refine wpAnyH_done (by kernel_rfl) ?_ _
      refine hK0 _ _ ?_
      go_wp2
      have e1 := hk7.has (D1, .deferred (some [])) (by simp)
      have hr := hk7.has (w.heap.size + 1 + 1, rbb true) (by simp)
      have e3 : (V6.putObj D1 (.deferred none)).heap[w.heap.size + 1 + 1]? = some (rbb true) := (World.putObj_heap_other (by omega)).trans hr
      have e4 := cell_heap e3 (i := 0)
      simp only [List.getElem?_toArray, List.getElem?_cons_zero] at e4
      have e5 : Below w.heap.size w (V6.putObj D1 (.deferred none)) := ((Low.frames w.heap.size w).off (X := (· = D1)) ⟨hk7.low, hk7.size, fun k hk => by subst hk; omega⟩ (Off.putObj (X := (· = D1)) rfl _ _)).1
      refine ⟨by simp, .inl ⟨_, _, rfl, run_takeDeferred e1, ?_⟩⟩
      exact ⟨.bool true, by simp [results, Tryz.results4, go_sem, e4], rfl, e5⟩
    case body =>
      rintro lq X pre x bp W1 hX hXb hr2 ⟨⟨hNC, hs, hlt⟩, hbp, hne⟩ hp
      simp only [List.setIfInBounds_toArray, List.set_cons_zero, List.set_cons_succ]
      obtain ⟨hx1, y, hy, hsm, hyn⟩ := dn_at HPL.out hp
      have hrx : rng x.a := (HT.out.node x hx1).rng
      have hwx : wt (tok x) ≤ 9000 := by rw [dn_wt_tok]; have := wt_node hx1; have := HW.out; omega
      have hwy : wt y ≤ 9000 := by have := wt_nodes y hyn; have := HWU.out; omega
      have hlow := hNC.2.2
      have hyV : Tn (lo V1.heap.size) V1 y := (HKB.out.tree (T := U) (by simp)).node y hyn
      have hty : Tn (lo W1.heap.size) W1 y := hyV.after hlow.1
      obtain ⟨b5, off, hA5, hb5, g0, g1, g2, g3, g4⟩ := Tks.at_ HWV.out hy
      subst hA5
      have hml1 : pre.length < (nml (lvs U)).length := (List.getElem?_eq_some_iff.1 hy).1
      have hlb := HKB.out.has (w2.heap.size + 1, nlb (some ⟨b5, off, none⟩) (nml (lvs U)).length c) (by simp)
      have hbl := HHW3.out
      have HSS : Hid (∀ W' : World, Below W1.heap.size W1 W' → (fun W' => W'.cell? ⟨V1.heap.size, 0, none⟩ = some (.int .i64 (pre.length : Nat)) ∧ W'.cell? ⟨w2.heap.size + 1, 0, none⟩ = some (.slice (some ⟨b5, off, none⟩) (nml (lvs U)).length c) ∧ W'.cell? ⟨b5, off + pre.length * 5, none⟩ = some (.int .i64 y.k) ∧ W'.cell? ⟨b5, off + pre.length * 5 + 1, none⟩ = some (.string y.g) ∧ W'.cell? ⟨b5, off + pre.length * 5 + 2, none⟩ = some (.string y.t) ∧ W'.cell? ⟨b5, off + pre.length * 5 + 3, none⟩ = some (.int .i64 y.a) ∧ W'.cell? ⟨b5, off + pre.length * 5 + 4, none⟩ = some (.slice y.A y.kids.length y.c) ∧ W'.cell? ⟨bp, 0, none⟩ = some (.int .i64 (tok x).k) ∧ W'.cell? ⟨bp, 1, none⟩ = some (.string (tok x).g) ∧ W'.cell? ⟨bp, 2, none⟩ = some (.string (tok x).t) ∧ W'.cell? ⟨bp, 3, none⟩ = some (.int .i64 (tok x).a) ∧ W'.cell? ⟨bp, 4, none⟩ = some (.slice (tok x).A (tok x).kids.length (tok x).c)) W') := Lib.hid fun W' hB => by
        have e1 := cell_heap ((hB.block _ hs.lt).trans hs.2) (i := 0)
        have e2 := cell_heap ((hB.block _ (Nat.lt_of_lt_of_le hbl hlow.2.1)).trans ((hlow.1.block _ hbl).trans hlb)) (i := 0)
        have e3 : ∀ i, W'.cell? ⟨b5, i, none⟩ = V1.cell? ⟨b5, i, none⟩ := fun i => (cell_of (hB.block _ (Nat.lt_of_lt_of_le hb5.2 hlow.2.1))).trans (cell_of (hlow.1.block _ hb5.2))
        have e4 := heap5 ((hB.block _ hbp.lt).trans hbp.2)
        simp only [List.getElem?_toArray, List.getElem?_cons_zero] at e1 e2
        exact ⟨e1, e2, (e3 _).trans g0, (e3 _).trans g1, (e3 _).trans g2, (e3 _).trans g3, (e3 _).trans g4, e4⟩
      generalize hM : (nml (lvs U)).length = M at HSS hml1 hlb ⊢
      have hS1 := HSS.out W1 (Below.refl _ _)
      have z1 : (0 : Int) ≤ (pre.length : Nat) := by omega
      have z2 : ((pre.length : Nat) : Int) < (M : Nat) := by omega
      have z3 : ¬ ((pre.length : Nat) : Int) ≥ (M : Nat) := by omega
      clear g0 g1 g2 g3 g4 hp hy hx1 hr2 hyV hb5 hlb
      gi_wp2
      refine wpIn_region_heldI (fun W' => W'.cell? ⟨V1.heap.size, 0, none⟩ = some (.int .i64 (pre.length : Nat)) ∧ W'.cell? ⟨w2.heap.size + 1, 0, none⟩ = some (.slice (some ⟨b5, off, none⟩) M c) ∧ W'.cell? ⟨b5, off + pre.length * 5, none⟩ = some (.int .i64 y.k) ∧ W'.cell? ⟨b5, off + pre.length * 5 + 1, none⟩ = some (.string y.g) ∧ W'.cell? ⟨b5, off + pre.length * 5 + 2, none⟩ = some (.string y.t) ∧ W'.cell? ⟨b5, off + pre.length * 5 + 3, none⟩ = some (.int .i64 y.a) ∧ W'.cell? ⟨b5, off + pre.length * 5 + 4, none⟩ = some (.slice y.A y.kids.length y.c) ∧ W'.cell? ⟨bp, 0, none⟩ = some (.int .i64 (tok x).k) ∧ W'.cell? ⟨bp, 1, none⟩ = some (.string (tok x).g) ∧ W'.cell? ⟨bp, 2, none⟩ = some (.string (tok x).t) ∧ W'.cell? ⟨bp, 3, none⟩ = some (.int .i64 (tok x).a) ∧ W'.cell? ⟨bp, 4, none⟩ = some (.slice (tok x).A (tok x).kids.length (tok x).c)) (by kernel_rfl) ?_
      refine wpAnyHI_take (i := 0) (v := (.int .i64 (pre.length : Nat))) 40 (by kernel_rfl) rfl rfl (by kernel_rfl) (by kernel_rfl) (by kernel_rfl) (fun _ _ _ h => h) (Or.inl ⟨by kernel_rfl, fun w' hS' => ?y0⟩) hS1 ?_
      case y0 => (obtain ⟨s0, s1, t0, t1, t2, t3, t4, u0, u1, u2, u3, u4⟩ := hS'; go_simp)
      simp only [Act.put, List.setIfInBounds_toArray, List.set_cons_zero, List.set_cons_succ]
      refine wpAnyHI_take (i := 1) (v := (.slice (some ⟨b5, off, none⟩) M c)) 41 (by kernel_rfl) rfl rfl (by kernel_rfl) (by kernel_rfl) (by kernel_rfl) (fun _ _ _ h => h) (Or.inl ⟨by kernel_rfl, fun w' hS' => ?y1⟩) hS1 ?_
      case y1 => (obtain ⟨s0, s1, t0, t1, t2, t3, t4, u0, u1, u2, u3, u4⟩ := hS'; go_simp)
      simp only [Act.put, List.setIfInBounds_toArray, List.set_cons_zero, List.set_cons_succ]
      refine wpAnyHI_take (i := 2) (v := (.int .i64 (M : Nat))) 42 (by kernel_rfl) rfl rfl (by kernel_rfl) (by kernel_rfl) (by kernel_rfl) (fun _ _ _ h => h) (Or.inl ⟨by kernel_rfl, fun w' hS' => ?y2⟩) hS1 ?_
      case y2 => (obtain ⟨s0, s1, t0, t1, t2, t3, t4, u0, u1, u2, u3, u4⟩ := hS'; go_simp)
      simp only [Act.put, List.setIfInBounds_toArray, List.set_cons_zero, List.set_cons_succ]
      refine wpAnyHI_take (i := 3) (v := (.bool false)) 43 (by kernel_rfl) rfl rfl (by kernel_rfl) (by kernel_rfl) (by kernel_rfl) (fun _ _ _ h => h) (Or.inl ⟨by kernel_rfl, fun w' hS' => ?y3⟩) hS1 ?_
      case y3 => (obtain ⟨s0, s1, t0, t1, t2, t3, t4, u0, u1, u2, u3, u4⟩ := hS'; go_simp)
      simp only [Act.put, List.setIfInBounds_toArray, List.set_cons_zero, List.set_cons_succ]
      refine wpAnyHI_take (i := 4) (v := (.bool false)) 44 (by kernel_rfl) rfl rfl (by kernel_rfl) (by kernel_rfl) (by kernel_rfl) (fun _ _ _ h => h) (Or.inl ⟨by kernel_rfl, fun w' hS' => ?y4⟩) hS1 ?_
      case y4 => (obtain ⟨s0, s1, t0, t1, t2, t3, t4, u0, u1, u2, u3, u4⟩ := hS'; go_simp)
      simp only [Act.put, List.setIfInBounds_toArray, List.set_cons_zero, List.set_cons_succ]
      refine wpAnyHI_take (i := 5) (v := (nv (tok x))) 45 (by kernel_rfl) rfl rfl (by kernel_rfl) (by kernel_rfl) (by kernel_rfl) (fun _ _ _ h => h) (Or.inl ⟨by kernel_rfl, fun w' hS' => ?y5⟩) hS1 ?_
      case y5 => (obtain ⟨s0, s1, t0, t1, t2, t3, t4, u0, u1, u2, u3, u4⟩ := hS'; go_simp)
      simp only [Act.put, List.setIfInBounds_toArray, List.set_cons_zero, List.set_cons_succ]
      refine wpAnyHI_take (i := 6) (v := (.slice (some ⟨b5, off, none⟩) M c)) 46 (by kernel_rfl) rfl rfl (by kernel_rfl) (by kernel_rfl) (by kernel_rfl) (fun _ _ _ h => h) (Or.inl ⟨by kernel_rfl, fun w' hS' => ?y6⟩) hS1 ?_
      case y6 => (obtain ⟨s0, s1, t0, t1, t2, t3, t4, u0, u1, u2, u3, u4⟩ := hS'; go_simp)
      simp only [Act.put, List.setIfInBounds_toArray, List.set_cons_zero, List.set_cons_succ]
      refine wpAnyHI_take (i := 7) (v := (.int .i64 (pre.length : Nat))) 47 (by kernel_rfl) rfl rfl (by kernel_rfl) (by kernel_rfl) (by kernel_rfl) (fun _ _ _ h => h) (Or.inl ⟨by kernel_rfl, fun w' hS' => ?y7⟩) hS1 ?_
      case y7 => (obtain ⟨s0, s1, t0, t1, t2, t3, t4, u0, u1, u2, u3, u4⟩ := hS'; go_simp)
      simp only [Act.put, List.setIfInBounds_toArray, List.set_cons_zero, List.set_cons_succ]
      refine wpAnyHI_take (i := 8) (v := (.pointer (some ⟨b5, off + pre.length * 5, none⟩))) 48 (by kernel_rfl) rfl rfl (by kernel_rfl) (by kernel_rfl) (by kernel_rfl) (fun _ _ _ h => h) (Or.inl ⟨by kernel_rfl, fun w' hS' => ?y8⟩) hS1 ?_
      case y8 => (obtain ⟨s0, s1, t0, t1, t2, t3, t4, u0, u1, u2, u3, u4⟩ := hS'; go_simp)
      simp only [Act.put, List.setIfInBounds_toArray, List.set_cons_zero, List.set_cons_succ]
      refine wpAnyHI_take (i := 9) (v := (nv y)) 49 (by kernel_rfl) rfl rfl (by kernel_rfl) (by kernel_rfl) (by kernel_rfl) (fun _ _ _ h => h) (Or.inl ⟨by kernel_rfl, fun w' hS' => ?y9⟩) hS1 ?_
      case y9 => (obtain ⟨s0, s1, t0, t1, t2, t3, t4, u0, u1, u2, u3, u4⟩ := hS'; go_simp)
      simp only [Act.put, List.setIfInBounds_toArray, List.set_cons_zero, List.set_cons_succ]
      refine wpAnyHI_one (i := 10) (by kernel_rfl) rfl (fun K hK => ?_)
      go_simp
      refine ⟨trivial, (CallsIn.inRound lq (callsIn_wide.2 (is9_any (tok x) y W1.drew hwx hwy (dn_tn_tok hrx) (Tn.keep (fun _ _ _ => rfl) (fun _ h => h) hty)))).mono ?_⟩
      rintro r W2 ⟨rfl, hB⟩
      rw [hsm]
      have hB2 : Below W1.heap.size W1 W2 := ⟨hB.os, hB.tape, hB.output, hB.size, hB.block⟩
      clear hB
      have hS2 := HSS.out W2 hB2
      refine hK.out _ _ hS2 (fun _ => ?_)
      clear hK K
      try simp only [Act.put, List.setIfInBounds_toArray, List.set_cons_zero, List.set_cons_succ]
      refine wpAnyHI_take (i := 11) (v := (.bool false)) 51 (by kernel_rfl) rfl rfl (by kernel_rfl) (by kernel_rfl) (by kernel_rfl) (fun _ _ _ h => h) (Or.inl ⟨by kernel_rfl, fun w' hS' => ?y11⟩) hS2 ?_
      case y11 => (obtain ⟨s0, s1, t0, t1, t2, t3, t4, u0, u1, u2, u3, u4⟩ := hS'; go_simp)
      simp only [Act.put, List.setIfInBounds_toArray, List.set_cons_zero, List.set_cons_succ]
      refine wpAnyHI_take (i := 12) (v := (.bool false)) 52 (by kernel_rfl) rfl rfl (by kernel_rfl) (by kernel_rfl) (by kernel_rfl) (fun _ _ _ h => h) (Or.inl ⟨by kernel_rfl, fun w' hS' => ?y12⟩) hS2 ?_
      case y12 => (obtain ⟨s0, s1, t0, t1, t2, t3, t4, u0, u1, u2, u3, u4⟩ := hS'; go_simp)
      simp only [Act.put, List.setIfInBounds_toArray, List.set_cons_zero, List.set_cons_succ]
      refine wpAnyHI_done (by kernel_rfl) ?_ _
      have hN2 := (NmC.frames _ _ _ _ _ _ _).off hNC (Off.of_below hB2)
      have hs2 := (Has.frames _ _).off hs (Off.of_below hB2)
      have hk2 : Kept X W1 W2 := Kept.below hB2
      have hsz2 := hB2.size
      have q0 := hs2.cell (i := 0)
      have f0 := hs2.frozen (i := 0)
      simp only [List.getElem?_toArray, List.getElem?_cons_zero] at q0
      have hlw2 := hN2.2.2
      have q5 := cell_heap ((hlw2.1.block _ (HKB.out.lt (b := w.heap.size + 1) (o := ibx (sv : Nat)) (by simp))).trans (HKB.out.has (w.heap.size + 1, ibx (sv : Nat)) (by simp))) (i := 0)
      simp only [List.getElem?_toArray, List.getElem?_cons_zero] at q5
      have hn1 : V1.heap.size ≠ w.heap.size + 1 := by have := HHW1.out; omega
      have HN3 : Hid (∀ v, NmC V1 b1 b A4 (lvs T).length c4 ((lvs T).map tok) X (W2.setCell ⟨V1.heap.size, 0, none⟩ v)) := Lib.hid fun v => dn_setk hN2 hs2 HN1.out v
      have HLO : Hid (∀ v, Low V1.heap.size V1 X (W2.setCell ⟨V1.heap.size, 0, none⟩ v)) := Lib.hid fun v => hlw2.set (p := ⟨V1.heap.size, 0, none⟩) (Nat.le_refl _) v
      have hs20 := HSV.out.2.1
      clear hS1 hS2 hty hwx hwy hrx hbp HSS hlow hs hNC hB2 z1 z2 z3 hsm hbl hN2 hlw2
      by_cases hst : pre.length + 1 = sv
      · have z5 : ((pre.length : Nat) : Int) + 1 = (sv : Nat) := by omega
        gi_wp2
        refine ⟨by rw [size_set]; exact hsz2, Kept.trans hsz2 hk2 (Kept.set hs2.1 _ _), rfl, HLO.out _, ?_, by omega⟩
        have h := hs2.set (v' := .int .i64 (sv : Nat))
        simpa only [z5] using h
      · have z5 : ¬ ((pre.length : Nat) : Int) + 1 = (sv : Nat) := by omega
        gi_wp2
        refine ⟨by rw [size_set]; exact hsz2, Kept.trans hsz2 hk2 (Kept.set hs2.1 _ _), HN3.out _, ?_, ?_⟩
        · have h := hs2.set (v' := .int .i64 ((pre ++ [x]).length : Nat))
          simpa using h
        · simp; omega
  clear hK2
  subst ht
  simp only [List.setIfInBounds_toArray, List.set_cons_zero, List.set_cons_succ] at REST
  cases hr : rgt U with
  | false =>
    refine hK _ _ ?_
    go_wp2_with fail
    have e1 : nml (lvs U) = [] := by unfold lvs; rw [hr]; rfl
    rw [e1, hr] at REST
    exact REST.out undef undef none 0 w3 hk3 hz3 (fun h => absurd h (by simp))
  | true =>
    have c3 := heap5 (hk3.has (w2.heap.size, rbx U) (by simp))
    have e1 : lvs U = TreeMath.lf U := if_pos hr
    rw [e1, hr] at REST
    have HNS := Lib.hid (rnames_any U w3 (hk3.tree (T := U) (by simp)) (by have := HWU.out; omega))
    refine hK _ _ ?_
    go_wp2_with fail
    refine HNS.out.mono ?_
    rintro r w4 ⟨A, c, rfl, hks, hb4⟩
    have hk4 := hk3.step hb4
    have hz4 := hz3.trans (hb4.mono hz3.size)
    have hs3 : w2.heap.size + 1 < w3.heap.size := hk3.lt (b := w2.heap.size + 1) (o := nlb none 0 0) (by simp)
    have hks4 : Tks (fun b => w2.heap.size + 1 < b ∧ b < w4.heap.size) w4 A (nml (TreeMath.lf U)) := Tks.keep hks (fun _ _ _ => rfl) fun b hb => ⟨by have := hb.1; omega, hb.2⟩
    have hbx := hk4.has (w2.heap.size + 1, nlb none 0 0) (by simp)
    have q6 := cell_heap hbx (i := 0)
    have f6 := frozen_heap hbx (i := 0)
    simp only [List.getElem?_toArray, List.getElem?_cons_zero] at q6
    have hL1 := HL1.out
    have hL2 := HL2.out
    have hs4 : w2.heap.size + 1 < w4.heap.size := Nat.lt_of_lt_of_le hs3 hb4.size
    have hk5 := hk4.put9 (u' := .slice A (nml (TreeMath.lf U)).length c) (by intro q hq; simp at hq; rcases hq with rfl | rfl | rfl | rfl <;> simp <;> omega) (by omega) (by
      intro X hX
      simp at hX
      rcases hX with rfl | rfl
      · exact Tn.keep (fun b i hb => cell_of (hz4.block b hb.2)) (fun b hb => ⟨by have := hb.2; omega, by have := hb.2; omega⟩) HU.out
      · exact Tn.keep (fun b i hb => cell_of (hk4.low.block b hb)) (fun b hb => ⟨by have : b < w.heap.size := hb; omega, by have : b < w.heap.size := hb; omega⟩) HT.out)
    have hz5 : Below w2.heap.size w2 (w4.setCell ⟨w2.heap.size + 1, 0, none⟩ (.slice A (nml (TreeMath.lf U)).length c)) := hz4.setCell (p := ⟨w2.heap.size + 1, 0, none⟩) (by simp) _
    have hks5 : Tks (fun b => w2.heap.size + 1 < b ∧ b < (w4.setCell ⟨w2.heap.size + 1, 0, none⟩ (.slice A (nml (TreeMath.lf U)).length c)).heap.size) (w4.setCell ⟨w2.heap.size + 1, 0, none⟩ (.slice A (nml (TreeMath.lf U)).length c)) A (nml (TreeMath.lf U)) := Tks.keep hks4 (fun b i hb => cell_of (Below.heap_setCell _ _ _ _ (by have := hb.1; simp; omega))) fun b hb => ⟨hb.1, by rw [size_set]; exact hb.2⟩
    have HK5 := Lib.hid (And.intro hk5 (And.intro hz5 hks5))
    clear hks hb4 hk4 hz4 hks4 hbx hk5 hz5 hks5 hk3 hz3 c3 hL1 hL2 hs3
    go_wp2
    exact REST.out (nv U) (.slice A (nml (TreeMath.lf U)).length c) A c _ HK5.out.1 HK5.out.2.1 HK5.out.2.2

theorem declNames_walk (T : Tr) (s : ByteArray) (p : Int) (w : World) (hL : LaidX w) (hz : Szd T) (hT : Tn (lo w.heap.size) w T) :
    Calls Tryz.prog 4 #[nv T, .string s, .int .i64 p] w fun e w' => e = .returned (.bool true) ∧ Below w.heap.size w w' := by
  by_cases h : 2000 < wt T ∨ 1000 < s.size
  · exact callsIn_wide.1 (dn_early T s p w hL hz hT h)
  · simp only [not_or] at h
    exact callsIn_wide.1 (dn_in T s p w hL hz hT (by omega) (by omega))
end Go.Proofs.YtfmlcddakfbleaaGreatDoor
