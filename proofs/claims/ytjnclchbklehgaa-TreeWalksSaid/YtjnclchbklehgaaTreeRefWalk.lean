/- The document's Right, Walk and Leaves. -/
import Derived.Test.YtjnclchbklehgaaTreeLeft
import Derived.Test.YtjnclchbklehgaaTreeBox
namespace Go.Proofs.Ytjnclchbklehgaa
open Go.RowKit TreeMath

set_option maxHeartbeats 400000 in
theorem rright_any (T : Tr) (w : World) (hT : Tn (lo w.heap.size) w T) (hw : wt T ≤ 5000) :
    Calls Try.prog 10 #[nv T] w fun e w' => e = .returned (.bool (rgt T)) ∧ Below w.heap.size w w' := by
  have HL := Lib.hid (left_any T 20000 (w.alloc (.cells (ncc T) 29)) (by omega) (by omega) hw ((hT.below (below1 w _)).more (by simp)))
  have hc : cn T ≤ 5000 := Nat.le_trans (cn_wt T) hw
  have HV : Hid (decide (0 ≤ lfv T 20000) = rgt T) := Lib.hid (by
    unfold lfv
    cases rgt T with
    | true => rw [if_pos ⟨rfl, by omega⟩]; exact decide_eq_true (by omega)
    | false => rw [if_neg (by simp)]; rfl)
  clear hT hw hc
  generalize lfv T 20000 = r at HL HV
  go_enter Try.func10, Try.ntmps10
  go_wp2_with (go_at_call 33; refine HL.out.mono ?_; rintro e w1 ⟨rfl, hb1⟩)
  go_ret
  exact ⟨ret_bool HV.out, (below1 w _).trans (hb1.mono (by simp))⟩

def ics (p : Nat × Tr) : List Value := [.int .i64 (p.1 : Nat), .int .i64 p.2.k, .string p.2.g, .string p.2.t, .int .i64 p.2.a, .slice p.2.A p.2.kids.length p.2.c]
def icells (l : List (Nat × Tr)) : List Value := l.flatMap ics
theorem icells_append (a b : List (Nat × Tr)) : icells (a ++ b) = icells a ++ icells b := by simp [icells]
theorem icells_one (p : Nat × Tr) : icells [p] = ics p := by simp [icells]
theorem info_item : (Try.prog.info? 47).map (fun i => (i.zero, i.size, i.bytes)) = some (some (.agg #[.int .i64 0, .int .i64 0, .string ⟨#[]⟩, .string ⟨#[]⟩, .int .i64 0, .slice none 0 0]), 6, 80) := by kernel_rfl

/-- a row of items of the call's own -/
def IRow (base : Nat) (v : Value) (l : List (Nat × Tr)) (w : World) : Prop := w.ownsRow base 47 6 v l.length (icells l)
/-- what a call that appends to a row leaves -/
structure Gw (v v' : Value) (w w' : World) : Prop where
  grown : w.grownBy w' v.ownBlock
  own : v'.ownBlock = v.ownBlock ∨ ∀ k, v'.ownBlock = some k → w.heap.size ≤ k
theorem Gw.trans {v v' v'' : Value} {a b c : World} (h : Gw v v' a b) (k : Gw v' v'' b c) : Gw v v'' a c := by
  refine ⟨⟨k.grown.os.trans h.grown.os, k.grown.tape.trans h.grown.tape, k.grown.output.trans h.grown.output, Nat.le_trans h.grown.size k.grown.size, fun i hi hne => ?_⟩, ?_⟩
  · refine (k.grown.block i (Nat.lt_of_lt_of_le hi h.grown.size) ?_).trans (h.grown.block i hi hne)
    rcases h.own with e | e
    · rw [e]; exact hne
    · intro q; have := e i q.symm; omega
  · rcases k.own with e | e
    · rw [e]; exact h.own
    · exact .inr fun i hi => Nat.le_trans h.grown.size (e i hi)
theorem Gw.refl (v : Value) (w : World) : Gw v v w w := ⟨World.grownBy.refl _ _, .inl rfl⟩
theorem Gw.alloc (v : Value) (w : World) (o : Obj) : Gw v v w (w.alloc o) := ⟨World.grownBy_alloc _ _ _, .inl rfl⟩

/-- one item appended, in a plain region -/
theorem wpList_append_item {ops : Array Oper} {rest : List Oper} {o : Oper} {a : Act} {Q : Exit → Act → World → Prop} (hgd : o.guard = none) (s x : Operand)
    (ho : o.op = .call { callee := .builtin .append, args := #[s, x], argTypes := #[42, 42] })
    (V : World) (base : Nat) (v : Value) (l : List (Nat × Tr)) (p : Nat × Tr) (X : Nat)
    (hs : a.eval s = v) (hx : a.eval x = .slice (some ⟨X, 0, none⟩) 1 1) (hblk : V.heap[X]? = some (.cells (ics p).toArray 47 (0, 0))) (hrow : IRow base v l V) (hn : l.length ≤ 20000) (hbase : base ≤ V.heap.size)
    (h : ∀ v' w', IRow base v' (l ++ [p]) w' → Gw v v' V w' → wpList Try.prog ops Q rest (a.put o.dst v') w') :
    wpList Try.prog ops Q (o :: rest) a V := by
  obtain ⟨i0, hi, hz0, hz1, hz2⟩ := info_parts info_item
  refine wpList_append_own_at V hgd s x 42 ho base 47 i0 _ 6 80 Try.underlying42 hi hz0 hz1 hz2 rfl (by decide) _ _ _ hs hrow ⟨X, 0, none⟩ 1 1 (ics p) hx rfl (World.news_of_block hblk) (by intro u hu; simp [ics] at hu; rcases hu with rfl | rfl | rfl | rfl | rfl | rfl <;> rfl) (by unfold maxLen; omega) (by omega) hbase ?_
  intro v' w' hown hg _ hat
  refine h v' w' ?_ ⟨hg, hat.imp id fun e k hk => ?_⟩
  · unfold IRow; rw [List.length_append, icells_append, icells_one]; exact hown
  · rw [e] at hk; injection hk with hk; omega

theorem rfm_take {β : Type} (f : Tr → List β) {l : List Tr} {j : Nat} {e : Tr} (h : l[j]? = some e) : (l.take (j + 1)).flatMap f = (l.take j).flatMap f ++ f e := by
  rw [List.take_add_one, h]; simp
theorem rfm_len {l : List Tr} (d j : Nat) : ((l.take j).flatMap (wk d)).length ≤ (l.map cn).sum := by
  rw [List.length_flatMap]
  have h : ((l.take j).map fun x => (wk d x).length) = (l.take j).map cn := List.map_congr_left fun x _ => wk_length d x
  rw [h]
  have := congrArg (fun l => (l.map cn).sum) (List.take_append_drop j l)
  simp only [List.map_append, List.sum_append] at this
  omega
theorem Gw.tn {v v' : Value} {base : Nat} {w w' : World} {T : Tr} (h : Gw v v' w w') (hb : base ≤ w.heap.size) (hv : ∀ k, v.ownBlock = some k → base ≤ k) (hT : Tn (lo base) w T) : Tn (lo base) w' T :=
  hT.keep (fun b _ hp => cell_of (h.grown.block b (Nat.lt_of_lt_of_le hp hb) (fun q => by have := hv b q.symm; have : b < base := hp; omega))) fun _ h => h

set_option maxRecDepth 100000 in
set_option maxHeartbeats 2000000 in
theorem rwalk_any (base : Nat) (T : Tr) : ∀ (d : Nat) (l : List (Nat × Tr)) (v : Value) (w : World), d ≤ 5000 - wt T → wt T ≤ 5000 → l.length + cn T ≤ 10000 → base ≤ w.heap.size → Tn (lo base) w T → IRow base v l w →
    Calls Try.prog 18 #[nv T, .int .i64 (d : Nat), v] w fun e w' => ∃ v', e = .returned v' ∧ IRow base v' (l ++ wk d T) w' ∧ Gw v v' w w' := by
  induction T using Tr.ind with | _ k g t a A c kids ih =>
  intro d l v w hd hw hl hb hT hrow
  have hkl : kids.length < 5000 := by have := kids_le (T := ⟨k, g, t, a, A, c, kids⟩); simp only at this; omega
  have HI := Lib.hid ih
  have HT := Lib.hid hT
  have HW := Lib.hid (And.intro hd (And.intro hw hl))
  have hrow2 : IRow base v l ((w.alloc (.cells (ncc ⟨k, g, t, a, A, c, kids⟩) 29)).alloc (.cells (ics (d, ⟨k, g, t, a, A, c, kids⟩)).toArray 47)) := World.ownsRow.alloc (World.ownsRow.alloc hrow _) _
  have HROW := Lib.hid hrow2
  have HLT := Lib.hid (World.ownsRow.lt hrow)
  have hd5 : d ≤ 5000 := by omega
  have hl5 : l.length ≤ 10000 := by omega
  have HBK := Lib.hid (show ((w.alloc (.cells (ncc ⟨k, g, t, a, A, c, kids⟩) 29)).alloc (.cells (ics (d, ⟨k, g, t, a, A, c, kids⟩)).toArray 47)).heap[w.heap.size + 1]? = some (.cells (ics (d, ⟨k, g, t, a, A, c, kids⟩)).toArray 47 (0, 0)) from by have := heap_alloc_new (w.alloc (.cells (ncc ⟨k, g, t, a, A, c, kids⟩) 29)) (.cells (ics (d, ⟨k, g, t, a, A, c, kids⟩)).toArray 47); rwa [World.size_alloc] at this)
  clear ih hT hd hw hl hrow hrow2
  go_enter Try.func18, Try.ntmps18
  go_wp2_with (at_builtin; refine Stay.out ?_)
  refine Stay.mk ?_
  refine wpList_append_item (by rfl) _ _ (by rfl) _ base v l (d, ⟨k, g, t, a, A, c, kids⟩) (w.heap.size + 1) (by rfl) (by rfl) HBK.out HROW.out (by omega) (by simp; omega) ?_
  intro v1 w1 hr1 hg1
  have hgA : Gw v v1 (w.alloc (.cells (ncc ⟨k, g, t, a, A, c, kids⟩) 29)) w1 := (Gw.alloc _ _ _).trans hg1
  have HR1 := Lib.hid hr1
  have HG1 := Lib.hid hgA
  clear hr1 hg1 hgA
  go_wp2
  go_loopw [2, 7] (fun lv i wr => ∃ (j : Nat) (v' : Value), i = .int .i64 j ∧ j ≤ kids.length ∧ v' = lv ∧ Hid (IRow base v' ((l ++ [(d, (⟨k, g, t, a, A, c, kids⟩ : Tr))]) ++ (kids.take j).flatMap (wk (d + 1))) wr) ∧ Hid (Gw v v' (w.alloc (.cells (ncc ⟨k, g, t, a, A, c, kids⟩) 29)) wr)) (fun _ i _ => kids.length + 1 - (intOf i).toNat)
  case atStart => exact ⟨0, v1, rfl, Nat.zero_le _, rfl, by simpa using HR1, HG1⟩
  case round =>
    obtain ⟨j, v', rfl, hj, rfl, HRr, HGr⟩ := hrel
    have hvb : ∀ k, v.ownBlock = some k → base ≤ k := fun k hk => (HLT.out k hk).1
    have hbx := (HGr.out.grown.block w.heap.size (by simp) (fun q => by have := (HLT.out _ q.symm).2; omega)).trans (heap_alloc_new w _)
    have q4 := cell_heap hbx (i := 4)
    simp only [List.getElem?_toArray, List.getElem?_cons_zero, List.getElem?_cons_succ] at q4
    have hbs : base ≤ wr.heap.size := by have := HGr.out.grown.size; simp at this; omega
    have HTr := Lib.hid (HGr.out.tn (base := base) (by simp; omega) hvb ((HT.out.alloc hb _)))
    by_cases hlt : j < kids.length
    · obtain ⟨e, he⟩ : ∃ e, kids[j]? = some e := ⟨_, List.getElem?_eq_getElem hlt⟩
      have hmem := List.mem_of_getElem? he
      obtain ⟨b, off, rfl, hb1, c0, c1, c2, c3, c4⟩ := HTr.out.at_ he
      have hwe := wt_kid (T := ⟨k, g, t, a, some ⟨b, off, none⟩, c, kids⟩) hmem
      have hcn := cn_eq ⟨k, g, t, a, some ⟨b, off, none⟩, c, kids⟩
      have hfl : ((kids.take j).flatMap (wk (d + 1))).length + cn e ≤ (kids.map cn).sum := by
        have h1 := rfm_len (l := kids) (d + 1) (j + 1)
        rw [rfm_take _ he, List.length_append, wk_length] at h1
        exact h1
      have hC := HI.out e hmem (d + 1) _ v' wr (by have := HW.out.1; have := HW.out.2.1; omega) (by have := HW.out.2.1; omega) (by have := HW.out.2.2; simp only [List.length_append, List.length_cons, List.length_nil] at *; omega) hbs (HTr.out.kid hmem) HRr.out
      rw [Int.natCast_add, Int.natCast_one] at hC
      have HC := Lib.hid hC
      have HS := Lib.hid (rfm_take (wk (d + 1)) he)
      have z1 : (0 : Int) ≤ j := by omega
      have z2 : (j : Int) < kids.length := by omega
      clear hC hwe hcn hfl he hmem hbx hb1
      go_wp2_with (go_at_call 18; refine HC.out.mono ?_; rintro r w2 ⟨v2, rfl, hr2, hg2⟩)
      have HR2 : Hid (IRow base v2 ((l ++ [(d, (⟨k, g, t, a, some ⟨b, off, none⟩, c, kids⟩ : Tr))]) ++ (kids.take (j + 1)).flatMap (wk (d + 1))) w2) := Lib.hid (by rw [HS.out, ← List.append_assoc]; exact hr2)
      have HG2 := Lib.hid (HGr.out.trans hg2)
      clear hr2 hg2
      go_wp2
      go_roundw
      case rel => exact ⟨j + 1, v2, by go_num, by omega, rfl, HR2, HG2⟩
      case measure => simp [intOf]; omega
    · obtain rfl : j = kids.length := by omega
      clear hbx
      go_wp2
      refine bodyPost_ret (v := v') (by simp [results, Try.results18, go_sem]) rfl ?_
      refine ⟨v', rfl, ?_, (Gw.alloc v w _).trans HGr.out⟩
      have := HRr.out
      rw [List.take_length] at this
      rw [wk_eq]
      simpa using this
end Go.Proofs.Ytjnclchbklehgaa
