/- The document's answer on which trees are right. -/
import Derived.Test.YtfmlcddakfbleaaGreatDoorTreeSmall
import Derived.LoopN
import Derived.Test.YtfmlcddakfbleaaGreatDoorTreeBox
import Derived.Deep.QuietTactic
import Derived.BigQuiet
import Derived.Laws.Concat
import Derived.Test.YtfmlcddakfbleaaGreatDoorTreeRight
import Derived.Test.YtfmlcddakfbleaaGreatDoorTextStore
import Derived.Test.YtfmlcddakfbleaaGreatDoorTreeLeaves
import Derived.Test.YtfmlcddakfbleaaGreatDoorTreeChanged
import Derived.Test.YtfmlcddakfbleaaGreatDoorShiftRow
import Derived.Test.YtfmlcddakfbleaaGreatDoorShiftFrame
namespace Go.Proofs.YtfmlcddakfbleaaGreatDoor
open Go.RowKit TreeMath

/-- what left answers -/
def lfv (T : Tr) (m : Int) : Int := if rgt T = true ∧ (cn T : Int) ≤ m then m - cn T else -1
/-- the same of a list -/
def lfl (l : List Tr) (m : Int) : Int := if l.all rgt = true ∧ ((l.map cn).sum : Int) ≤ m then m - ((l.map cn).sum : Nat) else -1

theorem lfl_snoc (l : List Tr) (x : Tr) (m : Int) (_hm : 0 ≤ m) (h : 0 ≤ lfl l m) : lfl (l ++ [x]) m = lfv x (lfl l m) := by
  unfold lfl at *
  by_cases h1 : l.all rgt = true ∧ ((l.map cn).sum : Int) ≤ m
  · rw [if_pos h1]
    unfold lfv
    simp only [List.all_append, List.map_append, List.sum_append, List.all_cons, List.all_nil, Bool.and_true, List.map_cons, List.map_nil, List.sum_cons, List.sum_nil, Nat.add_zero, Bool.and_eq_true]
    by_cases h2 : rgt x = true ∧ (cn x : Int) ≤ m - ((l.map cn).sum : Nat)
    · rw [if_pos h2, if_pos ⟨⟨h1.1, h2.1⟩, by omega⟩]; omega
    · rw [if_neg h2, if_neg (fun h3 => h2 ⟨h3.1.2, by omega⟩)]
  · rw [if_neg h1] at h; omega
theorem lfl_stop (l k : List Tr) (m : Int) (h : lfl l m < 0) : lfl (l ++ k) m = -1 := by
  unfold lfl at *
  by_cases h1 : l.all rgt = true ∧ ((l.map cn).sum : Int) ≤ m
  · rw [if_pos h1] at h; omega
  · rw [if_neg]
    rintro ⟨h2, h3⟩
    rw [List.all_append, Bool.and_eq_true] at h2
    rw [List.map_append, List.sum_append] at h3
    exact h1 ⟨h2.1, by omega⟩
theorem lfv_eq (T : Tr) (m : Int) (hs : snd T = true) (_hm : 1 ≤ m) : lfv T m = lfl T.kids (m - 1) := by
  unfold lfv lfl
  rw [rgt_eq, hs, Bool.true_and, cn_eq]
  by_cases h : T.kids.all rgt = true ∧ (((T.kids.map cn).sum : Nat) : Int) ≤ m - 1
  · rw [if_pos h, if_pos ⟨h.1, by omega⟩]; omega
  · rw [if_neg h, if_neg (fun h3 => h ⟨h3.1, by omega⟩)]
theorem lfv_bad (T : Tr) (m : Int) (hs : snd T = false) : lfv T m = -1 := by
  unfold lfv
  rw [rgt_eq, hs]
  simp
theorem lfv_none (T : Tr) (m : Int) (hm : m < 1) : lfv T m = -1 := by
  unfold lfv
  rw [if_neg]
  rintro ⟨_, h⟩
  rw [cn_eq] at h
  omega
theorem lfv_le (T : Tr) (m : Int) : -1 ≤ lfv T m ∧ (0 ≤ m → lfv T m ≤ m) := by unfold lfv; split <;> omega
theorem lfl_le (l : List Tr) (m : Int) : -1 ≤ lfl l m ∧ (0 ≤ m → lfl l m ≤ m) := by unfold lfl; split <;> omega
theorem snd_of (T : Tr) : snd T = (decide (1 ≤ T.k) && decide (T.k ≤ 32) && (if T.k = 1 then decide (T.t.size ≠ 0) && decide (0 ≤ T.a) && decide (T.kids.length = 0) else decide (T.t.size = 0) && decide (T.g.size = 0) && decide (T.a = 0))) := by
  unfold snd
  by_cases h : T.k = 1
  · simp [h]
  · simp only [h, if_false]
    by_cases h1 : 1 < T.k
    · simp [h1, show 1 ≤ T.k by omega]
      cases decide (T.k ≤ 32) <;> cases decide (T.g = ByteArray.empty) <;> cases decide (T.t = ByteArray.empty) <;> simp
    · simp [h1, show ¬ 1 ≤ T.k by omega]

set_option maxRecDepth 100000 in
set_option maxHeartbeats 2000000 in
theorem tleft_any (T : Tr) : ∀ (m : Int) (w : World), 0 ≤ m → m ≤ 20000 → wt T ≤ 9000 → Tn (lo w.heap.size) w T →
    Calls Tryz.prog 34 #[nv T, .int .i64 m] w fun e w' => e = .returned (.int .i64 (lfv T m)) ∧ Below w.heap.size w w' := by
  induction T using Tr.ind with | _ k g t a A c kids ih =>
  intro m w hm0 hm1 hw hT
  have hkl : kids.length < 9000 := by have := kids_le (T := ⟨k, g, t, a, A, c, kids⟩); simp only at this; omega
  obtain ⟨m1, hm⟩ : ∃ m1 : Int, m - 1 = m1 := ⟨_, rfl⟩
  have z1 : -1 ≤ m1 := by omega
  have z2 : m1 ≤ 20000 := by omega
  by_cases h1 : m < 1
  · have HV := Lib.hid (lfv_none ⟨k, g, t, a, A, c, kids⟩ m h1)
    have z3 : m1 < 0 := by omega
    clear ih hw hT h1
    go_enter Tryz.func34, Tryz.ntmps34
    go_wp2
    go_ret
    exact ⟨ret_int HV.out.symm, below1 _ _⟩
  · have z3 : 0 ≤ m1 := by omega
    cases hs : snd ⟨k, g, t, a, A, c, kids⟩ with
    | false =>
      have HV := Lib.hid (lfv_bad ⟨k, g, t, a, A, c, kids⟩ m hs)
      have HS := Lib.hid hs
      clear ih hw hT h1 hs
      by_cases hk : k = 1
      all_goals
        first | subst hk | skip
        go_enter Tryz.func34, Tryz.ntmps34
        go_wp2
      all_goals first
        | (go_ret; exact ⟨ret_int HV.out.symm, below1 _ _⟩)
        | (exfalso; have h9 := HS.out; clear HS HV; rename_i a1 _ _; clear a1; simp_all [snd]; done)
        | (exfalso; have h9 := HS.out; clear HS HV; simp_all [snd]; done)
        | (exfalso; have h9 := HS.out; clear HS HV; simp_all [snd, bytes_none, bytes_nil]; omega)
    | true =>
      have HV : Hid (lfv ⟨k, g, t, a, A, c, kids⟩ m = lfl kids m1) := Lib.hid (by rw [lfv_eq _ _ hs (by omega), hm])
      have HT := Lib.hid hT
      have HW := Lib.hid hw
      have HI := Lib.hid ih
      have hl0 : lfl kids m1 = lfl kids m1 := rfl
      clear h1 hT hw ih hl0
      by_cases hk : k = 1
      · subst hk
        obtain ⟨h2, h3, h4⟩ := snd_leaf hs rfl
        simp only at h2 h3 h4
        subst h4
        have hV2 : lfl [] m1 = m1 := by simp [lfl, z3]
        rw [hV2] at HV
        have e0 : ((t.size : Int) == 0) = false := by rw [beq_eq_false_iff_ne]; omega
        have e1 : decide (a < 0) = false := by simp; omega
        clear hs hV2
        go_enter Tryz.func34, Tryz.ntmps34
        go_wp2
        go_loopw [1, 5] (fun mv i wr => i = .int .i64 0 ∧ mv = .int .i64 m1 ∧ wr = w.alloc (.cells #[.int .i64 1, .string g, .string t, .int .i64 a, .slice A 0 c] 37)) (fun _ _ _ => 0)
        case atStart => exact ⟨rfl, rfl, rfl⟩
        case round =>
          obtain ⟨rfl, rfl, rfl⟩ := hrel
          go_wp2
          go_ret
          exact ⟨ret_int HV.out.symm, below1 _ _⟩
      · obtain ⟨h2, h3, h4, h5, h6⟩ := snd_other hs hk
        simp only at h2 h3 h4 h5 h6
        subst h6
        have hd1 : (k == 1) = false := by simp [hk]
        clear hs
        go_enter Tryz.func34, Tryz.ntmps34
        go_wp2
        go_loopw [1, 5] (fun mv i wr => ∃ (j : Nat) (mj : Int), i = .int .i64 j ∧ j ≤ kids.length ∧ mv = .int .i64 mj ∧ Hid (lfl (kids.take j) m1 = mj) ∧ 0 ≤ mj ∧ mj ≤ 20000 ∧ Below (w.alloc (.cells (ncc ⟨k, g, t, 0, A, c, kids⟩) 37)).heap.size (w.alloc (.cells (ncc ⟨k, g, t, 0, A, c, kids⟩) 37)) wr) (fun _ i _ => kids.length + 1 - (intOf i).toNat)
        case atStart => exact ⟨0, m1, rfl, Nat.zero_le _, rfl, Lib.hid (by simp [lfl, z3]), z3, z2, Below.refl _ _⟩
        case round =>
          obtain ⟨j, mj, rfl, hj, rfl, HJ, y1, y2, hB⟩ := hrel
          obtain ⟨-, -, -, -, q4, hz⟩ := box5 (T := ⟨k, g, t, 0, A, c, kids⟩) hB
          have hBw : Below w.heap.size w wr := (below1 w _).trans (hB.mono (by simp))
          by_cases hlt : j < kids.length
          · obtain ⟨e, he⟩ : ∃ e, kids[j]? = some e := ⟨_, List.getElem?_eq_getElem hlt⟩
            have hmem := List.mem_of_getElem? he
            obtain ⟨b, off, rfl, hb, c0, c1, c2, c3, c4⟩ := (HT.out.below hBw).at_ he
            have hwe := wt_kid (T := ⟨k, g, t, 0, some ⟨b, off, none⟩, c, kids⟩) hmem
            have HC := Lib.hid (HI.out e hmem mj wr y1 y2 (by have := HW.out; omega) (((HT.out.kid hmem).below hBw).more (Nat.le_of_lt hz)))
            have HS : Hid (lfl (kids.take (j + 1)) m1 = lfv e mj) := Lib.hid (by
              rw [List.take_add_one, he]
              have := lfl_snoc (kids.take j) e m1 z3 (by rw [HJ.out]; exact y1)
              rw [HJ.out] at this
              exact this)
            have HE : Hid (lfl (kids.take (j + 1)) m1 < 0 → lfl kids m1 = -1) := Lib.hid (fun h => by
              have := lfl_stop _ (kids.drop (j + 1)) _ h
              rwa [List.take_append_drop] at this)
            have hr := lfv_le e mj
            rw [HS.out] at HE
            have z4 : (0 : Int) ≤ j := by omega
            have z5 : (j : Int) < kids.length := by omega
            have hr1 := hr.1
            have hr2 := hr.2 y1
            generalize lfv e mj = r at HC HS HE hr1 hr2
            clear hmem hwe he hr
            by_cases hr0 : r < 0
            · go_wp2_with (go_at_call 34; refine HC.out.mono ?_; rintro e w1 ⟨rfl, hb1⟩)
              go_ret
              exact ⟨ret_int (by rw [HV.out, HE.out hr0]), hBw.trans (hb1.mono hBw.size)⟩
            · have hr3 : 0 ≤ r := by omega
              clear hr0
              go_wp2_with (go_at_call 34; refine HC.out.mono ?_; rintro e w1 ⟨rfl, hb1⟩)
              go_roundw
              case rel => exact ⟨j + 1, r, by go_num, by omega, rfl, HS, hr3, by omega, hB.trans (hb1.mono hB.size)⟩
              case measure => simp [intOf]; omega
          · obtain rfl : j = kids.length := by omega
            have HS : Hid (lfl kids m1 = mj) := Lib.hid (by have := HJ.out; rwa [List.take_length] at this)
            go_wp2
            go_ret
            exact ⟨ret_int (by rw [HV.out, HS.out]), hBw⟩
end Go.Proofs.YtfmlcddakfbleaaGreatDoor

namespace Go.Proofs.YtfmlcddakfbleaaGreatDoor
open Go.RowKit TreeMath

set_option maxHeartbeats 400000 in
theorem rright_any (T : Tr) (w : World) (hT : Tn (lo w.heap.size) w T) (hw : wt T ≤ 9000) :
    Calls Tryz.prog 13 #[nv T] w fun e w' => e = .returned (.bool (rgt T)) ∧ Below w.heap.size w w' := by
  have HL := Lib.hid (tleft_any T 20000 (w.alloc (.cells (ncc T) 37)) (by omega) (by omega) hw ((hT.below (below1 w _)).more (by simp)))
  have hc : cn T ≤ 9000 := Nat.le_trans (cn_wt T) hw
  have HV : Hid (decide (0 ≤ lfv T 20000) = rgt T) := Lib.hid (by
    unfold lfv
    cases rgt T with
    | true => rw [if_pos ⟨rfl, by omega⟩]; exact decide_eq_true (by omega)
    | false => rw [if_neg (by simp)]; rfl)
  clear hT hw hc
  generalize lfv T 20000 = r at HL HV
  go_enter Tryz.func13, Tryz.ntmps13
  go_wp2_with (go_at_call 34; refine HL.out.mono ?_; rintro e w1 ⟨rfl, hb1⟩)
  go_ret
  exact ⟨ret_bool HV.out, (below1 w _).trans (hb1.mono (by simp))⟩

def ics (p : Nat × Tr) : List Value := [.int .i64 (p.1 : Nat), .int .i64 p.2.k, .string p.2.g, .string p.2.t, .int .i64 p.2.a, .slice p.2.A p.2.kids.length p.2.c]
def icells (l : List (Nat × Tr)) : List Value := l.flatMap ics
theorem icells_append (a b : List (Nat × Tr)) : icells (a ++ b) = icells a ++ icells b := by simp [icells]
theorem icells_one (p : Nat × Tr) : icells [p] = ics p := by simp [icells]
theorem info_item : (Tryz.prog.info? 97).map (fun i => (i.zero, i.size, i.bytes)) = some (some (.agg #[.int .i64 0, .int .i64 0, .string ⟨#[]⟩, .string ⟨#[]⟩, .int .i64 0, .slice none 0 0]), 6, 80) := by kernel_rfl

/-- a row of items of the call's own -/
def IRow (base : Nat) (v : Value) (l : List (Nat × Tr)) (w : World) : Prop := w.ownsRow base 97 6 v l.length (icells l)
/-- what a call that appends to a row leaves -/
structure Gw (v v' : Value) (w w' : World) : Prop where
  grown : w.grownBy w' v.ownBlock
  own : v'.ownBlock = v.ownBlock ∨ ∀ k, v'.ownBlock = some k → w.heap.size ≤ k
theorem Gw.trans {v v' v'' : Value} {a b c : World} (h : Gw v v' a b) (k : Gw v' v'' b c) : Gw v v'' a c := by
  refine ⟨⟨k.grown.os.trans h.grown.os, k.grown.tape.trans h.grown.tape, k.grown.output.trans h.grown.output, Nat.le_trans h.grown.size k.grown.size, fun i hi hne => ?_⟩, ?_⟩
  · refine (k.grown.block i (Nat.lt_of_lt_of_le hi h.grown.size) ?_).trans (h.grown.block i hi hne)
    rcases h.own with e | e
    · rw [e]; exact hne
    · intro q; have := e i q.symm; omega
  · rcases k.own with e | e
    · rw [e]; exact h.own
    · exact .inr fun i hi => Nat.le_trans h.grown.size (e i hi)
theorem Gw.refl (v : Value) (w : World) : Gw v v w w := ⟨World.grownBy.refl _ _, .inl rfl⟩
theorem Gw.alloc (v : Value) (w : World) (o : Obj) : Gw v v w (w.alloc o) := ⟨World.grownBy_alloc _ _ _, .inl rfl⟩

/-- one item appended, in a plain region -/
theorem wpList_append_item {ops : Array Oper} {rest : List Oper} {o : Oper} {a : Act} {Q : Exit → Act → World → Prop} (hgd : o.guard = none) (s x : Operand)
    (ho : o.op = .call { callee := .builtin .append, args := #[s, x], argTypes := #[94, 94] })
    (V : World) (base : Nat) (v : Value) (l : List (Nat × Tr)) (p : Nat × Tr) (X : Nat)
    (hs : a.eval s = v) (hx : a.eval x = .slice (some ⟨X, 0, none⟩) 1 1) (hblk : V.heap[X]? = some (.cells (ics p).toArray 97 (0, 0))) (hrow : IRow base v l V) (hn : l.length ≤ 20000) (hbase : base ≤ V.heap.size)
    (h : ∀ v' w', IRow base v' (l ++ [p]) w' → Gw v v' V w' → wpList Tryz.prog ops Q rest (a.put o.dst v') w') :
    wpList Tryz.prog ops Q (o :: rest) a V := by
  obtain ⟨i0, hi, hz0, hz1, hz2⟩ := info_parts info_item
  refine wpList_append_own_at V hgd s x 94 ho base 97 i0 _ 6 80 Tryz.underlying94 hi hz0 hz1 hz2 rfl (by decide) _ _ _ hs hrow ⟨X, 0, none⟩ 1 1 (ics p) hx rfl (World.news_of_block hblk) (by intro u hu; simp [ics] at hu; rcases hu with rfl | rfl | rfl | rfl | rfl | rfl <;> rfl) (by unfold maxLen; omega) (by omega) hbase ?_
  intro v' w' hown hg _ hat
  refine h v' w' ?_ ⟨hg, hat.imp id fun e k hk => ?_⟩
  · unfold IRow; rw [List.length_append, icells_append, icells_one]; exact hown
  · rw [e] at hk; injection hk with hk; omega

theorem rfm_take {β : Type} (f : Tr → List β) {l : List Tr} {j : Nat} {e : Tr} (h : l[j]? = some e) : (l.take (j + 1)).flatMap f = (l.take j).flatMap f ++ f e := by
  rw [List.take_add_one, h]; simp
theorem rfm_len {l : List Tr} (d j : Nat) : ((l.take j).flatMap (wk d)).length ≤ (l.map cn).sum := by
  rw [List.length_flatMap]
  have h : ((l.take j).map fun x => (wk d x).length) = (l.take j).map cn := List.map_congr_left fun x _ => wk_length d x
  rw [h]
  have := congrArg (fun l => (l.map cn).sum) (List.take_append_drop j l)
  simp only [List.map_append, List.sum_append] at this
  omega
theorem Gw.tn {v v' : Value} {base : Nat} {w w' : World} {T : Tr} (h : Gw v v' w w') (hb : base ≤ w.heap.size) (hv : ∀ k, v.ownBlock = some k → base ≤ k) (hT : Tn (lo base) w T) : Tn (lo base) w' T :=
  hT.keep (fun b _ hp => cell_of (h.grown.block b (Nat.lt_of_lt_of_le hp hb) (fun q => by have := hv b q.symm; have : b < base := hp; omega))) fun _ h => h

set_option maxRecDepth 100000 in
set_option maxHeartbeats 2000000 in
theorem rwalk_any (base : Nat) (T : Tr) : ∀ (d : Nat) (l : List (Nat × Tr)) (v : Value) (w : World), d ≤ 9000 - wt T → wt T ≤ 9000 → l.length + cn T ≤ 10000 → base ≤ w.heap.size → Tn (lo base) w T → IRow base v l w →
    Calls Tryz.prog 59 #[nv T, .int .i64 (d : Nat), v] w fun e w' => ∃ v', e = .returned v' ∧ IRow base v' (l ++ wk d T) w' ∧ Gw v v' w w' := by
  induction T using Tr.ind with | _ k g t a A c kids ih =>
  intro d l v w hd hw hl hb hT hrow
  have hkl : kids.length < 9000 := by have := kids_le (T := ⟨k, g, t, a, A, c, kids⟩); simp only at this; omega
  have HI := Lib.hid ih
  have HT := Lib.hid hT
  have HW := Lib.hid (And.intro hd (And.intro hw hl))
  have hrow2 : IRow base v l ((w.alloc (.cells (ncc ⟨k, g, t, a, A, c, kids⟩) 37)).alloc (.cells (ics (d, ⟨k, g, t, a, A, c, kids⟩)).toArray 97)) := World.ownsRow.alloc (World.ownsRow.alloc hrow _) _
  have HROW := Lib.hid hrow2
  have HLT := Lib.hid (World.ownsRow.lt hrow)
  have hd5 : d ≤ 9000 := by omega
  have hl5 : l.length ≤ 10000 := by omega
  have HBK := Lib.hid (show ((w.alloc (.cells (ncc ⟨k, g, t, a, A, c, kids⟩) 37)).alloc (.cells (ics (d, ⟨k, g, t, a, A, c, kids⟩)).toArray 97)).heap[w.heap.size + 1]? = some (.cells (ics (d, ⟨k, g, t, a, A, c, kids⟩)).toArray 97 (0, 0)) from by have := heap_alloc_new (w.alloc (.cells (ncc ⟨k, g, t, a, A, c, kids⟩) 37)) (.cells (ics (d, ⟨k, g, t, a, A, c, kids⟩)).toArray 97); rwa [World.size_alloc] at this)
  clear ih hT hd hw hl hrow hrow2
  go_enter Tryz.func59, Tryz.ntmps59
  go_wp2_with (at_builtin; refine Stay.out ?_)
  refine Stay.mk ?_
  refine wpList_append_item (by rfl) _ _ (by rfl) _ base v l (d, ⟨k, g, t, a, A, c, kids⟩) (w.heap.size + 1) (by rfl) (by rfl) HBK.out HROW.out (by omega) (by simp; omega) ?_
  intro v1 w1 hr1 hg1
  have hgA : Gw v v1 (w.alloc (.cells (ncc ⟨k, g, t, a, A, c, kids⟩) 37)) w1 := (Gw.alloc _ _ _).trans hg1
  have HR1 := Lib.hid hr1
  have HG1 := Lib.hid hgA
  clear hr1 hg1 hgA
  go_wp2
  go_loopw [2, 7] (fun lv i wr => ∃ (j : Nat) (v' : Value), i = .int .i64 j ∧ j ≤ kids.length ∧ v' = lv ∧ Hid (IRow base v' ((l ++ [(d, (⟨k, g, t, a, A, c, kids⟩ : Tr))]) ++ (kids.take j).flatMap (wk (d + 1))) wr) ∧ Hid (Gw v v' (w.alloc (.cells (ncc ⟨k, g, t, a, A, c, kids⟩) 37)) wr)) (fun _ i _ => kids.length + 1 - (intOf i).toNat)
  case atStart => exact ⟨0, v1, rfl, Nat.zero_le _, rfl, by simpa using HR1, HG1⟩
  case round =>
    obtain ⟨j, v', rfl, hj, rfl, HRr, HGr⟩ := hrel
    have hvb : ∀ k, v.ownBlock = some k → base ≤ k := fun k hk => (HLT.out k hk).1
    have hbx := (HGr.out.grown.block w.heap.size (by simp) (fun q => by have := (HLT.out _ q.symm).2; omega)).trans (heap_alloc_new w _)
    have q4 := cell_heap hbx (i := 4)
    simp only [List.getElem?_toArray, List.getElem?_cons_zero, List.getElem?_cons_succ] at q4
    have hbs : base ≤ wr.heap.size := by have := HGr.out.grown.size; simp at this; omega
    have HTr := Lib.hid (HGr.out.tn (base := base) (by simp; omega) hvb ((HT.out.alloc hb _)))
    by_cases hlt : j < kids.length
    · obtain ⟨e, he⟩ : ∃ e, kids[j]? = some e := ⟨_, List.getElem?_eq_getElem hlt⟩
      have hmem := List.mem_of_getElem? he
      obtain ⟨b, off, rfl, hb1, c0, c1, c2, c3, c4⟩ := HTr.out.at_ he
      have hwe := wt_kid (T := ⟨k, g, t, a, some ⟨b, off, none⟩, c, kids⟩) hmem
      have hcn := cn_eq ⟨k, g, t, a, some ⟨b, off, none⟩, c, kids⟩
      have hfl : ((kids.take j).flatMap (wk (d + 1))).length + cn e ≤ (kids.map cn).sum := by
        have h1 := rfm_len (l := kids) (d + 1) (j + 1)
        rw [rfm_take _ he, List.length_append, wk_length] at h1
        exact h1
      have hC := HI.out e hmem (d + 1) _ v' wr (by have := HW.out.1; have := HW.out.2.1; omega) (by have := HW.out.2.1; omega) (by have := HW.out.2.2; simp only [List.length_append, List.length_cons, List.length_nil] at *; omega) hbs (HTr.out.kid hmem) HRr.out
      rw [Int.natCast_add, Int.natCast_one] at hC
      have HC := Lib.hid hC
      have HS := Lib.hid (rfm_take (wk (d + 1)) he)
      have z1 : (0 : Int) ≤ j := by omega
      have z2 : (j : Int) < kids.length := by omega
      clear hC hwe hcn hfl he hmem hbx hb1
      go_wp2_with (go_at_call 59; refine HC.out.mono ?_; rintro r w2 ⟨v2, rfl, hr2, hg2⟩)
      have HR2 : Hid (IRow base v2 ((l ++ [(d, (⟨k, g, t, a, some ⟨b, off, none⟩, c, kids⟩ : Tr))]) ++ (kids.take (j + 1)).flatMap (wk (d + 1))) w2) := Lib.hid (by rw [HS.out, ← List.append_assoc]; exact hr2)
      have HG2 := Lib.hid (HGr.out.trans hg2)
      clear hr2 hg2
      go_wp2
      go_roundw
      case rel => exact ⟨j + 1, v2, by go_num, by omega, rfl, HR2, HG2⟩
      case measure => simp [intOf]; omega
    · obtain rfl : j = kids.length := by omega
      clear hbx
      go_wp2
      refine bodyPost_ret (v := v') (by simp [results, Tryz.results59, go_sem]) rfl ?_
      refine ⟨v', rfl, ?_, (Gw.alloc v w _).trans HGr.out⟩
      have := HRr.out
      rw [List.take_length] at this
      rw [wk_eq]
      simpa using this
end Go.Proofs.YtfmlcddakfbleaaGreatDoor

namespace Go.Proofs.YtfmlcddakfbleaaGreatDoor
open Go.RowKit TreeMath

theorem info_rnode : (Tryz.prog.info? 37).map (fun i => (i.zero, i.size, i.bytes)) = some (some (.agg #[.int .i64 0, .string ⟨#[]⟩, .string ⟨#[]⟩, .int .i64 0, .slice none 0 0]), 5, 72) := by kernel_rfl
set_option maxRecDepth 100000 in
theorem size_rnode : ∀ w : World, (sizeOf 37).run Tryz.prog w = .ok 5 w := fun _ => rfl
end Go.Proofs.YtfmlcddakfbleaaGreatDoor

namespace Go.Proofs.YtfmlcddakfbleaaGreatDoor
open Go.RowKit TreeMath

/-- items that lie one behind the other in blocks below B -/
def ITk (w : World) (B : Nat) (A : Option Addr) (L : List (Nat × Tr)) : Prop :=
  0 < L.length → ∃ b off, A = some ⟨b, off, none⟩ ∧ b < B ∧ ∀ (i : Nat) (p : Nat × Tr), L[i]? = some p → w.cell? ⟨b, off + i * 6, none⟩ = some (.int .i64 (p.1 : Nat)) ∧ At5 w b (off + i * 6 + 1) p.2

theorem icells_length (l : List (Nat × Tr)) : (icells l).length = l.length * 6 := by
  unfold icells
  induction l with
  | nil => rfl
  | cons p ps ih => simp [List.flatMap_cons, ics, ih]; omega
theorem icells_at : ∀ (l : List (Nat × Tr)) (i : Nat) (x : Nat × Tr), l[i]? = some x → ∀ (j : Nat) (u : Value), (ics x)[j]? = some u → (icells l)[i * 6 + j]? = some u := by
  intro l
  induction l with
  | nil => intro i p h; simp at h
  | cons q ps ih =>
    intro i x h j u hu
    have hj : j < 6 := by have := (List.getElem?_eq_some_iff.1 hu).1; simpa [ics] using this
    have he : icells (q :: ps) = ics q ++ icells ps := by simp [icells, List.flatMap_cons]
    have hl : (ics q).length = 6 := rfl
    rw [he]
    cases i with
    | zero => simp at h; subst h; rw [List.getElem?_append_left (by omega)]; simpa using hu
    | succ i =>
      simp at h
      rw [List.getElem?_append_right (by omega), hl, show (i + 1) * 6 + j - 6 = i * 6 + j from by omega]
      exact ih i x h j u hu

theorem IRow.form {base : Nat} {v : Value} {l : List (Nat × Tr)} {w : World} (h : IRow base v l w) : ∃ A c, v = .slice A l.length c ∧ ITk w w.heap.size A l := by
  rcases h.2 with ⟨hv, hn⟩ | ⟨g, cap, cur, hv, hb, hg, _⟩
  · exact ⟨none, 0, by rw [hv, hn], fun h0 => by omega⟩
  · refine ⟨some ⟨g, 0, none⟩, cap, hv, fun _ => ⟨g, 0, rfl, (Array.getElem?_eq_some_iff.1 hg).1, fun i p hp => ?_⟩⟩
    have hc : ∀ (j : Nat) (u : Value), (ics p)[j]? = some u → w.cell? ⟨g, 0 + (i * 6 + j), none⟩ = some u := fun j u hu => by
      rw [hv] at h
      have := World.ownsRow.cells h (g := g) rfl _ _ (icells_at l i p hp j u hu)
      rwa [Addr.add_lit] at this
    refine ⟨by simpa using hc 0 _ rfl, ?_, ?_, ?_, ?_, ?_⟩
    · have := hc 1 _ rfl; rwa [← Nat.add_assoc] at this
    · have := hc 2 _ rfl; rwa [← Nat.add_assoc] at this
    · have := hc 3 _ rfl; rwa [← Nat.add_assoc] at this
    · have := hc 4 _ rfl; rwa [← Nat.add_assoc] at this
    · have := hc 5 _ rfl; rwa [← Nat.add_assoc] at this
theorem ITk.below {w w' : World} {B : Nat} {A : Option Addr} {L : List (Nat × Tr)} (h : ITk w B A L) (hb : Below B w w') : ITk w' B A L := fun hn => by
  obtain ⟨b, off, e, hB, hc⟩ := h hn
  exact ⟨b, off, e, hB, fun i p hp => ⟨(cell_of (hb.block _ hB)).trans (hc i p hp).1, (hc i p hp).2.keep fun i => cell_of (hb.block _ hB)⟩⟩
theorem ITk.at_ {w : World} {B : Nat} {A : Option Addr} {L : List (Nat × Tr)} (h : ITk w B A L) {i : Nat} {p : Nat × Tr} (hp : L[i]? = some p) : ∃ b off, A = some ⟨b, off, none⟩ ∧ b < B ∧ w.cell? ⟨b, off + i * 6, none⟩ = some (.int .i64 (p.1 : Nat)) ∧ At5 w b (off + i * 6 + 1) p.2 := by
  have hl := (List.getElem?_eq_some_iff.1 hp).1
  obtain ⟨b, off, e, hB, hc⟩ := h (by omega)
  exact ⟨b, off, e, hB, hc i p hp⟩

/-- a row of nodes of the call's own, whatever lies below them -/
def LRow (e : TypeId) (base : Nat) (v : Value) (m : List Tr) (w : World) : Prop := w.ownsRow base e 5 v m.length (ncells m)
theorem LRow.form {e : TypeId} {base : Nat} {v : Value} {m : List Tr} {w : World} (h : LRow e base v m w) : ∃ A c, v = .slice A m.length c ∧ Tks (lo w.heap.size) w A m := by
  rcases h.2 with ⟨hv, hn⟩ | ⟨g, cap, cur, hv, hb, hg, _⟩
  · exact ⟨none, 0, by rw [hv, hn], fun h0 => by omega⟩
  · refine ⟨some ⟨g, 0, none⟩, cap, hv, fun _ => ⟨g, 0, rfl, (Array.getElem?_eq_some_iff.1 hg).1, fun i p hp => at5_of (fun j u hu => ?_) hp⟩⟩
    rw [hv] at h
    have := World.ownsRow.cells h (g := g) rfl _ _ hu
    rwa [Addr.add_lit] at this

/-- one node appended, whatever lies below it -/
theorem wpList_append_leaf {ops : Array Oper} {rest : List Oper} {o : Oper} {a : Act} {Q : Exit → Act → World → Prop} (hgd : o.guard = none) (s x : Operand) (t e : TypeId)
    (ho : o.op = .call { callee := .builtin .append, args := #[s, x], argTypes := #[t, t] }) (ht : Tryz.prog.underlying t = some (.slice e)) (hinfo : (Tryz.prog.info? e).map (fun i => (i.zero, i.size, i.bytes)) = some (some (.agg #[.int .i64 0, .string ⟨#[]⟩, .string ⟨#[]⟩, .int .i64 0, .slice none 0 0]), 5, 72))
    (V : World) (base : Nat) (v : Value) (m : List Tr) (T : Tr) (X : Nat)
    (hs : a.eval s = v) (hx : a.eval x = .slice (some ⟨X, 0, none⟩) 1 1) (hblk : V.heap[X]? = some (.cells (ncc T) e (0, 0))) (hrow : LRow e base v m V) (hn : m.length ≤ 20000) (hbase : base ≤ V.heap.size)
    (h : ∀ v' w', LRow e base v' (m ++ [T]) w' → V.grownBy w' v.ownBlock → wpList Tryz.prog ops Q rest (a.put o.dst v') w') :
    wpList Tryz.prog ops Q (o :: rest) a V := by
  obtain ⟨i0, hi, hz0, hz1, hz2⟩ := info_parts hinfo
  refine wpList_append_own_at V hgd s x t ho base e i0 _ 5 72 ht hi hz0 hz1 hz2 rfl (by decide) _ _ _ hs hrow ⟨X, 0, none⟩ 1 1 (ncs T) hx rfl (World.news_of_block hblk) (by intro u hu; simp [ncs] at hu; rcases hu with rfl | rfl | rfl | rfl | rfl <;> rfl) (by unfold maxLen; omega) (by omega) hbase ?_
  intro v' w' hown hg _ _
  exact h v' w' (by unfold LRow; rw [List.length_append, ncells_snoc]; exact hown) hg

def rlvp (pre : List (Nat × Tr)) : List Tr := (pre.map (·.2)).filter lfb
theorem rlvp_take {L : List (Nat × Tr)} {j : Nat} {p : Nat × Tr} (h : L[j]? = some p) : rlvp (L.take (j + 1)) = rlvp (L.take j) ++ (if p.2.k = 1 then [p.2] else []) := by
  unfold rlvp
  rw [List.take_add_one, h]
  by_cases hk : p.2.k = 1 <;> simp [lfb, hk]
theorem rlvp_len (L : List (Nat × Tr)) : (rlvp L).length ≤ L.length := by
  unfold rlvp
  exact Nat.le_trans (List.length_filter_le _ _) (by simp)

/-- what Leaves answers -/
def LvV (L : List Tr) (w : World) (e : Ending) (w' : World) : Prop := ∃ A c, e = .returned (.slice A L.length c) ∧ Tks (lo w'.heap.size) w' A L ∧ Below w.heap.size w w'

set_option maxRecDepth 100000 in
set_option maxHeartbeats 2000000 in
theorem rleaves_any (T : Tr) (w : World) (hT : Tn (lo w.heap.size) w T) (hw : wt T ≤ 9000) :
    Calls Tryz.prog 35 #[nv T] w (LvV (lf T) w) := by
  have hcn : cn T ≤ 9000 := Nat.le_trans (cn_wt T) hw
  have HWK := Lib.hid (rwalk_any (w.alloc (.cells (ncc T) 37)).heap.size T 0 [] (.slice none 0 0) (w.alloc (.cells (ncc T) 37)) (Nat.zero_le _) hw (by simp; omega) (Nat.le_refl _) ((hT.below (below1 w _)).more (by simp)) (World.ownsRow_nil _ _ _ _))
  have hL5 : (wk 0 T).length ≤ 9000 := by rw [wk_length]; exact hcn
  have HLF : Hid (rlvp (wk 0 T) = lf T) := Lib.hid rfl
  have HB0 := Lib.hid (below1 w (.cells (ncc T) 37))
  clear hT hw hcn
  go_enter Tryz.func35, Tryz.ntmps35
  go_wp2_with (go_at_call 59; refine HWK.out.mono ?_; rintro r w2 ⟨v2, rfl, hr2, hg2⟩)
  have hB2 : Below w.heap.size w w2 := HB0.out.trans (Below.mono ⟨hg2.grown.os, hg2.grown.tape, hg2.grown.output, hg2.grown.size, fun k hk => hg2.grown.block k hk (by simp [Value.ownBlock])⟩ (by simp))
  rw [List.nil_append] at hr2
  obtain ⟨A2, c2, rfl, hI2⟩ := hr2.form
  generalize wk 0 T = L at hI2 HLF hL5 hr2
  have HI2 := Lib.hid hI2
  clear hr2 hg2 hI2 HWK
  go_wp2
  go_loopw [3, 5] (fun ov i wr => ∃ (j : Nat) (v' : Value), i = .int .i64 j ∧ j ≤ L.length ∧ v' = ov ∧ Hid (LRow 37 w2.heap.size v' (rlvp (L.take j)) wr) ∧ Below w2.heap.size w2 wr) (fun _ i _ => L.length + 1 - (intOf i).toNat)
  case atStart => exact ⟨0, .slice none 0 0, rfl, Nat.zero_le _, rfl, Lib.hid (World.ownsRow_nil _ _ _ _), Below.refl _ _⟩
  case round =>
    obtain ⟨j, v', rfl, hj, rfl, HRr, hB⟩ := hrel
    by_cases hlt : j < L.length
    · obtain ⟨⟨d, e⟩, he⟩ : ∃ e, L[j]? = some e := ⟨_, List.getElem?_eq_getElem hlt⟩
      obtain ⟨b, off, rfl, hb, cd, c0, c1, c2', c3, c4⟩ := (HI2.out.below hB).at_ he
      have HTK := Lib.hid (rlvp_take he)
      have hml : (rlvp (L.take j)).length ≤ 9000 := Nat.le_trans (rlvp_len _) (by rw [List.length_take]; omega)
      have z1 : (0 : Int) ≤ j := by omega
      have z2 : (j : Int) < L.length := by omega
      simp only at c0 c1 c2' c3 c4
      clear he hb
      by_cases hk : e.k = 1
      · have HS : Hid (rlvp (L.take (j + 1)) = rlvp (L.take j) ++ [e]) := Lib.hid (by rw [HTK.out, if_pos hk])
        have hbk := heap_alloc_new wr (.cells (ncc e) 37)
        have HBK := Lib.hid hbk
        have HRA := Lib.hid (World.ownsRow.alloc HRr.out (.cells (ncc e) 37))
        have hd : (e.k == 1) = true := by simp [hk]
        have HK := Lib.hid hk
        clear hk hbk
        go_wp2_with (at_builtin; refine Stay.out ?_)
        refine Stay.mk ?_
        refine wpList_append_leaf (by rfl) _ _ 35 37 (by rfl) Tryz.underlying35 info_rnode _ w2.heap.size v' (rlvp (L.take j)) e wr.heap.size (by rfl) (by rfl) HBK.out HRA.out (by omega) (by have := hB.size; simp; omega) ?_
        intro v3 w3 hr3 hg3
        have HR3 : Hid (LRow 37 w2.heap.size v3 (rlvp (L.take (j + 1))) w3) := Lib.hid (by rw [HS.out]; exact hr3)
        have hB3 : Below w2.heap.size w2 w3 := (hB.alloc hB.size _).grown hg3 (by have := hB.size; simp; omega) (fun k hk => (World.ownsRow.lt HRr.out k hk).1)
        clear hr3 hg3
        go_wp2
        go_roundw
        case rel => exact ⟨j + 1, v3, by go_num, by omega, rfl, HR3, hB3⟩
        case measure => simp [intOf]; omega
      · have HS : Hid (rlvp (L.take (j + 1)) = rlvp (L.take j)) := Lib.hid (by rw [HTK.out, if_neg hk, List.append_nil])
        have hd : (e.k == 1) = false := by simp [hk]
        clear hk
        go_wp2
        go_roundw
        case rel => exact ⟨j + 1, v', by go_num, by omega, rfl, Lib.hid (by rw [HS.out]; exact HRr.out), hB⟩
        case measure => simp [intOf]; omega
    · obtain rfl : j = L.length := by omega
      have hf := HRr.out
      rw [List.take_length, HLF.out] at hf
      obtain ⟨A3, c3, rfl, h3⟩ := LRow.form hf
      have H3 := Lib.hid h3
      clear hf h3
      go_wp2
      refine bodyPost_ret (v := .slice A3 (lf T).length c3) (by simp [results, Tryz.results35, go_sem]) rfl ?_
      exact ⟨A3, c3, rfl, H3.out, hB2.trans (hB.mono hB2.size)⟩
end Go.Proofs.YtfmlcddakfbleaaGreatDoor

namespace Go.Proofs.YtfmlcddakfbleaaGreatDoor
open Go.RowKit TreeMath

/-- where the first leaf begins, where the last one ends, whether there is one -/
def spf (l : List Tr) : Int := (l.head?.map (·.a)).getD 0
def spt (l : List Tr) : Int := (l.getLast?.map fun x => wrap64 (x.a + x.t.size)).getD 0
def spo (l : List Tr) : Bool := !l.isEmpty

end Go.Proofs.YtfmlcddakfbleaaGreatDoor

namespace Go.Proofs.YtfmlcddakfbleaaGreatDoor
open Go.RowKit TreeMath

theorem Tks.below {B : Nat} {w w' : World} {A : Option Addr} {l : List Tr} (h : Tks (lo B) w A l) (hb : Below B w w') : Tks (lo B) w' A l := h.keep (fun _ _ hp => cell_of (hb.block _ hp)) fun _ h => h
theorem Tks.at_ {S : Nat → Prop} {w : World} {A : Option Addr} {l : List Tr} (h : Tks S w A l) {i : Nat} {x : Tr} (hx : l[i]? = some x) : ∃ b off, A = some ⟨b, off, none⟩ ∧ S b ∧ At5 w b (off + i * 5) x := by
  have hl := (List.getElem?_eq_some_iff.1 hx).1
  obtain ⟨b, off, e, hb, hc⟩ := h (by omega)
  exact ⟨b, off, e, hb, hc i x hx⟩



















































/-- do leaves stand right, as the document reckons it? -/
def rsb (p : Int) : Int → List Tr → Bool
  | _, [] => true
  | q, x :: xs => decide (wrap64 (x.a - (q + x.g.size)) = p) && rsb p (q + x.g.size + x.t.size) xs
def rsa : Int → List Tr → Int
  | q, [] => q
  | q, x :: xs => rsa (q + x.g.size + x.t.size) xs
theorem rsa_snoc (l : List Tr) (x : Tr) : ∀ q, rsa q (l ++ [x]) = rsa q l + x.g.size + x.t.size := by
  induction l with
  | nil => intro q; rfl
  | cons y ys ih => intro q; exact ih _
theorem rsa_tx (l : List Tr) : ∀ q, rsa q l = q + (tx l).size := by
  induction l with
  | nil => intro q; show q = q + ((0 : Nat) : Int); omega
  | cons y ys ih => intro q; rw [rsa, ih, tx]; simp only [ByteArray.size_append]; omega
theorem rsb_append (p : Int) (l k : List Tr) : ∀ q, rsb p q (l ++ k) = (rsb p q l && rsb p (rsa q l) k) := by
  induction l with
  | nil => intro q; rfl
  | cons y ys ih => intro q; rw [List.cons_append, rsb, rsb, rsa, ih, Bool.and_assoc]


































































































































end Go.Proofs.YtfmlcddakfbleaaGreatDoor

namespace Go.Proofs.YtfmlcddakfbleaaGreatDoor
open Go.RowKit Go.Shelf TreeMath

attribute [local go_sem] Oper.semAt_some

def SpI (w : World) (T : Tr) (pre : List Tr) : As := fun X W => Low w.heap.size w X W ∧ Has (w.heap.size + 1) (ibx (spf pre)) X W ∧ Has (w.heap.size + 2) (ibx (spt pre)) X W ∧ Has (w.heap.size + 3) (bbx (spo pre)) X W ∧ Has (w.heap.size + 4) (nbx T) X W
theorem SpI.frames (w : World) (T : Tr) (pre : List Tr) : Frames (SpI w T pre) := (Low.frames _ _).and ((Has.frames _ _).and ((Has.frames _ _).and ((Has.frames _ _).and (Has.frames _ _))))
abbrev spFrm (y bp : Nat) (T x : Tr) : Act :=
  { tmps := #[nv T, .pointer (some ⟨y, 0, none⟩), .pointer (some ⟨y + 1, 0, none⟩), .pointer (some ⟨y + 2, 0, none⟩), .pointer (some ⟨y + 3, 0, none⟩), .pointer (some ⟨bp, 0, none⟩), nv T, .func (.func 56) #[] #[.pointer (some ⟨y + 4, 0, none⟩)], nv (tok x), undef, undef, undef, undef, undef, undef, undef, undef, undef, undef, undef, undef, undef], defers := [] }





























































































































































































end Go.Proofs.YtfmlcddakfbleaaGreatDoor

namespace Go.Proofs.YtfmlcddakfbleaaGreatDoor
open Go.RowKit Go.Shelf TreeMath

attribute [local go_sem] Oper.semAt_some

theorem own_set {w : World} {base : Nat} {e : TypeId} {size n g cap : Nat} {xs : List Value} (h : w.ownsRow base e size (.slice (some ⟨g, 0, none⟩) n cap) n xs) {j : Nat} (u : Value) (_hj : j < xs.length) : (w.setCell ⟨g, j, none⟩ u).ownsRow base e size (.slice (some ⟨g, 0, none⟩) n cap) n (xs.set j u) := by
  obtain ⟨hl, h⟩ := h
  refine ⟨by simpa using hl, ?_⟩
  rcases h with ⟨h, _⟩ | ⟨g', cap', cur, hv, hb, hgb, h1, h2, hcs, htk⟩
  · cases h
  · cases hv
    refine .inr ⟨g, cap, cur.setIfInBounds j u, rfl, hb, ?_, h1, h2, by simpa using hcs, ?_⟩
    · obtain ⟨hlt, hk⟩ := Array.getElem?_eq_some_iff.1 hgb
      show (w.heap.modify g _)[g]? = _
      rw [Array.getElem?_eq_getElem (by rw [Array.size_modify]; exact hlt), Array.getElem_modify_self, hk]
      rfl
    · rw [Array.toList_setIfInBounds, ← htk, List.take_set]

theorem set_ncs (l : List Value) (z x : Tr) (n : Nat) (h : l.length = n) : ((((((l ++ ncs z).set n (.int .i64 x.k)).set (n + 1) (.string x.g)).set (n + 2) (.string x.t)).set (n + 3) (.int .i64 x.a)).set (n + 4) (.slice x.A x.kids.length x.c)) = l ++ ncs x := by
  subst h
  simp [ncs, List.set_append_right]

/-- a row whose last node is stored into -/
theorem own_last {w : World} {base : Nat} {e : TypeId} {v : Value} {m : List Tr} {z : Tr} {n : Nat} (hn : m.length = n) (h : w.ownsRow base e 5 v (n + 1) (ncells m ++ ncs z)) : ∃ g c cur, v = .slice (some ⟨g, 0, none⟩) (n + 1) c ∧ w.heap[g]? = some (.cells cur e (0, 0)) ∧ n * 5 + 5 ≤ cur.size ∧
    ∀ x, (set5o w g (n * 5) x).ownsRow base e 5 v (n + 1) (ncells (m ++ [x])) := by
  subst hn
  obtain ⟨g, c, cur, hv, hgb, hsz⟩ : ∃ g c cur, v = .slice (some ⟨g, 0, none⟩) (m.length + 1) c ∧ w.heap[g]? = some (.cells cur e (0, 0)) ∧ m.length * 5 + 5 ≤ cur.size := by
    obtain ⟨hl, h2⟩ := h
    rcases h2 with ⟨_, h0⟩ | ⟨g, cap, cur, hv, hb, hgb, h1, h2, hcs, htk⟩
    · omega
    · refine ⟨g, cap, cur, hv, hgb, ?_⟩
      rw [hcs]; omega
  subst hv
  refine ⟨g, c, cur, rfl, hgb, hsz, fun x => ?_⟩
  have hl : (ncells m ++ ncs z).length = m.length * 5 + 5 := by rw [List.length_append, ncells_length]; rfl
  have h1 := own_set h (j := m.length * 5) (.int .i64 x.k) (by omega)
  have h2 := own_set h1 (j := m.length * 5 + 1) (.string x.g) (by simp only [List.length_set]; omega)
  have h3 := own_set h2 (j := m.length * 5 + 2) (.string x.t) (by simp only [List.length_set]; omega)
  have h4 := own_set h3 (j := m.length * 5 + 3) (.int .i64 x.a) (by simp only [List.length_set]; omega)
  have h5 := own_set h4 (j := m.length * 5 + 4) (.slice x.A x.kids.length x.c) (by simp only [List.length_set]; omega)
  rw [set_ncs _ z x _ (ncells_length m)] at h5
  rw [ncells_snoc]
  exact h5

/-- a row's block is no box of another type -/
theorem row_ne {base : Nat} {e t : TypeId} {size : Nat} {v u : Value} {n : Nat} {cs : List Value} {X : Nat → Prop} {W : World} {b : Nat} (h : W.ownsRow base e size v n cs) (hb : Has b (.cells #[u] t (0, 0)) X W) (hte : t ≠ e) : some b ≠ v.ownBlock := by
  intro hh
  rcases h.2 with ⟨rfl, _⟩ | ⟨g, cap, cur, rfl, _, hg, _⟩
  · cases hh
  · injection hh with hh
    subst hh
    have := hb.2.symm.trans hg
    injection this with this
    injection this with _ h2 _
    exact hte h2

abbrev lvc (pre : List Tr) : List Value := ncells (pre.map tok)
theorem lvc_length (pre : List Tr) : (pre.map tok).length = pre.length := List.length_map ..
/-- what a round holds -/
structure Cs (w : World) (y bp : Nat) (p : Tr) (X : Nat → Prop) (W1 : World) (u v : Value) (n : Nat) (cs : List Value) (W : World) : Prop where
  size : W1.heap.size ≤ W.heap.size
  kept : Kept X W1 W
  low : Low w.heap.size w X W
  hy : Has y (.cells #[u] 23 (0, 0)) X W
  row : Row w.heap.size 30 5 v n cs X W
  hb : Has bp (tbx p) X W
  apart : v.ownBlock ≠ some bp

section
variable {w W1 W W' : World} {y bp : Nat} {p : Tr} {X : Nat → Prop} {u v : Value} {n : Nat} {cs : List Value}
theorem Cs.off (h : Cs w y bp p X W1 u v n cs W) (ho : Off no W W') : Cs w y bp p X W1 u v n cs W' := by
  have ho' : Off X W W' := ho.mono fun _ h => h.elim
  exact ⟨Nat.le_trans h.size ho.size, Kept.trans h.size h.kept (Kept.of_off ho fun _ _ h => h.elim), (Low.frames _ _).off h.low ho', (Has.frames _ _).off h.hy ho', (Row.frames _ _ _ _ _ _).off h.row ho', (Has.frames _ _).off h.hb ho', h.apart⟩
theorem Cs.sety (h : Cs w y bp p X W1 u v n cs W) (hyn : w.heap.size ≤ y) (hne : y ≠ bp) (u' : Value) : Cs w y bp p X W1 u' v n cs (W.setCell ⟨y, 0, none⟩ u') := by
  refine ⟨by rw [size_set]; exact h.size, Kept.trans h.size h.kept (Kept.set h.hy.1 _ _), h.low.set hyn _, h.hy.set, ?_, h.hb.other (fun e => hne e.symm), h.apart⟩
  exact ⟨World.ownsRow.kept h.row.1 (grownBy_setCell' W y u') (.inr (fun hh => row_ne h.row.1 h.hy (by decide) hh.symm)), h.row.2⟩
theorem Cs.append (h : Cs w y bp p X W1 u v n cs W) (hXb : XOk X W1) {v' : Value} {n' : Nat} {cs' : List Value} (hown : W'.ownsRow w.heap.size 30 5 v' n' cs') (hg : W.grownBy W' v.ownBlock) (hat : v'.ownBlock = v.ownBlock ∨ v'.ownBlock = some W.heap.size) :
    Cs w y bp p X W1 u v' n' cs' W' := by
  obtain ⟨h1, h2⟩ := Row.appended h.row hXb h.size hown hg hat
  refine ⟨Nat.le_trans h.size hg.size, Kept.trans h.size h.kept h2, ⟨h.low.1.grown hg h.low.2.1 (fun k hk => (World.ownsRow.lt h.row.1 k hk).1), Nat.le_trans h.low.2.1 hg.size, h.low.2.2⟩,
    ⟨h.hy.1, (hg.block _ h.hy.lt (row_ne h.row.1 h.hy (by decide))).trans h.hy.2⟩, h1, ⟨h.hb.1, (hg.block _ h.hb.lt (fun e => h.apart e.symm)).trans h.hb.2⟩, fun e => ?_⟩
  rcases hat with hat | hat
  · exact h.apart (hat ▸ e)
  · rw [hat] at e; injection e with e; have := h.hb.lt; omega
theorem Cs.last {m : List Tr} {z : Tr} {n : Nat} (hn : m.length = n) (h : Cs w y bp p X W1 u v (n + 1) (ncells m ++ ncs z) W) : ∃ g c cur, v = .slice (some ⟨g, 0, none⟩) (n + 1) c ∧ W.heap[g]? = some (.cells cur 30 (0, 0)) ∧ n * 5 + 5 ≤ cur.size ∧
    ∀ x, Cs w y bp p X W1 u v (n + 1) (ncells (m ++ [x])) (set5o W g (n * 5) x) := by
  obtain ⟨g, c, cur, hv, hg, hs, hx⟩ := own_last hn h.row.1
  have hgo : v.ownBlock = some g := by rw [hv]; rfl
  have hgX := h.row.2 g hgo
  have hgy : y ≠ g := fun e => row_ne h.row.1 h.hy (by decide) (by rw [hgo, e])
  have hgb : bp ≠ g := fun e => h.apart (by rw [hgo, e])
  have hgn : w.heap.size ≤ g := (World.ownsRow.lt h.row.1 g hgo).1
  refine ⟨g, c, cur, hv, hg, hs, fun x => ⟨by rw [set5o_size]; exact h.size, Kept.trans h.size h.kept fun k hk _ => set5o_other _ (fun e : k = g => hgX (e ▸ hk)) x, ?_, ⟨h.hy.1, (set5o_other _ hgy x).trans h.hy.2⟩, ⟨hx x, h.row.2⟩, ⟨h.hb.1, (set5o_other _ hgb x).trans h.hb.2⟩, h.apart⟩⟩
  exact ((((h.low.set (p := ⟨g, n * 5, none⟩) hgn _).set (p := ⟨g, n * 5 + 1, none⟩) hgn _).set (p := ⟨g, n * 5 + 2, none⟩) hgn _).set (p := ⟨g, n * 5 + 3, none⟩) hgn _).set (p := ⟨g, n * 5 + 4, none⟩) hgn _
end

/-- a slice of leaves, in new memory -/
def ClV (L : List Tr) (w : World) (e : Ending) (w' : World) : Prop := ∃ A c, e = .returned (.slice A L.length c) ∧ Tks (nw w.heap.size w') w' A (L.map tok) ∧ Below w.heap.size w w'

def ClI (w : World) (y : Nat) (pre : List Tr) : As := fun X W => Low w.heap.size w X W ∧ ∃ v, Has y (.cells #[v] 23 (0, 0)) X W ∧ Row w.heap.size 30 5 v pre.length (lvc pre) X W
theorem ClI.frames (w : World) (y : Nat) (pre : List Tr) : Frames (ClI w y pre) := (Low.frames _ _).and (Frames.ex fun _ => (Has.frames _ _).and (Row.frames _ _ _ _ _ _))
abbrev clFrm (y bp : Nat) (v : Value) (p : Tr) : Act := { tmps := #[.slice none 0 0, v, .pointer (some ⟨y, 0, none⟩), undef, .slice none 0 0, .pointer (some ⟨bp, 0, none⟩), v, nv (tok p), undef, undef, undef, undef, undef, undef, undef], defers := [] }
def ClA (w : World) (y : Nat) (v : Value) (pre : List Tr) (p : Tr) (a' : Act) : As := fun X W => ∃ bp, (Low w.heap.size w X W ∧ ∃ u, Has y (.cells #[u] 23 (0, 0)) X W ∧ Row w.heap.size 30 5 u pre.length (lvc pre) X W ∧ u.ownBlock ≠ some bp) ∧ Has bp (tbx p) X W ∧ y ≠ bp ∧ a' = clFrm y bp v p
theorem ClA.frames (w : World) (y : Nat) (v : Value) (pre : List Tr) (p : Tr) (a' : Act) : Frames (ClA w y v pre p a') :=
  Frames.ex fun _ => ((Low.frames _ _).and (Frames.ex fun _ => (Has.frames _ _).and ((Row.frames _ _ _ _ _ _).and (Frames.pure _)))).and ((Has.frames _ _).and ((Frames.pure _).and (Frames.pure _)))

/-- a row of leaves that nobody of X has, nor block s -/
def TkA (A : Option Addr) (l : List Tr) (s : Nat) : As := fun X W => Tks (fun k => ¬ X k ∧ k < W.heap.size ∧ k ≠ s) W A l
theorem TkA.frames (A : Option Addr) (l : List Tr) (s : Nat) : Frames (TkA A l s) := fun X X' W W' h ho hx =>
  Tks.keep h (fun b i hb => cell_of (ho.block b hb.2.1 hb.1)) fun b hb => ⟨fun hX => (hx b hX).elim hb.1 (fun hle => by have := hb.2.1; omega), Nat.lt_of_lt_of_le hb.2.1 ho.size, hb.2.2⟩
theorem lrow_form {e : TypeId} {base : Nat} {v : Value} {m : List Tr} {w : World} (h : LRow e base v m w) : ∃ A c, v = .slice A m.length c ∧ Tks (nw base w) w A m := by
  rcases h.2 with ⟨hv, hn⟩ | ⟨g, cap, cur, hv, hb, hg, _⟩
  · exact ⟨none, 0, by rw [hv, hn], fun h0 => by omega⟩
  · refine ⟨some ⟨g, 0, none⟩, cap, hv, fun _ => ⟨g, 0, rfl, ⟨hb, (Array.getElem?_eq_some_iff.1 hg).1⟩, fun i p hp => at5_of (fun j u hu => ?_) hp⟩⟩
    rw [hv] at h
    have := World.ownsRow.cells h (g := g) rfl _ _ hu
    rwa [Addr.add_lit] at this

abbrev zbx0 : Obj := .cells #[.int .i64 0, .string ⟨#[]⟩, .string ⟨#[]⟩, .int .i64 0, .slice none 0 0] 30 (0, 0)
def zn0 : Tr := ⟨0, ⟨#[]⟩, ⟨#[]⟩, 0, none, 0, []⟩
/-- cells appended, at a step of a region that draws its order -/
theorem step_append_row {ops : Array Oper} {o : Oper} {a : Act} {K : Act → World → Prop} {Q : Exit → Act → World → Prop} {F : Prop} (hgd : o.guard = none) (s x : Operand) (t e : TypeId)
    (ho : o.op = .call { callee := .builtin .append, args := #[s, x], argTypes := #[t, t] }) (ht : Tryz.prog.underlying t = some (.slice e)) (hinfo : (Tryz.prog.info? e).map (fun i => (i.zero, i.size, i.bytes)) = some (some (.agg #[.int .i64 0, .string ⟨#[]⟩, .string ⟨#[]⟩, .int .i64 0, .slice none 0 0]), 5, 72))
    (V : World) (base : Nat) (v : Value) (n : Nat) (cs : List Value) (X : Nat)
    (hs : a.eval s = v) (hx : a.eval x = .slice (some ⟨X, 0, none⟩) 1 1) (news : List Value) (hblk : V.heap[X]? = some (.cells news.toArray e (0, 0))) (hl : news.length = 5) (hone : ∀ u ∈ news, u.oneCell' = true) (hrow : V.ownsRow base e 5 v n cs) (hn : n ≤ 20000) (hbase : base ≤ V.heap.size)
    (h : ∀ v' w', w'.ownsRow base e 5 v' (n + 1) (cs ++ news) → V.grownBy w' v.ownBlock → (v'.ownBlock = v.ownBlock ∨ v'.ownBlock = some V.heap.size) → K (a.put o.dst v') w') :
    if Region.wanted o (yielded ops a.tmps) = true then Oper.wp Tryz.prog o a V K Q else F := by
  have hw : Region.wanted o (yielded ops a.tmps) = true := by simp [Region.wanted, hgd]
  rw [if_pos hw]
  obtain ⟨i0, hi, hz0, hz1, hz2⟩ := info_parts hinfo
  obtain ⟨v', w', hr, hown, hg, _, hat⟩ := run_append_own_at (P := Tryz.prog) V base t o.type e i0 _ 5 72 ht hi hz0 hz1 hz2 rfl (by decide) _ _ _ hrow ⟨X, 0, none⟩ 1 1 news (by omega)
    (World.news_of_block hblk) hone (by unfold maxLen; omega) (by omega) hbase
  unfold Oper.wp execOp
  simp only [ho, resolve, invoke, builtin, Sem.run_bind, Sem.run_pure, Result.andThen_ok, List.map_toArray, List.map_cons, List.map_nil, hs, hx, hr]
  exact h v' w' hown hg hat

/-- a box's cells -/
theorem heap5t {W : World} {b : Nat} {T : Tr} {t : TypeId} (h : W.heap[b]? = some (.cells (ncc T) t (0, 0))) : W.cell? ⟨b, 0, none⟩ = some (.int .i64 T.k) ∧ W.cell? ⟨b, 1, none⟩ = some (.string T.g) ∧ W.cell? ⟨b, 2, none⟩ = some (.string T.t) ∧ W.cell? ⟨b, 3, none⟩ = some (.int .i64 T.a) ∧ W.cell? ⟨b, 4, none⟩ = some (.slice T.A T.kids.length T.c) :=
  ⟨cell_heap h, cell_heap h, cell_heap h, cell_heap h, cell_heap h⟩

set_option maxRecDepth 100000 in
set_option maxHeartbeats 2000000 in
theorem appendSeq_any {gf : Nat} {lb : Array Value} {xs : List Tr} {C : As} (hit : Iter Tryz.prog gf lb (fun p : Tr => #[nv (tok p)]) xs C) (eg : ∀ args w, (callFunc gf args).run Tryz.prog w = .ok (.enter gf args) w) (w : World)
    (hC : ∀ X W, Low w.heap.size w X W → C X W) (hxs : xs.length ≤ 20000) :
    Calls Tryz.prog 66 #[.slice none 0 0, .func (.func gf) #[] lb] w (ClV xs w) := by
  have HC := Lib.hid hC
  clear hC
  refine (callsIn_wide (n := 8)).1 ?_
  refine callsIn_of_wp_marks Tryz.func66 rfl trivial ?_ rfl
  simp only [Tryz.ntmps66, List.size_toArray, List.length_cons, List.length_nil, Nat.reduceAdd, Nat.reduceSub, Array.replicate_succ, Array.replicate_zero, List.push_toArray, List.append_toArray, List.nil_append, List.cons_append]
  gi_wp2
  refine range_out hit rfl eg (fun _ => rfl) (ClI w w.heap.size) (fun _ _ _ _ => False) (ClA w w.heap.size (.func (.func gf) #[] lb)) ?fI ?fX ?fA ?hC ?h0 ?assign ?body ?done ?stop
  case fI => exact fun pre => ClI.frames _ _ _
  case fX => exact fun c pre => Frames.pure _
  case fA => exact fun pre p a' => ClA.frames _ _ _ _ _ _
  case hC => exact fun pre X W1 h => HC.out X W1 h.1
  case h0 => exact ⟨⟨below1 w _, by simp, fun _ h => h.elim⟩, .slice none 0 0, Has.newAt (fun h => h) rfl _, World.ownsRow_nil _ _ _ _, fun k hk => by cases hk⟩
  case assign =>
    rintro lq X pre p W1 K hX hXb ⟨hlow, v, hy, hrow⟩ hp hK
    gi_wp2
    exact hK _ _ (by simp) (Kept.alloc _ _ _) ⟨W1.heap.size, ⟨(Low.frames _ _).off hlow (Off.alloc _ _ _), v, hy.alloc _, (Row.frames _ _ _ _ _ _).off hrow (Off.alloc _ _ _), fun e => by have := (World.ownsRow.lt hrow.1 _ e).2; omega⟩, Has.new hXb _, by have := hy.lt; omega, rfl⟩
  case body =>
    rintro lq X pre p a' W1 hX hXb hr2 ⟨bp, ⟨hlow, u, hy, hrow, hap⟩, hbp, hne, rfl⟩ hp
    have hlen : pre.length < 20000 := by have := hp.length_le; simp at this; omega
    obtain ⟨A0, c0, rfl⟩ := own_slice hrow.1
    have hs0 : Cs w w.heap.size bp p X W1 (.slice A0 pre.length c0) (.slice A0 pre.length c0) pre.length (lvc pre) W1 := ⟨Nat.le_refl _, Kept.refl _ _, hlow, hy, hrow, hbp, hap⟩
    have hs1 := hs0.off (Off.drew no W1)
    have HXB := Lib.hid hXb
    clear hp hs0 hlow hy hrow hap hbp hr2 hXb
    gi_wp2
    refine wpIn_region_held (fun W' => W'.heap[bp]? = some (tbx p)) (by kernel_rfl) (by kernel_rfl) ?hQ ?_
    case hQ => rintro ⟨_, _, h⟩; exact h
    show wpAnyH _ _ _ _ _ _ _ _ W1.drew
    generalize W1.drew = v0 at hs1 ⊢
    refine wpAnyH_take_d (i := 1) (v := nv (tok p)) 9 rfl rfl (by kernel_rfl) (by kernel_rfl) (by kernel_rfl) (fun _ _ _ h => h) (Or.inl ⟨by kernel_rfl, fun w' hS' => ?y1⟩) (hs1.hb.2) ?_
    case y1 => (have s0 := heap5t hS'; go_simp)
    simp only [Act.put, List.setIfInBounds_toArray, List.set_cons_zero, List.set_cons_succ]
    refine wpAnyH_ready (rs := [0, 3]) (by kernel_rfl) (by simp) ?_
    refine AllReadyH.cons rfl (fun K hK => ?_) (AllReadyH.cons rfl (fun K hK => ?_) AllReadyH.nil)
    · have cy := hs1.hy.cell (i := 0)
      simp only [List.getElem?_toArray, List.getElem?_cons_zero] at cy
      go_simp
      clear cy
      refine hK.out _ _ hs1.hb.2 (fun _ => ?_)
      clear hK K
      try simp only [Act.put, List.setIfInBounds_toArray, List.set_cons_zero, List.set_cons_succ]
      refine wpAnyH_take_d (i := 2) (v := .int .i64 (pre.length : Nat)) 10 rfl rfl (by kernel_rfl) (by kernel_rfl) (by kernel_rfl) (fun _ _ _ h => h) (Or.inl ⟨by kernel_rfl, fun w' hS' => ?y2⟩) (hs1.hb.2) ?_
      case y2 => (go_simp)
      simp only [Act.put, List.setIfInBounds_toArray, List.set_cons_zero, List.set_cons_succ]
      refine wpAnyH_ready (rs := [3]) (by kernel_rfl) (by simp) ?_
      refine AllReadyH.cons rfl (fun K hK => ?_) AllReadyH.nil
      go_simp
      have hs2 := hs1.off (Off.alloc no v0 (zbx0))
      refine hK.out _ _ hs2.hb.2 (fun _ => ?_)
      clear hK K
      try simp only [Act.put, List.setIfInBounds_toArray, List.set_cons_zero, List.set_cons_succ]
      refine wpAnyH_ready (rs := [4]) (by kernel_rfl) (by simp) ?_
      refine AllReadyH.cons rfl (fun K hK => ?_) AllReadyH.nil
      refine step_append_row (by rfl) _ _ 23 30 (by rfl) Tryz.underlying23 info_tnode _ w.heap.size (.slice A0 pre.length c0) pre.length (lvc pre) v0.heap.size (by rfl) (by rfl) (ncs zn0) (World.alloc_heap_new v0 _) rfl (by intro u hu; simp [ncs, zn0] at hu; rcases hu with rfl | rfl | rfl | rfl | rfl <;> rfl) hs2.row.1 (by omega) hs2.low.2.1 ?_
      intro v' w3 hown hg hat
      have hs3 := hs2.append HXB.out hown hg hat
      clear hown hg hat
      obtain ⟨g, c, cur, rfl, hgc, hsz, hst⟩ := hs3.last (lvc_length pre)
      have z1 : (0 : Int) ≤ (pre.length : Nat) := by omega
      have z2 : ((pre.length : Nat) : Int) < ((pre.length + 1 : Nat) : Int) := by omega
      refine hK.out _ _ hs3.hb.2 (fun _ => ?_)
      clear hK K
      try simp only [Act.put, List.setIfInBounds_toArray]
      refine wpAnyH_take_d (i := 5) (v := .pointer (some ⟨g, pre.length * 5, none⟩)) 13 rfl rfl (by kernel_rfl) (by kernel_rfl) (by kernel_rfl) (fun _ _ _ h => h) (Or.inl ⟨by kernel_rfl, fun w' hS' => ?y5⟩) (hs3.hb.2) ?_
      case y5 => (go_simp; intro h; omega)
      simp only [Act.put]
      refine wpAnyH_ready (rs := [6, 7]) (by kernel_rfl) (by simp) ?_
      refine AllReadyH.cons rfl (fun K hK => ?_) (AllReadyH.cons rfl (fun K hK => ?_) AllReadyH.nil)
      · refine step_store_at (by rfl) 30 (.tmp 13) (.tmp 9) (by rfl) size_tnode g (pre.length * 5) (tok p) (by rfl) (by rfl) hgc hsz ?_
        have hs4 := hst (tok p)
        generalize set5o w3 g (pre.length * 5) (tok p) = w4 at hs4 ⊢
        refine hK.out _ _ hs4.hb.2 (fun _ => ?_)
        clear hK K
        try simp only [Act.put]
        refine wpAnyH_ready (rs := [7]) (by kernel_rfl) (by simp) ?_
        refine AllReadyH.cons rfl (fun K hK => ?_) AllReadyH.nil
        have cy := hs4.hy.cell (i := 0)
        simp only [List.getElem?_toArray, List.getElem?_cons_zero] at cy
        have fy := hs4.hy.frozen (i := 0)
        go_simp
        have hs5 := hs4.sety (Nat.le_refl _) hne (.slice (some ⟨g, 0, none⟩) (pre.length + 1) c)
        generalize w4.setCell ⟨w.heap.size, 0, none⟩ (.slice (some ⟨g, 0, none⟩) (pre.length + 1) c) = w5 at hs5 ⊢
        refine hK.out _ _ hs5.hb.2 (fun _ => ?_)
        clear hK K
        try simp only [Act.put, List.setIfInBounds_toArray, List.set_cons_zero, List.set_cons_succ]
        refine wpAnyH_done (by kernel_rfl) ?_ _
        gi_wp2
        refine ⟨hs5.size, hs5.kept, hs5.low, _, hs5.hy, ?_⟩
        rw [List.length_append]
        have hr5 := hs5.row
        have he5 : lvc (pre ++ [p]) = ncells (pre.map tok ++ [tok p]) := by simp [lvc]
        rw [he5]
        exact hr5
      · have cy := hs3.hy.cell (i := 0)
        simp only [List.getElem?_toArray, List.getElem?_cons_zero] at cy
        have fy := hs3.hy.frozen (i := 0)
        go_simp
        clear cy fy
        have hs4 := hs3.sety (Nat.le_refl _) hne (.slice (some ⟨g, 0, none⟩) (pre.length + 1) c)
        generalize w3.setCell ⟨w.heap.size, 0, none⟩ (.slice (some ⟨g, 0, none⟩) (pre.length + 1) c) = w4 at hs4 ⊢
        obtain ⟨g', c', cur', hv', hgc', hsz', hst'⟩ := hs4.last (lvc_length pre)
        obtain ⟨rfl, rfl⟩ : g' = g ∧ c' = c := by injection hv' with h1 h2 h3; injection h1 with h1; injection h1 with h1; exact ⟨h1.symm, h3.symm⟩
        refine hK.out _ _ hs4.hb.2 (fun _ => ?_)
        clear hK K
        try simp only [Act.put, List.setIfInBounds_toArray, List.set_cons_zero, List.set_cons_succ]
        refine wpAnyH_ready (rs := [6]) (by kernel_rfl) (by simp) ?_
        refine AllReadyH.cons rfl (fun K hK => ?_) AllReadyH.nil
        refine step_store_at (by rfl) 30 (.tmp 13) (.tmp 9) (by rfl) size_tnode g' (pre.length * 5) (tok p) (by rfl) (by rfl) hgc' hsz' ?_
        have hs5 := hst' (tok p)
        generalize set5o w4 g' (pre.length * 5) (tok p) = w5 at hs5 ⊢
        refine hK.out _ _ hs5.hb.2 (fun _ => ?_)
        clear hK K
        try simp only [Act.put, List.setIfInBounds_toArray]
        refine wpAnyH_done (by kernel_rfl) ?_ _
        gi_wp2
        refine ⟨hs5.size, hs5.kept, hs5.low, _, hs5.hy, ?_⟩
        rw [List.length_append]
        have hr5 := hs5.row
        have he5 : lvc (pre ++ [p]) = ncells (pre.map tok ++ [tok p]) := by simp [lvc]
        rw [he5]
        exact hr5
    · go_simp
      have hs2 := hs1.off (Off.alloc no v0 (zbx0))
      refine hK.out _ _ hs2.hb.2 (fun _ => ?_)
      clear hK K
      try simp only [Act.put, List.setIfInBounds_toArray, List.set_cons_zero, List.set_cons_succ]
      refine wpAnyH_ready (rs := [0]) (by kernel_rfl) (by simp) ?_
      refine AllReadyH.cons rfl (fun K hK => ?_) AllReadyH.nil
      have cy := hs2.hy.cell (i := 0)
      simp only [List.getElem?_toArray, List.getElem?_cons_zero] at cy
      go_simp
      clear cy
      refine hK.out _ _ hs2.hb.2 (fun _ => ?_)
      clear hK K
      try simp only [Act.put, List.setIfInBounds_toArray, List.set_cons_zero, List.set_cons_succ]
      refine wpAnyH_take_d (i := 2) (v := .int .i64 (pre.length : Nat)) 10 rfl rfl (by kernel_rfl) (by kernel_rfl) (by kernel_rfl) (fun _ _ _ h => h) (Or.inl ⟨by kernel_rfl, fun w' hS' => ?y2⟩) (hs2.hb.2) ?_
      case y2 => (go_simp)
      simp only [Act.put, List.setIfInBounds_toArray, List.set_cons_zero, List.set_cons_succ]
      refine wpAnyH_ready (rs := [4]) (by kernel_rfl) (by simp) ?_
      refine AllReadyH.cons rfl (fun K hK => ?_) AllReadyH.nil
      refine step_append_row (by rfl) _ _ 23 30 (by rfl) Tryz.underlying23 info_tnode _ w.heap.size (.slice A0 pre.length c0) pre.length (lvc pre) v0.heap.size (by rfl) (by rfl) (ncs zn0) (World.alloc_heap_new v0 _) rfl (by intro u hu; simp [ncs, zn0] at hu; rcases hu with rfl | rfl | rfl | rfl | rfl <;> rfl) hs2.row.1 (by omega) hs2.low.2.1 ?_
      intro v' w3 hown hg hat
      have hs3 := hs2.append HXB.out hown hg hat
      clear hown hg hat
      obtain ⟨g, c, cur, rfl, hgc, hsz, hst⟩ := hs3.last (lvc_length pre)
      have z1 : (0 : Int) ≤ (pre.length : Nat) := by omega
      have z2 : ((pre.length : Nat) : Int) < ((pre.length + 1 : Nat) : Int) := by omega
      refine hK.out _ _ hs3.hb.2 (fun _ => ?_)
      clear hK K
      try simp only [Act.put, List.setIfInBounds_toArray]
      refine wpAnyH_take_d (i := 5) (v := .pointer (some ⟨g, pre.length * 5, none⟩)) 13 rfl rfl (by kernel_rfl) (by kernel_rfl) (by kernel_rfl) (fun _ _ _ h => h) (Or.inl ⟨by kernel_rfl, fun w' hS' => ?y5⟩) (hs3.hb.2) ?_
      case y5 => (go_simp; intro h; omega)
      simp only [Act.put]
      refine wpAnyH_ready (rs := [6, 7]) (by kernel_rfl) (by simp) ?_
      refine AllReadyH.cons rfl (fun K hK => ?_) (AllReadyH.cons rfl (fun K hK => ?_) AllReadyH.nil)
      · refine step_store_at (by rfl) 30 (.tmp 13) (.tmp 9) (by rfl) size_tnode g (pre.length * 5) (tok p) (by rfl) (by rfl) hgc hsz ?_
        have hs4 := hst (tok p)
        generalize set5o w3 g (pre.length * 5) (tok p) = w4 at hs4 ⊢
        refine hK.out _ _ hs4.hb.2 (fun _ => ?_)
        clear hK K
        try simp only [Act.put]
        refine wpAnyH_ready (rs := [7]) (by kernel_rfl) (by simp) ?_
        refine AllReadyH.cons rfl (fun K hK => ?_) AllReadyH.nil
        have cy := hs4.hy.cell (i := 0)
        simp only [List.getElem?_toArray, List.getElem?_cons_zero] at cy
        have fy := hs4.hy.frozen (i := 0)
        go_simp
        have hs5 := hs4.sety (Nat.le_refl _) hne (.slice (some ⟨g, 0, none⟩) (pre.length + 1) c)
        generalize w4.setCell ⟨w.heap.size, 0, none⟩ (.slice (some ⟨g, 0, none⟩) (pre.length + 1) c) = w5 at hs5 ⊢
        refine hK.out _ _ hs5.hb.2 (fun _ => ?_)
        clear hK K
        try simp only [Act.put, List.setIfInBounds_toArray, List.set_cons_zero, List.set_cons_succ]
        refine wpAnyH_done (by kernel_rfl) ?_ _
        gi_wp2
        refine ⟨hs5.size, hs5.kept, hs5.low, _, hs5.hy, ?_⟩
        rw [List.length_append]
        have hr5 := hs5.row
        have he5 : lvc (pre ++ [p]) = ncells (pre.map tok ++ [tok p]) := by simp [lvc]
        rw [he5]
        exact hr5
      · have cy := hs3.hy.cell (i := 0)
        simp only [List.getElem?_toArray, List.getElem?_cons_zero] at cy
        have fy := hs3.hy.frozen (i := 0)
        go_simp
        clear cy fy
        have hs4 := hs3.sety (Nat.le_refl _) hne (.slice (some ⟨g, 0, none⟩) (pre.length + 1) c)
        generalize w3.setCell ⟨w.heap.size, 0, none⟩ (.slice (some ⟨g, 0, none⟩) (pre.length + 1) c) = w4 at hs4 ⊢
        obtain ⟨g', c', cur', hv', hgc', hsz', hst'⟩ := hs4.last (lvc_length pre)
        obtain ⟨rfl, rfl⟩ : g' = g ∧ c' = c := by injection hv' with h1 h2 h3; injection h1 with h1; injection h1 with h1; exact ⟨h1.symm, h3.symm⟩
        refine hK.out _ _ hs4.hb.2 (fun _ => ?_)
        clear hK K
        try simp only [Act.put, List.setIfInBounds_toArray, List.set_cons_zero, List.set_cons_succ]
        refine wpAnyH_ready (rs := [6]) (by kernel_rfl) (by simp) ?_
        refine AllReadyH.cons rfl (fun K hK => ?_) AllReadyH.nil
        refine step_store_at (by rfl) 30 (.tmp 13) (.tmp 9) (by rfl) size_tnode g' (pre.length * 5) (tok p) (by rfl) (by rfl) hgc' hsz' ?_
        have hs5 := hst' (tok p)
        generalize set5o w4 g' (pre.length * 5) (tok p) = w5 at hs5 ⊢
        refine hK.out _ _ hs5.hb.2 (fun _ => ?_)
        clear hK K
        try simp only [Act.put, List.setIfInBounds_toArray]
        refine wpAnyH_done (by kernel_rfl) ?_ _
        gi_wp2
        refine ⟨hs5.size, hs5.kept, hs5.low, _, hs5.hy, ?_⟩
        rw [List.length_append]
        have hr5 := hs5.row
        have he5 : lvc (pre ++ [p]) = ncells (pre.map tok ++ [tok p]) := by simp [lvc]
        rw [he5]
        exact hr5
  case done =>
    rintro D W1 ⟨hlow, v, hy, hrow⟩ hD
    obtain ⟨A0, c0, rfl⟩ := own_slice hrow.1
    have q0 := hy.cell (i := 0)
    simp only [List.getElem?_toArray, List.getElem?_cons_zero] at q0
    gi_wp2
    refine ⟨by simp, .inl ⟨_, _, rfl, run_takeDeferred hD, ?_⟩⟩
    have ho : Off (· = D) W1 (W1.putObj D (.deferred none)) := Off.putObj (X := (· = D)) rfl _ _
    have hrow2 := (Row.frames _ _ _ _ _ _).off hrow ho
    have hr3 := hrow2.1
    rw [← lvc_length xs] at hr3
    obtain ⟨A, c, he, hk⟩ := lrow_form hr3
    injection he with h1 h2 h3
    subst h1 h3
    exact ⟨.slice A0 xs.length c0, by simp [results, Tryz.results66, go_sem], A0, c0, rfl, hk, ((Low.frames _ _).off hlow ho).1⟩
  case stop =>
    rintro D c pre W1 hp h hD
    exact h.elim

set_option maxHeartbeats 400000 in
theorem collect_any {gf : Nat} {lb : Array Value} {xs : List Tr} {C : As} (hit : Iter Tryz.prog gf lb (fun p : Tr => #[nv (tok p)]) xs C) (eg : ∀ args w, (callFunc gf args).run Tryz.prog w = .ok (.enter gf args) w) (w : World)
    (hC : ∀ X W, Low w.heap.size w X W → C X W) (hxs : xs.length ≤ 20000) :
    Calls Tryz.prog 42 #[.func (.func gf) #[] lb] w (ClV xs w) := by
  have H := Lib.hid (appendSeq_any hit eg w hC hxs)
  clear hC
  go_enter Tryz.func42, Tryz.ntmps42
  go_wp2_with fail
  refine H.out.mono ?_
  rintro e w1 ⟨A, c, rfl, hd, hb⟩
  have HD := Lib.hid hd
  clear hd
  go_wp2
  go_ret
  exact ⟨A, c, rfl, HD.out, hb⟩

theorem eg_values : ∀ args w, (callFunc 67 args).run Tryz.prog w = .ok (.enter 67 args) w := by
  intro args w; simp [go_sem]
abbrev slb (A : Option Addr) (n c : Nat) : Obj := .cells #[.slice A n c] 23 (0, 0)
set_option maxHeartbeats 400000 in
theorem values_any (A : Option Addr) (n c : Nat) (w : World) :
    Calls Tryz.prog 43 #[.slice A n c] w fun e w' => e = .returned (.func (.func 67) #[] #[.pointer (some ⟨w.heap.size, 0, none⟩)]) ∧ w.alloc (slb A n c) = w' := by
  have hmf : ∀ (fn : Fn) (first cap : Array Value) (w : World), (Instr.makeFunc fn first cap).run Tryz.prog w = .ok (.func fn first cap) w := fun _ _ _ _ => rfl
  go_enter Tryz.func43, Tryz.ntmps43
  go_wp2
  go_ret
  exact ⟨rfl, rfl⟩

set_option maxRecDepth 100000 in
set_option maxHeartbeats 2000000 in
theorem values_iter (xs : List Tr) (b : Nat) (A : Option Addr) (c : Nat) (hl : xs.length ≤ 20000) :
    Iter Tryz.prog 67 #[.pointer (some ⟨b, 0, none⟩)] (fun x : Tr => #[nv (tok x)]) xs (fun X W => (∃ s, TkA A (xs.map tok) s X W) ∧ Has b (slb A xs.length c) X W) := by
  intro n m lp J Jx W hJ hJx hC hY h0
  have HY := Lib.hid hY
  have HC := Lib.hid hC
  have HJ := Lib.hid hJ
  have HJx := Lib.hid hJx
  have q0 := (hC _ _ _ h0).2.cell (i := 0)
  simp only [List.getElem?_toArray, List.getElem?_cons_zero] at q0
  clear hY hC hJ hJx
  refine callsIn_of_wp Tryz.func67 rfl trivial ?_ rfl
  simp only [Tryz.ntmps67, List.size_toArray, List.length_cons, List.length_nil, Nat.reduceAdd, Nat.reduceSub, Array.replicate_succ, Array.replicate_zero, List.push_toArray, List.append_toArray, List.nil_append, List.cons_append]
  gi_wp2
  gi_loopw [7] (fun i wr => ∃ k : Nat, i = .int .i64 k ∧ k ≤ xs.length ∧ J (xs.take k) no wr) (fun i _ => xs.length + 1 - (intOf i).toNat)
  case atStart => exact ⟨0, rfl, Nat.zero_le _, by simpa using h0⟩
  case round =>
    clear q0 h0
    obtain ⟨k, rfl, hk, hJr⟩ := hrel
    by_cases hlt : k < xs.length
    · obtain ⟨x, hx⟩ : ∃ x, xs[k]? = some x := ⟨_, List.getElem?_eq_getElem hlt⟩
      obtain ⟨s0, hlow⟩ := (HC.out _ _ _ hJr).1
      have hx' : (xs.map tok)[k]? = some (tok x) := by rw [List.getElem?_map, hx]; rfl
      obtain ⟨b', off, rfl, hb', c0, c1, c2, c3, c4⟩ := Tks.at_ hlow hx'
      have hpre : xs.take (k + 1) = xs.take k ++ [x] := by rw [List.take_add_one, hx]; rfl
      have HPRE := Lib.hid hpre
      have HPX : Hid (xs.take k ++ [x] <+: xs) := Lib.hid (by rw [← hpre]; exact List.take_prefix _ _)
      have hJ1 := (HJ.out _).off hJr (Off.alloc no wr (tbx x))
      obtain ⟨fn, tmps, assign, body, hy, hR⟩ := HY.out (xs.take k) x no (wr.alloc (tbx x)) (fun _ h => h.elim) hJ1 HPX.out
      have z1 : (k : Int) < xs.length := by omega
      have z2 : (0 : Int) ≤ k := by omega
      clear hx hx' hpre hJ1 hlow hb' hJr
      gi_wp2
      refine round_any (hR.mono ?_)
      rintro r W3 ⟨hs3, hk3, (⟨rfl, hJ3⟩ | ⟨rfl, hJx3⟩)⟩
      · clear hk3 hy c0 c1 c2 c3 c4
        have HJ3 : Hid (J (xs.take (k + 1)) no W3) := Lib.hid (by rw [HPRE.out]; exact hJ3)
        clear hJ3 hs3
        gi_wp2
        go_roundw
        case rel => exact ⟨k + 1, by go_num, by omega, HJ3.out⟩
        case measure => simp [intOf]; omega
      · gi_wp2
        refine bodyPost_ret (results_none rfl _ _ _) rfl ?_
        exact ⟨⟨_, rfl⟩, .inr ⟨_, HPX.out, hJx3⟩⟩
    · obtain rfl : k = xs.length := by omega
      gi_wp2
      go_end0
      refine ⟨⟨_, rfl⟩, .inl ?_⟩
      rwa [List.take_length] at hJr

/-- what tree.Leaves hands on -/
def lvs (T : Tr) : List Tr := if rgt T = true then lf T else []
theorem lvs_len {T : Tr} (hw : wt T ≤ 9000) : (lvs T).length ≤ 9000 := by
  unfold lvs
  split
  · have h1 : (lf T).length ≤ (ns T).length := List.length_filter_le _ _
    have h2 := cn_wt T
    unfold cn at h2
    omega
  · simp
def LvsV (T : Tr) (w : World) (e : Ending) (w' : World) : Prop := ∃ b A c, e = .returned (.func (.func 67) #[] #[.pointer (some ⟨b, 0, none⟩)]) ∧ w'.heap[b]? = some (slb A (lvs T).length c) ∧ w.heap.size ≤ b ∧ Tks (nw w.heap.size w') w' A ((lvs T).map tok) ∧ Below w.heap.size w w'

set_option maxRecDepth 100000 in
set_option maxHeartbeats 800000 in
theorem leavesAll_any (T : Tr) (w : World) (hw : wt T ≤ 9000) (hT : Tn (lo w.heap.size) w T) :
    Calls Tryz.prog 19 #[nv T] w (LvsV T w) := by
  have hB1 := below1 w (nbx T)
  have HR := Lib.hid (right_any T (w.alloc (nbx T)) ((hT.below hB1).more hB1.size) hw)
  have HCO : Hid (rgt T = true → ∀ W, Below (w.alloc (nbx T)).heap.size (w.alloc (nbx T)) W → Calls Tryz.prog 42 #[.func (.func 56) #[] #[.pointer (some ⟨W.heap.size, 0, none⟩)]] (W.alloc (nbx T)) (ClV (lvs T) (W.alloc (nbx T)))) := Lib.hid fun hr W hW => by
    have hb2 := (hB1.trans (hW.mono (by simp))).trans ((below1 W (nbx T)).mono (by have := hW.size; simp at this; omega))
    have hit := leaves_iter T (W.alloc (nbx T)) W.heap.size ((hT.below hb2).more hb2.size) hw
    have he : lvs T = lf T := if_pos hr
    have hlen := lvs_len hw
    rw [he] at hlen ⊢
    exact collect_any hit eg_leaves (W.alloc (nbx T)) (fun X W' h => ⟨h, fun hx => by have := h.2.2 _ hx; simp at this; omega, (h.1.block _ (by simp)).trans (heap_alloc_new W _)⟩) (by omega)
  have HLN := Lib.hid (fun h : rgt T = false => (show lvs T = [] from by unfold lvs; rw [h]; rfl))
  have HB := Lib.hid hB1
  obtain ⟨L, hL⟩ : ∃ L, lvs T = L := ⟨_, rfl⟩
  unfold LvsV
  rw [hL] at HCO HLN ⊢
  clear hB1 hw hT hL
  go_enter Tryz.func19, Tryz.ntmps19
  cases hr : rgt T with
  | false =>
    have hLn := HLN.out hr
    subst hLn
    rw [hr] at HR
    go_wp2_with fail
    refine HR.out.mono ?_
    rintro e w1 ⟨rfl, hb1⟩
    have HB1 := Lib.hid (HB.out.trans (hb1.mono HB.out.size))
    clear hb1
    go_wp2_with fail
    refine (values_any none 0 0 w1).mono ?_
    rintro e w2 ⟨rfl, rfl⟩
    go_wp2
    go_ret
    exact ⟨w1.heap.size, none, 0, rfl, World.alloc_heap_new w1 _, HB1.out.size, fun h => absurd h (by simp), HB1.out.trans ((below1 w1 _).mono HB1.out.size)⟩
  | true =>
    rw [hr] at HR
    go_wp2_with fail
    refine HR.out.mono ?_
    rintro e w1 ⟨rfl, hb1⟩
    have hc1 := box5 hb1
    have HBX := Lib.hid hb1
    have HB1 := Lib.hid (HB.out.trans (hb1.mono HB.out.size))
    clear hb1
    go_wp2_with fail
    refine (leaves_any T w1).mono ?_
    rintro e w2 ⟨rfl, rfl⟩
    have HC2 := Lib.hid (HCO.out hr w1 HBX.out)
    go_wp2_with fail
    refine HC2.out.mono ?_
    rintro e w3 ⟨A, c, rfl, hk3, hb3⟩
    have HK3 := Lib.hid hk3
    have HB3 := Lib.hid (HB1.out.trans (((below1 w1 (nbx T)).trans (hb3.mono (by simp))).mono HB1.out.size))
    clear hk3 hb3
    go_wp2_with fail
    refine (values_any A L.length c w3).mono ?_
    rintro e w4 ⟨rfl, rfl⟩
    go_wp2
    go_ret
    exact ⟨w3.heap.size, A, c, rfl, World.alloc_heap_new w3 _, HB3.out.size, HK3.out.keep (fun b i hb => cell_of (Below.heap_alloc w3 _ _ hb.2)) (fun b hb => ⟨by have := hb.1; have := HB1.out.size; simp at *; omega, by have := hb.2; simp; omega⟩), HB3.out.trans ((below1 w3 _).mono HB3.out.size)⟩
end Go.Proofs.YtfmlcddakfbleaaGreatDoor

namespace Go.Proofs.YtfmlcddakfbleaaGreatDoor
open Go.RowKit

/-- The iterator hands on a list each of whose beginnings is such (Pf), and which is such when it is whole (Fn); of each value holds E. -/
def IterG {α : Type} (P : Program) (g : Nat) (lb : Array Value) (encs : α → Array Value) (Pf Fn : List α → Prop) (E : α → As) (C : As) : Prop :=
  ∀ (n m l : Nat) (J Jx : List α → As) (W : World), (∀ pre, Frames (J pre)) → (∀ pre, Frames (Jx pre)) → (∀ pre X W, J pre X W → C X W) →
    (∀ pre x X W, XOk X W → J pre X W → E x X W → Pf (pre ++ [x]) → YieldAt Fence.wide m P l (encs x) W fun e W' => W.heap.size ≤ W'.heap.size ∧ Kept X W W' ∧
      ((e = .returned (.bool true) ∧ J (pre ++ [x]) X W') ∨ (e = .returned (.bool false) ∧ Jx (pre ++ [x]) X W'))) →
    J [] no W →
    CallsIn Fence.wide n P g (#[.func (.yield l) #[] #[]] ++ lb) W fun e W' => (∃ v, e = .returned v) ∧ ((∃ xs, Fn xs ∧ J xs no W') ∨ ∃ pre, Jx pre no W')

theorem Iter.g {α : Type} {P : Program} {g : Nat} {lb : Array Value} {encs : α → Array Value} {xs : List α} {C : As} (h : Iter P g lb encs xs C) : IterG P g lb encs (· <+: xs) (· = xs) (fun _ _ _ => True) C := by
  intro n m l J Jx W hJ hJx hC hY h0
  refine (h n m l J Jx W hJ hJx hC (fun pre x X W hX hj hp => hY pre x X W hX hj trivial hp) h0).mono ?_
  rintro e W' ⟨hv, h | ⟨pre, _, h⟩⟩
  · exact ⟨hv, .inl ⟨xs, rfl, h⟩⟩
  · exact ⟨hv, .inr ⟨pre, h⟩⟩
theorem gT {α : Type} : ∀ (x : α) (X : Nat → Prop) (W : World) (l : Nat), (fun (_ : α) (_ : Nat → Prop) (_ : World) => True) x X W → (∀ i, W.cell? ⟨l, i, none⟩ = none) → (fun (_ : α) (_ : Nat → Prop) (_ : World) => True) x (fun k => X k ∨ k = l) W := fun _ _ _ _ _ _ => trivial

section
variable {P : Program} {α : Type} {ps : Array Tmp} {assign body : Code} {encs : α → Array Value} {Pf Fn : List α → Prop} {E : α → As} {C : As}

/-- one whose rounds are this body's -/
theorem roundsG {fn : FuncId} {tmps : Array Value} {d : Nat} {l m : Nat} (rec : LoopState → Option Code → Loop) (hrec : rec = fun st pe => { state := st, pending := pe, fn, tmps, params := ps, assign, body, defers := d })
    (hps : ∀ x, (encs x).size = ps.size) (I : List α → As) (Ix : Code → List α → As) (A : List α → α → Act → As) (hI : ∀ pre, Frames (I pre)) (hIx : ∀ c pre, Frames (Ix c pre)) (hA : ∀ pre x a, Frames (A pre x a))
    (hassign : ∀ (X : Nat → Prop) (pre : List α) (x : α) (W : World) (K : Act → World → Prop), X l → XOk X W → I pre X W → E x X W → Pf (pre ++ [x]) →
      (∀ a' W', W.heap.size ≤ W'.heap.size → Kept X W W' → A pre x a' X W' → K a' W') →
      assign.wpIn (Fence.wide.inRound l) m P (Exit.then K (fun _ _ _ => False)) { tmps := (ps.zip (encs x)).foldl (fun t (p, v) => t.setIfInBounds p v) tmps, defers := [] } W)
    (hbody : ∀ (X : Nat → Prop) (pre : List α) (x : α) (a' : Act) (W : World), X l → XOk X W → (∃ r, W.heap[l]? = some (.loop r)) → A pre x a' X W → Pf (pre ++ [x]) →
      body.wpIn (Fence.wide.inRound l) m P (rPost X (I (pre ++ [x])) (fun c => Ix c (pre ++ [x])) W) a' W)
    (pre : List α) (x : α) (X : Nat → Prop) (W : World) (hb : XOk X W) (h : I pre (fun k => X k ∨ k = l) W ∧ Has l (.loop (rec .ready none)) X W) (he : E x X W) (hE : ∀ x X W l, E x X W → (∀ i, W.cell? ⟨l, i, none⟩ = none) → E x (fun k => X k ∨ k = l) W) (hp : Pf (pre ++ [x])) :
    YieldAt Fence.wide m P l (encs x) W fun e W' => W.heap.size ≤ W'.heap.size ∧ Kept X W W' ∧
      ((e = .returned (.bool true) ∧ I (pre ++ [x]) (fun k => X k ∨ k = l) W' ∧ Has l (.loop (rec .ready none)) X W') ∨
       (e = .returned (.bool false) ∧ ∃ c, Ix c (pre ++ [x]) (fun k => X k ∨ k = l) W' ∧ Has l (.loop (rec .done (some c))) X W')) := by
  obtain ⟨hi, hX, hl⟩ := h
  have hy := run_yield (P := P) (args := encs x) hl (by rw [hrec]; exact hps x)
  rw [hrec] at hy
  have hlt := (Array.getElem?_eq_some_iff.1 hl).1
  have hb2 : XOk (fun k => X k ∨ k = l) W := fun k hk => hk.elim (hb k) (fun e => ⟨_, e ▸ hl, rfl⟩)
  refine ⟨fn, _, assign, body, hy, roundIn_of_wpIn trivial (hassign (fun k => X k ∨ k = l) pre x W _ (.inr rfl) hb2 hi (hE _ _ _ _ he (fun i => by simp [World.cell?, hl])) hp ?_)⟩
  clear hy
  intro a' Wa hsz hka ha
  have hla : Wa.heap[l]? = some (.loop (rec .ready none)) := (hka l (.inr rfl) hlt).trans hl
  refine ⟨_, run_beginRound hla (by rw [hrec]), ?_⟩
  obtain ⟨W2, hW2⟩ : ∃ W2, Wa.putObj l (.loop { rec .ready none with state := .busy }) = W2 := ⟨_, rfl⟩
  have hs2 : W2.heap.size = Wa.heap.size := by rw [← hW2]; simp
  have hl2 : W2.heap[l]? = some (.loop { rec .ready none with state := .busy }) := by rw [← hW2]; exact World.putObj_heap_same (by omega)
  have ho2 : Off (fun k => X k ∨ k = l) Wa W2 := by rw [← hW2]; exact Off.putObj (.inr rfl) _ _
  have hx2 : Kept X Wa W2 := by rw [← hW2]; exact fun k hk _ => World.putObj_heap_other (fun e => hX (e ▸ hk))
  rw [hW2]
  clear hW2
  refine wpIn_mono (hbody (fun k => X k ∨ k = l) pre x a' W2 (.inr rfl) (fun k hk => hk.elim (fun h => by obtain ⟨o, ho, hn⟩ := hb2 k (.inl h); exact ⟨o, (hx2 k h (Nat.lt_of_lt_of_le (hb.lt h) hsz)).trans ((hka k (.inl h) (hb.lt h)).trans ho), hn⟩) (fun e => ⟨_, e ▸ hl2, rfl⟩)) ⟨_, hl2⟩ ((hA pre x a').off ha ho2) hp) ?_
  have fin : ∀ (jump : Option Code) (W3 : World), W2.heap.size ≤ W3.heap.size → Kept (fun k => X k ∨ k = l) W2 W3 →
      (Instr.endRound l jump).run P W3 = .ok (.bool jump.isNone) (W3.putObj l (.loop (rec (if jump.isNone then .ready else .done) jump))) ∧
      W.heap.size ≤ (W3.putObj l (.loop (rec (if jump.isNone then .ready else .done) jump))).heap.size ∧
      Kept X W (W3.putObj l (.loop (rec (if jump.isNone then .ready else .done) jump))) ∧
      Off (fun k => X k ∨ k = l) W3 (W3.putObj l (.loop (rec (if jump.isNone then .ready else .done) jump))) ∧
      (W3.putObj l (.loop (rec (if jump.isNone then .ready else .done) jump))).heap[l]? = some (.loop (rec (if jump.isNone then .ready else .done) jump)) := fun jump W3 hs3 hk3 => by
    have hl3 := (hk3 l (.inr rfl) (by omega)).trans hl2
    have hlt3 := (Array.getElem?_eq_some_iff.1 hl3).1
    have := run_endRound (P := P) jump hl3
    rw [hrec] at this ⊢
    refine ⟨this, by simp; omega, ?_, Off.putObj (.inr rfl) _ _, World.putObj_heap_same hlt3⟩
    have h1 : Kept X W W3 := Kept.trans (by omega) (Kept.trans hsz (hka.mono fun _ h => .inl h) hx2) (hk3.mono fun _ h => .inl h)
    exact Kept.trans (by omega) h1 (fun k hk _ => World.putObj_heap_other (fun e => hX (e ▸ hk)))
  rintro e a3 W3 hp3
  cases e with
  | normal =>
    obtain ⟨hs3, hk3, hi3⟩ := hp3
    obtain ⟨hr, f1, f2, f3, f4⟩ := fin none W3 hs3 hk3
    exact ⟨_, _, hr, f1, f2, .inl ⟨rfl, (hI _).off hi3 f3, hX, f4⟩⟩
  | ret =>
    obtain ⟨hs3, hk3, hi3⟩ := hp3
    obtain ⟨hr, f1, f2, f3, f4⟩ := fin (some .ret) W3 hs3 hk3
    exact ⟨_, _, hr, f1, f2, .inr ⟨rfl, _, (hIx _ _).off hi3 f3, hX, f4⟩⟩
  | exit id =>
    obtain ⟨hs3, hk3, hi3⟩ := hp3
    obtain ⟨hr, f1, f2, f3, f4⟩ := fin (some (.exit id)) W3 hs3 hk3
    exact ⟨_, _, hr, f1, f2, .inr ⟨rfl, _, (hIx _ _).off hi3 f3, hX, f4⟩⟩
  | goto t =>
    obtain ⟨hs3, hk3, hi3⟩ := hp3
    obtain ⟨hr, f1, f2, f3, f4⟩ := fin (some (.goto t)) W3 hs3 hk3
    exact ⟨_, _, hr, f1, f2, .inr ⟨rfl, _, (hIx _ _).off hi3 f3, hX, f4⟩⟩
  | panic ch => exact hp3.elim
  | outgrown => exact hp3.elim

variable {g : Operand} {Q : Exit → Act → World → Prop} {a : Act} {w : World} {gf : Nat} {lb : Array Value} {n : Nat}

/-- behind the iterator -/
theorem throughG {fn : FuncId} {d : Nat} {l : Nat} (rec : LoopState → Option Code → Loop) (hrec : rec = fun st pe => { state := st, pending := pe, fn, tmps := a.tmps, params := ps, assign, body, defers := d })
    (hit : IterG P gf lb encs Pf Fn E C) (hE : ∀ x X W l, E x X W → (∀ i, W.cell? ⟨l, i, none⟩ = none) → E x (fun k => X k ∨ k = l) W) (_hEf : ∀ x, Frames (E x)) (hps : ∀ x, (encs x).size = ps.size) (I : List α → As) (Ix : Code → List α → As) (A : List α → α → Act → As) (hI : ∀ pre, Frames (I pre)) (hIx : ∀ c pre, Frames (Ix c pre)) (hA : ∀ pre x a, Frames (A pre x a))
    (hC : ∀ pre X W, I pre X W → C X W)
    (hassign : ∀ (X : Nat → Prop) (pre : List α) (x : α) (W : World) (K : Act → World → Prop), X l → XOk X W → I pre X W → E x X W → Pf (pre ++ [x]) →
      (∀ a' W', W.heap.size ≤ W'.heap.size → Kept X W W' → A pre x a' X W' → K a' W') →
      assign.wpIn (Fence.wide.inRound l) n P (Exit.then K (fun _ _ _ => False)) { tmps := (ps.zip (encs x)).foldl (fun t (p, v) => t.setIfInBounds p v) a.tmps, defers := [] } W)
    (hbody : ∀ (X : Nat → Prop) (pre : List α) (x : α) (a' : Act) (W : World), X l → XOk X W → (∃ r, W.heap[l]? = some (.loop r)) → A pre x a' X W → Pf (pre ++ [x]) →
      body.wpIn (Fence.wide.inRound l) n P (rPost X (I (pre ++ [x])) (fun c => Ix c (pre ++ [x])) W) a' W)
    {W1 : World} (hl : W1.heap[l]? = some (.loop (rec .ready none))) (h0 : I [] (· = l) W1) (n1 : Nat) (a1 : Act) (Q1 : Exit → Act → World → Prop) (F : Fence)
    (hdone : ∀ (xs : List α) (W : World), Fn xs → I xs (· = l) W → Q1 .normal a1 W)
    (hstop : ∀ (c : Code) (pre : List α) (W : World), Ix c pre (· = l) W → c.wpIn F n P Q1 a1 W) :
    CallsIn Fence.wide n1 P gf (#[.func (.yield l) #[] #[]] ++ lb) W1 (rangePost F n P l Q1 a1) := by
  refine (hit n1 n l (fun pre X W => I pre (fun k => X k ∨ k = l) W ∧ Has l (.loop (rec .ready none)) X W)
    (fun pre X W => ∃ c, Ix c pre (fun k => X k ∨ k = l) W ∧ Has l (.loop (rec .done (some c))) X W) W1
    (fun pre => ((hI pre).within _).and (Has.frames _ _)) (fun pre => Frames.ex fun c => ((hIx c pre).within _).and (Has.frames _ _))
    (fun pre X W h => hC pre X W ((hI pre).less h.1 fun _ hk => .inl hk))
    (fun pre x X W hb h he hp => roundsG rec hrec hps I Ix A hI hIx hA hassign hbody pre x X W hb h he hE hp)
    ⟨(hI []).less h0 (fun k hk => hk.elim (fun h => h.elim) id), fun h => h, hl⟩).mono ?_
  have hex : ∀ (st : LoopState) (pe : Option Code) (W : World), Off (· = l) W (W.putObj l (.loop { rec st pe with state := .exhausted })) := fun st pe W => Off.putObj (X := (· = l)) rfl _ _
  rintro e W2 ⟨⟨v, rfl⟩, (⟨xs, hfn, hi, _, hl2⟩ | ⟨pre, c, hi, _, hl2⟩)⟩
  · have hr := run_endLoop (P := P) hl2 (by rw [hrec]; simp)
    exact ⟨none, _, by rw [hrec] at hr ⊢; exact hr, hdone xs _ hfn ((hI xs).off ((hI xs).less hi fun _ hk => .inr hk) (hex _ _ _))⟩
  · have hr := run_endLoop (P := P) hl2 (by rw [hrec]; simp)
    exact ⟨some c, _, by rw [hrec] at hr ⊢; exact hr, hstop c pre _ ((hIx c pre).off ((hIx c pre).less hi fun _ hk => .inr hk) (hex _ _ _))⟩

/-- A RANGE OVER A FUNCTION, outside of any round. -/
theorem range_outG0 (hit : IterG P gf lb encs Pf Fn E C) (hE : ∀ x X W l, E x X W → (∀ i, W.cell? ⟨l, i, none⟩ = none) → E x (fun k => X k ∨ k = l) W) (hEf : ∀ x, Frames (E x)) (hg : a.eval g = .func (.func gf) #[] lb) (eg : ∀ args w, (callFunc gf args).run P w = .ok (.enter gf args) w) (hps : ∀ x, (encs x).size = ps.size)
    (I : List α → As) (Ix : Code → List α → As) (A : List α → α → Act → As) (hI : ∀ pre, Frames (I pre)) (hIx : ∀ c pre, Frames (Ix c pre)) (hA : ∀ pre x a, Frames (A pre x a))
    (hC : ∀ pre X W, I pre X W → C X W) (h0 : I [] no w)
    (hassign : ∀ (l : Nat) (X : Nat → Prop) (pre : List α) (x : α) (W : World) (K : Act → World → Prop), X l → XOk X W → I pre X W → E x X W → Pf (pre ++ [x]) →
      (∀ a' W', W.heap.size ≤ W'.heap.size → Kept X W W' → A pre x a' X W' → K a' W') →
      assign.wpIn (Fence.wide.inRound l) n P (Exit.then K (fun _ _ _ => False)) { tmps := (ps.zip (encs x)).foldl (fun t (p, v) => t.setIfInBounds p v) a.tmps, defers := [] } W)
    (hbody : ∀ (l : Nat) (X : Nat → Prop) (pre : List α) (x : α) (a' : Act) (W : World), X l → XOk X W → (∃ r, W.heap[l]? = some (.loop r)) → A pre x a' X W → Pf (pre ++ [x]) →
      body.wpIn (Fence.wide.inRound l) n P (rPost X (I (pre ++ [x])) (fun c => Ix c (pre ++ [x])) W) a' W)
    (hdone : ∀ (D : Nat) (xs : List α) (W : World), Fn xs → I xs (· = D) W → W.heap[D]? = some (.deferred (some [])) → Q .normal { a with defers := { target := .collected D, args := #[] } :: a.defers } W)
    (hstop : ∀ (D : Nat) (c : Code) (pre : List α) (W : World), Ix c pre (· = D) W → W.heap[D]? = some (.deferred (some [])) → c.wpIn Fence.wide n P Q { a with defers := { target := .collected D, args := #[] } :: a.defers } W) :
    (Code.rangeFunc g ps assign body).wpIn Fence.wide n P Q a w := by
  refine wpIn_rangeFunc ?_
  intro fn _
  show ∃ (l : Nat) (mark : List Deferred) (w₁ : World) (d : Deferred) (w₁' : World) (f : FuncId) (args : Array Value) (w₂ : World), (Instr.enterLoop fn a.tmps ps assign body none).run P w = .ok (l, mark) w₁ ∧ _
  obtain ⟨rec, hrec⟩ : ∃ rec : LoopState → Option Code → Loop, rec = fun st pe => { state := st, pending := pe, fn, tmps := a.tmps, params := ps, assign, body, defers := w.heap.size } := ⟨_, rfl⟩
  obtain ⟨W1, hW1⟩ : ∃ W1, (w.alloc (.deferred (some []))).alloc (.loop (rec .ready none)) = W1 := ⟨_, rfl⟩
  have hL1 : W1.heap[w.heap.size + 1]? = some (.loop (rec .ready none)) := by
    rw [← hW1]; have := World.alloc_heap_new (w.alloc (.deferred (some []))) (.loop (rec .ready none)); rwa [World.size_alloc] at this
  have hD1 : W1.heap[w.heap.size]? = some (.deferred (some [])) := by
    rw [← hW1]; exact (Below.heap_alloc _ _ _ (by simp)).trans (World.alloc_heap_new w _)
  have hI1 : I [] (fun k => k = w.heap.size + 1 ∨ k = w.heap.size) W1 := by
    refine (hI []).more h0 (W' := W1) ?_ (fun k hk => .inr (by omega))
    rw [← hW1]; exact (Off.alloc _ _ _).trans (Off.alloc _ _ _)
  refine ⟨w.heap.size + 1, [{ target := .collected w.heap.size, args := #[] }], W1, { target := .fn (.func gf) lb, args := #[.func (.yield (w.heap.size + 1)) #[] #[]] }, W1, gf,
    #[.func (.yield (w.heap.size + 1)) #[] #[]] ++ lb, W1, ?_, ?_, fun _ _ => trivial, ?_, fun h => by simp [Fence.wide] at h, ?_⟩
  · rw [← hW1, hrec]; exact run_enterLoop_outer _ _ _ _ _
  · simp only [resolve, hg]
    simp [go_sem]
  · simp [invoke, go_sem, eg]
  · exact throughG rec hrec hit hE hEf hps (fun pre X W => I pre (fun k => X k ∨ k = w.heap.size) W ∧ Has w.heap.size (.deferred (some [])) X W)
      (fun c pre X W => Ix c pre (fun k => X k ∨ k = w.heap.size) W ∧ Has w.heap.size (.deferred (some [])) X W)
      (fun pre x a' X W => A pre x a' (fun k => X k ∨ k = w.heap.size) W ∧ Has w.heap.size (.deferred (some [])) X W)
      (fun pre => ((hI pre).within _).and (Has.frames _ _)) (fun c pre => ((hIx c pre).within _).and (Has.frames _ _)) (fun pre x a' => ((hA pre x a').within _).and (Has.frames _ _))
      (fun pre X W h => hC pre X W ((hI pre).less h.1 fun _ hk => .inl hk))
      (fun X pre x W K hl hb hi he hp hK => hassign _ (fun k => X k ∨ k = w.heap.size) pre x W K (.inl hl) (fun k hk => hk.elim (hb k) (fun e => ⟨_, e ▸ hi.2.2, rfl⟩)) hi.1 (hE _ _ _ _ he (fun i => by simp [World.cell?, hi.2.2])) hp fun a' W' hs hk ha =>
        hK a' W' hs (hk.mono fun _ h => .inl h) ⟨ha, hi.2.1, (hk _ (.inr rfl) (Has.lt hi.2)).trans hi.2.2⟩)
      (fun X pre x a' W hl hb hr ha hp => wpIn_mono (hbody _ (fun k => X k ∨ k = w.heap.size) pre x a' W (.inl hl) (fun k hk => hk.elim (hb k) (fun e => ⟨_, e ▸ ha.2.2, rfl⟩)) hr ha.1 hp) (by
        have hh : ∀ W3 : World, W.heap.size ≤ W3.heap.size → Kept (fun k => X k ∨ k = w.heap.size) W W3 → Has w.heap.size (.deferred (some [])) X W3 := fun W3 hs hk => ⟨ha.2.1, (hk _ (.inr rfl) (Has.lt ha.2)).trans ha.2.2⟩
        rintro e a3 W3 h3
        cases e with
        | normal => exact ⟨h3.1, h3.2.1.mono fun _ h => .inl h, h3.2.2, hh W3 h3.1 h3.2.1⟩
        | ret => exact ⟨h3.1, h3.2.1.mono fun _ h => .inl h, h3.2.2, hh W3 h3.1 h3.2.1⟩
        | exit id => exact ⟨h3.1, h3.2.1.mono fun _ h => .inl h, h3.2.2, hh W3 h3.1 h3.2.1⟩
        | goto t => exact ⟨h3.1, h3.2.1.mono fun _ h => .inl h, h3.2.2, hh W3 h3.1 h3.2.1⟩
        | panic ch => exact h3.elim
        | outgrown => exact h3.elim))
      hL1 ⟨hI1, by simp, hD1⟩ _ _ Q Fence.wide
      (fun xs W hf h => hdone _ xs W hf ((hI xs).less h.1 fun _ hk => .inr hk) h.2.2)
      (fun c pre W h => hstop _ c pre W ((hIx c pre).less h.1 fun _ hk => .inr hk) h.2.2)

/-- A range over a function that may be left by a break: what lies behind it is walked once. -/
theorem range_postG0 (hit : IterG P gf lb encs Pf Fn E C) (hE : ∀ x X W l, E x X W → (∀ i, W.cell? ⟨l, i, none⟩ = none) → E x (fun k => X k ∨ k = l) W) (hEf : ∀ x, Frames (E x)) (hg : a.eval g = .func (.func gf) #[] lb) (eg : ∀ args w, (callFunc gf args).run P w = .ok (.enter gf args) w) (hps : ∀ x, (encs x).size = ps.size)
    (I : List α → As) (Ix : Code → List α → As) (A : List α → α → Act → As) (hI : ∀ pre, Frames (I pre)) (hIx : ∀ c pre, Frames (Ix c pre)) (hA : ∀ pre x a, Frames (A pre x a))
    (hC : ∀ pre X W, I pre X W → C X W) (h0 : I [] no w) (id : Nat) (hQ : ∀ a w, Q .normal a w → Q (.exit id) a w) (Post : Nat → World → Prop)
    (hdone : ∀ (D : Nat) (xs : List α) (W : World), Fn xs → I xs (· = D) W → W.heap[D]? = some (.deferred (some [])) → Post D W)
    (hstop : ∀ (D : Nat) (c : Code) (pre : List α) (W : World), Ix c pre (· = D) W → W.heap[D]? = some (.deferred (some [])) → c = .exit id ∧ Post D W)
    (hassign : ∀ (l : Nat) (X : Nat → Prop) (pre : List α) (x : α) (W : World) (K : Act → World → Prop), X l → XOk X W → I pre X W → E x X W → Pf (pre ++ [x]) →
      (∀ a' W', W.heap.size ≤ W'.heap.size → Kept X W W' → A pre x a' X W' → K a' W') →
      assign.wpIn (Fence.wide.inRound l) n P (Exit.then K (fun _ _ _ => False)) { tmps := (ps.zip (encs x)).foldl (fun t (p, v) => t.setIfInBounds p v) a.tmps, defers := [] } W)
    (hbody : ∀ (l : Nat) (X : Nat → Prop) (pre : List α) (x : α) (a' : Act) (W : World), X l → XOk X W → (∃ r, W.heap[l]? = some (.loop r)) → A pre x a' X W → Pf (pre ++ [x]) →
      body.wpIn (Fence.wide.inRound l) n P (rPost X (I (pre ++ [x])) (fun c => Ix c (pre ++ [x])) W) a' W)
    (tail : ∀ (D : Nat) (W : World), Post D W → Q .normal { a with defers := { target := .collected D, args := #[] } :: a.defers } W) :
    (Code.rangeFunc g ps assign body).wpIn Fence.wide n P Q a w :=
  range_outG0 hit hE hEf hg eg hps I Ix A hI hIx hA hC h0 hassign hbody (fun D xs W hf hi hD => tail D W (hdone D xs W hf hi hD))
    (fun D c pre W hi hD => by
      obtain ⟨rfl, hP⟩ := hstop D c pre W hi hD
      exact wpIn_exit (hQ _ _ (tail D W hP)))

/-- the same; a round's frame is made out of the range's -/
theorem range_outG {β : Type} (hit : IterG P gf lb encs Pf Fn E C) (hE : ∀ x X W l, E x X W → (∀ i, W.cell? ⟨l, i, none⟩ = none) → E x (fun k => X k ∨ k = l) W) (hEf : ∀ x, Frames (E x)) (hg : a.eval g = .func (.func gf) #[] lb) (eg : ∀ args w, (callFunc gf args).run P w = .ok (.enter gf args) w) (hps : ∀ x, (encs x).size = ps.size)
    (Fr : Array Value → α → β → Act) (I : List α → As) (Ix : Code → List α → As) (B : List α → α → β → As) (hI : ∀ pre, Frames (I pre)) (hIx : ∀ c pre, Frames (Ix c pre)) (hB : ∀ pre x b, Frames (B pre x b))
    (hC : ∀ pre X W, I pre X W → C X W) (h0 : I [] no w)
    (hassign : ∀ (l : Nat) (X : Nat → Prop) (pre : List α) (x : α) (W : World) (K : Act → World → Prop), X l → XOk X W → I pre X W → E x X W → Pf (pre ++ [x]) →
      (∀ b W', W.heap.size ≤ W'.heap.size → Kept X W W' → B pre x b X W' → K (Fr a.tmps x b) W') →
      assign.wpIn (Fence.wide.inRound l) n P (Exit.then K (fun _ _ _ => False)) { tmps := (ps.zip (encs x)).foldl (fun t (p, v) => t.setIfInBounds p v) a.tmps, defers := [] } W)
    (hbody : ∀ (l : Nat) (X : Nat → Prop) (pre : List α) (x : α) (b : β) (W : World), X l → XOk X W → (∃ r, W.heap[l]? = some (.loop r)) → B pre x b X W → Pf (pre ++ [x]) →
      body.wpIn (Fence.wide.inRound l) n P (rPost X (I (pre ++ [x])) (fun c => Ix c (pre ++ [x])) W) (Fr a.tmps x b) W)
    (hdone : ∀ (D : Nat) (xs : List α) (W : World), Fn xs → I xs (· = D) W → W.heap[D]? = some (.deferred (some [])) → Q .normal { a with defers := { target := .collected D, args := #[] } :: a.defers } W)
    (hstop : ∀ (D : Nat) (c : Code) (pre : List α) (W : World), Ix c pre (· = D) W → W.heap[D]? = some (.deferred (some [])) → c.wpIn Fence.wide n P Q { a with defers := { target := .collected D, args := #[] } :: a.defers } W) :
    (Code.rangeFunc g ps assign body).wpIn Fence.wide n P Q a w :=
  range_outG0 hit hE hEf hg eg hps I Ix (fun pre x a' X W => ∃ b, B pre x b X W ∧ a' = Fr a.tmps x b) hI hIx (fun pre x a' => Frames.ex fun b => (hB pre x b).and (Frames.pure _)) hC h0
    (fun l X pre x W K hl hX hi he hp hK => hassign l X pre x W K hl hX hi he hp fun b W' h1 h2 h3 => hK _ W' h1 h2 ⟨b, h3, rfl⟩)
    (fun l X pre x a' W hl hX hr ⟨b, hb, ha⟩ hp => by subst ha; exact hbody l X pre x b W hl hX hr hb hp) hdone hstop

/-- the same, where it may be left by a break: what lies behind it is walked once -/
theorem range_postG {β : Type} (hit : IterG P gf lb encs Pf Fn E C) (hE : ∀ x X W l, E x X W → (∀ i, W.cell? ⟨l, i, none⟩ = none) → E x (fun k => X k ∨ k = l) W) (hEf : ∀ x, Frames (E x)) (hg : a.eval g = .func (.func gf) #[] lb) (eg : ∀ args w, (callFunc gf args).run P w = .ok (.enter gf args) w) (hps : ∀ x, (encs x).size = ps.size)
    (Fr : Array Value → α → β → Act) (I : List α → As) (Ix : Code → List α → As) (B : List α → α → β → As) (hI : ∀ pre, Frames (I pre)) (hIx : ∀ c pre, Frames (Ix c pre)) (hB : ∀ pre x b, Frames (B pre x b))
    (hC : ∀ pre X W, I pre X W → C X W) (h0 : I [] no w) (id : Nat) (hQ : ∀ a w, Q .normal a w → Q (.exit id) a w) (Post : Nat → World → Prop)
    (hdone : ∀ (D : Nat) (xs : List α) (W : World), Fn xs → I xs (· = D) W → W.heap[D]? = some (.deferred (some [])) → Post D W)
    (hstop : ∀ (D : Nat) (c : Code) (pre : List α) (W : World), Ix c pre (· = D) W → W.heap[D]? = some (.deferred (some [])) → c = .exit id ∧ Post D W)
    (hassign : ∀ (l : Nat) (X : Nat → Prop) (pre : List α) (x : α) (W : World) (K : Act → World → Prop), X l → XOk X W → I pre X W → E x X W → Pf (pre ++ [x]) →
      (∀ b W', W.heap.size ≤ W'.heap.size → Kept X W W' → B pre x b X W' → K (Fr a.tmps x b) W') →
      assign.wpIn (Fence.wide.inRound l) n P (Exit.then K (fun _ _ _ => False)) { tmps := (ps.zip (encs x)).foldl (fun t (p, v) => t.setIfInBounds p v) a.tmps, defers := [] } W)
    (hbody : ∀ (l : Nat) (X : Nat → Prop) (pre : List α) (x : α) (b : β) (W : World), X l → XOk X W → (∃ r, W.heap[l]? = some (.loop r)) → B pre x b X W → Pf (pre ++ [x]) →
      body.wpIn (Fence.wide.inRound l) n P (rPost X (I (pre ++ [x])) (fun c => Ix c (pre ++ [x])) W) (Fr a.tmps x b) W)
    (tail : ∀ (D : Nat) (W : World), Post D W → Q .normal { a with defers := { target := .collected D, args := #[] } :: a.defers } W) :
    (Code.rangeFunc g ps assign body).wpIn Fence.wide n P Q a w :=
  range_outG hit hE hEf hg eg hps Fr I Ix B hI hIx hB hC h0 hassign hbody (fun D xs W hf hi hD => tail D W (hdone D xs W hf hi hD))
    (fun D c pre W hi hD => by
      obtain ⟨rfl, hP⟩ := hstop D c pre W hi hD
      exact wpIn_exit (hQ _ _ (tail D W hP)))
end
end Go.Proofs.YtfmlcddakfbleaaGreatDoor
