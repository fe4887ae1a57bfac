/- The law DeclKeeps, walked. -/
import Derived.Test.YtfmlcddakfbleaaGreatDoorMzDeD
import Derived.Test.YtfmlcddakfbleaaGreatDoorMzDeE
import Derived.Test.YtfmlcddakfbleaaGreatDoorTreeStands
import Derived.Test.YtfmlcddakfbleaaGreatDoorTreeSame
import Derived.Test.YtfmlcddakfbleaaGreatDoorMzColl
import Derived.Test.YtfmlcddakfbleaaGreatDoorTreeBK
namespace Go.Proofs.YtfmlcddakfbleaaGreatDoor
open Go.RowKit Go.Shelf SignMath TreeMath
open Dc

attribute [local go_sem] Oper.semAt_some

theorem BK.put_ {w W : World} {bs : List (Nat × Obj)} {ts : List Tr} {t : TypeId} (h : BK w bs ts t [] W) {b : Nat} {o : Obj} (hb : W.heap[b]? = some o) : BK w ((b, o) :: bs) ts t [] W :=
  ⟨h.low, fun q hq => by
    rcases List.mem_cons.1 hq with rfl | hq
    · exact hb
    · exact h.has q hq, h.tn, h.zb, fun q _ => by simp, h.nd⟩
abbrev sbz (s : ByteArray) : Obj := .cells #[.string s] 9 (0, 0)
theorem tbb_app (a b : List Tr) : tbb (a ++ b) = tbb a ++ tbb b := by
  induction a with
  | nil => show tbb b = .empty ++ tbb b; rw [ByteArray.empty_append]
  | cons x r ih => show (x.t ++ b32) ++ tbb (r ++ b) = ((x.t ++ b32) ++ tbb r) ++ tbb b; rw [ih]; simp only [ByteArray.append_assoc]
theorem tbb_pre {l m : List Tr} (h : l <+: m) : (tbb l).size ≤ (tbb m).size := by
  obtain ⟨q, rfl⟩ := h
  rw [tbb_app, ByteArray.size_append]
  omega
set_option maxRecDepth 100000 in
set_option maxHeartbeats 8000000 in
theorem keeps_early (s : ByteArray) (w : World) (hL : LaidX w) (h : 1500 < s.size ∨ fok s = false) : Calls Tryz.prog 5 #[.string s] w fun e w' => e = .returned (.bool true) ∧ Below w.heap.size w w' := by
  have HL := Lib.hid hL
  have HA := Lib.hid (declAlive_any w hL)
  clear hL
  by_cases h4 : 1500 < s.size
  · have z1 : (1500 : Int) < (s.size : Nat) := by omega
    clear h4 h
    go_enter Tryz.func5, Tryz.ntmps5
    go_wp2_with fail
    refine HA.out.mono ?_
    rintro e w1 ⟨rfl, hb1⟩
    have HB1 := Lib.hid hb1
    clear hb1
    go_wp2
    go_ret
    exact ⟨rfl, HB1.out⟩
  · have z1 : ¬ (1500 : Int) < (s.size : Nat) := by omega
    have hok := h.resolve_left h4
    have HRD := Lib.hid (fun W (h : LaidX W) => fread_any s W h)
    rw [hok] at HRD
    clear h4 h hok
    go_enter Tryz.func5, Tryz.ntmps5
    go_wp2_with fail
    refine HA.out.mono ?_
    rintro e w1 ⟨rfl, hb1⟩
    have HB1 := Lib.hid hb1
    have HC := Lib.hid (HRD.out w1 (HL.out.below hb1))
    clear hb1 HRD HL
    go_wp2_with fail
    refine HC.out.mono ?_
    rintro e w2 ⟨hb2, p, k, rfl⟩
    have hB2 := HB1.out.trans (hb2.mono HB1.out.size)
    have hz := heap_alloc_new w2 zb6
    have hs := set6p_self hz zn1 ⟨#[]⟩
    have HB3 := Lib.hid (below_set6p (hB2.trans ((below1 w2 zb6).mono hB2.size)) hB2.size zn1 ⟨#[]⟩)
    clear hb2 hB2 HC
    unfold errn
    go_wp2_with (with_reducible refine stay_store 47 (.tmp 3) (.tmp 18) (by rfl) ?_)
    refine Stay.mk ?_
    refine wpList_store_parsed (by rfl) 47 (.tmp 3) (.tmp 18) (by rfl) size_parsed (w2.heap.size) zn1 ⟨#[]⟩ (by rfl) (by rfl) hz ?_
    generalize set6p (w2.alloc zb6) w2.heap.size zn1 ⟨#[]⟩ = w3 at hs HB3 ⊢
    obtain ⟨t0, t1, t2, t3, t4, t5⟩ := heap6p hs
    clear hz hs
    go_wp2
    go_ret
    exact ⟨rfl, HB3.out⟩

def BpI (w5 : World) (sB b : Nat) (A : Option Addr) (n c : Nat) (l : List Tr) (pre : List Tr) : As := fun X W => Low sB w5 X W ∧ Has sB (sbz (tbb pre)) X W ∧ TkA A l sB X W ∧ Has b (slb A n c) X W
theorem BpI.frames (w5 : World) (sB b : Nat) (A : Option Addr) (n c : Nat) (l : List Tr) (pre : List Tr) : Frames (BpI w5 sB b A n c l pre) := (Low.frames _ _).and ((Has.frames _ _).and ((TkA.frames _ _ _).and (Has.frames _ _)))

set_option maxRecDepth 100000 in
set_option maxHeartbeats 8000000 in
theorem keeps_in (s : ByteArray) (hs : s.size ≤ 1500) (hok : fok s = true) (w : World) (hL : LaidX w) :
    CallsIn Fence.wide 8 Tryz.prog 5 #[.string s] w fun e w' => e = .returned (.bool true) ∧ Below w.heap.size w w' := by
  have z1 : ¬ (1500 : Int) < (s.size : Nat) := by omega
  have HL := Lib.hid hL
  have HA := Lib.hid (declAlive_any w hL)
  have HRD := Lib.hid (fun W (h : LaidX W) => fread_any s W h)
  have HRB := Lib.hid (fun W (h : LaidX W) => fread_any (blk s) W h)
  obtain ⟨b1, b3⟩ := fok_blk hok hs
  have HF : Hid (∀ T U, pl T = ftr s → pl U = ftr (blk s) → (cg stp T ()).1 = (cg stp U ()).1) := Lib.hid fun T U h1 h2 => f_same hok hs h1 h2
  have HT : Hid (∀ T, pl T = ftr s → rgt T = true ∧ wt T ≤ 9000 ∧ stb 0 (TreeMath.lf T) = true ∧ tx (TreeMath.lf T) ++ ftl s = s ∧ tbb (TreeMath.lf T) = blk s) := Lib.hid fun T h1 => f_facts hok h1
  have HU : Hid (∀ U, pl U = ftr (blk s) → rgt U = true ∧ wt U ≤ 9000) := Lib.hid fun U h => ⟨(f_facts b1 h).1, (f_facts b1 h).2.1⟩
  have hbz := blk_size s
  rw [hok] at HRD
  rw [b1] at HRB
  generalize blk s = Y at HRB HF HT HU hbz
  generalize ftr Y = PY at HRB HF HU
  generalize ftr s = PS at HRD HF HT
  generalize ftl s = tl at HRD HT
  generalize ftl Y = tlY at HRB
  have HYZ : Hid (Y.size ≤ 3000) := Lib.hid (by omega)
  have HSZ := Lib.hid hs
  clear b1 b3 hbz hL hok hs
  refine callsIn_of_wp_marks Tryz.func5 rfl trivial ?_ rfl
  simp only [Tryz.ntmps5, List.size_toArray, List.length_cons, List.length_nil, Nat.reduceAdd, Nat.reduceSub, Array.replicate_succ, Array.replicate_zero, List.push_toArray, List.append_toArray, List.nil_append, List.cons_append]
  refine wpIn_wide.2 ?_
  go_wp2_with fail
  refine HA.out.mono ?_
  rintro e w1 ⟨rfl, hb1⟩
  have HB1 := Lib.hid hb1
  have HC := Lib.hid (HRD.out w1 (HL.out.below hb1))
  clear hb1 HRD
  go_wp2_with fail
  refine HC.out.mono ?_
  rintro e w2 ⟨hb2, T, rfl, hpT, hTn⟩
  obtain ⟨rT, wT, sT, xT, lT⟩ := HT.out T hpT
  have hB2 := HB1.out.trans (hb2.mono HB1.out.size)
  have hz := heap_alloc_new w2 zb6
  have hb3 := below_set6p (below1 w2 zb6) (Nat.le_refl _) T tl
  have hs3 := set6p_self hz T tl
  have hk3 := ((((BK.begin w).step hB2).more (t := 30) (T := T) (hTn.keep (fun _ _ _ => rfl) fun _ hk => hk.2) rfl).step hb3).put_ hs3
  have hxw : w.heap.size ≤ w2.heap.size := hB2.size
  have htl : tl.size ≤ 1500 := by have := congrArg ByteArray.size xT; rw [ByteArray.size_append] at this; have := HSZ.out; omega
  have CST : Hid (∀ W, Tn (lo W.heap.size) W T → Calls Tryz.prog 9 #[nv T, .int .i64 0] W fun e w' => e = .returned (.bool true) ∧ Below W.heap.size W w') := Lib.hid fun W h => by
    have := stands_any T 0 W h wT
    rw [rT, sT] at this
    exact this
  have CTX : Hid (∀ W, Tn (lo W.heap.size) W T → Calls Tryz.prog 17 #[pvl T tl] W fun e w' => e = .returned (.string s) ∧ Below W.heap.size W w') := Lib.hid fun W h => by
    have := dtext_any T tl W h wT (by omega)
    rw [if_pos rT, xT] at this
    exact this
  have CLV : Hid (∀ W : World, Tn (lo W.heap.size) W T → Calls Tryz.prog 19 #[nv T] W (LvsV T W)) := Lib.hid fun W h => leavesAll_any T W wT h
  have hlv : lvs T = TreeMath.lf T := if_pos rT
  have hll := lvs_len wT
  unfold LvsV at CLV
  rw [hlv] at CLV hll
  obtain ⟨L, hLL⟩ : ∃ L, TreeMath.lf T = L := ⟨_, rfl⟩
  rw [hLL] at CLV hll lT
  have HLT := Lib.hid lT
  have CSX : Hid (∀ W : World, Tn (lo W.heap.size) W T → Calls Tryz.prog 21 #[nv T] W (CpV (cg stp T ()).1 W)) := Lib.hid fun W h => strip_any T W rT wT h
  have HPT := Lib.hid (And.intro hpT (And.intro rT wT))
  have hss : (s.toList == s.toList) = true := by simp
  clear hb2 hTn rT wT sT xT lT hlv hLL hpT hB2 hb3 htl HC HT
  go_wp2_with (with_reducible refine stay_store 47 (.tmp 3) (.tmp 18) (by rfl) ?_)
  refine Stay.mk ?_
  refine wpList_store_parsed (by rfl) 47 (.tmp 3) (.tmp 18) (by rfl) size_parsed (w2.heap.size) T tl (by rfl) (by rfl) hz ?_
  generalize set6p (w2.alloc zb6) w2.heap.size T tl = w3 at hk3 hs3 ⊢
  generalize w2.heap.size = x at hk3 hs3 hxw ⊢
  have HXW := Lib.hid hxw
  clear hz w2 hxw
  obtain ⟨t0, t1, t2, t3, t4, t5⟩ := heap6p hs3
  have HS := Lib.hid (CST.out w3 (hk3.tree (T := T) (by simp)))
  clear hs3 CST
  go_wp2_with fail
  refine HS.out.mono ?_
  rintro e w4 ⟨rfl, hb4⟩
  have hk4 := hk3.step hb4
  clear t0 t1 t2 t3 t4 t5 hk3 hb4 HS
  obtain ⟨t0, t1, t2, t3, t4, t5⟩ := heap6p (hk4.has (x, pbx T tl) (by simp))
  have HX := Lib.hid (CTX.out w4 (hk4.tree (T := T) (by simp)))
  clear CTX
  go_wp2_with fail
  refine HX.out.mono ?_
  rintro e w5 ⟨rfl, hb5⟩
  have hk5 := hk4.step hb5
  clear t0 t1 t2 t3 t4 t5 hk4 hb5 HX
  have hk6 := hk5.alloc (sbz ⟨#[]⟩)
  obtain ⟨t0, t1, t2, t3, t4, t5⟩ := heap6p (hk6.has (x, pbx T tl) (by simp))
  have CL := Lib.hid (CLV.out _ (hk6.tree (T := T) (by simp)))
  clear CLV
  go_wp2_with fail
  refine CL.out.mono ?_
  rintro e w6 ⟨b, A, c, rfl, hsl, hnb, hTk, hb6⟩
  have hbx6 : w6.heap[w5.heap.size]? = some (sbz ⟨#[]⟩) := (hb6.block _ (by simp)).trans (heap_alloc_new w5 (sbz ⟨#[]⟩))
  have hlow6 : Below w5.heap.size w5 w6 := (below1 w5 _).trans (hb6.mono (by simp))
  have hnb' : w5.heap.size + 1 ≤ b := by rw [World.size_alloc] at hnb; exact hnb
  have hTk' : TkA A (L.map tok) w5.heap.size no w6 := Tks.keep hTk (fun _ _ _ => rfl) fun k hk => ⟨fun h => h, hk.2, by have h1 := hk.1; rw [World.size_alloc] at h1; omega⟩
  have hI0 : BpI w5 w5.heap.size b A L.length c (L.map tok) [] no w6 := ⟨⟨hlow6, hlow6.size, fun _ h => h.elim⟩, ⟨fun h => h, hbx6⟩, hTk', ⟨fun h => h, hsl⟩⟩
  have HK5 := Lib.hid hk5
  have HNB := Lib.hid hnb'
  have HWW : Hid (w.heap.size ≤ w5.heap.size) := Lib.hid hk5.size
  clear hk6 t0 t1 t2 t3 t4 t5 CL hTk hTk' hb6 hk5 hlow6 hbx6 hsl hnb hnb'
  go_wp2_with fail
  refine (wpIn_wide (n := 8)).1 ?_
  refine range_outG (values_iter L b A c (by omega)).g gT (fun _ => Frames.pure _) rfl eg_values (fun _ => rfl)
    (fun (t : Array Value) (x : Tr) (bp : Nat) => { tmps := (t.setIfInBounds 45 (nv (tok x))).setIfInBounds 7 (.pointer (some ⟨bp, 0, none⟩)), defers := [] })
    (BpI w5 w5.heap.size b A L.length c (L.map tok)) (fun _ _ _ _ => False) (fun pre x bp X W => BpI w5 w5.heap.size b A L.length c (L.map tok) pre X W ∧ Has bp (tbx x) X W ∧ bp ≠ w5.heap.size) ?fI ?fX ?fA ?hC ?h0 ?assign ?body ?done ?stop
  case fI => exact fun pre => BpI.frames _ _ _ _ _ _ _ _
  case fX => exact fun c pre => Frames.pure _
  case fA => exact fun pre x bp => (BpI.frames _ _ _ _ _ _ _ _).and ((Has.frames _ _).and (Frames.pure _))
  case hC => exact fun pre X W1 h => ⟨⟨_, h.2.2.1⟩, h.2.2.2⟩
  case h0 => exact hI0
  case stop =>
    rintro D c pre W1 h hD
    exact h.elim
  case assign =>
    rintro lq X' pre x W1 K hX hXb hi - hp hK
    have hb1 := hK W1.heap.size (W1.alloc (tbx x)) (by simp) (Kept.alloc _ _ _) ⟨(BpI.frames _ _ _ _ _ _ _ _).off hi (Off.alloc _ _ _), Has.new hXb _, by have := hi.2.1.lt; omega⟩
    clear hK hI0
    gi_wp2
    simpa only [List.setIfInBounds_toArray, List.set_cons_zero, List.set_cons_succ] using hb1
  case body =>
    rintro lq X' pre x bp W1 hX hXb hr2 ⟨⟨hlow, hs, htk, hsl1⟩, hbp, hne⟩ hp
    have p2 : W1.cell? ⟨bp, 2, none⟩ = some (.string x.t) := hbp.cell (i := 2)
    have q0 := hs.cell (i := 0)
    have f0 := hs.frozen (i := 0)
    simp only [List.getElem?_toArray, List.getElem?_cons_zero] at q0
    have he : tbb (pre ++ [x]) = tbb pre ++ (x.t ++ ⟨#[32]⟩) := tbb_snoc pre x
    have HE := Lib.hid he
    have hle := tbb_pre hp
    rw [HLT.out] at hle
    have hY2 := HYZ.out
    rw [he] at hle
    simp only [ByteArray.size_append] at hle
    have ha1 : ∀ W, Sem.run Tryz.prog (Op.stringOp .add x.t ⟨#[32]⟩) W = .ok (.string (x.t ++ ⟨#[32]⟩)) W := fun W => run_string_add_sum _ _ _ (by omega)
    have ha2 : ∀ W, Sem.run Tryz.prog (Op.stringOp .add (tbb pre) (x.t ++ ⟨#[32]⟩)) W = .ok (.string (tbb pre ++ (x.t ++ ⟨#[32]⟩))) W := fun W => run_string_add_sum _ _ _ (by rw [ByteArray.size_append]; omega)
    have hnb2 : b ≠ w5.heap.size := by have := HNB.out; omega
    clear hI0 he hp hr2 hle hY2
    simp only [List.setIfInBounds_toArray, List.set_cons_zero, List.set_cons_succ]
    gi_wp2
    refine ⟨by rw [size_set]; exact Nat.le_refl _, Kept.set hs.1 _ _, ?_⟩
    unfold BpI
    rw [HE.out]
    exact ⟨hlow.set (p := ⟨w5.heap.size, 0, none⟩) (Nat.le_refl _) _, hs.set, Tks.keep htk (fun k i hk => cell_of (Below.heap_setCell _ _ _ _ hk.2.2)) (fun k hk => ⟨hk.1, by rw [size_set]; exact hk.2.1, hk.2.2⟩), hsl1.other hnb2⟩
  case done =>
    rintro D xs W1 hxs ⟨hlow, hs, -, -⟩ hD
    rw [hxs, HLT.out] at hs
    have hk7 := ((HK5.out.step hlow.1).put_ hs.2).put_ hD
    have hDs := hlow.2.2 D rfl
    have HC := Lib.hid (HRB.out W1 (HL.out.below hk7.low))
    have q0 := cell_heap hs.2 (i := 0)
    simp only [List.getElem?_toArray, List.getElem?_cons_zero] at q0
    clear hlow hs hD hI0 HRB HL
    go_wp2_with fail
    refine HC.out.mono ?_
    rintro e w8 ⟨hb8, U, rfl, hpU, hTU⟩
    have hz := heap_alloc_new w8 zb6
    have hs9 := set6p_self hz U tlY
    have hk8 := (((hk7.call hb8 hTU).step (below_set6p (below1 w8 zb6) (Nat.le_refl _) U tlY)).put_ hs9).drew
    obtain ⟨rU, wU⟩ := HU.out U hpU
    have CSU : Hid (∀ W : World, Tn (lo W.heap.size) W U → Calls Tryz.prog 21 #[nv U] W (CpV (cg stp U ()).1 W)) := Lib.hid fun W h => strip_any U W rU wU h
    have CSM : Hid (∀ (P Q : Tr) (W : World), pl P = (cg stp U ()).1 → pl Q = (cg stp T ()).1 → Tn (lo W.heap.size) W P → Tn (lo W.heap.size) W Q → Calls Tryz.prog 20 #[nv P, nv Q] W fun e w' => e = .returned (.bool true) ∧ Below W.heap.size W w') := Lib.hid fun P Q W ha hb h k => by
      obtain ⟨t1, t2⟩ := stripped rU
      obtain ⟨t3, t4⟩ := stripped HPT.out.2.1
      have ea : rgt P = true := by rw [← rgt_pl, ha]; exact t1
      have eb : rgt Q = true := by rw [← rgt_pl, hb]; exact t3
      have wa : wt P ≤ 9000 := by rw [← wt_pl, ha]; exact Nat.le_trans t2 wU
      have wb : wt Q ≤ 9000 := by rw [← wt_pl, hb]; exact Nat.le_trans t4 HPT.out.2.2
      have := same_any P Q W wa wb h k
      rwa [ea, eb, (sm_iff P Q).2 (ha.trans ((HF.out T U HPT.out.1 hpU).symm.trans hb.symm))] at this
    clear hb8 hTU hk7 q0 rU wU hpU HU HF HC
    go_wp2_with (with_reducible refine stay_store 47 (.tmp 8) (.tmp 54) (by rfl) ?_)
    refine Stay.mk ?_
    refine wpList_store_parsed (by rfl) 47 (.tmp 8) (.tmp 54) (by rfl) size_parsed (w8.heap.size) U tlY (by rfl) (by rfl) hz ?_
    generalize hw9 : set6p (w8.alloc zb6) w8.heap.size U tlY = w9 at hk8 ⊢
    generalize w8.heap.size = y at hk8 ⊢
    clear hz hs9 hw9 w8
    go_wp2
    rename_i K0 hK0
    refine wp_region_noPanic (wp_region_held (S := fun W' : World => W'.heap[y]? = some (pbx U tlY) ∧ W'.heap[x]? = some (pbx T tl) ∧ True) (by kernel_rfl) ?_)
    show wpAnyH _ _ _ _ _ _ _ _ w9.drew
    generalize w9.drew = w10 at hk8 ⊢
    have hS0 : w10.heap[y]? = some (pbx U tlY) ∧ w10.heap[x]? = some (pbx T tl) ∧ True := ⟨hk8.has (y, pbx U tlY) (by simp), hk8.has (x, pbx T tl) (by simp), trivial⟩
    refine wpAnyH_take_d (i := 0) (v := .nilIface) 57 rfl rfl (by kernel_rfl) (by kernel_rfl) (by kernel_rfl) (fun _ _ _ h => h) (Or.inl ⟨by kernel_rfl, fun w' hS' => ?y0⟩) hS0 ?_
    case y0 => (skip; clear hS'; go_simp)
    simp only [Act.put, List.setIfInBounds_toArray, List.set_cons_zero, List.set_cons_succ]
    refine wpAnyH_take_d (i := 1) (v := .bool true) 58 rfl rfl (by kernel_rfl) (by kernel_rfl) (by kernel_rfl) (fun _ _ _ h => h) (Or.inl ⟨by kernel_rfl, fun w' hS' => ?y1⟩) hS0 ?_
    case y1 => (skip; clear hS'; go_simp)
    simp only [Act.put, List.setIfInBounds_toArray, List.set_cons_zero, List.set_cons_succ]
    refine wpAnyH_take_d (i := 2) (v := .bool true) 59 rfl rfl (by kernel_rfl) (by kernel_rfl) (by kernel_rfl) (fun _ _ _ h => h) (Or.inl ⟨by kernel_rfl, fun w' hS' => ?y2⟩) hS0 ?_
    case y2 => (skip; clear hS'; go_simp)
    simp only [Act.put, List.setIfInBounds_toArray, List.set_cons_zero, List.set_cons_succ]
    refine wpAnyH_take_d (i := 3) (v := .pointer (some ⟨y, 0, none⟩)) 60 rfl rfl (by kernel_rfl) (by kernel_rfl) (by kernel_rfl) (fun _ _ _ h => h) (Or.inl ⟨by kernel_rfl, fun w' hS' => ?y3⟩) hS0 ?_
    case y3 => (skip; clear hS'; go_simp)
    simp only [Act.put, List.setIfInBounds_toArray, List.set_cons_zero, List.set_cons_succ]
    refine wpAnyH_take_d (i := 4) (v := nv U) 61 rfl rfl (by kernel_rfl) (by kernel_rfl) (by kernel_rfl) (fun _ _ _ h => h) (Or.inl ⟨by kernel_rfl, fun w' hS' => ?y4⟩) hS0 ?_
    case y4 => (obtain ⟨s0, s1, s2, s3, s4, s5⟩ := heap6p hS'.1; clear hS'; go_simp)
    simp only [Act.put, List.setIfInBounds_toArray, List.set_cons_zero, List.set_cons_succ]
    refine wpAnyH_take_d (i := 6) (v := .pointer (some ⟨x, 0, none⟩)) 63 rfl rfl (by kernel_rfl) (by kernel_rfl) (by kernel_rfl) (fun _ _ _ h => h) (Or.inl ⟨by kernel_rfl, fun w' hS' => ?y6⟩) hS0 ?_
    case y6 => (skip; clear hS'; go_simp)
    simp only [Act.put, List.setIfInBounds_toArray, List.set_cons_zero, List.set_cons_succ]
    refine wpAnyH_take_d (i := 7) (v := nv T) 64 rfl rfl (by kernel_rfl) (by kernel_rfl) (by kernel_rfl) (fun _ _ _ h => h) (Or.inl ⟨by kernel_rfl, fun w' hS' => ?y7⟩) hS0 ?_
    case y7 => (obtain ⟨s0, s1, s2, s3, s4, s5⟩ := heap6p hS'.2.1; clear hS'; go_simp)
    simp only [Act.put, List.setIfInBounds_toArray, List.set_cons_zero, List.set_cons_succ]
    refine wpAnyH_ready (rs := [5]) (by kernel_rfl) (by simp) ?_
    refine AllReadyH.cons rfl (fun K hK => ?_) AllReadyH.nil
    go_simp
    refine (CSU.out _ (hk8.tree (T := U) (by simp))).mono ?_
    rintro e w11 ⟨P, rfl, hpP, hTP, hbP⟩
    have hk10 := hk8.call hbP hTP
    have hS5 : w11.heap[y]? = some (pbx U tlY) ∧ w11.heap[x]? = some (pbx T tl) ∧ True := ⟨hk10.has (y, pbx U tlY) (by simp), hk10.has (x, pbx T tl) (by simp), trivial⟩
    clear hbP hTP hk8
    refine hK.out _ _ hS5 (fun _ => ?_)
    clear hK K
    try simp only [Act.put, List.setIfInBounds_toArray, List.set_cons_zero, List.set_cons_succ]
    refine wpAnyH_ready (rs := [8]) (by kernel_rfl) (by simp) ?_
    refine AllReadyH.cons rfl (fun K hK => ?_) AllReadyH.nil
    go_simp
    refine (CSX.out _ (hk10.tree (T := T) (by simp))).mono ?_
    rintro e w12 ⟨Q, rfl, hpQ, hTQ, hbQ⟩
    have hk11 := hk10.call hbQ hTQ
    have hS8 : w12.heap[y]? = some (pbx U tlY) ∧ w12.heap[x]? = some (pbx T tl) ∧ True := ⟨hk11.has (y, pbx U tlY) (by simp), hk11.has (x, pbx T tl) (by simp), trivial⟩
    clear hbQ hTQ hk10
    refine hK.out _ _ hS8 (fun _ => ?_)
    clear hK K
    try simp only [Act.put, List.setIfInBounds_toArray, List.set_cons_zero, List.set_cons_succ]
    refine wpAnyH_ready (rs := [9]) (by kernel_rfl) (by simp) ?_
    refine AllReadyH.cons rfl (fun K hK => ?_) AllReadyH.nil
    go_simp
    refine (CSM.out P Q _ hpP hpQ (hk11.tree (T := P) (by simp)) (hk11.tree (T := Q) (by simp))).mono ?_
    rintro e w13 ⟨rfl, hb⟩
    have hk12 := hk11.step hb
    have hS9 : w13.heap[y]? = some (pbx U tlY) ∧ w13.heap[x]? = some (pbx T tl) ∧ True := ⟨hk12.has (y, pbx U tlY) (by simp), hk12.has (x, pbx T tl) (by simp), trivial⟩
    clear hb hk11
    refine hK.out _ _ hS9 (fun _ => ?_)
    clear hK K
    try simp only [Act.put, List.setIfInBounds_toArray, List.set_cons_zero, List.set_cons_succ]
    refine wpAnyH_take_d (i := 10) (v := .bool true) 67 rfl rfl (by kernel_rfl) (by kernel_rfl) (by kernel_rfl) (fun _ _ _ h => h) (Or.inl ⟨by kernel_rfl, fun w' hS' => ?y10⟩) hS9 ?_
    case y10 => (skip; clear hS'; go_simp)
    simp only [Act.put, List.setIfInBounds_toArray, List.set_cons_zero, List.set_cons_succ]
    refine wpAnyH_take_d (i := 11) (v := .bool true) 2 rfl rfl (by kernel_rfl) (by kernel_rfl) (by kernel_rfl) (fun _ _ _ h => h) (Or.inl ⟨by kernel_rfl, fun w' hS' => ?y11⟩) hS9 ?_
    case y11 => (skip; clear hS'; go_simp)
    simp only [Act.put, List.setIfInBounds_toArray, List.set_cons_zero, List.set_cons_succ]
    refine wpAnyH_done (by kernel_rfl) ?_ _
    refine hK0 _ _ ?_
    go_wp2
    refine ⟨by simp, .inl ⟨_, _, rfl, run_takeDeferred (hk12.has (D, .deferred (some [])) (by simp)), ?_⟩⟩
    have r3 : Below w.heap.size w (w13.putObj D (.deferred none)) := ((Low.frames w.heap.size w).off (X := (· = D)) ⟨hk12.low, hk12.size, fun k hk => by subst hk; have := HWW.out; omega⟩ (Off.putObj (X := (· = D)) rfl _ _)).1
    exact ⟨.bool true, by simp [results, Tryz.results5, go_sem], rfl, r3⟩

theorem declKeeps_walk (s : ByteArray) (w : World) (hL : LaidX w) : Calls Tryz.prog 5 #[.string s] w fun e w' => e = .returned (.bool true) ∧ Below w.heap.size w w' := by
  by_cases h : 1500 < s.size ∨ fok s = false
  · exact keeps_early s w hL h
  · simp only [not_or, Bool.not_eq_false] at h
    exact callsIn_wide.1 (keeps_in s (by omega) h.2 w hL)
end Go.Proofs.YtfmlcddakfbleaaGreatDoor
