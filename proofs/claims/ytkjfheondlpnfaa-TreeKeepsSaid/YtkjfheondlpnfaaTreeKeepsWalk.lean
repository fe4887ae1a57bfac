/- The law TreeKeeps, walked: it returns true at any tree and any place. -/
import Derived.Test.YtkjfheondlpnfaaTreeAlive
import Derived.Test.YtkjfheondlpnfaaTreeSame
import Derived.Test.YtkjfheondlpnfaaTreeRefSame
import Derived.Test.YtkjfheondlpnfaaTreeStands
import Derived.Test.YtkjfheondlpnfaaTreeBuilder
import Derived.Test.YtkjfheondlpnfaaTreePlaceMath
import Derived.Test.YtkjfheondlpnfaaTreeSameMath
import Derived.Test.YtkjfheondlpnfaaTreeDoc
import Derived.Test.YtkjfheondlpnfaaTreeBK
import Derived.Test.YtkjfheondlpnfaaTreeColl
import Derived.Test.YtkjfheondlpnfaaTextStore
import Derived.Test.YtkjfheondlpnfaaTreeRange
import Derived.Test.YtkjfheondlpnfaaTreeCount
import Derived.Test.YtkjfheondlpnfaaTreeSpan
namespace Go.Proofs.Ytkjfheondlpnfaa
open Go.RowKit Go.Shelf TreeMath

attribute [local go_sem] Oper.semAt_some

theorem BK.add {w W : World} {bs : List (Nat × Obj)} {ts : List Tr} {t : TypeId} (h : BK w bs ts t [] W) {b : Nat} {o : Obj} (hb : W.heap[b]? = some o) : BK w ((b, o) :: bs) ts t [] W :=
  ⟨h.low, fun q hq => by
    rcases List.mem_cons.1 hq with rfl | hq
    · exact hb
    · exact h.has q hq, h.tn, h.zb, fun q _ => by simp, h.nd⟩
abbrev sbx (s : ByteArray) : Obj := .cells #[.string s] 9 (0, 0)

set_option maxRecDepth 100000 in
set_option maxHeartbeats 2000000 in
/-- a tree or a place that the law says nothing of -/
theorem keeps_early (T : Tr) (p : Int) (w : World) (hz : Szd T) (hT : Tn (lo w.heap.size) w T) (hn : 2000 < wt T ∨ rgt T = false ∨ p < 0 ∨ 2147483648 < p) :
    Calls Try.prog 6 #[nv T, .int .i64 p] w fun e w' => e = .returned (.bool true) ∧ Below w.heap.size w w' := by
  have hk0 : BK w [(w.heap.size, nbx T)] [T] 25 [] (w.alloc (nbx T)) := ((BK.begin w).more hT rfl).alloc _
  have HZ := Lib.hid hz
  have HN := Lib.hid hn
  clear hz hn hT
  go_enter Try.func6, Try.ntmps6
  go_wp2_with fail
  refine (alive_any _).mono ?_
  rintro e w1 ⟨rfl, hb⟩
  have hk1 := hk0.step hb
  clear hb hk0
  have HD := Lib.hid (doc_any T 2000 w1 (by omega) (by omega) HZ.out (hk1.tree (T := T) (by simp)))
  have c1 := heap5 (hk1.has (w.heap.size, nbx T) (by simp))
  go_wp2_with fail
  refine HD.out.mono ?_
  rintro r w2 ⟨U, l, rfl, hb2, hU, l1, l2, l3, l4⟩
  have hk2 := (hk1.step hb2).alloc (rbx U)
  have L3 := Lib.hid l3
  have L4 := Lib.hid l4
  clear hb2 hU l3 l4 HD c1
  have c2 := heap5 (hk2.has (w.heap.size, nbx T) (by simp))
  by_cases hl : l < 0
  · go_wp2_with fail
    go_ret
    exact ⟨rfl, hk2.low⟩
  · have hw : (wt T : Int) ≤ 2000 := by
      by_cases h : (wt T : Int) ≤ 2000
      · exact h
      · have := L4.out (by omega); omega
    have HR := Lib.hid (right_any T (w2.alloc (rbx U)) (hk2.tree (T := T) (by simp)) (by omega))
    have HN2 : Hid (rgt T = false ∨ p < 0 ∨ 2147483648 < p) := Lib.hid (HN.out.resolve_left (by omega))
    obtain ⟨r, hr⟩ : ∃ r, rgt T = r := ⟨_, rfl⟩
    rw [hr] at HR HN2
    clear hw hr HN L3 L4
    go_wp2_with fail
    refine HR.out.mono ?_
    rintro e w3 ⟨rfl, hb⟩
    have hk3 := hk2.step hb
    clear hb c2 HR
    cases r with
    | false =>
      go_wp2_with fail
      go_ret
      exact ⟨rfl, hk3.low⟩
    | true =>
      by_cases h0 : p < 0
      · go_wp2_with fail
        go_ret
        exact ⟨rfl, hk3.low⟩
      · have h1 : 2147483648 < p := by rcases HN2.out with h | h | h; cases h; omega; exact h
        clear HN2
        go_wp2_with fail
        go_ret
        exact ⟨rfl, hk3.low⟩

def KpI (w5 : World) (sB b : Nat) (A : Option Addr) (n c : Nat) (l : List Tr) (pre : List Tr) : As := fun X W => Low sB w5 X W ∧ Has sB (sbx (tx pre)) X W ∧ TkA A l sB X W ∧ Has b (slb A n c) X W
theorem KpI.frames (w5 : World) (sB b : Nat) (A : Option Addr) (n c : Nat) (l : List Tr) (pre : List Tr) : Frames (KpI w5 sB b A n c l pre) := (Low.frames _ _).and ((Has.frames _ _).and ((TkA.frames _ _ _).and (Has.frames _ _)))

set_option maxRecDepth 100000 in
set_option maxHeartbeats 4000000 in
theorem keeps_in (T : Tr) (p : Int) (w : World) (hz : Szd T) (hT : Tn (lo w.heap.size) w T) (hw : wt T ≤ 2000) (hr : rgt T = true) (h0 : 0 ≤ p) (h1 : p ≤ 2147483648) :
    CallsIn Fence.wide 8 Try.prog 6 #[nv T, .int .i64 p] w fun e w' => e = .returned (.bool true) ∧ Below w.heap.size w w' := by
  have hk0 : BK w [(w.heap.size, nbx T)] [T] 25 [] (w.alloc (nbx T)) := ((BK.begin w).more hT rfl).alloc _
  have hw5 : wt T ≤ 5000 := by omega
  have HD : Hid (∀ W : World, Tn (lo W.heap.size) W T → Calls Try.prog 8 #[nv T, .int .i64 2000] W (DocV T 2000 W)) := Lib.hid fun W h => doc_any T 2000 W (by omega) (by omega) hz h
  have CR : Hid (∀ W : World, Tn (lo W.heap.size) W T → Calls Try.prog 11 #[nv T] W fun e w' => e = .returned (.bool true) ∧ Below W.heap.size W w') := Lib.hid fun W h => by have := right_any T W h hw5; rwa [hr] at this
  have CPL : Hid (∀ W : World, Tn (lo W.heap.size) W T → Calls Try.prog 24 #[nv T, .int .i64 p] W (CpV (cg plc T p).1 W)) := Lib.hid fun W h => place_any T p W hr h0 h1 hw5 h
  have hlv : lvs T = lf T := if_pos hr
  have CLV : Hid (∀ W : World, Tn (lo W.heap.size) W T → Calls Try.prog 22 #[nv T] W (LvsV T W)) := Lib.hid fun W h => leavesAll_any T W hw5 h
  have hll := lvs_len hw5
  obtain ⟨q1, q2, q3, q4, q5⟩ := placed hr hw5 p h0 h1
  obtain ⟨L, hL⟩ : ∃ L, lf T = L := ⟨_, rfl⟩
  obtain ⟨Y, hY⟩ : ∃ Y, tx L = Y := ⟨_, rfl⟩
  obtain ⟨n, hn⟩ : ∃ n : Int, (cn T : Int) = n := ⟨_, rfl⟩
  have CTX : Hid (∀ W : World, Tn (lo W.heap.size) W T → Calls Try.prog 12 #[nv T] W fun e w' => e = .returned (.string Y) ∧ Below W.heap.size W w') := Lib.hid fun W h => by have := text_any T W h hw5; rwa [if_pos hr, hL, hY] at this
  have CCN : Hid (∀ W : World, Tn (lo W.heap.size) W T → Calls Try.prog 14 #[nv T] W fun e w' => e = .returned (.int .i64 n) ∧ Below W.heap.size W w') := Lib.hid fun W h => by have := count_any T W h hw5; rwa [hr, if_pos rfl, hn] at this
  have CST : Hid (∀ W : World, Tn (lo W.heap.size) W T → Calls Try.prog 25 #[nv T] W (CpV (cg stp T ()).1 W)) := Lib.hid fun W h => strip_any T W hr hw5 h
  have HX : Hid (∀ X : Tr, pl X = (cg plc T p).1 → (∀ W : World, Tn (lo W.heap.size) W X → Calls Try.prog 13 #[nv X, .int .i64 p] W fun e w' => e = .returned (.bool true) ∧ Below W.heap.size W w') ∧
      (∀ W : World, Tn (lo W.heap.size) W X → Calls Try.prog 12 #[nv X] W fun e w' => e = .returned (.string Y) ∧ Below W.heap.size W w') ∧
      (∀ W : World, Tn (lo W.heap.size) W X → Calls Try.prog 14 #[nv X] W fun e w' => e = .returned (.int .i64 n) ∧ Below W.heap.size W w') ∧
      (∀ W : World, Tn (lo W.heap.size) W X → Calls Try.prog 25 #[nv X] W (CpV (cg stp T ()).1 W))) := Lib.hid fun X hX => by
    have hs : pl X = pl (cg plc T p).1 := by rw [pl_cg]; exact hX
    obtain ⟨s1, s2, s3, s4, s5⟩ := same_of hs
    have hrX : rgt X = true := by rw [s1, q1]
    have hwX : wt X ≤ 5000 := by rw [s3, q3]; exact hw5
    have hsX : stb p (lf X) = true := by rw [← stb_pl, s5, stb_pl, q5]
    have htX : tx (lf X) = Y := by rw [s4, q4, hL, hY]
    refine ⟨fun W h => ?_, fun W h => ?_, fun W h => ?_, fun W h => ?_⟩
    · have := stands_any X p W h hwX; rwa [hrX, hsX] at this
    · have := text_any X W h hwX; rwa [if_pos hrX, htX] at this
    · have := count_any X W h hwX; rwa [hrX, if_pos rfl, s2, q2, hn] at this
    · have := strip_any X W hrX hwX h
      rwa [cg_same_of stp hs (), strip_plc] at this
  have CSM : Hid (∀ (A B : Tr) (W : World), pl A = (cg stp T ()).1 → pl B = (cg stp T ()).1 → Tn (lo W.heap.size) W A → Tn (lo W.heap.size) W B → Calls Try.prog 26 #[nv A, nv B] W fun e w' => e = .returned (.bool true) ∧ Below W.heap.size W w') := Lib.hid fun A B W ha hb h k => by
    obtain ⟨t1, t2⟩ := stripped hr
    have ea : rgt A = true := by rw [← rgt_pl, ha]; exact t1
    have eb : rgt B = true := by rw [← rgt_pl, hb]; exact t1
    have wa : wt A ≤ 5000 := by rw [← wt_pl, ha]; exact Nat.le_trans t2 hw5
    have wb : wt B ≤ 5000 := by rw [← wt_pl, hb]; exact Nat.le_trans t2 hw5
    have := same_any A B W wa wb h k
    rwa [ea, eb, (sm_iff A B).2 (ha.trans hb.symm)] at this
  have HTY : Hid (tx L = Y ∧ (tx L).size ≤ 250000) := Lib.hid ⟨hY, by have := tx_le T; rw [hL] at this; omega⟩
  rw [hlv, hL] at hll
  unfold LvsV at CLV
  rw [hlv, hL] at CLV
  have HW := Lib.hid hw
  have H0 := Lib.hid h0
  have H1 := Lib.hid h1
  clear q1 q2 q3 q4 q5 hlv hL hY hn hr hw5 hz hT hw
  refine callsIn_of_wp_marks Try.func6 rfl trivial ?_ rfl
  simp only [Try.ntmps6, List.size_toArray, List.length_cons, List.length_nil, Nat.reduceAdd, Nat.reduceSub, Array.replicate_succ, Array.replicate_zero, List.push_toArray, List.append_toArray, List.nil_append, List.cons_append]
  refine wpIn_wide.2 ?_
  go_wp2_with fail
  refine (alive_any _).mono ?_
  rintro e w1 ⟨rfl, hb⟩
  have hk1 := hk0.step hb
  clear hb hk0
  have c1 := heap5 (hk1.has (w.heap.size, nbx T) (by simp))
  go_wp2_with fail
  refine (HD.out _ (hk1.tree (T := T) (by simp))).mono ?_
  rintro r w2 ⟨U, l, rfl, hb2, hU, l1, l2, l3, l4⟩
  have hk2 := (hk1.step hb2).alloc (rbx U)
  have hl : ¬ l < 0 := by have := (l3 (by have := HW.out; omega)).1; have := HW.out; omega
  clear hb2 hU l3 l4 l1 l2 HD c1
  have c2 := heap5 (hk2.has (w.heap.size, nbx T) (by simp))
  go_wp2_with fail
  refine (CR.out _ (hk2.tree (T := T) (by simp))).mono ?_
  rintro e w3 ⟨rfl, hb⟩
  have hk3 := hk2.step hb
  have n0 : ¬ p < 0 := by have := H0.out; omega
  have n1 : ¬ 2147483648 < p := by have := H1.out; omega
  clear hb c2 CR
  have c3 := heap5 (hk3.has (w.heap.size, nbx T) (by simp))
  go_wp2_with fail
  refine (CPL.out _ (hk3.tree (T := T) (by simp))).mono ?_
  rintro e w4 ⟨X, rfl, hpX, hTX, hbX⟩
  have hk4 := (hk3.call hbX hTX).alloc (nbx X)
  obtain ⟨HS, HT4, HC4, HST4⟩ := HX.out X hpX
  have CSX := Lib.hid HS
  have CTX4 := Lib.hid HT4
  have CCX := Lib.hid HC4
  have CSTX := Lib.hid HST4
  have hk4' := hk4.sub (bs' := [(w4.heap.size, nbx X), (w.heap.size, nbx T)]) (ts' := [T, X]) (by simp) (by simp)
  have hx4 : w4.heap.size < (w4.alloc (nbx X)).heap.size := by simp
  clear hbX hTX hpX HS HT4 HC4 HST4 HX c3 hk4 CPL
  -- the text's box
  have hk5 := hk4'.alloc (sbx ⟨#[]⟩)
  have c5 := heap5 (hk5.has (w.heap.size, nbx T) (by simp))
  go_wp2_with fail
  refine (CLV.out _ (hk5.tree (T := T) (by simp))).mono ?_
  rintro e w6 ⟨b, A, c, rfl, hsl, hnb, hTk, hb6⟩
  have hbx6 : w6.heap[w4.heap.size + 1]? = some (sbx ⟨#[]⟩) := (hb6.block _ (by simp)).trans (by have := heap_alloc_new (w4.alloc (nbx X)) (sbx ⟨#[]⟩); rwa [World.size_alloc] at this)
  have hlow6 : Below (w4.alloc (nbx X)).heap.size (w4.alloc (nbx X)) w6 := (below1 _ _).trans (hb6.mono (by simp))
  have hs5 : (w4.alloc (nbx X)).heap.size = w4.heap.size + 1 := by simp
  have hnb' : w4.heap.size + 2 ≤ b := by simpa using hnb
  have hTk' : TkA A (L.map tok) (w4.heap.size + 1) no w6 := Tks.keep hTk (fun _ _ _ => rfl) fun k hk => ⟨fun h => h, hk.2, by have := hk.1; simp at this; omega⟩
  generalize w4.alloc (nbx X) = w5 at hk4' hlow6 hs5
  rw [hs5] at hlow6
  have hI0 : KpI w5 (w4.heap.size + 1) b A L.length c (L.map tok) [] no w6 := ⟨⟨hlow6, by rw [← hs5]; exact hs5 ▸ hlow6.size, fun _ h => h.elim⟩, ⟨fun h => h, hbx6⟩, hTk', ⟨fun h => h, hsl⟩⟩
  have HK4 := Lib.hid hk4'
  have HNB := Lib.hid hnb'
  have hww : w.heap.size < w4.heap.size + 1 := by rw [← hs5]; exact hk4'.lt (b := w.heap.size) (o := nbx T) (by simp)
  have HWW := Lib.hid hww
  clear hk5 c5 CLV hTk hTk' hb6 hk4' hlow6 hbx6 hsl hnb hnb' hx4 hk2 hk3 hk1 H0 H1 HW
  go_wp2_with fail
  refine (wpIn_wide (n := 8)).1 ?_
  refine range_outG (values_iter L b A c (by omega)).g gT (fun _ => Frames.pure _) rfl eg_values (fun _ => rfl)
    (fun (t : Array Value) (x : Tr) (bp : Nat) => { tmps := (t.setIfInBounds 37 (nv (tok x))).setIfInBounds 9 (.pointer (some ⟨bp, 0, none⟩)), defers := [] })
    (KpI w5 (w4.heap.size + 1) b A L.length c (L.map tok)) (fun _ _ _ _ => False) (fun pre x bp X W => KpI w5 (w4.heap.size + 1) b A L.length c (L.map tok) pre X W ∧ Has bp (tbx x) X W ∧ bp ≠ w4.heap.size + 1) ?fI ?fX ?fA ?hC ?h0 ?assign ?body ?done ?stop
  case fI => exact fun pre => KpI.frames _ _ _ _ _ _ _ _
  case fX => exact fun c pre => Frames.pure _
  case fA => exact fun pre x bp => (KpI.frames _ _ _ _ _ _ _ _).and ((Has.frames _ _).and (Frames.pure _))
  case hC => exact fun pre X W1 h => ⟨⟨_, h.2.2.1⟩, h.2.2.2⟩
  case h0 => exact hI0
  case stop =>
    rintro D c pre W1 h hD
    exact h.elim
  case assign =>
    rintro lq X' pre x W1 K hX hXb hi - hp hK
    have hb1 := hK W1.heap.size (W1.alloc (tbx x)) (by simp) (Kept.alloc _ _ _) ⟨(KpI.frames _ _ _ _ _ _ _ _).off hi (Off.alloc _ _ _), Has.new hXb _, by have := hi.2.1.lt; omega⟩
    clear hK hI0
    gi_wp2
    simpa only [List.setIfInBounds_toArray, List.set_cons_zero, List.set_cons_succ] using hb1
  case body =>
    rintro lq X' pre x bp W1 hX hXb hr2 ⟨⟨hlow, hs, htk, hsl1⟩, hbp, hne⟩ hp
    have p1 : W1.cell? ⟨bp, 1, none⟩ = some (.string x.g) := hbp.cell (i := 1)
    have p2 : W1.cell? ⟨bp, 2, none⟩ = some (.string x.t) := hbp.cell (i := 2)
    have q0 := hs.cell (i := 0)
    have f0 := hs.frozen (i := 0)
    simp only [List.getElem?_toArray, List.getElem?_cons_zero, List.getElem?_cons_succ] at q0
    have he : tx (pre ++ [x]) = tx pre ++ (x.g ++ x.t) := by rw [tx_snoc, ByteArray.append_assoc]
    have HE := Lib.hid he
    have hle := tx_pre hp
    have hY2 := HTY.out.2
    rw [he] at hle
    simp only [ByteArray.size_append] at hle
    have ha1 : ∀ W, Sem.run Try.prog (Op.stringOp .add x.g x.t) W = .ok (.string (x.g ++ x.t)) W := fun W => run_string_add_sum _ _ _ (by omega)
    have ha2 : ∀ W, Sem.run Try.prog (Op.stringOp .add (tx pre) (x.g ++ x.t)) W = .ok (.string (tx pre ++ (x.g ++ x.t))) W := fun W => run_string_add_sum _ _ _ (by rw [ByteArray.size_append]; omega)
    have hnb2 : b ≠ w4.heap.size + 1 := by have := HNB.out; omega
    clear hI0 he hp hr2 hle hY2
    simp only [List.setIfInBounds_toArray, List.set_cons_zero, List.set_cons_succ]
    gi_wp2
    refine ⟨by rw [size_set]; exact Nat.le_refl _, Kept.set hs.1 _ _, ?_⟩
    unfold KpI
    rw [HE.out]
    exact ⟨hlow.set (p := ⟨w4.heap.size + 1, 0, none⟩) (Nat.le_refl _) _, hs.set, Tks.keep htk (fun k i hk => cell_of (Below.heap_setCell _ _ _ _ hk.2.2)) (fun k hk => ⟨hk.1, by rw [size_set]; exact hk.2.1, hk.2.2⟩), hsl1.other hnb2⟩
  case done =>
    rintro D xs W1 hxs ⟨hlow, hs, -, -⟩ hD
    rw [hxs, HTY.out.1] at hs
    have hlw : Below w5.heap.size w5 W1 := by rw [hs5]; exact hlow.1
    have hk7 := (((HK4.out.step hlw).add hs.2).add hD).drew
    have hDs := hlow.2.2 D rfl
    have hss : (Y.toList == Y.toList) = true := by simp
    have hnn : (n == n) = true := by simp
    clear hlow hs hlw hD hI0
    go_wp2
    rename_i K0 hK0
    refine wp_region_noPanic (wp_region_held (S := fun W' : World => W'.heap[w4.heap.size]? = some (nbx X) ∧ W'.heap[w.heap.size]? = some (nbx T) ∧ W'.heap[w4.heap.size + 1]? = some (sbx Y)) (by kernel_rfl) ?_)
    show wpAnyH _ _ _ _ _ _ _ _ W1.drew
    generalize W1.drew = x7 at hk7 ⊢
    refine wpAnyH_take_d (i := 0) (v := nv X) 45 rfl rfl (by kernel_rfl) (by kernel_rfl) (by kernel_rfl) (fun _ _ _ h => h) (Or.inl ⟨by kernel_rfl, fun w' hS' => ?y0⟩) (⟨hk7.has (w4.heap.size, nbx X) (by simp), hk7.has (w.heap.size, nbx T) (by simp), hk7.has (w4.heap.size + 1, sbx Y) (by simp)⟩) ?_
    case y0 => (have s0 := heap5 hS'.1; clear hS'; go_simp)
    simp only [Act.put, List.setIfInBounds_toArray, List.set_cons_zero, List.set_cons_succ]
    refine wpAnyH_take_d (i := 1) (v := .int .i64 p) 46 rfl rfl (by kernel_rfl) (by kernel_rfl) (by kernel_rfl) (fun _ _ _ h => h) (Or.inl ⟨by kernel_rfl, fun w' hS' => ?y1⟩) (⟨hk7.has (w4.heap.size, nbx X) (by simp), hk7.has (w.heap.size, nbx T) (by simp), hk7.has (w4.heap.size + 1, sbx Y) (by simp)⟩) ?_
    case y1 => (clear hS'; go_simp)
    simp only [Act.put, List.setIfInBounds_toArray, List.set_cons_zero, List.set_cons_succ]
    refine wpAnyH_ready (rs := [2]) (by kernel_rfl) (by simp) ?_
    refine AllReadyH.cons rfl (fun K hK => ?_) AllReadyH.nil
    go_simp
    refine (CSX.out _ (hk7.tree (T := X) (by simp))).mono ?_
    rintro e x8 ⟨rfl, hb⟩
    have hk8 := hk7.step hb
    clear hb
    refine hK.out _ _ (⟨hk8.has (w4.heap.size, nbx X) (by simp), hk8.has (w.heap.size, nbx T) (by simp), hk8.has (w4.heap.size + 1, sbx Y) (by simp)⟩) (fun _ => ?_)
    clear hK K
    try simp only [Act.put, List.setIfInBounds_toArray, List.set_cons_zero, List.set_cons_succ]
    refine wpAnyH_take_d (i := 3) (v := .bool true) 48 rfl rfl (by kernel_rfl) (by kernel_rfl) (by kernel_rfl) (fun _ _ _ h => h) (Or.inl ⟨by kernel_rfl, fun w' hS' => ?y3⟩) (⟨hk8.has (w4.heap.size, nbx X) (by simp), hk8.has (w.heap.size, nbx T) (by simp), hk8.has (w4.heap.size + 1, sbx Y) (by simp)⟩) ?_
    case y3 => (clear hS'; go_simp)
    simp only [Act.put, List.setIfInBounds_toArray, List.set_cons_zero, List.set_cons_succ]
    refine wpAnyH_take_d (i := 4) (v := nv X) 49 rfl rfl (by kernel_rfl) (by kernel_rfl) (by kernel_rfl) (fun _ _ _ h => h) (Or.inl ⟨by kernel_rfl, fun w' hS' => ?y4⟩) (⟨hk8.has (w4.heap.size, nbx X) (by simp), hk8.has (w.heap.size, nbx T) (by simp), hk8.has (w4.heap.size + 1, sbx Y) (by simp)⟩) ?_
    case y4 => (have s0 := heap5 hS'.1; clear hS'; go_simp)
    simp only [Act.put, List.setIfInBounds_toArray, List.set_cons_zero, List.set_cons_succ]
    refine wpAnyH_take_d (i := 6) (v := nv T) 51 rfl rfl (by kernel_rfl) (by kernel_rfl) (by kernel_rfl) (fun _ _ _ h => h) (Or.inl ⟨by kernel_rfl, fun w' hS' => ?y6⟩) (⟨hk8.has (w4.heap.size, nbx X) (by simp), hk8.has (w.heap.size, nbx T) (by simp), hk8.has (w4.heap.size + 1, sbx Y) (by simp)⟩) ?_
    case y6 => (have s0 := heap5 hS'.2.1; clear hS'; go_simp)
    simp only [Act.put, List.setIfInBounds_toArray, List.set_cons_zero, List.set_cons_succ]
    refine wpAnyH_ready (rs := [5]) (by kernel_rfl) (by simp) ?_
    refine AllReadyH.cons rfl (fun K hK => ?_) AllReadyH.nil
    go_simp
    refine (CTX4.out _ (hk8.tree (T := X) (by simp))).mono ?_
    rintro e x9 ⟨rfl, hb⟩
    have hk9 := hk8.step hb
    clear hb
    refine hK.out _ _ (⟨hk9.has (w4.heap.size, nbx X) (by simp), hk9.has (w.heap.size, nbx T) (by simp), hk9.has (w4.heap.size + 1, sbx Y) (by simp)⟩) (fun _ => ?_)
    clear hK K
    try simp only [Act.put, List.setIfInBounds_toArray, List.set_cons_zero, List.set_cons_succ]
    refine wpAnyH_ready (rs := [7]) (by kernel_rfl) (by simp) ?_
    refine AllReadyH.cons rfl (fun K hK => ?_) AllReadyH.nil
    go_simp
    refine (CTX.out _ (hk9.tree (T := T) (by simp))).mono ?_
    rintro e x10 ⟨rfl, hb⟩
    have hk10 := hk9.step hb
    clear hb
    refine hK.out _ _ (⟨hk10.has (w4.heap.size, nbx X) (by simp), hk10.has (w.heap.size, nbx T) (by simp), hk10.has (w4.heap.size + 1, sbx Y) (by simp)⟩) (fun _ => ?_)
    clear hK K
    try simp only [Act.put, List.setIfInBounds_toArray, List.set_cons_zero, List.set_cons_succ]
    refine wpAnyH_take_d (i := 8) (v := .bool true) 53 rfl rfl (by kernel_rfl) (by kernel_rfl) (by kernel_rfl) (fun _ _ _ h => h) (Or.inl ⟨by kernel_rfl, fun w' hS' => ?y8⟩) (⟨hk10.has (w4.heap.size, nbx X) (by simp), hk10.has (w.heap.size, nbx T) (by simp), hk10.has (w4.heap.size + 1, sbx Y) (by simp)⟩) ?_
    case y8 => (clear hS'; go_simp)
    simp only [Act.put, List.setIfInBounds_toArray, List.set_cons_zero, List.set_cons_succ]
    refine wpAnyH_take_d (i := 9) (v := .bool true) 54 rfl rfl (by kernel_rfl) (by kernel_rfl) (by kernel_rfl) (fun _ _ _ h => h) (Or.inl ⟨by kernel_rfl, fun w' hS' => ?y9⟩) (⟨hk10.has (w4.heap.size, nbx X) (by simp), hk10.has (w.heap.size, nbx T) (by simp), hk10.has (w4.heap.size + 1, sbx Y) (by simp)⟩) ?_
    case y9 => (clear hS'; go_simp)
    simp only [Act.put, List.setIfInBounds_toArray, List.set_cons_zero, List.set_cons_succ]
    refine wpAnyH_take_d (i := 10) (v := .bool true) 55 rfl rfl (by kernel_rfl) (by kernel_rfl) (by kernel_rfl) (fun _ _ _ h => h) (Or.inl ⟨by kernel_rfl, fun w' hS' => ?y10⟩) (⟨hk10.has (w4.heap.size, nbx X) (by simp), hk10.has (w.heap.size, nbx T) (by simp), hk10.has (w4.heap.size + 1, sbx Y) (by simp)⟩) ?_
    case y10 => (clear hS'; go_simp)
    simp only [Act.put, List.setIfInBounds_toArray, List.set_cons_zero, List.set_cons_succ]
    refine wpAnyH_take_d (i := 11) (v := nv T) 56 rfl rfl (by kernel_rfl) (by kernel_rfl) (by kernel_rfl) (fun _ _ _ h => h) (Or.inl ⟨by kernel_rfl, fun w' hS' => ?y11⟩) (⟨hk10.has (w4.heap.size, nbx X) (by simp), hk10.has (w.heap.size, nbx T) (by simp), hk10.has (w4.heap.size + 1, sbx Y) (by simp)⟩) ?_
    case y11 => (have s0 := heap5 hS'.2.1; clear hS'; go_simp)
    simp only [Act.put, List.setIfInBounds_toArray, List.set_cons_zero, List.set_cons_succ]
    refine wpAnyH_take_d (i := 13) (v := .string Y) 58 rfl rfl (by kernel_rfl) (by kernel_rfl) (by kernel_rfl) (fun _ _ _ h => h) (Or.inl ⟨by kernel_rfl, fun w' hS' => ?y13⟩) (⟨hk10.has (w4.heap.size, nbx X) (by simp), hk10.has (w.heap.size, nbx T) (by simp), hk10.has (w4.heap.size + 1, sbx Y) (by simp)⟩) ?_
    case y13 => (have s0 := cell_heap hS'.2.2 (i := 0); simp only [List.getElem?_toArray, List.getElem?_cons_zero] at s0; clear hS'; go_simp)
    simp only [Act.put, List.setIfInBounds_toArray, List.set_cons_zero, List.set_cons_succ]
    refine wpAnyH_ready (rs := [12]) (by kernel_rfl) (by simp) ?_
    refine AllReadyH.cons rfl (fun K hK => ?_) AllReadyH.nil
    go_simp
    refine (CTX.out _ (hk10.tree (T := T) (by simp))).mono ?_
    rintro e x11 ⟨rfl, hb⟩
    have hk11 := hk10.step hb
    clear hb
    refine hK.out _ _ (⟨hk11.has (w4.heap.size, nbx X) (by simp), hk11.has (w.heap.size, nbx T) (by simp), hk11.has (w4.heap.size + 1, sbx Y) (by simp)⟩) (fun _ => ?_)
    clear hK K
    try simp only [Act.put, List.setIfInBounds_toArray, List.set_cons_zero, List.set_cons_succ]
    refine wpAnyH_take_d (i := 14) (v := .bool true) 59 rfl rfl (by kernel_rfl) (by kernel_rfl) (by kernel_rfl) (fun _ _ _ h => h) (Or.inl ⟨by kernel_rfl, fun w' hS' => ?y14⟩) (⟨hk11.has (w4.heap.size, nbx X) (by simp), hk11.has (w.heap.size, nbx T) (by simp), hk11.has (w4.heap.size + 1, sbx Y) (by simp)⟩) ?_
    case y14 => (clear hS'; go_simp)
    simp only [Act.put, List.setIfInBounds_toArray, List.set_cons_zero, List.set_cons_succ]
    refine wpAnyH_take_d (i := 15) (v := .bool true) 60 rfl rfl (by kernel_rfl) (by kernel_rfl) (by kernel_rfl) (fun _ _ _ h => h) (Or.inl ⟨by kernel_rfl, fun w' hS' => ?y15⟩) (⟨hk11.has (w4.heap.size, nbx X) (by simp), hk11.has (w.heap.size, nbx T) (by simp), hk11.has (w4.heap.size + 1, sbx Y) (by simp)⟩) ?_
    case y15 => (clear hS'; go_simp)
    simp only [Act.put, List.setIfInBounds_toArray, List.set_cons_zero, List.set_cons_succ]
    refine wpAnyH_take_d (i := 16) (v := .bool true) 61 rfl rfl (by kernel_rfl) (by kernel_rfl) (by kernel_rfl) (fun _ _ _ h => h) (Or.inl ⟨by kernel_rfl, fun w' hS' => ?y16⟩) (⟨hk11.has (w4.heap.size, nbx X) (by simp), hk11.has (w.heap.size, nbx T) (by simp), hk11.has (w4.heap.size + 1, sbx Y) (by simp)⟩) ?_
    case y16 => (clear hS'; go_simp)
    simp only [Act.put, List.setIfInBounds_toArray, List.set_cons_zero, List.set_cons_succ]
    refine wpAnyH_take_d (i := 17) (v := nv X) 62 rfl rfl (by kernel_rfl) (by kernel_rfl) (by kernel_rfl) (fun _ _ _ h => h) (Or.inl ⟨by kernel_rfl, fun w' hS' => ?y17⟩) (⟨hk11.has (w4.heap.size, nbx X) (by simp), hk11.has (w.heap.size, nbx T) (by simp), hk11.has (w4.heap.size + 1, sbx Y) (by simp)⟩) ?_
    case y17 => (have s0 := heap5 hS'.1; clear hS'; go_simp)
    simp only [Act.put, List.setIfInBounds_toArray, List.set_cons_zero, List.set_cons_succ]
    refine wpAnyH_take_d (i := 19) (v := nv T) 64 rfl rfl (by kernel_rfl) (by kernel_rfl) (by kernel_rfl) (fun _ _ _ h => h) (Or.inl ⟨by kernel_rfl, fun w' hS' => ?y19⟩) (⟨hk11.has (w4.heap.size, nbx X) (by simp), hk11.has (w.heap.size, nbx T) (by simp), hk11.has (w4.heap.size + 1, sbx Y) (by simp)⟩) ?_
    case y19 => (have s0 := heap5 hS'.2.1; clear hS'; go_simp)
    simp only [Act.put, List.setIfInBounds_toArray, List.set_cons_zero, List.set_cons_succ]
    refine wpAnyH_ready (rs := [18]) (by kernel_rfl) (by simp) ?_
    refine AllReadyH.cons rfl (fun K hK => ?_) AllReadyH.nil
    go_simp
    refine (CSTX.out _ (hk11.tree (T := X) (by simp))).mono ?_
    rintro e x12 ⟨P, rfl, hpP, hTP, hb⟩
    have hk12 := hk11.call hb hTP
    clear hb
    refine hK.out _ _ (⟨hk12.has (w4.heap.size, nbx X) (by simp), hk12.has (w.heap.size, nbx T) (by simp), hk12.has (w4.heap.size + 1, sbx Y) (by simp)⟩) (fun _ => ?_)
    clear hK K
    try simp only [Act.put, List.setIfInBounds_toArray, List.set_cons_zero, List.set_cons_succ]
    refine wpAnyH_ready (rs := [20]) (by kernel_rfl) (by simp) ?_
    refine AllReadyH.cons rfl (fun K hK => ?_) AllReadyH.nil
    go_simp
    refine (CST.out _ (hk12.tree (T := T) (by simp))).mono ?_
    rintro e x13 ⟨Q, rfl, hpQ, hTQ, hb⟩
    have hk13 := hk12.call hb hTQ
    clear hb
    refine hK.out _ _ (⟨hk13.has (w4.heap.size, nbx X) (by simp), hk13.has (w.heap.size, nbx T) (by simp), hk13.has (w4.heap.size + 1, sbx Y) (by simp)⟩) (fun _ => ?_)
    clear hK K
    try simp only [Act.put, List.setIfInBounds_toArray, List.set_cons_zero, List.set_cons_succ]
    refine wpAnyH_ready (rs := [21]) (by kernel_rfl) (by simp) ?_
    refine AllReadyH.cons rfl (fun K hK => ?_) AllReadyH.nil
    go_simp
    refine (CSM.out P Q _ hpP hpQ (hk13.tree (T := P) (by simp)) (hk13.tree (T := Q) (by simp))).mono ?_
    rintro e x14 ⟨rfl, hb⟩
    have hk14 := hk13.step hb
    clear hb
    refine hK.out _ _ (⟨hk14.has (w4.heap.size, nbx X) (by simp), hk14.has (w.heap.size, nbx T) (by simp), hk14.has (w4.heap.size + 1, sbx Y) (by simp)⟩) (fun _ => ?_)
    clear hK K
    try simp only [Act.put, List.setIfInBounds_toArray, List.set_cons_zero, List.set_cons_succ]
    refine wpAnyH_take_d (i := 22) (v := .bool true) 67 rfl rfl (by kernel_rfl) (by kernel_rfl) (by kernel_rfl) (fun _ _ _ h => h) (Or.inl ⟨by kernel_rfl, fun w' hS' => ?y22⟩) (⟨hk14.has (w4.heap.size, nbx X) (by simp), hk14.has (w.heap.size, nbx T) (by simp), hk14.has (w4.heap.size + 1, sbx Y) (by simp)⟩) ?_
    case y22 => (clear hS'; go_simp)
    simp only [Act.put, List.setIfInBounds_toArray, List.set_cons_zero, List.set_cons_succ]
    refine wpAnyH_take_d (i := 23) (v := .bool true) 68 rfl rfl (by kernel_rfl) (by kernel_rfl) (by kernel_rfl) (fun _ _ _ h => h) (Or.inl ⟨by kernel_rfl, fun w' hS' => ?y23⟩) (⟨hk14.has (w4.heap.size, nbx X) (by simp), hk14.has (w.heap.size, nbx T) (by simp), hk14.has (w4.heap.size + 1, sbx Y) (by simp)⟩) ?_
    case y23 => (clear hS'; go_simp)
    simp only [Act.put, List.setIfInBounds_toArray, List.set_cons_zero, List.set_cons_succ]
    refine wpAnyH_take_d (i := 24) (v := nv X) 69 rfl rfl (by kernel_rfl) (by kernel_rfl) (by kernel_rfl) (fun _ _ _ h => h) (Or.inl ⟨by kernel_rfl, fun w' hS' => ?y24⟩) (⟨hk14.has (w4.heap.size, nbx X) (by simp), hk14.has (w.heap.size, nbx T) (by simp), hk14.has (w4.heap.size + 1, sbx Y) (by simp)⟩) ?_
    case y24 => (have s0 := heap5 hS'.1; clear hS'; go_simp)
    simp only [Act.put, List.setIfInBounds_toArray, List.set_cons_zero, List.set_cons_succ]
    refine wpAnyH_take_d (i := 26) (v := nv T) 71 rfl rfl (by kernel_rfl) (by kernel_rfl) (by kernel_rfl) (fun _ _ _ h => h) (Or.inl ⟨by kernel_rfl, fun w' hS' => ?y26⟩) (⟨hk14.has (w4.heap.size, nbx X) (by simp), hk14.has (w.heap.size, nbx T) (by simp), hk14.has (w4.heap.size + 1, sbx Y) (by simp)⟩) ?_
    case y26 => (have s0 := heap5 hS'.2.1; clear hS'; go_simp)
    simp only [Act.put, List.setIfInBounds_toArray, List.set_cons_zero, List.set_cons_succ]
    refine wpAnyH_ready (rs := [25]) (by kernel_rfl) (by simp) ?_
    refine AllReadyH.cons rfl (fun K hK => ?_) AllReadyH.nil
    go_simp
    refine (CCX.out _ (hk14.tree (T := X) (by simp))).mono ?_
    rintro e x15 ⟨rfl, hb⟩
    have hk15 := hk14.step hb
    clear hb
    refine hK.out _ _ (⟨hk15.has (w4.heap.size, nbx X) (by simp), hk15.has (w.heap.size, nbx T) (by simp), hk15.has (w4.heap.size + 1, sbx Y) (by simp)⟩) (fun _ => ?_)
    clear hK K
    try simp only [Act.put, List.setIfInBounds_toArray, List.set_cons_zero, List.set_cons_succ]
    refine wpAnyH_ready (rs := [27]) (by kernel_rfl) (by simp) ?_
    refine AllReadyH.cons rfl (fun K hK => ?_) AllReadyH.nil
    go_simp
    refine (CCN.out _ (hk15.tree (T := T) (by simp))).mono ?_
    rintro e x16 ⟨rfl, hb⟩
    have hk16 := hk15.step hb
    clear hb
    refine hK.out _ _ (⟨hk16.has (w4.heap.size, nbx X) (by simp), hk16.has (w.heap.size, nbx T) (by simp), hk16.has (w4.heap.size + 1, sbx Y) (by simp)⟩) (fun _ => ?_)
    clear hK K
    try simp only [Act.put, List.setIfInBounds_toArray, List.set_cons_zero, List.set_cons_succ]
    refine wpAnyH_take_d (i := 28) (v := .bool true) 73 rfl rfl (by kernel_rfl) (by kernel_rfl) (by kernel_rfl) (fun _ _ _ h => h) (Or.inl ⟨by kernel_rfl, fun w' hS' => ?y28⟩) (⟨hk16.has (w4.heap.size, nbx X) (by simp), hk16.has (w.heap.size, nbx T) (by simp), hk16.has (w4.heap.size + 1, sbx Y) (by simp)⟩) ?_
    case y28 => (clear hS'; go_simp)
    simp only [Act.put, List.setIfInBounds_toArray, List.set_cons_zero, List.set_cons_succ]
    refine wpAnyH_take_d (i := 29) (v := .bool true) 74 rfl rfl (by kernel_rfl) (by kernel_rfl) (by kernel_rfl) (fun _ _ _ h => h) (Or.inl ⟨by kernel_rfl, fun w' hS' => ?y29⟩) (⟨hk16.has (w4.heap.size, nbx X) (by simp), hk16.has (w.heap.size, nbx T) (by simp), hk16.has (w4.heap.size + 1, sbx Y) (by simp)⟩) ?_
    case y29 => (clear hS'; go_simp)
    simp only [Act.put, List.setIfInBounds_toArray, List.set_cons_zero, List.set_cons_succ]
    refine wpAnyH_take_d (i := 30) (v := .bool true) 4 rfl rfl (by kernel_rfl) (by kernel_rfl) (by kernel_rfl) (fun _ _ _ h => h) (Or.inl ⟨by kernel_rfl, fun w' hS' => ?y30⟩) (⟨hk16.has (w4.heap.size, nbx X) (by simp), hk16.has (w.heap.size, nbx T) (by simp), hk16.has (w4.heap.size + 1, sbx Y) (by simp)⟩) ?_
    case y30 => (clear hS'; go_simp)
    simp only [Act.put, List.setIfInBounds_toArray, List.set_cons_zero, List.set_cons_succ]
    refine wpAnyH_done (by kernel_rfl) ?_ _
    refine hK0 _ _ ?_
    go_wp2
    refine ⟨by simp, .inl ⟨_, _, rfl, run_takeDeferred (hk16.has (D, .deferred (some [])) (by simp)), ?_⟩⟩
    have r3 : Below w.heap.size w (x16.putObj D (.deferred none)) := ((Low.frames w.heap.size w).off (X := (· = D)) ⟨hk16.low, hk16.size, fun k hk => by subst hk; have := HWW.out; omega⟩ (Off.putObj (X := (· = D)) rfl _ _)).1
    exact ⟨.bool true, by simp [results, Try.results6, go_sem], rfl, r3⟩

theorem treeKeeps_walk (T : Tr) (p : Int) (w : World) (hz : Szd T) (hT : Tn (lo w.heap.size) w T) :
    Calls Try.prog 6 #[nv T, .int .i64 p] w fun e w' => e = .returned (.bool true) ∧ Below w.heap.size w w' := by
  by_cases h : 2000 < wt T ∨ rgt T = false ∨ p < 0 ∨ 2147483648 < p
  · exact keeps_early T p w hz hT h
  · simp only [not_or, Bool.not_eq_false] at h
    exact callsIn_wide.1 (keeps_in T p w hz hT (by omega) h.2.1 (by omega) (by omega))
end Go.Proofs.Ytkjfheondlpnfaa
