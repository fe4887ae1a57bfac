/- The law LexNames, walked. -/
import Derived.Test.YtjmdnjflcifpmaaDoorLexNames
namespace Go.Proofs.YtjmdnjflcifpmaaDoor
open Go.RowKit Go.Shelf SignMath

attribute [local go_sem] Oper.semAt_some

theorem pick_range (st : Int) (m : Nat) (h0 : 0 < m) (h1 : m ≤ 2000) : ∃ j : Nat, j < m ∧ wrap64 ((IntKind.u64.wrap st).tmod (m : Int)) = (j : Int) := by
  have h2 : 0 ≤ IntKind.u64.wrap st := by simp [IntKind.wrap, IntKind.signed, IntKind.bits]; omega
  have h3 := Int.tmod_nonneg (m : Int) h2
  have h4 := Int.tmod_lt_of_pos (IntKind.u64.wrap st) (by omega : (0 : Int) < m)
  generalize (IntKind.u64.wrap st).tmod m = x at h3 h4
  refine ⟨x.toNat, by omega, ?_⟩
  unfold wrap64
  omega
theorem ntok_at {w : World} {B : Nat} {A : Option Addr} {l : List Nat} {j k : Nat} (h : Rdc w B A (ncells l)) (hk : l[j]? = some k) : ∃ b off, A = some ⟨b, off, none⟩ ∧ w.cell? ⟨b, off + j, none⟩ = some (.int .i64 (k : Nat)) := by
  have hl := (List.getElem?_eq_some_iff.1 hk).1
  obtain ⟨b, off, rfl, hb, hc⟩ := h.at_ (by rw [ncells_length]; omega)
  exact ⟨b, off, rfl, hc _ _ (by simp [ncells, hk])⟩
/-- the text with another name -/
def put (s n : ByteArray) (t : Tk) : ByteArray := s.extract 0 t.a ++ n ++ s.extract t.z s.size
theorem bs_put {s n : ByteArray} {t : Tk} : bs (put s n t) = (bs s).take t.a ++ (bs n ++ (bs s).drop t.z) := by
  have e : bs (put s n t) = bs (s.extract 0 t.a) ++ bs n ++ bs (s.extract t.z s.size) := by simp [put, bs]
  rw [e, bs_to, bs_end, List.append_assoc]
theorem bytes_ne {a b : ByteArray} (h : a ≠ b) : bs a ≠ b.data.toList := fun e => h (WideShapes.bytes_inj e)
/-- what the tokens are with another name -/
structure Nmd (s n : ByteArray) (L M : List Tk) (k : Nat) (t : Tk) : Prop where
  az : t.a < t.z
  zs : t.z ≤ s.size
  len : M.length = L.length
  low : ∀ i x, i < k → L[i]? = some x → M[i]? = some x
  here : M[k]? = some ⟨4, t.a, t.a + n.size⟩
  high : ∀ i x, k < i → L[i]? = some x → ∃ y, M[i]? = some y ∧ y.k = x.k ∧ (y.a : Int) = x.a + ((n.size : Int) - ((t.z : Int) - t.a)) ∧ (y.z : Int) = x.z + ((n.size : Int) - ((t.z : Int) - t.a))
theorem nmd {s n : ByteArray} {L : List Tk} {k : Nat} {t : Tk} (hL : L = tk (bs s) 0) (hk : L[k]? = some t) (h4 : t.k = 4) (hw : (wd (bs n) && !kw n) = true) (h1 : n ≠ bSys) (h2 : n ≠ bOut) (h3 : n ≠ bPri) : Nmd s n L (tk (bs (put s n t)) 0) k t := by
  subst hL
  rw [Bool.and_eq_true, Bool.not_eq_true'] at hw
  obtain ⟨g1, g2, g3, g4⟩ := named hk h4 hw.1 ((kwl_bs n).trans hw.2) (bytes_ne h1) (bytes_ne h2) (bytes_ne h3)
  rw [bs_size] at g2 g4
  have hkl := (List.getElem?_eq_some_iff.1 hk).1
  have htl : ((tk (bs s) 0).take k).length = k := by rw [List.length_take]; omega
  rw [← bs_put] at g4
  rw [g4]
  refine ⟨g1, g2, ?_, ?_, ?_, ?_⟩
  · rw [List.length_append, htl, List.length_cons, List.length_map, List.length_drop]; omega
  · intro i x hi hx
    rw [List.getElem?_append_left (by omega), List.getElem?_take_of_lt hi]; exact hx
  · rw [List.getElem?_append_right (by omega), htl, Nat.sub_self]; rfl
  · intro i x hi hx
    have hm : x ∈ (tk (bs s) 0).drop (k + 1) := by
      refine List.mem_of_getElem? (i := i - (k + 1)) ?_
      rw [List.getElem?_drop, ← hx]; congr 1; omega
    obtain ⟨u1, u2⟩ := g3 x hm
    refine ⟨⟨x.k, x.a + (t.a + n.size) - t.z, x.z + (t.a + n.size) - t.z⟩, ?_, rfl, by dsimp only; omega, by dsimp only; omega⟩
    rw [List.getElem?_append_right (by omega), htl, show i - k = (i - (k + 1)) + 1 from by omega, List.getElem?_cons_succ, List.getElem?_map, List.getElem?_drop, show k + 1 + (i - (k + 1)) = i from by omega, hx]
    rfl
theorem put_size (s n : ByteArray) (t : Tk) (hs : s.size ≤ 2000) (hn : n.size ≤ 64) : (put s n t).size ≤ 10000 := by
  have : (bs (put s n t)).length ≤ 10000 := by
    rw [bs_put, List.length_append, List.length_append, List.length_take, List.length_drop, bs_size, bs_size]; omega
  rwa [bs_size] at this

theorem neq_token (a b c : Int) (w : World) : (binOp .neq 31 (.agg #[.int .i64 a, .int .i64 b, .int .i64 c]) (.agg #[.int .i64 a, .int .i64 b, .int .i64 c])).run Tryd.prog w = .ok (.bool false) w := by
  have u3 := Tryd.underlying3
  have a3 := Tryd.isAgg3
  have z3 := Tryd.sizeOf3
  have u9 := Tryd.underlying29
  have a9 := Tryd.isAgg29
  have z9 := Tryd.sizeOf29
  have hS : Tryd.prog.underlying 31 = some (.struct (Tryd.prog.fieldsOf 31)) := by kernel_rfl
  have hp : Tryd.prog.stoodInHeld 31 = false := by kernel_rfl
  rw [run_neq_struct, show (10000 : Nat) = 9999 + 1 from rfl, run_equalIn_agg w 9999 31 _ _ hS hp]
  simp only [Program.fieldsOf, Tryd.underlying31]
  go_simp

theorem tx_new {s n : ByteArray} {y : Tk} (h : y.a ≤ s.size) (hz : y.z = y.a + n.size) : tx (s.extract 0 y.a ++ n) (toZ y) = n := by
  have hsz : (s.extract 0 y.a ++ n).size = y.a + n.size := by rw [ByteArray.size_append, ByteArray.size_extract]; omega
  unfold tx toZ
  rw [if_pos ⟨by dsimp only; omega, by dsimp only; omega, by dsimp only; omega⟩]
  refine WideShapes.bytes_inj ?_
  show bs _ = bs _
  dsimp only
  rw [Int.toNat_natCast, Int.toNat_natCast, bs_cut, hz, Nat.add_sub_cancel_left]
  have e : bs (s.extract 0 y.a ++ n) = (bs s).take y.a ++ bs n := by
    have : bs (s.extract 0 y.a ++ n) = bs (s.extract 0 y.a) ++ bs n := by simp [bs]
    rw [this, bs_to]
  have hl : ((bs s).take y.a).length = y.a := by rw [List.length_take, bs_size]; omega
  rw [e]
  have h2 := List.drop_left (l₁ := (bs s).take y.a) (l₂ := bs n)
  rw [hl] at h2
  rw [h2, List.take_of_length_le (by rw [bs_size]; exact Nat.le_refl _)]

theorem str_no {n b : ByteArray} {l : List UInt8} (hl : b.data.toList = l) (h : n ≠ b) : (n.toList == l) = false := by
  rw [← hl, ← Lib.toList_data, str_dec]; exact decide_eq_false h

set_option maxRecDepth 100000 in
set_option maxHeartbeats 4000000 in
theorem names_in (s n : ByteArray) (st : Int) (hs : ¬ 2000 < s.size) (hw : (wd (bs n) && !kw n) = true) (hn : n.size ≤ 64) (h1 : n ≠ bSys) (h2 : n ≠ bOut) (h3 : n ≠ bPri) (w : World) (hL : LaidX w) :
    CallsIn Fence.wide 8 Tryd.prog 7 #[.string s, .string n, .int .i64 st] w fun e w' => e = .returned (.bool true) ∧ Below w.heap.size w w' := by
  have HN := Lib.hid (refName_big n (by omega))
  have HS := Lib.hid (name_any n (by omega))
  have HLI := Lib.hid (list_any s (by omega))
  rw [hw] at HN
  simp only [hw, if_true] at HS
  have d1 : (n.toList == [83, 121, 115, 116, 101, 109]) = false := str_no (b := bSys) rfl h1
  have d2 : (n.toList == [111, 117, 116]) = false := str_no (b := bOut) rfl h2
  have d3 : (n.toList == [112, 114, 105, 110, 116, 108, 110]) = false := str_no (b := bPri) rfl h3
  have hLn := tk_size s
  obtain ⟨L, hLd⟩ : ∃ L, L = tk (bs s) 0 := ⟨_, rfl⟩
  rw [← hLd] at HLI hLn
  have HLd := Lib.hid hLd
  have HW := Lib.hid hw
  have H1 := Lib.hid h1
  have H2 := Lib.hid h2
  have H3 := Lib.hid h3
  clear hLd hw h1 h2 h3
  refine callsIn_of_wp Tryd.func7 rfl trivial ?_ rfl
  simp only [Tryd.ntmps7, List.size_toArray, List.length_cons, List.length_nil, Nat.reduceAdd, Nat.reduceSub, Array.replicate_succ, Array.replicate_zero, List.push_toArray, List.append_toArray, List.nil_append, List.cons_append]
  gi_wp2_with (first | (refine ⟨trivial, ?_⟩; gi_at_call 8; refine (callsIn_wide.2 (alive_any _ hL)).mono ?_; rintro e w1 ⟨rfl, hB1⟩) | (refine ⟨trivial, ?_⟩; gi_at_call 19; refine (callsIn_wide.2 (HN.out _)).mono ?_; rintro e w2 ⟨rfl, hB2⟩) | (refine ⟨trivial, ?_⟩; gi_at_call 20; refine (callsIn_wide.2 (HS.out _ ((hL.below (hB1.trans (hB2.mono hB1.size))).laid))).mono ?_; rintro e w3 ⟨rfl, rfl⟩) | (refine ⟨trivial, ?_⟩; gi_at_call 12; refine (callsIn_wide.2 (HLI.out _ (hL.below (hB1.trans (hB2.mono hB1.size))))).mono ?_; rintro e w4 ⟨A, c, rfl, hr, _, hB4⟩))
  have hBw : Below w.heap.size w w4 := (hB1.trans (hB2.mono hB1.size)).trans (hB4.mono (hB1.trans (hB2.mono hB1.size)).size)
  clear hB1 hB2 hB4 HN HS d1 d2 d3
  gi_loopw [8, 9, 10, 48] (fun o _ _ i wr => ∃ k : Nat, i = .int .i64 k ∧ k ≤ L.length ∧ Below w4.heap.size w4 wr ∧ wr.ownsRow w4.heap.size 3 1 o (ixs L k).length (ncells (ixs L k))) (fun _ _ _ i _ => L.length + 1 - (intOf i).toNat)
  case atStart => exact ⟨0, rfl, Nat.zero_le _, below1 w4 _, rfl, .inr ⟨w4.heap.size, 0, #[], rfl, Nat.le_refl _, World.alloc_heap_new w4 _, Nat.le_refl _, by unfold maxLen; omega, rfl, rfl⟩⟩
  case round =>
    obtain ⟨k, rfl, hk, hB, hown⟩ := hrel
    obtain ⟨A0, c0, rfl⟩ := own_slice hown
    have hlen := ixs_len L k
    by_cases hlt : k < L.length
    · have he : L[k]? = some L[k] := List.getElem?_eq_getElem hlt
      generalize L[k] = x at he
      have z1 : (0 : Int) ≤ k := by omega
      have z2 : (k : Int) < L.length := by omega
      obtain ⟨b, off, rfl, hb, e0, e1, e2⟩ := tok_at (hr.below hB) he
      have HT := Lib.hid (ixs_next he)
      have b4 := beqd (x.k : Int) 4
      clear he
      by_cases k4 : x.k = 4
      · rw [decide_eq_true (by omega)] at b4
        have K4 := Lib.hid k4
        clear k4
        gi_wp2_with (gi_at_builtin; refine Stay.out ?_)
        refine Stay.in_ ?_
        refine wpListIn_append_at ((wr.alloc _).alloc _) rfl _ _ 53 rfl w4.heap.size 3 _ 1 8 Tryd.underlying53 info_int rfl (by decide) _ (ixs L k).length _ rfl ((hown.alloc _).alloc _) (wr.heap.size + 1) _ (by first | rfl | simp [go_sem]) (by have := World.alloc_heap_new (wr.alloc (tkc x)) (.cells #[.int .i64 (k : Nat)] 3); rw [World.size_alloc] at this; exact this) rfl (by intro u hu; simp at hu; rcases hu with rfl <;> rfl) (by unfold maxLen; omega) (by omega) (by have := hB.size; simp; omega) ?_
        intro v' w5 hown2 hgrow hat
        obtain ⟨A1, c1, rfl⟩ := own_slice hown2
        gi_wp2
        go_roundw
        case rel =>
          refine ⟨k + 1, by go_num, by omega, ((hB.alloc hB.size _).alloc (by have := hB.size; simp; omega) _).grown hgrow (by have := hB.size; simp; omega) (fun j hj => (World.ownsRow.lt hown j hj).1), ?_⟩
          rw [HT.out, if_pos K4.out, List.length_append, ncells_snoc]
          simpa using hown2
        case measure => simp [intOf]; omega
      · rw [decide_eq_false (by omega)] at b4
        gi_wp2
        go_roundw
        case rel => exact ⟨k + 1, by go_num, by omega, hB.alloc hB.size _, by rw [HT.out, if_neg k4]; exact hown.alloc _⟩
        case measure => simp [intOf]; omega
    · obtain rfl : k = L.length := by omega
      have hnr := own_read hown
      have HM := Lib.hid (fun i (h : i ∈ ixs L L.length) => ixs_mem h)
      generalize ixs L L.length = ns at hnr HM hlen
      have hBr : Below w.heap.size w wr := hBw.trans (hB.mono hBw.size)
      have hrr : Rdc wr wr.heap.size A (tcells L) := hr.after hB
      clear hown hB hBw hr
      have b0 := beqd (ns.length : Int) 0
      by_cases h0 : ns.length = 0
      · rw [decide_eq_true (by omega)] at b0
        gi_wp2
        exact bodyPost_ret (results_tmp Tryd.results7 _ _ _) rfl ⟨rfl, hBr⟩
      · rw [decide_eq_false (by omega)] at b0
        obtain ⟨j, hj, hje⟩ := pick_range st ns.length (by omega) (by omega)
        have hnk : ns[j]? = some ns[j] := List.getElem?_eq_getElem hj
        have hmk : ns[j] ∈ ns := List.getElem_mem hj
        generalize ns[j] = k at hnk hmk
        obtain ⟨t, htk, ht4⟩ := HM.out k hmk
        obtain ⟨bn, offn, rfl, cn⟩ := ntok_at hnr hnk
        have hkl := (List.getElem?_eq_some_iff.1 htk).1
        obtain ⟨b, off, rfl, hb, e0, e1, e2⟩ := tok_at hrr htk
        have HNM := nmd HLd.out htk ht4 HW.out H1.out H2.out H3.out
        have HLM := Lib.hid (list_any (put s n t) (put_size s n t (by omega) hn))
        generalize tk (bs (put s n t)) 0 = M at HNM HLM
        obtain ⟨az, zs, hml, m1, m2, m3⟩ := HNM
        unfold CoV at HLM
        rw [hml] at HLM
        have M1 := Lib.hid m1
        have M2 := Lib.hid m2
        have M3 := Lib.hid m3
        have HTK := Lib.hid htk
        have y1 : (0 : Int) ≤ j := by omega
        have y2 : (j : Int) < ns.length := by omega
        have y3 : (0 : Int) ≤ k := by omega
        have y4 : (k : Int) < L.length := by omega
        have a1 : decide ((t.a : Int) < 0) = false := decide_eq_false (by omega)
        have a2 : decide ((t.z : Int) < t.a) = false := decide_eq_false (by omega)
        have a3 : decide ((s.size : Int) < t.z) = false := decide_eq_false (by omega)
        have a4 : decide (t.z < t.a) = false := decide_eq_false (by omega)
        have a5 : decide (s.size < t.z) = false := decide_eq_false (by omega)
        clear m1 m2 m3 htk ht4 hnk hmk HM hnr hj hml HLI
        gi_wp2
        refine wpIn_wide.2 ?_
        go_quiet (fail)
        rename_i nq
        have hBd : Below w.heap.size w (wr.drewN nq) := below_drewN hBr nq
        have hrd : Rdc (wr.drewN nq) (wr.drewN nq).heap.size (some ⟨b, off, none⟩) (tcells L) := hrr.after (below_drewN (Below.refl _ _) nq)
        clear hBr hrr e0 e1 e2 cn hb a1 a2 a3 a4 a5
        generalize wr.drewN nq = W2 at *
        gi_wp2
        rename_i K0 hK0
        have hS : (fun W' => W'.cell? ⟨b, off + k * 3 + 1, none⟩ = some (.int .i64 (t.a : Nat)) ∧ W'.cell? ⟨b, off + k * 3 + 2, none⟩ = some (.int .i64 (t.z : Nat))) W2.drew := by
          obtain ⟨b', off', hbo, hb', f0, f1, f2⟩ := tok_at hrd HTK.out
          injection hbo with hbo
          injection hbo with h1 h2 _
          subst h1 h2
          exact ⟨f1, f2⟩
        have hLd : LaidX W2.drew := hL.below hBd.drew
        have g1 : (t.a : Int) ≤ s.size := by omega
        have g2 : (t.z : Int) ≤ s.size := by omega
        have g3 : t.a ≤ s.size := by omega
        have g4 : (0 : Int) ≤ t.a := by omega
        have g5 : (0 : Int) ≤ t.z := by omega
        have ha1 : ∀ (W : World), Sem.run Tryd.prog (Op.stringOp .add (s.extract 0 t.a) n) W = .ok (.string (s.extract 0 t.a ++ n)) W := fun W => run_string_add W _ _ (by rw [ByteArray.size_extract]; omega) (by omega)
        have ha2 : ∀ (W : World), Sem.run Tryd.prog (Op.stringOp .add (s.extract 0 t.a ++ n) (s.extract t.z s.size)) W = .ok (.string (put s n t)) W := fun W => run_string_add W _ _ (by rw [ByteArray.size_append, ByteArray.size_extract]; omega) (by rw [ByteArray.size_extract]; omega)
        refine wpIn_wide.2 (wp_region_noPanic (wp_region_held (S := fun W' => W'.cell? ⟨b, off + k * 3 + 1, none⟩ = some (.int .i64 (t.a : Nat)) ∧ W'.cell? ⟨b, off + k * 3 + 2, none⟩ = some (.int .i64 (t.z : Nat))) (by kernel_rfl) ?_))
        show wpAnyH _ _ _ _ _ _ _ _ W2.drew
        refine wpAnyH_take_d (i := 0) (v := .string s) 103 rfl rfl (by kernel_rfl) (by kernel_rfl) (by kernel_rfl) (fun _ _ _ h => h) (Or.inl ⟨by kernel_rfl, fun w' hS' => ?y0⟩) hS ?_
        case y0 => (obtain ⟨s1, s2⟩ := hS'; go_simp)
        simp only [Act.put, List.setIfInBounds_toArray, List.set_cons_zero, List.set_cons_succ]
        refine wpAnyH_take_d (i := 1) (v := .slice (some ⟨b, off, none⟩) L.length c) 104 rfl rfl (by kernel_rfl) (by kernel_rfl) (by kernel_rfl) (fun _ _ _ h => h) (Or.inl ⟨by kernel_rfl, fun w' hS' => ?y1⟩) hS ?_
        case y1 => (obtain ⟨s1, s2⟩ := hS'; go_simp)
        simp only [Act.put, List.setIfInBounds_toArray, List.set_cons_zero, List.set_cons_succ]
        refine wpAnyH_take_d (i := 2) (v := .int .i64 (k : Nat)) 105 rfl rfl (by kernel_rfl) (by kernel_rfl) (by kernel_rfl) (fun _ _ _ h => h) (Or.inl ⟨by kernel_rfl, fun w' hS' => ?y2⟩) hS ?_
        case y2 => (obtain ⟨s1, s2⟩ := hS'; go_simp)
        simp only [Act.put, List.setIfInBounds_toArray, List.set_cons_zero, List.set_cons_succ]
        refine wpAnyH_take_d (i := 3) (v := .pointer (some ⟨b, off + k * 3, none⟩)) 106 rfl rfl (by kernel_rfl) (by kernel_rfl) (by kernel_rfl) (fun _ _ _ h => h) (Or.inl ⟨by kernel_rfl, fun w' hS' => ?y3⟩) hS ?_
        case y3 => (obtain ⟨s1, s2⟩ := hS'; go_simp)
        simp only [Act.put, List.setIfInBounds_toArray, List.set_cons_zero, List.set_cons_succ]
        refine wpAnyH_take_d (i := 4) (v := .pointer (some ⟨b, off + k * 3 + 1, none⟩)) 107 rfl rfl (by kernel_rfl) (by kernel_rfl) (by kernel_rfl) (fun _ _ _ h => h) (Or.inl ⟨by kernel_rfl, fun w' hS' => ?y4⟩) hS ?_
        case y4 => (obtain ⟨s1, s2⟩ := hS'; go_simp)
        simp only [Act.put, List.setIfInBounds_toArray, List.set_cons_zero, List.set_cons_succ]
        refine wpAnyH_take_d (i := 5) (v := .int .i64 (t.a : Nat)) 108 rfl rfl (by kernel_rfl) (by kernel_rfl) (by kernel_rfl) (fun _ _ _ h => h) (Or.inl ⟨by kernel_rfl, fun w' hS' => ?y5⟩) hS ?_
        case y5 => (obtain ⟨s1, s2⟩ := hS'; go_simp)
        simp only [Act.put, List.setIfInBounds_toArray, List.set_cons_zero, List.set_cons_succ]
        refine wpAnyH_take_d (i := 6) (v := .string (s.extract 0 t.a)) 109 rfl rfl (by kernel_rfl) (by kernel_rfl) (by kernel_rfl) (fun _ _ _ h => h) (Or.inl ⟨by kernel_rfl, fun w' hS' => ?y6⟩) hS ?_
        case y6 => (obtain ⟨s1, s2⟩ := hS'; go_simp)
        simp only [Act.put, List.setIfInBounds_toArray, List.set_cons_zero, List.set_cons_succ]
        refine wpAnyH_take_d (i := 7) (v := .string n) 110 rfl rfl (by kernel_rfl) (by kernel_rfl) (by kernel_rfl) (fun _ _ _ h => h) (Or.inl ⟨by kernel_rfl, fun w' hS' => ?y7⟩) hS ?_
        case y7 => (obtain ⟨s1, s2⟩ := hS'; go_simp)
        simp only [Act.put, List.setIfInBounds_toArray, List.set_cons_zero, List.set_cons_succ]
        refine wpAnyH_take_d (i := 8) (v := .string (s.extract 0 t.a ++ n)) 111 rfl rfl (by kernel_rfl) (by kernel_rfl) (by kernel_rfl) (fun _ _ _ h => h) (Or.inl ⟨by kernel_rfl, fun w' hS' => ?y8⟩) hS ?_
        case y8 => (obtain ⟨s1, s2⟩ := hS'; go_simp)
        simp only [Act.put, List.setIfInBounds_toArray, List.set_cons_zero, List.set_cons_succ]
        refine wpAnyH_take_d (i := 9) (v := .string s) 112 rfl rfl (by kernel_rfl) (by kernel_rfl) (by kernel_rfl) (fun _ _ _ h => h) (Or.inl ⟨by kernel_rfl, fun w' hS' => ?y9⟩) hS ?_
        case y9 => (obtain ⟨s1, s2⟩ := hS'; go_simp)
        simp only [Act.put, List.setIfInBounds_toArray, List.set_cons_zero, List.set_cons_succ]
        refine wpAnyH_take_d (i := 10) (v := .slice (some ⟨b, off, none⟩) L.length c) 113 rfl rfl (by kernel_rfl) (by kernel_rfl) (by kernel_rfl) (fun _ _ _ h => h) (Or.inl ⟨by kernel_rfl, fun w' hS' => ?y10⟩) hS ?_
        case y10 => (obtain ⟨s1, s2⟩ := hS'; go_simp)
        simp only [Act.put, List.setIfInBounds_toArray, List.set_cons_zero, List.set_cons_succ]
        refine wpAnyH_take_d (i := 11) (v := .int .i64 (k : Nat)) 114 rfl rfl (by kernel_rfl) (by kernel_rfl) (by kernel_rfl) (fun _ _ _ h => h) (Or.inl ⟨by kernel_rfl, fun w' hS' => ?y11⟩) hS ?_
        case y11 => (obtain ⟨s1, s2⟩ := hS'; go_simp)
        simp only [Act.put, List.setIfInBounds_toArray, List.set_cons_zero, List.set_cons_succ]
        refine wpAnyH_take_d (i := 12) (v := .pointer (some ⟨b, off + k * 3, none⟩)) 115 rfl rfl (by kernel_rfl) (by kernel_rfl) (by kernel_rfl) (fun _ _ _ h => h) (Or.inl ⟨by kernel_rfl, fun w' hS' => ?y12⟩) hS ?_
        case y12 => (obtain ⟨s1, s2⟩ := hS'; go_simp)
        simp only [Act.put, List.setIfInBounds_toArray, List.set_cons_zero, List.set_cons_succ]
        refine wpAnyH_take_d (i := 13) (v := .pointer (some ⟨b, off + k * 3 + 2, none⟩)) 116 rfl rfl (by kernel_rfl) (by kernel_rfl) (by kernel_rfl) (fun _ _ _ h => h) (Or.inl ⟨by kernel_rfl, fun w' hS' => ?y13⟩) hS ?_
        case y13 => (obtain ⟨s1, s2⟩ := hS'; go_simp)
        simp only [Act.put, List.setIfInBounds_toArray, List.set_cons_zero, List.set_cons_succ]
        refine wpAnyH_take_d (i := 14) (v := .int .i64 (t.z : Nat)) 117 rfl rfl (by kernel_rfl) (by kernel_rfl) (by kernel_rfl) (fun _ _ _ h => h) (Or.inl ⟨by kernel_rfl, fun w' hS' => ?y14⟩) hS ?_
        case y14 => (obtain ⟨s1, s2⟩ := hS'; go_simp)
        simp only [Act.put, List.setIfInBounds_toArray, List.set_cons_zero, List.set_cons_succ]
        refine wpAnyH_take_d (i := 15) (v := .string (s.extract t.z s.size)) 118 rfl rfl (by kernel_rfl) (by kernel_rfl) (by kernel_rfl) (fun _ _ _ h => h) (Or.inl ⟨by kernel_rfl, fun w' hS' => ?y15⟩) hS ?_
        case y15 => (obtain ⟨s1, s2⟩ := hS'; go_simp)
        simp only [Act.put, List.setIfInBounds_toArray, List.set_cons_zero, List.set_cons_succ]
        refine wpAnyH_take_d (i := 16) (v := .string (put s n t)) 119 rfl rfl (by kernel_rfl) (by kernel_rfl) (by kernel_rfl) (fun _ _ _ h => h) (Or.inl ⟨by kernel_rfl, fun w' hS' => ?y16⟩) hS ?_
        case y16 => (obtain ⟨s1, s2⟩ := hS'; go_simp)
        simp only [Act.put, List.setIfInBounds_toArray, List.set_cons_zero, List.set_cons_succ]
        refine wpAnyH_ready (rs := [17]) (by kernel_rfl) (by simp) ?_
        refine AllReadyH.cons rfl (fun K hK => ?_) AllReadyH.nil
        go_simp
        refine (HLM.out _ hLd).mono ?_
        rintro e w6 ⟨A6, c6, rfl, hr6, _, hb6⟩
        have hS6 : w6.cell? ⟨b, off + k * 3 + 1, none⟩ = some (.int .i64 (t.a : Nat)) ∧ w6.cell? ⟨b, off + k * 3 + 2, none⟩ = some (.int .i64 (t.z : Nat)) := ⟨(hb6.cell (lt_of_cell hS.1)).trans hS.1, (hb6.cell (lt_of_cell hS.2)).trans hS.2⟩
        refine hK.out _ _ hS6 (fun _ => ?_)
        clear hK K
        try simp only [Act.put, List.setIfInBounds_toArray, List.set_cons_zero, List.set_cons_succ]
        refine wpAnyH_take_d (i := 18) (v := .slice A6 L.length c6) 12 rfl rfl (by kernel_rfl) (by kernel_rfl) (by kernel_rfl) (fun _ _ _ h => h) (Or.inl ⟨by kernel_rfl, fun w' hS' => ?y18⟩) hS6 ?_
        case y18 => (obtain ⟨s1, s2⟩ := hS'; go_simp)
        simp only [Act.put, List.setIfInBounds_toArray, List.set_cons_zero, List.set_cons_succ]
        refine wpAnyH_done (by kernel_rfl) ?_ _
        refine hK0 _ _ ?_
        clear hK0 K0
        gi_wp2
        rename_i K0 hK0
        have hS6d : (fun W' => W'.cell? ⟨b, off + k * 3 + 1, none⟩ = some (.int .i64 (t.a : Nat)) ∧ W'.cell? ⟨b, off + k * 3 + 2, none⟩ = some (.int .i64 (t.z : Nat))) w6.drew := hS6
        have wA : IntKind.i64.wrap ((t.z : Int) - t.a) = (t.z : Int) - t.a := IntWalk.i64_in _ (by omega)
        have wB : IntKind.i64.wrap ((n.size : Int) - ((t.z : Int) - t.a)) = ((n.size : Int) - ((t.z : Int) - t.a)) := IntWalk.i64_in _ (by omega)
        have wC : wrap64 ((t.z : Int) - t.a) = (t.z : Int) - t.a := by unfold wrap64; omega
        have wD : wrap64 ((n.size : Int) - ((t.z : Int) - t.a)) = ((n.size : Int) - ((t.z : Int) - t.a)) := by unfold wrap64; omega
        refine wpIn_wide.2 (wp_region_noPanic (wp_region_held (S := fun W' => W'.cell? ⟨b, off + k * 3 + 1, none⟩ = some (.int .i64 (t.a : Nat)) ∧ W'.cell? ⟨b, off + k * 3 + 2, none⟩ = some (.int .i64 (t.z : Nat))) (by kernel_rfl) ?_))
        show wpAnyH _ _ _ _ _ _ _ _ w6.drew
        refine wpAnyH_take_d (i := 0) (v := .string n) 126 rfl rfl (by kernel_rfl) (by kernel_rfl) (by kernel_rfl) (fun _ _ _ h => h) (Or.inl ⟨by kernel_rfl, fun w' hS' => ?y0⟩) hS6d ?_
        case y0 => (obtain ⟨s1, s2⟩ := hS'; go_simp)
        simp only [Act.put, List.setIfInBounds_toArray, List.set_cons_zero, List.set_cons_succ]
        refine wpAnyH_take_d (i := 1) (v := .int .i64 (n.size : Nat)) 127 rfl rfl (by kernel_rfl) (by kernel_rfl) (by kernel_rfl) (fun _ _ _ h => h) (Or.inl ⟨by kernel_rfl, fun w' hS' => ?y1⟩) hS6d ?_
        case y1 => (obtain ⟨s1, s2⟩ := hS'; go_simp)
        simp only [Act.put, List.setIfInBounds_toArray, List.set_cons_zero, List.set_cons_succ]
        refine wpAnyH_take_d (i := 2) (v := .slice (some ⟨b, off, none⟩) L.length c) 128 rfl rfl (by kernel_rfl) (by kernel_rfl) (by kernel_rfl) (fun _ _ _ h => h) (Or.inl ⟨by kernel_rfl, fun w' hS' => ?y2⟩) hS6d ?_
        case y2 => (obtain ⟨s1, s2⟩ := hS'; go_simp)
        simp only [Act.put, List.setIfInBounds_toArray, List.set_cons_zero, List.set_cons_succ]
        refine wpAnyH_take_d (i := 3) (v := .int .i64 (k : Nat)) 129 rfl rfl (by kernel_rfl) (by kernel_rfl) (by kernel_rfl) (fun _ _ _ h => h) (Or.inl ⟨by kernel_rfl, fun w' hS' => ?y3⟩) hS6d ?_
        case y3 => (obtain ⟨s1, s2⟩ := hS'; go_simp)
        simp only [Act.put, List.setIfInBounds_toArray, List.set_cons_zero, List.set_cons_succ]
        refine wpAnyH_take_d (i := 4) (v := .pointer (some ⟨b, off + k * 3, none⟩)) 130 rfl rfl (by kernel_rfl) (by kernel_rfl) (by kernel_rfl) (fun _ _ _ h => h) (Or.inl ⟨by kernel_rfl, fun w' hS' => ?y4⟩) hS6d ?_
        case y4 => (obtain ⟨s1, s2⟩ := hS'; go_simp)
        simp only [Act.put, List.setIfInBounds_toArray, List.set_cons_zero, List.set_cons_succ]
        refine wpAnyH_take_d (i := 5) (v := .pointer (some ⟨b, off + k * 3 + 2, none⟩)) 131 rfl rfl (by kernel_rfl) (by kernel_rfl) (by kernel_rfl) (fun _ _ _ h => h) (Or.inl ⟨by kernel_rfl, fun w' hS' => ?y5⟩) hS6d ?_
        case y5 => (obtain ⟨s1, s2⟩ := hS'; go_simp)
        simp only [Act.put, List.setIfInBounds_toArray, List.set_cons_zero, List.set_cons_succ]
        refine wpAnyH_take_d (i := 6) (v := .int .i64 (t.z : Nat)) 132 rfl rfl (by kernel_rfl) (by kernel_rfl) (by kernel_rfl) (fun _ _ _ h => h) (Or.inl ⟨by kernel_rfl, fun w' hS' => ?y6⟩) hS6d ?_
        case y6 => (obtain ⟨s1, s2⟩ := hS'; go_simp)
        simp only [Act.put, List.setIfInBounds_toArray, List.set_cons_zero, List.set_cons_succ]
        refine wpAnyH_take_d (i := 7) (v := .slice (some ⟨b, off, none⟩) L.length c) 133 rfl rfl (by kernel_rfl) (by kernel_rfl) (by kernel_rfl) (fun _ _ _ h => h) (Or.inl ⟨by kernel_rfl, fun w' hS' => ?y7⟩) hS6d ?_
        case y7 => (obtain ⟨s1, s2⟩ := hS'; go_simp)
        simp only [Act.put, List.setIfInBounds_toArray, List.set_cons_zero, List.set_cons_succ]
        refine wpAnyH_take_d (i := 8) (v := .int .i64 (k : Nat)) 134 rfl rfl (by kernel_rfl) (by kernel_rfl) (by kernel_rfl) (fun _ _ _ h => h) (Or.inl ⟨by kernel_rfl, fun w' hS' => ?y8⟩) hS6d ?_
        case y8 => (obtain ⟨s1, s2⟩ := hS'; go_simp)
        simp only [Act.put, List.setIfInBounds_toArray, List.set_cons_zero, List.set_cons_succ]
        refine wpAnyH_take_d (i := 9) (v := .pointer (some ⟨b, off + k * 3, none⟩)) 135 rfl rfl (by kernel_rfl) (by kernel_rfl) (by kernel_rfl) (fun _ _ _ h => h) (Or.inl ⟨by kernel_rfl, fun w' hS' => ?y9⟩) hS6d ?_
        case y9 => (obtain ⟨s1, s2⟩ := hS'; go_simp)
        simp only [Act.put, List.setIfInBounds_toArray, List.set_cons_zero, List.set_cons_succ]
        refine wpAnyH_take_d (i := 10) (v := .pointer (some ⟨b, off + k * 3 + 1, none⟩)) 136 rfl rfl (by kernel_rfl) (by kernel_rfl) (by kernel_rfl) (fun _ _ _ h => h) (Or.inl ⟨by kernel_rfl, fun w' hS' => ?y10⟩) hS6d ?_
        case y10 => (obtain ⟨s1, s2⟩ := hS'; go_simp)
        simp only [Act.put, List.setIfInBounds_toArray, List.set_cons_zero, List.set_cons_succ]
        refine wpAnyH_take_d (i := 11) (v := .int .i64 (t.a : Nat)) 137 rfl rfl (by kernel_rfl) (by kernel_rfl) (by kernel_rfl) (fun _ _ _ h => h) (Or.inl ⟨by kernel_rfl, fun w' hS' => ?y11⟩) hS6d ?_
        case y11 => (obtain ⟨s1, s2⟩ := hS'; go_simp)
        simp only [Act.put, List.setIfInBounds_toArray, List.set_cons_zero, List.set_cons_succ]
        refine wpAnyH_take_d (i := 12) (v := .int .i64 ((t.z : Int) - t.a)) 138 rfl rfl (by kernel_rfl) (by kernel_rfl) (by kernel_rfl) (fun _ _ _ h => h) (Or.inl ⟨by kernel_rfl, fun w' hS' => ?y12⟩) hS6d ?_
        case y12 => (obtain ⟨s1, s2⟩ := hS'; go_simp)
        simp only [Act.put, List.setIfInBounds_toArray, List.set_cons_zero, List.set_cons_succ]
        refine wpAnyH_take_d (i := 13) (v := .int .i64 ((n.size : Int) - ((t.z : Int) - t.a))) 139 rfl rfl (by kernel_rfl) (by kernel_rfl) (by kernel_rfl) (fun _ _ _ h => h) (Or.inl ⟨by kernel_rfl, fun w' hS' => ?y13⟩) hS6d ?_
        case y13 => (obtain ⟨s1, s2⟩ := hS'; go_simp)
        simp only [Act.put, List.setIfInBounds_toArray, List.set_cons_zero, List.set_cons_succ]
        refine wpAnyH_take_d (i := 14) (v := .int .i64 ((n.size : Int) - ((t.z : Int) - t.a))) 13 rfl rfl (by kernel_rfl) (by kernel_rfl) (by kernel_rfl) (fun _ _ _ h => h) (Or.inl ⟨by kernel_rfl, fun w' hS' => ?y14⟩) hS6d ?_
        case y14 => (obtain ⟨s1, s2⟩ := hS'; go_simp)
        simp only [Act.put, List.setIfInBounds_toArray, List.set_cons_zero, List.set_cons_succ]
        refine wpAnyH_done (by kernel_rfl) ?_ _
        refine hK0 _ _ ?_
        clear hK0 K0
        gi_wp2
        have hB3 : Below w.heap.size w w6.drew := (hBd.drew.trans (hb6.mono hBd.size)).drew
        have hrl : Rdc w6.drew w6.drew.heap.size (some ⟨b, off, none⟩) (tcells L) := (show Rdc W2.drew W2.drew.heap.size _ _ from hrd).after hb6.drew
        have hrm : Rdc w6.drew w6.drew.heap.size A6 (tcells M) := hr6
        clear hb6 hr6 hrd hBd hS hS6 hS6d hLd wA wB wC wD HLM
        generalize w6.drew = W3 at *
        have hm : Tryd.prog.eqGuardType Tryd.prog.depth 31 = false := by kernel_rfl
        gi_loopw [14, 15, 142] (fun _ _ i wq => ∃ m : Nat, i = .int .i64 m ∧ m ≤ L.length ∧ Below W3.heap.size W3 wq) (fun _ _ i _ => L.length + 1 - (intOf i).toNat)
        case atStart => exact ⟨0, rfl, Nat.zero_le _, Below.refl _ _⟩
        case round =>
          obtain ⟨i, rfl, hi, hB⟩ := hrel
          by_cases hlt2 : i < L.length
          · have hx : L[i]? = some L[i] := List.getElem?_eq_getElem hlt2
            generalize L[i] = x at hx
            have z1 : (0 : Int) ≤ i := by omega
            have z2 : (i : Int) < L.length := by omega
            have hxs : x.a ≤ 2000 ∧ x.z ≤ 2000 := by
              have := chain_bound (tk_chain (bs s) _ 0 (Nat.le_refl _) (Nat.zero_le _)) x (by rw [← HLd.out]; exact List.mem_of_getElem? hx)
              rw [bs_size] at this
              omega
            obtain ⟨b', off', hbo, hb, e0, e1, e2⟩ := tok_at (hrl.below hB) hx
            injection hbo with hbo
            injection hbo with q1 q2 _
            subst q1 q2
            have ek : wr.cell? ⟨b, off + k * 3 + 1, none⟩ = some (.int .i64 (t.a : Nat)) := by
              obtain ⟨b', off', hbo, _, _, f1, _⟩ := tok_at (hrl.below hB) HTK.out
              injection hbo with hbo
              injection hbo with q1 q2 _
              subst q1 q2
              exact f1
            have HX := Lib.hid hx
            clear hx
            rcases Nat.lt_trichotomy i k with hik | hik | hik
            · as_aux_lemma =>
              have hy := M1.out i x hik HX.out
              obtain ⟨b6, off6, rfl, hb6', f0, f1, f2⟩ := tok_at (hrm.below hB) hy
              have HY := Lib.hid hy
              gi_wp2
              rename_i K0 hK0 hTr
              clear hTr
              have hS : (fun W' => W'.cell? ⟨b6, off6 + i * 3, none⟩ = some (.int .i64 (x.k : Nat)) ∧ W'.cell? ⟨b6, off6 + i * 3 + 1, none⟩ = some (.int .i64 (x.a : Nat)) ∧ W'.cell? ⟨b6, off6 + i * 3 + 2, none⟩ = some (.int .i64 (x.z : Nat)) ∧ W'.cell? ⟨wr.heap.size, 0, none⟩ = some (.int .i64 (x.k : Nat)) ∧ W'.cell? ⟨wr.heap.size, 1, none⟩ = some (.int .i64 (x.a : Nat)) ∧ W'.cell? ⟨wr.heap.size, 2, none⟩ = some (.int .i64 (x.z : Nat)) ∧ W'.cell? ⟨b, off + k * 3 + 1, none⟩ = some (.int .i64 (t.a : Nat))) (wr.alloc (tkc x)).drew := by
                have hn := World.alloc_heap_new wr (tkc x)
                have lift : ∀ {p o : Nat} {v : Value}, wr.cell? ⟨p, o, none⟩ = some v → (wr.alloc (tkc x)).drew.cell? ⟨p, o, none⟩ = some v := fun {p o v} h => ((below1 wr (tkc x)).cell (p := ⟨p, o, none⟩) (lt_of_cell h)).trans h
                exact ⟨lift f0, lift f1, lift f2, Lib.cell_of_heap hn 0, Lib.cell_of_heap hn 1, Lib.cell_of_heap hn 2, lift ek⟩
              clear f0 f1 f2 e0 e1 e2 ek hb6' hb
              have n1 := neq_token (x.k : Nat) (x.a : Nat) (x.z : Nat)
              have c1 : decide ((i : Int) < k) = true := decide_eq_true (by omega)
              have c2 : decide (i < k) = true := decide_eq_true hik
              have c3 : ((i : Int) == k) = false := by rw [beqd]; exact decide_eq_false (by omega)
              have c4 : decide ((k : Int) < i) = false := decide_eq_false (by omega)
              have c5 : decide (k < i) = false := decide_eq_false (by omega)
              refine wpIn_wide.2 (wp_region_noPanic (wp_region_held (S := fun W' => W'.cell? ⟨b6, off6 + i * 3, none⟩ = some (.int .i64 (x.k : Nat)) ∧ W'.cell? ⟨b6, off6 + i * 3 + 1, none⟩ = some (.int .i64 (x.a : Nat)) ∧ W'.cell? ⟨b6, off6 + i * 3 + 2, none⟩ = some (.int .i64 (x.z : Nat)) ∧ W'.cell? ⟨wr.heap.size, 0, none⟩ = some (.int .i64 (x.k : Nat)) ∧ W'.cell? ⟨wr.heap.size, 1, none⟩ = some (.int .i64 (x.a : Nat)) ∧ W'.cell? ⟨wr.heap.size, 2, none⟩ = some (.int .i64 (x.z : Nat)) ∧ W'.cell? ⟨b, off + k * 3 + 1, none⟩ = some (.int .i64 (t.a : Nat))) (by kernel_rfl) ?_))
              show wpAnyH _ _ _ _ _ _ _ _ (wr.alloc (tkc x)).drew
              refine wpAnyH_take_d (i := 0) (v := .int .i64 (i : Nat)) 147 rfl rfl (by kernel_rfl) (by kernel_rfl) (by kernel_rfl) (fun _ _ _ h => h) (Or.inl ⟨by kernel_rfl, fun w' hS' => ?y0⟩) hS ?_
              case y0 => (obtain ⟨s1, s2, s3, s4, s5, s6, s7⟩ := hS'; go_simp)
              simp only [Act.put, List.setIfInBounds_toArray, List.set_cons_zero, List.set_cons_succ]
              refine wpAnyH_take_d (i := 1) (v := .int .i64 (k : Nat)) 148 rfl rfl (by kernel_rfl) (by kernel_rfl) (by kernel_rfl) (fun _ _ _ h => h) (Or.inl ⟨by kernel_rfl, fun w' hS' => ?y1⟩) hS ?_
              case y1 => (obtain ⟨s1, s2, s3, s4, s5, s6, s7⟩ := hS'; go_simp)
              simp only [Act.put, List.setIfInBounds_toArray, List.set_cons_zero, List.set_cons_succ]
              refine wpAnyH_take_d (i := 2) (v := .bool true) 149 rfl rfl (by kernel_rfl) (by kernel_rfl) (by kernel_rfl) (fun _ _ _ h => h) (Or.inl ⟨by kernel_rfl, fun w' hS' => ?y2⟩) hS ?_
              case y2 => (obtain ⟨s1, s2, s3, s4, s5, s6, s7⟩ := hS'; go_simp)
              simp only [Act.put, List.setIfInBounds_toArray, List.set_cons_zero, List.set_cons_succ]
              refine wpAnyH_take_d (i := 3) (v := .bool true) 150 rfl rfl (by kernel_rfl) (by kernel_rfl) (by kernel_rfl) (fun _ _ _ h => h) (Or.inl ⟨by kernel_rfl, fun w' hS' => ?y3⟩) hS ?_
              case y3 => (obtain ⟨s1, s2, s3, s4, s5, s6, s7⟩ := hS'; go_simp)
              simp only [Act.put, List.setIfInBounds_toArray, List.set_cons_zero, List.set_cons_succ]
              refine wpAnyH_take_d (i := 4) (v := .slice (some ⟨b6, off6, none⟩) L.length c6) 151 rfl rfl (by kernel_rfl) (by kernel_rfl) (by kernel_rfl) (fun _ _ _ h => h) (Or.inl ⟨by kernel_rfl, fun w' hS' => ?y4⟩) hS ?_
              case y4 => (obtain ⟨s1, s2, s3, s4, s5, s6, s7⟩ := hS'; go_simp)
              simp only [Act.put, List.setIfInBounds_toArray, List.set_cons_zero, List.set_cons_succ]
              refine wpAnyH_take_d (i := 5) (v := .int .i64 (i : Nat)) 152 rfl rfl (by kernel_rfl) (by kernel_rfl) (by kernel_rfl) (fun _ _ _ h => h) (Or.inl ⟨by kernel_rfl, fun w' hS' => ?y5⟩) hS ?_
              case y5 => (obtain ⟨s1, s2, s3, s4, s5, s6, s7⟩ := hS'; go_simp)
              simp only [Act.put, List.setIfInBounds_toArray, List.set_cons_zero, List.set_cons_succ]
              refine wpAnyH_take_d (i := 6) (v := .pointer (some ⟨b6, off6 + i * 3, none⟩)) 153 rfl rfl (by kernel_rfl) (by kernel_rfl) (by kernel_rfl) (fun _ _ _ h => h) (Or.inl ⟨by kernel_rfl, fun w' hS' => ?y6⟩) hS ?_
              case y6 => (obtain ⟨s1, s2, s3, s4, s5, s6, s7⟩ := hS'; go_simp)
              simp only [Act.put, List.setIfInBounds_toArray, List.set_cons_zero, List.set_cons_succ]
              refine wpAnyH_take_d (i := 7) (v := .agg #[.int .i64 (x.k : Nat), .int .i64 (x.a : Nat), .int .i64 (x.z : Nat)]) 154 rfl rfl (by kernel_rfl) (by kernel_rfl) (by kernel_rfl) (fun _ _ _ h => h) (Or.inl ⟨by kernel_rfl, fun w' hS' => ?y7⟩) hS ?_
              case y7 => (obtain ⟨s1, s2, s3, s4, s5, s6, s7⟩ := hS'; go_simp)
              simp only [Act.put, List.setIfInBounds_toArray, List.set_cons_zero, List.set_cons_succ]
              refine wpAnyH_take_d (i := 8) (v := .agg #[.int .i64 (x.k : Nat), .int .i64 (x.a : Nat), .int .i64 (x.z : Nat)]) 155 rfl rfl (by kernel_rfl) (by kernel_rfl) (by kernel_rfl) (fun _ _ _ h => h) (Or.inl ⟨by kernel_rfl, fun w' hS' => ?y8⟩) hS ?_
              case y8 => (obtain ⟨s1, s2, s3, s4, s5, s6, s7⟩ := hS'; go_simp)
              simp only [Act.put, List.setIfInBounds_toArray, List.set_cons_zero, List.set_cons_succ]
              refine wpAnyH_take_d (i := 9) (v := .bool false) 156 rfl rfl (by kernel_rfl) (by kernel_rfl) (by kernel_rfl) (fun _ _ _ h => h) (Or.inl ⟨by kernel_rfl, fun w' hS' => ?y9⟩) hS ?_
              case y9 => (obtain ⟨s1, s2, s3, s4, s5, s6, s7⟩ := hS'; go_simp)
              simp only [Act.put, List.setIfInBounds_toArray, List.set_cons_zero, List.set_cons_succ]
              refine wpAnyH_take_d (i := 10) (v := .bool false) 157 rfl rfl (by kernel_rfl) (by kernel_rfl) (by kernel_rfl) (fun _ _ _ h => h) (Or.inl ⟨by kernel_rfl, fun w' hS' => ?y10⟩) hS ?_
              case y10 => (obtain ⟨s1, s2, s3, s4, s5, s6, s7⟩ := hS'; go_simp)
              simp only [Act.put, List.setIfInBounds_toArray, List.set_cons_zero, List.set_cons_succ]
              refine wpAnyH_take_d (i := 11) (v := .bool false) 158 rfl rfl (by kernel_rfl) (by kernel_rfl) (by kernel_rfl) (fun _ _ _ h => h) (Or.inl ⟨by kernel_rfl, fun w' hS' => ?y11⟩) hS ?_
              case y11 => (obtain ⟨s1, s2, s3, s4, s5, s6, s7⟩ := hS'; go_simp)
              simp only [Act.put, List.setIfInBounds_toArray, List.set_cons_zero, List.set_cons_succ]
              refine wpAnyH_take_d (i := 12) (v := .int .i64 (i : Nat)) 159 rfl rfl (by kernel_rfl) (by kernel_rfl) (by kernel_rfl) (fun _ _ _ h => h) (Or.inl ⟨by kernel_rfl, fun w' hS' => ?y12⟩) hS ?_
              case y12 => (obtain ⟨s1, s2, s3, s4, s5, s6, s7⟩ := hS'; go_simp)
              simp only [Act.put, List.setIfInBounds_toArray, List.set_cons_zero, List.set_cons_succ]
              refine wpAnyH_take_d (i := 13) (v := .int .i64 (k : Nat)) 160 rfl rfl (by kernel_rfl) (by kernel_rfl) (by kernel_rfl) (fun _ _ _ h => h) (Or.inl ⟨by kernel_rfl, fun w' hS' => ?y13⟩) hS ?_
              case y13 => (obtain ⟨s1, s2, s3, s4, s5, s6, s7⟩ := hS'; go_simp)
              simp only [Act.put, List.setIfInBounds_toArray, List.set_cons_zero, List.set_cons_succ]
              refine wpAnyH_take_d (i := 14) (v := .bool false) 161 rfl rfl (by kernel_rfl) (by kernel_rfl) (by kernel_rfl) (fun _ _ _ h => h) (Or.inl ⟨by kernel_rfl, fun w' hS' => ?y14⟩) hS ?_
              case y14 => (obtain ⟨s1, s2, s3, s4, s5, s6, s7⟩ := hS'; go_simp)
              simp only [Act.put, List.setIfInBounds_toArray, List.set_cons_zero, List.set_cons_succ]
              refine wpAnyH_take_d (i := 15) (v := .bool false) 162 rfl rfl (by kernel_rfl) (by kernel_rfl) (by kernel_rfl) (fun _ _ _ h => h) (Or.inl ⟨by kernel_rfl, fun w' hS' => ?y15⟩) hS ?_
              case y15 => (obtain ⟨s1, s2, s3, s4, s5, s6, s7⟩ := hS'; go_simp)
              simp only [Act.put, List.setIfInBounds_toArray, List.set_cons_zero, List.set_cons_succ]
              refine wpAnyH_take_d (i := 16) (v := undef) 163 rfl rfl (by kernel_rfl) (by kernel_rfl) (by kernel_rfl) (fun _ _ _ h => h) (Or.inr ⟨by kernel_rfl, rfl⟩) hS ?_
              simp only [Act.put, List.setIfInBounds_toArray, List.set_cons_zero, List.set_cons_succ]
              refine wpAnyH_take_d (i := 17) (v := undef) 164 rfl rfl (by kernel_rfl) (by kernel_rfl) (by kernel_rfl) (fun _ _ _ h => h) (Or.inr ⟨by kernel_rfl, rfl⟩) hS ?_
              simp only [Act.put, List.setIfInBounds_toArray, List.set_cons_zero, List.set_cons_succ]
              refine wpAnyH_take_d (i := 18) (v := undef) 165 rfl rfl (by kernel_rfl) (by kernel_rfl) (by kernel_rfl) (fun _ _ _ h => h) (Or.inr ⟨by kernel_rfl, rfl⟩) hS ?_
              simp only [Act.put, List.setIfInBounds_toArray, List.set_cons_zero, List.set_cons_succ]
              refine wpAnyH_take_d (i := 19) (v := undef) 166 rfl rfl (by kernel_rfl) (by kernel_rfl) (by kernel_rfl) (fun _ _ _ h => h) (Or.inr ⟨by kernel_rfl, rfl⟩) hS ?_
              simp only [Act.put, List.setIfInBounds_toArray, List.set_cons_zero, List.set_cons_succ]
              refine wpAnyH_take_d (i := 20) (v := undef) 167 rfl rfl (by kernel_rfl) (by kernel_rfl) (by kernel_rfl) (fun _ _ _ h => h) (Or.inr ⟨by kernel_rfl, rfl⟩) hS ?_
              simp only [Act.put, List.setIfInBounds_toArray, List.set_cons_zero, List.set_cons_succ]
              refine wpAnyH_take_d (i := 21) (v := undef) 168 rfl rfl (by kernel_rfl) (by kernel_rfl) (by kernel_rfl) (fun _ _ _ h => h) (Or.inr ⟨by kernel_rfl, rfl⟩) hS ?_
              simp only [Act.put, List.setIfInBounds_toArray, List.set_cons_zero, List.set_cons_succ]
              refine wpAnyH_take_d (i := 22) (v := undef) 169 rfl rfl (by kernel_rfl) (by kernel_rfl) (by kernel_rfl) (fun _ _ _ h => h) (Or.inr ⟨by kernel_rfl, rfl⟩) hS ?_
              simp only [Act.put, List.setIfInBounds_toArray, List.set_cons_zero, List.set_cons_succ]
              refine wpAnyH_take_d (i := 23) (v := undef) 170 rfl rfl (by kernel_rfl) (by kernel_rfl) (by kernel_rfl) (fun _ _ _ h => h) (Or.inr ⟨by kernel_rfl, rfl⟩) hS ?_
              simp only [Act.put, List.setIfInBounds_toArray, List.set_cons_zero, List.set_cons_succ]
              refine wpAnyH_take_d (i := 24) (v := undef) 171 rfl rfl (by kernel_rfl) (by kernel_rfl) (by kernel_rfl) (fun _ _ _ h => h) (Or.inr ⟨by kernel_rfl, rfl⟩) hS ?_
              simp only [Act.put, List.setIfInBounds_toArray, List.set_cons_zero, List.set_cons_succ]
              refine wpAnyH_take_d (i := 25) (v := undef) 172 rfl rfl (by kernel_rfl) (by kernel_rfl) (by kernel_rfl) (fun _ _ _ h => h) (Or.inr ⟨by kernel_rfl, rfl⟩) hS ?_
              simp only [Act.put, List.setIfInBounds_toArray, List.set_cons_zero, List.set_cons_succ]
              refine wpAnyH_take_d (i := 26) (v := undef) 173 rfl rfl (by kernel_rfl) (by kernel_rfl) (by kernel_rfl) (fun _ _ _ h => h) (Or.inr ⟨by kernel_rfl, rfl⟩) hS ?_
              simp only [Act.put, List.setIfInBounds_toArray, List.set_cons_zero, List.set_cons_succ]
              refine wpAnyH_take_d (i := 27) (v := undef) 174 rfl rfl (by kernel_rfl) (by kernel_rfl) (by kernel_rfl) (fun _ _ _ h => h) (Or.inr ⟨by kernel_rfl, rfl⟩) hS ?_
              simp only [Act.put, List.setIfInBounds_toArray, List.set_cons_zero, List.set_cons_succ]
              refine wpAnyH_take_d (i := 28) (v := undef) 175 rfl rfl (by kernel_rfl) (by kernel_rfl) (by kernel_rfl) (fun _ _ _ h => h) (Or.inr ⟨by kernel_rfl, rfl⟩) hS ?_
              simp only [Act.put, List.setIfInBounds_toArray, List.set_cons_zero, List.set_cons_succ]
              refine wpAnyH_take_d (i := 29) (v := undef) 176 rfl rfl (by kernel_rfl) (by kernel_rfl) (by kernel_rfl) (fun _ _ _ h => h) (Or.inr ⟨by kernel_rfl, rfl⟩) hS ?_
              simp only [Act.put, List.setIfInBounds_toArray, List.set_cons_zero, List.set_cons_succ]
              refine wpAnyH_take_d (i := 30) (v := undef) 177 rfl rfl (by kernel_rfl) (by kernel_rfl) (by kernel_rfl) (fun _ _ _ h => h) (Or.inr ⟨by kernel_rfl, rfl⟩) hS ?_
              simp only [Act.put, List.setIfInBounds_toArray, List.set_cons_zero, List.set_cons_succ]
              refine wpAnyH_take_d (i := 31) (v := undef) 178 rfl rfl (by kernel_rfl) (by kernel_rfl) (by kernel_rfl) (fun _ _ _ h => h) (Or.inr ⟨by kernel_rfl, rfl⟩) hS ?_
              simp only [Act.put, List.setIfInBounds_toArray, List.set_cons_zero, List.set_cons_succ]
              refine wpAnyH_take_d (i := 32) (v := .bool false) 179 rfl rfl (by kernel_rfl) (by kernel_rfl) (by kernel_rfl) (fun _ _ _ h => h) (Or.inl ⟨by kernel_rfl, fun w' hS' => ?y32⟩) hS ?_
              case y32 => (obtain ⟨s1, s2, s3, s4, s5, s6, s7⟩ := hS'; go_simp)
              simp only [Act.put, List.setIfInBounds_toArray, List.set_cons_zero, List.set_cons_succ]
              refine wpAnyH_take_d (i := 33) (v := .bool false) 180 rfl rfl (by kernel_rfl) (by kernel_rfl) (by kernel_rfl) (fun _ _ _ h => h) (Or.inl ⟨by kernel_rfl, fun w' hS' => ?y33⟩) hS ?_
              case y33 => (obtain ⟨s1, s2, s3, s4, s5, s6, s7⟩ := hS'; go_simp)
              simp only [Act.put, List.setIfInBounds_toArray, List.set_cons_zero, List.set_cons_succ]
              refine wpAnyH_take_d (i := 34) (v := .bool false) 181 rfl rfl (by kernel_rfl) (by kernel_rfl) (by kernel_rfl) (fun _ _ _ h => h) (Or.inl ⟨by kernel_rfl, fun w' hS' => ?y34⟩) hS ?_
              case y34 => (obtain ⟨s1, s2, s3, s4, s5, s6, s7⟩ := hS'; go_simp)
              simp only [Act.put, List.setIfInBounds_toArray, List.set_cons_zero, List.set_cons_succ]
              refine wpAnyH_take_d (i := 35) (v := .int .i64 (i : Nat)) 182 rfl rfl (by kernel_rfl) (by kernel_rfl) (by kernel_rfl) (fun _ _ _ h => h) (Or.inl ⟨by kernel_rfl, fun w' hS' => ?y35⟩) hS ?_
              case y35 => (obtain ⟨s1, s2, s3, s4, s5, s6, s7⟩ := hS'; go_simp)
              simp only [Act.put, List.setIfInBounds_toArray, List.set_cons_zero, List.set_cons_succ]
              refine wpAnyH_take_d (i := 36) (v := .int .i64 (k : Nat)) 183 rfl rfl (by kernel_rfl) (by kernel_rfl) (by kernel_rfl) (fun _ _ _ h => h) (Or.inl ⟨by kernel_rfl, fun w' hS' => ?y36⟩) hS ?_
              case y36 => (obtain ⟨s1, s2, s3, s4, s5, s6, s7⟩ := hS'; go_simp)
              simp only [Act.put, List.setIfInBounds_toArray, List.set_cons_zero, List.set_cons_succ]
              refine wpAnyH_take_d (i := 37) (v := .bool false) 184 rfl rfl (by kernel_rfl) (by kernel_rfl) (by kernel_rfl) (fun _ _ _ h => h) (Or.inl ⟨by kernel_rfl, fun w' hS' => ?y37⟩) hS ?_
              case y37 => (obtain ⟨s1, s2, s3, s4, s5, s6, s7⟩ := hS'; go_simp)
              simp only [Act.put, List.setIfInBounds_toArray, List.set_cons_zero, List.set_cons_succ]
              refine wpAnyH_take_d (i := 38) (v := .bool false) 185 rfl rfl (by kernel_rfl) (by kernel_rfl) (by kernel_rfl) (fun _ _ _ h => h) (Or.inl ⟨by kernel_rfl, fun w' hS' => ?y38⟩) hS ?_
              case y38 => (obtain ⟨s1, s2, s3, s4, s5, s6, s7⟩ := hS'; go_simp)
              simp only [Act.put, List.setIfInBounds_toArray, List.set_cons_zero, List.set_cons_succ]
              refine wpAnyH_take_d (i := 39) (v := undef) 186 rfl rfl (by kernel_rfl) (by kernel_rfl) (by kernel_rfl) (fun _ _ _ h => h) (Or.inr ⟨by kernel_rfl, rfl⟩) hS ?_
              simp only [Act.put, List.setIfInBounds_toArray, List.set_cons_zero, List.set_cons_succ]
              refine wpAnyH_take_d (i := 40) (v := undef) 187 rfl rfl (by kernel_rfl) (by kernel_rfl) (by kernel_rfl) (fun _ _ _ h => h) (Or.inr ⟨by kernel_rfl, rfl⟩) hS ?_
              simp only [Act.put, List.setIfInBounds_toArray, List.set_cons_zero, List.set_cons_succ]
              refine wpAnyH_take_d (i := 41) (v := undef) 188 rfl rfl (by kernel_rfl) (by kernel_rfl) (by kernel_rfl) (fun _ _ _ h => h) (Or.inr ⟨by kernel_rfl, rfl⟩) hS ?_
              simp only [Act.put, List.setIfInBounds_toArray, List.set_cons_zero, List.set_cons_succ]
              refine wpAnyH_take_d (i := 42) (v := undef) 189 rfl rfl (by kernel_rfl) (by kernel_rfl) (by kernel_rfl) (fun _ _ _ h => h) (Or.inr ⟨by kernel_rfl, rfl⟩) hS ?_
              simp only [Act.put, List.setIfInBounds_toArray, List.set_cons_zero, List.set_cons_succ]
              refine wpAnyH_take_d (i := 43) (v := undef) 190 rfl rfl (by kernel_rfl) (by kernel_rfl) (by kernel_rfl) (fun _ _ _ h => h) (Or.inr ⟨by kernel_rfl, rfl⟩) hS ?_
              simp only [Act.put, List.setIfInBounds_toArray, List.set_cons_zero, List.set_cons_succ]
              refine wpAnyH_take_d (i := 44) (v := undef) 191 rfl rfl (by kernel_rfl) (by kernel_rfl) (by kernel_rfl) (fun _ _ _ h => h) (Or.inr ⟨by kernel_rfl, rfl⟩) hS ?_
              simp only [Act.put, List.setIfInBounds_toArray, List.set_cons_zero, List.set_cons_succ]
              refine wpAnyH_take_d (i := 45) (v := undef) 192 rfl rfl (by kernel_rfl) (by kernel_rfl) (by kernel_rfl) (fun _ _ _ h => h) (Or.inr ⟨by kernel_rfl, rfl⟩) hS ?_
              simp only [Act.put, List.setIfInBounds_toArray, List.set_cons_zero, List.set_cons_succ]
              refine wpAnyH_take_d (i := 46) (v := undef) 193 rfl rfl (by kernel_rfl) (by kernel_rfl) (by kernel_rfl) (fun _ _ _ h => h) (Or.inr ⟨by kernel_rfl, rfl⟩) hS ?_
              simp only [Act.put, List.setIfInBounds_toArray, List.set_cons_zero, List.set_cons_succ]
              refine wpAnyH_take_d (i := 47) (v := undef) 194 rfl rfl (by kernel_rfl) (by kernel_rfl) (by kernel_rfl) (fun _ _ _ h => h) (Or.inr ⟨by kernel_rfl, rfl⟩) hS ?_
              simp only [Act.put, List.setIfInBounds_toArray, List.set_cons_zero, List.set_cons_succ]
              refine wpAnyH_take_d (i := 48) (v := undef) 195 rfl rfl (by kernel_rfl) (by kernel_rfl) (by kernel_rfl) (fun _ _ _ h => h) (Or.inr ⟨by kernel_rfl, rfl⟩) hS ?_
              simp only [Act.put, List.setIfInBounds_toArray, List.set_cons_zero, List.set_cons_succ]
              refine wpAnyH_take_d (i := 49) (v := undef) 196 rfl rfl (by kernel_rfl) (by kernel_rfl) (by kernel_rfl) (fun _ _ _ h => h) (Or.inr ⟨by kernel_rfl, rfl⟩) hS ?_
              simp only [Act.put, List.setIfInBounds_toArray, List.set_cons_zero, List.set_cons_succ]
              refine wpAnyH_take_d (i := 50) (v := undef) 197 rfl rfl (by kernel_rfl) (by kernel_rfl) (by kernel_rfl) (fun _ _ _ h => h) (Or.inr ⟨by kernel_rfl, rfl⟩) hS ?_
              simp only [Act.put, List.setIfInBounds_toArray, List.set_cons_zero, List.set_cons_succ]
              refine wpAnyH_take_d (i := 51) (v := undef) 198 rfl rfl (by kernel_rfl) (by kernel_rfl) (by kernel_rfl) (fun _ _ _ h => h) (Or.inr ⟨by kernel_rfl, rfl⟩) hS ?_
              simp only [Act.put, List.setIfInBounds_toArray, List.set_cons_zero, List.set_cons_succ]
              refine wpAnyH_take_d (i := 52) (v := undef) 199 rfl rfl (by kernel_rfl) (by kernel_rfl) (by kernel_rfl) (fun _ _ _ h => h) (Or.inr ⟨by kernel_rfl, rfl⟩) hS ?_
              simp only [Act.put, List.setIfInBounds_toArray, List.set_cons_zero, List.set_cons_succ]
              refine wpAnyH_take_d (i := 53) (v := undef) 200 rfl rfl (by kernel_rfl) (by kernel_rfl) (by kernel_rfl) (fun _ _ _ h => h) (Or.inr ⟨by kernel_rfl, rfl⟩) hS ?_
              simp only [Act.put, List.setIfInBounds_toArray, List.set_cons_zero, List.set_cons_succ]
              refine wpAnyH_take_d (i := 54) (v := undef) 201 rfl rfl (by kernel_rfl) (by kernel_rfl) (by kernel_rfl) (fun _ _ _ h => h) (Or.inr ⟨by kernel_rfl, rfl⟩) hS ?_
              simp only [Act.put, List.setIfInBounds_toArray, List.set_cons_zero, List.set_cons_succ]
              refine wpAnyH_take_d (i := 55) (v := undef) 202 rfl rfl (by kernel_rfl) (by kernel_rfl) (by kernel_rfl) (fun _ _ _ h => h) (Or.inr ⟨by kernel_rfl, rfl⟩) hS ?_
              simp only [Act.put, List.setIfInBounds_toArray, List.set_cons_zero, List.set_cons_succ]
              refine wpAnyH_take_d (i := 56) (v := undef) 203 rfl rfl (by kernel_rfl) (by kernel_rfl) (by kernel_rfl) (fun _ _ _ h => h) (Or.inr ⟨by kernel_rfl, rfl⟩) hS ?_
              simp only [Act.put, List.setIfInBounds_toArray, List.set_cons_zero, List.set_cons_succ]
              refine wpAnyH_take_d (i := 57) (v := undef) 204 rfl rfl (by kernel_rfl) (by kernel_rfl) (by kernel_rfl) (fun _ _ _ h => h) (Or.inr ⟨by kernel_rfl, rfl⟩) hS ?_
              simp only [Act.put, List.setIfInBounds_toArray, List.set_cons_zero, List.set_cons_succ]
              refine wpAnyH_take_d (i := 58) (v := undef) 205 rfl rfl (by kernel_rfl) (by kernel_rfl) (by kernel_rfl) (fun _ _ _ h => h) (Or.inr ⟨by kernel_rfl, rfl⟩) hS ?_
              simp only [Act.put, List.setIfInBounds_toArray, List.set_cons_zero, List.set_cons_succ]
              refine wpAnyH_take_d (i := 59) (v := undef) 206 rfl rfl (by kernel_rfl) (by kernel_rfl) (by kernel_rfl) (fun _ _ _ h => h) (Or.inr ⟨by kernel_rfl, rfl⟩) hS ?_
              simp only [Act.put, List.setIfInBounds_toArray, List.set_cons_zero, List.set_cons_succ]
              refine wpAnyH_take_d (i := 60) (v := undef) 207 rfl rfl (by kernel_rfl) (by kernel_rfl) (by kernel_rfl) (fun _ _ _ h => h) (Or.inr ⟨by kernel_rfl, rfl⟩) hS ?_
              simp only [Act.put, List.setIfInBounds_toArray, List.set_cons_zero, List.set_cons_succ]
              refine wpAnyH_take_d (i := 61) (v := undef) 208 rfl rfl (by kernel_rfl) (by kernel_rfl) (by kernel_rfl) (fun _ _ _ h => h) (Or.inr ⟨by kernel_rfl, rfl⟩) hS ?_
              simp only [Act.put, List.setIfInBounds_toArray, List.set_cons_zero, List.set_cons_succ]
              refine wpAnyH_take_d (i := 62) (v := undef) 209 rfl rfl (by kernel_rfl) (by kernel_rfl) (by kernel_rfl) (fun _ _ _ h => h) (Or.inr ⟨by kernel_rfl, rfl⟩) hS ?_
              simp only [Act.put, List.setIfInBounds_toArray, List.set_cons_zero, List.set_cons_succ]
              refine wpAnyH_take_d (i := 63) (v := undef) 210 rfl rfl (by kernel_rfl) (by kernel_rfl) (by kernel_rfl) (fun _ _ _ h => h) (Or.inr ⟨by kernel_rfl, rfl⟩) hS ?_
              simp only [Act.put, List.setIfInBounds_toArray, List.set_cons_zero, List.set_cons_succ]
              refine wpAnyH_take_d (i := 64) (v := undef) 211 rfl rfl (by kernel_rfl) (by kernel_rfl) (by kernel_rfl) (fun _ _ _ h => h) (Or.inr ⟨by kernel_rfl, rfl⟩) hS ?_
              simp only [Act.put, List.setIfInBounds_toArray, List.set_cons_zero, List.set_cons_succ]
              refine wpAnyH_take_d (i := 65) (v := undef) 212 rfl rfl (by kernel_rfl) (by kernel_rfl) (by kernel_rfl) (fun _ _ _ h => h) (Or.inr ⟨by kernel_rfl, rfl⟩) hS ?_
              simp only [Act.put, List.setIfInBounds_toArray, List.set_cons_zero, List.set_cons_succ]
              refine wpAnyH_take_d (i := 66) (v := undef) 213 rfl rfl (by kernel_rfl) (by kernel_rfl) (by kernel_rfl) (fun _ _ _ h => h) (Or.inr ⟨by kernel_rfl, rfl⟩) hS ?_
              simp only [Act.put, List.setIfInBounds_toArray, List.set_cons_zero, List.set_cons_succ]
              refine wpAnyH_take_d (i := 67) (v := undef) 214 rfl rfl (by kernel_rfl) (by kernel_rfl) (by kernel_rfl) (fun _ _ _ h => h) (Or.inr ⟨by kernel_rfl, rfl⟩) hS ?_
              simp only [Act.put, List.setIfInBounds_toArray, List.set_cons_zero, List.set_cons_succ]
              refine wpAnyH_take_d (i := 68) (v := undef) 215 rfl rfl (by kernel_rfl) (by kernel_rfl) (by kernel_rfl) (fun _ _ _ h => h) (Or.inr ⟨by kernel_rfl, rfl⟩) hS ?_
              simp only [Act.put, List.setIfInBounds_toArray, List.set_cons_zero, List.set_cons_succ]
              refine wpAnyH_take_d (i := 69) (v := undef) 216 rfl rfl (by kernel_rfl) (by kernel_rfl) (by kernel_rfl) (fun _ _ _ h => h) (Or.inr ⟨by kernel_rfl, rfl⟩) hS ?_
              simp only [Act.put, List.setIfInBounds_toArray, List.set_cons_zero, List.set_cons_succ]
              refine wpAnyH_take_d (i := 70) (v := undef) 217 rfl rfl (by kernel_rfl) (by kernel_rfl) (by kernel_rfl) (fun _ _ _ h => h) (Or.inr ⟨by kernel_rfl, rfl⟩) hS ?_
              simp only [Act.put, List.setIfInBounds_toArray, List.set_cons_zero, List.set_cons_succ]
              refine wpAnyH_take_d (i := 71) (v := .bool false) 218 rfl rfl (by kernel_rfl) (by kernel_rfl) (by kernel_rfl) (fun _ _ _ h => h) (Or.inl ⟨by kernel_rfl, fun w' hS' => ?y71⟩) hS ?_
              case y71 => (obtain ⟨s1, s2, s3, s4, s5, s6, s7⟩ := hS'; go_simp)
              simp only [Act.put, List.setIfInBounds_toArray, List.set_cons_zero, List.set_cons_succ]
              refine wpAnyH_take_d (i := 72) (v := .bool false) 219 rfl rfl (by kernel_rfl) (by kernel_rfl) (by kernel_rfl) (fun _ _ _ h => h) (Or.inl ⟨by kernel_rfl, fun w' hS' => ?y72⟩) hS ?_
              case y72 => (obtain ⟨s1, s2, s3, s4, s5, s6, s7⟩ := hS'; go_simp)
              simp only [Act.put, List.setIfInBounds_toArray, List.set_cons_zero, List.set_cons_succ]
              refine wpAnyH_done (by kernel_rfl) ?_ _
              refine hK0 _ _ ?_
              clear hK0 K0
              gi_wp2
              go_roundw
              case rel => exact ⟨i + 1, by go_num, by omega, (hB.alloc hB.size _).drew⟩
              case measure => simp [intOf]; omega
            · as_aux_lemma =>
              obtain ⟨y, hyx⟩ : ∃ y : Tk, y = ⟨4, t.a, t.a + n.size⟩ := ⟨_, rfl⟩
              have hy : M[i]? = some y := by rw [hik, hyx]; exact M2.out
              have hya : y.a = t.a := by rw [hyx]
              have hyz : y.z = t.a + n.size := by rw [hyx]
              have HTX : Hid (∀ W : World, Calls Tryd.prog 17 #[.agg #[.int .i64 (y.k : Nat), .int .i64 (y.a : Nat), .int .i64 (y.z : Nat)], .string (s.extract 0 t.a ++ n)] W fun e w' => e = .returned (.string n) ∧ Below W.heap.size W w') := Lib.hid (fun W => by
                have H := text_any (s.extract 0 y.a ++ n) (toZ y) W
                rw [tx_new (by omega) (by omega)] at H
                rw [← hya]
                exact H)
              have HIK := Lib.hid hik
              clear hik hyx hya hyz
              obtain ⟨b6, off6, rfl, hb6', f0, f1, f2⟩ := tok_at (hrm.below hB) hy
              have HY := Lib.hid hy
              gi_wp2
              rename_i K0 hK0 hTr
              clear hTr
              have hS : (fun W' => W'.cell? ⟨b6, off6 + i * 3, none⟩ = some (.int .i64 (y.k : Nat)) ∧ W'.cell? ⟨b6, off6 + i * 3 + 1, none⟩ = some (.int .i64 (y.a : Nat)) ∧ W'.cell? ⟨b6, off6 + i * 3 + 2, none⟩ = some (.int .i64 (y.z : Nat)) ∧ W'.cell? ⟨wr.heap.size, 0, none⟩ = some (.int .i64 (x.k : Nat)) ∧ W'.cell? ⟨wr.heap.size, 1, none⟩ = some (.int .i64 (x.a : Nat)) ∧ W'.cell? ⟨wr.heap.size, 2, none⟩ = some (.int .i64 (x.z : Nat)) ∧ W'.cell? ⟨b, off + k * 3 + 1, none⟩ = some (.int .i64 (t.a : Nat))) (wr.alloc (tkc x)).drew := by
                have hn := World.alloc_heap_new wr (tkc x)
                have lift : ∀ {p o : Nat} {v : Value}, wr.cell? ⟨p, o, none⟩ = some v → (wr.alloc (tkc x)).drew.cell? ⟨p, o, none⟩ = some v := fun {p o v} h => ((below1 wr (tkc x)).cell (p := ⟨p, o, none⟩) (lt_of_cell h)).trans h
                exact ⟨lift f0, lift f1, lift f2, Lib.cell_of_heap hn 0, Lib.cell_of_heap hn 1, Lib.cell_of_heap hn 2, lift ek⟩
              clear f0 f1 f2 e0 e1 e2 ek hb6' hb
              have hik := HIK.out
              have c1 : decide ((i : Int) < k) = false := decide_eq_false (by omega)
              have c2 : decide (i < k) = false := decide_eq_false (by omega)
              have c3 : ((i : Int) == k) = true := by rw [beqd]; exact decide_eq_true (by omega)
              have c4 : decide ((k : Int) < i) = false := decide_eq_false (by omega)
              have c5 : decide (k < i) = false := decide_eq_false (by omega)
              have nself : (n.toList == n.toList) = true := by simp
              clear hik
              refine wpIn_wide.2 (wp_region_noPanic (wp_region_held (S := fun W' => W'.cell? ⟨b6, off6 + i * 3, none⟩ = some (.int .i64 (y.k : Nat)) ∧ W'.cell? ⟨b6, off6 + i * 3 + 1, none⟩ = some (.int .i64 (y.a : Nat)) ∧ W'.cell? ⟨b6, off6 + i * 3 + 2, none⟩ = some (.int .i64 (y.z : Nat)) ∧ W'.cell? ⟨wr.heap.size, 0, none⟩ = some (.int .i64 (x.k : Nat)) ∧ W'.cell? ⟨wr.heap.size, 1, none⟩ = some (.int .i64 (x.a : Nat)) ∧ W'.cell? ⟨wr.heap.size, 2, none⟩ = some (.int .i64 (x.z : Nat)) ∧ W'.cell? ⟨b, off + k * 3 + 1, none⟩ = some (.int .i64 (t.a : Nat))) (by kernel_rfl) ?_))
              show wpAnyH _ _ _ _ _ _ _ _ (wr.alloc (tkc x)).drew
              refine wpAnyH_take_d (i := 0) (v := .int .i64 (i : Nat)) 147 rfl rfl (by kernel_rfl) (by kernel_rfl) (by kernel_rfl) (fun _ _ _ h => h) (Or.inl ⟨by kernel_rfl, fun w' hS' => ?y0⟩) hS ?_
              case y0 => (obtain ⟨s1, s2, s3, s4, s5, s6, s7⟩ := hS'; go_simp)
              simp only [Act.put, List.setIfInBounds_toArray, List.set_cons_zero, List.set_cons_succ]
              refine wpAnyH_take_d (i := 1) (v := .int .i64 (k : Nat)) 148 rfl rfl (by kernel_rfl) (by kernel_rfl) (by kernel_rfl) (fun _ _ _ h => h) (Or.inl ⟨by kernel_rfl, fun w' hS' => ?y1⟩) hS ?_
              case y1 => (obtain ⟨s1, s2, s3, s4, s5, s6, s7⟩ := hS'; go_simp)
              simp only [Act.put, List.setIfInBounds_toArray, List.set_cons_zero, List.set_cons_succ]
              refine wpAnyH_take_d (i := 2) (v := .bool false) 149 rfl rfl (by kernel_rfl) (by kernel_rfl) (by kernel_rfl) (fun _ _ _ h => h) (Or.inl ⟨by kernel_rfl, fun w' hS' => ?y2⟩) hS ?_
              case y2 => (obtain ⟨s1, s2, s3, s4, s5, s6, s7⟩ := hS'; go_simp)
              simp only [Act.put, List.setIfInBounds_toArray, List.set_cons_zero, List.set_cons_succ]
              refine wpAnyH_take_d (i := 3) (v := .bool false) 150 rfl rfl (by kernel_rfl) (by kernel_rfl) (by kernel_rfl) (fun _ _ _ h => h) (Or.inl ⟨by kernel_rfl, fun w' hS' => ?y3⟩) hS ?_
              case y3 => (obtain ⟨s1, s2, s3, s4, s5, s6, s7⟩ := hS'; go_simp)
              simp only [Act.put, List.setIfInBounds_toArray, List.set_cons_zero, List.set_cons_succ]
              refine wpAnyH_take_d (i := 4) (v := undef) 151 rfl rfl (by kernel_rfl) (by kernel_rfl) (by kernel_rfl) (fun _ _ _ h => h) (Or.inr ⟨by kernel_rfl, rfl⟩) hS ?_
              simp only [Act.put, List.setIfInBounds_toArray, List.set_cons_zero, List.set_cons_succ]
              refine wpAnyH_take_d (i := 5) (v := undef) 152 rfl rfl (by kernel_rfl) (by kernel_rfl) (by kernel_rfl) (fun _ _ _ h => h) (Or.inr ⟨by kernel_rfl, rfl⟩) hS ?_
              simp only [Act.put, List.setIfInBounds_toArray, List.set_cons_zero, List.set_cons_succ]
              refine wpAnyH_take_d (i := 6) (v := undef) 153 rfl rfl (by kernel_rfl) (by kernel_rfl) (by kernel_rfl) (fun _ _ _ h => h) (Or.inr ⟨by kernel_rfl, rfl⟩) hS ?_
              simp only [Act.put, List.setIfInBounds_toArray, List.set_cons_zero, List.set_cons_succ]
              refine wpAnyH_take_d (i := 7) (v := undef) 154 rfl rfl (by kernel_rfl) (by kernel_rfl) (by kernel_rfl) (fun _ _ _ h => h) (Or.inr ⟨by kernel_rfl, rfl⟩) hS ?_
              simp only [Act.put, List.setIfInBounds_toArray, List.set_cons_zero, List.set_cons_succ]
              refine wpAnyH_take_d (i := 8) (v := undef) 155 rfl rfl (by kernel_rfl) (by kernel_rfl) (by kernel_rfl) (fun _ _ _ h => h) (Or.inr ⟨by kernel_rfl, rfl⟩) hS ?_
              simp only [Act.put, List.setIfInBounds_toArray, List.set_cons_zero, List.set_cons_succ]
              refine wpAnyH_take_d (i := 9) (v := undef) 156 rfl rfl (by kernel_rfl) (by kernel_rfl) (by kernel_rfl) (fun _ _ _ h => h) (Or.inr ⟨by kernel_rfl, rfl⟩) hS ?_
              simp only [Act.put, List.setIfInBounds_toArray, List.set_cons_zero, List.set_cons_succ]
              refine wpAnyH_take_d (i := 10) (v := .bool false) 157 rfl rfl (by kernel_rfl) (by kernel_rfl) (by kernel_rfl) (fun _ _ _ h => h) (Or.inl ⟨by kernel_rfl, fun w' hS' => ?y10⟩) hS ?_
              case y10 => (obtain ⟨s1, s2, s3, s4, s5, s6, s7⟩ := hS'; go_simp)
              simp only [Act.put, List.setIfInBounds_toArray, List.set_cons_zero, List.set_cons_succ]
              refine wpAnyH_take_d (i := 11) (v := .bool false) 158 rfl rfl (by kernel_rfl) (by kernel_rfl) (by kernel_rfl) (fun _ _ _ h => h) (Or.inl ⟨by kernel_rfl, fun w' hS' => ?y11⟩) hS ?_
              case y11 => (obtain ⟨s1, s2, s3, s4, s5, s6, s7⟩ := hS'; go_simp)
              simp only [Act.put, List.setIfInBounds_toArray, List.set_cons_zero, List.set_cons_succ]
              refine wpAnyH_take_d (i := 12) (v := .int .i64 (i : Nat)) 159 rfl rfl (by kernel_rfl) (by kernel_rfl) (by kernel_rfl) (fun _ _ _ h => h) (Or.inl ⟨by kernel_rfl, fun w' hS' => ?y12⟩) hS ?_
              case y12 => (obtain ⟨s1, s2, s3, s4, s5, s6, s7⟩ := hS'; go_simp)
              simp only [Act.put, List.setIfInBounds_toArray, List.set_cons_zero, List.set_cons_succ]
              refine wpAnyH_take_d (i := 13) (v := .int .i64 (k : Nat)) 160 rfl rfl (by kernel_rfl) (by kernel_rfl) (by kernel_rfl) (fun _ _ _ h => h) (Or.inl ⟨by kernel_rfl, fun w' hS' => ?y13⟩) hS ?_
              case y13 => (obtain ⟨s1, s2, s3, s4, s5, s6, s7⟩ := hS'; go_simp)
              simp only [Act.put, List.setIfInBounds_toArray, List.set_cons_zero, List.set_cons_succ]
              refine wpAnyH_take_d (i := 14) (v := .bool true) 161 rfl rfl (by kernel_rfl) (by kernel_rfl) (by kernel_rfl) (fun _ _ _ h => h) (Or.inl ⟨by kernel_rfl, fun w' hS' => ?y14⟩) hS ?_
              case y14 => (obtain ⟨s1, s2, s3, s4, s5, s6, s7⟩ := hS'; go_simp)
              simp only [Act.put, List.setIfInBounds_toArray, List.set_cons_zero, List.set_cons_succ]
              refine wpAnyH_take_d (i := 15) (v := .bool true) 162 rfl rfl (by kernel_rfl) (by kernel_rfl) (by kernel_rfl) (fun _ _ _ h => h) (Or.inl ⟨by kernel_rfl, fun w' hS' => ?y15⟩) hS ?_
              case y15 => (obtain ⟨s1, s2, s3, s4, s5, s6, s7⟩ := hS'; go_simp)
              simp only [Act.put, List.setIfInBounds_toArray, List.set_cons_zero, List.set_cons_succ]
              refine wpAnyH_take_d (i := 16) (v := .slice (some ⟨b6, off6, none⟩) L.length c6) 163 rfl rfl (by kernel_rfl) (by kernel_rfl) (by kernel_rfl) (fun _ _ _ h => h) (Or.inl ⟨by kernel_rfl, fun w' hS' => ?y16⟩) hS ?_
              case y16 => (obtain ⟨s1, s2, s3, s4, s5, s6, s7⟩ := hS'; go_simp)
              simp only [Act.put, List.setIfInBounds_toArray, List.set_cons_zero, List.set_cons_succ]
              refine wpAnyH_take_d (i := 17) (v := .int .i64 (i : Nat)) 164 rfl rfl (by kernel_rfl) (by kernel_rfl) (by kernel_rfl) (fun _ _ _ h => h) (Or.inl ⟨by kernel_rfl, fun w' hS' => ?y17⟩) hS ?_
              case y17 => (obtain ⟨s1, s2, s3, s4, s5, s6, s7⟩ := hS'; go_simp)
              simp only [Act.put, List.setIfInBounds_toArray, List.set_cons_zero, List.set_cons_succ]
              refine wpAnyH_take_d (i := 18) (v := .pointer (some ⟨b6, off6 + i * 3, none⟩)) 165 rfl rfl (by kernel_rfl) (by kernel_rfl) (by kernel_rfl) (fun _ _ _ h => h) (Or.inl ⟨by kernel_rfl, fun w' hS' => ?y18⟩) hS ?_
              case y18 => (obtain ⟨s1, s2, s3, s4, s5, s6, s7⟩ := hS'; go_simp)
              simp only [Act.put, List.setIfInBounds_toArray, List.set_cons_zero, List.set_cons_succ]
              refine wpAnyH_take_d (i := 19) (v := .agg #[.int .i64 (y.k : Nat), .int .i64 (y.a : Nat), .int .i64 (y.z : Nat)]) 166 rfl rfl (by kernel_rfl) (by kernel_rfl) (by kernel_rfl) (fun _ _ _ h => h) (Or.inl ⟨by kernel_rfl, fun w' hS' => ?y19⟩) hS ?_
              case y19 => (obtain ⟨s1, s2, s3, s4, s5, s6, s7⟩ := hS'; go_simp)
              simp only [Act.put, List.setIfInBounds_toArray, List.set_cons_zero, List.set_cons_succ]
              refine wpAnyH_take_d (i := 20) (v := .string s) 167 rfl rfl (by kernel_rfl) (by kernel_rfl) (by kernel_rfl) (fun _ _ _ h => h) (Or.inl ⟨by kernel_rfl, fun w' hS' => ?y20⟩) hS ?_
              case y20 => (obtain ⟨s1, s2, s3, s4, s5, s6, s7⟩ := hS'; go_simp)
              simp only [Act.put, List.setIfInBounds_toArray, List.set_cons_zero, List.set_cons_succ]
              refine wpAnyH_take_d (i := 21) (v := .slice (some ⟨b, off, none⟩) L.length c) 168 rfl rfl (by kernel_rfl) (by kernel_rfl) (by kernel_rfl) (fun _ _ _ h => h) (Or.inl ⟨by kernel_rfl, fun w' hS' => ?y21⟩) hS ?_
              case y21 => (obtain ⟨s1, s2, s3, s4, s5, s6, s7⟩ := hS'; go_simp)
              simp only [Act.put, List.setIfInBounds_toArray, List.set_cons_zero, List.set_cons_succ]
              refine wpAnyH_take_d (i := 22) (v := .int .i64 (k : Nat)) 169 rfl rfl (by kernel_rfl) (by kernel_rfl) (by kernel_rfl) (fun _ _ _ h => h) (Or.inl ⟨by kernel_rfl, fun w' hS' => ?y22⟩) hS ?_
              case y22 => (obtain ⟨s1, s2, s3, s4, s5, s6, s7⟩ := hS'; go_simp)
              simp only [Act.put, List.setIfInBounds_toArray, List.set_cons_zero, List.set_cons_succ]
              refine wpAnyH_take_d (i := 23) (v := .pointer (some ⟨b, off + k * 3, none⟩)) 170 rfl rfl (by kernel_rfl) (by kernel_rfl) (by kernel_rfl) (fun _ _ _ h => h) (Or.inl ⟨by kernel_rfl, fun w' hS' => ?y23⟩) hS ?_
              case y23 => (obtain ⟨s1, s2, s3, s4, s5, s6, s7⟩ := hS'; go_simp)
              simp only [Act.put, List.setIfInBounds_toArray, List.set_cons_zero, List.set_cons_succ]
              refine wpAnyH_take_d (i := 24) (v := .pointer (some ⟨b, off + k * 3 + 1, none⟩)) 171 rfl rfl (by kernel_rfl) (by kernel_rfl) (by kernel_rfl) (fun _ _ _ h => h) (Or.inl ⟨by kernel_rfl, fun w' hS' => ?y24⟩) hS ?_
              case y24 => (obtain ⟨s1, s2, s3, s4, s5, s6, s7⟩ := hS'; go_simp)
              simp only [Act.put, List.setIfInBounds_toArray, List.set_cons_zero, List.set_cons_succ]
              refine wpAnyH_take_d (i := 25) (v := .int .i64 (t.a : Nat)) 172 rfl rfl (by kernel_rfl) (by kernel_rfl) (by kernel_rfl) (fun _ _ _ h => h) (Or.inl ⟨by kernel_rfl, fun w' hS' => ?y25⟩) hS ?_
              case y25 => (obtain ⟨s1, s2, s3, s4, s5, s6, s7⟩ := hS'; go_simp)
              simp only [Act.put, List.setIfInBounds_toArray, List.set_cons_zero, List.set_cons_succ]
              refine wpAnyH_take_d (i := 26) (v := .string (s.extract 0 t.a)) 173 rfl rfl (by kernel_rfl) (by kernel_rfl) (by kernel_rfl) (fun _ _ _ h => h) (Or.inl ⟨by kernel_rfl, fun w' hS' => ?y26⟩) hS ?_
              case y26 => (obtain ⟨s1, s2, s3, s4, s5, s6, s7⟩ := hS'; go_simp)
              simp only [Act.put, List.setIfInBounds_toArray, List.set_cons_zero, List.set_cons_succ]
              refine wpAnyH_take_d (i := 27) (v := .string n) 174 rfl rfl (by kernel_rfl) (by kernel_rfl) (by kernel_rfl) (fun _ _ _ h => h) (Or.inl ⟨by kernel_rfl, fun w' hS' => ?y27⟩) hS ?_
              case y27 => (obtain ⟨s1, s2, s3, s4, s5, s6, s7⟩ := hS'; go_simp)
              simp only [Act.put, List.setIfInBounds_toArray, List.set_cons_zero, List.set_cons_succ]
              refine wpAnyH_take_d (i := 28) (v := .string (s.extract 0 t.a ++ n)) 175 rfl rfl (by kernel_rfl) (by kernel_rfl) (by kernel_rfl) (fun _ _ _ h => h) (Or.inl ⟨by kernel_rfl, fun w' hS' => ?y28⟩) hS ?_
              case y28 => (obtain ⟨s1, s2, s3, s4, s5, s6, s7⟩ := hS'; go_simp)
              simp only [Act.put, List.setIfInBounds_toArray, List.set_cons_zero, List.set_cons_succ]
              refine wpAnyH_take_d (i := 30) (v := .string n) 177 rfl rfl (by kernel_rfl) (by kernel_rfl) (by kernel_rfl) (fun _ _ _ h => h) (Or.inl ⟨by kernel_rfl, fun w' hS' => ?y30⟩) hS ?_
              case y30 => (obtain ⟨s1, s2, s3, s4, s5, s6, s7⟩ := hS'; go_simp)
              simp only [Act.put, List.setIfInBounds_toArray, List.set_cons_zero, List.set_cons_succ]
              refine wpAnyH_ready (rs := [29]) (by kernel_rfl) (by simp) ?_
              refine AllReadyH.cons rfl (fun K hK => ?_) AllReadyH.nil
              go_simp
              refine (HTX.out _).mono ?_
              rintro e w7 ⟨rfl, hb7⟩
              have hS7 : (fun W' => W'.cell? ⟨b6, off6 + i * 3, none⟩ = some (.int .i64 (y.k : Nat)) ∧ W'.cell? ⟨b6, off6 + i * 3 + 1, none⟩ = some (.int .i64 (y.a : Nat)) ∧ W'.cell? ⟨b6, off6 + i * 3 + 2, none⟩ = some (.int .i64 (y.z : Nat)) ∧ W'.cell? ⟨wr.heap.size, 0, none⟩ = some (.int .i64 (x.k : Nat)) ∧ W'.cell? ⟨wr.heap.size, 1, none⟩ = some (.int .i64 (x.a : Nat)) ∧ W'.cell? ⟨wr.heap.size, 2, none⟩ = some (.int .i64 (x.z : Nat)) ∧ W'.cell? ⟨b, off + k * 3 + 1, none⟩ = some (.int .i64 (t.a : Nat))) w7 := ⟨(hb7.cell (lt_of_cell hS.1)).trans hS.1, (hb7.cell (lt_of_cell hS.2.1)).trans hS.2.1, (hb7.cell (lt_of_cell hS.2.2.1)).trans hS.2.2.1, (hb7.cell (lt_of_cell hS.2.2.2.1)).trans hS.2.2.2.1, (hb7.cell (lt_of_cell hS.2.2.2.2.1)).trans hS.2.2.2.2.1, (hb7.cell (lt_of_cell hS.2.2.2.2.2.1)).trans hS.2.2.2.2.2.1, (hb7.cell (lt_of_cell hS.2.2.2.2.2.2)).trans hS.2.2.2.2.2.2⟩
              refine hK.out _ _ hS7 (fun _ => ?_)
              clear hK K
              try simp only [Act.put, List.setIfInBounds_toArray, List.set_cons_zero, List.set_cons_succ]
              refine wpAnyH_take_d (i := 31) (v := .bool false) 178 rfl rfl (by kernel_rfl) (by kernel_rfl) (by kernel_rfl) (fun _ _ _ h => h) (Or.inl ⟨by kernel_rfl, fun w' hS' => ?y31⟩) hS7 ?_
              case y31 => (obtain ⟨s1, s2, s3, s4, s5, s6, s7⟩ := hS'; go_simp)
              simp only [Act.put, List.setIfInBounds_toArray, List.set_cons_zero, List.set_cons_succ]
              refine wpAnyH_take_d (i := 32) (v := .bool false) 179 rfl rfl (by kernel_rfl) (by kernel_rfl) (by kernel_rfl) (fun _ _ _ h => h) (Or.inl ⟨by kernel_rfl, fun w' hS' => ?y32⟩) hS7 ?_
              case y32 => (obtain ⟨s1, s2, s3, s4, s5, s6, s7⟩ := hS'; go_simp)
              simp only [Act.put, List.setIfInBounds_toArray, List.set_cons_zero, List.set_cons_succ]
              refine wpAnyH_take_d (i := 33) (v := .bool false) 180 rfl rfl (by kernel_rfl) (by kernel_rfl) (by kernel_rfl) (fun _ _ _ h => h) (Or.inl ⟨by kernel_rfl, fun w' hS' => ?y33⟩) hS7 ?_
              case y33 => (obtain ⟨s1, s2, s3, s4, s5, s6, s7⟩ := hS'; go_simp)
              simp only [Act.put, List.setIfInBounds_toArray, List.set_cons_zero, List.set_cons_succ]
              refine wpAnyH_take_d (i := 34) (v := .bool false) 181 rfl rfl (by kernel_rfl) (by kernel_rfl) (by kernel_rfl) (fun _ _ _ h => h) (Or.inl ⟨by kernel_rfl, fun w' hS' => ?y34⟩) hS7 ?_
              case y34 => (obtain ⟨s1, s2, s3, s4, s5, s6, s7⟩ := hS'; go_simp)
              simp only [Act.put, List.setIfInBounds_toArray, List.set_cons_zero, List.set_cons_succ]
              refine wpAnyH_take_d (i := 35) (v := .int .i64 (i : Nat)) 182 rfl rfl (by kernel_rfl) (by kernel_rfl) (by kernel_rfl) (fun _ _ _ h => h) (Or.inl ⟨by kernel_rfl, fun w' hS' => ?y35⟩) hS7 ?_
              case y35 => (obtain ⟨s1, s2, s3, s4, s5, s6, s7⟩ := hS'; go_simp)
              simp only [Act.put, List.setIfInBounds_toArray, List.set_cons_zero, List.set_cons_succ]
              refine wpAnyH_take_d (i := 36) (v := .int .i64 (k : Nat)) 183 rfl rfl (by kernel_rfl) (by kernel_rfl) (by kernel_rfl) (fun _ _ _ h => h) (Or.inl ⟨by kernel_rfl, fun w' hS' => ?y36⟩) hS7 ?_
              case y36 => (obtain ⟨s1, s2, s3, s4, s5, s6, s7⟩ := hS'; go_simp)
              simp only [Act.put, List.setIfInBounds_toArray, List.set_cons_zero, List.set_cons_succ]
              refine wpAnyH_take_d (i := 37) (v := .bool false) 184 rfl rfl (by kernel_rfl) (by kernel_rfl) (by kernel_rfl) (fun _ _ _ h => h) (Or.inl ⟨by kernel_rfl, fun w' hS' => ?y37⟩) hS7 ?_
              case y37 => (obtain ⟨s1, s2, s3, s4, s5, s6, s7⟩ := hS'; go_simp)
              simp only [Act.put, List.setIfInBounds_toArray, List.set_cons_zero, List.set_cons_succ]
              refine wpAnyH_take_d (i := 38) (v := .bool false) 185 rfl rfl (by kernel_rfl) (by kernel_rfl) (by kernel_rfl) (fun _ _ _ h => h) (Or.inl ⟨by kernel_rfl, fun w' hS' => ?y38⟩) hS7 ?_
              case y38 => (obtain ⟨s1, s2, s3, s4, s5, s6, s7⟩ := hS'; go_simp)
              simp only [Act.put, List.setIfInBounds_toArray, List.set_cons_zero, List.set_cons_succ]
              refine wpAnyH_take_d (i := 39) (v := undef) 186 rfl rfl (by kernel_rfl) (by kernel_rfl) (by kernel_rfl) (fun _ _ _ h => h) (Or.inr ⟨by kernel_rfl, rfl⟩) hS7 ?_
              simp only [Act.put, List.setIfInBounds_toArray, List.set_cons_zero, List.set_cons_succ]
              refine wpAnyH_take_d (i := 40) (v := undef) 187 rfl rfl (by kernel_rfl) (by kernel_rfl) (by kernel_rfl) (fun _ _ _ h => h) (Or.inr ⟨by kernel_rfl, rfl⟩) hS7 ?_
              simp only [Act.put, List.setIfInBounds_toArray, List.set_cons_zero, List.set_cons_succ]
              refine wpAnyH_take_d (i := 41) (v := undef) 188 rfl rfl (by kernel_rfl) (by kernel_rfl) (by kernel_rfl) (fun _ _ _ h => h) (Or.inr ⟨by kernel_rfl, rfl⟩) hS7 ?_
              simp only [Act.put, List.setIfInBounds_toArray, List.set_cons_zero, List.set_cons_succ]
              refine wpAnyH_take_d (i := 42) (v := undef) 189 rfl rfl (by kernel_rfl) (by kernel_rfl) (by kernel_rfl) (fun _ _ _ h => h) (Or.inr ⟨by kernel_rfl, rfl⟩) hS7 ?_
              simp only [Act.put, List.setIfInBounds_toArray, List.set_cons_zero, List.set_cons_succ]
              refine wpAnyH_take_d (i := 43) (v := undef) 190 rfl rfl (by kernel_rfl) (by kernel_rfl) (by kernel_rfl) (fun _ _ _ h => h) (Or.inr ⟨by kernel_rfl, rfl⟩) hS7 ?_
              simp only [Act.put, List.setIfInBounds_toArray, List.set_cons_zero, List.set_cons_succ]
              refine wpAnyH_take_d (i := 44) (v := undef) 191 rfl rfl (by kernel_rfl) (by kernel_rfl) (by kernel_rfl) (fun _ _ _ h => h) (Or.inr ⟨by kernel_rfl, rfl⟩) hS7 ?_
              simp only [Act.put, List.setIfInBounds_toArray, List.set_cons_zero, List.set_cons_succ]
              refine wpAnyH_take_d (i := 45) (v := undef) 192 rfl rfl (by kernel_rfl) (by kernel_rfl) (by kernel_rfl) (fun _ _ _ h => h) (Or.inr ⟨by kernel_rfl, rfl⟩) hS7 ?_
              simp only [Act.put, List.setIfInBounds_toArray, List.set_cons_zero, List.set_cons_succ]
              refine wpAnyH_take_d (i := 46) (v := undef) 193 rfl rfl (by kernel_rfl) (by kernel_rfl) (by kernel_rfl) (fun _ _ _ h => h) (Or.inr ⟨by kernel_rfl, rfl⟩) hS7 ?_
              simp only [Act.put, List.setIfInBounds_toArray, List.set_cons_zero, List.set_cons_succ]
              refine wpAnyH_take_d (i := 47) (v := undef) 194 rfl rfl (by kernel_rfl) (by kernel_rfl) (by kernel_rfl) (fun _ _ _ h => h) (Or.inr ⟨by kernel_rfl, rfl⟩) hS7 ?_
              simp only [Act.put, List.setIfInBounds_toArray, List.set_cons_zero, List.set_cons_succ]
              refine wpAnyH_take_d (i := 48) (v := undef) 195 rfl rfl (by kernel_rfl) (by kernel_rfl) (by kernel_rfl) (fun _ _ _ h => h) (Or.inr ⟨by kernel_rfl, rfl⟩) hS7 ?_
              simp only [Act.put, List.setIfInBounds_toArray, List.set_cons_zero, List.set_cons_succ]
              refine wpAnyH_take_d (i := 49) (v := undef) 196 rfl rfl (by kernel_rfl) (by kernel_rfl) (by kernel_rfl) (fun _ _ _ h => h) (Or.inr ⟨by kernel_rfl, rfl⟩) hS7 ?_
              simp only [Act.put, List.setIfInBounds_toArray, List.set_cons_zero, List.set_cons_succ]
              refine wpAnyH_take_d (i := 50) (v := undef) 197 rfl rfl (by kernel_rfl) (by kernel_rfl) (by kernel_rfl) (fun _ _ _ h => h) (Or.inr ⟨by kernel_rfl, rfl⟩) hS7 ?_
              simp only [Act.put, List.setIfInBounds_toArray, List.set_cons_zero, List.set_cons_succ]
              refine wpAnyH_take_d (i := 51) (v := undef) 198 rfl rfl (by kernel_rfl) (by kernel_rfl) (by kernel_rfl) (fun _ _ _ h => h) (Or.inr ⟨by kernel_rfl, rfl⟩) hS7 ?_
              simp only [Act.put, List.setIfInBounds_toArray, List.set_cons_zero, List.set_cons_succ]
              refine wpAnyH_take_d (i := 52) (v := undef) 199 rfl rfl (by kernel_rfl) (by kernel_rfl) (by kernel_rfl) (fun _ _ _ h => h) (Or.inr ⟨by kernel_rfl, rfl⟩) hS7 ?_
              simp only [Act.put, List.setIfInBounds_toArray, List.set_cons_zero, List.set_cons_succ]
              refine wpAnyH_take_d (i := 53) (v := undef) 200 rfl rfl (by kernel_rfl) (by kernel_rfl) (by kernel_rfl) (fun _ _ _ h => h) (Or.inr ⟨by kernel_rfl, rfl⟩) hS7 ?_
              simp only [Act.put, List.setIfInBounds_toArray, List.set_cons_zero, List.set_cons_succ]
              refine wpAnyH_take_d (i := 54) (v := undef) 201 rfl rfl (by kernel_rfl) (by kernel_rfl) (by kernel_rfl) (fun _ _ _ h => h) (Or.inr ⟨by kernel_rfl, rfl⟩) hS7 ?_
              simp only [Act.put, List.setIfInBounds_toArray, List.set_cons_zero, List.set_cons_succ]
              refine wpAnyH_take_d (i := 55) (v := undef) 202 rfl rfl (by kernel_rfl) (by kernel_rfl) (by kernel_rfl) (fun _ _ _ h => h) (Or.inr ⟨by kernel_rfl, rfl⟩) hS7 ?_
              simp only [Act.put, List.setIfInBounds_toArray, List.set_cons_zero, List.set_cons_succ]
              refine wpAnyH_take_d (i := 56) (v := undef) 203 rfl rfl (by kernel_rfl) (by kernel_rfl) (by kernel_rfl) (fun _ _ _ h => h) (Or.inr ⟨by kernel_rfl, rfl⟩) hS7 ?_
              simp only [Act.put, List.setIfInBounds_toArray, List.set_cons_zero, List.set_cons_succ]
              refine wpAnyH_take_d (i := 57) (v := undef) 204 rfl rfl (by kernel_rfl) (by kernel_rfl) (by kernel_rfl) (fun _ _ _ h => h) (Or.inr ⟨by kernel_rfl, rfl⟩) hS7 ?_
              simp only [Act.put, List.setIfInBounds_toArray, List.set_cons_zero, List.set_cons_succ]
              refine wpAnyH_take_d (i := 58) (v := undef) 205 rfl rfl (by kernel_rfl) (by kernel_rfl) (by kernel_rfl) (fun _ _ _ h => h) (Or.inr ⟨by kernel_rfl, rfl⟩) hS7 ?_
              simp only [Act.put, List.setIfInBounds_toArray, List.set_cons_zero, List.set_cons_succ]
              refine wpAnyH_take_d (i := 59) (v := undef) 206 rfl rfl (by kernel_rfl) (by kernel_rfl) (by kernel_rfl) (fun _ _ _ h => h) (Or.inr ⟨by kernel_rfl, rfl⟩) hS7 ?_
              simp only [Act.put, List.setIfInBounds_toArray, List.set_cons_zero, List.set_cons_succ]
              refine wpAnyH_take_d (i := 60) (v := undef) 207 rfl rfl (by kernel_rfl) (by kernel_rfl) (by kernel_rfl) (fun _ _ _ h => h) (Or.inr ⟨by kernel_rfl, rfl⟩) hS7 ?_
              simp only [Act.put, List.setIfInBounds_toArray, List.set_cons_zero, List.set_cons_succ]
              refine wpAnyH_take_d (i := 61) (v := undef) 208 rfl rfl (by kernel_rfl) (by kernel_rfl) (by kernel_rfl) (fun _ _ _ h => h) (Or.inr ⟨by kernel_rfl, rfl⟩) hS7 ?_
              simp only [Act.put, List.setIfInBounds_toArray, List.set_cons_zero, List.set_cons_succ]
              refine wpAnyH_take_d (i := 62) (v := undef) 209 rfl rfl (by kernel_rfl) (by kernel_rfl) (by kernel_rfl) (fun _ _ _ h => h) (Or.inr ⟨by kernel_rfl, rfl⟩) hS7 ?_
              simp only [Act.put, List.setIfInBounds_toArray, List.set_cons_zero, List.set_cons_succ]
              refine wpAnyH_take_d (i := 63) (v := undef) 210 rfl rfl (by kernel_rfl) (by kernel_rfl) (by kernel_rfl) (fun _ _ _ h => h) (Or.inr ⟨by kernel_rfl, rfl⟩) hS7 ?_
              simp only [Act.put, List.setIfInBounds_toArray, List.set_cons_zero, List.set_cons_succ]
              refine wpAnyH_take_d (i := 64) (v := undef) 211 rfl rfl (by kernel_rfl) (by kernel_rfl) (by kernel_rfl) (fun _ _ _ h => h) (Or.inr ⟨by kernel_rfl, rfl⟩) hS7 ?_
              simp only [Act.put, List.setIfInBounds_toArray, List.set_cons_zero, List.set_cons_succ]
              refine wpAnyH_take_d (i := 65) (v := undef) 212 rfl rfl (by kernel_rfl) (by kernel_rfl) (by kernel_rfl) (fun _ _ _ h => h) (Or.inr ⟨by kernel_rfl, rfl⟩) hS7 ?_
              simp only [Act.put, List.setIfInBounds_toArray, List.set_cons_zero, List.set_cons_succ]
              refine wpAnyH_take_d (i := 66) (v := undef) 213 rfl rfl (by kernel_rfl) (by kernel_rfl) (by kernel_rfl) (fun _ _ _ h => h) (Or.inr ⟨by kernel_rfl, rfl⟩) hS7 ?_
              simp only [Act.put, List.setIfInBounds_toArray, List.set_cons_zero, List.set_cons_succ]
              refine wpAnyH_take_d (i := 67) (v := undef) 214 rfl rfl (by kernel_rfl) (by kernel_rfl) (by kernel_rfl) (fun _ _ _ h => h) (Or.inr ⟨by kernel_rfl, rfl⟩) hS7 ?_
              simp only [Act.put, List.setIfInBounds_toArray, List.set_cons_zero, List.set_cons_succ]
              refine wpAnyH_take_d (i := 68) (v := undef) 215 rfl rfl (by kernel_rfl) (by kernel_rfl) (by kernel_rfl) (fun _ _ _ h => h) (Or.inr ⟨by kernel_rfl, rfl⟩) hS7 ?_
              simp only [Act.put, List.setIfInBounds_toArray, List.set_cons_zero, List.set_cons_succ]
              refine wpAnyH_take_d (i := 69) (v := undef) 216 rfl rfl (by kernel_rfl) (by kernel_rfl) (by kernel_rfl) (fun _ _ _ h => h) (Or.inr ⟨by kernel_rfl, rfl⟩) hS7 ?_
              simp only [Act.put, List.setIfInBounds_toArray, List.set_cons_zero, List.set_cons_succ]
              refine wpAnyH_take_d (i := 70) (v := undef) 217 rfl rfl (by kernel_rfl) (by kernel_rfl) (by kernel_rfl) (fun _ _ _ h => h) (Or.inr ⟨by kernel_rfl, rfl⟩) hS7 ?_
              simp only [Act.put, List.setIfInBounds_toArray, List.set_cons_zero, List.set_cons_succ]
              refine wpAnyH_take_d (i := 71) (v := .bool false) 218 rfl rfl (by kernel_rfl) (by kernel_rfl) (by kernel_rfl) (fun _ _ _ h => h) (Or.inl ⟨by kernel_rfl, fun w' hS' => ?y71⟩) hS7 ?_
              case y71 => (obtain ⟨s1, s2, s3, s4, s5, s6, s7⟩ := hS'; go_simp)
              simp only [Act.put, List.setIfInBounds_toArray, List.set_cons_zero, List.set_cons_succ]
              refine wpAnyH_take_d (i := 72) (v := .bool false) 219 rfl rfl (by kernel_rfl) (by kernel_rfl) (by kernel_rfl) (fun _ _ _ h => h) (Or.inl ⟨by kernel_rfl, fun w' hS' => ?y72⟩) hS7 ?_
              case y72 => (obtain ⟨s1, s2, s3, s4, s5, s6, s7⟩ := hS'; go_simp)
              simp only [Act.put, List.setIfInBounds_toArray, List.set_cons_zero, List.set_cons_succ]
              refine wpAnyH_done (by kernel_rfl) ?_ _
              refine hK0 _ _ ?_
              clear hK0 K0
              gi_wp2
              go_roundw
              case rel => exact ⟨i + 1, by go_num, by omega, (hB.alloc hB.size _).drew.trans (hb7.mono (by have := hB.size; simp; omega))⟩
              case measure => simp [intOf]; omega
            · as_aux_lemma =>
              obtain ⟨y, hy, hyk, hya, hyz⟩ := M3.out i x hik HX.out
              obtain ⟨b6, off6, rfl, hb6', f0, f1, f2⟩ := tok_at (hrm.below hB) hy
              have HY := Lib.hid hy
              gi_wp2
              rename_i K0 hK0 hTr
              clear hTr
              have hS : (fun W' => W'.cell? ⟨b6, off6 + i * 3, none⟩ = some (.int .i64 (y.k : Nat)) ∧ W'.cell? ⟨b6, off6 + i * 3 + 1, none⟩ = some (.int .i64 (y.a : Nat)) ∧ W'.cell? ⟨b6, off6 + i * 3 + 2, none⟩ = some (.int .i64 (y.z : Nat)) ∧ W'.cell? ⟨wr.heap.size, 0, none⟩ = some (.int .i64 (x.k : Nat)) ∧ W'.cell? ⟨wr.heap.size, 1, none⟩ = some (.int .i64 (x.a : Nat)) ∧ W'.cell? ⟨wr.heap.size, 2, none⟩ = some (.int .i64 (x.z : Nat)) ∧ W'.cell? ⟨b, off + k * 3 + 1, none⟩ = some (.int .i64 (t.a : Nat))) (wr.alloc (tkc x)).drew := by
                have hn := World.alloc_heap_new wr (tkc x)
                have lift : ∀ {p o : Nat} {v : Value}, wr.cell? ⟨p, o, none⟩ = some v → (wr.alloc (tkc x)).drew.cell? ⟨p, o, none⟩ = some v := fun {p o v} h => ((below1 wr (tkc x)).cell (p := ⟨p, o, none⟩) (lt_of_cell h)).trans h
                exact ⟨lift f0, lift f1, lift f2, Lib.cell_of_heap hn 0, Lib.cell_of_heap hn 1, Lib.cell_of_heap hn 2, lift ek⟩
              clear f0 f1 f2 e0 e1 e2 ek hb6' hb
              have c1 : decide ((i : Int) < k) = false := decide_eq_false (by omega)
              have c2 : decide (i < k) = false := decide_eq_false (by omega)
              have c3 : ((i : Int) == k) = false := by rw [beqd]; exact decide_eq_false (by omega)
              have c4 : decide ((k : Int) < i) = true := decide_eq_true (by omega)
              have c5 : decide (k < i) = true := decide_eq_true hik
              have n1 : ((y.k : Int) != x.k) = false := by rw [hyk]; simp
              have n2 : ((y.a : Int) != (x.a : Int) + ((n.size : Int) - ((t.z : Int) - t.a))) = false := by rw [hya]; simp
              have n3 : ((y.z : Int) != (x.z : Int) + ((n.size : Int) - ((t.z : Int) - t.a))) = false := by rw [hyz]; simp
              have wE : IntKind.i64.wrap ((x.a : Int) + ((n.size : Int) - ((t.z : Int) - t.a))) = (x.a : Int) + ((n.size : Int) - ((t.z : Int) - t.a)) := IntWalk.i64_in _ (by omega)
              have wF : IntKind.i64.wrap ((x.z : Int) + ((n.size : Int) - ((t.z : Int) - t.a))) = (x.z : Int) + ((n.size : Int) - ((t.z : Int) - t.a)) := IntWalk.i64_in _ (by omega)
              have wG : wrap64 ((x.a : Int) + ((n.size : Int) - ((t.z : Int) - t.a))) = (x.a : Int) + ((n.size : Int) - ((t.z : Int) - t.a)) := by unfold wrap64; omega
              have wH : wrap64 ((x.z : Int) + ((n.size : Int) - ((t.z : Int) - t.a))) = (x.z : Int) + ((n.size : Int) - ((t.z : Int) - t.a)) := by unfold wrap64; omega
              clear hyk hya hyz
              refine wpIn_wide.2 (wp_region_noPanic (wp_region_held (S := fun W' => W'.cell? ⟨b6, off6 + i * 3, none⟩ = some (.int .i64 (y.k : Nat)) ∧ W'.cell? ⟨b6, off6 + i * 3 + 1, none⟩ = some (.int .i64 (y.a : Nat)) ∧ W'.cell? ⟨b6, off6 + i * 3 + 2, none⟩ = some (.int .i64 (y.z : Nat)) ∧ W'.cell? ⟨wr.heap.size, 0, none⟩ = some (.int .i64 (x.k : Nat)) ∧ W'.cell? ⟨wr.heap.size, 1, none⟩ = some (.int .i64 (x.a : Nat)) ∧ W'.cell? ⟨wr.heap.size, 2, none⟩ = some (.int .i64 (x.z : Nat)) ∧ W'.cell? ⟨b, off + k * 3 + 1, none⟩ = some (.int .i64 (t.a : Nat))) (by kernel_rfl) ?_))
              show wpAnyH _ _ _ _ _ _ _ _ (wr.alloc (tkc x)).drew
              refine wpAnyH_take_d (i := 0) (v := .int .i64 (i : Nat)) 147 rfl rfl (by kernel_rfl) (by kernel_rfl) (by kernel_rfl) (fun _ _ _ h => h) (Or.inl ⟨by kernel_rfl, fun w' hS' => ?y0⟩) hS ?_
              case y0 => (obtain ⟨s1, s2, s3, s4, s5, s6, s7⟩ := hS'; go_simp)
              simp only [Act.put, List.setIfInBounds_toArray, List.set_cons_zero, List.set_cons_succ]
              refine wpAnyH_take_d (i := 1) (v := .int .i64 (k : Nat)) 148 rfl rfl (by kernel_rfl) (by kernel_rfl) (by kernel_rfl) (fun _ _ _ h => h) (Or.inl ⟨by kernel_rfl, fun w' hS' => ?y1⟩) hS ?_
              case y1 => (obtain ⟨s1, s2, s3, s4, s5, s6, s7⟩ := hS'; go_simp)
              simp only [Act.put, List.setIfInBounds_toArray, List.set_cons_zero, List.set_cons_succ]
              refine wpAnyH_take_d (i := 2) (v := .bool false) 149 rfl rfl (by kernel_rfl) (by kernel_rfl) (by kernel_rfl) (fun _ _ _ h => h) (Or.inl ⟨by kernel_rfl, fun w' hS' => ?y2⟩) hS ?_
              case y2 => (obtain ⟨s1, s2, s3, s4, s5, s6, s7⟩ := hS'; go_simp)
              simp only [Act.put, List.setIfInBounds_toArray, List.set_cons_zero, List.set_cons_succ]
              refine wpAnyH_take_d (i := 3) (v := .bool false) 150 rfl rfl (by kernel_rfl) (by kernel_rfl) (by kernel_rfl) (fun _ _ _ h => h) (Or.inl ⟨by kernel_rfl, fun w' hS' => ?y3⟩) hS ?_
              case y3 => (obtain ⟨s1, s2, s3, s4, s5, s6, s7⟩ := hS'; go_simp)
              simp only [Act.put, List.setIfInBounds_toArray, List.set_cons_zero, List.set_cons_succ]
              refine wpAnyH_take_d (i := 4) (v := undef) 151 rfl rfl (by kernel_rfl) (by kernel_rfl) (by kernel_rfl) (fun _ _ _ h => h) (Or.inr ⟨by kernel_rfl, rfl⟩) hS ?_
              simp only [Act.put, List.setIfInBounds_toArray, List.set_cons_zero, List.set_cons_succ]
              refine wpAnyH_take_d (i := 5) (v := undef) 152 rfl rfl (by kernel_rfl) (by kernel_rfl) (by kernel_rfl) (fun _ _ _ h => h) (Or.inr ⟨by kernel_rfl, rfl⟩) hS ?_
              simp only [Act.put, List.setIfInBounds_toArray, List.set_cons_zero, List.set_cons_succ]
              refine wpAnyH_take_d (i := 6) (v := undef) 153 rfl rfl (by kernel_rfl) (by kernel_rfl) (by kernel_rfl) (fun _ _ _ h => h) (Or.inr ⟨by kernel_rfl, rfl⟩) hS ?_
              simp only [Act.put, List.setIfInBounds_toArray, List.set_cons_zero, List.set_cons_succ]
              refine wpAnyH_take_d (i := 7) (v := undef) 154 rfl rfl (by kernel_rfl) (by kernel_rfl) (by kernel_rfl) (fun _ _ _ h => h) (Or.inr ⟨by kernel_rfl, rfl⟩) hS ?_
              simp only [Act.put, List.setIfInBounds_toArray, List.set_cons_zero, List.set_cons_succ]
              refine wpAnyH_take_d (i := 8) (v := undef) 155 rfl rfl (by kernel_rfl) (by kernel_rfl) (by kernel_rfl) (fun _ _ _ h => h) (Or.inr ⟨by kernel_rfl, rfl⟩) hS ?_
              simp only [Act.put, List.setIfInBounds_toArray, List.set_cons_zero, List.set_cons_succ]
              refine wpAnyH_take_d (i := 9) (v := undef) 156 rfl rfl (by kernel_rfl) (by kernel_rfl) (by kernel_rfl) (fun _ _ _ h => h) (Or.inr ⟨by kernel_rfl, rfl⟩) hS ?_
              simp only [Act.put, List.setIfInBounds_toArray, List.set_cons_zero, List.set_cons_succ]
              refine wpAnyH_take_d (i := 10) (v := .bool false) 157 rfl rfl (by kernel_rfl) (by kernel_rfl) (by kernel_rfl) (fun _ _ _ h => h) (Or.inl ⟨by kernel_rfl, fun w' hS' => ?y10⟩) hS ?_
              case y10 => (obtain ⟨s1, s2, s3, s4, s5, s6, s7⟩ := hS'; go_simp)
              simp only [Act.put, List.setIfInBounds_toArray, List.set_cons_zero, List.set_cons_succ]
              refine wpAnyH_take_d (i := 11) (v := .bool false) 158 rfl rfl (by kernel_rfl) (by kernel_rfl) (by kernel_rfl) (fun _ _ _ h => h) (Or.inl ⟨by kernel_rfl, fun w' hS' => ?y11⟩) hS ?_
              case y11 => (obtain ⟨s1, s2, s3, s4, s5, s6, s7⟩ := hS'; go_simp)
              simp only [Act.put, List.setIfInBounds_toArray, List.set_cons_zero, List.set_cons_succ]
              refine wpAnyH_take_d (i := 12) (v := .int .i64 (i : Nat)) 159 rfl rfl (by kernel_rfl) (by kernel_rfl) (by kernel_rfl) (fun _ _ _ h => h) (Or.inl ⟨by kernel_rfl, fun w' hS' => ?y12⟩) hS ?_
              case y12 => (obtain ⟨s1, s2, s3, s4, s5, s6, s7⟩ := hS'; go_simp)
              simp only [Act.put, List.setIfInBounds_toArray, List.set_cons_zero, List.set_cons_succ]
              refine wpAnyH_take_d (i := 13) (v := .int .i64 (k : Nat)) 160 rfl rfl (by kernel_rfl) (by kernel_rfl) (by kernel_rfl) (fun _ _ _ h => h) (Or.inl ⟨by kernel_rfl, fun w' hS' => ?y13⟩) hS ?_
              case y13 => (obtain ⟨s1, s2, s3, s4, s5, s6, s7⟩ := hS'; go_simp)
              simp only [Act.put, List.setIfInBounds_toArray, List.set_cons_zero, List.set_cons_succ]
              refine wpAnyH_take_d (i := 14) (v := .bool false) 161 rfl rfl (by kernel_rfl) (by kernel_rfl) (by kernel_rfl) (fun _ _ _ h => h) (Or.inl ⟨by kernel_rfl, fun w' hS' => ?y14⟩) hS ?_
              case y14 => (obtain ⟨s1, s2, s3, s4, s5, s6, s7⟩ := hS'; go_simp)
              simp only [Act.put, List.setIfInBounds_toArray, List.set_cons_zero, List.set_cons_succ]
              refine wpAnyH_take_d (i := 15) (v := .bool false) 162 rfl rfl (by kernel_rfl) (by kernel_rfl) (by kernel_rfl) (fun _ _ _ h => h) (Or.inl ⟨by kernel_rfl, fun w' hS' => ?y15⟩) hS ?_
              case y15 => (obtain ⟨s1, s2, s3, s4, s5, s6, s7⟩ := hS'; go_simp)
              simp only [Act.put, List.setIfInBounds_toArray, List.set_cons_zero, List.set_cons_succ]
              refine wpAnyH_take_d (i := 16) (v := undef) 163 rfl rfl (by kernel_rfl) (by kernel_rfl) (by kernel_rfl) (fun _ _ _ h => h) (Or.inr ⟨by kernel_rfl, rfl⟩) hS ?_
              simp only [Act.put, List.setIfInBounds_toArray, List.set_cons_zero, List.set_cons_succ]
              refine wpAnyH_take_d (i := 17) (v := undef) 164 rfl rfl (by kernel_rfl) (by kernel_rfl) (by kernel_rfl) (fun _ _ _ h => h) (Or.inr ⟨by kernel_rfl, rfl⟩) hS ?_
              simp only [Act.put, List.setIfInBounds_toArray, List.set_cons_zero, List.set_cons_succ]
              refine wpAnyH_take_d (i := 18) (v := undef) 165 rfl rfl (by kernel_rfl) (by kernel_rfl) (by kernel_rfl) (fun _ _ _ h => h) (Or.inr ⟨by kernel_rfl, rfl⟩) hS ?_
              simp only [Act.put, List.setIfInBounds_toArray, List.set_cons_zero, List.set_cons_succ]
              refine wpAnyH_take_d (i := 19) (v := undef) 166 rfl rfl (by kernel_rfl) (by kernel_rfl) (by kernel_rfl) (fun _ _ _ h => h) (Or.inr ⟨by kernel_rfl, rfl⟩) hS ?_
              simp only [Act.put, List.setIfInBounds_toArray, List.set_cons_zero, List.set_cons_succ]
              refine wpAnyH_take_d (i := 20) (v := undef) 167 rfl rfl (by kernel_rfl) (by kernel_rfl) (by kernel_rfl) (fun _ _ _ h => h) (Or.inr ⟨by kernel_rfl, rfl⟩) hS ?_
              simp only [Act.put, List.setIfInBounds_toArray, List.set_cons_zero, List.set_cons_succ]
              refine wpAnyH_take_d (i := 21) (v := undef) 168 rfl rfl (by kernel_rfl) (by kernel_rfl) (by kernel_rfl) (fun _ _ _ h => h) (Or.inr ⟨by kernel_rfl, rfl⟩) hS ?_
              simp only [Act.put, List.setIfInBounds_toArray, List.set_cons_zero, List.set_cons_succ]
              refine wpAnyH_take_d (i := 22) (v := undef) 169 rfl rfl (by kernel_rfl) (by kernel_rfl) (by kernel_rfl) (fun _ _ _ h => h) (Or.inr ⟨by kernel_rfl, rfl⟩) hS ?_
              simp only [Act.put, List.setIfInBounds_toArray, List.set_cons_zero, List.set_cons_succ]
              refine wpAnyH_take_d (i := 23) (v := undef) 170 rfl rfl (by kernel_rfl) (by kernel_rfl) (by kernel_rfl) (fun _ _ _ h => h) (Or.inr ⟨by kernel_rfl, rfl⟩) hS ?_
              simp only [Act.put, List.setIfInBounds_toArray, List.set_cons_zero, List.set_cons_succ]
              refine wpAnyH_take_d (i := 24) (v := undef) 171 rfl rfl (by kernel_rfl) (by kernel_rfl) (by kernel_rfl) (fun _ _ _ h => h) (Or.inr ⟨by kernel_rfl, rfl⟩) hS ?_
              simp only [Act.put, List.setIfInBounds_toArray, List.set_cons_zero, List.set_cons_succ]
              refine wpAnyH_take_d (i := 25) (v := undef) 172 rfl rfl (by kernel_rfl) (by kernel_rfl) (by kernel_rfl) (fun _ _ _ h => h) (Or.inr ⟨by kernel_rfl, rfl⟩) hS ?_
              simp only [Act.put, List.setIfInBounds_toArray, List.set_cons_zero, List.set_cons_succ]
              refine wpAnyH_take_d (i := 26) (v := undef) 173 rfl rfl (by kernel_rfl) (by kernel_rfl) (by kernel_rfl) (fun _ _ _ h => h) (Or.inr ⟨by kernel_rfl, rfl⟩) hS ?_
              simp only [Act.put, List.setIfInBounds_toArray, List.set_cons_zero, List.set_cons_succ]
              refine wpAnyH_take_d (i := 27) (v := undef) 174 rfl rfl (by kernel_rfl) (by kernel_rfl) (by kernel_rfl) (fun _ _ _ h => h) (Or.inr ⟨by kernel_rfl, rfl⟩) hS ?_
              simp only [Act.put, List.setIfInBounds_toArray, List.set_cons_zero, List.set_cons_succ]
              refine wpAnyH_take_d (i := 28) (v := undef) 175 rfl rfl (by kernel_rfl) (by kernel_rfl) (by kernel_rfl) (fun _ _ _ h => h) (Or.inr ⟨by kernel_rfl, rfl⟩) hS ?_
              simp only [Act.put, List.setIfInBounds_toArray, List.set_cons_zero, List.set_cons_succ]
              refine wpAnyH_take_d (i := 29) (v := undef) 176 rfl rfl (by kernel_rfl) (by kernel_rfl) (by kernel_rfl) (fun _ _ _ h => h) (Or.inr ⟨by kernel_rfl, rfl⟩) hS ?_
              simp only [Act.put, List.setIfInBounds_toArray, List.set_cons_zero, List.set_cons_succ]
              refine wpAnyH_take_d (i := 30) (v := undef) 177 rfl rfl (by kernel_rfl) (by kernel_rfl) (by kernel_rfl) (fun _ _ _ h => h) (Or.inr ⟨by kernel_rfl, rfl⟩) hS ?_
              simp only [Act.put, List.setIfInBounds_toArray, List.set_cons_zero, List.set_cons_succ]
              refine wpAnyH_take_d (i := 31) (v := undef) 178 rfl rfl (by kernel_rfl) (by kernel_rfl) (by kernel_rfl) (fun _ _ _ h => h) (Or.inr ⟨by kernel_rfl, rfl⟩) hS ?_
              simp only [Act.put, List.setIfInBounds_toArray, List.set_cons_zero, List.set_cons_succ]
              refine wpAnyH_take_d (i := 32) (v := .bool false) 179 rfl rfl (by kernel_rfl) (by kernel_rfl) (by kernel_rfl) (fun _ _ _ h => h) (Or.inl ⟨by kernel_rfl, fun w' hS' => ?y32⟩) hS ?_
              case y32 => (obtain ⟨s1, s2, s3, s4, s5, s6, s7⟩ := hS'; go_simp)
              simp only [Act.put, List.setIfInBounds_toArray, List.set_cons_zero, List.set_cons_succ]
              refine wpAnyH_take_d (i := 33) (v := .bool false) 180 rfl rfl (by kernel_rfl) (by kernel_rfl) (by kernel_rfl) (fun _ _ _ h => h) (Or.inl ⟨by kernel_rfl, fun w' hS' => ?y33⟩) hS ?_
              case y33 => (obtain ⟨s1, s2, s3, s4, s5, s6, s7⟩ := hS'; go_simp)
              simp only [Act.put, List.setIfInBounds_toArray, List.set_cons_zero, List.set_cons_succ]
              refine wpAnyH_take_d (i := 34) (v := .bool false) 181 rfl rfl (by kernel_rfl) (by kernel_rfl) (by kernel_rfl) (fun _ _ _ h => h) (Or.inl ⟨by kernel_rfl, fun w' hS' => ?y34⟩) hS ?_
              case y34 => (obtain ⟨s1, s2, s3, s4, s5, s6, s7⟩ := hS'; go_simp)
              simp only [Act.put, List.setIfInBounds_toArray, List.set_cons_zero, List.set_cons_succ]
              refine wpAnyH_take_d (i := 35) (v := .int .i64 (i : Nat)) 182 rfl rfl (by kernel_rfl) (by kernel_rfl) (by kernel_rfl) (fun _ _ _ h => h) (Or.inl ⟨by kernel_rfl, fun w' hS' => ?y35⟩) hS ?_
              case y35 => (obtain ⟨s1, s2, s3, s4, s5, s6, s7⟩ := hS'; go_simp)
              simp only [Act.put, List.setIfInBounds_toArray, List.set_cons_zero, List.set_cons_succ]
              refine wpAnyH_take_d (i := 36) (v := .int .i64 (k : Nat)) 183 rfl rfl (by kernel_rfl) (by kernel_rfl) (by kernel_rfl) (fun _ _ _ h => h) (Or.inl ⟨by kernel_rfl, fun w' hS' => ?y36⟩) hS ?_
              case y36 => (obtain ⟨s1, s2, s3, s4, s5, s6, s7⟩ := hS'; go_simp)
              simp only [Act.put, List.setIfInBounds_toArray, List.set_cons_zero, List.set_cons_succ]
              refine wpAnyH_take_d (i := 37) (v := .bool true) 184 rfl rfl (by kernel_rfl) (by kernel_rfl) (by kernel_rfl) (fun _ _ _ h => h) (Or.inl ⟨by kernel_rfl, fun w' hS' => ?y37⟩) hS ?_
              case y37 => (obtain ⟨s1, s2, s3, s4, s5, s6, s7⟩ := hS'; go_simp)
              simp only [Act.put, List.setIfInBounds_toArray, List.set_cons_zero, List.set_cons_succ]
              refine wpAnyH_take_d (i := 38) (v := .bool true) 185 rfl rfl (by kernel_rfl) (by kernel_rfl) (by kernel_rfl) (fun _ _ _ h => h) (Or.inl ⟨by kernel_rfl, fun w' hS' => ?y38⟩) hS ?_
              case y38 => (obtain ⟨s1, s2, s3, s4, s5, s6, s7⟩ := hS'; go_simp)
              simp only [Act.put, List.setIfInBounds_toArray, List.set_cons_zero, List.set_cons_succ]
              refine wpAnyH_take_d (i := 39) (v := .slice (some ⟨b6, off6, none⟩) L.length c6) 186 rfl rfl (by kernel_rfl) (by kernel_rfl) (by kernel_rfl) (fun _ _ _ h => h) (Or.inl ⟨by kernel_rfl, fun w' hS' => ?y39⟩) hS ?_
              case y39 => (obtain ⟨s1, s2, s3, s4, s5, s6, s7⟩ := hS'; go_simp)
              simp only [Act.put, List.setIfInBounds_toArray, List.set_cons_zero, List.set_cons_succ]
              refine wpAnyH_take_d (i := 40) (v := .int .i64 (i : Nat)) 187 rfl rfl (by kernel_rfl) (by kernel_rfl) (by kernel_rfl) (fun _ _ _ h => h) (Or.inl ⟨by kernel_rfl, fun w' hS' => ?y40⟩) hS ?_
              case y40 => (obtain ⟨s1, s2, s3, s4, s5, s6, s7⟩ := hS'; go_simp)
              simp only [Act.put, List.setIfInBounds_toArray, List.set_cons_zero, List.set_cons_succ]
              refine wpAnyH_take_d (i := 41) (v := .pointer (some ⟨b6, off6 + i * 3, none⟩)) 188 rfl rfl (by kernel_rfl) (by kernel_rfl) (by kernel_rfl) (fun _ _ _ h => h) (Or.inl ⟨by kernel_rfl, fun w' hS' => ?y41⟩) hS ?_
              case y41 => (obtain ⟨s1, s2, s3, s4, s5, s6, s7⟩ := hS'; go_simp)
              simp only [Act.put, List.setIfInBounds_toArray, List.set_cons_zero, List.set_cons_succ]
              refine wpAnyH_take_d (i := 42) (v := .pointer (some ⟨b6, off6 + i * 3, none⟩)) 189 rfl rfl (by kernel_rfl) (by kernel_rfl) (by kernel_rfl) (fun _ _ _ h => h) (Or.inl ⟨by kernel_rfl, fun w' hS' => ?y42⟩) hS ?_
              case y42 => (obtain ⟨s1, s2, s3, s4, s5, s6, s7⟩ := hS'; go_simp)
              simp only [Act.put, List.setIfInBounds_toArray, List.set_cons_zero, List.set_cons_succ]
              refine wpAnyH_take_d (i := 43) (v := .int .i64 (y.k : Nat)) 190 rfl rfl (by kernel_rfl) (by kernel_rfl) (by kernel_rfl) (fun _ _ _ h => h) (Or.inl ⟨by kernel_rfl, fun w' hS' => ?y43⟩) hS ?_
              case y43 => (obtain ⟨s1, s2, s3, s4, s5, s6, s7⟩ := hS'; go_simp)
              simp only [Act.put, List.setIfInBounds_toArray, List.set_cons_zero, List.set_cons_succ]
              refine wpAnyH_take_d (i := 44) (v := .pointer (some ⟨wr.heap.size, 0, none⟩)) 191 rfl rfl (by kernel_rfl) (by kernel_rfl) (by kernel_rfl) (fun _ _ _ h => h) (Or.inl ⟨by kernel_rfl, fun w' hS' => ?y44⟩) hS ?_
              case y44 => (obtain ⟨s1, s2, s3, s4, s5, s6, s7⟩ := hS'; go_simp)
              simp only [Act.put, List.setIfInBounds_toArray, List.set_cons_zero, List.set_cons_succ]
              refine wpAnyH_take_d (i := 45) (v := .int .i64 (x.k : Nat)) 192 rfl rfl (by kernel_rfl) (by kernel_rfl) (by kernel_rfl) (fun _ _ _ h => h) (Or.inl ⟨by kernel_rfl, fun w' hS' => ?y45⟩) hS ?_
              case y45 => (obtain ⟨s1, s2, s3, s4, s5, s6, s7⟩ := hS'; go_simp)
              simp only [Act.put, List.setIfInBounds_toArray, List.set_cons_zero, List.set_cons_succ]
              refine wpAnyH_take_d (i := 46) (v := .bool false) 193 rfl rfl (by kernel_rfl) (by kernel_rfl) (by kernel_rfl) (fun _ _ _ h => h) (Or.inl ⟨by kernel_rfl, fun w' hS' => ?y46⟩) hS ?_
              case y46 => (obtain ⟨s1, s2, s3, s4, s5, s6, s7⟩ := hS'; go_simp)
              simp only [Act.put, List.setIfInBounds_toArray, List.set_cons_zero, List.set_cons_succ]
              refine wpAnyH_take_d (i := 47) (v := .bool false) 194 rfl rfl (by kernel_rfl) (by kernel_rfl) (by kernel_rfl) (fun _ _ _ h => h) (Or.inl ⟨by kernel_rfl, fun w' hS' => ?y47⟩) hS ?_
              case y47 => (obtain ⟨s1, s2, s3, s4, s5, s6, s7⟩ := hS'; go_simp)
              simp only [Act.put, List.setIfInBounds_toArray, List.set_cons_zero, List.set_cons_succ]
              refine wpAnyH_take_d (i := 48) (v := .slice (some ⟨b6, off6, none⟩) L.length c6) 195 rfl rfl (by kernel_rfl) (by kernel_rfl) (by kernel_rfl) (fun _ _ _ h => h) (Or.inl ⟨by kernel_rfl, fun w' hS' => ?y48⟩) hS ?_
              case y48 => (obtain ⟨s1, s2, s3, s4, s5, s6, s7⟩ := hS'; go_simp)
              simp only [Act.put, List.setIfInBounds_toArray, List.set_cons_zero, List.set_cons_succ]
              refine wpAnyH_take_d (i := 49) (v := .int .i64 (i : Nat)) 196 rfl rfl (by kernel_rfl) (by kernel_rfl) (by kernel_rfl) (fun _ _ _ h => h) (Or.inl ⟨by kernel_rfl, fun w' hS' => ?y49⟩) hS ?_
              case y49 => (obtain ⟨s1, s2, s3, s4, s5, s6, s7⟩ := hS'; go_simp)
              simp only [Act.put, List.setIfInBounds_toArray, List.set_cons_zero, List.set_cons_succ]
              refine wpAnyH_take_d (i := 50) (v := .pointer (some ⟨b6, off6 + i * 3, none⟩)) 197 rfl rfl (by kernel_rfl) (by kernel_rfl) (by kernel_rfl) (fun _ _ _ h => h) (Or.inl ⟨by kernel_rfl, fun w' hS' => ?y50⟩) hS ?_
              case y50 => (obtain ⟨s1, s2, s3, s4, s5, s6, s7⟩ := hS'; go_simp)
              simp only [Act.put, List.setIfInBounds_toArray, List.set_cons_zero, List.set_cons_succ]
              refine wpAnyH_take_d (i := 51) (v := .pointer (some ⟨b6, off6 + i * 3 + 1, none⟩)) 198 rfl rfl (by kernel_rfl) (by kernel_rfl) (by kernel_rfl) (fun _ _ _ h => h) (Or.inl ⟨by kernel_rfl, fun w' hS' => ?y51⟩) hS ?_
              case y51 => (obtain ⟨s1, s2, s3, s4, s5, s6, s7⟩ := hS'; go_simp)
              simp only [Act.put, List.setIfInBounds_toArray, List.set_cons_zero, List.set_cons_succ]
              refine wpAnyH_take_d (i := 52) (v := .int .i64 (y.a : Nat)) 199 rfl rfl (by kernel_rfl) (by kernel_rfl) (by kernel_rfl) (fun _ _ _ h => h) (Or.inl ⟨by kernel_rfl, fun w' hS' => ?y52⟩) hS ?_
              case y52 => (obtain ⟨s1, s2, s3, s4, s5, s6, s7⟩ := hS'; go_simp)
              simp only [Act.put, List.setIfInBounds_toArray, List.set_cons_zero, List.set_cons_succ]
              refine wpAnyH_take_d (i := 53) (v := .pointer (some ⟨wr.heap.size, 1, none⟩)) 200 rfl rfl (by kernel_rfl) (by kernel_rfl) (by kernel_rfl) (fun _ _ _ h => h) (Or.inl ⟨by kernel_rfl, fun w' hS' => ?y53⟩) hS ?_
              case y53 => (obtain ⟨s1, s2, s3, s4, s5, s6, s7⟩ := hS'; go_simp)
              simp only [Act.put, List.setIfInBounds_toArray, List.set_cons_zero, List.set_cons_succ]
              refine wpAnyH_take_d (i := 54) (v := .int .i64 (x.a : Nat)) 201 rfl rfl (by kernel_rfl) (by kernel_rfl) (by kernel_rfl) (fun _ _ _ h => h) (Or.inl ⟨by kernel_rfl, fun w' hS' => ?y54⟩) hS ?_
              case y54 => (obtain ⟨s1, s2, s3, s4, s5, s6, s7⟩ := hS'; go_simp)
              simp only [Act.put, List.setIfInBounds_toArray, List.set_cons_zero, List.set_cons_succ]
              refine wpAnyH_take_d (i := 55) (v := .int .i64 ((n.size : Int) - ((t.z : Int) - t.a))) 202 rfl rfl (by kernel_rfl) (by kernel_rfl) (by kernel_rfl) (fun _ _ _ h => h) (Or.inl ⟨by kernel_rfl, fun w' hS' => ?y55⟩) hS ?_
              case y55 => (obtain ⟨s1, s2, s3, s4, s5, s6, s7⟩ := hS'; go_simp)
              simp only [Act.put, List.setIfInBounds_toArray, List.set_cons_zero, List.set_cons_succ]
              refine wpAnyH_take_d (i := 56) (v := .int .i64 ((x.a : Int) + ((n.size : Int) - ((t.z : Int) - t.a)))) 203 rfl rfl (by kernel_rfl) (by kernel_rfl) (by kernel_rfl) (fun _ _ _ h => h) (Or.inl ⟨by kernel_rfl, fun w' hS' => ?y56⟩) hS ?_
              case y56 => (obtain ⟨s1, s2, s3, s4, s5, s6, s7⟩ := hS'; go_simp)
              simp only [Act.put, List.setIfInBounds_toArray, List.set_cons_zero, List.set_cons_succ]
              refine wpAnyH_take_d (i := 57) (v := .bool false) 204 rfl rfl (by kernel_rfl) (by kernel_rfl) (by kernel_rfl) (fun _ _ _ h => h) (Or.inl ⟨by kernel_rfl, fun w' hS' => ?y57⟩) hS ?_
              case y57 => (obtain ⟨s1, s2, s3, s4, s5, s6, s7⟩ := hS'; go_simp)
              simp only [Act.put, List.setIfInBounds_toArray, List.set_cons_zero, List.set_cons_succ]
              refine wpAnyH_take_d (i := 58) (v := .bool false) 205 rfl rfl (by kernel_rfl) (by kernel_rfl) (by kernel_rfl) (fun _ _ _ h => h) (Or.inl ⟨by kernel_rfl, fun w' hS' => ?y58⟩) hS ?_
              case y58 => (obtain ⟨s1, s2, s3, s4, s5, s6, s7⟩ := hS'; go_simp)
              simp only [Act.put, List.setIfInBounds_toArray, List.set_cons_zero, List.set_cons_succ]
              refine wpAnyH_take_d (i := 59) (v := .bool false) 206 rfl rfl (by kernel_rfl) (by kernel_rfl) (by kernel_rfl) (fun _ _ _ h => h) (Or.inl ⟨by kernel_rfl, fun w' hS' => ?y59⟩) hS ?_
              case y59 => (obtain ⟨s1, s2, s3, s4, s5, s6, s7⟩ := hS'; go_simp)
              simp only [Act.put, List.setIfInBounds_toArray, List.set_cons_zero, List.set_cons_succ]
              refine wpAnyH_take_d (i := 60) (v := .slice (some ⟨b6, off6, none⟩) L.length c6) 207 rfl rfl (by kernel_rfl) (by kernel_rfl) (by kernel_rfl) (fun _ _ _ h => h) (Or.inl ⟨by kernel_rfl, fun w' hS' => ?y60⟩) hS ?_
              case y60 => (obtain ⟨s1, s2, s3, s4, s5, s6, s7⟩ := hS'; go_simp)
              simp only [Act.put, List.setIfInBounds_toArray, List.set_cons_zero, List.set_cons_succ]
              refine wpAnyH_take_d (i := 61) (v := .int .i64 (i : Nat)) 208 rfl rfl (by kernel_rfl) (by kernel_rfl) (by kernel_rfl) (fun _ _ _ h => h) (Or.inl ⟨by kernel_rfl, fun w' hS' => ?y61⟩) hS ?_
              case y61 => (obtain ⟨s1, s2, s3, s4, s5, s6, s7⟩ := hS'; go_simp)
              simp only [Act.put, List.setIfInBounds_toArray, List.set_cons_zero, List.set_cons_succ]
              refine wpAnyH_take_d (i := 62) (v := .pointer (some ⟨b6, off6 + i * 3, none⟩)) 209 rfl rfl (by kernel_rfl) (by kernel_rfl) (by kernel_rfl) (fun _ _ _ h => h) (Or.inl ⟨by kernel_rfl, fun w' hS' => ?y62⟩) hS ?_
              case y62 => (obtain ⟨s1, s2, s3, s4, s5, s6, s7⟩ := hS'; go_simp)
              simp only [Act.put, List.setIfInBounds_toArray, List.set_cons_zero, List.set_cons_succ]
              refine wpAnyH_take_d (i := 63) (v := .pointer (some ⟨b6, off6 + i * 3 + 2, none⟩)) 210 rfl rfl (by kernel_rfl) (by kernel_rfl) (by kernel_rfl) (fun _ _ _ h => h) (Or.inl ⟨by kernel_rfl, fun w' hS' => ?y63⟩) hS ?_
              case y63 => (obtain ⟨s1, s2, s3, s4, s5, s6, s7⟩ := hS'; go_simp)
              simp only [Act.put, List.setIfInBounds_toArray, List.set_cons_zero, List.set_cons_succ]
              refine wpAnyH_take_d (i := 64) (v := .int .i64 (y.z : Nat)) 211 rfl rfl (by kernel_rfl) (by kernel_rfl) (by kernel_rfl) (fun _ _ _ h => h) (Or.inl ⟨by kernel_rfl, fun w' hS' => ?y64⟩) hS ?_
              case y64 => (obtain ⟨s1, s2, s3, s4, s5, s6, s7⟩ := hS'; go_simp)
              simp only [Act.put, List.setIfInBounds_toArray, List.set_cons_zero, List.set_cons_succ]
              refine wpAnyH_take_d (i := 65) (v := .pointer (some ⟨wr.heap.size, 2, none⟩)) 212 rfl rfl (by kernel_rfl) (by kernel_rfl) (by kernel_rfl) (fun _ _ _ h => h) (Or.inl ⟨by kernel_rfl, fun w' hS' => ?y65⟩) hS ?_
              case y65 => (obtain ⟨s1, s2, s3, s4, s5, s6, s7⟩ := hS'; go_simp)
              simp only [Act.put, List.setIfInBounds_toArray, List.set_cons_zero, List.set_cons_succ]
              refine wpAnyH_take_d (i := 66) (v := .int .i64 (x.z : Nat)) 213 rfl rfl (by kernel_rfl) (by kernel_rfl) (by kernel_rfl) (fun _ _ _ h => h) (Or.inl ⟨by kernel_rfl, fun w' hS' => ?y66⟩) hS ?_
              case y66 => (obtain ⟨s1, s2, s3, s4, s5, s6, s7⟩ := hS'; go_simp)
              simp only [Act.put, List.setIfInBounds_toArray, List.set_cons_zero, List.set_cons_succ]
              refine wpAnyH_take_d (i := 67) (v := .int .i64 ((n.size : Int) - ((t.z : Int) - t.a))) 214 rfl rfl (by kernel_rfl) (by kernel_rfl) (by kernel_rfl) (fun _ _ _ h => h) (Or.inl ⟨by kernel_rfl, fun w' hS' => ?y67⟩) hS ?_
              case y67 => (obtain ⟨s1, s2, s3, s4, s5, s6, s7⟩ := hS'; go_simp)
              simp only [Act.put, List.setIfInBounds_toArray, List.set_cons_zero, List.set_cons_succ]
              refine wpAnyH_take_d (i := 68) (v := .int .i64 ((x.z : Int) + ((n.size : Int) - ((t.z : Int) - t.a)))) 215 rfl rfl (by kernel_rfl) (by kernel_rfl) (by kernel_rfl) (fun _ _ _ h => h) (Or.inl ⟨by kernel_rfl, fun w' hS' => ?y68⟩) hS ?_
              case y68 => (obtain ⟨s1, s2, s3, s4, s5, s6, s7⟩ := hS'; go_simp)
              simp only [Act.put, List.setIfInBounds_toArray, List.set_cons_zero, List.set_cons_succ]
              refine wpAnyH_take_d (i := 69) (v := .bool false) 216 rfl rfl (by kernel_rfl) (by kernel_rfl) (by kernel_rfl) (fun _ _ _ h => h) (Or.inl ⟨by kernel_rfl, fun w' hS' => ?y69⟩) hS ?_
              case y69 => (obtain ⟨s1, s2, s3, s4, s5, s6, s7⟩ := hS'; go_simp)
              simp only [Act.put, List.setIfInBounds_toArray, List.set_cons_zero, List.set_cons_succ]
              refine wpAnyH_take_d (i := 70) (v := .bool false) 217 rfl rfl (by kernel_rfl) (by kernel_rfl) (by kernel_rfl) (fun _ _ _ h => h) (Or.inl ⟨by kernel_rfl, fun w' hS' => ?y70⟩) hS ?_
              case y70 => (obtain ⟨s1, s2, s3, s4, s5, s6, s7⟩ := hS'; go_simp)
              simp only [Act.put, List.setIfInBounds_toArray, List.set_cons_zero, List.set_cons_succ]
              refine wpAnyH_take_d (i := 71) (v := .bool false) 218 rfl rfl (by kernel_rfl) (by kernel_rfl) (by kernel_rfl) (fun _ _ _ h => h) (Or.inl ⟨by kernel_rfl, fun w' hS' => ?y71⟩) hS ?_
              case y71 => (obtain ⟨s1, s2, s3, s4, s5, s6, s7⟩ := hS'; go_simp)
              simp only [Act.put, List.setIfInBounds_toArray, List.set_cons_zero, List.set_cons_succ]
              refine wpAnyH_take_d (i := 72) (v := .bool false) 219 rfl rfl (by kernel_rfl) (by kernel_rfl) (by kernel_rfl) (fun _ _ _ h => h) (Or.inl ⟨by kernel_rfl, fun w' hS' => ?y72⟩) hS ?_
              case y72 => (obtain ⟨s1, s2, s3, s4, s5, s6, s7⟩ := hS'; go_simp)
              simp only [Act.put, List.setIfInBounds_toArray, List.set_cons_zero, List.set_cons_succ]
              refine wpAnyH_done (by kernel_rfl) ?_ _
              refine hK0 _ _ ?_
              clear hK0 K0
              gi_wp2
              go_roundw
              case rel => exact ⟨i + 1, by go_num, by omega, (hB.alloc hB.size _).drew⟩
              case measure => simp [intOf]; omega
          · obtain rfl : i = L.length := by omega
            gi_wp2
            exact bodyPost_ret (results_tmp Tryd.results7 _ _ _) rfl ⟨rfl, hB3.trans (hB.mono hB3.size)⟩
end Go.Proofs.YtjmdnjflcifpmaaDoor
