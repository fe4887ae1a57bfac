/- The law SignGrows, walked. -/
import Derived.Test.YtbgjjklglkhnlaaDoorSignKeys
import Derived.Deep.DeepCutAuto
import Derived.Laws.IdiomStrings
namespace Go.Proofs.YtbgjjklglkhnlaaDoor
open Go.RowKit Go.Shelf SignMath

attribute [local go_sem] Oper.semAt_some

theorem below1 (w : World) (o : Obj) : Below w.heap.size w (w.alloc o) := (Below.refl _ w).alloc (Nat.le_refl _) _

set_option maxHeartbeats 1000000 in
/-- a long text -/
theorem grows_long (s : ByteArray) (c : Int) (hs : 1000 < s.size) (w : World) (hL : Laid w) :
    Calls Tryd.prog 5 #[.string s, .int .u8 c] w fun e w' => e = .returned (.bool true) ∧ Below w.heap.size w w' := by
  go_enter Tryd.func5, Tryd.ntmps5
  go_wp2_with (go_at_call 6; refine (alive_any _ (hL.below (below1 w _))).mono ?_; rintro e w1 ⟨rfl, hB1⟩; have hR1 : Boxed w1 w.heap.size 4 (.bool false) := (hB1.block w.heap.size (by simp)).trans (Boxed.new w 4 (.bool false)); have hc := hR1.cell; have hf := hR1.frozen)
  have hres := (hR1.set (.bool true)).cell
  have hB0 : Below w.heap.size w w1 := (below1 w _).trans (hB1.mono (by simp))
  exact bodyPost_ret (v := .bool true) (by simp [results, Tryd.results5, go_sem, hres]) rfl ⟨rfl, hB0.setCell (p := ⟨w.heap.size, 0, none⟩) (Nat.le_refl _) _⟩

/-- a text of one byte -/
def one (b : UInt8) : ByteArray := ⟨#[b]⟩
theorem conv_one (b : UInt8) (w : World) : (convert 36 9 (.slice (some ⟨w.heap.size, 0, none⟩) 1 1)).run Tryd.prog (w.alloc (.cells #[.int .u8 (b.toNat : Int)] 5)) = .ok (.string (one b)) (w.alloc (.cells #[.int .u8 (b.toNat : Int)] 5)) :=
  run_convert_bytes_back (P := Tryd.prog) _ _ _ 5 ⟨w.heap.size, 0, none⟩ 1 [b] Tryd.underlying36 Tryd.underlying5 Tryd.underlying9 (fun j hj => by
    obtain rfl : j = 0 := by simpa using hj
    simp [Addr.add, World.cell?_alloc_mark])
theorem bs_more (s : ByteArray) (b : UInt8) : bs (s ++ one b) = bs s ++ [b] := by simp [bs, one, ByteArray.data_append]
theorem kw_wd {s : ByteArray} (h : kw s = true) : wd (bs s) = true := by
  unfold kw at h
  obtain ⟨k, hk, e⟩ := List.any_eq_true.1 h
  rw [← of_decide_eq_true e]
  have : ∀ k ∈ kws, wd (bs k) = true := by decide
  exact this k hk

/-- between two keywords -/
def GrI (w : World) (y : Nat) (pre : List ByteArray) : As := fun X W => Low w.heap.size w X W ∧ Has w.heap.size (.cells #[.bool false] 4 (0, 0)) X W ∧ Has y (.cells #[.int .i64 (pre.length : Int)] 3 (0, 0)) X W
theorem GrI.frames (w : World) (y : Nat) (pre : List ByteArray) : Frames (GrI w y pre) := (Low.frames _ _).and ((Has.frames _ _).and (Has.frames _ _))
theorem GrI.laid {w W : World} {y : Nat} {pre : List ByteArray} {X : Nat → Prop} (h : GrI w y pre X W) (hL : Laid w) : Laid W := hL.below h.1.1
theorem GrI.keys {w W : World} {y : Nat} {pre : List ByteArray} {X : Nat → Prop} (h : GrI w y pre X W) (hL : Laid w) : KwC X W := by
  obtain ⟨t, fr, hg⟩ := hL.words
  exact ⟨t, fr, fun hx => by have := h.1.2.2 _ hx; have := lt_of_heap hg; omega, (h.1.1.block _ (lt_of_heap hg)).trans hg⟩
theorem kw_facts {x : ByteArray} {k : Nat} (h : kws[k]? = some x) : kw x = true ∧ x.size ≤ 2000 := by
  refine ⟨kw_hit h rfl, ?_⟩
  have : ∀ k ∈ kws, k.size ≤ 2000 := by decide
  exact this x (List.mem_of_getElem? h)
theorem num_nought_no {s : ByteArray} {n : Nat} (h : num (bs s) = some n) (h1 : 1 < s.size) : ((s[0].toNat : Int) == 48) = false := by
  rw [beqd]
  refine decide_eq_false fun e => ?_
  have hh : s[0] = 48 := UInt8.toNat_inj.1 (by have : (48 : UInt8).toNat = 48 := rfl; omega)
  have : num (bs s) = none := num_nought (by unfold nought; rw [bs_size, decide_eq_true h1, head_of s (by omega), hh]; simp)
  rw [this] at h; cases h
theorem gr_ret {w W : World} {D : Nat} {v1 u1 : Value} {t1 : TypeId} (hlow : Low w.heap.size w (· = D) W) (h2 : Has w.heap.size (.cells #[u1] t1 (0, 0)) (· = D) W) (hD : W.heap[D]? = some (.deferred (some []))) :
    (W.setCell ⟨w.heap.size, 0, none⟩ v1).heap[D]? = some (.deferred (some [])) ∧ ((W.setCell ⟨w.heap.size, 0, none⟩ v1).putObj D (.deferred none)).cell? ⟨w.heap.size, 0, none⟩ = some v1 ∧
      Below w.heap.size w ((W.setCell ⟨w.heap.size, 0, none⟩ v1).putObj D (.deferred none)) := by
  have ho : Off (· = D) (W.setCell ⟨w.heap.size, 0, none⟩ v1) ((W.setCell ⟨w.heap.size, 0, none⟩ v1).putObj D (.deferred none)) := Off.putObj (X := (· = D)) rfl _ _
  have hl2 : Low w.heap.size w (· = D) (W.setCell ⟨w.heap.size, 0, none⟩ v1) := ⟨hlow.1.setCell (p := ⟨w.heap.size, 0, none⟩) (by simp) _, by have := hlow.2.1; simp only [World.setCell, Array.size_modify]; exact this, hlow.2.2⟩
  exact ⟨(Below.heap_setCell _ _ _ _ (fun e => h2.1 e.symm)).trans hD, ((Has.frames _ _).off (h2.set (v' := v1)) ho).cell, ((Low.frames _ _).off hl2 ho).1⟩
theorem pref_at {α : Type} {pre : List α} {x : α} {xs : List α} (h : (pre ++ [x]) <+: xs) : xs[pre.length]? = some x := by
  obtain ⟨r, rfl⟩ := h; simp

set_option maxRecDepth 100000 in
set_option maxHeartbeats 4000000 in
theorem grows_in (s : ByteArray) (b : UInt8) (hs : ¬ 1000 < s.size) (w : World) (hL : Laid w) :
    CallsIn Fence.wide 8 Tryd.prog 5 #[.string s, .int .u8 (b.toNat : Int)] w fun e w' => e = .returned (.bool true) ∧ Below w.heap.size w w' := by
  have hadd : ∀ W, Sem.run Tryd.prog (Op.stringOp .add s (one b)) W = .ok (.string (s ++ one b)) W := fun W => run_string_add W s (one b) (by omega) (by show ((1 : Nat) : Int) ≤ 8388608; omega)
  have hsz : (s ++ one b).size ≤ 2000 := by rw [ByteArray.size_append]; show s.size + 1 ≤ 2000; omega
  have HW := Lib.hid (word_any s (by omega))
  have HM := Lib.hid (word_any (s ++ one b) hsz)
  rw [bs_more] at HM
  generalize s ++ one b = more at *
  clear hsz
  refine callsIn_of_wp_marks Tryd.func5 rfl trivial ?_ rfl
  simp only [Tryd.ntmps5, List.size_toArray, List.length_cons, List.length_nil, Nat.reduceAdd, Nat.reduceSub, Array.replicate_succ, Array.replicate_zero, List.push_toArray, List.append_toArray, List.nil_append, List.cons_append]
  refine wpIn_wide.2 ?_
  go_upto_region 6 with (go_at_call 6; refine (alive_any _ (hL.below (below1 w _))).mono ?_; rintro e w1 ⟨rfl, hB1⟩; have hR1 : Boxed w1 w.heap.size 4 (.bool false) := (hB1.block w.heap.size (by simp)).trans (Boxed.new w 4 (.bool false)); have hc := hR1.cell; have hf := hR1.frozen; have hconv := conv_one b w1)
  have hB2 : Below w.heap.size w (w1.alloc (.cells #[.int .u8 (b.toNat : Int)] 5)) := ((below1 w _).trans (hB1.mono (by simp))).alloc (by have := hB1.size; simp at this; omega) _
  have hbox : Has w.heap.size (.cells #[.bool false] 4 (0, 0)) no (w1.alloc (.cells #[.int .u8 (b.toNat : Int)] 5)) := Has.alloc ⟨fun h => h, hR1⟩ _
  have hL2 := hL.below hB2
  generalize w1.alloc (.cells #[.int .u8 (b.toNat : Int)] 5) = w2 at *
  clear hconv hadd hR1 hc hf hB1
  go_cut [37] from 20 to 37 (fun v wx => v = .bool false ∧ w2 = wx)
  case first =>
    have hlf : lt (b.toNat : Int) = true → fg (b.toNat : Int) = false := lt_not_fg
    cases hw : wd (bs s) with
    | false =>
      rw [hw] at HW
      clear hw hlf
      go_wp2_with (go_at_call_of 19 (Value.string s); refine (HW.out _).mono ?_; rintro e w3 ⟨rfl, rfl⟩)
      go_meet
      exact ⟨rfl, rfl⟩
    | true =>
      have HS := Lib.hid (wd_snoc b hw)
      rw [hw] at HW
      rw [HS.out, bs_size] at HM
      clear hw HS
      cases hlen : decide (s.size < 64) with
      | false =>
        rw [hlen] at HM
        have hl64 : decide ((s.size : Int) < 64) = false := by rw [← hlen, decide_eq_decide]; omega
        simp only [Bool.false_and] at HM
        clear hlf hlen
        go_wp2_with (first
          | (go_at_call_of 19 (Value.string s); refine (HW.out _).mono ?_; rintro e w3 ⟨rfl, rfl⟩)
          | (go_at_call_of 19 (Value.string more); refine (HM.out _).mono ?_; rintro e w3 ⟨rfl, rfl⟩))
        go_meet
        exact ⟨rfl, rfl⟩
      | true =>
        rw [hlen] at HM
        have hl64 : decide ((s.size : Int) < 64) = true := by rw [← hlen, decide_eq_decide]; omega
        clear hlen
        cases hl : lt (b.toNat : Int) <;> cases hf : fg (b.toNat : Int)
        all_goals
          first
            | exact absurd ((hlf hl).symm.trans hf) (by decide)
            | (have HL := Lib.hid hl
               have HF := Lib.hid hf
               unfold nb at HM
               rw [hl, hf] at HM
               simp only [Bool.true_and, Bool.or_false, Bool.or_true, Bool.true_or, Bool.false_or] at HM
               clear hl hf hlf
               go_wp2_with (first
                 | (go_at_call_of 19 (Value.string s); refine (HW.out _).mono ?_; rintro e w3 ⟨rfl, rfl⟩)
                 | (go_at_call_of 19 (Value.string more); refine (HM.out _).mono ?_; rintro e w3 ⟨rfl, rfl⟩)
                 | (go_at_call 9; refine (letter_any _ _).mono ?_; rw [HL.out]; rintro e w4 ⟨rfl, rfl⟩)
                 | (go_at_call 10; refine (figure_any _ _).mono ?_; rw [HF.out]; rintro e w5 ⟨rfl, rfl⟩))
               go_meet
               exact ⟨rfl, rfl⟩)
  case rest =>
    obtain ⟨rfl, rfl⟩ := hcut
    go_upto_region 8 with fail
    go_cut [57] from 38 to 57 (fun v wx => v = .bool false ∧ w2 = wx)
    case first =>
      have hlf : lt (b.toNat : Int) = true → fg (b.toNat : Int) = false := lt_not_fg
      have HNm := Lib.hid (name_any s (by omega) w2 hL2)
      have HKw := Lib.hid (keyword_any s (by omega) w2 hL2)
      cases hl : lt (b.toNat : Int) <;> cases hf : fg (b.toNat : Int) <;> cases hk : kw s
      all_goals
        first
          | exact absurd ((hlf hl).symm.trans hf) (by decide)
          | (have HL := Lib.hid hl
             have HF := Lib.hid hf
             have HK : Hid (kw s = true → wd (bs s) = true) := Lib.hid kw_wd
             rw [hk] at HNm HKw
             try simp only [Bool.not_true, Bool.and_false, Bool.false_eq_true, if_false] at HNm
             have HW2 : Hid (kw s = true → ∀ W : World, Calls Tryd.prog 19 #[.string s] W fun e w' => e = .returned (.bool true) ∧ W = w') := Lib.hid (fun h W => by have := HW.out W; rw [HK.out h] at this; exact this)
             have HK2 := Lib.hid hk
             clear hl hf hlf hk HK
             go_wp2_with (first
               | (go_at_call 21; refine HKw.out.mono ?_; rintro e w3 ⟨rfl, rfl⟩)
               | (go_at_call 16; refine HNm.out.mono ?_; rintro e w3 ⟨rfl, rfl⟩)
               | (go_at_call 19; refine (HW2.out HK2.out _).mono ?_; rintro e w3 ⟨rfl, rfl⟩)
               | (go_at_call 9; refine (letter_any _ _).mono ?_; rw [HL.out]; rintro e w4 ⟨rfl, rfl⟩)
               | (go_at_call 10; refine (figure_any _ _).mono ?_; rw [HF.out]; rintro e w5 ⟨rfl, rfl⟩))
             go_meet
             exact ⟨rfl, rfl⟩)
    case rest =>
      obtain ⟨rfl, rfl⟩ := hcut
      go_wp2_with (go_at_call 23; refine (keywords_any _).mono ?_; rintro e w3 ⟨rfl, rfl⟩)
      have hI0 : GrI w w2.heap.size [] no (w2.alloc (.cells #[.int .i64 0] 3)) :=
        ⟨⟨hB2.alloc hB2.size _, by have := hB2.size; simp; omega, fun _ h => h.elim⟩, hbox.alloc _, Has.newAt (fun h => h) rfl _⟩
      refine (wpIn_wide (n := 8)).1 ?_
      refine range_out keys_iter rfl (enters_of Tryd.func30 (by kernel_rfl) rfl) (fun _ => rfl)
        (GrI w w2.heap.size) (fun _ _ _ _ => False) (fun pre x a' X W => GrI w w2.heap.size pre X W ∧ a' = ({ tmps := #[.string s, .int .u8 (b.toNat : Int), undef, undef, .pointer (some ⟨w.heap.size, 0, none⟩), .string more, .pointer (some ⟨w2.heap.size, 0, none⟩), .string x, undef, undef, .bool true, .bool false, .string s, .int .i64 (s.size : Int), .bool (decide (1000 < (s.size : Int))), .string s, .int .u8 (b.toNat : Int), .slice (some ⟨w1.heap.size, 0, none⟩) 1 1, .string (one b), .string more, u20, u21, u22, u23, u24, u25, u26, u27, u28, u29, u30, u31, u32, u33, u34, u35, u36, .bool false, u38, u39, u40, u41, u42, u43, u44, u45, u46, u47, u48, u49, u50, u51, u52, u53, u54, u55, u56, .bool false, .func (.func 30) #[] #[], .string x, undef, undef, undef, undef, undef, undef, undef, undef, undef, undef, undef, undef, undef, undef, undef, undef, undef, undef, undef, undef, undef, undef, undef, undef, undef, undef, undef, undef, undef, undef, undef, undef, undef, undef, undef, undef, undef, undef, undef, undef, undef, undef, undef, undef, undef, undef, undef, undef, undef], defers := [] } : Act)) ?fI ?fX ?fA ?hC hI0 ?assign ?body ?done ?stop
      case assign =>
        rintro lq X pre x W1 K hX hXb hi hp hK
        gi_wp2
        exact hK _ _ (Nat.le_refl _) (Kept.refl _ _) ⟨hi, rfl⟩
      case fI => exact fun pre => GrI.frames _ _ _
      case fX => exact fun c pre => Frames.pure _
      case fA => exact fun pre p a' => (GrI.frames _ _ _).and (Frames.pure _)
      case hC => exact fun pre X W1 h => h.keys hL
      case body =>
        rintro lq X pre x a' W1 hX hXb hr2 ⟨⟨hlow, hy0, hy1⟩, rfl⟩ hp
        have hkx := pref_at hp
        have hk18 : (pre.length : Int) < 18 := by have := (List.getElem?_eq_some_iff.1 hkx).1; rw [kws_length] at this; omega
        obtain ⟨hkx1, hx2⟩ := kw_facts hkx
        have HKx := Lib.hid hkx1
        have hLd : Laid W1.drew := by
          have := hL.below hlow.1
          exact ⟨this.words, this.synt, this.rang, this.tab⟩
        have hkc : kwc[pre.length]? = some (.string x) := by unfold kwc; rw [List.getElem?_map, hkx]; rfl
        have q1 := hy1.cell (i := 0)
        have f1 := hy1.frozen (i := 0)
        simp only [List.getElem?_toArray, List.getElem?_cons_zero] at q1
        have hS : W1.drew.cell? ⟨w2.heap.size, 0, none⟩ = some (.int .i64 (pre.length : Int)) := q1
        have hS2 : (W1.drew.alloc (.cells kwc.toArray 9)).cell? ⟨w2.heap.size, 0, none⟩ = some (.int .i64 (pre.length : Int)) := by
          have := (hy1.drew.alloc (.cells kwc.toArray 9)).cell (i := 0)
          simpa using this
        have hz0 : (0 : Int) ≤ pre.length := by omega
        have HP := Lib.hid hp
        clear hp hkx hkx1
        gi_wp2
        refine wpIn_region_held (fun W' => W'.cell? ⟨w2.heap.size, 0, none⟩ = some (.int .i64 (pre.length : Int))) (by kernel_rfl) (by kernel_rfl) ?hQ ?_
        case hQ => rintro ⟨_, _, h⟩; exact h
        show wpAnyH _ _ _ _ _ _ _ _ W1.drew
        refine wpAnyH_take_d (i := 0) (v := .string x) 60 rfl rfl (by kernel_rfl) (by kernel_rfl) (by kernel_rfl) (fun _ _ _ h => h) (Or.inl ⟨by kernel_rfl, fun w' hS' => ?y0⟩) hS ?_
        case y0 => go_simp
        simp only [Act.put, List.setIfInBounds_toArray, List.set_cons_zero, List.set_cons_succ]
        refine wpAnyH_ready (rs := [1]) (by kernel_rfl) (by simp) ?_
        refine AllReadyH.cons rfl (fun K hK => ?_) AllReadyH.nil
        go_simp
        refine (keyword_any x hx2 _ hLd).mono ?_
        rw [HKx.out]
        rintro r w7 ⟨rfl, rfl⟩
        refine hK.out _ _ hS (fun _ => ?_)
        clear hK K
        try simp only [Act.put, List.setIfInBounds_toArray, List.set_cons_zero, List.set_cons_succ]
        refine wpAnyH_take_d (i := 2) (v := .bool false) 62 rfl rfl (by kernel_rfl) (by kernel_rfl) (by kernel_rfl) (fun _ _ _ h => h) (Or.inl ⟨by kernel_rfl, fun w' hS' => ?y2⟩) hS ?_
        case y2 => go_simp
        simp only [Act.put, List.setIfInBounds_toArray, List.set_cons_zero, List.set_cons_succ]
        refine wpAnyH_take_d (i := 3) (v := .bool false) 63 rfl rfl (by kernel_rfl) (by kernel_rfl) (by kernel_rfl) (fun _ _ _ h => h) (Or.inl ⟨by kernel_rfl, fun w' hS' => ?y3⟩) hS ?_
        case y3 => go_simp
        simp only [Act.put, List.setIfInBounds_toArray, List.set_cons_zero, List.set_cons_succ]
        refine wpAnyH_take_d (i := 4) (v := .string x) 64 rfl rfl (by kernel_rfl) (by kernel_rfl) (by kernel_rfl) (fun _ _ _ h => h) (Or.inl ⟨by kernel_rfl, fun w' hS' => ?y4⟩) hS ?_
        case y4 => go_simp
        simp only [Act.put, List.setIfInBounds_toArray, List.set_cons_zero, List.set_cons_succ]
        refine wpAnyH_ready (rs := [5]) (by kernel_rfl) (by simp) ?_
        refine AllReadyH.cons rfl (fun K hK => ?_) AllReadyH.nil
        go_simp
        refine (name_any x hx2 _ hLd).mono ?_
        rw [HKx.out]
        simp only [Bool.not_true, Bool.and_false, Bool.false_eq_true, if_false]
        rintro r w8 ⟨rfl, rfl⟩
        refine hK.out _ _ hS (fun _ => ?_)
        clear hK K
        try simp only [Act.put, List.setIfInBounds_toArray, List.set_cons_zero, List.set_cons_succ]
        refine wpAnyH_take_d (i := 6) (v := .bool false) 66 rfl rfl (by kernel_rfl) (by kernel_rfl) (by kernel_rfl) (fun _ _ _ h => h) (Or.inl ⟨by kernel_rfl, fun w' hS' => ?y6⟩) hS ?_
        case y6 => go_simp
        simp only [Act.put, List.setIfInBounds_toArray, List.set_cons_zero, List.set_cons_succ]
        refine wpAnyH_take_d (i := 7) (v := .bool false) 67 rfl rfl (by kernel_rfl) (by kernel_rfl) (by kernel_rfl) (fun _ _ _ h => h) (Or.inl ⟨by kernel_rfl, fun w' hS' => ?y7⟩) hS ?_
        case y7 => go_simp
        simp only [Act.put, List.setIfInBounds_toArray, List.set_cons_zero, List.set_cons_succ]
        refine wpAnyH_take_d (i := 8) (v := .bool false) 68 rfl rfl (by kernel_rfl) (by kernel_rfl) (by kernel_rfl) (fun _ _ _ h => h) (Or.inl ⟨by kernel_rfl, fun w' hS' => ?y8⟩) hS ?_
        case y8 => go_simp
        simp only [Act.put, List.setIfInBounds_toArray, List.set_cons_zero, List.set_cons_succ]
        refine wpAnyH_take_d (i := 9) (v := .int .i64 (pre.length : Int)) 69 rfl rfl (by kernel_rfl) (by kernel_rfl) (by kernel_rfl) (fun _ _ _ h => h) (Or.inl ⟨by kernel_rfl, fun w' hS' => ?y9⟩) hS ?_
        case y9 => go_simp
        simp only [Act.put, List.setIfInBounds_toArray, List.set_cons_zero, List.set_cons_succ]
        refine wpAnyH_take_d (i := 10) (v := .bool false) 70 rfl rfl (by kernel_rfl) (by kernel_rfl) (by kernel_rfl) (fun _ _ _ h => h) (Or.inl ⟨by kernel_rfl, fun w' hS' => ?y10⟩) hS ?_
        case y10 => go_simp
        simp only [Act.put, List.setIfInBounds_toArray, List.set_cons_zero, List.set_cons_succ]
        refine wpAnyH_take_d (i := 11) (v := .bool false) 71 rfl rfl (by kernel_rfl) (by kernel_rfl) (by kernel_rfl) (fun _ _ _ h => h) (Or.inl ⟨by kernel_rfl, fun w' hS' => ?y11⟩) hS ?_
        case y11 => go_simp
        simp only [Act.put, List.setIfInBounds_toArray, List.set_cons_zero, List.set_cons_succ]
        refine wpAnyH_take_d (i := 12) (v := .bool false) 72 rfl rfl (by kernel_rfl) (by kernel_rfl) (by kernel_rfl) (fun _ _ _ h => h) (Or.inl ⟨by kernel_rfl, fun w' hS' => ?y12⟩) hS ?_
        case y12 => go_simp
        simp only [Act.put, List.setIfInBounds_toArray, List.set_cons_zero, List.set_cons_succ]
        refine wpAnyH_take_d (i := 13) (v := .string x) 73 rfl rfl (by kernel_rfl) (by kernel_rfl) (by kernel_rfl) (fun _ _ _ h => h) (Or.inl ⟨by kernel_rfl, fun w' hS' => ?y13⟩) hS ?_
        case y13 => go_simp
        simp only [Act.put, List.setIfInBounds_toArray, List.set_cons_zero, List.set_cons_succ]
        refine wpAnyH_take_d (i := 15) (v := .int .i64 (pre.length : Int)) 75 rfl rfl (by kernel_rfl) (by kernel_rfl) (by kernel_rfl) (fun _ _ _ h => h) (Or.inl ⟨by kernel_rfl, fun w' hS' => ?y15⟩) hS ?_
        case y15 => go_simp
        simp only [Act.put, List.setIfInBounds_toArray, List.set_cons_zero, List.set_cons_succ]
        refine wpAnyH_ready (rs := [14]) (by kernel_rfl) (by simp) ?_
        refine AllReadyH.cons rfl (fun K hK => ?_) AllReadyH.nil
        go_simp
        refine (refWords_any _).mono ?_
        rintro r w9 ⟨rfl, rfl⟩
        refine hK.out _ _ hS2 (fun _ => ?_)
        clear hK K
        try simp only [Act.put, List.setIfInBounds_toArray, List.set_cons_zero, List.set_cons_succ]
        refine wpAnyH_take_d (i := 16) (v := .pointer (some ⟨W1.heap.size, pre.length, none⟩)) 76 rfl rfl (by kernel_rfl) (by kernel_rfl) (by kernel_rfl) (fun _ _ _ h => h) (Or.inl ⟨by kernel_rfl, fun w' hS' => ?y16⟩) hS2 ?_
        case y16 => go_simp
        simp only [Act.put, List.setIfInBounds_toArray, List.set_cons_zero, List.set_cons_succ]
        refine wpAnyH_ready (rs := [17]) (by kernel_rfl) (by simp) ?_
        refine AllReadyH.cons rfl (fun K hK => ?_) AllReadyH.nil
        go_simp
        refine hK.out _ _ hS2 (fun _ => ?_)
        clear hK K
        try simp only [Act.put, List.setIfInBounds_toArray, List.set_cons_zero, List.set_cons_succ]
        refine wpAnyH_take_d (i := 18) (v := .bool false) 78 rfl rfl (by kernel_rfl) (by kernel_rfl) (by kernel_rfl) (fun _ _ _ h => h) (Or.inl ⟨by kernel_rfl, fun w' hS' => ?y18⟩) hS2 ?_
        case y18 => go_simp
        simp only [Act.put, List.setIfInBounds_toArray, List.set_cons_zero, List.set_cons_succ]
        refine wpAnyH_take_d (i := 19) (v := .bool false) 79 rfl rfl (by kernel_rfl) (by kernel_rfl) (by kernel_rfl) (fun _ _ _ h => h) (Or.inl ⟨by kernel_rfl, fun w' hS' => ?y19⟩) hS2 ?_
        case y19 => go_simp
        simp only [Act.put, List.setIfInBounds_toArray, List.set_cons_zero, List.set_cons_succ]
        refine wpAnyH_done (by kernel_rfl) ?_ _
        clear hS hS2
        have hy0' : Has w.heap.size (.cells #[.bool false] 4 (0, 0)) X ((W1.alloc (.cells kwc.toArray 9)).drew) := (hy0.alloc _).drew
        have hy1' : Has w2.heap.size (.cells #[.int .i64 (pre.length : Int)] 3 (0, 0)) X ((W1.alloc (.cells kwc.toArray 9)).drew) := (hy1.alloc _).drew
        have hk1 : Kept X W1 ((W1.alloc (.cells kwc.toArray 9)).drew) := Kept.alloc _ _ _
        have hlow1 : Low w.heap.size w X ((W1.alloc (.cells kwc.toArray 9)).drew) := (Low.frames _ _).off ((Low.frames _ _).off hlow (Off.alloc X W1 (.cells kwc.toArray 9))) (Off.drew X _)
        have hs1 : W1.heap.size ≤ ((W1.alloc (.cells kwc.toArray 9)).drew).heap.size := by
          show W1.heap.size ≤ (W1.alloc (.cells kwc.toArray 9)).heap.size
          simp
        show Exit.then _ _ .normal _ ((W1.alloc (.cells kwc.toArray 9)).drew)
        generalize (W1.alloc (.cells kwc.toArray 9)).drew = W3 at hy0' hy1' hk1 hlow1 hs1 ⊢
        have q3 := hy1'.cell (i := 0)
        have f3 := hy1'.frozen (i := 0)
        simp only [List.getElem?_toArray, List.getElem?_cons_zero] at q3
        have hne : w.heap.size ≠ w2.heap.size := by have := hbox.lt; omega
        have hle : w.heap.size ≤ w2.heap.size := hB2.size
        clear q1 f1 hkc hy0 hy1
        gi_wp2
        refine ⟨?_, ?_, ⟨?_, ?_, ?_⟩, ?_, ?_⟩
        · simp only [World.setCell, Array.size_modify]; exact hs1
        · exact Kept.trans hs1 hk1 (Kept.set hy1'.1 _ _)
        · exact hlow1.1.setCell (p := ⟨w2.heap.size, 0, none⟩) hle _
        · have := hlow1.2.1; simp only [World.setCell, Array.size_modify]; exact this
        · exact hlow1.2.2
        · exact hy0'.other hne
        · rw [List.length_append]; exact hy1'.set
      case done =>
        rintro D W1 ⟨hlow, hy0, hy1⟩ hD
        have hLW := hL.below hlow.1
        have hy1 : Has w2.heap.size (.cells #[.int .i64 18] 3 (0, 0)) (· = D) W1 := hy1
        have HNu := Lib.hid (number_any s (by omega))
        cases hn : num (bs s) with
        | none =>
          unfold numV at HNu
          rw [hn] at HNu
          clear hn
          go_wp2_with (go_at_call 14; refine (HNu.out _ hLW).mono ?_; rintro e w4 ⟨rfl, hb4⟩; have hlow4 := (Low.frames _ _).off hlow (Off.of_below hb4); have k0 := (Has.frames _ _).off hy0 (Off.of_below hb4); have k1 := (Has.frames _ _).off hy1 (Off.of_below hb4); have hD4 := (hb4.block D (Array.getElem?_eq_some_iff.1 hD).1).trans hD; have q0 := k0.cell (i := 0); have q1 := k1.cell (i := 0); have f0 := k0.frozen (i := 0); simp only [List.getElem?_toArray, List.getElem?_cons_zero] at q0 q1)
          obtain ⟨r1, r2, r3⟩ := gr_ret (v1 := .bool true) hlow4 k0 hD4
          refine ⟨by simp, .inl ⟨_, _, rfl, run_takeDeferred r1, ?_⟩⟩
          exact ⟨.bool true, by simp [results, Tryd.results5, go_sem, r2], rfl, r3⟩
        | some n =>
          have hnm := num_le hn
          have hng := num_nought_no hn
          unfold numV at HNu
          rw [hn] at HNu
          clear hn
          by_cases h1 : 1 < s.size
          · have hb0 := hng h1
            clear hng
            go_wp2_with (go_at_call 14; refine (HNu.out _ hLW).mono ?_; rintro e w4 ⟨rfl, hb4⟩; have hlow4 := (Low.frames _ _).off hlow (Off.of_below hb4); have k0 := (Has.frames _ _).off hy0 (Off.of_below hb4); have k1 := (Has.frames _ _).off hy1 (Off.of_below hb4); have hD4 := (hb4.block D (Array.getElem?_eq_some_iff.1 hD).1).trans hD; have q0 := k0.cell (i := 0); have q1 := k1.cell (i := 0); have f0 := k0.frozen (i := 0); simp only [List.getElem?_toArray, List.getElem?_cons_zero] at q0 q1)
            obtain ⟨r1, r2, r3⟩ := gr_ret (v1 := .bool true) hlow4 k0 hD4
            refine ⟨by simp, .inl ⟨_, _, rfl, run_takeDeferred r1, ?_⟩⟩
            exact ⟨.bool true, by simp [results, Tryd.results5, go_sem, r2], rfl, r3⟩
          · clear hng
            go_wp2_with (go_at_call 14; refine (HNu.out _ hLW).mono ?_; rintro e w4 ⟨rfl, hb4⟩; have hlow4 := (Low.frames _ _).off hlow (Off.of_below hb4); have k0 := (Has.frames _ _).off hy0 (Off.of_below hb4); have k1 := (Has.frames _ _).off hy1 (Off.of_below hb4); have hD4 := (hb4.block D (Array.getElem?_eq_some_iff.1 hD).1).trans hD; have q0 := k0.cell (i := 0); have q1 := k1.cell (i := 0); have f0 := k0.frozen (i := 0); simp only [List.getElem?_toArray, List.getElem?_cons_zero] at q0 q1)
            obtain ⟨r1, r2, r3⟩ := gr_ret (v1 := .bool true) hlow4 k0 hD4
            refine ⟨by simp, .inl ⟨_, _, rfl, run_takeDeferred r1, ?_⟩⟩
            exact ⟨.bool true, by simp [results, Tryd.results5, go_sem, r2], rfl, r3⟩
      case stop =>
        rintro D c pre W1 hp h hD
        exact h.elim

theorem signGrows_walk (s : ByteArray) (c : Int) (hc0 : 0 ≤ c) (hc1 : c ≤ 255) (w : World) (hL : Laid w) :
    Calls Tryd.prog 5 #[.string s, .int .u8 c] w fun e w' => e = .returned (.bool true) ∧ Below w.heap.size w w' := by
  by_cases hs : 1000 < s.size
  · exact grows_long s c hs w hL
  · obtain ⟨b, rfl⟩ : ∃ b : UInt8, c = (b.toNat : Int) := ⟨UInt8.ofNat c.toNat, by simp; omega⟩
    exact callsIn_wide.1 (grows_in s b hs w hL)
end Go.Proofs.YtbgjjklglkhnlaaDoor
