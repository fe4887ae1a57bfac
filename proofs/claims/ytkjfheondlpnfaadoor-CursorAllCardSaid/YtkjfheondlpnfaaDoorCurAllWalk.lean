/- The law CursorAll, walked. -/
import Derived.Test.YtkjfheondlpnfaaDoorCurAllMath
namespace Go.Proofs.YtkjfheondlpnfaaDoor
open Go.RowKit SignMath TreeMath

set_option maxRecDepth 100000 in
set_option maxHeartbeats 2000000 in
/-- a text that is too long, or not clean -/
theorem all_bad (s : ByteArray) (w : World) (hL : LaidX w) (hN : ∀ w1, LaidX w1 → Calls Tryd.prog 6 #[.string s] w1 fun e w' => ∃ a n : Int, e = .returned (.tuple #[.pointer none, .int .i64 a, errn n]) ∧ Below w1.heap.size w1 w') :
    Calls Tryd.prog 3 #[.string s] w fun e w' => e = .returned (.bool true) ∧ Below w.heap.size w w' := by
  have HL := Lib.hid hL
  have HN := Lib.hid hN
  clear hL hN
  go_enter Tryd.func3, Tryd.ntmps3
  go_wp2_with fail
  refine (curAlive_any w HL.out).mono ?_
  rintro e w1 ⟨rfl, hb1⟩
  have HB1 := Lib.hid hb1
  have HN1 := Lib.hid (HN.out w1 (HL.out.below hb1))
  clear hb1 HN
  go_wp2_with fail
  refine HN1.out.mono ?_
  rintro e w2 ⟨a, n, rfl, hb2⟩
  have HB2 := Lib.hid (HB1.out.trans (hb2.mono HB1.out.size))
  clear hb2
  go_wp2
  go_ret
  exact ⟨rfl, HB2.out⟩

/-- the row that is gathered, the cursor's box -/
def ClR (b : Nat) (A : Option Addr) (c : Nat) (s : ByteArray) (w2 : World) (k : Nat) (v : Value) (wr : World) : Prop :=
  Of b w2 wr ∧ wr.heap[b]? = some (cubx (cuk s k) A c) ∧ NRow 35 w2.heap.size v (lvl s 0 ((cu0 s).L.take k)) wr

set_option maxRecDepth 100000 in
set_option maxHeartbeats 8000000 in
theorem all_good (s : ByteArray) (hs : s.size ≤ 4000) (w : World) (hL : LaidX w) (hN : ∀ w1, LaidX w1 → Calls Tryd.prog 6 #[.string s] w1 fun e w' => ∃ b A c, e = .returned (.tuple #[.pointer (some ⟨b, 0, none⟩), .int .i64 0, .nilIface]) ∧ w1.heap.size ≤ b ∧ CuM b A c (cu0 s) w' ∧ Below w1.heap.size w1 w') :
    Calls Tryd.prog 3 #[.string s] w fun e w' => e = .returned (.bool true) ∧ Below w.heap.size w w' := by
  have HL := Lib.hid hL
  have HN := Lib.hid hN
  have HS := Lib.hid hs
  have z4 : ¬ (4000 : Int) < (s.size : Nat) := by omega
  clear hL hN hs
  go_enter Tryd.func3, Tryd.ntmps3
  go_wp2_with fail
  refine (curAlive_any w HL.out).mono ?_
  rintro e w1 ⟨rfl, hb1⟩
  have HB1 := Lib.hid hb1
  have HN1 := Lib.hid (HN.out w1 (HL.out.below hb1))
  clear hb1 HN
  go_wp2_with fail
  refine HN1.out.mono ?_
  rintro e w2 ⟨b, A, c, rfl, hwb, hm2, hb2⟩
  have HB2 := Lib.hid (HB1.out.trans (hb2.mono HB1.out.size))
  have HNB := Lib.hid (Nat.le_trans HB1.out.size hwb)
  have HM2 := Lib.hid hm2
  have hR0 : ClR b A c s w2 0 (.slice (some ⟨w2.heap.size, 0, none⟩) 0 0) (w2.alloc (.cells #[] 35)) := by
    refine ⟨of_below (below1 w2 _), (Below.heap_alloc _ _ _ hm2.lt).trans hm2.box, ?_, fun x hx => by cases hx⟩
    exact World.ownsRow_made w2 #[] 0 (Nat.le_refl _) (by unfold maxLen; omega) rfl
  have HR0 := Lib.hid hR0
  clear hwb hm2 hb2 hR0 HN1
  obtain ⟨n, hn⟩ : ∃ n, (cu0 s).L.length = n := ⟨_, rfl⟩
  have HNN : Hid ((cu0 s).L.length = n ∧ n ≤ s.size) := Lib.hid ⟨hn, by rw [← hn]; exact cu0_len s⟩
  clear hn
  go_wp2
  go_loopw [6] (fun v wr => ∃ (k : Nat) (A' : Option Addr) (c' : Nat), v = .slice A' k c' ∧ k ≤ n ∧ Hid (ClR b A c s w2 k (.slice A' k c') wr)) (fun v _ => match v with | .slice _ k _ => n + 1 - k | _ => 0)
  case atStart => exact ⟨0, _, 0, rfl, Nat.zero_le _, HR0⟩
  case round =>
    obtain ⟨k, A', c', rfl, hk, HR⟩ := hrel
    have hcm : CuM b A c (cuk s k) wr := HM2.out.of HR.out.1 rfl HR.out.2.1
    have hok : (cuk s k).Ok := cuk_ok s HS.out k (by rw [HNN.out.1]; exact hk)
    have hl := left_any hcm hok
    rw [cuk_left, HNN.out.1] at hl
    unfold Rd at hl
    have HLF := Lib.hid hl
    have HCM := Lib.hid hcm
    have hbl : b < w2.heap.size := HM2.out.lt
    have hnw : ∀ j, w2.heap.size ≤ j → ¬ j = b := fun j hj => by omega
    have HNW := Lib.hid hnw
    by_cases hlt : k < n
    · obtain ⟨t, ht⟩ : ∃ t, (cu0 s).L[k]? = some t := ⟨_, List.getElem?_eq_getElem (by rw [HNN.out.1]; exact hlt)⟩
      have hx := cuk_nxt s k ht
      have hpk : (cuk s k).pk 0 = (((t.k : Nat) : Int), s.extract t.a t.z) := by
        unfold Cu.pk
        rw [if_neg (by omega), Int.toNat_zero, hx]
        rfl
      have han : (cuk s k).anyb (t.k : Nat) = true := by unfold Cu.anyb; rw [hx]; simp
      have HPK : Hid (∀ W, CuM b A c (cuk s k) W → Calls Tryd.prog 8 #[.pointer (some ⟨b, 0, none⟩), .int .i64 0] W fun e w' => e = .returned (.tuple #[.int .i64 (t.k : Nat), .string (s.extract t.a t.z)]) ∧ Below W.heap.size W w') := Lib.hid fun W h => by have := peek_any 0 ⟨by omega, by omega⟩ h hok; unfold Rd at this; rwa [hpk] at this
      have HAN : Hid (∀ W, CuM b A c (cuk s k) W → Calls Tryd.prog 9 #[.pointer (some ⟨b, 0, none⟩), .int .i64 (t.k : Nat)] W (CuV b A c (cuk s (k + 1)) W fun e => e = .returned (nv ((cuk s k).leaf t)))) := Lib.hid fun W h => by have := any_any (t.k : Nat) h hok; rw [han, Cu.take_true hx] at this; exact this
      have HLV := Lib.hid (cuk_leaf s k ht)
      have hmem : (cuk s k).leaf t ∈ lvl s 0 ((cu0 s).L.take (k + 1)) := by rw [cuk_leaf s k ht]; simp
      have htz := cu0_od s
      have hta : ((cuk s k).leaf t).a = (t.a : Nat) := rfl
      have htt := hok.tok t (List.mem_of_getElem? ht)
      have hsz := HS.out
      have HRG : Hid (rng ((cuk s k).leaf t).a ∧ ((cuk s k).leaf t).kids = []) := Lib.hid ⟨by rw [hta]; unfold rng; have h1 := htt.1; have h2 : t.z ≤ s.size := htt.2; omega, rfl⟩
      have HLL : Hid ((lvl s 0 ((cu0 s).L.take k)).length = k) := Lib.hid (by rw [lvl_len, List.length_take, HNN.out.1]; omega)
      generalize (cuk s k).leaf t = LF at HAN HLV HRG hmem hta
      have z1 : (0 : Int) < ((n - k : Nat) : Int) := by omega
      have z2 : ((k : Nat) : Int) ≤ (s.size : Nat) := by have := HNN.out.2; omega
      have z3 : ((k : Nat) : Int) ≤ 4000 := by have := HNN.out.2; omega
      clear hcm hok hl ht hx hpk han hmem htz hta htt hsz hnw
      go_wp2_with fail
      refine HLF.out.mono ?_
      rintro e w3 ⟨rfl, hb3⟩
      have HO3 := Lib.hid (HR.out.1.trans (of_below hb3))
      have HC3 := Lib.hid (HCM.out.below hb3)
      have HW3 := Lib.hid (HR.out.2.2.below hb3)
      clear hb3
      go_wp2_with fail
      refine (HPK.out w3 HC3.out).mono ?_
      rintro e w4 ⟨rfl, hb4⟩
      have HO4 := Lib.hid (HO3.out.trans (of_below hb4))
      have HC4 := Lib.hid (HC3.out.below hb4)
      have HW4 := Lib.hid (HW3.out.below hb4)
      clear hb4
      go_wp2_with fail
      refine (HAN.out w4 HC4.out).mono ?_
      rintro e w5 ⟨rfl, hm5, ho5⟩
      have ho5' := HO4.out.trans ho5
      have hrow5 := HW4.out.keep ho5.size (fun j hj => ho5.block j hj.2 (HNW.out j hj.1))
      have hal := below1 w5 (.cells (ncc LF) 35)
      have hrow6 := hrow5.below hal
      have hblk : (w5.alloc (.cells (ncc LF) 35)).heap[w5.heap.size]? = some (.cells (ncc LF) 35 (0, 0)) := heap_alloc_new w5 _
      have hT6 : Tn (fun j => nw w2.heap.size (w5.alloc (.cells (ncc LF) 35)) j ∧ (Value.slice A' k c').ownBlock ≠ some j) (w5.alloc (.cells (ncc LF) 35)) LF := tn_iff.2 ⟨HRG.out.1, fun h => absurd h (by rw [HRG.out.2]; simp), fun x hx => by rw [HRG.out.2] at hx; cases hx⟩
      have hbx6 : (w5.alloc (.cells (ncc LF) 35)).heap[b]? = some (cubx (cuk s (k + 1)) A c) := (Below.heap_alloc _ _ _ hm5.lt).trans hm5.box
      have hs2 : w2.heap.size ≤ (w5.alloc (.cells (ncc LF) 35)).heap.size := by have := ho5'.size; simp; omega
      have HV := Lib.hid (And.intro hrow6 (And.intro hblk (And.intro hT6 (And.intro hbx6 (And.intro hs2 (ho5'.trans (of_below hal)))))))
      have HK4 : Hid (k ≤ 20000) := Lib.hid (by omega)
      clear hm5 ho5 ho5' hrow5 hal hrow6 hblk hT6 hbx6 hs2
      go_wp2_with (at_builtin; refine Stay.out ?_)
      refine Stay.mk ?_
      refine wpList_append_node (by rfl) _ _ 28 35 (by rfl) Tryd.underlying28 info_tnode (w5.alloc (.cells (ncc LF) 35)) w2.heap.size (.slice A' k c') (lvl s 0 ((cu0 s).L.take k)) LF w5.heap.size (by rfl) (by rfl) HV.out.2.1 HV.out.1 HV.out.2.2.1 (by rw [HLL.out]; exact HK4.out) HV.out.2.2.2.2.1 ?_
      intro A2 c2 w7 hr7 hg7
      have hlen : (lvl s 0 ((cu0 s).L.take k) ++ [LF]).length = k + 1 := by rw [List.length_append, HLL.out]; rfl
      rw [hlen] at hr7 ⊢
      have hown : ∀ j, j < w2.heap.size → some j ≠ (Value.slice A' k c').ownBlock := fun j hj e => by have := (HV.out.1.lt j e.symm).1; omega
      have ho7 : Of b w2 w7 := ⟨hg7.os.trans HV.out.2.2.2.2.2.os, hg7.tape.trans HV.out.2.2.2.2.2.tape, hg7.output.trans HV.out.2.2.2.2.2.output, Nat.le_trans HV.out.2.2.2.2.2.size hg7.size, fun j hj hjb => (hg7.block j (Nat.lt_of_lt_of_le hj HV.out.2.2.2.2.1) (hown j hj)).trans (HV.out.2.2.2.2.2.block j hj hjb)⟩
      have hR7 : ClR b A c s w2 (k + 1) (.slice A2 (k + 1) c2) w7 := ⟨ho7, (hg7.block b (by have := HM2.out.lt; have := HV.out.2.2.2.2.1; omega) (hown b HM2.out.lt)).trans HV.out.2.2.2.1, by rw [HLV.out]; exact hr7⟩
      have HR7 := Lib.hid hR7
      clear hr7 hg7 hown ho7 hR7 hlen
      go_wp2
      go_roundw
      case rel => exact ⟨k + 1, A2, c2, rfl, by omega, HR7⟩
      case measure => simp; omega
    · obtain rfl : k = n := by omega
      have hLn := HNN.out.1
      have hns : k ≤ s.size := HNN.out.2
      have hsz := HS.out
      have htk : (cu0 s).L.take k = (cu0 s).L := by rw [← hLn]; exact List.take_length
      have hrow := HR.out.2.2
      rw [htk] at hrow
      have hod := cu0_od s
      have hml := lvl_mem s hod
      have hall := cu0_all s
      rw [hLn] at hall
      have hstb := stb_lvl s hsz hod
      have htxl := tx_lvl s hod
      have hlen : (lvl s 0 (cu0 s).L).length = k := by rw [lvl_len, hLn]
      have htxs : (tx (lvl s 0 (cu0 s).L)).size ≤ 4000 := by rw [htxl, ByteArray.size_extract]; omega
      generalize lvl s 0 (cu0 s).L = kids at hrow hml hall hstb htxl hlen htxs
      have hro := rt_wt (A := A') (c := c') (fun x hx => (hml x hx).2.2.2.2.2) (by omega) htxs
      have hrlk := rt_lk (A := A') (c := c') (l := kids) (fun x hx => ⟨(hml x hx).2.2.2.2.2, (hml x hx).2.2.2.2.1⟩)
      have hrr := rt_rgt s (A := A') (c := c') hml
      have hrlf := rt_lf (A := A') (c := c') (l := kids) (fun x hx => ⟨(hml x hx).2.2.2.2.2, (hml x hx).1⟩)
      obtain ⟨Y, hY⟩ : ∃ Y, tx kids = Y := ⟨_, rfl⟩
      obtain ⟨E, hE⟩ : ∃ E, (cuk s k).en = E := ⟨_, rfl⟩
      rw [hY, hE] at hall
      rw [hY] at htxs
      have HMK : Hid (∀ W, NRow 35 w2.heap.size (.slice A' k c') kids W → Calls Tryd.prog 10 #[.int .i64 2, .slice A' k c'] W (CpV (pl (rt A' c' kids)) W)) := Lib.hid fun W h => by
        have hv : (Value.slice A' k c') = .slice A' kids.length c' := by rw [hlen]
        rw [hv] at h ⊢
        exact make_any 2 A' c' kids W hrlk hro ((h.tn (k := 2) (g := ⟨#[]⟩) (t := ⟨#[]⟩) (a := 0) (by unfold rng; omega)).keep (fun _ _ _ => rfl) fun j hj => hj.2)
      have HST : Hid (∀ U W, pl U = pl (rt A' c' kids) → Tn (lo W.heap.size) W U → Calls Tryd.prog 12 #[nv U, .int .i64 0] W fun e w' => e = .returned (.bool true) ∧ Below W.heap.size W w') := Lib.hid fun U W hp h => by
        obtain ⟨s1, s2, s3, s4, s5⟩ := same_of hp
        have := stands_any U 0 W h (by rw [s3]; exact hro)
        rw [s1, hrr, ← stb_pl, s5, stb_pl, hrlf] at this
        rw [show stb 0 kids = true from hstb] at this
        exact this
      have HTX : Hid (∀ U W, pl U = pl (rt A' c' kids) → Tn (lo W.heap.size) W U → Calls Tryd.prog 13 #[nv U] W fun e w' => e = .returned (.string Y) ∧ Below W.heap.size W w') := Lib.hid fun U W hp h => by
        obtain ⟨s1, s2, s3, s4, s5⟩ := same_of hp
        have := text_any U W h (by rw [s3]; exact hro)
        rw [if_pos (by rw [s1]; exact hrr), s4, hrlf, hY] at this
        exact this
      have HEN : Hid (∀ W, CuM b A c (cuk s k) W → Calls Tryd.prog 14 #[.pointer (some ⟨b, 0, none⟩)] W fun e w' => e = .returned (.string E) ∧ Below W.heap.size W w') := Lib.hid fun W h => by have := end_any h hok; unfold Rd at this; rwa [hE] at this
      have HFD : Hid (∀ W, CuM b A c (cuk s k) W → Calls Tryd.prog 11 #[.pointer (some ⟨b, 0, none⟩)] W fun e w' => e = .returned (.tuple #[.int .i64 0, .nilIface]) ∧ Below W.heap.size W w') := Lib.hid fun W h => failed_any h
      have hys : Y.size + E.size ≤ 4000 := by have := congrArg ByteArray.size hall; rw [ByteArray.size_append] at this; omega
      have hadd : ∀ W, Sem.run Tryd.prog (Op.stringOp .add Y E) W = .ok (.string s) W := fun W => by rw [← hall]; exact run_string_add_sum _ _ _ (by omega)
      have hss : (s.toList == s.toList) = true := by simp
      have hz0 : ((k - k : Nat) : Int) = 0 := by omega
      rw [hz0] at HLF
      have HW := Lib.hid hrow
      have HBW := Lib.hid (HB2.out.trans (of_low HR.out.1 HNB.out HB2.out.size))
      clear hLn hsz htk hrow hod hml hall hstb htxl hlen htxs hro hrlk hrr hrlf hY hE hys hz0 hcm hok hl hnw hns
      go_wp2_with fail
      refine HLF.out.mono ?_
      rintro e w3 ⟨rfl, hb3⟩
      have HB3 := Lib.hid (HBW.out.trans (hb3.mono HBW.out.size))
      have HC3 := Lib.hid (HCM.out.below hb3)
      have HW3 := Lib.hid (HW.out.below hb3)
      clear hb3
      go_wp2_with fail
      refine (HMK.out w3 HW3.out).mono ?_
      rintro e w4 ⟨U, rfl, hpU, hTU, hb4⟩
      have hb5 := hb4.trans ((below1 w4 (.cells (ncc U) 35)).mono hb4.size)
      have HB5 := Lib.hid (HB3.out.trans (hb5.mono HB3.out.size))
      have HC5 := Lib.hid (HC3.out.below hb5)
      have hTU5 := (hTU.all.below (below1 w4 (.cells (ncc U) 35))).more (show w4.heap.size ≤ (w4.alloc (.cells (ncc U) 35)).heap.size by simp)
      have hBX : BK (w4.alloc (.cells (ncc U) 35)) [(w4.heap.size, .cells (ncc U) 35 (0, 0))] [U] 35 [] (w4.alloc (.cells (ncc U) 35)) := by
        refine ⟨Below.refl _ _, fun q hq => ?_, fun T hT => ?_, by simp, by simp, List.nodup_nil⟩
        · obtain rfl := List.mem_singleton.1 hq
          exact heap_alloc_new w4 _
        · obtain rfl := List.mem_singleton.1 hT
          exact hTU5.keep (fun _ _ _ => rfl) fun j hj => ⟨hj, by simp⟩
      have HPU := Lib.hid hpU
      clear hb4 hb5 hTU hTU5 hpU
      go_wp2_with fail
      refine (HFD.out _ HC5.out).mono ?_
      rintro e w6 ⟨rfl, hb⟩
      have hk6 := hBX.step hb
      have HB6 := Lib.hid (HB5.out.trans (hb.mono HB5.out.size))
      have HC6 := Lib.hid (HC5.out.below hb)
      clear hb hBX
      have t6 := heap5 (hk6.has (w4.heap.size, .cells (ncc U) 35 (0, 0)) (by simp))
      go_wp2_with fail
      refine (HST.out U w6 HPU.out (hk6.tree (T := U) (by simp))).mono ?_
      rintro e w7 ⟨rfl, hb⟩
      have hk7 := hk6.step hb
      have HB7 := Lib.hid (HB6.out.trans (hb.mono HB6.out.size))
      have HC7 := Lib.hid (HC6.out.below hb)
      clear hb t6
      have t7 := heap5 (hk7.has (w4.heap.size, .cells (ncc U) 35 (0, 0)) (by simp))
      go_wp2_with fail
      refine (HTX.out U w7 HPU.out (hk7.tree (T := U) (by simp))).mono ?_
      rintro e w8 ⟨rfl, hb⟩
      have HB8 := Lib.hid (HB7.out.trans (hb.mono HB7.out.size))
      have HC8 := Lib.hid (HC7.out.below hb)
      clear hb t7
      go_wp2_with fail
      refine (HEN.out w8 HC8.out).mono ?_
      rintro e w9 ⟨rfl, hb⟩
      have HB9 := Lib.hid (HB8.out.trans (hb.mono HB8.out.size))
      clear hb
      go_wp2
      go_ret
      exact ⟨rfl, HB9.out⟩

theorem cursorAll_walk (s : ByteArray) (w : World) (hL : LaidX w) : Calls Tryd.prog 3 #[.string s] w fun e w' => e = .returned (.bool true) ∧ Below w.heap.size w w' := by
  by_cases hs : 4000 < s.size
  · refine all_bad s w hL fun w1 h1 => ?_
    have h := new_any s w1 h1
    unfold NewV at h
    simp only [if_pos hs] at h
    exact h.mono fun e w' ⟨he, hb⟩ => ⟨4000, 4, he, hb⟩
  · cases hbd : bad (tk (bs s) 0) with
    | some t =>
      refine all_bad s w hL fun w1 h1 => ?_
      have h := new_any s w1 h1
      unfold NewV at h
      simp only [if_neg hs, hbd] at h
      exact h.mono fun e w' ⟨he, hb⟩ => ⟨_, 2, he, hb⟩
    | none => exact all_good s (by omega) w hL fun w1 h1 => new_small s (cu0 s) (by omega) hbd rfl w1 h1
end Go.Proofs.YtkjfheondlpnfaaDoor
