/- Merge, as the program makes it. -/
import Derived.Test.YtfkpnfhhmldodaaEditJoined
import Derived.Test.YtfkpnfhhmldodaaEditInvert
namespace Go.Proofs.Ytfkpnfhhmldodaa
open Go.RowKit EditMath

/-- a part of a slice of edits -/
theorem Eds.part {w : World} {B b off : Nat} {l : List Ed} (h : Eds w B (some ⟨b, off, none⟩) l) (a n : Nat) : Eds w B (some ⟨b, off + a * 3, none⟩) ((l.drop a).take n) := by
  intro hn
  rw [List.length_take, List.length_drop] at hn
  obtain ⟨b', off', hA, hb, hc⟩ := h (by omega)
  injection hA with hA
  injection hA with h1 h2
  subst h1 h2
  refine ⟨b, off + a * 3, rfl, hb, fun i e he => ?_⟩
  have he' : l[a + i]? = some e := by
    rw [List.getElem?_take] at he
    split at he
    · rw [List.getElem?_drop] at he; exact he
    · cases he
  obtain ⟨c0, c1, c2⟩ := hc (a + i) e he'
  rw [show off + a * 3 + i * 3 = off + (a + i) * 3 from by omega]
  exact ⟨c0, c1, c2⟩

set_option maxHeartbeats 800000 in
theorem merge_bad (A : Option Addr) (c : Nat) (l : List Ed) (size : Int) (hb : rt l size = false) (w : World) (hl : l.length ≤ 10000) (hr : Eds w w.heap.size A l) :
    Calls Try.prog 106 #[.slice A l.length c, .int .i64 size] w (ListV [] (errn 2) w) := by
  have HC := Lib.hid (right_any A c l size w hl hr)
  rw [hb] at HC
  clear hb hr
  go_enter Try.func106, Try.ntmps106
  go_wp2_with fail
  refine HC.out.mono ?_
  rintro e w1 ⟨rfl, hb1⟩
  go_wp2
  go_ret2
  exact ⟨none, 0, rfl, Eds.none_, hb1⟩

theorem tx_part (l : List Ed) (a n : Nat) : tx ((l.drop a).take n) ≤ tx l := by
  have h1 := tx_take_le (l.drop a) n
  have h2 : tx l = tx (l.take a) + tx (l.drop a) := by rw [← tx_append, List.take_append_drop]
  have h3 := tx_nonneg (l.take a)
  omega

/-- joined, at a part of a slice -/
theorem joined_seg (b off c : Nat) (l : List Ed) (a z : Nat) (e d : Ed) (haz : a ≤ z) (he : l[a]? = some e) (hd : l[z]? = some d) (htx : tx l ≤ 70000) (hl : l.length ≤ 10000) (W : World) (hr : Eds W W.heap.size (some ⟨b, off, none⟩) l) :
    Calls Try.prog 119 #[.slice (some ⟨b, off + a * 3, none⟩) (z + 1 - a) c] W fun r w' => r = .returned (edv (segE l a (z + 1))) ∧ Below W.heap.size W w' := by
  have hz := (List.getElem?_eq_some_iff.1 hd).1
  have hlen : ((l.drop a).take (z + 1 - a)).length = z + 1 - a := by rw [List.length_take, List.length_drop]; omega
  have h0 : ((l.drop a).take (z + 1 - a))[0]? = some e := by rw [List.getElem?_take_of_lt (by omega), List.getElem?_drop]; exact he
  have h1 : ((l.drop a).take (z + 1 - a))[z - a]? = some d := by rw [List.getElem?_take_of_lt (by omega), List.getElem?_drop, show a + (z - a) = z from by omega]; exact hd
  have h2 := tx_part l a (z + 1 - a)
  have := joined_any (some ⟨b, off + a * 3, none⟩) c ((l.drop a).take (z + 1 - a)) (z - a) e d (by omega) h0 h1 (by omega) W (by omega) (hr.part a (z + 1 - a))
  rw [hlen] at this
  rw [seg_eq he haz hd]
  exact this

/-- the outer loop -/
def MrgI (w : World) (l : List Ed) (v i : Value) (wr : World) : Prop :=
  ∃ (a : Nat) (A' : Option Addr) (c' : Nat) (M : List Ed), a ≤ l.length ∧ i = .int .i64 (a : Int) ∧ v = .slice A' M.length c' ∧ Below w.heap.size w wr ∧ Own wr w.heap.size A' c' M ∧ M.length ≤ a ∧ M ++ mg (l.drop a) = mg l
/-- the inner loop -/
def MrgJ (w : World) (l M : List Ed) (A' : Option Addr) (c' a : Nat) (i : Value) (wr : World) : Prop :=
  ∃ z : Nat, a ≤ z ∧ z < l.length ∧ i = .int .i64 ((z : Int) + 1) ∧ Below w.heap.size w wr ∧ Own wr w.heap.size A' c' M ∧ M ++ mgo (segE l a (z + 1)) (l.drop (z + 1)) = mg l

set_option maxRecDepth 100000 in
set_option maxHeartbeats 4000000 in
theorem merge_ok (A : Option Addr) (c : Nat) (l : List Ed) (size : Int) (hb : rt l size = true) (htx : tx l ≤ 70000) (w : World) (hl : l.length ≤ 10000) (hc : l.length ≤ c) (hr : Eds w w.heap.size A l) :
    Calls Try.prog 106 #[.slice A l.length c, .int .i64 size] w (ListV (mg l) .nilIface w) := by
  have HC := Lib.hid (right_any A c l size w hl hr)
  rw [hb] at HC
  have HT := Lib.hid hb
  clear hb
  go_enter Try.func106, Try.ntmps106
  go_wp2_with fail
  refine HC.out.mono ?_
  rintro e w1 ⟨rfl, hb1⟩
  clear HC
  go_wp2
  go_loopw [6, 7] (fun v i wr => MrgI w l v i wr) (fun _ i _ => l.length + 1 - (intOf i).toNat)
  case atStart => exact ⟨0, none, 0, [], Nat.zero_le _, rfl, rfl, hb1, Own.nil _ _, Nat.le_refl _, rfl⟩
  case round =>
    obtain ⟨a, A', c', M, ha, rfl, rfl, hB, hown, hM, hmg⟩ := hrel
    have HMG := Lib.hid hmg
    clear hmg
    by_cases hlt : a < l.length
    · have he : l[a]? = some l[a] := List.getElem?_eq_getElem hlt
      generalize l[a] = e at he
      have HE := Lib.hid he
      have za : (a : Int) < l.length := by omega
      have hst : MrgJ w l M A' c' a (.int .i64 ((a : Int) + 1)) wr := ⟨a, Nat.le_refl _, hlt, rfl, hB, hown, by rw [seg_one he, ← mg_drop he]; exact HMG.out⟩
      have HST := Lib.hid hst
      clear he hst
      go_wp2
      go_loopw [8] (fun i wr' => MrgJ w l M A' c' a i wr') (fun i _ => l.length + 1 - (intOf i).toNat)
      case atStart => exact HST.out
      case round =>
        clear HST hown hB
        obtain ⟨z, haz, hzl, rfl, hB, hown, hmgo⟩ := hrel
        have HMGO := Lib.hid hmgo
        have HO := Lib.hid hown
        clear hmgo hown
        have hd : l[z]? = some l[z] := List.getElem?_eq_getElem hzl
        generalize l[z] = d at hd
        have HD := Lib.hid hd
        have z1 : (0 : Int) ≤ z := by omega
        have z2 : (z : Int) < l.length := by omega
        by_cases hz1 : z + 1 < l.length
        · have hb : l[z + 1]? = some l[z + 1] := List.getElem?_eq_getElem hz1
          generalize l[z + 1] = b' at hb
          have HBB := Lib.hid hb
          obtain ⟨b, off, rfl, hbl, ⟨c0, c1, c2⟩, ⟨d0, d1, d2⟩⟩ := (hr.below hB).at2 hd hb
          have hz : (z : Int) + 1 - 1 = z := by omega
          have z3 : (0 : Int) ≤ (z : Int) + 1 := by omega
          have z4 : (z : Int) + 1 < l.length := by omega
          have z5 : ((z : Int) + 1).toNat = z + 1 := by omega
          have z6 : IntKind.i64.wrap (z : Int) = z := IntWalk.i64_in _ (by omega)
          have z7 : decide ((z : Int) + 1 < l.length) = true := by simp; omega
          have z8 : decide (z + 1 < l.length) = true := by simp; omega
          have HC := Lib.hid (touch_any d b' wr.drew)
          clear hd hb
          cases hq : tch d b' with
          | true =>
            have HQ := Lib.hid hq
            rw [hq] at HC
            clear hq
            go_wp2
            go_still_tail 14, (by kernel_rfl)
            change wpList _ _ _ _ _ wr.drew
            clear z5 z6 hz
            go_wp2_with fail
            refine HC.out.mono ?_
            rintro r w2 ⟨rfl, hb2⟩
            go_wp2
            go_roundw
            case rel =>
              refine ⟨z + 1, by omega, hz1, by go_num, hB.drew.trans (hb2.mono hB.size), HO.out.drew.below hb2, ?_⟩
              have ht : (segE l a (z + 1)).t = b'.f := by rw [seg_t haz HD.out]; simpa [tch] using HQ.out
              rw [seg_next (by omega) HBB.out, ← mgo_touch HBB.out ht]
              exact HMGO.out
            case measure => simp [intOf]; omega
          | false =>
            have HX : Hid (mgo (segE l a (z + 1)) (l.drop (z + 1)) = keepE (segE l a (z + 1)) ++ mg (l.drop (z + 1))) := Lib.hid (mgo_apart HBB.out (by rw [seg_t haz HD.out]; simpa [tch] using hq))
            rw [hq] at HC
            clear hq
            go_wp2
            go_still_tail 14, (by kernel_rfl)
            change wpList _ _ _ _ _ wr.drew
            clear z5 z6 hz
            go_wp2_with fail
            refine HC.out.mono ?_
            rintro r w2 ⟨rfl, hb2⟩
            have hBW : Below w.heap.size w w2 := hB.drew.trans (hb2.mono hB.size)
            have HOW := Lib.hid (HO.out.drew.below hb2)
            have HRW := Lib.hid (hr.after hBW)
            clear HO hB hb2 c0 c1 c2 d0 d1 d2 HC z7 z8
            go_wp2_with fail
            refine (joined_seg b off _ l a z e d haz HE.out HD.out htx hl w2 HRW.out).mono ?_
            rintro r w3 ⟨rfl, hb3⟩
            have hB3 := hBW.trans (hb3.mono hBW.size)
            have HO3 := Lib.hid (HOW.out.below hb3)
            generalize hsg : segE l a (z + 1) = sg at *
            have HSG := Lib.hid hsg
            clear hsg hBW hb3 HOW HRW
            go_wp2_with fail
            cases hq : idl sg with
            | true =>
              have HQ := Lib.hid hq
              have HI := Lib.hid (idle_any sg (w3.alloc (.cells #[.int .i64 sg.f, .int .i64 sg.t, .string sg.s] 87)))
              rw [hq] at HI
              clear hq
              refine HI.out.mono ?_
              rintro r w4 ⟨rfl, hb4⟩
              have hB4 := (hB3.alloc hB3.size _).trans (hb4.mono (by have := hB3.size; simp; omega))
              have HO4 := Lib.hid ((HO3.out.alloc _).below hb4)
              clear hb4 HI
              go_wp2
              go_roundw
              case rel =>
                refine ⟨z + 1, A', c', M, by omega, by go_num, rfl, hB4, HO4.out, by omega, ?_⟩
                have := HMGO.out
                rw [HX.out] at this
                simpa [keepE, HQ.out] using this
              case measure => simp [intOf]; omega
            | false =>
              have HQ := Lib.hid hq
              have HI := Lib.hid (idle_any sg (w3.alloc (.cells #[.int .i64 sg.f, .int .i64 sg.t, .string sg.s] 87)))
              rw [hq] at HI
              clear hq
              refine HI.out.mono ?_
              rintro r w4 ⟨rfl, hb4⟩
              have hB4 := (hB3.alloc hB3.size _).trans (hb4.mono (by have := hB3.size; simp; omega))
              have HO4 := Lib.hid ((HO3.out.alloc _).below hb4)
              have hbx : w4.heap[w3.heap.size]? = some (.cells #[.int .i64 sg.f, .int .i64 sg.t, .string sg.s] 87 (0, 0)) := by
                rw [hb4.block w3.heap.size (by simp)]; exact heap_alloc_new w3 _
              obtain ⟨x0, x1, x2⟩ := cells_three hbx
              clear hb4 HI hbx
              go_wp2_with (at_builtin; refine wpList_append_ed (by rfl) _ _ (by rfl) w4 w.heap.size A' c' M sg (by rfl) (by rfl) HO4.out (by omega) hB4.size ?_; intro A5 c5 w5 hown5 hgrow5 _ _)
              have hB5 := below_append hB4 hgrow5 HO4.out (Nat.le_refl _) hB4.size
              have HO5 := Lib.hid hown5
              clear hgrow5 hown5
              go_roundw
              case rel =>
                refine ⟨z + 1, A5, c5, M ++ [sg], by omega, by go_num, by simp, hB5, HO5.out, by simp; omega, ?_⟩
                have := HMGO.out
                rw [HX.out] at this
                simpa [keepE, HQ.out] using this
              case measure => simp [intOf]; omega
        · obtain ⟨b, off, rfl, hbl, c0, c1, c2⟩ := (hr.below hB).at_ hd
          have hzz : z + 1 = l.length := by omega
          have HX : Hid (mgo (segE l a (z + 1)) (l.drop (z + 1)) = keepE (segE l a (z + 1)) ++ mg (l.drop (z + 1))) := Lib.hid (by rw [hzz]; exact mgo_end l _)
          have z7 : decide ((z : Int) + 1 < l.length) = false := by simp; omega
          have z8 : decide (z + 1 < l.length) = false := by simp; omega
          clear hd hzz c0 c1 c2
          go_wp2
          go_quiet (fail)
          have hBW : Below w.heap.size w (wr.drewN nq) := below_drewN hB _
          have HOW := Lib.hid (HO.out.drewN nq)
          have HRW := Lib.hid (hr.after hBW)
          clear HO hB z7 z8
          generalize wr.drewN nq = w2 at *
          go_wp2_with fail
          refine (joined_seg b off _ l a z e d haz HE.out HD.out htx hl w2 HRW.out).mono ?_
          rintro r w3 ⟨rfl, hb3⟩
          have hB3 := hBW.trans (hb3.mono hBW.size)
          have HO3 := Lib.hid (HOW.out.below hb3)
          generalize hsg : segE l a (z + 1) = sg at *
          have HSG := Lib.hid hsg
          clear hsg hBW hb3 HOW HRW
          go_wp2_with fail
          cases hq : idl sg with
          | true =>
            have HQ := Lib.hid hq
            have HI := Lib.hid (idle_any sg (w3.alloc (.cells #[.int .i64 sg.f, .int .i64 sg.t, .string sg.s] 87)))
            rw [hq] at HI
            clear hq
            refine HI.out.mono ?_
            rintro r w4 ⟨rfl, hb4⟩
            have hB4 := (hB3.alloc hB3.size _).trans (hb4.mono (by have := hB3.size; simp; omega))
            have HO4 := Lib.hid ((HO3.out.alloc _).below hb4)
            clear hb4 HI
            go_wp2
            go_roundw
            case rel =>
              refine ⟨z + 1, A', c', M, by omega, by go_num, rfl, hB4, HO4.out, by omega, ?_⟩
              have := HMGO.out
              rw [HX.out] at this
              simpa [keepE, HQ.out] using this
            case measure => simp [intOf]; omega
          | false =>
            have HQ := Lib.hid hq
            have HI := Lib.hid (idle_any sg (w3.alloc (.cells #[.int .i64 sg.f, .int .i64 sg.t, .string sg.s] 87)))
            rw [hq] at HI
            clear hq
            refine HI.out.mono ?_
            rintro r w4 ⟨rfl, hb4⟩
            have hB4 := (hB3.alloc hB3.size _).trans (hb4.mono (by have := hB3.size; simp; omega))
            have HO4 := Lib.hid ((HO3.out.alloc _).below hb4)
            have hbx : w4.heap[w3.heap.size]? = some (.cells #[.int .i64 sg.f, .int .i64 sg.t, .string sg.s] 87 (0, 0)) := by
              rw [hb4.block w3.heap.size (by simp)]; exact heap_alloc_new w3 _
            obtain ⟨x0, x1, x2⟩ := cells_three hbx
            clear hb4 HI hbx
            go_wp2_with (at_builtin; refine wpList_append_ed (by rfl) _ _ (by rfl) w4 w.heap.size A' c' M sg (by rfl) (by rfl) HO4.out (by omega) hB4.size ?_; intro A5 c5 w5 hown5 hgrow5 _ _)
            have hB5 := below_append hB4 hgrow5 HO4.out (Nat.le_refl _) hB4.size
            have HO5 := Lib.hid hown5
            clear hgrow5 hown5
            go_roundw
            case rel =>
              refine ⟨z + 1, A5, c5, M ++ [sg], by omega, by go_num, by simp, hB5, HO5.out, by simp; omega, ?_⟩
              have := HMGO.out
              rw [HX.out] at this
              simpa [keepE, HQ.out] using this
            case measure => simp [intOf]; omega
    · obtain rfl : a = l.length := by omega
      have hm : M = mg l := by have := HMG.out; simp [mg] at this; exact this
      subst hm
      clear hr
      go_wp2
      go_ret2
      exact ⟨A', c', rfl, hown.eds, hB⟩

end Go.Proofs.Ytfkpnfhhmldodaa
