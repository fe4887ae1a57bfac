/- Right, Plain, Grow: the program's and the document's. -/
import Derived.Test.YtfkpnfhhmldodaaEditList
namespace Go.Proofs.Ytfkpnfhhmldodaa
open Go.RowKit EditMath

theorem enters29 : ∀ args w, (callFunc 84 args).run Try.prog w = .ok (.enter 84 args) w := enters_of Try.func84 (by kernel_rfl) rfl
theorem enters31 : ∀ args w, (callFunc 67 args).run Try.prog w = .ok (.enter 67 args) w := enters_of Try.func67 (by kernel_rfl) rfl
theorem enters32 : ∀ args w, (callFunc 69 args).run Try.prog w = .ok (.enter 69 args) w := enters_of Try.func69 (by kernel_rfl) rfl
theorem enters42 : ∀ args w, (callFunc 110 args).run Try.prog w = .ok (.enter 110 args) w := enters_of Try.func110 (by kernel_rfl) rfl

set_option maxHeartbeats 400000 in
theorem numbersRight_any (A : Option Addr) (c : Nat) (l : List Ed) (size : Int) (w : World) (hl : l.length ≤ 10000) (hr : Eds w w.heap.size A l) :
    Calls Try.prog 83 #[.slice A l.length c, .int .i64 size] w fun e w' => e = .returned (.bool (decide (0 ≤ size) && l.all (wi size))) ∧ Below w.heap.size w w' := by
  by_cases h : 0 ≤ size
  · have h' : decide (size < 0) = false := by simp; omega
    have hask : Asks 110 #[.pointer (some ⟨w.heap.size, 0, none⟩)] (fun e => !wi size e) l (w.alloc (.cells #[.int .i64 size] 3)) := by
      intro W x _ hb
      exact numbers1_any x size w.heap.size W (by have := hb.size; simp at this; omega) (by rw [hb.cell (p := ⟨w.heap.size, 0, none⟩) (by simp)]; simp)
    have HC := Lib.hid (containsFunc_any A c l 110 _ enters42 _ (w.alloc (.cells #[.int .i64 size] 3)) hl ((hr.alloc (Nat.le_refl _) _).more (by simp)) hask)
    clear hask hr
    rw [any_not_all] at HC
    have HR := Lib.hid (show (decide (0 ≤ size) && l.all (wi size)) = l.all (wi size) by simp [h])
    generalize hq : (decide (0 ≤ size) && l.all (wi size)) = q at HR ⊢
    clear hq
    generalize l.all (wi size) = r at HC HR
    go_enter Try.func83, Try.ntmps83
    go_wp2_with fail
    refine HC.out.mono ?_
    rintro e w1 ⟨rfl, hb1⟩
    go_wp2
    go_ret
    exact ⟨ret_bool (by rw [HR.out]), (below1 w _).trans (hb1.mono (by simp))⟩
  · have h' : decide (size < 0) = true := by simp; omega
    go_enter Try.func83, Try.ntmps83
    go_wp2
    go_ret
    exact ⟨ret_bool (by rw [show decide (0 ≤ size) = false from by simp; omega]; rfl), below1 w _⟩

set_option maxHeartbeats 400000 in
theorem right_any (A : Option Addr) (c : Nat) (l : List Ed) (size : Int) (w : World) (hl : l.length ≤ 10000) (hr : Eds w w.heap.size A l) :
    Calls Try.prog 49 #[.slice A l.length c, .int .i64 size] w fun e w' => e = .returned (.bool (rt l size)) ∧ Below w.heap.size w w' := by
  have HC := Lib.hid (numbersRight_any A c l size w hl hr)
  have HD : Hid (∀ W, Below w.heap.size w W → Calls Try.prog 68 #[.slice A l.length c, .func (.func 84) #[] #[]] W fun e w' => e = .returned (.bool (each nx l)) ∧ Below W.heap.size W w') :=
    Lib.hid fun W hb => eachNext_any A c l 84 enters29 nx W hl (hr.after hb) (fun W' x y _ => right1_any x y W')
  have HR : Hid (rt l size = ((decide (0 ≤ size) && l.all (wi size)) && each nx l)) := Lib.hid (by simp only [rt, Bool.and_assoc])
  clear hr
  generalize rt l size = q at HR ⊢
  generalize (decide (0 ≤ size) && l.all (wi size)) = r at HC HR
  generalize each nx l = s at HD HR
  cases r with
  | true =>
    go_enter Try.func49, Try.ntmps49
    go_wp2_with fail
    refine HC.out.mono ?_
    rintro e w1 ⟨rfl, hb1⟩
    go_wp2_with fail
    refine (HD.out w1 hb1).mono ?_
    rintro e w2 ⟨rfl, hb2⟩
    go_wp2
    go_ret
    exact ⟨ret_bool (by rw [HR.out]; simp), hb1.trans (hb2.mono hb1.size)⟩
  | false =>
    go_enter Try.func49, Try.ntmps49
    go_wp2_with fail
    refine HC.out.mono ?_
    rintro e w1 ⟨rfl, hb1⟩
    go_wp2
    go_ret
    exact ⟨ret_bool (by rw [HR.out]; simp), hb1⟩

set_option maxHeartbeats 400000 in
theorem plain_any (A : Option Addr) (c : Nat) (l : List Ed) (size : Int) (w : World) (hl : l.length ≤ 10000) (hr : Eds w w.heap.size A l) :
    Calls Try.prog 28 #[.slice A l.length c, .int .i64 size] w fun e w' => e = .returned (.bool (pl l size)) ∧ Below w.heap.size w w' := by
  have HC := Lib.hid (right_any A c l size w hl hr)
  have HI : Hid (∀ W, Below w.heap.size w W → Calls Try.prog 66 #[.slice A l.length c, .func (.func 67) #[] #[]] W fun e w' => e = .returned (.bool (l.any idl)) ∧ Below W.heap.size W w') :=
    Lib.hid fun W hb => containsFunc_any A c l 67 #[] enters31 idl W hl (hr.after hb) (fun W' x _ _ => idle_any x W')
  have HD : Hid (∀ W, Below w.heap.size w W → Calls Try.prog 68 #[.slice A l.length c, .func (.func 69) #[] #[]] W fun e w' => e = .returned (.bool (each (fun a b => !tch a b) l)) ∧ Below W.heap.size W w') :=
    Lib.hid fun W hb => eachNext_any A c l 69 enters32 _ W hl (hr.after hb) (fun W' x y _ => plain1_any x y W')
  have HR : Hid (pl l size = (rt l size && (!l.any idl && each (fun a b => !tch a b) l))) := Lib.hid rfl
  clear hr
  generalize pl l size = q at HR ⊢
  generalize rt l size = r at HC HR
  generalize l.any idl = i at HI HR
  generalize each (fun a b => !tch a b) l = s at HD HR
  cases r with
  | false =>
    go_enter Try.func28, Try.ntmps28
    go_wp2_with fail
    refine HC.out.mono ?_
    rintro e w1 ⟨rfl, hb1⟩
    go_wp2
    go_ret
    exact ⟨ret_bool (by rw [HR.out]; simp), hb1⟩
  | true =>
    cases i with
    | true =>
      go_enter Try.func28, Try.ntmps28
      go_wp2_with fail
      refine HC.out.mono ?_
      rintro e w1 ⟨rfl, hb1⟩
      go_wp2_with fail
      refine (HI.out w1 hb1).mono ?_
      rintro e w2 ⟨rfl, hb2⟩
      go_wp2
      go_ret
      exact ⟨ret_bool (by rw [HR.out]; simp), hb1.trans (hb2.mono hb1.size)⟩
    | false =>
      go_enter Try.func28, Try.ntmps28
      go_wp2_with fail
      refine HC.out.mono ?_
      rintro e w1 ⟨rfl, hb1⟩
      go_wp2_with fail
      refine (HI.out w1 hb1).mono ?_
      rintro e w2 ⟨rfl, hb2⟩
      go_wp2_with fail
      refine (HD.out w2 (hb1.trans (hb2.mono hb1.size))).mono ?_
      rintro e w3 ⟨rfl, hb3⟩
      go_wp2
      go_ret
      exact ⟨ret_bool (by rw [HR.out]; simp), (hb1.trans (hb2.mono hb1.size)).trans (hb3.mono (hb1.trans (hb2.mono hb1.size)).size)⟩

theorem right_first {l : List Ed} {k : Nat} {e : Ed} {size : Int} (he : l[k]? = some e) (hk : k = 0) (h0 : 0 ≤ size) (hq : wi size e = true) : rt (l.take (k + 1)) size = true := by
  subst hk
  rw [take_snoc he]
  simp [rt, each, h0, hq]

theorem take_at {l : List Ed} {n i : Nat} {x : Ed} (h : (l.take n)[i]? = some x) : l[i]? = some x ∧ i < n := by
  rw [List.getElem?_take] at h
  split at h
  · exact ⟨h, ‹_›⟩
  · cases h

theorem right_next {l : List Ed} {m k : Nat} {d e : Ed} {size : Int} (hm : m + 1 = k) (hd : l[m]? = some d) (he : l[k]? = some e) (hN : rt (l.take k) size = true) (hq : wi size e = true) (h1 : d.t ≤ e.f) (h2 : d.f < e.f) : rt (l.take (k + 1)) size = true := by
  obtain ⟨a, b, c⟩ := rt_parts hN
  refine rt_mk a (fun i x hx => ?_) (fun i x y hx hy => ?_)
  · obtain ⟨hx', hi⟩ := take_at hx
    by_cases h : i = k
    · subst h; rw [he] at hx'; injection hx' with hx'; subst hx'; exact wi_iff.1 hq
    · exact b i x (by rw [List.getElem?_take_of_lt (by omega)]; exact hx')
  · obtain ⟨hx', _⟩ := take_at hx
    obtain ⟨hy', hi⟩ := take_at hy
    by_cases h : i = m
    · subst h; subst hm
      rw [hd] at hx'; rw [he] at hy'; injection hx' with hx'; injection hy' with hy'; subst hx' hy'
      exact ⟨h1, h2⟩
    · exact c i x y (by rw [List.getElem?_take_of_lt (by omega)]; exact hx') (by rw [List.getElem?_take_of_lt (by omega)]; exact hy')

theorem right_bad {l : List Ed} {m k : Nat} {d e : Ed} {size : Int} (hm : m + 1 = k) (hd : l[m]? = some d) (he : l[k]? = some e) (h : ¬ (d.t ≤ e.f ∧ d.f < e.f)) : rt l size = false := by
  cases q : rt l size with
  | false => rfl
  | true =>
    subst hm
    exact absurd ((rt_parts q).2.2 m d e hd he) h

set_option maxRecDepth 100000 in
set_option maxHeartbeats 1600000 in
theorem refRight_any (A : Option Addr) (c : Nat) (l : List Ed) (size : Int) (w : World) (hl : l.length ≤ 10000) (hr : Eds w w.heap.size A l) :
    Calls Try.prog 20 #[.slice A l.length c, .int .i64 size] w fun e w' => e = .returned (.bool (rt l size)) ∧ Below w.heap.size w w' := by
  by_cases h0 : 0 ≤ size
  · have h' : decide (size < 0) = false := by simp; omega
    go_enter Try.func20, Try.ntmps20
    go_wp2
    go_loopw [5] (fun i wr => ∃ k : Nat, k ≤ l.length ∧ i = .int .i64 (k : Int) ∧ Below w.heap.size w wr ∧ Hid (rt (l.take k) size = true)) (fun i _ => l.length + 1 - (intOf i).toNat)
    case atStart => exact ⟨0, Nat.zero_le _, rfl, Below.refl _ _, Lib.hid (by simp [rt, each, h0])⟩
    case round =>
      obtain ⟨k, hk, rfl, hB, HN⟩ := hrel
      by_cases hlt : k < l.length
      · have he : l[k]? = some l[k] := List.getElem?_eq_getElem hlt
        generalize l[k] = e at he
        have HE := Lib.hid he
        have z2 : (k : Int) < l.length := by omega
        cases hq : wi size e with
        | false =>
          obtain ⟨b, off, rfl, hb, c0, c1, c2⟩ := (hr.below hB).at_ he
          have HQ := Lib.hid hq
          clear he hq hr
          go_wp2_with fail
          refine (within_any e size _).mono ?_
          rw [HQ.out]
          rintro r w1 ⟨rfl, hb1⟩
          go_wp2
          go_ret
          exact ⟨ret_bool (by simp only [rt, all_no HE.out HQ.out]; simp), hB.trans (hb1.mono hB.size)⟩
        | true =>
          have HQ := Lib.hid hq
          clear hq
          by_cases hk0 : k = 0
          · have HK := Lib.hid hk0
            have hg : decide (0 < (k : Int)) = false := by simp; omega
            have hg2 : decide (0 < k) = false := by simp; omega
            obtain ⟨b, off, rfl, hb, c0, c1, c2⟩ := (hr.below hB).at_ he
            clear he hr hk0
            go_wp2_with fail
            refine (within_any e size _).mono ?_
            rw [HQ.out]
            rintro r w1 ⟨rfl, hb1⟩
            go_wp2
            go_quiet (fail)
            go_wp2
            go_roundw
            case rel =>
              refine ⟨k + 1, by omega, by go_num, below_drewN (hB.trans (hb1.mono hB.size)) _, Lib.hid (right_first HE.out HK.out h0 HQ.out)⟩
            case measure => simp [intOf]; omega
          · obtain ⟨m, hm⟩ : ∃ m, m + 1 = k := ⟨k - 1, by omega⟩
            have hd : l[m]? = some l[m] := List.getElem?_eq_getElem (by omega)
            generalize l[m] = d at hd
            have HD := Lib.hid hd
            have hg : decide (0 < (k : Int)) = true := by simp; omega
            have hg2 : decide (0 < k) = true := by simp; omega
            have hz : (k : Int) - 1 = m := by omega
            have z1 : (0 : Int) ≤ m := by omega
            have z2 : (m : Int) < l.length := by omega
            have z6 : IntKind.i64.wrap (m : Int) = m := IntWalk.i64_in _ (by omega)
            obtain ⟨b, off, rfl, hb, ⟨c0, c1, c2⟩, ⟨d0, d1, d2⟩⟩ := (hr.below hB).at2 he hd
            have HM := Lib.hid hm
            have hbb : b < wr.heap.size := Nat.lt_of_lt_of_le hb hB.size
            clear he hr hd hk0 hm
            go_wp2_with fail
            refine (within_any e size _).mono ?_
            rw [HQ.out]
            rintro r w1 ⟨rfl, hb1⟩
            have C0 := (hb1.cell (p := ⟨b, off + k * 3, none⟩) hbb).trans c0
            have D0 := (hb1.cell (p := ⟨b, off + m * 3, none⟩) hbb).trans d0
            have D1 := (hb1.cell (p := ⟨b, off + m * 3 + 1, none⟩) hbb).trans d1
            clear c0 c1 c2 d0 d1 d2
            cases x1 : decide (e.f < d.t) with
            | true =>
              go_wp2
              go_quiet (fail)
              go_wp2
              go_ret
              simp only [decide_eq_true_eq] at x1
              exact ⟨ret_bool (right_bad HM.out HD.out HE.out (by omega)).symm, below_drewN (hB.trans (hb1.mono hB.size)) _⟩
            | false =>
              cases x2 : (e.f == d.f) with
              | true =>
                go_wp2
                go_quiet (fail)
                go_wp2
                go_ret
                have x3 := beq_iff_eq.1 x2
                exact ⟨ret_bool (right_bad HM.out HD.out HE.out (by omega)).symm, below_drewN (hB.trans (hb1.mono hB.size)) _⟩
              | false =>
                go_wp2
                go_quiet (fail)
                go_wp2
                clear hz z6
                go_roundw
                case rel =>
                  simp only [decide_eq_false_iff_not] at x1
                  have x3 := beq_eq_false_iff_ne.1 x2
                  have x4 := (rt_parts HN.out).2.1 m d (by rw [List.getElem?_take_of_lt (by have := HM.out; omega)]; exact HD.out)
                  exact ⟨k + 1, by omega, by go_num, below_drewN (hB.trans (hb1.mono hB.size)) _, Lib.hid (right_next HM.out HD.out HE.out HN.out HQ.out (by omega) (by omega))⟩
                case measure => simp [intOf]; omega
      · obtain rfl : k = l.length := by omega
        go_wp2
        go_ret
        refine ⟨ret_bool ?_, hB⟩
        have := HN.out
        rw [List.take_length] at this
        exact this.symm
  · have h' : decide (size < 0) = true := by simp; omega
    go_enter Try.func20, Try.ntmps20
    go_wp2
    go_ret
    exact ⟨ret_bool (by rw [rt, show decide (0 ≤ size) = false from by simp; omega]; rfl), Below.refl _ _⟩

end Go.Proofs.Ytfkpnfhhmldodaa
