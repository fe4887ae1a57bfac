/- The document's Diff at all arguments; the law FilesDiff, walked. -/
import Derived.Test.YtgfafinpcpiogaaFilesRefDiff
import Derived.Test.YtgfafinpcpiogaaFilesPats
namespace Go.Proofs.Ytgfafinpcpiogaa
open Go.RowKit EditMath FilesMath

theorem PatR.empty {w w' : World} {n : Int} (hb : Below w.heap.size w w') : PatR [] n w (.returned (.tuple #[.slice none 0 0, .int .i64 n])) w' := ⟨none, 0, [], rfl, Pts.none_, rfl, hb⟩

set_option maxHeartbeats 1000000 in
theorem refDiff_bad (A A2 : Option Addr) (c c2 : Nat) (a b : List Fl) (w : World) (hl : a.length ≤ 30) (hl2 : b.length ≤ 30) (ht : tot a ≤ 50000) (ht2 : tot b ≤ 50000) (hr : Fls w w.heap.size A a) (hr2 : Fls w w.heap.size A2 b) (hRR : ¬ (rgt a = true ∧ rgt b = true)) :
    Calls Try.prog 46 #[.slice A a.length c, .slice A2 b.length c2] w (PatR [] 2 w) := by
  have HR := Lib.hid (refRight4_any A c a w hl (sizes_of ht) hr)
  have HR2 := Lib.hid (refRight4_any A2 c2 b w hl2 (sizes_of ht2) hr2)
  cases hR : rgt a with
  | false =>
    rw [hR] at HR
    clear hR hRR
    go_enter Try.func46, Try.ntmps46
    go_wp2_with fail
    refine HR.out.mono ?_
    rintro e w1 ⟨rfl, rfl⟩
    go_wp2
    go_ret2
    exact PatR.empty (Below.refl _ _)
  | true =>
    have hR2 : rgt b = false := by
      cases h : rgt b with
      | false => rfl
      | true => exact absurd ⟨hR, h⟩ hRR
    rw [hR] at HR
    rw [hR2] at HR2
    clear hR hR2 hRR
    go_enter Try.func46, Try.ntmps46
    go_wp2_with fail
    refine HR.out.mono ?_
    rintro e w1 ⟨rfl, rfl⟩
    go_wp2_with fail
    refine HR2.out.mono ?_
    rintro e w1 ⟨rfl, rfl⟩
    go_wp2
    go_ret2
    exact PatR.empty (Below.refl _ _)

set_option maxRecDepth 100000 in
set_option maxHeartbeats 2000000 in
theorem refDiff_names (A A2 : Option Addr) (c c2 : Nat) (a b : List Fl) (w : World) (hl : a.length ≤ 30) (hl2 : b.length ≤ 30) (ht : tot a ≤ 50000) (ht2 : tot b ≤ 50000) (hr : Fls w w.heap.size A a) (hr2 : Fls w w.heap.size A2 b) (hR : rgt a = true) (hR2 : rgt b = true) (hS : sameN a b = false) :
    Calls Try.prog 46 #[.slice A a.length c, .slice A2 b.length c2] w (PatR [] 5 w) := by
  have HR := Lib.hid (refRight4_any A c a w hl (sizes_of ht) hr)
  have HR2 := Lib.hid (refRight4_any A2 c2 b w hl2 (sizes_of ht2) hr2)
  rw [hR] at HR
  rw [hR2] at HR2
  clear hR hR2
  have hSN : ¬ SameN a b := fun h => by rw [sameN_yes h] at hS; cases hS
  have HSN := Lib.hid hSN
  clear hSN hS
  by_cases hn : a.length = b.length
  · have hln : ((a.length : Int) != b.length) = false := by simp [hn]
    have HN0 := Lib.hid hn
    clear hn
    go_enter Try.func46, Try.ntmps46
    go_wp2_with fail
    refine HR.out.mono ?_
    rintro e w1 ⟨rfl, rfl⟩
    go_wp2_with fail
    refine HR2.out.mono ?_
    rintro e w1 ⟨rfl, rfl⟩
    go_wp2
    go_loopw [6] (fun i wr => ∃ k : Nat, k ≤ a.length ∧ i = .int .i64 (k : Int) ∧ Below w.heap.size w wr ∧ Hid (∀ (i : Nat) (x y : Fl), i < k → a[i]? = some x → b[i]? = some y → x.n = y.n)) (fun i _ => a.length - (intOf i).toNat)
    case atStart => exact ⟨0, Nat.zero_le _, rfl, Below.refl _ _, Lib.hid (fun i x y hi _ _ => absurd hi (Nat.not_lt_zero _))⟩
    case round =>
      obtain ⟨k, hk, rfl, hB, HN⟩ := hrel
      by_cases hlt : k < a.length
      · have hlt2 : k < b.length := by rw [← HN0.out]; exact hlt
        have he : a[k]? = some a[k] := List.getElem?_eq_getElem hlt
        have hf : b[k]? = some b[k] := List.getElem?_eq_getElem hlt2
        generalize a[k] = e at he
        generalize b[k] = f at hf
        obtain ⟨bb, off, rfl, hb, c0, c1⟩ := (hr.below hB).at_ he
        obtain ⟨b2, off2, rfl, hb2, g0, g1⟩ := (hr2.below hB).at_ hf
        have hs1 := str_beq e.n f.n
        have HE := Lib.hid he
        have HF := Lib.hid hf
        clear he hf
        have z0 : (0 : Int) ≤ k := by omega
        have z1 : (k : Int) < a.length := by omega
        have z2 : (k : Int) < b.length := by omega
        by_cases hq : e.n = f.n
        · rw [decide_eq_true hq] at hs1
          have HQ := Lib.hid hq
          clear hq
          go_wp2
          go_quiet (fail)
          go_wp2
          go_roundw
          case rel =>
            refine ⟨k + 1, by omega, by go_num, below_drewN hB _, Lib.hid (fun i x y hi hx hy => ?_)⟩
            by_cases e : i = k
            · subst e; rw [HE.out] at hx; rw [HF.out] at hy; injection hx with hx; injection hy with hy; subst hx; subst hy; exact HQ.out
            · exact HN.out i x y (by omega) hx hy
          case measure => simp [intOf]; omega
        · rw [decide_eq_false hq] at hs1
          clear hq
          go_wp2
          go_quiet (fail)
          go_wp2
          go_ret2
          exact PatR.empty (below_drewN hB _)
      · exact absurd ⟨HN0.out, fun i x y hx hy => HN.out i x y (by have := (List.getElem?_eq_some_iff.1 hx).1; omega) hx hy⟩ HSN.out
  · have hln : ((a.length : Int) != b.length) = true := by simp; omega
    go_enter Try.func46, Try.ntmps46
    go_wp2_with fail
    refine HR.out.mono ?_
    rintro e w1 ⟨rfl, rfl⟩
    go_wp2_with fail
    refine HR2.out.mono ?_
    rintro e w1 ⟨rfl, rfl⟩
    go_wp2
    go_ret2
    exact PatR.empty (Below.refl _ _)

theorem refDiff_any (A A2 : Option Addr) (c c2 : Nat) (a b : List Fl) (w : World) (hl : a.length ≤ 30) (hl2 : b.length ≤ 30) (ht : tot a ≤ 50000) (ht2 : tot b ≤ 50000) (hr : Fls w w.heap.size A a) (hr2 : Fls w w.heap.size A2 b) :
    Calls Try.prog 46 #[.slice A a.length c, .slice A2 b.length c2] w (PatR (dfL a b) (dfN a b) w) := by
  unfold dfL
  by_cases hRR : rgt a = true ∧ rgt b = true
  · cases hS : sameN a b with
    | false =>
      have hN : dfN a b = 5 := by unfold dfN; rw [if_pos hRR, if_neg (by simp [hS])]
      rw [hN, if_neg (by decide)]
      exact refDiff_names A A2 c c2 a b w hl hl2 ht ht2 hr hr2 hRR.1 hRR.2 hS
    | true =>
      have hN : dfN a b = 0 := by unfold dfN; rw [if_pos hRR, if_pos hS]
      rw [hN, if_pos rfl]
      exact refDiff_ok A A2 c c2 a b w hl hl2 ht ht2 hr hr2 hRR.1 hRR.2 hS
  · have hN : dfN a b = 2 := by unfold dfN; rw [if_neg hRR]
    rw [hN, if_neg (by decide)]
    exact refDiff_bad A A2 c c2 a b w hl hl2 ht ht2 hr hr2 hRR

theorem dfN_pos (a b : List Fl) : 0 ≤ dfN a b := by
  unfold dfN
  split
  · split <;> omega
  · omega
theorem dfs_len (a b : List Fl) : (dfs a b).length ≤ a.length := by
  unfold dfs
  rw [List.length_map]
  refine Nat.le_trans (List.length_filter_le _ _) ?_
  rw [List.length_zip]
  omega
theorem dfs_one {a b : List Fl} {i : Nat} {x : ByteArray × List Ed} (h : (dfs a b)[i]? = some x) : x.2.length = 1 := by
  have := List.mem_of_getElem? h
  unfold dfs at this
  obtain ⟨y, _, rfl⟩ := List.mem_map.1 this
  rfl

set_option maxRecDepth 100000 in
set_option maxHeartbeats 2000000 in
theorem filesDiff_walk (A0 A1 : Option Addr) (c0 c1 : Nat) (a b : List Fl) (hes0 : ∀ (i : Nat) (f : Fl), a[i]? = some f → (f.n.size : Int) ≤ 140737488355328 ∧ (f.t.size : Int) ≤ 140737488355328) (hes1 : ∀ (i : Nat) (f : Fl), b[i]? = some f → (f.n.size : Int) ≤ 140737488355328 ∧ (f.t.size : Int) ≤ 140737488355328)
    (hl0 : (a.length : Int) ≤ 9223372036854775807) (hl1 : (b.length : Int) ≤ 9223372036854775807) (hc0 : a.length ≤ c0) (hc1 : b.length ≤ c1) (w : World) (hr0 : Fls w w.heap.size A0 a) (hr1 : Fls w w.heap.size A1 b) :
    Calls Try.prog 9 #[.slice A0 a.length c0, .slice A1 b.length c1] w fun e w' => e = .returned (.bool true) ∧ Below w.heap.size w w' := by
  have HS0 := Lib.hid hes0
  have HS1 := Lib.hid hes1
  have HR0 := Lib.hid hr0
  have HR1 := Lib.hid hr1
  clear hes0 hes1 hr0 hr1
  go_enter Try.func9, Try.ntmps9
  go_wp2_with fail
  refine (alive4_any _).mono ?_
  rintro e w1 ⟨rfl, hb1⟩
  go_wp2_with fail
  refine (large4_any A0 c0 a _ HS0.out hl0 (HR0.out.after hb1)).mono ?_
  rintro e w2 ⟨hv, hb2⟩
  have hB2 := hb1.trans (hb2.mono hb1.size)
  clear hb1 hb2
  rcases hv with rfl | ⟨rfl, hla, hta⟩
  · go_wp2
    go_ret
    exact ⟨rfl, hB2⟩
  · go_wp2_with fail
    refine (large4_any A1 c1 b _ HS1.out hl1 (HR1.out.after hB2)).mono ?_
    rintro e w3 ⟨hv, hb3⟩
    have hB3 := hB2.trans (hb3.mono hB2.size)
    clear hb3 hB2
    rcases hv with rfl | ⟨rfl, hlb, htb⟩
    · go_wp2
      go_ret
      exact ⟨rfl, hB3⟩
    · have HD := fun (W : World) h h' => Lib.hid (diff_any A0 A1 c0 c1 a b W (by omega) (by omega) hc0 hc1 (by omega) (by omega) h h')
      have HE := fun (W : World) h h' => Lib.hid (refDiff_any A0 A1 c0 c1 a b W (by omega) (by omega) (by omega) (by omega) h h')
      have hN := dfN_pos a b
      have HLL : Hid ((dfL a b).length ≤ 100 ∧ ∀ (i : Nat) (x : ByteArray × List Ed), (dfL a b)[i]? = some x → x.2.length ≤ 20000) := Lib.hid (by
        unfold dfL
        split
        · exact ⟨by have := dfs_len a b; omega, fun i x h => by rw [dfs_one h]; omega⟩
        · exact ⟨by simp, fun i x h => by simp at h⟩)
      generalize dfL a b = L at *
      generalize dfN a b = n at *
      have hnn : (n == n) = true := by simp
      go_wp2_with fail
      refine (HD _ (HR0.out.after hB3) (HR1.out.after hB3)).out.mono ?_
      rintro e w4 ⟨A4, c4, m4, rfl, hp4, _, _, hm4, hb4⟩
      have hB4 := hB3.trans (hb4.mono hB3.size)
      have HP4 := Lib.hid hp4
      have HM4 := Lib.hid hm4
      clear hp4 hm4 hb4
      go_wp2_with fail
      refine (HE _ (HR0.out.after hB4) (HR1.out.after hB4)).out.mono ?_
      rintro e w5 ⟨A5, c5, m5, rfl, hp5, hm5, hb5⟩
      have hB5 := hB4.trans (hb5.mono hB4.size)
      have HP5 := Lib.hid hp5
      have HM5 := Lib.hid hm5
      have HQ4 := Lib.hid (HP4.out.after hb5)
      clear hp5 hm5 hb5
      go_wp2_with fail
      refine (num_er n hN _).mono ?_
      rintro e w6 ⟨rfl, rfl⟩
      go_wp2_with fail
      refine (patches_same A4 A5 c4 c5 m4 m5 _ (by have := congrArg List.length HM4.out; rw [List.length_map] at this; have := HLL.out.1; omega)
        (fun i p hp => HLL.out.2 i (pd p) (by rw [← HM4.out, List.getElem?_map, hp]; rfl)) (HM4.out.trans HM5.out.symm) HQ4.out HP5.out).mono ?_
      rintro e w7 ⟨rfl, hb7⟩
      go_wp2
      go_ret
      exact ⟨rfl, hB5.trans (hb7.mono hB5.size)⟩
end Go.Proofs.Ytgfafinpcpiogaa
