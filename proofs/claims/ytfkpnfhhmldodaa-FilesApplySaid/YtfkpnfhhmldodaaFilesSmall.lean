/- Contracts of the small functions: the document's Title and Right, Large, Size. -/
import Derived.Test.YtfkpnfhhmldodaaFilesPlace
namespace Go.Proofs.Ytfkpnfhhmldodaa
open Go.RowKit EditMath FilesMath

theorem run_ix {s : ByteArray} {i : Nat} {u : UInt8} (h : s.data.toList[i]? = some u) (W : World) : (Instr.index 9 (.string s) (.int .i64 (i : Int))).run Try.prog W = .ok (.int .u8 u.toNat) W := by
  obtain ⟨hlt, he⟩ := List.getElem?_eq_some_iff.1 h
  have hs : i < s.size := hlt
  rw [run_index_string W 9 s .i64 (i : Int) Try.underlying9, dif_pos ⟨by omega, by omega⟩]
  have : s[((i : Int)).toNat]'(by simpa using hs) = u := by
    rw [← he]
    simp only [Int.toNat_natCast]
    rfl
  rw [this]

theorem all_snoc {l : List UInt8} {k : Nat} {e : UInt8} (he : l[k]? = some e) (h : ∀ (i : Nat) (x : UInt8), i < k → l[i]? = some x → okb x = true) (ho : okb e = true) : ∀ (i : Nat) (x : UInt8), i < k + 1 → l[i]? = some x → okb x = true := by
  intro i x hi hx
  by_cases q : i = k
  · subst q; rw [he] at hx; injection hx with hx; subst hx; exact ho
  · exact h i x (by omega) hx
theorem all_of {l : List UInt8} (h : ∀ (i : Nat) (x : UInt8), i < l.length → l[i]? = some x → okb x = true) : l.all okb = true := by
  rw [List.all_eq_true]
  intro x hx
  obtain ⟨i, hi⟩ := List.getElem?_of_mem hx
  exact h i x (List.getElem?_eq_some_iff.1 hi).1 hi
theorem all_not {l : List UInt8} {k : Nat} {e : UInt8} (he : l[k]? = some e) (ho : okb e = false) : ¬ l.all okb = true := by
  intro h
  have := List.all_eq_true.1 h e (List.mem_of_getElem? he)
  rw [ho] at this
  cases this

set_option maxRecDepth 100000 in
set_option maxHeartbeats 4000000 in
theorem title_any (s : ByteArray) (hs : (s.size : Int) ≤ 140737488355328) (w : World) :
    Calls Try.prog 73 #[.string s] w fun e w' => e = .returned (.bool (title s)) ∧ w = w' := by
  go_enter Try.func73, Try.ntmps73
  go_wp2
  go_loopw [3, 4] (fun i _ wr => ∃ k : Nat, k ≤ s.size ∧ i = .int .i64 k ∧ w = wr ∧ Hid (∀ (i : Nat) (x : UInt8), i < k → s.data.toList[i]? = some x → okb x = true)) (fun i _ _ => s.size - (intOf i).toNat)
  case atStart => exact ⟨0, Nat.zero_le _, rfl, rfl, Lib.hid (fun i x hi _ => absurd hi (Nat.not_lt_zero _))⟩
  case round =>
    obtain ⟨k, hk, rfl, rfl, HN⟩ := hrel
    by_cases hlt : k < s.size
    · have he : s.data.toList[k]? = some (s.data.toList[k]'hlt) := List.getElem?_eq_getElem hlt
      generalize s.data.toList[k]'hlt = u at he
      have r1 := run_ix he
      have HE := Lib.hid he
      clear he
      have z1 : (0 : Int) ≤ k := by omega
      have z2 : (k : Int) < s.size := by omega
      rcases u8_cases (u.toNat : Int) with h | h | h | h | ⟨h, h'⟩ | ⟨h, h'⟩ | ⟨h, h'⟩ | ⟨h, h'⟩ | h | h | ⟨h, h'⟩ | h
      all_goals
        first
          | have e46 : ((u.toNat : Int) == 46) = true := by rw [beqd]; exact decide_eq_true (by omega)
          | have e46 : ((u.toNat : Int) == 46) = false := by rw [beqd]; exact decide_eq_false (by omega)
        first
          | have e45 : ((u.toNat : Int) == 45) = true := by rw [beqd]; exact decide_eq_true (by omega)
          | have e45 : ((u.toNat : Int) == 45) = false := by rw [beqd]; exact decide_eq_false (by omega)
        first
          | have e95 : ((u.toNat : Int) == 95) = true := by rw [beqd]; exact decide_eq_true (by omega)
          | have e95 : ((u.toNat : Int) == 95) = false := by rw [beqd]; exact decide_eq_false (by omega)
        go_wp2
      all_goals
        first
          | (exfalso; omega)
          | (exfalso; simp only [Bool.not_eq_false', decide_eq_true_eq] at *; omega)
          | (go_roundw
             case rel => exact ⟨k + 1, by omega, by go_num, by first | trivial | rfl, Lib.hid (all_snoc HE.out HN.out (okb_yes (u := u) (by omega)))⟩
             case measure => simp [intOf]; omega)
          | (go_ret
             exact ⟨ret_bool (title_no (fun q => all_not HE.out (okb_no (u := u) (by omega)) q.2.2)).symm, rfl⟩)
    · obtain rfl : k = s.size := by omega
      have ha : s.data.toList.all okb = true := all_of HN.out
      have HA := Lib.hid ha
      clear ha
      by_cases h0 : 1 ≤ s.size
      · by_cases h1 : s.size ≤ 40
        · have d0 : decide ((1 : Int) ≤ s.size) = true := decide_eq_true (by omega)
          have d1 : decide ((s.size : Int) ≤ 40) = true := decide_eq_true (by omega)
          go_wp2
          go_ret
          exact ⟨ret_bool (title_of h0 h1 HA.out).symm, rfl⟩
        · have d0 : decide ((1 : Int) ≤ s.size) = true := decide_eq_true (by omega)
          have d1 : decide ((s.size : Int) ≤ 40) = false := decide_eq_false (by omega)
          go_wp2
          go_ret
          exact ⟨ret_bool (title_no (fun q => h1 q.2.1)).symm, rfl⟩
      · have d0 : decide ((1 : Int) ≤ s.size) = false := decide_eq_false (by omega)
        go_wp2
        go_ret
        exact ⟨ret_bool (title_no (fun q => h0 q.1)).symm, rfl⟩

theorem ok_snoc' {l : List Fl} {k : Nat} {e : Fl} (he : l[k]? = some e) (h : ∀ (i : Nat) (x : Fl), i < k → l[i]? = some x → okAt l i x) (ho : okAt l k e) : ∀ (i : Nat) (x : Fl), i < k + 1 → l[i]? = some x → okAt l i x := by
  intro i x hi hx
  by_cases q : i = k
  · subst q; rw [he] at hx; injection hx with hx; subst hx; exact ho
  · exact h i x (by omega) hx
theorem rgt_not' {l : List Fl} {k : Nat} {e : Fl} (he : l[k]? = some e) (ho : ¬ okAt l k e) : rgt l = false := rgt_no fun h => ho (h.2.2 k e he)

set_option maxRecDepth 100000 in
set_option maxHeartbeats 2000000 in
theorem refRight4_any (A : Option Addr) (c : Nat) (l : List Fl) (w : World) (hl : l.length ≤ 30) (hs : ∀ (i : Nat) (f : Fl), l[i]? = some f → (f.n.size : Int) ≤ 50000 ∧ (f.t.size : Int) ≤ 50000) (hr : Fls w w.heap.size A l) :
    Calls Try.prog 36 #[.slice A l.length c] w fun e w' => e = .returned (.bool (rgt l)) ∧ w = w' := by
  have HS := Lib.hid hs
  clear hs
  have HP := fun n => Lib.hid (place_any A c l n w hl hr)
  go_enter Try.func36, Try.ntmps36
  go_wp2
  go_loopw [3] (fun i wr => ∃ k : Nat, k ≤ l.length ∧ i = .int .i64 k ∧ w = wr ∧ Hid (∀ (i : Nat) (x : Fl), i < k → l[i]? = some x → okAt l i x)) (fun i _ => l.length - (intOf i).toNat)
  case atStart => exact ⟨0, Nat.zero_le _, rfl, rfl, Lib.hid (fun i x hi _ => absurd hi (Nat.not_lt_zero _))⟩
  case round =>
    obtain ⟨k, hk, rfl, rfl, HN⟩ := hrel
    by_cases hlt : k < l.length
    · have he : l[k]? = some l[k] := List.getElem?_eq_getElem hlt
      generalize l[k] = e at he
      obtain ⟨s1, s2⟩ := HS.out k e he
      obtain ⟨b, off, rfl, hb, c0, c1⟩ := hr.at_ he
      have HT := Lib.hid (title_any e.n (by omega) w)
      have HE := Lib.hid he
      clear he
      have HA := Lib.hid (plc_ahead HE.out)
      have HPP := HP e.n
      clear HP
      have z1 : (0 : Int) ≤ k := by omega
      have z2 : (k : Int) < l.length := by omega
      cases ht : title e.n with
      | false =>
        rw [ht] at HT
        have HTT := Lib.hid ht
        clear ht
        go_wp2_with fail
        refine HT.out.mono ?_
        rintro r w1 ⟨rfl, rfl⟩
        go_wp2
        go_ret
        exact ⟨ret_bool (rgt_not' HE.out (fun h => by have := h.1; rw [HTT.out] at this; cases this)).symm, rfl⟩
      | true =>
        rw [ht] at HT
        have HTT := Lib.hid ht
        clear ht
        generalize hp : plcI l e.n = p at HPP HA
        by_cases hpk : p < (k : Int)
        · have d0 : decide (p < (k : Int)) = true := decide_eq_true hpk
          go_wp2_with fail
          refine HT.out.mono ?_
          rintro r w1 ⟨rfl, rfl⟩
          go_wp2_with fail
          refine HPP.out.mono ?_
          rintro r w1 ⟨rfl, rfl⟩
          go_wp2
          go_ret
          exact ⟨ret_bool (rgt_not' HE.out (fun h => by have := HA.out.1 h.2.2; omega)).symm, rfl⟩
        · have d0 : decide (p < (k : Int)) = false := decide_eq_false hpk
          by_cases hL : (4000 : Int) < e.t.size
          · have d1 : decide ((4000 : Int) < e.t.size) = true := decide_eq_true hL
            go_wp2_with fail
            refine HT.out.mono ?_
            rintro r w1 ⟨rfl, rfl⟩
            go_wp2_with fail
            refine HPP.out.mono ?_
            rintro r w1 ⟨rfl, rfl⟩
            go_wp2
            go_ret
            exact ⟨ret_bool (rgt_not' HE.out (fun h => by have := h.2.1; omega)).symm, rfl⟩
          · have d1 : decide ((4000 : Int) < e.t.size) = false := decide_eq_false hL
            go_wp2_with fail
            refine HT.out.mono ?_
            rintro r w1 ⟨rfl, rfl⟩
            go_wp2_with fail
            refine HPP.out.mono ?_
            rintro r w1 ⟨rfl, rfl⟩
            go_wp2
            go_roundw
            case rel => exact ⟨k + 1, by omega, by go_num, by first | trivial | rfl, Lib.hid (ok_snoc' HE.out HN.out ⟨HTT.out, by omega, HA.out.2 hpk⟩)⟩
            case measure => simp [intOf]; omega
    · obtain rfl : k = l.length := by omega
      by_cases h0 : 1 ≤ l.length
      · by_cases h1 : l.length ≤ 8
        · have d0 : decide ((1 : Int) ≤ l.length) = true := decide_eq_true (by omega)
          have d1 : decide ((l.length : Int) ≤ 8) = true := decide_eq_true (by omega)
          go_wp2
          go_ret
          exact ⟨ret_bool (rgt_yes ⟨h0, h1, fun i x hx => HN.out i x (List.getElem?_eq_some_iff.1 hx).1 hx⟩).symm, rfl⟩
        · have d0 : decide ((1 : Int) ≤ l.length) = true := decide_eq_true (by omega)
          have d1 : decide ((l.length : Int) ≤ 8) = false := decide_eq_false (by omega)
          go_wp2
          go_ret
          exact ⟨ret_bool (rgt_no (fun q => h1 q.2.1)).symm, rfl⟩
      · have d0 : decide ((1 : Int) ≤ l.length) = false := decide_eq_false (by omega)
        go_wp2
        go_ret
        exact ⟨ret_bool (rgt_no (fun q => h0 q.1)).symm, rfl⟩
end Go.Proofs.Ytfkpnfhhmldodaa
