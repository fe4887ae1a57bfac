/- The law LexTiles, walked. -/
import Derived.Test.YtjmdnjflcifpmaaDoorLexTile
namespace Go.Proofs.YtjmdnjflcifpmaaDoor
open Go.RowKit Go.Shelf SignMath

attribute [local go_sem] Oper.semAt_some

theorem tl_self (a : ByteArray) : (a.toList == a.toList) = true := by simp
theorem drop_next {L : List Tk} {k : Nat} {x : Tk} (h : L[k]? = some x) : L.drop k = x :: L.drop (k + 1) := by
  obtain ⟨hl, rfl⟩ := List.getElem?_eq_some_iff.1 h
  exact List.drop_eq_getElem_cons hl

set_option maxHeartbeats 1000000 in
theorem tiles_long (s : ByteArray) (hs : 2000 < s.size) (w : World) (hL : LaidX w) :
    Calls Tryd.prog 6 #[.string s] w fun e w' => e = .returned (.bool true) ∧ Below w.heap.size w w' := by
  go_enter Tryd.func6, Tryd.ntmps6
  go_wp2_with (go_at_call 8; refine (alive_any _ hL).mono ?_; rintro e w1 ⟨rfl, hB1⟩)
  go_ret
  exact ⟨rfl, hB1⟩

/-- one token of its kind -/
theorem alone_any (s : ByteArray) (hs : s.size ≤ 2000) (t : Tk) (ht : t ∈ rls (tk (bs s) 0)) (hb : bad (tk (bs s) 0) = none) (w : World) (hL : LaidX w) :
    Calls Tryd.prog 12 #[.string (tx s (toZ t))] w (CoV [⟨t.k, 0, t.z - t.a⟩] w) := by
  have h1 := List.mem_filter.1 ht
  have h7 : t.k ≠ 7 := fun h => by
    have := List.find?_eq_none.1 hb t h1.1
    simp [h] at this
  have := tx_size s (toZ t)
  have H := list_any (tx s (toZ t)) (by omega) w hL
  rwa [tk_alone s t h1.1 (of_decide_eq_true h1.2) h7] at H

set_option maxRecDepth 100000 in
set_option maxHeartbeats 4000000 in
theorem tiles_short (s : ByteArray) (hs : ¬ 2000 < s.size) (w : World) (hL : LaidX w) :
    Calls Tryd.prog 6 #[.string s] w fun e w' => e = .returned (.bool true) ∧ Below w.heap.size w w' := by
  have HA := Lib.hid (alone_any s (by omega))
  have HR := Lib.hid (real_any s (by omega))
  have HLI := Lib.hid (list_any s (by omega))
  have HJ := Lib.hid (fun (A : Option Addr) (c : Nat) (w : World) (h : Rdc w w.heap.size A (tcells (tk (bs s) 0))) => by
    have hl := tk_size s
    have H := join_any s (by omega) A c ((tk (bs s) 0).map toZ) (by rw [List.length_map]; omega) w (by rw [zc_toZ]; exact h)
    rwa [join_all, List.length_map] at H)
  have hch : Ch s.size 0 (tk (bs s) 0) := by
    have h := tk_chain (bs s) _ 0 (Nat.le_refl _) (Nat.zero_le _)
    rwa [bs_size] at h
  have hLn := tk_size s
  generalize tk (bs s) 0 = L at HA HR HLI HJ hch hLn
  have HCh := Lib.hid hch
  clear hch
  have hss := tl_self s
  have hnn : (((s.size : Nat) : Int) != s.size) = false := by simp
  go_enter Tryd.func6, Tryd.ntmps6
  go_wp2_with (first | (go_at_call 8; refine (alive_any _ hL).mono ?_; rintro e w1 ⟨rfl, hB1⟩) | (go_at_call 12; refine (HLI.out _ (hL.below hB1)).mono ?_; rintro e w2 ⟨A, c, rfl, hr, _, hB2⟩))
  have hBw : Below w.heap.size w w2 := hB1.trans (hB2.mono hB1.size)
  clear hB1 hB2
  go_loopw [4, 6, 22] (fun a _ i wr => ∃ k at_ : Nat, k ≤ L.length ∧ i = .int .i64 (k : Nat) ∧ a = .int .i64 (at_ : Nat) ∧ at_ ≤ s.size ∧ Hid (Ch s.size at_ (L.drop k)) ∧ Below w2.heap.size w2 wr) (fun _ _ i _ => L.length + 1 - (intOf i).toNat)
  case atStart => exact ⟨0, 0, Nat.zero_le _, rfl, rfl, Nat.zero_le _, Lib.hid HCh.out, Below.refl _ _⟩
  case round =>
    obtain ⟨k, at_, hk, rfl, rfl, hat, HC, hB⟩ := hrel
    by_cases hlt : k < L.length
    · have he : L[k]? = some L[k] := List.getElem?_eq_getElem hlt
      generalize L[k] = t at he
      have z1 : (0 : Int) ≤ k := by omega
      have z2 : (k : Int) < L.length := by omega
      obtain ⟨b, off, rfl, hb, c0, c1, c2⟩ := tok_at (hr.below hB) he
      have hC := HC.out
      rw [drop_next he] at hC
      obtain ⟨d1, d2, d3, d4⟩ := hC
      subst d1
      have HC2 := Lib.hid d4
      clear d4 he HC hr
      have n1 : ((t.a : Int) != t.a) = false := by simp
      have g1 : decide ((t.z : Int) ≤ t.a) = false := decide_eq_false (by omega)
      have g2 : decide ((s.size : Int) < t.z) = false := decide_eq_false (by omega)
      go_wp2
      go_roundw
      case rel => exact ⟨k + 1, t.z, by omega, by go_num, rfl, d3, HC2, hB.alloc hB.size _⟩
      case measure => simp [intOf]; omega
    · obtain rfl : k = L.length := by omega
      have hC := HC.out
      rw [List.drop_length] at hC
      have hC : at_ = s.size := hC
      subst hC
      have hLr : LaidX wr := hL.below (hBw.trans (hB.mono hBw.size))
      have hBr : Below w.heap.size w wr := hBw.trans (hB.mono hBw.size)
      have hrr : Rdc wr wr.heap.size A (tcells L) := hr.after hB
      clear hr hB hBw HC
      unfold RlV at HR
      cases hbd : bad L with
      | some x =>
        have e1 : rlT L = [] := by simp [rlT, hbd]
        have e2 : rlE L = errn 2 := by simp [rlE, hbd]
        rw [e1, e2] at HR
        generalize rlA L = q at HR
        clear e1 e2 hbd HA
        go_wp2_with (first | (go_at_call 18; refine (HJ.out _ _ _ hrr).mono ?_; rintro e w3 ⟨rfl, hB3⟩) | (go_at_call 13; refine (HR.out _ (hLr.below hB3)).mono ?_; rintro e w4 ⟨A4, c4, rfl, hr4, _, hB4⟩))
        go_ret
        exact ⟨rfl, hBr.trans ((hB3.trans (hB4.mono hB3.size)).mono hBr.size)⟩
      | none =>
        have e1 : rlT L = rls L := by simp [rlT, hbd]
        have e2 : rlE L = .nilIface := by simp [rlE, hbd]
        rw [e1, e2] at HR
        have HA2 := Lib.hid (fun t ht => HA.out t ht hbd)
        have hrl := rls_len L
        generalize rls L = R at HR HA2 hrl
        generalize rlA L = q at HR
        clear e1 e2 hbd HA
        go_wp2_with (first | (go_at_call 18; refine (HJ.out _ _ _ hrr).mono ?_; rintro e w3 ⟨rfl, hB3⟩) | (go_at_call 13; refine (HR.out _ (hLr.below hB3)).mono ?_; rintro e w4 ⟨A4, c4, rfl, hr4, _, hB4⟩))
        have hB5 : Below w.heap.size w w4 := hBr.trans ((hB3.trans (hB4.mono hB3.size)).mono hBr.size)
        clear hB3 hB4 hBr hLr hrr HR HJ HLI
        go_loopw [11, 12, 70] (fun _ _ i wq => ∃ k : Nat, k ≤ R.length ∧ i = .int .i64 (k : Nat) ∧ Below w4.heap.size w4 wq) (fun _ _ i _ => R.length + 1 - (intOf i).toNat)
        case atStart => exact ⟨0, Nat.zero_le _, rfl, Below.refl _ _⟩
        case round =>
          obtain ⟨k, hk, rfl, hB⟩ := hrel
          by_cases hlt2 : k < R.length
          · have he : R[k]? = some R[k] := List.getElem?_eq_getElem hlt2
            have hmem : R[k] ∈ R := List.getElem_mem hlt2
            generalize R[k] = t at he hmem
            have z1 : (0 : Int) ≤ k := by omega
            have z2 : (k : Int) < R.length := by omega
            obtain ⟨b, off, rfl, hb, c0, c1, c2⟩ := tok_at (hr4.below hB) he
            have HT := Lib.hid (text_any s (toZ t))
            have HU := Lib.hid (HA2.out t hmem)
            unfold CoV at HU
            simp only [toZ, tzv] at HT HU
            generalize tx s ⟨t.k, t.a, t.z⟩ = x at HT HU
            have hLq : LaidX wr := hL.below (hB5.trans (hB.mono hB5.size))
            have n1 : ((t.k : Int) != t.k) = false := by simp
            clear he hmem HA2 hr4
            go_wp2_with (first | (go_at_call 17; refine (HT.out _).mono ?_; rintro e w6 ⟨rfl, hB6⟩; have hx6 := (hB6.block _ (by simp)).trans (World.alloc_heap_new wr (tkc t))) | (go_at_call 12; refine (HU.out _ (hLq.below ((below1 wr (tkc t)).trans (hB6.mono (by simp))))).mono ?_; rintro e w7 ⟨A7, c7, rfl, hr7, _, hB7⟩; have hx7 := (hB7.block _ (lt_of_heap hx6)).trans hx6; have q0 := Lib.cell_of_heap hx7 0; obtain ⟨b7, off7, rfl, hb7, d0, d1, d2⟩ := tok_at (k := 0) hr7 rfl; simp only [List.getElem?_toArray, List.getElem?_cons_zero, Nat.zero_mul, Nat.add_zero] at q0 d0))
            have hBf : Below w4.heap.size w4 w7 := (hB.alloc hB.size _).trans ((hB6.trans (hB7.mono hB6.size)).mono (by have := hB.size; simp; omega))
            clear hx6 hx7 hB6 hB7 hr7
            go_quiet (fail)
            go_wp2
            go_roundw
            case rel => exact ⟨k + 1, by omega, by go_num, below_drewN hBf _⟩
            case measure => simp [intOf]; omega
          · obtain rfl : k = R.length := by omega
            go_wp2
            go_ret
            exact ⟨rfl, hB5.trans (hB.mono hB5.size)⟩

theorem tiles_walk (s : ByteArray) (w : World) (hL : LaidX w) :
    Calls Tryd.prog 6 #[.string s] w fun e w' => e = .returned (.bool true) ∧ Below w.heap.size w w' := by
  by_cases hs : 2000 < s.size
  · exact tiles_long s hs w hL
  · exact tiles_short s hs w hL
end Go.Proofs.YtjmdnjflcifpmaaDoor
