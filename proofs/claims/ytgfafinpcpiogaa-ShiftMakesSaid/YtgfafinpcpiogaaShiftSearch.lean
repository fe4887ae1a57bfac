/- Where the search for a place among pieces ends; the iterator over what stands between two places. -/
import Derived.Test.YtgfafinpcpiogaaShiftCut
import Derived.Test.YtgfafinpcpiogaaShiftCollect
namespace Go.Proofs.Ytgfafinpcpiogaa
open Go.RowKit Go.Shelf EditMath ShiftMath

attribute [local go_sem] Oper.semAt_some

/-- pieces that can be cut -/
def Good (L : List Pc) : Prop := Pos 0 L ∧ ∀ p ∈ L, Wf p ∧ PcOk p ∧ 0 < (bs p).length

/-- the boxes of the search, and the pieces -/
def WtC (b1 b2 b3 : Nat) (A : Option Addr) (c : Nat) (L : List Pc) (f t : Int) : As := fun X W =>
  Has b1 (.cells #[.slice A L.length c] 103 (0, 0)) X W ∧ Has b2 (.cells #[.int .i64 f] 3 (0, 0)) X W ∧ Has b3 (.cells #[.int .i64 t] 3 (0, 0)) X W ∧ ∃ B, Rdc W B A (pcells L) ∧ B ≤ W.heap.size
theorem WtC.below {b1 b2 b3 : Nat} {A : Option Addr} {c : Nat} {L : List Pc} {f t : Int} {X : Nat → Prop} {W W' : World} (h : WtC b1 b2 b3 A c L f t X W) (hb : Below W.heap.size W W') : WtC b1 b2 b3 A c L f t X W' := by
  obtain ⟨h1, h2, h3, B, h4, h5⟩ := h
  exact ⟨(Has.frames _ _).off h1 (Off.of_below hb), (Has.frames _ _).off h2 (Off.of_below hb), (Has.frames _ _).off h3 (Off.of_below hb), B, h4.below (hb.mono h5), Nat.le_trans h5 hb.size⟩

set_option maxRecDepth 100000 in
set_option maxHeartbeats 1000000 in
theorem pred_any (b1 b2 b3 : Nat) (A : Option Addr) (c : Nat) (L : List Pc) (f t : Int) (hG : Good L) (j : Nat) (p : Pc) (hj : L[j]? = some p) (hL : L.length ≤ 20000) (w : World) (hC : WtC b1 b2 b3 A c L f t no w) :
    Calls Try.prog 113 #[.int .i64 j, .pointer (some ⟨b1, 0, none⟩), .pointer (some ⟨b2, 0, none⟩)] w fun r w' => r = .returned (.bool (decide (f < pend p))) ∧ Below w.heap.size w w' := by
  obtain ⟨g1, g2, g3⟩ := hG.2 p (List.mem_of_getElem? hj)
  have HE : Hid (∀ W, Calls Try.prog 114 #[pcv p] W fun r w' => r = .returned (.int .i64 (pend p)) ∧ Below W.heap.size W w') := Lib.hid fun W => end_any p W g1 g2
  obtain ⟨h1, h2, _, B, hR, hB⟩ := hC
  have hlt := (List.getElem?_eq_some_iff.1 hj).1
  obtain ⟨b, off, rfl, hb, hc⟩ := hR (by rw [pcells_length]; omega)
  obtain ⟨s1, s2, s3, s4⟩ := pcells_at L j p hj
  have c1 := hc _ _ s1
  have c2 := hc _ _ s2
  have c3 := hc _ _ s3
  have c4 := hc _ _ s4
  rw [← Nat.add_assoc] at c2 c3 c4
  have q1 := h1.cell (i := 0)
  have q2 := h2.cell (i := 0)
  simp only [List.getElem?_toArray, List.getElem?_cons_zero] at q1 q2
  have l1 := h1.lt
  have l2 := h2.lt
  have l3 : b < w.heap.size := by omega
  have z1 : (0 : Int) ≤ j := by omega
  have z2 : (j : Int) < L.length := by omega
  clear hc s1 s2 s3 s4 hj hG hR hB g1 g2 g3
  generalize pend p = pe at *
  go_enter Try.func113, Try.ntmps113
  go_wp2
  go_region_held3 (fun w' => w'.cell? ⟨b1, 0, none⟩ = some (.slice (some ⟨b, off, none⟩) L.length c) ∧ w'.cell? ⟨b2, 0, none⟩ = some (.int .i64 f) ∧ w'.cell? ⟨b, off + j * 4, none⟩ = some (.int .i64 p.a) ∧ w'.cell? ⟨b, off + j * 4 + 1, none⟩ = some (.int .i64 p.f) ∧ w'.cell? ⟨b, off + j * 4 + 2, none⟩ = some (.int .i64 p.t) ∧ w'.cell? ⟨b, off + j * 4 + 3, none⟩ = some (.string p.s))
      (first
        | (go_keep; done)
        | (go_split_ands
           refine ⟨?_, ?_, ?_, ?_, ?_, ?_⟩
           all_goals (rw [hb2.cell (by simp; omega)]; assumption)))
      ((go_at_call 114; refine (HE.out _).mono ?_; rintro r w2 ⟨rfl, hb2⟩))
  all_goals
    go_wp2
    go_ret
    exact ⟨rfl, (Below.refl _ w).drew.trans hb2⟩

set_option maxHeartbeats 400000 in
theorem wthin_any (A : Option Addr) (n c : Nat) (f t : Int) (w : World) :
    Calls Try.prog 95 #[.slice A n c, .int .i64 f, .int .i64 t] w fun e w' =>
      e = .returned (.func (.func 111) #[] #[.pointer (some ⟨w.heap.size, 0, none⟩), .pointer (some ⟨w.heap.size + 1, 0, none⟩), .pointer (some ⟨w.heap.size + 1 + 1, 0, none⟩)]) ∧ ((w.alloc (.cells #[.slice A n c] 103)).alloc (.cells #[.int .i64 f] 3)).alloc (.cells #[.int .i64 t] 3) = w' := by
  have hmf : ∀ (fn : Fn) (first cap : Array Value) (w : World), (Instr.makeFunc fn first cap).run Try.prog w = .ok (.func fn first cap) w := fun _ _ _ _ => rfl
  go_enter Try.func95, Try.ntmps95
  go_wp2
  go_ret
  exact ⟨rfl, rfl⟩

theorem enters_pred : ∀ args w, (callFunc 113 args).run Try.prog w = .ok (.enter 113 args) w := enters_of Try.func113 (by kernel_rfl) rfl

def SeR (w : World) (L : List Pc) (f : Int) (i j : Value) (wr : World) : Prop := ∃ a b : Nat, i = .int .i64 a ∧ j = .int .i64 b ∧ a ≤ b ∧ b ≤ L.length ∧ (∀ (k : Nat) (p : Pc), L[k]? = some p → k < a → pend p ≤ f) ∧ (∀ (k : Nat) (p : Pc), L[k]? = some p → b ≤ k → f < pend p) ∧ Below w.heap.size w wr

set_option maxRecDepth 100000 in
set_option maxHeartbeats 1000000 in
theorem search_any (b1 b2 b3 : Nat) (A : Option Addr) (c : Nat) (L : List Pc) (f t : Int) (hG : Good L) (hL : L.length ≤ 20000) (w : World) (hC : WtC b1 b2 b3 A c L f t no w) :
    Calls Try.prog 112 #[.int .i64 L.length, .func (.func 113) #[] #[.pointer (some ⟨b1, 0, none⟩), .pointer (some ⟨b2, 0, none⟩)]] w fun r w' => r = .returned (.int .i64 (sn L f : Nat)) ∧ Below w.heap.size w w' := by
  have HPr : Hid (∀ (j : Nat) (p : Pc) W, L[j]? = some p → Below w.heap.size w W → Calls Try.prog 113 #[.int .i64 j, .pointer (some ⟨b1, 0, none⟩), .pointer (some ⟨b2, 0, none⟩)] W fun r w' => r = .returned (.bool (decide (f < pend p))) ∧ Below W.heap.size W w') :=
    Lib.hid fun j p W hj hW => pred_any b1 b2 b3 A c L f t hG j p hj hL W (hC.below hW)
  have HAS := Lib.hid (List.pairwise_iff_getElem.1 hG.1.asc.1)
  have HSN := Lib.hid (found_sn hG.1 f)
  clear hG hC
  go_enter Try.func112, Try.ntmps112
  go_wp2
  go_loopw [5, 6] (fun i j wr => SeR w L f i j wr) (fun i j wr => (intOf j - intOf i).toNat)
  case atStart => exact ⟨0, L.length, rfl, rfl, Nat.zero_le _, Nat.le_refl _, fun k p _ h => by omega, (fun k p hk h => by have := (List.getElem?_eq_some_iff.1 hk).1; omega), Below.refl _ _⟩
  case round =>
    obtain ⟨a, b, rfl, rfl, hab, hbl, H1, H2, hB⟩ := hrel
    have HH1 := Lib.hid H1
    have HH2 := Lib.hid H2
    clear H1 H2
    by_cases hlt : a < b
    · obtain ⟨h, hh⟩ : ∃ h : Nat, h = (a + b) / 2 := ⟨_, rfl⟩
      have hb1 : a ≤ h := by omega
      have hb2 : h < b := by omega
      obtain ⟨p, hp⟩ : ∃ p, L[h]? = some p := ⟨L[h], List.getElem?_eq_getElem (by omega)⟩
      have HP := Lib.hid (HPr.out h p wr hp hB)
      have hhh : ((a : Int) + b) / 2 = (h : Int) := by omega
      have HHH := Lib.hid hhh
      have HPK := Lib.hid hp
      clear hh hhh hp
      go_wp2_with fail
      rw [HHH.out]
      cases hd : decide (f < pend p) with
      | true =>
        have HD := Lib.hid (of_decide_eq_true hd)
        have HP2 := HP.out
        rw [hd] at HP2
        refine HP2.mono ?_
        clear hd HP HP2
        rintro r w2 ⟨rfl, hb⟩
        go_wp2
        go_roundw
        case rel =>
          refine ⟨a, h, rfl, rfl, hb1, by omega, HH1.out, fun k q hk hle => ?_, hB.trans (hb.mono hB.size)⟩
          by_cases e : k = h
          · subst e; rw [HPK.out] at hk; injection hk with hk; subst hk; exact HD.out
          · obtain ⟨l1, rfl⟩ := List.getElem?_eq_some_iff.1 hk
            obtain ⟨l2, e2⟩ := List.getElem?_eq_some_iff.1 HPK.out
            have := (HAS.out h k l2 l1 (by omega)).2
            rw [e2] at this
            have h3 := HD.out
            have h4 : L[k].a ≤ pend L[k] := by unfold pend; omega
            omega
        case measure => simp [intOf]; omega
      | false =>
        have HD := Lib.hid (of_decide_eq_false hd)
        have HP2 := HP.out
        rw [hd] at HP2
        refine HP2.mono ?_
        clear hd HP HP2
        rintro r w2 ⟨rfl, hb⟩
        go_wp2
        go_roundw
        case rel =>
          refine ⟨h + 1, b, by go_num, rfl, by omega, hbl, fun k q hk hle => ?_, HH2.out, hB.trans (hb.mono hB.size)⟩
          have h3 := HD.out
          by_cases e : k = h
          · subst e; rw [HPK.out] at hk; injection hk with hk; subst hk; omega
          · obtain ⟨l1, rfl⟩ := List.getElem?_eq_some_iff.1 hk
            obtain ⟨l2, e2⟩ := List.getElem?_eq_some_iff.1 HPK.out
            have := (HAS.out k h l1 l2 (by omega)).2
            rw [e2] at this
            have h4 : p.a ≤ pend p := by unfold pend; omega
            omega
        case measure => simp [intOf]; omega
    · obtain rfl : a = b := by omega
      have e : sn L f = a := found_eq HSN.out ⟨hbl, HH1.out, HH2.out⟩
      have E := Lib.hid e
      clear e
      go_wp2
      go_ret
      exact ⟨by rw [E.out]; rfl, hB⟩

/-- the pieces that begin ahead of a place, from one on -/
theorem tw_at {L : List Pc} {n k : Nat} {t : Int} (_hk : k ≤ ((L.drop n).takeWhile (fun p => decide (p.a < t))).length) :
    (k < ((L.drop n).takeWhile (fun p => decide (p.a < t))).length → ∃ p, L[n + k]? = some p ∧ p.a < t ∧ ((L.drop n).takeWhile (fun p => decide (p.a < t)))[k]? = some p) ∧
    (k = ((L.drop n).takeWhile (fun p => decide (p.a < t))).length → L.length ≤ n + k ∨ ∃ p, L[n + k]? = some p ∧ ¬ p.a < t) := by
  have hsp : (L.drop n).takeWhile (fun p => decide (p.a < t)) ++ (L.drop n).dropWhile (fun p => decide (p.a < t)) = L.drop n := List.takeWhile_append_dropWhile
  constructor
  · intro hlt
    refine ⟨_, ?_, ?_, List.getElem?_eq_getElem hlt⟩
    · have h1 : (L.drop n)[k]? = ((L.drop n).takeWhile (fun p => decide (p.a < t)))[k]? := by
        conv => lhs; rw [← hsp]
        exact List.getElem?_append_left hlt
      rw [← List.getElem?_drop, h1, List.getElem?_eq_getElem hlt]
    · have := mem_tw (List.getElem_mem hlt); simpa using this
  · intro he
    cases hD : (L.drop n).dropWhile (fun p => decide (p.a < t)) with
    | nil =>
      rw [hD, List.append_nil] at hsp
      have := congrArg List.length hsp
      rw [List.length_drop] at this
      left
      omega
    | cons q D =>
      right
      refine ⟨q, ?_, ?_⟩
      · have h1 : (L.drop n)[k]? = (q :: D)[k - ((L.drop n).takeWhile (fun p => decide (p.a < t))).length]? := by
          conv => lhs; rw [← hsp]
          rw [List.getElem?_append_right (by omega), hD]
        rw [← List.getElem?_drop, h1, he]; simp
      · have := List.head?_dropWhile_not (fun p : Pc => decide (p.a < t)) (L.drop n)
        rw [hD] at this
        simpa using this
end Go.Proofs.Ytgfafinpcpiogaa
