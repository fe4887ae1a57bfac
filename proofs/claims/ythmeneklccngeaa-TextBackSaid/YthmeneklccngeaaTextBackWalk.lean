/- The law TextBack, walked: places and lines with columns lead to one another; the lines with line feeds between are the text. -/
import Derived.Test.YthmeneklccngeaaTextPlacesWalk
import Derived.Test.YthmeneklccngeaaTextJoin
namespace Go.Proofs.Ythmeneklccngeaa
open Go.RowKit Go.Shelf

attribute [local go_sem] Oper.semAt_some

/-- Place and At, one behind the other: back again -/
theorem there_back (s : ByteArray) (hs : s.size ≤ 4096) (n : Nat) (hn : n ≤ s.size) : ∃ (l c : Int),
    (∀ (b base : Nat) (w : World), base ≤ w.heap.size → Tab w base b s → Calls Try.prog 8 #[.pointer (some ⟨b, 0, none⟩), .int .i64 n] w (Asked b base s w (.tuple #[.int .i64 l, .int .i64 c, .nilIface]))) ∧
    (∀ (b base : Nat) (w : World), base ≤ w.heap.size → Tab w base b s → Calls Try.prog 11 #[.pointer (some ⟨b, 0, none⟩), .int .i64 l, .int .i64 c] w (Asked b base s w (.tuple #[.int .i64 n, .nilIface]))) := by
  obtain ⟨p, h1, h2, h3⟩ := TextMath.place s.data.toList 0 0 n (by simpa using hn)
  simp at h2 h3
  refine ⟨_, _, fun b base w k1 k2 => place_in b base s (by omega) n (by omega) (by omega) w k1 k2, fun b base w k1 k2 => ?_⟩
  rw [Int.toNat_natCast]
  have := at_in b base s (by omega) _ p h1 (TextMath.co 0 (s.data.toList.take n)) (by omega) (by omega) w k1 k2
  rw [show ((p.1 : Int) + (TextMath.co 0 (s.data.toList.take n) : Int)) = (n : Int) from by omega] at this
  exact this

/-- a line of s -/
abbrev Ln (s : ByteArray) := { x : Nat × ByteArray // x ∈ bl s 0 }
abbrev lf : ByteArray := ⟨#[10]⟩

/-- the lines that have come, with line feeds between -/
def jb {s : ByteArray} : List (Ln s) → ByteArray := List.foldl (fun acc x => (if 0 < x.val.1 then acc ++ lf else acc) ++ x.val.2) ⟨#[]⟩

theorem jb_snoc {s : ByteArray} (pre : List (Ln s)) (x : Ln s) : jb (pre ++ [x]) = (if 0 < x.val.1 then jb pre ++ lf else jb pre) ++ x.val.2 := by
  unfold jb; rw [List.foldl_append]; rfl

theorem ln_size {s : ByteArray} (x : Ln s) : x.val.2.size ≤ s.size := by
  obtain ⟨x, hx⟩ := x
  rw [bl_eq] at hx
  obtain ⟨p, _, rfl⟩ := List.mem_map.1 hx
  rw [ByteArray.size_extract]
  omega

/-- the lines that have come, as lists -/
theorem jb_list {s : ByteArray} (ps : List (Nat × List UInt8)) (pre : List (Ln s)) (h : pre.map (fun x => (x.val.1, x.val.2.data.toList)) = ps) : (jb pre).data.toList = TextMath.jl ps := by
  subst h
  suffices h : ∀ (r : List (Ln s)), (jb r.reverse).data.toList = TextMath.jl (r.reverse.map fun x => (x.val.1, x.val.2.data.toList)) by
    have := h pre.reverse; rwa [List.reverse_reverse] at this
  intro r
  induction r with
  | nil => rfl
  | cons x r ih =>
    rw [List.reverse_cons, jb_snoc, List.map_append, List.map_cons, List.map_nil, TextMath.jl_snoc, ← ih]
    split <;> simp [ByteArray.data_append]

theorem attach_lists (s : ByteArray) : (bl s 0).attach.map (fun x => (x.val.1, x.val.2.data.toList)) = lnsOf s := by
  have e : (bl s 0).attach.map (fun x : Ln s => (x.val.1, x.val.2.data.toList)) = (bl s 0).map (fun x => (x.1, x.2.data.toList)) := by
    exact List.attach_map_val (l := bl s 0) (f := fun x : Nat × ByteArray => (x.1, x.2.data.toList))
  rw [e, bl_eq, List.map_map]
  refine (List.map_congr_left fun p hp => ?_).trans (List.map_id _)
  obtain ⟨i, hi, rfl⟩ := List.getElem_of_mem hp
  obtain ⟨_, h2, h3, _⟩ := TextMath.text s.data.toList 0 i _ (List.getElem?_eq_getElem hi)
  simp at h2 h3
  simp only [Function.comp, id]
  rw [Lib.extract_data]
  refine Prod.ext rfl ?_
  simp only
  rw [show ∀ a b : Nat, a + b - a = b from fun a b => by omega]
  exact h3.symm

/-- what has come is what the next line's beginning tells -/
theorem jb_next {s : ByteArray} (pre : List (Ln s)) (x : Ln s) (h : pre ++ [x] <+: (bl s 0).attach) :
    (0 < x.val.1 → x.val.1 = (jb pre).size + 1) ∧ (x.val.1 = 0 → (jb pre).size = 0) := by
  obtain ⟨rest, hr⟩ := h
  have hm := attach_lists s
  rw [← hr, List.map_append, List.map_append] at hm
  have hget : (lnsOf s)[pre.length]? = some (x.val.1, x.val.2.data.toList) := by rw [← hm]; simp
  have htake : (lnsOf s).take pre.length = pre.map (fun x => (x.val.1, x.val.2.data.toList)) := by rw [← hm]; simp [List.take_append]
  obtain ⟨h1, h2⟩ := TextMath.join_len s.data.toList pre.length _ hget
  have hj := jb_list _ pre htake.symm
  have hsz : (jb pre).size = (TextMath.jl ((lnsOf s).take pre.length)).length := by rw [← hj]; simp
  by_cases e : pre.length = 0
  · have := h1 e
    refine ⟨fun hh => by simp at this; omega, fun _ => ?_⟩
    rw [hsz, e]; rfl
  · have := h2 (by omega)
    simp only at this
    exact ⟨fun _ => by rw [hsz]; exact this, fun hh => by omega⟩

theorem jb_all (s : ByteArray) : jb (bl s 0).attach = s := by
  have h := jb_list _ (bl s 0).attach (attach_lists s)
  rw [TextMath.join_all] at h
  obtain ⟨⟨d⟩⟩ := s
  have e : ∀ a : ByteArray, a.data.toList = d → a = ⟨⟨d⟩⟩ := fun a ha => by obtain ⟨⟨l⟩⟩ := a; simp at ha; subst ha; rfl
  exact e _ h

theorem jb_size {s : ByteArray} (pre : List (Ln s)) : (jb pre).size ≤ (s.size + 1) * pre.length := by
  suffices h : ∀ (l r : List (Ln s)), l = r.reverse → (jb l).size ≤ (s.size + 1) * l.length from h pre pre.reverse (by simp)
  intro l r hlr
  induction r generalizing l with
  | nil => subst hlr; exact Nat.le_refl 0
  | cons x r ih =>
    rw [List.reverse_cons] at hlr
    subst hlr
    have h1 := ih r.reverse rfl
    have h2 := ln_size x
    rw [jb_snoc, List.length_append, ByteArray.size_append]
    have h3 : (if 0 < x.val.1 then jb r.reverse ++ lf else jb r.reverse).size ≤ (jb r.reverse).size + 1 := by
      split
      · rw [ByteArray.size_append]; exact Nat.le_refl _
      · omega
    simp only [List.length_cons, List.length_nil]
    rw [Nat.mul_add]
    omega

/-- between two lines -/
def BackI (w : World) (A Bn : Nat) (s : ByteArray) (pre : List (Ln s)) (W : World) : Prop :=
  Boxed W w.heap.size 4 (.bool false) ∧ Boxed W A 9 (.string (jb pre)) ∧ Boxed W Bn 9 (.string s) ∧ Below w.heap.size w W

theorem backI_step {w W W' : World} {A Bn : Nat} {s : ByteArray} {pre : List (Ln s)} {v : ByteArray} (h : BackI w A Bn s pre W) (hA : w.heap.size < A) (hN : A < Bn) (hg : W.grownBy W' (some A)) (x : Ln s) (hv : v = jb (pre ++ [x])) (hb : Boxed W' A 9 (.string v)) :
    KeepCell Bn W W' ∧ BackI w A Bn s (pre ++ [x]) W' := by
  obtain ⟨h1, h2, h3, h4⟩ := h
  have h3' := h3.kept hg (by simp; omega)
  exact ⟨h3'.cell.trans h3.cell.symm, h1.kept hg (by simp; omega), by rw [← hv]; exact hb, h3', h4.grown hg h4.size (fun k e => by cases e; omega)⟩

theorem backI_own (w : World) (A Bn : Nat) (s : ByteArray) (B : Nat) (hB : w.heap.size ≤ B) : OwnFrom B (BackI w A Bn s) := by
  rintro pre X Y row ⟨h1, h2, h3, h4⟩ hG hrow
  have ne : ∀ {k : Nat} {c : Array Value} {t : TypeId} {fr : Nat × Nat}, X.heap[k]? = some (.cells c t fr) → some k ≠ row := fun {k c t fr} hk e => by
    obtain ⟨_, o, ho, hc⟩ := hrow k e.symm
    rw [hk] at ho; cases ho; cases hc
  exact ⟨h1.kept hG (ne h1), h2.kept hG (ne h2), h3.kept hG (ne h3), h4.grown hG h4.size (fun k e => by have := (hrow k e).1; omega)⟩

/-- what lies there while places are asked: the result's box, the table -/
def BackW (w : World) (b : Nat) (s : ByteArray) (wr : World) : Prop := Boxed wr w.heap.size 4 (.bool false) ∧ Tab wr b b s ∧ Below w.heap.size w wr ∧ b < wr.heap.size

theorem BackW.step {w wr w' : World} {b : Nat} {s : ByteArray} (h : BackW w b s wr) (hb : w.heap.size < b) (hm : Made w' b b s) (hg : wr.grownBy w' (some b)) : BackW w b s w' := by
  obtain ⟨h1, _, h3, h4⟩ := h
  exact ⟨h1.kept hg (by simp; omega), .inr hm, h3.grown hg h3.size (fun k e => by cases e; omega), Nat.lt_of_lt_of_le h4 hg.size⟩

set_option maxRecDepth 100000 in
set_option maxHeartbeats 2000000 in
theorem back_in (s : ByteArray) (hs : s.size ≤ 400) (w : World) :
    CallsIn Fence.wide 8 Try.prog 5 #[.string s] w fun e w' => e = .returned (.bool true) ∧ Below w.heap.size w w' := by
  have hs' : ¬ (400 : Int) < (s.size : Int) := by omega
  refine callsIn_of_wp_marks Try.func5 rfl trivial ?_ rfl
  simp only [Try.ntmps5, List.size_toArray, List.length_cons, List.length_nil, Nat.reduceAdd, Nat.reduceSub, Array.replicate_succ, Array.replicate_zero, List.push_toArray, List.append_toArray, List.nil_append, List.cons_append]
  gi_wp2_with (first | (refine ⟨trivial, ?_⟩; gi_at_call 6; refine (callsIn_wide.2 (alive_any _)).mono ?_; rintro e w1 ⟨rfl, hB1⟩) | (refine ⟨trivial, ?_⟩; gi_at_call 7; refine (callsIn_wide.2 (new_any _ _)).mono ?_; rintro e w2 ⟨rfl, rfl⟩))
  have hz1 : w.heap.size < w1.heap.size := by have := hB1.size; simp at this; omega
  have hR1 : Boxed w1 w.heap.size 4 (.bool false) := (hB1.block w.heap.size (by simp)).trans (Boxed.new w 4 (.bool false))
  have hB0 : Below w.heap.size w w1 := ((Below.refl _ w).alloc (Nat.le_refl _) _).trans (hB1.mono (by simp))
  have hW0 : BackW w w1.heap.size s (w1.alloc (.cells (tab s (.slice none 0 0) 0 0 0) 67)) :=
    ⟨hR1.alloc _, .inl (fresh_new s w1), hB0.alloc (by omega) _, by simp⟩
  gi_loopw [31] (fun i wr => ∃ k : Nat, i = .int .i64 k ∧ k ≤ s.size + 1 ∧ BackW w w1.heap.size s wr) (fun i wr => s.size + 1 - (intOf i).toNat)
  case atStart => exact ⟨0, rfl, Nat.zero_le _, hW0⟩
  case round =>
    obtain ⟨k, rfl, hk, hWr⟩ := hrel
    by_cases hlt : k < s.size + 1
    · obtain ⟨l, c, P, A⟩ := there_back s (by omega) k (by omega)
      have HP := Lib.hid P
      have HA := Lib.hid A
      clear P A
      gi_wp2_with (first | (refine ⟨trivial, ?_⟩; gi_at_call 8; refine (callsIn_wide.2 (HP.out w1.heap.size w1.heap.size _ (by have := hWr.2.2.2; omega) hWr.2.1)).mono ?_; rintro e w2 ⟨rfl, hm2, hg2⟩; have hW2 := hWr.step hz1 hm2 hg2) | (refine ⟨trivial, ?_⟩; gi_at_call 11; refine (callsIn_wide.2 (HA.out w1.heap.size w1.heap.size _ (by have := hW2.2.2.2; omega) hW2.2.1)).mono ?_; rintro e w3 ⟨rfl, hm3, hg3⟩; have hW3 := hW2.step hz1 hm3 hg3))
      go_roundw
      case rel => exact ⟨k + 1, by go_num, by omega, hW3⟩
      case measure => simp [intOf]; omega
    · clear hW0
      gi_wp2_with (refine ⟨trivial, ?_⟩; gi_at_call 15; refine (callsIn_wide.2 (lines_any _ _)).mono ?_; rintro e w' ⟨rfl, rfl⟩)
      obtain ⟨hw1, hw2, hw3, hw4⟩ := hWr
      have hA := Boxed.new wr 9 (.string ⟨#[]⟩)
      have hN := Boxed.new (wr.alloc (.cells #[.string ⟨#[]⟩] 9)) 9 (.string s)
      rw [World.size_alloc] at hN
      have hlen := bl_length s
      have hsz : ((wr.alloc (.cells #[.string ⟨#[]⟩] 9)).alloc (.cells #[.string s] 9)).heap.size = wr.heap.size + 2 := by simp
      have hws := hw3.size
      have hseq := lines_stops (Subtype.val : Ln s → Nat × ByteArray) 7 (by omega) (wr.heap.size + 1) s (by omega) (bl s 0).attach (List.attach_map_subtype_val _) ((wr.alloc (.cells #[.string ⟨#[]⟩] 9)).alloc (.cells #[.string s] 9)) (by omega) hN.cell
      have hput := KeepCell.put (Bn := wr.heap.size + 1) (m := ((wr.alloc (.cells #[.string ⟨#[]⟩] 9)).alloc (.cells #[.string s] 9)).heap.size) (by omega)
      have hown := backI_own w wr.heap.size (wr.heap.size + 1) s ((wr.alloc (.cells #[.string ⟨#[]⟩] 9)).alloc (.cells #[.string s] 9)).heap.size (by omega)
      have hI0 : BackI w wr.heap.size (wr.heap.size + 1) s [] ((wr.alloc (.cells #[.string ⟨#[]⟩] 9)).alloc (.cells #[.string s] 9)) :=
        ⟨(hw1.alloc _).alloc _, hA.alloc _, hN, (hw3.alloc hw3.size _).alloc (by simp; omega) _⟩
      apply wpIn_rangeFunc_ownG rfl (by omega) (gf := 23) (lb := #[.pointer (some ⟨wr.heap.size + 1, 0, none⟩)]) rfl trivial (enters_of Try.func23 (by kernel_rfl) rfl)
        (Kp := KeepCell (wr.heap.size + 1)) hseq KeepCell.trans hput (Below.refl _ _) (encs := fun x : Ln s => #[Value.int .i64 x.val.1, .string x.val.2]) (fun _ => rfl) (BackI w wr.heap.size (wr.heap.size + 1) s) (fun _ pre _ => ¬ pre <+: (bl s 0).attach) hown (fun _ _ _ _ _ hs _ _ => hs) hI0
      case hassign =>
        intro l x W K hK
        gi_wp2
        exact hK
      case hbody =>
        rintro l pre x W ⟨h1, h2, h3, h4⟩ hlt2
        have hc := h2.cell
        have hf := h2.frozen
        have hr := h1.cell
        have hrf := h1.frozen
        have hxs := ln_size x
        have hjs := jb_size pre
        have hjb : (jb pre).size ≤ 200000 := by
          have : pre.length ≤ 401 := by simp at hlt2; omega
          have := Nat.mul_le_mul (show s.size + 1 ≤ 401 by omega) this
          omega
        clear hjs
        have hne : w.heap.size ≠ wr.heap.size := by have := hz1; omega
        generalize hj : jb pre = acc at *
        have HJ := Lib.hid hj
        clear hj
        have hr2 : (W.setCell ⟨wr.heap.size, 0, none⟩ (.string (acc ++ lf))).cell? ⟨w.heap.size, 0, none⟩ = some (.bool false) := (Boxed.kept h1 (grown_set W ⟨wr.heap.size, 0, none⟩ _) (by simpa using hne)).cell
        by_cases h0 : 0 < x.val.1
        · gi_wp2
          · have hq : ((x.val.1 : Int) != (acc.size : Int) + 1) = true := by assumption
            refine ⟨((KeepsOthers.setCell W _ _).trans (KeepsOthers.setCell _ _ _)).from _, fun hp => ?_⟩
            have := (jb_next pre x hp).1 h0
            rw [HJ.out] at this
            rw [bne_iff_ne] at hq
            omega
          · have hv : acc ++ lf ++ x.val.2 = jb (pre ++ [x]) := by rw [jb_snoc, if_pos h0, HJ.out]
            have hg1 := grown_set W ⟨wr.heap.size, 0, none⟩ (.string (acc ++ lf))
            have hg2 := grown_set (W.setCell ⟨wr.heap.size, 0, none⟩ (.string (acc ++ lf))) ⟨wr.heap.size, 0, none⟩ (.string (acc ++ lf ++ x.val.2))
            exact ⟨((KeepsOthers.setCell W _ _).trans (KeepsOthers.setCell _ _ _)).from _, backI_step (A := wr.heap.size) (Bn := wr.heap.size + 1) ⟨h1, by rw [HJ.out]; exact h2, h3, h4⟩ (by omega) (by omega) (grown_two hg1 hg2) x hv ((h2.set _).set _)⟩
        · gi_wp2
          · have hq : ((x.val.1 : Int) != (acc.size : Int)) = true := by assumption
            refine ⟨(KeepsOthers.setCell W _ _).from _, fun hp => ?_⟩
            have := (jb_next pre x hp).2 (by omega)
            rw [HJ.out] at this
            rw [bne_iff_ne] at hq
            omega
          · have hv : acc ++ x.val.2 = jb (pre ++ [x]) := by rw [jb_snoc, if_neg h0, HJ.out]
            have hg1 := grown_set W ⟨wr.heap.size, 0, none⟩ (.string (acc ++ x.val.2))
            exact ⟨(KeepsOthers.setCell W _ _).from _, backI_step (A := wr.heap.size) (Bn := wr.heap.size + 1) ⟨h1, by rw [HJ.out]; exact h2, h3, h4⟩ (by omega) (by omega) hg1 x hv (h2.set _)⟩
      case hdone =>
        rintro D ys W hD rfl ⟨h1, h2, h3, h4⟩ hK
        rw [jb_all] at h2
        have hc := h2.cell
        have hr := h1.cell
        have hrf := h1.frozen
        gi_wp2_with (first | (refine ⟨trivial, ?_⟩; gi_at_call 8; refine (callsIn_wide.2 (place_nil _ _)).mono ?_; rintro e w2 ⟨rfl, rfl⟩) | (refine ⟨trivial, ?_⟩; gi_at_call 11; refine (callsIn_wide.2 (at_nil _ _ _)).mono ?_; rintro e w2 ⟨rfl, rfl⟩) | (refine ⟨trivial, ?_⟩; gi_at_call 16; refine (callsIn_wide.2 (line_nil _ _)).mono ?_; rintro e w2 ⟨rfl, rfl⟩) | (refine ⟨trivial, ?_⟩; gi_at_call 10; refine (callsIn_wide.2 (is_errno _ _ (by omega) _)).mono ?_; rintro e w2 ⟨rfl, rfl⟩) | (refine ⟨trivial, ?_⟩; gi_at_call 17; refine (callsIn_wide.2 (len_nil _)).mono ?_; rintro e w2 ⟨rfl, rfl⟩) | (refine ⟨trivial, ?_⟩; gi_at_call 14; refine (callsIn_wide.2 (made_nil _)).mono ?_; rintro e w2 ⟨rfl, rfl⟩))
        have hK1 : (W.setCell ⟨w.heap.size, 0, none⟩ (.bool true)).heap[D]? = some (.deferred (some [])) := (KeepsOthers.setCell W _ _).same D _ hK rfl
        have hDr : w.heap.size ≠ D := fun e => by subst e; rw [show W.heap[w.heap.size]? = _ from h1] at hK; cases hK
        have hres := ((h1.set (.bool true)).kept (grownBy_putObj' _ D (.deferred none)) (by simpa using hDr)).cell
        refine ⟨by simp, .inl ⟨_, _, rfl, run_takeDeferred hK1, ?_⟩⟩
        refine ⟨.bool true, by simp [results, Try.results5, go_sem, hres], rfl, ?_⟩
        exact (h4.setCell (p := ⟨w.heap.size, 0, none⟩) (Nat.le_refl _) _).trans (belowK_b (w := w) (Nat.le_refl _) _ D _ _ (by omega) hK1 rfl rfl)
      case hstop =>
        rintro D c pre W _ hp hx _
        exact absurd hp hx

set_option maxRecDepth 100000 in
set_option maxHeartbeats 800000 in
theorem back_walk (s : ByteArray) (w : World) :
    Calls Try.prog 5 #[.string s] w fun e w' => e = .returned (.bool true) ∧ Below w.heap.size w w' := by
  by_cases hs : s.size ≤ 400
  · exact callsIn_wide.1 (back_in s hs w)
  · have hs' : (400 : Int) < (s.size : Int) := by omega
    go_enter Try.func5, Try.ntmps5
    go_wp2_with (go_at_call 6; refine (alive_any _).mono ?_; rintro e w1 ⟨rfl, hB1⟩; have hR1 : Boxed w1 w.heap.size 4 (.bool false) := (hB1.block w.heap.size (by simp)).trans (Boxed.new w 4 (.bool false)); have hc := hR1.cell; have hf := hR1.frozen)
    have hres := (hR1.set (.bool true)).cell
    have hB0 : Below w.heap.size w w1 := ((Below.refl _ w).alloc (Nat.le_refl _) _).trans (hB1.mono (by simp))
    exact bodyPost_ret (v := .bool true) (by simp [results, Try.results5, go_sem, hres]) rfl ⟨rfl, hB0.setCell (p := ⟨w.heap.size, 0, none⟩) (Nat.le_refl _) _⟩

end Go.Proofs.Ythmeneklccngeaa
