/- Invert, as the program makes it. -/
import Derived.Test.YtfkpnfhhmldodaaEditApply
import Derived.Test.YtfkpnfhhmldodaaEditInv
import Derived.Test.YtfkpnfhhmldodaaEditOwn
import Derived.Deep.RegionHeld3
import Derived.Deep.DrawnRows
import Derived.OwnWalk
namespace Go.Proofs.Ytfkpnfhhmldodaa
open Go.RowKit EditMath

theorem second_new (w : World) (o p : Obj) : ((w.alloc o).alloc p).drew.heap[w.heap.size + 1]? = some p := by
  have h : ((w.alloc o).alloc p).heap[(w.alloc o).heap.size]? = some p := heap_alloc_new (w.alloc o) p
  rw [show (w.alloc o).heap.size = w.heap.size + 1 from by simp] at h
  exact h

/-- a list of edits and something beside it -/
def ListV (m : List Ed) (v : Value) (w : World) (e : Ending) (w' : World) : Prop :=
  ∃ A c, e = .returned (.tuple #[.slice A m.length c, v]) ∧ Eds w' w'.heap.size A m ∧ Below w.heap.size w w'

/-- the same, where the list is new memory -/
def ListN (m : List Ed) (v : Value) (w : World) (e : Ending) (w' : World) : Prop :=
  ∃ A c, e = .returned (.tuple #[.slice A m.length c, v]) ∧ Eds w' w'.heap.size A m ∧ Below w.heap.size w w' ∧ m.length ≤ c ∧ (A = none → c = 0) ∧ ∀ a, A = some a → w.heap.size ≤ a.block ∧ a.block < w'.heap.size
theorem ListN.v {m : List Ed} {v : Value} {w w' : World} {e : Ending} (h : ListN m v w e w') : ListV m v w e w' := by
  obtain ⟨A, c, h1, h2, h3, _⟩ := h; exact ⟨A, c, h1, h2, h3⟩
theorem Own.capN {w : World} {base c : Nat} {A : Option Addr} {m : List Ed} (h : Own w base A c m) : m.length ≤ c ∧ (A = none → c = 0) ∧ ∀ a, A = some a → base ≤ a.block ∧ a.block < w.heap.size := by
  rcases h.2 with ⟨hv, h0⟩ | ⟨g, cap, cur, hv, hb, hg, hc, _⟩
  · injection hv with hA hm hc
    exact ⟨by omega, fun _ => hc, fun a ha => by rw [hA] at ha; cases ha⟩
  · injection hv with hA hm hc'
    refine ⟨by omega, fun q => by (rw [hA] at q; cases q), fun a ha => ?_⟩
    rw [hA] at ha
    injection ha with ha
    subst ha
    exact ⟨hb, (Array.getElem?_eq_some_iff.1 hg).1⟩
theorem listN_own {m : List Ed} {v : Value} {w W w' : World} {A : Option Addr} {c : Nat} (h : Own W w.heap.size A c m) (hB : Below w.heap.size w W) (hb : Below W.heap.size W w') : ListN m v w (.returned (.tuple #[.slice A m.length c, v])) w' := by
  obtain ⟨h1, h2, h3⟩ := h.capN
  exact ⟨A, c, rfl, h.eds.after hb, hB.trans (hb.mono hB.size), h1, h2, fun a ha => ⟨(h3 a ha).1, Nat.lt_of_lt_of_le (h3 a ha).2 hb.size⟩⟩
theorem listN_none {v : Value} {w w' : World} (hb : Below w.heap.size w w') : ListN [] v w (.returned (.tuple #[.slice none 0 0, v])) w' := ⟨none, 0, rfl, Eds.none_, hb, Nat.le_refl _, fun _ => rfl, fun a ha => by cases ha⟩

/-- which error stands against the way back: Apply's, or 6 -/
def worse (s : ByteArray) (l : List Ed) : Int := if bad s l = 0 then (if nodup (iv s 0 l) = true then 0 else 6) else bad s l
/-- the way back -/
def backL (s : ByteArray) (l : List Ed) : List Ed := if worse s l = 0 then iv s 0 l else []

set_option maxHeartbeats 800000 in
theorem invert_bad (s : ByteArray) (A : Option Addr) (c : Nat) (l : List Ed) (hb : bad s l ≠ 0) (htx : (s.size : Int) + tx l ≤ 70000) (w : World) (hl : l.length ≤ 10000) (hr : Eds w w.heap.size A l) :
    Calls Try.prog 107 #[.string s, .slice A l.length c] w (ListV [] (errn (bad s l)) w) := by
  have HC := Lib.hid (newSize_bad s A c l hb htx w hl hr)
  clear hb hr
  generalize bad s l = n at *
  go_enter Try.func107, Try.ntmps107
  go_wp2_with fail
  refine HC.out.mono ?_
  rintro e w1 ⟨rfl, hb1⟩
  go_wp2
  go_ret2
  exact ⟨none, 0, rfl, Eds.none_, hb1⟩

/-- behind some rounds: the list holds the way back of so many edits -/
def InvI (w : World) (s : ByteArray) (l : List Ed) (v g i : Value) (wr : World) : Prop :=
  ∃ (k : Nat) (A' : Option Addr) (c' : Nat), k ≤ l.length ∧ i = .int .i64 (k : Int) ∧ g = .int .i64 (gr (l.take k)) ∧ v = .slice A' (iv s 0 (l.take k)).length c' ∧ Below w.heap.size w wr ∧ Own wr w.heap.size A' c' (iv s 0 (l.take k))

set_option maxRecDepth 100000 in
set_option maxHeartbeats 2000000 in
theorem invert_okN (s : ByteArray) (A : Option Addr) (c : Nat) (l : List Ed) (hb : bad s l = 0) (htx : (s.size : Int) + tx l ≤ 70000) (w : World) (hl : l.length ≤ 10000) (hr : Eds w w.heap.size A l) :
    Calls Try.prog 107 #[.string s, .slice A l.length c] w (ListN (if nodup (iv s 0 l) = true then iv s 0 l else []) (if nodup (iv s 0 l) = true then .nilIface else errn 6) w) := by
  obtain ⟨h1, h2⟩ := bad_zero hb
  obtain ⟨g1, g2⟩ := gr_small h1
  obtain ⟨N, hN⟩ : ∃ N : Nat, (N : Int) = (s.size : Int) + gr l := ⟨((s.size : Int) + gr l).toNat, by omega⟩
  have HC := Lib.hid (newSize_ok s A c l N hb hN htx w hl hr)
  have HT := Lib.hid h1
  have HND : Hid (rt (iv s 0 l) N = nodup (iv s 0 l)) := Lib.hid (by rw [hN]; exact iv_right s h1)
  have htx0 := tx_nonneg l
  have HM1 : Hid (nodup (iv s 0 l) = true → (if nodup (iv s 0 l) = true then iv s 0 l else []) = iv s 0 l ∧ (if nodup (iv s 0 l) = true then .nilIface else errn 6) = .nilIface) := Lib.hid (fun h => ⟨if_pos h, if_pos h⟩)
  have HM2 : Hid (nodup (iv s 0 l) = false → (if nodup (iv s 0 l) = true then iv s 0 l else []) = [] ∧ (if nodup (iv s 0 l) = true then .nilIface else errn 6) = errn 6) := Lib.hid (fun h => ⟨if_neg (by simp [h]), if_neg (by simp [h])⟩)
  generalize (if nodup (iv s 0 l) = true then iv s 0 l else []) = M at HM1 HM2 ⊢
  generalize (if nodup (iv s 0 l) = true then .nilIface else errn 6) = V at HM1 HM2 ⊢
  clear hb hN h1 h2 g1 g2
  go_enter Try.func107, Try.ntmps107
  go_wp2_with fail
  refine HC.out.mono ?_
  rintro e w1 ⟨rfl, hb1⟩
  clear HC
  go_wp2
  go_loopw [8, 9, 24] (fun v g i wr => InvI w s l v g i wr) (fun _ _ i _ => l.length + 1 - (intOf i).toNat)
  case atStart => exact ⟨0, none, 0, Nat.zero_le _, rfl, rfl, rfl, hb1, Own.nil _ _⟩
  case round =>
    obtain ⟨k, A', c', hk, rfl, rfl, rfl, hB, hown⟩ := hrel
    by_cases hlt : k < l.length
    · have he : l[k]? = some l[k] := List.getElem?_eq_getElem hlt
      generalize l[k] = e at he
      have z2 : (k : Int) < l.length := by omega
      obtain ⟨b, off, rfl, hb, c0, c1, c2⟩ := (hr.below hB).at_ he
      obtain ⟨s0, s1, s2⟩ := (rt_parts HT.out).2.1 k e he
      have hle : (e.s.size : Int) ≤ 70000 := by
        have h1 := tx_snoc he
        have h2 := tx_take_le l (k + 1)
        have h3 := tx_nonneg (l.take k)
        omega
      obtain ⟨p1, p2, p3⟩ := iv_place HT.out he
      have p4 := gr_bounds HT.out
      have p5 : e.f + gr (l.take k) + (e.s.size : Int) ≤ 200000 := by omega
      have HG := Lib.hid (gr_snoc he)
      have HI := Lib.hid (iv_snoc s he)
      have p6 : gr (l.take k) + gr1 e ≤ 200000 := by rw [← HG.out]; omega
      have p7 : -200000 ≤ gr (l.take k) + gr1 e := by rw [← HG.out]; omega
      have p8 : -200000 ≤ gr (l.take k) := by omega
      have p9 : gr (l.take k) ≤ 200000 := by omega
      have hml : (iv s 0 (l.take k)).length ≤ 20000 := by rw [iv_length, List.length_take]; omega
      have hbb : b < wr.heap.size := Nat.lt_of_lt_of_le hb hB.size
      have hne : b ≠ wr.heap.size := by omega
      clear p2 p3 p4 he hr
      generalize gr (l.take k) = g at *
      generalize iv s 0 (l.take k) = m at *
      have q1 : IntKind.i64.wrap (e.f + g + (e.s.size : Int)) = e.f + g + (e.s.size : Int) := IntWalk.i64_in _ (by omega)
      have q2 : (0 : Int) ≤ e.t := by omega
      have q3 : e.t ≤ (s.size : Int) := s2
      go_wp2
      have hlt2 : ∀ k', (Value.slice A' m.length c').ownBlock = some k' → k' < wr.heap.size := fun k' h => (hown.lt k' h).2
      have HL := Lib.hid hlt2
      have HO := Lib.hid hown
      clear hown hlt2
      go_region_held3 (fun w' => w'.cell? ⟨wr.heap.size, 0, none⟩ = some (.int .i64 e.f) ∧ w'.cell? ⟨wr.heap.size, 1, none⟩ = some (.int .i64 e.t) ∧ w'.cell? ⟨wr.heap.size, 2, none⟩ = some (.string e.s))
        (first
          | go_keep
          | (go_split_ands
             refine ⟨?_, ?_, ?_⟩
             all_goals (rw [hgrow.cell_far _ (by simp; omega) (fun h => Nat.lt_irrefl _ (HL.out _ h.symm))]; assumption)))
        ((refine step_append_ed (by rfl) _ _ (by rfl) _ w.heap.size A' c' m (iv1 s g e) (wr.heap.size + 1) (by rfl) (by rfl) (by exact second_new _ _ _) (((HO.out.alloc _).alloc _).drew) hml (by simp; have := hB.size; omega) ?_; intro A2 c2 w2 hown2 hgrow))
      have hb2 : Below w.heap.size w w2 := below_append ((hB.alloc hB.size _).alloc (by have := hB.size; simp; omega) _).drew hgrow ((HO.out.alloc _).alloc _).drew (Nat.le_refl _) (by have := hB.size; simp; omega)
      have hs2 : wr.heap.size + 2 ≤ w2.heap.size := by have := hgrow.size; simpa using this
      obtain ⟨d0, d1, d2⟩ : w2.cell? ⟨wr.heap.size, 0, none⟩ = some (.int .i64 e.f) ∧ w2.cell? ⟨wr.heap.size, 1, none⟩ = some (.int .i64 e.t) ∧ w2.cell? ⟨wr.heap.size, 2, none⟩ = some (.string e.s) := by
        refine ⟨?_, ?_, ?_⟩
        all_goals
          rw [hgrow.cell_far _ (by simp; omega) (fun h => Nat.lt_irrefl _ (HL.out _ h.symm))]
          simp
      have HO2 := Lib.hid hown2
      clear hgrow hown2 q1
      go_wp2_with fail
      refine (growth_any e _ s0 s1 (by omega) hle).mono ?_
      rintro r w3 ⟨rfl, hb3⟩
      generalize hg1 : gr1 e = g1 at HG p6 p7 ⊢
      clear hg1
      go_wp2
      go_roundw
      case rel =>
        refine ⟨k + 1, A2, c2, by omega, by go_num, by rw [HG.out], by rw [HI.out, List.length_append]; rfl, hb2.trans (hb3.mono hb2.size), ?_⟩
        rw [HI.out]
        exact HO2.out.below hb3
      case measure => simp [intOf]; omega
    · obtain rfl : k = l.length := by omega
      rw [List.take_length] at hown ⊢
      have hil : (iv s 0 l).length ≤ 10000 := by rw [iv_length]; omega
      have HR := Lib.hid (right_any A' c' (iv s 0 l) N wr hil hown.eds)
      rw [HND.out] at HR
      have HO := Lib.hid hown
      clear hr hown
      generalize iv s 0 l = m at *
      cases hq : nodup m with
      | true =>
        obtain ⟨rfl, rfl⟩ := HM1.out hq
        rw [hq] at HR
        clear hq HM1 HM2 HND
        go_wp2_with fail
        refine HR.out.mono ?_
        rintro r w2 ⟨rfl, hb2⟩
        go_wp2
        go_ret2
        exact listN_own HO.out hB hb2
      | false =>
        obtain ⟨rfl, rfl⟩ := HM2.out hq
        rw [hq] at HR
        clear hq HM1 HM2 HND
        go_wp2_with fail
        refine HR.out.mono ?_
        rintro r w2 ⟨rfl, hb2⟩
        go_wp2
        go_ret2
        exact listN_none (hB.trans (hb2.mono hB.size))

theorem invert_ok (s : ByteArray) (A : Option Addr) (c : Nat) (l : List Ed) (hb : bad s l = 0) (htx : (s.size : Int) + tx l ≤ 70000) (w : World) (hl : l.length ≤ 10000) (hr : Eds w w.heap.size A l) :
    Calls Try.prog 107 #[.string s, .slice A l.length c] w (ListV (if nodup (iv s 0 l) = true then iv s 0 l else []) (if nodup (iv s 0 l) = true then .nilIface else errn 6) w) :=
  (invert_okN s A c l hb htx w hl hr).mono fun _ _ h => h.v

end Go.Proofs.Ytfkpnfhhmldodaa
