/- DeleteFunc with Without's question: what changes nothing is taken out of a row of the call's own. -/
import Derived.Test.YtgecifinefpfoaaEditWithout
import Derived.Laws.IdiomCopy
namespace Go.Proofs.Ytgecifinefpfoaa
open Go.RowKit EditMath

theorem ecells_set : ∀ (m : List Ed) (i : Nat) (e : Ed), ecells (m.set i e) = (((ecells m).set (i * 3) (.int .i64 e.f)).set (i * 3 + 1) (.int .i64 e.t)).set (i * 3 + 2) (.string e.s) := by
  intro m
  induction m with
  | nil => intro i e; simp [ecells]
  | cons q m ih =>
    intro i e
    have hq : ∀ (x : Ed) (r : List Ed), ecells (x :: r) = .int .i64 x.f :: .int .i64 x.t :: .string x.s :: ecells r := fun x r => by simp [ecells, ecs, List.flatMap_cons]
    cases i with
    | zero => rw [List.set_cons_zero, hq, hq]; simp
    | succ i =>
      rw [List.set_cons_succ, hq, hq, ih i e, show (i + 1) * 3 = i * 3 + 1 + 1 + 1 from by omega]
      simp [List.set_cons_succ]

section
variable {w : World} {base c g : Nat} {m : List Ed}
theorem Own.row (h : Own w base (some ⟨g, 0, none⟩) c m) {k : Nat} {e : Ed} (hk : m[k]? = some e) :
    w.cell? ⟨g, k * 3, none⟩ = some (.int .i64 e.f) ∧ w.cell? ⟨g, k * 3 + 1, none⟩ = some (.int .i64 e.t) ∧ w.cell? ⟨g, k * 3 + 2, none⟩ = some (.string e.s) := by
  have hl := (List.getElem?_eq_some_iff.1 hk).1
  obtain ⟨h1, h2, h3⟩ := ecells_at m k e hk
  exact ⟨(World.ownsRow.cellAt h _ (by omega)).trans h1, (World.ownsRow.cellAt h _ (by omega)).trans h2, (World.ownsRow.cellAt h _ (by omega)).trans h3⟩
theorem Own.free (h : Own w base (some ⟨g, 0, none⟩) c m) (j : Nat) : w.frozen? ⟨g, j, none⟩ = false := World.ownsRow.frozenAt h j
theorem Own.there (h : Own w base (some ⟨g, 0, none⟩) c m) {j : Nat} (hj : j < m.length * 3) : (w.cell? ⟨g, j, none⟩).isSome = true := by
  rw [World.ownsRow.cellAt h j hj, List.getElem?_eq_getElem (by rw [ecells_length]; exact hj)]; rfl
theorem Own.at (h : Own w base (some ⟨g, 0, none⟩) c m) : base ≤ g ∧ g < w.heap.size := h.lt g rfl
theorem Own.put (h : Own w base (some ⟨g, 0, none⟩) c m) (i : Nat) (e : Ed) :
    Own (((w.setCell ⟨g, i * 3, none⟩ (.int .i64 e.f)).setCell ⟨g, i * 3 + 1, none⟩ (.int .i64 e.t)).setCell ⟨g, i * 3 + 2, none⟩ (.string e.s)) base (some ⟨g, 0, none⟩) c (m.set i e) := by
  have h1 := (World.ownsRow.stored h (i * 3) (.int .i64 e.f)).1
  have h2 := (World.ownsRow.stored h1 (i * 3 + 1) (.int .i64 e.t)).1
  have h3 := (World.ownsRow.stored h2 (i * 3 + 2) (.string e.s)).1
  unfold Own
  rw [ecells_set, List.length_set]
  exact h3
end

/-- the zero values that take the place of n edits -/
def zeros (n : Nat) : List Value := (Builtin.zeroCells #[.int .i64 0, .int .i64 0, .string ⟨#[]⟩] n).toList
theorem zeros_length (n : Nat) : (zeros n).length = n * 3 := by simp [zeros, Builtin.zeroCells]
theorem zeros_one (n : Nat) : ∀ v ∈ zeros n, v.oneCell' = true := by
  intro v hv
  simp only [zeros, Builtin.zeroCells, Array.toList_map, List.mem_map] at hv
  obtain ⟨i, _, rfl⟩ := hv
  have h3 : i % 3 < 3 := Nat.mod_lt _ (by decide)
  simp only [List.size_toArray, List.length_cons, List.length_nil]
  show (#[Value.int .i64 0, .int .i64 0, .string ⟨#[]⟩][i % 3]!).oneCell' = true
  generalize i % 3 = j at h3
  match j, h3 with
  | 0, _ => rfl
  | 1, _ => rfl
  | 2, _ => rfl

/-- clear of what is left behind a row's first i edits -/
theorem run_clear_eds {w : World} {base c g : Nat} {m : List Ed} (h : Own w base (some ⟨g, 0, none⟩) c m) (i : Nat) (hi : i < m.length) (ty : TypeId) (cc : Nat) :
    (Builtin.clear_ #[22] ty #[.slice (some ⟨g, i * 3, none⟩) (m.length - i) cc]).run Try.prog w = .ok (.tuple #[]) (w.setCells g (i * 3) (zeros (m.length - i))) := by
  have hst := run_storeCells_cells (P := Try.prog) g (i * 3) (zeros (m.length - i)) 0 w (fun j hj => h.there (by rw [zeros_length] at hj; omega)) (fun j _ => h.free _) (zeros_one _)
  simp only [Nat.add_zero] at hst
  unfold zeros at hst ⊢
  have hv := Try.zeroValue47
  obtain ⟨n, hn⟩ : ∃ n, m.length - i = n + 1 := ⟨m.length - i - 1, by omega⟩
  rw [hn] at hst ⊢
  simp [Builtin.clear_, run_underlying Try.underlying22, hv, Value.cells, hst]

theorem below_zeros {B g : Nat} {a : World} (hg : B ≤ g) : ∀ (vs : List Value) (o : Nat) (w : World), Below B a w → Below B a (w.setCells g o vs)
  | [], _, _, h => h
  | v :: r, o, w, h => below_zeros hg r (o + 1) _ (h.setCell (p := ⟨g, o, none⟩) hg v)

theorem enters41 : ∀ args w, (callFunc 41 args).run Try.prog w = .ok (.enter 41 args) w := enters_of Try.func41 (by kernel_rfl) rfl

/-- a row, j edits looked at, i of them kept -/
def Kept (s : ByteArray) (l m : List Ed) (i j : Nat) : Prop := m.length = l.length ∧ i < j ∧ m.take i = wo s (l.take j) ∧ ∀ k, j ≤ k → m[k]? = l[k]?

theorem kept_start {s : ByteArray} {l : List Ed} {k : Nat} {e : Ed} (he : l[k]? = some e) (h0 : chg s e = false) (hall : ∀ (i : Nat) (x : Ed), i < k → l[i]? = some x → chg s x = true) : Kept s l l k (k + 1) := by
  refine ⟨rfl, by omega, ?_, fun _ _ => rfl⟩
  rw [wo_snoc he, h0]
  have : wo s (l.take k) = l.take k := by
    unfold wo
    rw [List.filter_eq_self]
    intro x hx
    obtain ⟨i, hi⟩ := List.getElem?_of_mem hx
    obtain ⟨hi', hik⟩ := take_at hi
    exact hall i x hik hi'
  rw [this]; simp

theorem kept_skip {s : ByteArray} {l m : List Ed} {i j : Nat} {u : Ed} (h : Kept s l m i j) (hu : l[j]? = some u) (hc : chg s u = false) : Kept s l m i (j + 1) := by
  obtain ⟨a, b, c, d⟩ := h
  exact ⟨a, by omega, by rw [wo_snoc hu, hc]; simpa using c, fun k hk => d k (by omega)⟩

theorem kept_keep {s : ByteArray} {l m : List Ed} {i j : Nat} {u : Ed} (h : Kept s l m i j) (hu : l[j]? = some u) (hc : chg s u = true) : Kept s l (m.set i u) (i + 1) (j + 1) := by
  obtain ⟨a, b, c, d⟩ := h
  have hj := (List.getElem?_eq_some_iff.1 hu).1
  refine ⟨by rw [List.length_set]; exact a, by omega, ?_, fun k hk => ?_⟩
  · rw [wo_snoc hu, hc, ← c, List.take_add_one, List.take_set_of_le (Nat.le_refl _), List.getElem?_set_self (by omega)]
    rfl
  · rw [List.getElem?_set_ne (by omega)]; exact d k (by omega)

theorem kept_end {s : ByteArray} {l m : List Ed} {i : Nat} (h : Kept s l m i l.length) : m.take i = wo s l := by
  have := h.2.2.1
  rw [List.take_length] at this
  exact this

/-- the loop -/
def DelI (w : World) (base : Nat) (s : ByteArray) (l : List Ed) (g c : Nat) (vi vj : Value) (wr : World) : Prop :=
  ∃ (i j : Nat) (m : List Ed), j ≤ l.length ∧ vi = .int .i64 (i : Int) ∧ vj = .int .i64 (j : Int) ∧ Below base w wr ∧ Own wr base (some ⟨g, 0, none⟩) c m ∧ Kept s l m i j

/-- what DeleteFunc answers -/
def ListD (m : List Ed) (base : Nat) (w : World) (e : Ending) (w' : World) : Prop :=
  ∃ A c, e = .returned (.slice A m.length c) ∧ Eds w' w'.heap.size A m ∧ Below base w w'

/-- behind the question: the edit in hand, the place to put it -/
theorem del_facts {w wr w2 : World} {base c g i : Nat} {m : List Ed} {u o : Ed} (hown : Own wr base (some ⟨g, 0, none⟩) c m) (ho : m[i]? = some o) (hB : Below base w wr) (hbw : base ≤ w.heap.size)
    (hb2 : Below (wr.alloc (.cells #[.int .i64 u.f, .int .i64 u.t, .string u.s] 47)).heap.size (wr.alloc (.cells #[.int .i64 u.f, .int .i64 u.t, .string u.s] 47)) w2) :
    (w2.cell? ⟨wr.heap.size, 0, none⟩ = some (.int .i64 u.f) ∧ w2.cell? ⟨wr.heap.size, 1, none⟩ = some (.int .i64 u.t) ∧ w2.cell? ⟨wr.heap.size, 2, none⟩ = some (.string u.s)) ∧
    (w2.cell? ⟨g, i * 3, none⟩ = some (.int .i64 o.f) ∧ w2.cell? ⟨g, i * 3 + 1, none⟩ = some (.int .i64 o.t) ∧ w2.cell? ⟨g, i * 3 + 2, none⟩ = some (.string o.s)) ∧
    w2.frozen? ⟨g, i * 3, none⟩ = false ∧ w2.frozen? ⟨g, i * 3 + 1, none⟩ = false ∧ w2.frozen? ⟨g, i * 3 + 2, none⟩ = false ∧ Hid (Below base w w2 ∧ Own w2 base (some ⟨g, 0, none⟩) c m) := by
  have h2 := (hown.alloc (.cells #[.int .i64 u.f, .int .i64 u.t, .string u.s] 47)).below hb2
  have hx : Box w2 wr.heap.size u := by unfold Box; rw [hb2.block wr.heap.size (by simp)]; exact heap_alloc_new wr _
  have hs := hB.size
  exact ⟨hx.cells, h2.row ho, h2.free _, h2.free _, h2.free _, Lib.hid ⟨(hB.alloc (by omega) _).trans (hb2.mono (by simp; omega)), h2⟩⟩

set_option maxRecDepth 100000 in
set_option maxHeartbeats 4000000 in
theorem deleteFunc_any (s : ByteArray) (base B : Nat) (A : Option Addr) (c : Nat) (l : List Ed) (hb : rt l s.size = true) (hs : (s.size : Int) ≤ 70000) (w : World) (hl : l.length ≤ 100) (hown : Own w base A c l) (hBb : B < base) (hbw : base ≤ w.heap.size) (hc : w.cell? ⟨B, 0, none⟩ = some (.string s)) :
    Calls Try.prog 39 #[.slice A l.length c, .func (.func 41) #[] #[.pointer (some ⟨B, 0, none⟩)]] w (ListD (wo s l) base w) := by
  have HT := Lib.hid hb
  have hask : Asks 41 #[.pointer (some ⟨B, 0, none⟩)] (fun e => !chg s e) l w := by
    intro W x hx hW
    obtain ⟨i, hi⟩ := List.getElem?_of_mem hx
    obtain ⟨p0, p1, p2⟩ := (rt_parts hb).2.1 i x hi
    exact without1_any s x hs p0 p1 p2 B W (by have := hW.size; omega) ((hW.cell (p := ⟨B, 0, none⟩) (by simp; omega)).trans hc)
  have HC := Lib.hid (indexFunc_any A c l 41 _ enters41 _ w hl hown.eds hask)
  have hcap := hown.cap
  have HNC := Lib.hid hc
  clear hask hb hc
  by_cases hall : ∀ (i : Nat) (x : Ed), l[i]? = some x → chg s x = true
  · have hidx : idx (fun e => !chg s e) l = -1 := idx_miss fun i x hx => by simp [hall i x hx]
    have hwo : wo s l = l := by
      unfold wo
      rw [List.filter_eq_self]
      intro x hx
      obtain ⟨i, hi⟩ := List.getElem?_of_mem hx
      exact hall i x hi
    rw [hidx] at HC
    rw [hwo]
    have HO := Lib.hid hown
    clear hall hidx hwo hown
    have hm1 : ((-1 : Int) == -1) = true := by decide
    go_enter Try.func39, Try.ntmps39
    go_wp2_with fail
    refine HC.out.mono ?_
    rintro r w1 ⟨rfl, hb1⟩
    go_wp2
    go_ret
    exact ⟨A, c, rfl, HO.out.eds.after hb1, hb1.mono hbw⟩
  · obtain ⟨k0, e0, he0, hp0, hbef⟩ : ∃ (k : Nat) (e : Ed), l[k]? = some e ∧ chg s e = false ∧ ∀ (i : Nat) (x : Ed), i < k → l[i]? = some x → chg s x = true := by
      cases hf : l.findIdx? (fun e => !chg s e) with
      | none =>
        exfalso
        rw [List.findIdx?_eq_none_iff] at hf
        exact hall fun i x hx => by have := hf x (List.mem_of_getElem? hx); simpa using this
      | some k =>
        obtain ⟨hk, h1, h2⟩ := List.findIdx?_eq_some_iff_getElem.1 hf
        refine ⟨k, l[k], List.getElem?_eq_getElem hk, by simpa using h1, fun i x hi hx => ?_⟩
        have h3 := h2 i hi
        rw [← (List.getElem?_eq_some_iff.1 hx).2]
        simpa using h3
    have hk0 := (List.getElem?_eq_some_iff.1 he0).1
    have hidx : idx (fun e => !chg s e) l = (k0 : Int) := idx_hit he0 (by simp [hp0]) fun i x hi hx => by simp [hbef i x hi hx]
    rw [hidx] at HC
    have hne1 : ((k0 : Int) == -1) = false := beq_eq_false_iff_ne.2 (by omega)
    obtain ⟨g, hg⟩ : ∃ g, A = some ⟨g, 0, none⟩ := by
      rcases hown.2 with ⟨hv, h0⟩ | ⟨g, cap, cur, hv, _⟩
      · omega
      · injection hv with hv; exact ⟨g, hv⟩
    subst hg
    have HK := Lib.hid (kept_start he0 hp0 hbef)
    have HO := Lib.hid hown
    have hgb := hown.at
    clear hall hidx hown he0 hp0 hbef
    go_enter Try.func39, Try.ntmps39
    go_wp2_with fail
    refine HC.out.mono ?_
    rintro r w1 ⟨rfl, hb1⟩
    have hst : DelI w base s l g c (.int .i64 (k0 : Int)) (.int .i64 ((k0 : Int) + 1)) w1 := ⟨k0, k0 + 1, l, hk0, rfl, by go_num, hb1.mono hbw, HO.out.below hb1, HK.out⟩
    have HST := Lib.hid hst
    clear HC hst hb1 HO HK
    go_wp2
    go_loopw [5, 6] (fun vi vj wr => DelI w base s l g c vi vj wr) (fun _ j _ => l.length + 1 - (intOf j).toNat)
    case atStart => exact HST.out
    case round =>
      clear HST
      obtain ⟨i, j, m, hj, rfl, rfl, hB, hown, hkept⟩ := hrel
      have HKP := Lib.hid hkept
      obtain ⟨hml, hij, _, hrest⟩ := hkept
      by_cases hlt : j < l.length
      · have hu : l[j]? = some l[j] := List.getElem?_eq_getElem hlt
        generalize l[j] = u at hu
        have hmu : m[j]? = some u := (hrest j (Nat.le_refl _)).trans hu
        obtain ⟨c0, c1, c2⟩ := hown.row hmu
        obtain ⟨p0, p1, p2⟩ := (rt_parts HT.out).2.1 j u hu
        have HU := Lib.hid hu
        have hgl : g < wr.heap.size := hown.at.2
        have hng : g ≠ wr.heap.size := by omega
        have hbs := hB.size
        have hcw : (wr.alloc (.cells #[.int .i64 u.f, .int .i64 u.t, .string u.s] 47)).cell? ⟨B, 0, none⟩ = some (.string s) := by
          rw [World.cell?_alloc_lt _ _ _ (by simp; omega), hB.cell (p := ⟨B, 0, none⟩) hBb]; exact HNC.out
        have HC := Lib.hid (without1_any s u hs p0 p1 p2 B (wr.alloc (.cells #[.int .i64 u.f, .int .i64 u.t, .string u.s] 47)) (by simp; omega) hcw)
        have z1 : (0 : Int) ≤ j := by omega
        have z2 : (j : Int) < l.length := by omega
        have z3 : (0 : Int) ≤ i := by omega
        have z4 : (i : Int) < l.length := by omega
        have e41 := enters41
        obtain ⟨o, ho⟩ : ∃ o, m[i]? = some o := ⟨_, List.getElem?_eq_getElem (by omega)⟩
        have HOL := Lib.hid ho
        have HO := Lib.hid hown
        clear hu hmu hcw hrest hown ho
        cases hq : chg s u with
        | true =>
          have HQ := Lib.hid hq
          rw [hq] at HC
          clear hq
          go_wp2_with (go_at_fn 41; refine HC.out.mono ?_; rintro r w2 ⟨rfl, hb2⟩; obtain ⟨⟨x0, x1, x2⟩, ⟨r0, r1, r2⟩, f0, f1, f2, H2⟩ := del_facts HO.out HOL.out hB hbw hb2)
          have hB2 := H2.out.1
          have HO2 := Lib.hid H2.out.2
          have hg2 := hgb.1
          go_roundw
          case rel =>
            refine ⟨i + 1, j + 1, m.set i u, by omega, by go_num, by go_num, ?_, HO2.out.put i u, kept_keep HKP.out HU.out HQ.out⟩
            exact ((hB2.setCell (p := ⟨g, i * 3, none⟩) hg2 _).setCell (p := ⟨g, i * 3 + 1, none⟩) hg2 _).setCell (p := ⟨g, i * 3 + 2, none⟩) hg2 _
          case measure => simp [intOf]; omega
        | false =>
          have HQ := Lib.hid hq
          rw [hq] at HC
          clear hq
          go_wp2_with (go_at_fn 41; refine HC.out.mono ?_; rintro r w2 ⟨rfl, hb2⟩)
          have hB2 : Below base w w2 := (hB.alloc (by omega) _).trans (hb2.mono (by simp; omega))
          have HO2 := Lib.hid ((HO.out.alloc _).below hb2)
          go_roundw
          case rel => exact ⟨i, j + 1, m, by omega, rfl, by go_num, hB2, HO2.out, kept_skip HKP.out HU.out HQ.out⟩
          case measure => simp [intOf]; omega
      · obtain rfl : j = l.length := by omega
        have hcl : ∀ ty, (Builtin.clear_ #[22] ty #[.slice (some ⟨g, i * 3, none⟩) (l.length - i) (c - i)]).run Try.prog wr = .ok (.tuple #[]) (wr.setCells g (i * 3) (zeros (l.length - i))) := fun ty => by
          have := run_clear_eds hown i (by omega) ty (c - i)
          rw [hml] at this
          exact this
        have z3 : (0 : Int) ≤ i := by omega
        have z4 : (i : Int) < l.length := by omega
        have HO := Lib.hid hown
        have HEND := Lib.hid (kept_end HKP.out)
        clear hrest hown
        go_wp2
        go_ret
        have hlen : (wo s l).length = i := by rw [← HEND.out, List.length_take]; omega
        refine ⟨some ⟨g, 0, none⟩, c, by rw [hlen]; rfl, ?_, below_zeros hgb.1 _ _ _ hB⟩
        rw [← HEND.out]
        intro hpos
        rw [List.length_take] at hpos
        refine ⟨g, 0, rfl, ?_, fun k e he => ?_⟩
        · have h1 := HO.out.at.2
          have h2 := (below_zeros (B := wr.heap.size) (a := wr) (g := wr.heap.size) (Nat.le_refl _) [] 0 wr (Below.refl _ _)).size
          have h3 : wr.heap.size ≤ (wr.setCells g (i * 3) (zeros (l.length - i))).heap.size := (below_zeros (B := 0) (a := wr) (Nat.zero_le _) (zeros (l.length - i)) (i * 3) wr (Below.refl _ _)).size
          omega
        · obtain ⟨hk1, hk2⟩ := take_at he
          obtain ⟨q0, q1, q2⟩ := HO.out.row hk1
          simp only [Nat.zero_add]
          refine ⟨?_, ?_, ?_⟩
          · rw [World.cell?_setCells_out _ _ _ _ _ (fun _ _ => .inl (by simp; omega))]; exact q0
          · rw [World.cell?_setCells_out _ _ _ _ _ (fun _ _ => .inl (by simp; omega))]; exact q1
          · rw [World.cell?_setCells_out _ _ _ _ _ (fun _ _ => .inl (by simp; omega))]; exact q2

end Go.Proofs.Ytgecifinefpfoaa
