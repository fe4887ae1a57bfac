/- An argument that is a slice of files, or of patches: read as a list; each text's size. -/
import Derived.Test.YtfkpnfhhmldodaaEditOpen
import Derived.Test.YtfkpnfhhmldodaaFilesMem
namespace Go.Proofs.Ytfkpnfhhmldodaa
open Go.ChangeShapes Go.WideShapes Go.Deep Go.RowKit EditMath FilesMath

theorem list_ofG {α : Type} {P : Nat → α → Prop} : ∀ (n : Nat), (∀ i, i < n → ∃ e, P i e) → ∃ l : List α, l.length = n ∧ ∀ (i : Nat) (e : α), l[i]? = some e → P i e := by
  intro n
  induction n with
  | zero => intro _; exact ⟨[], rfl, fun i e h => by simp at h⟩
  | succ n ih =>
    intro h
    obtain ⟨l, hl, hp⟩ := ih fun i hi => h i (by omega)
    obtain ⟨e, he⟩ := h n (by omega)
    refine ⟨l ++ [e], by simp [hl], fun i d hd => ?_⟩
    by_cases hi : i < l.length
    · rw [List.getElem?_append_left hi] at hd; exact hp i d hd
    · rw [List.getElem?_append_right (by omega)] at hd
      have : i - l.length = 0 := by
        rcases Nat.eq_zero_or_pos (i - l.length) with h0 | h0
        · exact h0
        · rw [List.getElem?_eq_none (by simp; omega)] at hd; cases hd
      rw [this] at hd
      simp at hd
      subst hd
      have : i = n := by omega
      subst this
      exact he

section
variable {H : Type} {enc : TypeId × Value → H} {w : World} {spare : Nat → Bool} {held : Bool}

def flDatum (e : Fl) : DataW H := .agg [.lit (.string e.n.data.toList), .lit (.string e.t.data.toList)]

theorem files_fields : ∃ fs, Try.prog.underlying 58 = some (.struct fs) ∧ fs.size = 2 ∧ oneCellFields Try.prog fs = true ∧ Try.prog.cellsOf 58 = 2 ∧
    fs[0]?.map (·.type) = some 9 ∧ fs[1]?.map (·.type) = some 9 :=
  ⟨_, Try.underlying58, by rfl, by kernel_rfl, by kernel_rfl, by rfl, by rfl⟩
theorem patches_fields : ∃ fs, Try.prog.underlying 122 = some (.struct fs) ∧ fs.size = 2 ∧ oneCellFields Try.prog fs = true ∧ Try.prog.cellsOf 122 = 2 ∧
    fs[0]?.map (·.type) = some 9 ∧ fs[1]?.map (·.type) = some 22 :=
  ⟨_, Try.underlying122, by rfl, by kernel_rfl, by kernel_rfl, by rfl, by rfl⟩

set_option maxRecDepth 100000 in
theorem open_files {fuel : Nat} {A : Option Addr} {len cap : Nat} {x : DataW H × List MemPlace} (h : DataW.trod enc Try.prog w 0 spare held fuel 54 [.slice A len cap] = some x) :
    ∃ (l : List Fl) (sp : List (DataW H)), l.length = len ∧ len ≤ maxLen ∧ len ≤ cap ∧ (A = none → cap = 0) ∧ Fls w w.heap.size A l ∧ (l ≠ [] → x.1 = .slice (l.map flDatum) sp) := by
  obtain ⟨fs, hu, hsz, hone, hC, f0, f1⟩ := files_fields
  rcases open_slice Try.underlying54 h with ⟨hcs, hx⟩ | ⟨a, len', cap', m, n, D, Pl, hcs, _, hl, hm, hmm, hx, hi⟩
  · injection hcs with hcs
    injection hcs with h1 h2 h3
    subst h1 h2 h3
    exact ⟨[], [], rfl, Nat.zero_le _, Nat.le_refl _, fun _ => rfl, Fls.none_, fun h => absurd rfl h⟩
  · injection hcs with hcs
    injection hcs with h1 h2 h3
    subst h1 h2 h3
    have hlm : len ≤ m := by rw [hmm]; split <;> omega
    have key : ∀ i, i < len → ∃ e : Fl, w.cell? (a.add (i * 2)) = some (.string e.n) ∧ w.cell? (a.add (i * 2 + 1)) = some (.string e.t) ∧ D i = flDatum e := by
      intro i hil
      obtain ⟨cs', hc, ht'⟩ := hi i (by omega)
      rw [hC] at hc
      obtain ⟨ys, n', hn', hy, hlen, hyl, hf⟩ := DataW.trod_struct hu ht'
      obtain ⟨_, hcl, hat⟩ := World.cells?_some hc
      simp only [Prod.mk.injEq] at hy
      have field : ∀ (j : Nat) (t : TypeId), fs[j]?.map (·.type) = some t → j < 2 → ∃ (v : Value) (y : DataW H × List MemPlace), w.cell? (a.add (i * 2 + j)) = some v ∧ ys[j]? = some y ∧ DataW.trod enc Try.prog w 0 spare held n' t [v] = some y := by
        intro j t hjt hj3
        obtain ⟨f, hj, rfl⟩ := Option.map_eq_some_iff.1 hjt
        obtain ⟨ho, hk⟩ := hone_of hone j f hj
        have hcell := hat j hj3
        have hv : cs'[j]? = some (cs'[j]'(by omega)) := List.getElem?_eq_getElem (by omega)
        have h1 := hf j f hj
        rw [ho, hk] at h1
        have hone' : (cs'.drop j).take 1 = [cs'[j]'(by omega)] := by
          rw [List.drop_eq_getElem_cons (by omega)]
          rfl
        rw [hone'] at h1
        have hys : ys[j]? = some (ys[j]'(by omega)) := List.getElem?_eq_getElem (by omega)
        refine ⟨_, _, ?_, hys, h1.trans hys⟩
        rw [← Go.Deep.add_add, hcell, hv]
      obtain ⟨v0, y0, c0, e0, t0⟩ := field 0 _ f0 (by omega)
      obtain ⟨v1, y1, c1, e1, t1⟩ := field 1 _ f1 (by omega)
      obtain ⟨s0, hv0, rfl, _⟩ := DataW.trod_string Try.underlying9 t0
      obtain ⟨s1, hv1, rfl, _⟩ := DataW.trod_string Try.underlying9 t1
      injection hv0 with hv0
      injection hv1 with hv1
      subst hv0 hv1
      refine ⟨⟨s0, s1⟩, by simpa using c0, c1, ?_⟩
      rw [hy.1]
      match ys, hyl.trans hsz, e0, e1 with
      | [u0, u1], _, e0, e1 =>
        simp at e0 e1
        subst e0 e1
        rfl
    obtain ⟨l, hll, hp⟩ := list_ofG len key
    refine ⟨l, ((List.range (m - len)).map fun j => D (len + j)), hll, Nat.le_trans hl hm, hl, fun h => (by cases h), ?_, fun _ => ?_⟩
    · intro hpos
      obtain ⟨e0, he0⟩ : ∃ e, l[0]? = some e := ⟨_, List.getElem?_eq_getElem hpos⟩
      obtain ⟨q0, _⟩ := hp 0 e0 he0
      have hsp := cell_lt q0
      simp only [Nat.zero_mul] at hsp
      have ha : a.add 0 = a := by simp [Addr.add]
      rw [ha] at hsp
      obtain ⟨b, off, spot⟩ := a
      obtain ⟨hb, hspot⟩ := hsp
      simp only at hb hspot
      subst hspot
      refine ⟨b, off, rfl, hb, fun i e he => ?_⟩
      obtain ⟨c0, c1, _⟩ := hp i e he
      have hadd : ∀ n, (⟨b, off, none⟩ : Addr).add n = ⟨b, off + n, none⟩ := fun n => Addr.add_lit _ _ _
      rw [hadd] at c0 c1
      exact ⟨c0, by rw [Nat.add_assoc]; exact c1⟩
    · rw [hx]
      show DataW.slice _ _ = _
      congr 1
      refine List.ext_getElem? fun i => ?_
      rw [List.getElem?_map, List.getElem?_map]
      by_cases hil : i < len
      · obtain ⟨e, he⟩ : ∃ e, l[i]? = some e := ⟨_, List.getElem?_eq_getElem (by omega)⟩
        rw [he, List.getElem?_range hil]
        simp [(hp i e he).2.2]
      · rw [List.getElem?_eq_none (by simp; omega), List.getElem?_eq_none (by omega)]
        rfl

/-- each name and text is of a size that a machine has -/
theorem files_sized {ts : List TypeId} {ds : List (DataW H)} (h : (DataW.weightsEach Try.prog ts ds).all (· ≤ reachBytes) = true) {j : Nat} {l : List Fl} {sp : List (DataW H)} (ht : ts[j]? = some 54) (hd : l ≠ [] → ds[j]? = some (.slice (l.map flDatum) sp)) :
    ∀ (i : Nat) (e : Fl), l[i]? = some e → (e.n.size : Int) ≤ 140737488355328 ∧ (e.t.size : Int) ≤ 140737488355328 := by
  intro i e he
  have hm := List.mem_of_getElem? he
  have hne : l ≠ [] := by rintro rfl; cases hm
  have hw := fun s (hs : s ∈ (flDatum e : DataW H).weights Try.prog 58) => List.all_eq_true.1 h s (DataW.weights_mem_each ht (hd hne) _ (by
    simp only [DataW.weights, Try.underlying54, List.mem_cons, List.mem_append]
    exact .inr (.inl (weights_in (d := flDatum e) (List.mem_map.2 ⟨e, hm, rfl⟩) hs))))
  have h0 := hw e.n.data.toList.length (by simp [flDatum, DataW.weights, Try.underlying58, DataW.weightsEach])
  have h1 := hw e.t.data.toList.length (by simp [flDatum, DataW.weights, Try.underlying58, DataW.weightsEach])
  have k0 : e.n.data.toList.length = e.n.size := rfl
  have k1 : e.t.data.toList.length = e.t.size := rfl
  have h2 := reachBytes_lt
  simp only [decide_eq_true_eq, k0] at h0
  simp only [decide_eq_true_eq, k1] at h1
  omega

def PtD (D : DataW H) (p : Pt) : Prop := ∃ y, D = .agg [.lit (.string p.n.data.toList), y] ∧ (p.l ≠ [] → ∃ sp, y = .slice (p.l.map edDatum) sp)

set_option maxRecDepth 100000 in
theorem open_patches {fuel : Nat} {A : Option Addr} {len cap : Nat} {x : DataW H × List MemPlace} (h : DataW.trod enc Try.prog w 0 spare held fuel 64 [.slice A len cap] = some x) :
    ∃ (l : List Pt), l.length = len ∧ len ≤ maxLen ∧ len ≤ cap ∧ (A = none → cap = 0) ∧ Pts w w.heap.size A l ∧ (∀ (i : Nat) (p : Pt), l[i]? = some p → p.l.length ≤ maxLen) ∧
      (l ≠ [] → ∃ Ds sp, x.1 = .slice Ds sp ∧ ∀ (i : Nat) (p : Pt), l[i]? = some p → ∃ D, Ds[i]? = some D ∧ PtD D p) := by
  obtain ⟨fs, hu, hsz, hone, hC, f0, f1⟩ := patches_fields
  rcases open_slice Try.underlying64 h with ⟨hcs, hx⟩ | ⟨a, len', cap', m, n, D, Pl, hcs, _, hl, hm, hmm, hx, hi⟩
  · injection hcs with hcs
    injection hcs with h1 h2 h3
    subst h1 h2 h3
    exact ⟨[], rfl, Nat.zero_le _, Nat.le_refl _, fun _ => rfl, Pts.none_, fun i p h => by simp at h, fun h => absurd rfl h⟩
  · injection hcs with hcs
    injection hcs with h1 h2 h3
    subst h1 h2 h3
    have hlm : len ≤ m := by rw [hmm]; split <;> omega
    have key : ∀ i, i < len → ∃ e : Pt, w.cell? (a.add (i * 2)) = some (.string e.n) ∧ w.cell? (a.add (i * 2 + 1)) = some (.slice e.A e.l.length e.c) ∧ PtOk w w.heap.size e ∧ e.l.length ≤ maxLen ∧ PtD (D i) e := by
      intro i hil
      obtain ⟨cs', hc, ht'⟩ := hi i (by omega)
      rw [hC] at hc
      obtain ⟨ys, n', hn', hy, hlen, hyl, hf⟩ := DataW.trod_struct hu ht'
      obtain ⟨_, hcl, hat⟩ := World.cells?_some hc
      simp only [Prod.mk.injEq] at hy
      have field : ∀ (j : Nat) (t : TypeId), fs[j]?.map (·.type) = some t → j < 2 → ∃ (v : Value) (y : DataW H × List MemPlace), w.cell? (a.add (i * 2 + j)) = some v ∧ ys[j]? = some y ∧ DataW.trod enc Try.prog w 0 spare held n' t [v] = some y := by
        intro j t hjt hj3
        obtain ⟨f, hj, rfl⟩ := Option.map_eq_some_iff.1 hjt
        obtain ⟨ho, hk⟩ := hone_of hone j f hj
        have hcell := hat j hj3
        have hv : cs'[j]? = some (cs'[j]'(by omega)) := List.getElem?_eq_getElem (by omega)
        have h1 := hf j f hj
        rw [ho, hk] at h1
        have hone' : (cs'.drop j).take 1 = [cs'[j]'(by omega)] := by
          rw [List.drop_eq_getElem_cons (by omega)]
          rfl
        rw [hone'] at h1
        have hys : ys[j]? = some (ys[j]'(by omega)) := List.getElem?_eq_getElem (by omega)
        refine ⟨_, _, ?_, hys, h1.trans hys⟩
        rw [← Go.Deep.add_add, hcell, hv]
      obtain ⟨v0, y0, c0, e0, t0⟩ := field 0 _ f0 (by omega)
      obtain ⟨v1, y1, c1, e1, t1⟩ := field 1 _ f1 (by omega)
      obtain ⟨s0, hv0, rfl, _⟩ := DataW.trod_string Try.underlying9 t0
      injection hv0 with hv0
      subst hv0
      obtain ⟨A1, l1, k1, rfl⟩ : ∃ A1 l1 k1, v1 = .slice A1 l1 k1 := by
        rcases open_slice Try.underlying22 t1 with ⟨hcs, _⟩ | ⟨a, len', cap', m, n, D, Pl, hcs, _⟩
        · injection hcs with hcs; exact ⟨_, _, _, hcs⟩
        · injection hcs with hcs; exact ⟨_, _, _, hcs⟩
      obtain ⟨l, sp, rfl, hlm1, hlc1, hnil1, he1, hx1⟩ := open_edits t1
      refine ⟨⟨s0, A1, k1, l⟩, by simpa using c0, c1, ⟨he1, hlc1, hnil1⟩, hlm1, y1.1, ?_, fun hne => ⟨sp, hx1 hne⟩⟩
      rw [hy.1]
      match ys, hyl.trans hsz, e0, e1 with
      | [u0, u1], _, e0, e1 =>
        simp at e0 e1
        subst e0 e1
        rfl
    obtain ⟨l, hll, hp⟩ := list_ofG len key
    refine ⟨l, hll, Nat.le_trans hl hm, hl, fun h => (by cases h), ⟨?_, fun i e he => (hp i e he).2.2.1⟩, fun i e he => (hp i e he).2.2.2.1, fun _ => ⟨_, _, by rw [hx], fun i p hip => ⟨D i, ?_, (hp i p hip).2.2.2.2⟩⟩⟩
    · intro hpos
      obtain ⟨e0, he0⟩ : ∃ e, l[0]? = some e := ⟨_, List.getElem?_eq_getElem hpos⟩
      obtain ⟨q0, _⟩ := hp 0 e0 he0
      have hsp := cell_lt q0
      simp only [Nat.zero_mul] at hsp
      have ha : a.add 0 = a := by simp [Addr.add]
      rw [ha] at hsp
      obtain ⟨b, off, spot⟩ := a
      obtain ⟨hb, hspot⟩ := hsp
      simp only at hb hspot
      subst hspot
      refine ⟨b, off, rfl, hb, fun i e he => ?_⟩
      obtain ⟨c0, c1, _⟩ := hp i e he
      have hadd : ∀ n, (⟨b, off, none⟩ : Addr).add n = ⟨b, off + n, none⟩ := fun n => Addr.add_lit _ _ _
      rw [hadd] at c0 c1
      exact ⟨c0, by rw [Nat.add_assoc]; exact c1⟩
    · have hil : i < len := by rw [← hll]; exact (List.getElem?_eq_some_iff.1 hip).1
      rw [List.getElem?_map, List.getElem?_range hil]
      rfl

/-- each name and each edit's text is of a size that a machine has -/
theorem patches_sized {ts : List TypeId} {ds : List (DataW H)} (h : (DataW.weightsEach Try.prog ts ds).all (· ≤ reachBytes) = true) {j : Nat} {l : List Pt} (ht : ts[j]? = some 64)
    (hd : l ≠ [] → ∃ Ds sp, ds[j]? = some (.slice Ds sp) ∧ ∀ (i : Nat) (p : Pt), l[i]? = some p → ∃ D, Ds[i]? = some D ∧ PtD D p) :
    ∀ (i : Nat) (p : Pt), l[i]? = some p → (p.n.size : Int) ≤ 140737488355328 ∧ ∀ (k : Nat) (e : Ed), p.l[k]? = some e → (e.s.size : Int) ≤ 140737488355328 := by
  intro i p hp
  have hne : l ≠ [] := by rintro rfl; simp at hp
  obtain ⟨Ds, sp, hds, hall⟩ := hd hne
  obtain ⟨D, hD, y, rfl, hy⟩ := hall i p hp
  have h2 := reachBytes_lt
  have hw := fun s (hs : s ∈ (DataW.agg [.lit (.string p.n.data.toList), y] : DataW H).weights Try.prog 122) => List.all_eq_true.1 h s (DataW.weights_mem_each ht hds _ (by
    simp only [DataW.weights, Try.underlying64, List.mem_cons, List.mem_append]
    exact .inr (.inl (weights_in (List.mem_of_getElem? hD) hs))))
  constructor
  · have h0 := hw p.n.data.toList.length (by simp [DataW.weights, Try.underlying122, DataW.weightsEach])
    have k0 : p.n.data.toList.length = p.n.size := rfl
    simp only [decide_eq_true_eq, k0] at h0
    omega
  · intro k e he
    have hm := List.mem_of_getElem? he
    obtain ⟨sp2, rfl⟩ := hy (by intro q; rw [q] at he; simp at he)
    have h1 := hw e.s.data.toList.length (by
      have hin : e.s.data.toList.length ∈ (edDatum e : DataW H).weights Try.prog 87 := by simp [edDatum, DataW.weights, Try.underlying87, DataW.weightsEach]
      have hin2 := weights_in (List.mem_map.2 ⟨e, hm, rfl⟩ : edDatum e ∈ p.l.map edDatum) hin
      simp [DataW.weights, Try.underlying122, Try.underlying22, DataW.weightsEach]
      exact .inr (.inr (.inl hin2)))
    have k1 : e.s.data.toList.length = e.s.size := rfl
    simp only [decide_eq_true_eq, k1] at h1
    omega
end

end Go.Proofs.Ytfkpnfhhmldodaa
