/- An argument that is a slice of acts: read as a list. -/
import Derived.Test.YtjnclchbklehgaaGreatDoorMzPlays
import Derived.Deep.Slices
import Derived.Deep.Fields
import Derived.ChangeSame
import Derived.SizedLaws
namespace Go.Proofs.YtjnclchbklehgaaGreatDoor
open Go.ChangeShapes Go.WideShapes Go.Deep Go.RowKit SignMath TreeMath

theorem list_of {P : Nat → Ac → Prop} : ∀ (n : Nat), (∀ i, i < n → ∃ e, P i e) → ∃ l : List Ac, l.length = n ∧ ∀ (i : Nat) (e : Ac), l[i]? = some e → P i e := by
  intro n
  induction n with
  | zero => intro _; exact ⟨[], rfl, fun i e h => by simp at h⟩
  | succ n ih =>
    intro h
    obtain ⟨l, hl, hp⟩ := ih fun i hi => h i (by omega)
    obtain ⟨e, he⟩ := h n (by omega)
    refine ⟨l ++ [e], by simp [hl], fun i d hd => ?_⟩
    by_cases hi : i < l.length
    · rw [List.getElem?_append_left hi] at hd; exact hp i d hd
    · rw [List.getElem?_append_right (by omega)] at hd
      have : i - l.length = 0 := by
        rcases Nat.eq_zero_or_pos (i - l.length) with h0 | h0
        · exact h0
        · rw [List.getElem?_eq_none (by simp; omega)] at hd; cases hd
      rw [this] at hd
      simp at hd
      subst hd
      have : i = n := by omega
      subst this
      exact he

theorem cell_lt {w : World} {a : Addr} {v : Value} (h : w.cell? a = some v) : a.block < w.heap.size ∧ a.spot = none := by
  unfold World.cell? at h
  rcases Nat.lt_or_ge a.block w.heap.size with hlt | hge
  · refine ⟨hlt, ?_⟩
    split at h
    · split at h
      · cases h
      · cases hs : a.spot with
        | none => rfl
        | some k => simp_all
    · cases h
  · rw [Array.getElem?_eq_none hge] at h; cases h

theorem wf_rng {n : Int} (h : (Lit.int .i64 n).wf = true) : rng n := by unfold rng; simpa [Lit.wf, IntKind.min, IntKind.max, IntKind.signed, IntKind.bits] using h

section
variable {H : Type} {enc : TypeId × Value → H} {w : World} {spare : Nat → Bool} {held : Bool}

def acDatum (e : Ac) : DataW H := .agg [.lit (.int .i64 e.k), .lit (.int .i64 e.n), .lit (.int .i64 e.a), .lit (.string e.t.data.toList)]

theorem acts_fields : ∃ fs, Tryz.prog.underlying 36 = some (.struct fs) ∧ fs.size = 4 ∧ oneCellFields Tryz.prog fs = true ∧ Tryz.prog.cellsOf 36 = 4 ∧
    fs[0]?.map (·.type) = some 3 ∧ fs[1]?.map (·.type) = some 3 ∧ fs[2]?.map (·.type) = some 3 ∧ fs[3]?.map (·.type) = some 9 :=
  ⟨_, Tryz.underlying36, by rfl, by kernel_rfl, by kernel_rfl, by rfl, by rfl, by rfl, by rfl⟩

set_option maxRecDepth 100000 in
theorem open_acts {fuel : Nat} {A : Option Addr} {len cap : Nat} {x : DataW H × List MemPlace} (h : DataW.trod enc Tryz.prog w 0 spare held fuel 22 [.slice A len cap] = some x) :
    ∃ (l : List Ac) (sp : List (DataW H)), l.length = len ∧ len ≤ maxLen ∧ len ≤ cap ∧ (A = none → cap = 0) ∧ Acs (lo w.heap.size) w A l ∧ (∀ e ∈ l, rng e.k ∧ rng e.n ∧ rng e.a) ∧ (l ≠ [] → x.1 = .slice (l.map acDatum) sp) := by
  obtain ⟨fs, hu, hsz, hone, hC, f0, f1, f2, f3⟩ := acts_fields
  rcases open_slice Tryz.underlying22 h with ⟨hcs, hx⟩ | ⟨a, len', cap', m, n, D, Pl, hcs, _, hl, hm, hmm, hx, hi⟩
  · injection hcs with hcs
    injection hcs with h1 h2 h3
    subst h1 h2 h3
    exact ⟨[], [], rfl, Nat.zero_le _, Nat.le_refl _, fun _ => rfl, fun h => by simp at h, by simp, fun h => absurd rfl h⟩
  · injection hcs with hcs
    injection hcs with h1 h2 h3
    subst h1 h2 h3
    have hlm : len ≤ m := by rw [hmm]; split <;> omega
    have key : ∀ i, i < len → ∃ e : Ac, (w.cell? (a.add (i * 4)) = some (.int .i64 e.k) ∧ w.cell? (a.add (i * 4 + 1)) = some (.int .i64 e.n) ∧ w.cell? (a.add (i * 4 + 2)) = some (.int .i64 e.a) ∧ w.cell? (a.add (i * 4 + 3)) = some (.string e.t)) ∧ (rng e.k ∧ rng e.n ∧ rng e.a) ∧ D i = acDatum e := by
      intro i hil
      obtain ⟨cs', hc, ht'⟩ := hi i (by omega)
      rw [hC] at hc
      obtain ⟨ys, n', hn', hy, hlen, hyl, hf⟩ := DataW.trod_struct hu ht'
      obtain ⟨_, hcl, hat⟩ := World.cells?_some hc
      simp only [Prod.mk.injEq] at hy
      have field : ∀ (j : Nat) (t : TypeId), fs[j]?.map (·.type) = some t → j < 4 → ∃ (v : Value) (y : DataW H × List MemPlace), w.cell? (a.add (i * 4 + j)) = some v ∧ ys[j]? = some y ∧ DataW.trod enc Tryz.prog w 0 spare held n' t [v] = some y := by
        intro j t hjt hj3
        obtain ⟨f, hj, rfl⟩ := Option.map_eq_some_iff.1 hjt
        obtain ⟨ho, hk⟩ := hone_of hone j f hj
        have hcell := hat j hj3
        have hv : cs'[j]? = some (cs'[j]'(by omega)) := List.getElem?_eq_getElem (by omega)
        have h1 := hf j f hj
        rw [ho, hk] at h1
        have hone' : (cs'.drop j).take 1 = [cs'[j]'(by omega)] := by
          rw [List.drop_eq_getElem_cons (by omega)]
          rfl
        rw [hone'] at h1
        have hys : ys[j]? = some (ys[j]'(by omega)) := List.getElem?_eq_getElem (by omega)
        refine ⟨_, _, ?_, hys, h1.trans hys⟩
        rw [← Go.Deep.add_add, hcell, hv]
      obtain ⟨v0, y0, c0, e0, t0⟩ := field 0 _ f0 (by omega)
      obtain ⟨v1, y1, c1, e1, t1⟩ := field 1 _ f1 (by omega)
      obtain ⟨v2, y2, c2, e2, t2⟩ := field 2 _ f2 (by omega)
      obtain ⟨v3, y3, c3, e3, t3⟩ := field 3 _ f3 (by omega)
      obtain ⟨z0, hv0, rfl, r0⟩ := DataW.trod_int Tryz.underlying3 t0
      obtain ⟨z1, hv1, rfl, r1⟩ := DataW.trod_int Tryz.underlying3 t1
      obtain ⟨z2, hv2, rfl, r2⟩ := DataW.trod_int Tryz.underlying3 t2
      obtain ⟨s3, hv3, rfl, _⟩ := DataW.trod_string Tryz.underlying9 t3
      injection hv0 with hv0
      injection hv1 with hv1
      injection hv2 with hv2
      injection hv3 with hv3
      subst hv0 hv1 hv2 hv3
      refine ⟨⟨z0, z1, z2, s3⟩, ⟨by simpa using c0, c1, c2, c3⟩, ⟨wf_rng r0, wf_rng r1, wf_rng r2⟩, ?_⟩
      rw [hy.1]
      match ys, hyl.trans hsz, e0, e1, e2, e3 with
      | [u0, u1, u2, u3], _, e0, e1, e2, e3 =>
        simp at e0 e1 e2 e3
        subst e0 e1 e2 e3
        rfl
    obtain ⟨l, hll, hp⟩ := list_of len key
    refine ⟨l, ((List.range (m - len)).map fun j => D (len + j)), hll, Nat.le_trans hl hm, hl, fun h => (by cases h), ?_, ?_, fun _ => ?_⟩
    · intro hpos
      obtain ⟨e0, he0⟩ : ∃ e, l[0]? = some e := ⟨_, List.getElem?_eq_getElem hpos⟩
      obtain ⟨⟨q0, _⟩, _⟩ := hp 0 e0 he0
      have hsp := cell_lt q0
      simp only [Nat.zero_mul] at hsp
      have ha : a.add 0 = a := by simp [Addr.add]
      rw [ha] at hsp
      obtain ⟨b, off, spot⟩ := a
      obtain ⟨hb, hspot⟩ := hsp
      simp only at hb hspot
      subst hspot
      refine ⟨b, off, rfl, hb, fun i e he => ?_⟩
      obtain ⟨⟨c0, c1, c2, c3⟩, _⟩ := hp i e he
      have hadd : ∀ n, (⟨b, off, none⟩ : Addr).add n = ⟨b, off + n, none⟩ := fun n => Addr.add_lit _ _ _
      rw [hadd] at c0 c1 c2 c3
      exact ⟨c0, by rw [Nat.add_assoc]; exact c1, by rw [Nat.add_assoc]; exact c2, by rw [Nat.add_assoc]; exact c3⟩
    · intro e he
      obtain ⟨i, hi, he'⟩ := List.mem_iff_getElem.1 he
      exact (hp i e (by rw [List.getElem?_eq_getElem hi, he'])).2.1
    · rw [hx]
      show DataW.slice _ _ = _
      congr 1
      refine List.ext_getElem? fun i => ?_
      rw [List.getElem?_map, List.getElem?_map]
      by_cases hil : i < len
      · obtain ⟨e, he⟩ : ∃ e, l[i]? = some e := ⟨_, List.getElem?_eq_getElem (by omega)⟩
        rw [he, List.getElem?_range hil]
        simp [(hp i e he).2.2]
      · rw [List.getElem?_eq_none (by simp; omega), List.getElem?_eq_none (by omega)]
        rfl

end

end Go.Proofs.YtjnclchbklehgaaGreatDoor
