/- An argument that is a node: read as a tree; each text's size. -/
import Derived.Test.YtfmlcddakfbleaaGreatDoorMzNa
import Derived.Deep.Slices
import Derived.Deep.Fields
import Derived.ChangeSame
import Derived.SizedLaws
import Derived.Lib.SmallJoins
import Derived.Test.YtfmlcddakfbleaaGreatDoorMzNb
import Derived.Test.YtfmlcddakfbleaaGreatDoorExprDoor
import Derived.Test.YtfmlcddakfbleaaGreatDoorCards
import Derived.Test.YtfmlcddakfbleaaGreatDoorTie
import Derived.SevenTiedAt
import Derived.Carry
namespace Go.Proofs.YtfmlcddakfbleaaGreatDoor
open Go.ChangeShapes Go.WideShapes Go.Deep Go.RowKit TreeMath

theorem cell_lt {w : World} {a : Addr} {v : Value} (h : w.cell? a = some v) : a.block < w.heap.size ∧ a.spot = none := by
  unfold World.cell? at h
  rcases Nat.lt_or_ge a.block w.heap.size with hlt | hge
  · refine ⟨hlt, ?_⟩
    split at h
    · split at h
      · cases h
      · cases hs : a.spot with
        | none => rfl
        | some k => simp_all
    · cases h
  · rw [Array.getElem?_eq_none hge] at h; cases h

theorem list_ofG {α : Type} {P : Nat → α → Prop} : ∀ (n : Nat), (∀ i, i < n → ∃ e, P i e) → ∃ l : List α, l.length = n ∧ ∀ (i : Nat) (e : α), l[i]? = some e → P i e := by
  intro n
  induction n with
  | zero => intro _; exact ⟨[], rfl, fun i e h => by simp at h⟩
  | succ n ih =>
    intro h
    obtain ⟨l, hl, hp⟩ := ih fun i hi => h i (by omega)
    obtain ⟨e, he⟩ := h n (by omega)
    refine ⟨l ++ [e], by simp [hl], fun i d hd => ?_⟩
    by_cases hi : i < l.length
    · rw [List.getElem?_append_left hi] at hd; exact hp i d hd
    · rw [List.getElem?_append_right (by omega)] at hd
      have : i - l.length = 0 := by
        rcases Nat.eq_zero_or_pos (i - l.length) with h0 | h0
        · exact h0
        · rw [List.getElem?_eq_none (by simp; omega)] at hd; cases hd
      rw [this] at hd
      simp at hd
      subst hd
      have : i = n := by omega
      subst this
      exact he

section
variable {H : Type} {enc : TypeId × Value → H} {w : World} {spare : Nat → Bool} {held : Bool}

theorem weights_inT {P : Program} {t : TypeId} : ∀ {ds : List (DataW H)} {d : DataW H} {n : Nat}, d ∈ ds → n ∈ d.weights P t → n ∈ DataW.weightsAll P t ds := by
  intro ds
  induction ds with
  | nil => intro d n h; cases h
  | cons x ds ih =>
    intro d n h hn
    simp only [DataW.weightsAll, List.mem_append]
    rcases List.mem_cons.1 h with rfl | h
    · exact .inl hn
    · exact .inr (ih h hn)

theorem node_fields : ∃ fs, Tryz.prog.underlying 30 = some (.struct fs) ∧ fs.size = 5 ∧ oneCellFields Tryz.prog fs = true ∧ Tryz.prog.cellsOf 30 = 5 ∧
    fs[0]?.map (·.type) = some 28 ∧ fs[1]?.map (·.type) = some 9 ∧ fs[2]?.map (·.type) = some 9 ∧ fs[3]?.map (·.type) = some 3 ∧ fs[4]?.map (·.type) = some 23 :=
  ⟨_, Tryz.underlying30, by rfl, by kernel_rfl, by kernel_rfl, by rfl, by rfl, by rfl, by rfl, by rfl⟩

set_option maxRecDepth 100000 in
set_option maxHeartbeats 1000000 in
theorem open_node : ∀ (fuel : Nat) (cs : List Value) (x : DataW H × List MemPlace), DataW.trod enc Tryz.prog w 0 spare held fuel 30 cs = some x →
    ∃ T, cs = ncs T ∧ Tn (lo w.heap.size) w T ∧ ((∀ n ∈ x.1.weights Tryz.prog 30, n ≤ reachBytes) → Szd T) := by
  intro fuel
  induction fuel using Nat.strongRecOn with | _ fuel ih =>
  intro cs x h
  obtain ⟨fs, hu, hsz, hone, hC, f0, f1, f2, f3, f4⟩ := node_fields
  obtain ⟨ys, n, hn, hy, hlen, hyl, hf⟩ := DataW.trod_struct hu h
  rw [hC] at hlen
  have field : ∀ (j : Nat) (t : TypeId), fs[j]?.map (·.type) = some t → j < 5 → ∃ (v : Value) (y : DataW H × List MemPlace), cs[j]? = some v ∧ ys[j]? = some y ∧ DataW.trod enc Tryz.prog w 0 spare held n t [v] = some y := by
    intro j t hjt hj5
    obtain ⟨f, hj, rfl⟩ := Option.map_eq_some_iff.1 hjt
    obtain ⟨ho, hk⟩ := hone_of hone j f hj
    have h1 := hf j f hj
    rw [ho, hk] at h1
    have hone' : (cs.drop j).take 1 = [cs[j]'(by omega)] := by
      rw [List.drop_eq_getElem_cons (by omega)]
      rfl
    rw [hone'] at h1
    have hys : ys[j]? = some (ys[j]'(by omega)) := List.getElem?_eq_getElem (by omega)
    exact ⟨_, _, List.getElem?_eq_getElem (by omega), hys, h1.trans hys⟩
  obtain ⟨v0, y0, c0, e0, t0⟩ := field 0 _ f0 (by omega)
  obtain ⟨v1, y1, c1, e1, t1⟩ := field 1 _ f1 (by omega)
  obtain ⟨v2, y2, c2, e2, t2⟩ := field 2 _ f2 (by omega)
  obtain ⟨v3, y3, c3, e3, t3⟩ := field 3 _ f3 (by omega)
  obtain ⟨v4, y4, c4, e4, t4⟩ := field 4 _ f4 (by omega)
  obtain ⟨k, hv0, rfl, _⟩ := DataW.trod_int Tryz.underlying28 t0
  obtain ⟨g, hv1, rfl, _⟩ := DataW.trod_string Tryz.underlying9 t1
  obtain ⟨t, hv2, rfl, _⟩ := DataW.trod_string Tryz.underlying9 t2
  obtain ⟨a, hv3, rfl, ha⟩ := DataW.trod_int Tryz.underlying3 t3
  injection hv0 with hv0
  injection hv1 with hv1
  injection hv2 with hv2
  injection hv3 with hv3
  subst hv0 hv1 hv2 hv3
  have hra : rng a := by unfold rng; simpa [Lit.wf, IntKind.min, IntKind.max, IntKind.signed, IntKind.bits] using ha
  have hxd : x.1 = .agg [.lit (.int .i64 k), .lit (.string g.data.toList), .lit (.string t.data.toList), .lit (.int .i64 a), y4.1] := by
    rw [hy]
    match ys, hyl.trans hsz, e0, e1, e2, e3, e4 with
    | [u0, u1, u2, u3, u4], _, e0, e1, e2, e3, e4 =>
      simp at e0 e1 e2 e3 e4
      subst e0 e1 e2 e3 e4
      rfl
  have hcs : ∀ v4', v4 = v4' → cs = [.int .i64 k, .string g, .string t, .int .i64 a, v4'] := by
    rintro _ rfl
    match cs, hlen, c0, c1, c2, c3, c4 with
    | [u0, u1, u2, u3, u4], _, c0, c1, c2, c3, c4 =>
      simp at c0 c1 c2 c3 c4
      subst c0 c1 c2 c3 c4
      rfl
  have hrb := reachBytes_lt
  have hsizes : (∀ n ∈ x.1.weights Tryz.prog 30, n ≤ reachBytes) → (g.size : Int) ≤ 140737488355328 ∧ (t.size : Int) ≤ 140737488355328 ∧ ∀ n ∈ y4.1.weights Tryz.prog 23, n ≤ reachBytes := by
    intro hw
    rw [hxd] at hw
    have k0 : g.data.toList.length = g.size := rfl
    have k1 : t.data.toList.length = t.size := rfl
    have h0 := hw g.data.toList.length (by simp [DataW.weights, Tryz.underlying30, DataW.weightsEach])
    have h1 := hw t.data.toList.length (by simp [DataW.weights, Tryz.underlying30, DataW.weightsEach])
    rw [k0] at h0
    rw [k1] at h1
    refine ⟨by omega, by omega, fun n hn => hw n ?_⟩
    simp [DataW.weights, Tryz.underlying30, DataW.weightsEach]
    exact .inr (.inr hn)
  rcases DataW.trod_slice Tryz.underlying23 t4 with ⟨hcs4, hx4⟩ | ⟨ad, len, cap, elems, rest, n2, hn2, hcs4, hx4, _, hl, hm, hel, hi, _, _⟩
  · injection hcs4 with hcs4
    refine ⟨⟨k, g, t, a, none, 0, []⟩, hcs _ hcs4, tn_iff.2 ⟨hra, fun h => by simp at h, fun x hx => by cases hx⟩, fun hw y hy => ?_⟩
    obtain ⟨z0, z1, _⟩ := hsizes hw
    rw [ns_eq] at hy
    rcases List.mem_cons.1 hy with rfl | hy
    · exact ⟨z0, z1, by simp⟩
    · simp at hy
  · injection hcs4 with hcs4
    have key : ∀ i, i < len → ∃ e : Tr, (∀ (j : Nat) (u : Value), (ncs e)[j]? = some u → w.cell? (ad.add (i * 5 + j)) = some u) ∧ Tn (lo w.heap.size) w e ∧ ∃ p, elems[i]? = some p ∧ ((∀ n ∈ p.1.weights Tryz.prog 30, n ≤ reachBytes) → Szd e) := by
      intro i hil
      have h1 := hi i hil
      rw [hC, List.getElem?_eq_getElem (by omega)] at h1
      obtain ⟨cs', g1, g2⟩ := Option.bind_eq_some_iff.1 h1
      obtain ⟨e, rfl, g3, g4⟩ := ih n2 (by omega) cs' _ g2
      obtain ⟨_, hcl, hat⟩ := World.cells?_some g1
      refine ⟨e, fun j u hu => ?_, g3, _, List.getElem?_eq_getElem (by omega), g4⟩
      have hj : j < 5 := by have := (List.getElem?_eq_some_iff.1 hu).1; simpa [ncs] using this
      have := hat j hj
      rw [← Go.Deep.add_add, this, hu]
    obtain ⟨l, hll, hp⟩ := list_ofG len key
    refine ⟨⟨k, g, t, a, some ad, cap, l⟩, hcs _ (by rw [hcs4, hll]), tn_iff.2 ⟨hra, fun hpos => ?_, fun x hx => ?_⟩, fun hw y hy => ?_⟩
    · obtain ⟨e0', he0⟩ : ∃ e, l[0]? = some e := ⟨_, List.getElem?_eq_getElem hpos⟩
      have q0 := (hp 0 e0' he0).1 0 _ rfl
      have hsp := cell_lt q0
      simp only [Nat.zero_mul, Nat.zero_add] at hsp
      have ha0 : ad.add 0 = ad := by simp [Addr.add]
      rw [ha0] at hsp
      obtain ⟨b, off, spot⟩ := ad
      obtain ⟨hb, hspot⟩ := hsp
      simp only at hb hspot
      subst hspot
      refine ⟨b, off, rfl, hb, fun i e he => ?_⟩
      have hc := (hp i e he).1
      have hadd : ∀ n, (⟨b, off, none⟩ : Addr).add n = ⟨b, off + n, none⟩ := fun n => Addr.add_lit _ _ _
      refine ⟨?_, ?_, ?_, ?_, ?_⟩
      · have := hc 0 _ rfl; rw [hadd] at this; simpa using this
      · have := hc 1 _ rfl; rw [hadd, ← Nat.add_assoc] at this; exact this
      · have := hc 2 _ rfl; rw [hadd, ← Nat.add_assoc] at this; exact this
      · have := hc 3 _ rfl; rw [hadd, ← Nat.add_assoc] at this; exact this
      · have := hc 4 _ rfl; rw [hadd, ← Nat.add_assoc] at this; exact this
    · obtain ⟨i, hi'⟩ := List.getElem?_of_mem hx
      exact (hp i x hi').2.1
    · obtain ⟨z0, z1, z2⟩ := hsizes hw
      rw [ns_eq] at hy
      rcases List.mem_cons.1 hy with rfl | hy
      · refine ⟨z0, z1, ?_⟩
        show (l.length : Int) ≤ _
        unfold maxLen at hm
        omega
      · obtain ⟨e, he, hy⟩ := List.mem_flatMap.1 hy
        obtain ⟨i, hi'⟩ := List.getElem?_of_mem he
        obtain ⟨_, _, p, hp1, hp2⟩ := hp i e hi'
        refine hp2 (fun n hn => z2 n ?_) y hy
        rw [hx4]
        simp only [DataW.weights, Tryz.underlying23, List.mem_cons, List.mem_append]
        exact .inr (.inl (weights_inT (List.mem_map.2 ⟨p, List.mem_of_getElem? hp1, rfl⟩) hn))
end
end Go.Proofs.YtfmlcddakfbleaaGreatDoor

namespace Go.Proofs.YtfmlcddakfbleaaGreatDoor.declNames
open Go.ChangeShapes Go.WideShapes Go.ChangeAt Go.RowKit
open Go.ChangeMaps (open_string shut_string)

theorem laidOut : laidOutB Tryz.prog = true := by kernel_rfl

set_option maxHeartbeats 800000 in
set_option maxRecDepth 100000 in
theorem lifted (os : Os) (started : os.Started) (H : Type) (enc : TypeId × Value → H) :
    ReturnsInHanded {} Tryz.checked os 4 .any (fun w args => (Rows.declNamesSpec.pre enc Tryz.prog Tryz.f4 [] false w args ∧ laidMetH Tryz.prog list w) ∧ sizedMet enc Tryz.prog Tryz.f4 (OpenSpec.ofChange Rows.declNamesSpec) false w args)
      (Rows.declNamesSpec.post enc Tryz.prog Tryz.f4 false true false false) := by
  refine returns_laid_shaped (C := Tryz.checked) (X := fun w _ => laidMetH Tryz.prog list w) (fun _ _ _ hh h => h.of_heap hh) own started (by kernel_rfl) Tryz.func4
    (ChangeSpec.witness_shaped (enc := enc) (C := Tryz.checked) (os := os) (X := fun w _ => laidMetH Tryz.prog list w) false (World.doorLaid Tryz.prog 67 os) #[.agg #[.int .i64 0, .string ByteArray.empty, .string ByteArray.empty, .int .i64 0, .slice none 0 0], .string ByteArray.empty, .int .i64 0] 8 rfl (World.shaped_of_RefB (by kernel_rfl) (by kernel_rfl)) (by kernel_rfl) (by kernel_rfl) (by kernel_rfl) (door_met os _)) ?_
  intro W base args ds gs before hval0 hW _ hsz0 hL hSh
  have hsz : (DataW.weightsEach Tryz.prog (Tryz.f4.params.toList ++ Rows.declNamesSpec.plain.varTypes Tryz.prog) (ds ++ gs)).all (· ≤ reachBytes) = true := hsz0
  clear hsz0
  have hval : ∀ (j : Nat) t v, Tryz.f4.params[j]? = some t → args[j]? = some v → Value.okWide Tryz.prog W .any base t v := hval0
  have hW' := hW
  obtain ⟨p, q, hA0, hV, rfl, _, _⟩ := hW
  have hA : DataW.TrodAll enc Tryz.prog W 0 (fun _ => true) true Tryz.f4.params.toList args.toList ds p := hA0
  rw [Tryz.params4] at hA hval hsz
  obtain ⟨v0, vs0, d0, ds0, p0, q0, hargs, rfl, rfl, h0, r0⟩ := trodAll_cons hA
  obtain ⟨v1, vs1, d1, ds1, p1, q1, rfl, rfl, rfl, h1, r1⟩ := trodAll_cons r0
  obtain ⟨v2, vs2, d2, ds2, p2, q2, rfl, rfl, rfl, h2, r2⟩ := trodAll_cons r1
  obtain ⟨rfl, rfl, rfl⟩ := trodAll_nil r2
  obtain rfl : args = #[v0, v1, v2] := by cases args; simp_all
  obtain ⟨rfl, rfl⟩ := trodVars_none hV
  simp only [List.append_nil] at hW'
  have harg0 : ∀ W' : World, Below W.heap.size W W' → DataW.Trod enc Tryz.prog W' 0 (fun b => decide (b < W.heap.size)) true 30 v0 d0 p0 :=
    fun W' hn => Below.trod laidOut (by kernel_rfl) (of_decide_eq_true (by kernel_rfl)) h0 hn (fun y hy => by simpa using hW'.lt y (by simp [hy]))
  obtain ⟨cs0, rfl, hcs0⟩ := okWide_struct Tryz.underlying30 (hval 0 30 v0 rfl rfl)
  obtain ⟨fuel0, hf0⟩ := h0
  obtain ⟨T0, hT0, ht0, hz0⟩ := open_node fuel0 _ _ hf0
  have hz0 := hz0 (fun n hn => by simpa using List.all_eq_true.1 hsz n (DataW.weights_mem_each (j := 0) (t := 30) rfl rfl n hn))
  have hv0 : Value.agg cs0 = nv T0 := by
    rw [show cs0 = (ncs T0).toArray from by rw [← hT0]; rfl]
    rfl
  obtain ⟨a1, rfl, rfl, rfl, w1⟩ := open_string Tryz.underlying9 (hval 1 9 v1 rfl rfl) h1
  have s1 : a1.size ≤ 140737488355328 := by
    have h := sized_string hsz (j := 1) (t := 9) (bytes := a1.data.toList) rfl rfl
    have h2 := reachBytes_lt
    have h3 : a1.data.toList.length = a1.size := rfl
    omega
  obtain ⟨a2, rfl, rfl, rfl, w2⟩ := open_int Tryz.underlying3 (hval 2 3 v2 rfl rfl) h2
  clear hA0 hval0
  have hcall := declNames_walk T0 a1 a2 W ⟨of_laid hL, mx_of hSh⟩ hz0 ht0
  rw [← hv0] at hcall
  refine (hcall).mono fun e W' ⟨he, bel⟩ => ?_
  subst he
  exact ⟨_, rfl, _, _, _, [], _, [], hW', trodAll_mk1 (shut_bool Tryz.underlying4 _), (trodAll_cons_mk (harg0 _ bel) (trodAll_cons_mk (shut_string Tryz.underlying9 w1) (trodAll_cons_mk (shut_int Tryz.underlying3 w2) trodAll_mk0))), rfl, bel.frame _, fun h => by cases h⟩

theorem over : Rows.declNamesRow.holds Tryz.pinned (OpenSpec.ofChange Rows.declNamesSpec) :=
  OpenClaim.holds_of_wide 4 Tryz.f4 rfl rfl rfl rfl rfl rfl rfl ⟨rfl, rfl, rfl, rfl, rfl⟩ rfl rfl rfl rfl rfl (by kernel_rfl) Tryz.func4 (by kernel_rfl)
    (of_decide_eq_true (by kernel_rfl)) (by unfold Func.isWrapper; first | (rw [if_pos (by decide +kernel)]; kernel_rfl) | (rw [if_neg (by decide +kernel)]; exact ⟨rfl, rfl⟩))
    (fun os started H enc _ => lifted os started H enc)

theorem proved : Rows.DeclNamesCardSaid :=
  Claim7.holds_tied_plain_at .later [] [.data, .data, .data, .sentinel, .sentinel, .data] true (true, "34ae01b3a00dafeefa1183aa311c4bc4e7c6708efd6de99123f82215f520d0c6") true
    over (fun _ h => by cases h) (by kernel_rfl) (fun _ h => by cases h) declNames_row_tie rfl ⟨rfl, rfl⟩ (by kernel_rfl) rfl
    (fun f fn hf hfn => by
      obtain rfl : f = 4 := Option.some.inj ((show Tryz.prog.funcNamed Rows.declNamesRow.func = some 4 by kernel_rfl).symm.trans hf) |>.symm
      obtain rfl : fn = Tryz.f4 := (Option.some.inj (Tryz.func4.symm.trans hfn)).symm
      exact ⟨by kernel_rfl, fun j t ht => by
        rw [Tryz.params4] at ht
        have hm : t ∈ [30, 9, 3] := by simpa using Array.mem_of_getElem? ht
        have hall : ([30, 9, 3].all fun u => !Tryz.prog.wantsStandIn u) = true := by kernel_rfl
        exact (show Tryz.prog.wantsStandIn t = false by simpa using List.all_eq_true.1 hall t hm)⟩)
    (by kernel_rfl)

end Go.Proofs.YtfmlcddakfbleaaGreatDoor.declNames
