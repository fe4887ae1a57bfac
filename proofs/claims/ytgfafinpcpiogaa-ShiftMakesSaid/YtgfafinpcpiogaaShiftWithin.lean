/- The iterator over what stands between two places, for every loop body. -/
import Derived.Test.YtgfafinpcpiogaaShiftSearch
import Derived.OrdersIn
namespace Go.Proofs.Ytgfafinpcpiogaa
open Go.RowKit Go.Shelf EditMath ShiftMath

attribute [local go_sem] Oper.semAt_some

set_option maxRecDepth 100000 in
set_option maxHeartbeats 2000000 in
theorem within_iter (b1 b2 b3 : Nat) (A : Option Addr) (c : Nat) (L : List Pc) (f t : Int) (hG : Good L) (hL : L.length ≤ 20000) (hf0 : -5000000 ≤ f) (ht1 : t ≤ 10000000) (hft : f < t) :
    Iter Try.prog 111 #[.pointer (some ⟨b1, 0, none⟩), .pointer (some ⟨b2, 0, none⟩), .pointer (some ⟨b3, 0, none⟩)] (fun p : Pc => #[pcv p]) (wth f t L (sn L f)) (WtC b1 b2 b3 A c L f t) := by
  intro n m lp J Jx W hJ hJx hC hY h0
  have HY := Lib.hid hY
  have HC := Lib.hid hC
  have HJ := Lib.hid hJ
  have HJx := Lib.hid hJx
  have HG := Lib.hid hG
  have HSN := Lib.hid (found_sn hG.1 f)
  clear hY hC hJ hJx hG
  have hC0 := HC.out _ _ _ h0
  have HSe := Lib.hid (search_any b1 b2 b3 A c L f t HG.out hL W hC0)
  have q1 := hC0.1.cell (i := 0)
  simp only [List.getElem?_toArray, List.getElem?_cons_zero] at q1
  clear hC0
  have hmf : ∀ (fn : Fn) (first cap : Array Value) (w : World), (Instr.makeFunc fn first cap).run Try.prog w = .ok (.func fn first cap) w := fun _ _ _ _ => rfl
  refine callsIn_wide.2 ((callsIn_wide (n := 8)).1 ?_)
  refine callsIn_of_wp Try.func111 rfl trivial ?_ rfl
  simp only [Try.ntmps111, List.size_toArray, List.length_cons, List.length_nil, Nat.reduceAdd, Nat.reduceSub, Array.replicate_succ, Array.replicate_zero, List.push_toArray, List.append_toArray, List.nil_append, List.cons_append]
  gi_wp2_with (refine ⟨trivial, ?_⟩; gi_at_call 112; refine (callsIn_wide.2 HSe.out).mono ?_; rintro r w1 ⟨rfl, hb1⟩)
  have hJ1 := (HJ.out _).off h0 (Off.of_below hb1)
  clear q1 hb1 HSe h0
  have hsl := HSN.out.1
  generalize hsn : sn L f = n0 at *
  have HSNE := Lib.hid hsn
  clear hsn
  have hTl : ((L.drop n0).takeWhile (fun p => decide (p.a < t))).length ≤ L.length := Nat.le_trans (List.takeWhile_sublist _).length_le (by rw [List.length_drop]; omega)
  gi_loopw [5] (fun i wr => ∃ k : Nat, i = .int .i64 ((n0 + k : Nat) : Int) ∧ k ≤ ((L.drop n0).takeWhile (fun p => decide (p.a < t))).length ∧ J ((wth f t L n0).take k) no wr) (fun i wr => L.length - (intOf i).toNat)
  case atStart => exact ⟨0, rfl, Nat.zero_le _, by simpa using hJ1⟩
  case round =>
    obtain ⟨k, rfl, hk, hJs⟩ := hrel
    obtain ⟨ht1', ht2'⟩ := tw_at hk
    obtain ⟨g1, g2, g3, B', hE', hB'⟩ := HC.out _ _ _ hJs
    have q1 := g1.cell (i := 0)
    have q2 := g2.cell (i := 0)
    have q3 := g3.cell (i := 0)
    simp only [List.getElem?_toArray, List.getElem?_cons_zero] at q1 q2 q3
    have l1 := g1.lt
    have l2 := g2.lt
    have l3 := g3.lt
    by_cases hkt : k < ((L.drop n0).takeWhile (fun p => decide (p.a < t))).length
    · obtain ⟨p, hp, hpt, hpk⟩ := ht1' hkt
      have hlt : n0 + k < L.length := (List.getElem?_eq_some_iff.1 hp).1
      obtain ⟨b, off, rfl, hb, hc⟩ := hE' (by rw [pcells_length]; omega)
      obtain ⟨s1, s2, s3, s4⟩ := pcells_at L (n0 + k) p hp
      have c1 := hc _ _ s1
      have c2 := hc _ _ s2
      have c3 := hc _ _ s3
      have c4 := hc _ _ s4
      rw [← Nat.add_assoc] at c2 c3 c4
      have HW1 : Hid ((wth f t L n0)[k]? = some (cutP f t p)) := Lib.hid (by unfold wth; rw [List.getElem?_map, hpk]; rfl)
      obtain ⟨w1', w2', w3'⟩ := HG.out.2 p (List.mem_of_getElem? hp)
      have hend := HSN.out.2.2 _ p hp (by omega)
      have HCu : Hid (∀ W, Calls Try.prog 115 #[pcv p, .int .i64 f, .int .i64 t] W fun r w' => r = .returned (pcv (cutP f t p)) ∧ Below W.heap.size W w') := Lib.hid fun W => cut_any p f t W w1' w2' hf0 ht1 hft hpt hend w3'
      have HPR := Lib.hid (pref_mk HW1.out)
      have HPK := Lib.hid hp
      clear ht1' ht2' hp hpk hc s1 s2 s3 s4 w1' w2' w3' hend hE'
      generalize hi : n0 + k = i at *
      have hz1 : decide ((i : Int) < L.length) = true := decide_eq_true (by omega)
      have hz2 : decide (p.a < t) = true := decide_eq_true hpt
      have hz3 : (0 : Int) ≤ i := by omega
      have hz4 : (i : Int) < L.length := by omega
      have HI := Lib.hid hi
      clear hi
      gi_wp2
      gi_quiet (fail)
      have hoff : Off no wr (wr.drewN nq) := ⟨rfl, rfl, rfl, Nat.le_refl _, fun _ _ _ => rfl⟩
      have hJv := (HJ.out _).off hJs hoff
      have q1v : (wr.drewN nq).drew.cell? ⟨b1, 0, none⟩ = some (.slice (some ⟨b, off, none⟩) L.length c) := q1
      have q2v : (wr.drewN nq).drew.cell? ⟨b2, 0, none⟩ = some (.int .i64 f) := q2
      have q3v : (wr.drewN nq).drew.cell? ⟨b3, 0, none⟩ = some (.int .i64 t) := q3
      have c1v : (wr.drewN nq).drew.cell? ⟨b, off + i * 4, none⟩ = some (.int .i64 p.a) := c1
      have c2v : (wr.drewN nq).drew.cell? ⟨b, off + i * 4 + 1, none⟩ = some (.int .i64 p.f) := c2
      have c3v : (wr.drewN nq).drew.cell? ⟨b, off + i * 4 + 2, none⟩ = some (.int .i64 p.t) := c3
      have c4v : (wr.drewN nq).drew.cell? ⟨b, off + i * 4 + 3, none⟩ = some (.string p.s) := c4
      clear q1 q2 q3 c1 c2 c3 c4 hJs hoff g1 g2 g3 hB' hb l1 l2 l3
      generalize wr.drewN nq = V at *
      gi_wp2
      --BEGIN
      refine wpIn_region_any (by kernel_rfl) ?_
      change wpAnyIn _ _ _ _ _ _ _ _ _ (World.drew V)
      refine wpAnyIn_take (i := 0) (v := .func (.yield lp) #[] #[]) rfl rfl (by kernel_rfl) (by kernel_rfl) (by kernel_rfl) (fun _ _ _ h => h) ⟨Or.inl ⟨by rfl, fun w => by go_simp⟩, fun _ => rfl⟩ ?_
      refine wpAnyIn_take (i := 2) (v := .int .i64 i) rfl rfl (by kernel_rfl) (by kernel_rfl) (by kernel_rfl) (fun _ _ _ h => h) ⟨Or.inl ⟨by rfl, fun w => by go_simp⟩, fun _ => rfl⟩ ?_
      simp only [Act.put, List.setIfInBounds_toArray]
      refine wpAnyIn_ready (rs := [1, 5, 6]) (by kernel_rfl) (by simp) ?_
      refine AllReadyIn.cons rfl (fun K hK => ?_) ?_
      · go_simp
        refine hK _ _ ?_
        clear hK K
        refine wpAnyIn_take (i := 3) (v := .pointer (some ⟨b, off + i * 4, none⟩)) rfl rfl (by kernel_rfl) (by kernel_rfl) (by kernel_rfl) (fun _ _ _ h => h) ⟨Or.inl ⟨by rfl, fun w => by go_simp⟩, fun _ => rfl⟩ ?_
        simp only [Act.put, List.setIfInBounds_toArray]
        refine wpAnyIn_ready (rs := [4, 5, 6]) (by kernel_rfl) (by simp) ?_
        refine AllReadyIn.cons rfl (fun K hK => ?_) ?_
        · go_simp
          refine hK _ _ ?_
          clear hK K
          refine wpAnyIn_ready (rs := [5, 6]) (by kernel_rfl) (by simp) ?_
          refine AllReadyIn.cons rfl (fun K hK => ?_) ?_
          · go_simp
            refine hK _ _ ?_
            clear hK K
            refine wpAnyIn_ready (rs := [6]) (by kernel_rfl) (by simp) ?_
            refine AllReadyIn.cons rfl (fun K hK => ?_) ?_
            · go_simp
              refine hK _ _ ?_
              clear hK K
              refine wpAnyIn_ready (rs := [7]) (by kernel_rfl) (by simp) ?_
              refine AllReadyIn.cons rfl (fun K hK => ?_) AllReadyIn.nil
              go_simp
              refine ⟨trivial, ?_⟩
              refine (callsIn_wide.2 (HCu.out _)).mono ?_
              rintro r V2 ⟨rfl, hb2⟩
              refine hK _ _ ?_
              clear hK K
              have hJ2 := (HJ.out _).off hJv ((Off.drew _ V).trans (Off.of_below hb2))
              obtain ⟨fn, tmps, assign, body, hy, hR⟩ := HY.out _ (cutP f t p) no _ (fun _ h => h.elim) hJ2 HPR.out
              dsimp only [pcv] at hy
              refine wpAnyIn_ready (rs := [8]) (by kernel_rfl) (by simp) ?_
              refine AllReadyIn.cons rfl (fun K hK => ?_) AllReadyIn.nil
              go_simp
              refine round_out (hR.mono ?_)
              rintro r W3 ⟨hs3, hk3, (⟨rfl, hJ3⟩ | ⟨rfl, hJx3⟩)⟩
              · refine hK _ _ ?_
                clear hK K
                refine wpAnyIn_ready (rs := [9]) (by kernel_rfl) (by simp) ?_
                refine AllReadyIn.cons rfl (fun K hK => ?_) AllReadyIn.nil
                go_simp
                refine hK _ _ ?_
                clear hK K
                refine wpAnyIn_done (by kernel_rfl) ?_ _
                gi_wp2
                go_roundw
                case rel => exact ⟨k + 1, by rw [show ((n0 + (k + 1) : Nat) : Int) = (i : Int) + 1 by have := HI.out; omega], hkt, by rw [List.take_add_one, HW1.out]; exact hJ3⟩
                case measure => simp [intOf]; omega
              · refine hK _ _ ?_
                clear hK K
                refine wpAnyIn_ready (rs := [9]) (by kernel_rfl) (by simp) ?_
                refine AllReadyIn.cons rfl (fun K hK => ?_) AllReadyIn.nil
                go_simp
                refine hK _ _ ?_
                clear hK K
                refine wpAnyIn_done (by kernel_rfl) ?_ _
                gi_wp2
                refine bodyPost_ret (results_none rfl _ _ _) rfl ?_
                exact ⟨⟨_, rfl⟩, .inr ⟨_, by rw [HSNE.out]; exact HPR.out, hJx3⟩⟩
            exact AllReadyIn.nil
          refine AllReadyIn.cons rfl (fun K hK => ?_) ?_
          · go_simp
            refine hK _ _ ?_
            clear hK K
            refine wpAnyIn_ready (rs := [5]) (by kernel_rfl) (by simp) ?_
            refine AllReadyIn.cons rfl (fun K hK => ?_) ?_
            · go_simp
              refine hK _ _ ?_
              clear hK K
              refine wpAnyIn_ready (rs := [7]) (by kernel_rfl) (by simp) ?_
              refine AllReadyIn.cons rfl (fun K hK => ?_) AllReadyIn.nil
              go_simp
              refine ⟨trivial, ?_⟩
              refine (callsIn_wide.2 (HCu.out _)).mono ?_
              rintro r V2 ⟨rfl, hb2⟩
              refine hK _ _ ?_
              clear hK K
              have hJ2 := (HJ.out _).off hJv ((Off.drew _ V).trans (Off.of_below hb2))
              obtain ⟨fn, tmps, assign, body, hy, hR⟩ := HY.out _ (cutP f t p) no _ (fun _ h => h.elim) hJ2 HPR.out
              dsimp only [pcv] at hy
              refine wpAnyIn_ready (rs := [8]) (by kernel_rfl) (by simp) ?_
              refine AllReadyIn.cons rfl (fun K hK => ?_) AllReadyIn.nil
              go_simp
              refine round_out (hR.mono ?_)
              rintro r W3 ⟨hs3, hk3, (⟨rfl, hJ3⟩ | ⟨rfl, hJx3⟩)⟩
              · refine hK _ _ ?_
                clear hK K
                refine wpAnyIn_ready (rs := [9]) (by kernel_rfl) (by simp) ?_
                refine AllReadyIn.cons rfl (fun K hK => ?_) AllReadyIn.nil
                go_simp
                refine hK _ _ ?_
                clear hK K
                refine wpAnyIn_done (by kernel_rfl) ?_ _
                gi_wp2
                go_roundw
                case rel => exact ⟨k + 1, by rw [show ((n0 + (k + 1) : Nat) : Int) = (i : Int) + 1 by have := HI.out; omega], hkt, by rw [List.take_add_one, HW1.out]; exact hJ3⟩
                case measure => simp [intOf]; omega
              · refine hK _ _ ?_
                clear hK K
                refine wpAnyIn_ready (rs := [9]) (by kernel_rfl) (by simp) ?_
                refine AllReadyIn.cons rfl (fun K hK => ?_) AllReadyIn.nil
                go_simp
                refine hK _ _ ?_
                clear hK K
                refine wpAnyIn_done (by kernel_rfl) ?_ _
                gi_wp2
                refine bodyPost_ret (results_none rfl _ _ _) rfl ?_
                exact ⟨⟨_, rfl⟩, .inr ⟨_, by rw [HSNE.out]; exact HPR.out, hJx3⟩⟩
            exact AllReadyIn.nil
          exact AllReadyIn.nil
        refine AllReadyIn.cons rfl (fun K hK => ?_) ?_
        · go_simp
          refine hK _ _ ?_
          clear hK K
          refine wpAnyIn_ready (rs := [4, 6]) (by kernel_rfl) (by simp) ?_
          refine AllReadyIn.cons rfl (fun K hK => ?_) ?_
          · go_simp
            refine hK _ _ ?_
            clear hK K
            refine wpAnyIn_ready (rs := [6]) (by kernel_rfl) (by simp) ?_
            refine AllReadyIn.cons rfl (fun K hK => ?_) ?_
            · go_simp
              refine hK _ _ ?_
              clear hK K
              refine wpAnyIn_ready (rs := [7]) (by kernel_rfl) (by simp) ?_
              refine AllReadyIn.cons rfl (fun K hK => ?_) AllReadyIn.nil
              go_simp
              refine ⟨trivial, ?_⟩
              refine (callsIn_wide.2 (HCu.out _)).mono ?_
              rintro r V2 ⟨rfl, hb2⟩
              refine hK _ _ ?_
              clear hK K
              have hJ2 := (HJ.out _).off hJv ((Off.drew _ V).trans (Off.of_below hb2))
              obtain ⟨fn, tmps, assign, body, hy, hR⟩ := HY.out _ (cutP f t p) no _ (fun _ h => h.elim) hJ2 HPR.out
              dsimp only [pcv] at hy
              refine wpAnyIn_ready (rs := [8]) (by kernel_rfl) (by simp) ?_
              refine AllReadyIn.cons rfl (fun K hK => ?_) AllReadyIn.nil
              go_simp
              refine round_out (hR.mono ?_)
              rintro r W3 ⟨hs3, hk3, (⟨rfl, hJ3⟩ | ⟨rfl, hJx3⟩)⟩
              · refine hK _ _ ?_
                clear hK K
                refine wpAnyIn_ready (rs := [9]) (by kernel_rfl) (by simp) ?_
                refine AllReadyIn.cons rfl (fun K hK => ?_) AllReadyIn.nil
                go_simp
                refine hK _ _ ?_
                clear hK K
                refine wpAnyIn_done (by kernel_rfl) ?_ _
                gi_wp2
                go_roundw
                case rel => exact ⟨k + 1, by rw [show ((n0 + (k + 1) : Nat) : Int) = (i : Int) + 1 by have := HI.out; omega], hkt, by rw [List.take_add_one, HW1.out]; exact hJ3⟩
                case measure => simp [intOf]; omega
              · refine hK _ _ ?_
                clear hK K
                refine wpAnyIn_ready (rs := [9]) (by kernel_rfl) (by simp) ?_
                refine AllReadyIn.cons rfl (fun K hK => ?_) AllReadyIn.nil
                go_simp
                refine hK _ _ ?_
                clear hK K
                refine wpAnyIn_done (by kernel_rfl) ?_ _
                gi_wp2
                refine bodyPost_ret (results_none rfl _ _ _) rfl ?_
                exact ⟨⟨_, rfl⟩, .inr ⟨_, by rw [HSNE.out]; exact HPR.out, hJx3⟩⟩
            exact AllReadyIn.nil
          refine AllReadyIn.cons rfl (fun K hK => ?_) ?_
          · go_simp
            refine hK _ _ ?_
            clear hK K
            refine wpAnyIn_ready (rs := [4]) (by kernel_rfl) (by simp) ?_
            refine AllReadyIn.cons rfl (fun K hK => ?_) ?_
            · go_simp
              refine hK _ _ ?_
              clear hK K
              refine wpAnyIn_ready (rs := [7]) (by kernel_rfl) (by simp) ?_
              refine AllReadyIn.cons rfl (fun K hK => ?_) AllReadyIn.nil
              go_simp
              refine ⟨trivial, ?_⟩
              refine (callsIn_wide.2 (HCu.out _)).mono ?_
              rintro r V2 ⟨rfl, hb2⟩
              refine hK _ _ ?_
              clear hK K
              have hJ2 := (HJ.out _).off hJv ((Off.drew _ V).trans (Off.of_below hb2))
              obtain ⟨fn, tmps, assign, body, hy, hR⟩ := HY.out _ (cutP f t p) no _ (fun _ h => h.elim) hJ2 HPR.out
              dsimp only [pcv] at hy
              refine wpAnyIn_ready (rs := [8]) (by kernel_rfl) (by simp) ?_
              refine AllReadyIn.cons rfl (fun K hK => ?_) AllReadyIn.nil
              go_simp
              refine round_out (hR.mono ?_)
              rintro r W3 ⟨hs3, hk3, (⟨rfl, hJ3⟩ | ⟨rfl, hJx3⟩)⟩
              · refine hK _ _ ?_
                clear hK K
                refine wpAnyIn_ready (rs := [9]) (by kernel_rfl) (by simp) ?_
                refine AllReadyIn.cons rfl (fun K hK => ?_) AllReadyIn.nil
                go_simp
                refine hK _ _ ?_
                clear hK K
                refine wpAnyIn_done (by kernel_rfl) ?_ _
                gi_wp2
                go_roundw
                case rel => exact ⟨k + 1, by rw [show ((n0 + (k + 1) : Nat) : Int) = (i : Int) + 1 by have := HI.out; omega], hkt, by rw [List.take_add_one, HW1.out]; exact hJ3⟩
                case measure => simp [intOf]; omega
              · refine hK _ _ ?_
                clear hK K
                refine wpAnyIn_ready (rs := [9]) (by kernel_rfl) (by simp) ?_
                refine AllReadyIn.cons rfl (fun K hK => ?_) AllReadyIn.nil
                go_simp
                refine hK _ _ ?_
                clear hK K
                refine wpAnyIn_done (by kernel_rfl) ?_ _
                gi_wp2
                refine bodyPost_ret (results_none rfl _ _ _) rfl ?_
                exact ⟨⟨_, rfl⟩, .inr ⟨_, by rw [HSNE.out]; exact HPR.out, hJx3⟩⟩
            exact AllReadyIn.nil
          exact AllReadyIn.nil
        refine AllReadyIn.cons rfl (fun K hK => ?_) ?_
        · go_simp
          refine hK _ _ ?_
          clear hK K
          refine wpAnyIn_ready (rs := [4, 5]) (by kernel_rfl) (by simp) ?_
          refine AllReadyIn.cons rfl (fun K hK => ?_) ?_
          · go_simp
            refine hK _ _ ?_
            clear hK K
            refine wpAnyIn_ready (rs := [5]) (by kernel_rfl) (by simp) ?_
            refine AllReadyIn.cons rfl (fun K hK => ?_) ?_
            · go_simp
              refine hK _ _ ?_
              clear hK K
              refine wpAnyIn_ready (rs := [7]) (by kernel_rfl) (by simp) ?_
              refine AllReadyIn.cons rfl (fun K hK => ?_) AllReadyIn.nil
              go_simp
              refine ⟨trivial, ?_⟩
              refine (callsIn_wide.2 (HCu.out _)).mono ?_
              rintro r V2 ⟨rfl, hb2⟩
              refine hK _ _ ?_
              clear hK K
              have hJ2 := (HJ.out _).off hJv ((Off.drew _ V).trans (Off.of_below hb2))
              obtain ⟨fn, tmps, assign, body, hy, hR⟩ := HY.out _ (cutP f t p) no _ (fun _ h => h.elim) hJ2 HPR.out
              dsimp only [pcv] at hy
              refine wpAnyIn_ready (rs := [8]) (by kernel_rfl) (by simp) ?_
              refine AllReadyIn.cons rfl (fun K hK => ?_) AllReadyIn.nil
              go_simp
              refine round_out (hR.mono ?_)
              rintro r W3 ⟨hs3, hk3, (⟨rfl, hJ3⟩ | ⟨rfl, hJx3⟩)⟩
              · refine hK _ _ ?_
                clear hK K
                refine wpAnyIn_ready (rs := [9]) (by kernel_rfl) (by simp) ?_
                refine AllReadyIn.cons rfl (fun K hK => ?_) AllReadyIn.nil
                go_simp
                refine hK _ _ ?_
                clear hK K
                refine wpAnyIn_done (by kernel_rfl) ?_ _
                gi_wp2
                go_roundw
                case rel => exact ⟨k + 1, by rw [show ((n0 + (k + 1) : Nat) : Int) = (i : Int) + 1 by have := HI.out; omega], hkt, by rw [List.take_add_one, HW1.out]; exact hJ3⟩
                case measure => simp [intOf]; omega
              · refine hK _ _ ?_
                clear hK K
                refine wpAnyIn_ready (rs := [9]) (by kernel_rfl) (by simp) ?_
                refine AllReadyIn.cons rfl (fun K hK => ?_) AllReadyIn.nil
                go_simp
                refine hK _ _ ?_
                clear hK K
                refine wpAnyIn_done (by kernel_rfl) ?_ _
                gi_wp2
                refine bodyPost_ret (results_none rfl _ _ _) rfl ?_
                exact ⟨⟨_, rfl⟩, .inr ⟨_, by rw [HSNE.out]; exact HPR.out, hJx3⟩⟩
            exact AllReadyIn.nil
          refine AllReadyIn.cons rfl (fun K hK => ?_) ?_
          · go_simp
            refine hK _ _ ?_
            clear hK K
            refine wpAnyIn_ready (rs := [4]) (by kernel_rfl) (by simp) ?_
            refine AllReadyIn.cons rfl (fun K hK => ?_) ?_
            · go_simp
              refine hK _ _ ?_
              clear hK K
              refine wpAnyIn_ready (rs := [7]) (by kernel_rfl) (by simp) ?_
              refine AllReadyIn.cons rfl (fun K hK => ?_) AllReadyIn.nil
              go_simp
              refine ⟨trivial, ?_⟩
              refine (callsIn_wide.2 (HCu.out _)).mono ?_
              rintro r V2 ⟨rfl, hb2⟩
              refine hK _ _ ?_
              clear hK K
              have hJ2 := (HJ.out _).off hJv ((Off.drew _ V).trans (Off.of_below hb2))
              obtain ⟨fn, tmps, assign, body, hy, hR⟩ := HY.out _ (cutP f t p) no _ (fun _ h => h.elim) hJ2 HPR.out
              dsimp only [pcv] at hy
              refine wpAnyIn_ready (rs := [8]) (by kernel_rfl) (by simp) ?_
              refine AllReadyIn.cons rfl (fun K hK => ?_) AllReadyIn.nil
              go_simp
              refine round_out (hR.mono ?_)
              rintro r W3 ⟨hs3, hk3, (⟨rfl, hJ3⟩ | ⟨rfl, hJx3⟩)⟩
              · refine hK _ _ ?_
                clear hK K
                refine wpAnyIn_ready (rs := [9]) (by kernel_rfl) (by simp) ?_
                refine AllReadyIn.cons rfl (fun K hK => ?_) AllReadyIn.nil
                go_simp
                refine hK _ _ ?_
                clear hK K
                refine wpAnyIn_done (by kernel_rfl) ?_ _
                gi_wp2
                go_roundw
                case rel => exact ⟨k + 1, by rw [show ((n0 + (k + 1) : Nat) : Int) = (i : Int) + 1 by have := HI.out; omega], hkt, by rw [List.take_add_one, HW1.out]; exact hJ3⟩
                case measure => simp [intOf]; omega
              · refine hK _ _ ?_
                clear hK K
                refine wpAnyIn_ready (rs := [9]) (by kernel_rfl) (by simp) ?_
                refine AllReadyIn.cons rfl (fun K hK => ?_) AllReadyIn.nil
                go_simp
                refine hK _ _ ?_
                clear hK K
                refine wpAnyIn_done (by kernel_rfl) ?_ _
                gi_wp2
                refine bodyPost_ret (results_none rfl _ _ _) rfl ?_
                exact ⟨⟨_, rfl⟩, .inr ⟨_, by rw [HSNE.out]; exact HPR.out, hJx3⟩⟩
            exact AllReadyIn.nil
          exact AllReadyIn.nil
        exact AllReadyIn.nil
      refine AllReadyIn.cons rfl (fun K hK => ?_) ?_
      · go_simp
        refine hK _ _ ?_
        clear hK K
        refine wpAnyIn_ready (rs := [1, 6]) (by kernel_rfl) (by simp) ?_
        refine AllReadyIn.cons rfl (fun K hK => ?_) ?_
        · go_simp
          refine hK _ _ ?_
          clear hK K
          refine wpAnyIn_take (i := 3) (v := .pointer (some ⟨b, off + i * 4, none⟩)) rfl rfl (by kernel_rfl) (by kernel_rfl) (by kernel_rfl) (fun _ _ _ h => h) ⟨Or.inl ⟨by rfl, fun w => by go_simp⟩, fun _ => rfl⟩ ?_
          simp only [Act.put, List.setIfInBounds_toArray]
          refine wpAnyIn_ready (rs := [4, 6]) (by kernel_rfl) (by simp) ?_
          refine AllReadyIn.cons rfl (fun K hK => ?_) ?_
          · go_simp
            refine hK _ _ ?_
            clear hK K
            refine wpAnyIn_ready (rs := [6]) (by kernel_rfl) (by simp) ?_
            refine AllReadyIn.cons rfl (fun K hK => ?_) ?_
            · go_simp
              refine hK _ _ ?_
              clear hK K
              refine wpAnyIn_ready (rs := [7]) (by kernel_rfl) (by simp) ?_
              refine AllReadyIn.cons rfl (fun K hK => ?_) AllReadyIn.nil
              go_simp
              refine ⟨trivial, ?_⟩
              refine (callsIn_wide.2 (HCu.out _)).mono ?_
              rintro r V2 ⟨rfl, hb2⟩
              refine hK _ _ ?_
              clear hK K
              have hJ2 := (HJ.out _).off hJv ((Off.drew _ V).trans (Off.of_below hb2))
              obtain ⟨fn, tmps, assign, body, hy, hR⟩ := HY.out _ (cutP f t p) no _ (fun _ h => h.elim) hJ2 HPR.out
              dsimp only [pcv] at hy
              refine wpAnyIn_ready (rs := [8]) (by kernel_rfl) (by simp) ?_
              refine AllReadyIn.cons rfl (fun K hK => ?_) AllReadyIn.nil
              go_simp
              refine round_out (hR.mono ?_)
              rintro r W3 ⟨hs3, hk3, (⟨rfl, hJ3⟩ | ⟨rfl, hJx3⟩)⟩
              · refine hK _ _ ?_
                clear hK K
                refine wpAnyIn_ready (rs := [9]) (by kernel_rfl) (by simp) ?_
                refine AllReadyIn.cons rfl (fun K hK => ?_) AllReadyIn.nil
                go_simp
                refine hK _ _ ?_
                clear hK K
                refine wpAnyIn_done (by kernel_rfl) ?_ _
                gi_wp2
                go_roundw
                case rel => exact ⟨k + 1, by rw [show ((n0 + (k + 1) : Nat) : Int) = (i : Int) + 1 by have := HI.out; omega], hkt, by rw [List.take_add_one, HW1.out]; exact hJ3⟩
                case measure => simp [intOf]; omega
              · refine hK _ _ ?_
                clear hK K
                refine wpAnyIn_ready (rs := [9]) (by kernel_rfl) (by simp) ?_
                refine AllReadyIn.cons rfl (fun K hK => ?_) AllReadyIn.nil
                go_simp
                refine hK _ _ ?_
                clear hK K
                refine wpAnyIn_done (by kernel_rfl) ?_ _
                gi_wp2
                refine bodyPost_ret (results_none rfl _ _ _) rfl ?_
                exact ⟨⟨_, rfl⟩, .inr ⟨_, by rw [HSNE.out]; exact HPR.out, hJx3⟩⟩
            exact AllReadyIn.nil
          refine AllReadyIn.cons rfl (fun K hK => ?_) ?_
          · go_simp
            refine hK _ _ ?_
            clear hK K
            refine wpAnyIn_ready (rs := [4]) (by kernel_rfl) (by simp) ?_
            refine AllReadyIn.cons rfl (fun K hK => ?_) ?_
            · go_simp
              refine hK _ _ ?_
              clear hK K
              refine wpAnyIn_ready (rs := [7]) (by kernel_rfl) (by simp) ?_
              refine AllReadyIn.cons rfl (fun K hK => ?_) AllReadyIn.nil
              go_simp
              refine ⟨trivial, ?_⟩
              refine (callsIn_wide.2 (HCu.out _)).mono ?_
              rintro r V2 ⟨rfl, hb2⟩
              refine hK _ _ ?_
              clear hK K
              have hJ2 := (HJ.out _).off hJv ((Off.drew _ V).trans (Off.of_below hb2))
              obtain ⟨fn, tmps, assign, body, hy, hR⟩ := HY.out _ (cutP f t p) no _ (fun _ h => h.elim) hJ2 HPR.out
              dsimp only [pcv] at hy
              refine wpAnyIn_ready (rs := [8]) (by kernel_rfl) (by simp) ?_
              refine AllReadyIn.cons rfl (fun K hK => ?_) AllReadyIn.nil
              go_simp
              refine round_out (hR.mono ?_)
              rintro r W3 ⟨hs3, hk3, (⟨rfl, hJ3⟩ | ⟨rfl, hJx3⟩)⟩
              · refine hK _ _ ?_
                clear hK K
                refine wpAnyIn_ready (rs := [9]) (by kernel_rfl) (by simp) ?_
                refine AllReadyIn.cons rfl (fun K hK => ?_) AllReadyIn.nil
                go_simp
                refine hK _ _ ?_
                clear hK K
                refine wpAnyIn_done (by kernel_rfl) ?_ _
                gi_wp2
                go_roundw
                case rel => exact ⟨k + 1, by rw [show ((n0 + (k + 1) : Nat) : Int) = (i : Int) + 1 by have := HI.out; omega], hkt, by rw [List.take_add_one, HW1.out]; exact hJ3⟩
                case measure => simp [intOf]; omega
              · refine hK _ _ ?_
                clear hK K
                refine wpAnyIn_ready (rs := [9]) (by kernel_rfl) (by simp) ?_
                refine AllReadyIn.cons rfl (fun K hK => ?_) AllReadyIn.nil
                go_simp
                refine hK _ _ ?_
                clear hK K
                refine wpAnyIn_done (by kernel_rfl) ?_ _
                gi_wp2
                refine bodyPost_ret (results_none rfl _ _ _) rfl ?_
                exact ⟨⟨_, rfl⟩, .inr ⟨_, by rw [HSNE.out]; exact HPR.out, hJx3⟩⟩
            exact AllReadyIn.nil
          exact AllReadyIn.nil
        refine AllReadyIn.cons rfl (fun K hK => ?_) ?_
        · go_simp
          refine hK _ _ ?_
          clear hK K
          refine wpAnyIn_ready (rs := [1]) (by kernel_rfl) (by simp) ?_
          refine AllReadyIn.cons rfl (fun K hK => ?_) ?_
          · go_simp
            refine hK _ _ ?_
            clear hK K
            refine wpAnyIn_take (i := 3) (v := .pointer (some ⟨b, off + i * 4, none⟩)) rfl rfl (by kernel_rfl) (by kernel_rfl) (by kernel_rfl) (fun _ _ _ h => h) ⟨Or.inl ⟨by rfl, fun w => by go_simp⟩, fun _ => rfl⟩ ?_
            simp only [Act.put, List.setIfInBounds_toArray]
            refine wpAnyIn_ready (rs := [4]) (by kernel_rfl) (by simp) ?_
            refine AllReadyIn.cons rfl (fun K hK => ?_) ?_
            · go_simp
              refine hK _ _ ?_
              clear hK K
              refine wpAnyIn_ready (rs := [7]) (by kernel_rfl) (by simp) ?_
              refine AllReadyIn.cons rfl (fun K hK => ?_) AllReadyIn.nil
              go_simp
              refine ⟨trivial, ?_⟩
              refine (callsIn_wide.2 (HCu.out _)).mono ?_
              rintro r V2 ⟨rfl, hb2⟩
              refine hK _ _ ?_
              clear hK K
              have hJ2 := (HJ.out _).off hJv ((Off.drew _ V).trans (Off.of_below hb2))
              obtain ⟨fn, tmps, assign, body, hy, hR⟩ := HY.out _ (cutP f t p) no _ (fun _ h => h.elim) hJ2 HPR.out
              dsimp only [pcv] at hy
              refine wpAnyIn_ready (rs := [8]) (by kernel_rfl) (by simp) ?_
              refine AllReadyIn.cons rfl (fun K hK => ?_) AllReadyIn.nil
              go_simp
              refine round_out (hR.mono ?_)
              rintro r W3 ⟨hs3, hk3, (⟨rfl, hJ3⟩ | ⟨rfl, hJx3⟩)⟩
              · refine hK _ _ ?_
                clear hK K
                refine wpAnyIn_ready (rs := [9]) (by kernel_rfl) (by simp) ?_
                refine AllReadyIn.cons rfl (fun K hK => ?_) AllReadyIn.nil
                go_simp
                refine hK _ _ ?_
                clear hK K
                refine wpAnyIn_done (by kernel_rfl) ?_ _
                gi_wp2
                go_roundw
                case rel => exact ⟨k + 1, by rw [show ((n0 + (k + 1) : Nat) : Int) = (i : Int) + 1 by have := HI.out; omega], hkt, by rw [List.take_add_one, HW1.out]; exact hJ3⟩
                case measure => simp [intOf]; omega
              · refine hK _ _ ?_
                clear hK K
                refine wpAnyIn_ready (rs := [9]) (by kernel_rfl) (by simp) ?_
                refine AllReadyIn.cons rfl (fun K hK => ?_) AllReadyIn.nil
                go_simp
                refine hK _ _ ?_
                clear hK K
                refine wpAnyIn_done (by kernel_rfl) ?_ _
                gi_wp2
                refine bodyPost_ret (results_none rfl _ _ _) rfl ?_
                exact ⟨⟨_, rfl⟩, .inr ⟨_, by rw [HSNE.out]; exact HPR.out, hJx3⟩⟩
            exact AllReadyIn.nil
          exact AllReadyIn.nil
        exact AllReadyIn.nil
      refine AllReadyIn.cons rfl (fun K hK => ?_) ?_
      · go_simp
        refine hK _ _ ?_
        clear hK K
        refine wpAnyIn_ready (rs := [1, 5]) (by kernel_rfl) (by simp) ?_
        refine AllReadyIn.cons rfl (fun K hK => ?_) ?_
        · go_simp
          refine hK _ _ ?_
          clear hK K
          refine wpAnyIn_take (i := 3) (v := .pointer (some ⟨b, off + i * 4, none⟩)) rfl rfl (by kernel_rfl) (by kernel_rfl) (by kernel_rfl) (fun _ _ _ h => h) ⟨Or.inl ⟨by rfl, fun w => by go_simp⟩, fun _ => rfl⟩ ?_
          simp only [Act.put, List.setIfInBounds_toArray]
          refine wpAnyIn_ready (rs := [4, 5]) (by kernel_rfl) (by simp) ?_
          refine AllReadyIn.cons rfl (fun K hK => ?_) ?_
          · go_simp
            refine hK _ _ ?_
            clear hK K
            refine wpAnyIn_ready (rs := [5]) (by kernel_rfl) (by simp) ?_
            refine AllReadyIn.cons rfl (fun K hK => ?_) ?_
            · go_simp
              refine hK _ _ ?_
              clear hK K
              refine wpAnyIn_ready (rs := [7]) (by kernel_rfl) (by simp) ?_
              refine AllReadyIn.cons rfl (fun K hK => ?_) AllReadyIn.nil
              go_simp
              refine ⟨trivial, ?_⟩
              refine (callsIn_wide.2 (HCu.out _)).mono ?_
              rintro r V2 ⟨rfl, hb2⟩
              refine hK _ _ ?_
              clear hK K
              have hJ2 := (HJ.out _).off hJv ((Off.drew _ V).trans (Off.of_below hb2))
              obtain ⟨fn, tmps, assign, body, hy, hR⟩ := HY.out _ (cutP f t p) no _ (fun _ h => h.elim) hJ2 HPR.out
              dsimp only [pcv] at hy
              refine wpAnyIn_ready (rs := [8]) (by kernel_rfl) (by simp) ?_
              refine AllReadyIn.cons rfl (fun K hK => ?_) AllReadyIn.nil
              go_simp
              refine round_out (hR.mono ?_)
              rintro r W3 ⟨hs3, hk3, (⟨rfl, hJ3⟩ | ⟨rfl, hJx3⟩)⟩
              · refine hK _ _ ?_
                clear hK K
                refine wpAnyIn_ready (rs := [9]) (by kernel_rfl) (by simp) ?_
                refine AllReadyIn.cons rfl (fun K hK => ?_) AllReadyIn.nil
                go_simp
                refine hK _ _ ?_
                clear hK K
                refine wpAnyIn_done (by kernel_rfl) ?_ _
                gi_wp2
                go_roundw
                case rel => exact ⟨k + 1, by rw [show ((n0 + (k + 1) : Nat) : Int) = (i : Int) + 1 by have := HI.out; omega], hkt, by rw [List.take_add_one, HW1.out]; exact hJ3⟩
                case measure => simp [intOf]; omega
              · refine hK _ _ ?_
                clear hK K
                refine wpAnyIn_ready (rs := [9]) (by kernel_rfl) (by simp) ?_
                refine AllReadyIn.cons rfl (fun K hK => ?_) AllReadyIn.nil
                go_simp
                refine hK _ _ ?_
                clear hK K
                refine wpAnyIn_done (by kernel_rfl) ?_ _
                gi_wp2
                refine bodyPost_ret (results_none rfl _ _ _) rfl ?_
                exact ⟨⟨_, rfl⟩, .inr ⟨_, by rw [HSNE.out]; exact HPR.out, hJx3⟩⟩
            exact AllReadyIn.nil
          refine AllReadyIn.cons rfl (fun K hK => ?_) ?_
          · go_simp
            refine hK _ _ ?_
            clear hK K
            refine wpAnyIn_ready (rs := [4]) (by kernel_rfl) (by simp) ?_
            refine AllReadyIn.cons rfl (fun K hK => ?_) ?_
            · go_simp
              refine hK _ _ ?_
              clear hK K
              refine wpAnyIn_ready (rs := [7]) (by kernel_rfl) (by simp) ?_
              refine AllReadyIn.cons rfl (fun K hK => ?_) AllReadyIn.nil
              go_simp
              refine ⟨trivial, ?_⟩
              refine (callsIn_wide.2 (HCu.out _)).mono ?_
              rintro r V2 ⟨rfl, hb2⟩
              refine hK _ _ ?_
              clear hK K
              have hJ2 := (HJ.out _).off hJv ((Off.drew _ V).trans (Off.of_below hb2))
              obtain ⟨fn, tmps, assign, body, hy, hR⟩ := HY.out _ (cutP f t p) no _ (fun _ h => h.elim) hJ2 HPR.out
              dsimp only [pcv] at hy
              refine wpAnyIn_ready (rs := [8]) (by kernel_rfl) (by simp) ?_
              refine AllReadyIn.cons rfl (fun K hK => ?_) AllReadyIn.nil
              go_simp
              refine round_out (hR.mono ?_)
              rintro r W3 ⟨hs3, hk3, (⟨rfl, hJ3⟩ | ⟨rfl, hJx3⟩)⟩
              · refine hK _ _ ?_
                clear hK K
                refine wpAnyIn_ready (rs := [9]) (by kernel_rfl) (by simp) ?_
                refine AllReadyIn.cons rfl (fun K hK => ?_) AllReadyIn.nil
                go_simp
                refine hK _ _ ?_
                clear hK K
                refine wpAnyIn_done (by kernel_rfl) ?_ _
                gi_wp2
                go_roundw
                case rel => exact ⟨k + 1, by rw [show ((n0 + (k + 1) : Nat) : Int) = (i : Int) + 1 by have := HI.out; omega], hkt, by rw [List.take_add_one, HW1.out]; exact hJ3⟩
                case measure => simp [intOf]; omega
              · refine hK _ _ ?_
                clear hK K
                refine wpAnyIn_ready (rs := [9]) (by kernel_rfl) (by simp) ?_
                refine AllReadyIn.cons rfl (fun K hK => ?_) AllReadyIn.nil
                go_simp
                refine hK _ _ ?_
                clear hK K
                refine wpAnyIn_done (by kernel_rfl) ?_ _
                gi_wp2
                refine bodyPost_ret (results_none rfl _ _ _) rfl ?_
                exact ⟨⟨_, rfl⟩, .inr ⟨_, by rw [HSNE.out]; exact HPR.out, hJx3⟩⟩
            exact AllReadyIn.nil
          exact AllReadyIn.nil
        refine AllReadyIn.cons rfl (fun K hK => ?_) ?_
        · go_simp
          refine hK _ _ ?_
          clear hK K
          refine wpAnyIn_ready (rs := [1]) (by kernel_rfl) (by simp) ?_
          refine AllReadyIn.cons rfl (fun K hK => ?_) ?_
          · go_simp
            refine hK _ _ ?_
            clear hK K
            refine wpAnyIn_take (i := 3) (v := .pointer (some ⟨b, off + i * 4, none⟩)) rfl rfl (by kernel_rfl) (by kernel_rfl) (by kernel_rfl) (fun _ _ _ h => h) ⟨Or.inl ⟨by rfl, fun w => by go_simp⟩, fun _ => rfl⟩ ?_
            simp only [Act.put, List.setIfInBounds_toArray]
            refine wpAnyIn_ready (rs := [4]) (by kernel_rfl) (by simp) ?_
            refine AllReadyIn.cons rfl (fun K hK => ?_) ?_
            · go_simp
              refine hK _ _ ?_
              clear hK K
              refine wpAnyIn_ready (rs := [7]) (by kernel_rfl) (by simp) ?_
              refine AllReadyIn.cons rfl (fun K hK => ?_) AllReadyIn.nil
              go_simp
              refine ⟨trivial, ?_⟩
              refine (callsIn_wide.2 (HCu.out _)).mono ?_
              rintro r V2 ⟨rfl, hb2⟩
              refine hK _ _ ?_
              clear hK K
              have hJ2 := (HJ.out _).off hJv ((Off.drew _ V).trans (Off.of_below hb2))
              obtain ⟨fn, tmps, assign, body, hy, hR⟩ := HY.out _ (cutP f t p) no _ (fun _ h => h.elim) hJ2 HPR.out
              dsimp only [pcv] at hy
              refine wpAnyIn_ready (rs := [8]) (by kernel_rfl) (by simp) ?_
              refine AllReadyIn.cons rfl (fun K hK => ?_) AllReadyIn.nil
              go_simp
              refine round_out (hR.mono ?_)
              rintro r W3 ⟨hs3, hk3, (⟨rfl, hJ3⟩ | ⟨rfl, hJx3⟩)⟩
              · refine hK _ _ ?_
                clear hK K
                refine wpAnyIn_ready (rs := [9]) (by kernel_rfl) (by simp) ?_
                refine AllReadyIn.cons rfl (fun K hK => ?_) AllReadyIn.nil
                go_simp
                refine hK _ _ ?_
                clear hK K
                refine wpAnyIn_done (by kernel_rfl) ?_ _
                gi_wp2
                go_roundw
                case rel => exact ⟨k + 1, by rw [show ((n0 + (k + 1) : Nat) : Int) = (i : Int) + 1 by have := HI.out; omega], hkt, by rw [List.take_add_one, HW1.out]; exact hJ3⟩
                case measure => simp [intOf]; omega
              · refine hK _ _ ?_
                clear hK K
                refine wpAnyIn_ready (rs := [9]) (by kernel_rfl) (by simp) ?_
                refine AllReadyIn.cons rfl (fun K hK => ?_) AllReadyIn.nil
                go_simp
                refine hK _ _ ?_
                clear hK K
                refine wpAnyIn_done (by kernel_rfl) ?_ _
                gi_wp2
                refine bodyPost_ret (results_none rfl _ _ _) rfl ?_
                exact ⟨⟨_, rfl⟩, .inr ⟨_, by rw [HSNE.out]; exact HPR.out, hJx3⟩⟩
            exact AllReadyIn.nil
          exact AllReadyIn.nil
        exact AllReadyIn.nil
      exact AllReadyIn.nil
      --END
    · have hke : k = ((L.drop n0).takeWhile (fun p => decide (p.a < t))).length := by omega
      rcases ht2' hke with hlen | ⟨p, hp, hpt⟩
      · clear ht1' ht2' hE'
        generalize hi : n0 + k = i at *
        have hz1 : decide ((i : Int) < L.length) = false := decide_eq_false (by omega)
        have hz4 : decide (i < L.length) = false := decide_eq_false (by omega)
        clear hi
        gi_wp2
        gi_quiet (fail)
        have hoff : Off no wr (wr.drewN nq) := ⟨rfl, rfl, rfl, Nat.le_refl _, fun _ _ _ => rfl⟩
        have hJv := (HJ.out _).off hJs hoff
        gi_wp2
        go_end0
        refine ⟨⟨_, rfl⟩, .inl ?_⟩
        rw [HSNE.out]
        rw [List.take_of_length_le (by unfold wth; rw [List.length_map]; omega)] at hJv
        exact hJv
      · have hlt : n0 + k < L.length := (List.getElem?_eq_some_iff.1 hp).1
        obtain ⟨b, off, rfl, hb, hc⟩ := hE' (by rw [pcells_length]; omega)
        obtain ⟨s1, _, _, _⟩ := pcells_at L (n0 + k) p hp
        have c1 := hc _ _ s1
        clear ht1' ht2' hp hc s1
        generalize hi : n0 + k = i at *
        have hz1 : decide ((i : Int) < L.length) = true := decide_eq_true (by omega)
        have hz2 : decide (p.a < t) = false := decide_eq_false hpt
        have hz3 : (0 : Int) ≤ i := by omega
        have hz4 : (i : Int) < L.length := by omega
        clear hi
        gi_wp2
        gi_quiet (fail)
        have hoff : Off no wr (wr.drewN nq) := ⟨rfl, rfl, rfl, Nat.le_refl _, fun _ _ _ => rfl⟩
        have hJv := (HJ.out _).off hJs hoff
        gi_wp2
        go_end0
        refine ⟨⟨_, rfl⟩, .inl ?_⟩
        rw [HSNE.out]
        rw [List.take_of_length_le (by unfold wth; rw [List.length_map]; omega)] at hJv
        exact hJv
end Go.Proofs.Ytgfafinpcpiogaa
