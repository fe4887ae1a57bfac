/- Layer 10's chapter's examples. -/
import Derived.Test.YtfmlcddakfbleaaGreatDoorMzStC
import Derived.Test.YtfmlcddakfbleaaGreatDoorTreeStands
import Derived.Test.YtfmlcddakfbleaaGreatDoorMzDeA
import Derived.Test.YtfmlcddakfbleaaGreatDoorMzDeC
import Derived.Test.YtfmlcddakfbleaaGreatDoorMzRel
namespace Go.Proofs.YtfmlcddakfbleaaGreatDoor
open Go.RowKit SignMath TreeMath

def sSx1 : ByteArray := ⟨#[105, 110, 116, 32, 97, 59, 32, 97, 32, 61, 32, 49, 59]⟩
def sSx2 : ByteArray := ⟨#[97, 32, 61, 32, 49, 32, 105, 110, 116, 32, 98, 59]⟩
set_option maxRecDepth 100000 in
theorem sx1_is : (lok sSx1 && decide ((ltr sSx1).map (·.k) = [8, 14])) = true := by decide +kernel
set_option maxRecDepth 100000 in
theorem sx2_is : (!lok sSx2 && decide (lpl sSx2 = 6)) = true := by decide +kernel
theorem map_k (m : List Tr) : (m.map pl).map (·.k) = m.map (·.k) := by
  rw [List.map_map]
  exact List.map_congr_left fun x _ => by simp only [Function.comp]; rw [pl_eq]
theorem two_of {m : List Tr} {a b : Int} (h : m.map (·.k) = [a, b]) : ∃ x y, m = [x, y] ∧ x.k = a ∧ y.k = b := by
  match m, h with
  | [x, y], h =>
    simp only [List.map_cons, List.map_nil, List.cons.injEq, and_true] at h
    exact ⟨x, y, rfl, h.1, h.2⟩

set_option maxRecDepth 100000 in
set_option maxHeartbeats 8000000 in
theorem stmtAlive_any (w : World) (hL : LaidX w) : Calls Tryz.prog 6 #[] w fun e w' => e = .returned (.bool true) ∧ Below w.heap.size w w' := by
  have i1 := sx1_is
  have i2 := sx2_is
  simp only [Bool.and_eq_true, decide_eq_true_eq, Bool.not_eq_true'] at i1 i2
  obtain ⟨o1, k1⟩ := i1
  obtain ⟨o2, k2⟩ := i2
  have H1 : Hid (∀ W, LaidX W → Calls Tryz.prog 7 #[.string ⟨#[105, 110, 116, 32, 97, 59, 32, 97, 32, 61, 32, 49, 59]⟩] W (LrdV true (ltr sSx1) (ltl sSx1) (lpl sSx1) W)) := Lib.hid fun W h => by have := lread_any sSx1 W h; rwa [o1] at this
  have H2 : Hid (∀ W, LaidX W → Calls Tryz.prog 7 #[.string ⟨#[97, 32, 61, 32, 49, 32, 105, 110, 116, 32, 98, 59]⟩] W (LrdV false (ltr sSx2) (ltl sSx2) 6 W)) := Lib.hid fun W h => by have := lread_any sSx2 W h; rwa [o2, k2] at this
  have HL := Lib.hid hL
  have HK1 := Lib.hid k1
  generalize ltr sSx1 = P1 at H1 HK1
  generalize ltl sSx1 = t1 at H1
  generalize lpl sSx1 = q1 at H1
  generalize ltr sSx2 = P2 at H2
  generalize ltl sSx2 = t2 at H2
  have C1 := Lib.hid (H1.out w hL)
  clear o1 k1 o2 k2 hL H1
  go_enter Tryz.func6, Tryz.ntmps6
  go_wp2_with fail
  refine C1.out.mono ?_
  rintro e w1 ⟨hb1, Al, cl, m, he, hp, -, -, hTk, -⟩
  have hm : m.map (·.k) = [8, 14] := by rw [← map_k, hp]; exact HK1.out
  obtain ⟨x, y, rfl, hx, hy⟩ := two_of hm
  obtain ⟨g, off, rfl, hg, hc⟩ := hTk (by simp)
  have c0 := (hc 0 x rfl).1
  have c1 := (hc 1 y rfl).1
  rw [hx, Nat.zero_mul, Nat.add_zero] at c0
  rw [hy, Nat.one_mul] at c1
  have he : e = .returned (.tuple #[.slice (some ⟨g, off, none⟩) 2 cl, .string t1, .int .i64 0, .nilIface]) := he
  subst he
  have HB1 := Lib.hid hb1
  have HC := Lib.hid (And.intro c0 (And.intro c1 hg))
  have C2 := Lib.hid (H2.out w1 (HL.out.below hb1))
  clear hp hm hx hy hc c0 c1 hg hb1 hTk C1 H2 HL
  go_wp2_with fail
  refine C2.out.mono ?_
  rintro e w2 ⟨hb2, k, rfl⟩
  have c0 : w2.cell? ⟨g, off, none⟩ = some (.int .i64 8) := (cell_of (hb2.block g HC.out.2.2.2)).trans HC.out.1
  have c1 : w2.cell? ⟨g, off + 5, none⟩ = some (.int .i64 14) := (cell_of (hb2.block g HC.out.2.2.2)).trans HC.out.2.1
  have HB2 := Lib.hid (HB1.out.trans (hb2.mono HB1.out.size))
  clear hb2 HC C2
  unfold errn
  go_wp2
  go_ret
  exact ⟨rfl, HB2.out⟩
end Go.Proofs.YtfmlcddakfbleaaGreatDoor

namespace Go.Proofs.YtfmlcddakfbleaaGreatDoor
open Go.RowKit SignMath TreeMath

theorem whole_facts {s : ByteArray} {P : Tr} {tl : ByteArray} (h1 : s.size ≤ 4000) (h2 : rgt P = true) (h3 : TreeMath.lf P = lvl s 0 (cu0 s).L) (h4 : wt P ≤ 9000) (h5 : tx (TreeMath.lf P) ++ tl = s) {T : Tr} (hp : pl T = pl P) : rgt T = true ∧ wt T ≤ 9000 ∧ stb 0 (TreeMath.lf T) = true ∧ tx (TreeMath.lf T) ++ tl = s := by
  obtain ⟨s1, s2, s3, s4, s5⟩ := same_of hp
  have hst : stb ((0 : Nat) : Int) (TreeMath.lf T) = true := by
    rw [← stb_pl, s5, stb_pl, h3]
    exact stb_lvl s h1 (cu0_od s)
  exact ⟨by rw [s1]; exact h2, by rw [s3]; exact h4, hst, by rw [s4]; exact h5⟩
theorem pl_list {k : Int} {A : Option Addr} {c : Nat} {m l : List Tr} (h : m.map pl = l) : pl (⟨k, ⟨#[]⟩, ⟨#[]⟩, 0, A, c, m⟩ : Tr) = nod k l := by rw [pl_nod, h]
theorem pl_nod_list {k : Int} {A : Option Addr} {c : Nat} {m l : List Tr} (h : m.map pl = l) : pl (⟨k, ⟨#[]⟩, ⟨#[]⟩, 0, A, c, m⟩ : Tr) = pl (nod k l) := by
  subst h
  rw [pl_nod]
  have : pl (nod k (m.map pl)) = nod k ((m.map pl).map pl) := pl_nod k none 0 _
  rw [this, List.map_map]
  congr 1
  exact List.map_congr_left fun x _ => (pl_pl x).symm

set_option maxRecDepth 100000 in
set_option maxHeartbeats 8000000 in
theorem stmtKeeps_walk (s : ByteArray) (w : World) (hL : LaidX w) : Calls Tryz.prog 3 #[.string s] w fun e w' => e = .returned (.bool true) ∧ Below w.heap.size w w' := by
  have HL := Lib.hid hL
  have HA := Lib.hid (stmtAlive_any w hL)
  clear hL
  by_cases h4 : 4100 < s.size
  · have z1 : (4100 : Int) < (s.size : Nat) := by omega
    clear h4
    go_enter Tryz.func3, Tryz.ntmps3
    go_wp2_with fail
    refine HA.out.mono ?_
    rintro e w1 ⟨rfl, hb1⟩
    have HB1 := Lib.hid hb1
    clear hb1
    go_wp2
    go_ret
    exact ⟨rfl, HB1.out⟩
  · have z1 : ¬ (4100 : Int) < (s.size : Nat) := by omega
    clear h4
    have HRD := Lib.hid (fun W (h : LaidX W) => lread_any s W h)
    cases hok : lok s with
    | false =>
      rw [hok] at HRD
      clear hok
      generalize lpl s = pp at HRD
      go_enter Tryz.func3, Tryz.ntmps3
      go_wp2_with fail
      refine HA.out.mono ?_
      rintro e w1 ⟨rfl, hb1⟩
      have HB1 := Lib.hid hb1
      have HC := Lib.hid (HRD.out w1 (HL.out.below hb1))
      clear hb1 HRD HL
      go_wp2_with fail
      refine HC.out.mono ?_
      rintro e w2 ⟨hb2, k, rfl⟩
      have HB2 := Lib.hid (HB1.out.trans (hb2.mono HB1.out.size))
      clear hb2
      unfold errn
      go_wp2
      go_ret
      exact ⟨rfl, HB2.out⟩
    | true =>
      rw [hok] at HRD
      obtain ⟨f0, f1, f2, f3, f4⟩ := lok_facts hok
      obtain ⟨P, hP⟩ : ∃ P, ltr s = P := ⟨_, rfl⟩
      obtain ⟨E, hE⟩ : ∃ E, ltl s = E := ⟨_, rfl⟩
      generalize lpl s = pp at HRD
      rw [hP, hE] at HRD f4
      rw [hP] at f1 f2 f3
      have HKF : Hid (∀ T : Tr, pl T = pl (nod 2 P) → rgt T = true ∧ wt T ≤ 9000 ∧ stb 0 (TreeMath.lf T) = true ∧ tx (TreeMath.lf T) ++ E = s) := Lib.hid fun T hp => whole_facts f0 f1 f2 f3 f4 hp
      have HSZ := Lib.hid f0
      clear hok hP hE f0 f1 f2 f3 f4
      go_enter Tryz.func3, Tryz.ntmps3
      go_wp2_with fail
      refine HA.out.mono ?_
      rintro e w1 ⟨rfl, hb1⟩
      have HB1 := Lib.hid hb1
      have HC := Lib.hid (HRD.out w1 (HL.out.below hb1))
      clear hb1 HRD HL
      go_wp2_with fail
      refine HC.out.mono ?_
      rintro e w2 ⟨hb2, Al, cl, m, rfl, hp, hnil, hlen, hTk, hT⟩
      have hq := pl_nod_list (k := 2) (A := Al) (c := cl) hp
      obtain ⟨q1, q2, -, -⟩ := HKF.out _ hq
      have HMK := Lib.hid (make_any 2 Al cl m w2 (lk_rgt q1) q2 (tn_iff.2 ⟨rng0, hTk.keep (fun _ _ _ => rfl) fun _ h => h.2, fun x hx => (hT x hx).keep (fun _ _ _ => rfl) fun _ h => h.2⟩))
      have HB2 := Lib.hid (HB1.out.trans (hb2.mono HB1.out.size))
      have HQ := Lib.hid hq
      clear hb2 hp hnil hlen hTk hT hq q1 q2 HC
      go_wp2_with fail
      refine HMK.out.mono ?_
      rintro e w3 ⟨T, rfl, hpT, hTT, hb3⟩
      have hpT2 : pl T = pl (nod 2 P) := hpT.trans HQ.out
      obtain ⟨f1, f2, f3, f4⟩ := HKF.out T hpT2
      obtain ⟨Y, hY⟩ : ∃ Y, tx (TreeMath.lf T) = Y := ⟨_, rfl⟩
      rw [hY] at f4
      have hz3 := heap_alloc_new w3 zb5
      have hs4 := set5_self hz3 T
      have hB4 := below_set5 (below1 w3 zb5) (Nat.le_refl _) T
      have hT4 : Tn (lo (set5 (w3.alloc zb5) w3.heap.size T).heap.size) (set5 (w3.alloc zb5) w3.heap.size T) T := (hTT.keep (fun _ _ _ => rfl) fun _ hk => hk.2 : Tn (lo w3.heap.size) w3 T).after hB4
      have HB4 := Lib.hid (HB2.out.trans ((hb3.mono HB2.out.size).trans (hB4.mono (Nat.le_trans HB2.out.size hb3.size))))
      have HST : Hid (∀ W, Tn (lo W.heap.size) W T → Calls Tryz.prog 9 #[nv T, .int .i64 0] W fun e w' => e = .returned (.bool true) ∧ Below W.heap.size W w') := Lib.hid fun W h => by
        have := stands_any T 0 W h f2
        rw [f1, f3] at this
        exact this
      have HTX : Hid (∀ W, Tn (lo W.heap.size) W T → Calls Tryz.prog 10 #[nv T] W fun e w' => e = .returned (.string Y) ∧ Below W.heap.size W w') := Lib.hid fun W h => by
        have := text_any T W h f2
        rw [if_pos f1, hY] at this
        exact this
      have hys : Y.size + E.size ≤ 4000 := by have := congrArg ByteArray.size f4; rw [ByteArray.size_append] at this; have := HSZ.out; omega
      have hadd : ∀ W, Sem.run Tryz.prog (Op.stringOp .add Y E) W = .ok (.string s) W := fun W => by rw [← f4]; exact run_string_add_sum _ _ _ (by omega)
      have hss : (s.toList == s.toList) = true := by simp
      have hszb : w3.heap.size < (set5 (w3.alloc zb5) w3.heap.size T).heap.size := by rw [set5_size]; simp
      clear f1 f2 f3 f4 hY hpT hpT2 hTT hb3 hB4 hys HKF HMK
      go_wp2_with (with_reducible refine stay_store 30 (.tmp 7) (.tmp 30) (by rfl) ?_)
      refine Stay.mk ?_
      refine wpList_store_node (by rfl) 30 (.tmp 7) (.tmp 30) (by rfl) size_tnode (w3.heap.size) T (by rfl) (by rfl) hz3 ?_
      generalize set5 (w3.alloc zb5) w3.heap.size T = w4 at hs4 hT4 HB4 hszb ⊢
      generalize w3.heap.size = x at hs4 hszb ⊢
      clear hz3 w3
      have HT4 := Lib.hid (And.intro hT4 (And.intro hs4 hszb))
      have HS4 := Lib.hid (HST.out _ hT4)
      obtain ⟨t0, t1, t2, t3, t4⟩ := heap5 hs4
      clear hs4 hT4 hszb HST
      go_wp2_with fail
      refine HS4.out.mono ?_
      rintro e w5 ⟨rfl, hb5⟩
      have HB5 := Lib.hid (HB4.out.trans (hb5.mono HB4.out.size))
      have HX5 := Lib.hid (HTX.out w5 (HT4.out.1.after hb5))
      clear t0 t1 t2 t3 t4
      obtain ⟨t0, t1, t2, t3, t4⟩ := heap5 ((hb5.block x HT4.out.2.2).trans HT4.out.2.1)
      clear hb5 HTX HT4 HS4
      go_wp2_with fail
      refine HX5.out.mono ?_
      rintro e w6 ⟨rfl, hb6⟩
      have HB6 := Lib.hid (HB5.out.trans (hb6.mono HB5.out.size))
      clear hb6 t0 t1 t2 t3 t4 HX5
      go_wp2
      go_ret
      exact ⟨rfl, HB6.out⟩
end Go.Proofs.YtfmlcddakfbleaaGreatDoor

namespace Go.Proofs.YtfmlcddakfbleaaGreatDoor
open Go.RowKit SignMath TreeMath

theorem rel_tkq : ∀ l : List ByteArray, RFs (tkq l)
  | [] => fun _ _ h => ⟨h, rfl⟩
  | s :: l => fun C E h => by
    obtain ⟨w1, w2⟩ := h.wnt s
    obtain ⟨p1, p2⟩ := rel_tkq l _ _ w1
    refine ⟨p1, ?_⟩
    show ((wnt s C).2 :: (tkq l (wnt s C).1).2).map spt0 = ((wnt s E).2 :: (tkq l (wnt s E).1).2).map spt0
    rw [List.map_cons, List.map_cons, w2, p2]
theorem rel_nam : RFs nam := fun C E h => by
  obtain ⟨w1, w2⟩ := h.any 4
  exact ⟨w1, by show [(anyk 4 C).2].map spt0 = [(anyk 4 E).2].map spt0; rw [List.map_cons, List.map_cons, w2]⟩
theorem rel_on1 {f : Cu → Cu × Tr} (hf : RF f) : RFs (on1 f) := fun C E h => by
  obtain ⟨w1, w2⟩ := hf C E h
  exact ⟨w1, by show [(f C).2].map spt0 = [(f E).2].map spt0; rw [List.map_cons, List.map_cons, w2]⟩
theorem rel_unt {f : Cu → Cu × Tr} (hf : RF f) : RF (unt f) := fun C E h => by
  obtain ⟨w1, w2⟩ := hf C E h
  refine ⟨w1, ?_⟩
  show spt0 (if (f C).1.f = 0 then (f C).2 else zn1) = spt0 (if (f E).1.f = 0 then (f E).2 else zn1)
  rw [w1.f]
  split
  · exact w2
  · rfl
theorem rel_unf {f : Part} (hf : RFs f) : RFs (unf f) := fun C E h => by
  obtain ⟨w1, w2⟩ := hf C E h
  unfold unf
  rw [w1.f]
  split
  · exact ⟨w1, w2⟩
  · exact ⟨w1, rfl⟩
theorem rel_prs : RF prs := rel_unt rel_exX
theorem rel_exq : RFs exq := rel_on1 rel_prs
theorem rel_sqn : RFs (sq []) := fun _ _ h => ⟨h, rfl⟩
theorem rel_sqc {f : Part} {fs : List Part} (hf : RFs f) (hs : RFs (sq fs)) : RFs (sq (f :: fs)) := fun C E h => by
  obtain ⟨w1, w2⟩ := hf C E h
  obtain ⟨p1, p2⟩ := hs _ _ w1
  refine ⟨p1, ?_⟩
  show ((f C).2 ++ (sq fs (f C).1).2).map spt0 = ((f E).2 ++ (sq fs (f E).1).2).map spt0
  rw [List.map_append, List.map_append, w2, p2]
theorem rel_ndq {k : Int} {fs : List Part} (hs : RFs (sq fs)) : RF (ndq k fs) := fun C E h => by
  obtain ⟨p1, p2⟩ := hs C E h
  exact ⟨p1, spt0_nod p2⟩
theorem rel_cms {C E : Cu} (h : Rel C E) (l : List ByteArray) : cms l C = cms l E := by
  unfold cms
  congr 1
  funext s
  exact h.isb 0 s
theorem rel_nmd {C E : Cu} (h : Rel C E) (i : Int) : nmd i C = nmd i E := by unfold nmd; rw [h.pk]
def RB (bg : Cu → Bool) : Prop := ∀ C E, Rel C E → bg C = bg E
theorem rel_if {f g : Cu → Cu × Tr} {bg : Cu → Bool} (hb : RB bg) (hf : RF f) (hg : RF g) : RF fun C => if bg C = true then f C else g C := fun C E h => by
  show Rel (if bg C = true then f C else g C).1 (if bg E = true then f E else g E).1 ∧ spt0 (if bg C = true then f C else g C).2 = spt0 (if bg E = true then f E else g E).2
  rw [hb C E h]
  split
  · exact hf C E h
  · exact hg C E h
theorem rel_ifs {f g : Part} {bg : Cu → Bool} (hb : RB bg) (hf : RFs f) (hg : RFs g) : RFs fun C => if bg C = true then f C else g C := fun C E h => by
  show Rel (if bg C = true then f C else g C).1 (if bg E = true then f E else g E).1 ∧ (if bg C = true then f C else g C).2.map spt0 = (if bg E = true then f E else g E).2.map spt0
  rw [hb C E h]
  split
  · exact hf C E h
  · exact hg C E h
theorem rb_is (i : Int) (s : ByteArray) : RB fun C => C.isb i s := fun _ _ h => h.isb i s
theorem rel_none : RFs fun C => (C, []) := fun _ _ h => ⟨h, rfl⟩
theorem rel_typ : RF typ :=
  rel_if (bg := fun C => C.isb 0 sInt && C.isb 1 sSq) (fun C E h => by show (C.isb 0 sInt && C.isb 1 sSq) = (E.isb 0 sInt && E.isb 1 sSq); rw [h.isb, h.isb]) (rel_ndq (rel_sqc (rel_tkq _) rel_sqn))
    (rel_if (rb_is 0 sInt) (rel_ndq (rel_sqc (rel_tkq _) rel_sqn)) (rel_if (rb_is 0 sBool) (rel_ndq (rel_sqc (rel_tkq _) rel_sqn)) (rel_ndq (rel_sqc rel_nam rel_sqn))))
theorem rel_vrb : RF vrb := rel_ndq (rel_sqc (rel_on1 rel_typ) (rel_sqc rel_nam (rel_sqc (rel_tkq _) rel_sqn)))
theorem rel_lst {bg : Cu → Bool} {f : Cu → Cu × Tr} (hb : RB bg) (hf : RF f) : ∀ (q : Nat) (x y : Cu × List Tr), Rel x.1 y.1 → x.2.map spt0 = y.2.map spt0 → Rel (lst bg f q x).1 (lst bg f q y).1 ∧ (lst bg f q x).2.map spt0 = (lst bg f q y).2.map spt0
  | 0, _, _, h, hs => ⟨h, hs⟩
  | q + 1, x, y, h, hs => by
    unfold lst
    rw [hb _ _ h]
    split
    · obtain ⟨w1, w2⟩ := hf _ _ h
      exact rel_lst hb hf q _ _ w1 (by simp only [List.map_append, List.map_cons, List.map_nil, hs, w2])
    · exact ⟨h, hs⟩
theorem rel_lsf {bg : Cu → Bool} {f : Cu → Cu × Tr} (hb : RB bg) (hf : RF f) : RFs fun C => lst bg f C.left (C, []) := fun C E h => by
  show Rel (lst bg f C.left (C, [])).1 (lst bg f E.left (E, [])).1 ∧ (lst bg f C.left (C, [])).2.map spt0 = (lst bg f E.left (E, [])).2.map spt0
  rw [h.left]
  exact rel_lst hb hf _ _ _ h rfl
theorem rb_vbg : RB vbg := fun C E h => by unfold vbg; rw [rel_cms h, rel_nmd h, rel_nmd h]
theorem rb_sbg : RB sbg := fun C E h => by unfold sbg; rw [rel_cms h, rel_nmd h]
theorem rel_vbs : RFs vbs := rel_lsf rb_vbg rel_vrb
section
variable {st : Cu → Cu × Tr}
theorem rel_sts (hs : RF st) : RFs (sts st) := rel_lsf rb_sbg hs
theorem rel_bdy (hs : RF st) : RF (bdy st) :=
  rel_if (rb_is 0 sBrO) (rel_ndq (rel_sqc (rel_tkq _) (rel_sqc (rel_sts hs) (rel_sqc (rel_tkq _) rel_sqn))))
    (rel_if (rb_is 0 sIf) (rel_ndq (rel_sqc (rel_tkq _) (rel_sqc rel_exq (rel_sqc (rel_tkq _) (rel_sqc (rel_on1 hs) (rel_sqc (rel_tkq _) (rel_sqc (rel_on1 hs) rel_sqn)))))))
      (rel_if (rb_is 0 sWhile) (rel_ndq (rel_sqc (rel_tkq _) (rel_sqc rel_exq (rel_sqc (rel_tkq _) (rel_sqc (rel_on1 hs) rel_sqn)))))
        (rel_if (rb_is 0 sPrint) (rel_ndq (rel_sqc (rel_tkq _) (rel_sqc rel_exq (rel_sqc (rel_tkq _) rel_sqn))))
          (rel_if (rb_is 1 sSq) (rel_ndq (rel_sqc rel_nam (rel_sqc (rel_tkq _) (rel_sqc rel_exq (rel_sqc (rel_tkq _) (rel_sqc rel_exq (rel_sqc (rel_tkq _) rel_sqn)))))))
            (rel_ndq (rel_sqc rel_nam (rel_sqc (rel_tkq _) (rel_sqc rel_exq (rel_sqc (rel_tkq _) rel_sqn)))))))))
theorem rel_stt (hs : RF st) : RF (stt st) := fun C E h => by
  unfold stt
  rw [h.down.1]
  split
  · obtain ⟨w1, w2⟩ := rel_bdy hs _ _ h.down.2
    exact ⟨w1.up, w2⟩
  · exact ⟨h.down.2, rfl⟩
end
theorem rel_stN : ∀ k, RF (stN k)
  | 0 => fun _ _ h => ⟨h, rfl⟩
  | k + 1 => rel_stt (rel_stN k)
theorem rel_stl : RFs stl := rel_sts (rel_stN 201)
theorem rel_tyq : RFs tyq := rel_on1 (rel_unt rel_typ)
theorem rel_prm : RF prm := rel_ndq (rel_sqc rel_tyq (rel_sqc rel_nam rel_sqn))
theorem rel_prms : RFs prms := rel_arg rel_prm
theorem rel_sup : RFs sup := rel_ifs (rb_is 0 sExt) (rel_sqc (rel_tkq _) (rel_sqc rel_nam rel_sqn)) rel_none
theorem rel_fld : RF fld := rel_ndq (rel_sqc rel_tyq (rel_sqc rel_nam (rel_sqc (rel_tkq _) rel_sqn)))
theorem rb_fbg : RB fbg := fun C E h => by unfold fbg; rw [h.left, h.isb, h.isb]
theorem rel_flds : RFs flds := rel_lsf rb_fbg rel_fld
theorem rel_mth : RF mth := rel_ndq (rel_sqc (rel_tkq _) (rel_sqc rel_tyq (rel_sqc rel_nam (rel_sqc (rel_tkq _) (rel_sqc rel_prms (rel_sqc (rel_tkq _) (rel_sqc (rel_unf rel_vbs) (rel_sqc (rel_unf rel_stl) (rel_sqc (rel_tkq _) (rel_sqc rel_exq (rel_sqc (rel_tkq _) rel_sqn)))))))))))
theorem rel_mths : RFs mths := rel_lsf (rb_is 0 sPub) rel_mth
theorem rel_mcl : RF mcl := rel_ndq (rel_sqc (rel_tkq _) (rel_sqc rel_nam (rel_sqc (rel_tkq _) (rel_sqc rel_nam (rel_sqc (rel_tkq _) (rel_sqc (rel_unf rel_stl) (rel_sqc (rel_tkq _) rel_sqn)))))))
theorem rel_ocl : RF ocl := rel_ndq (rel_sqc (rel_tkq _) (rel_sqc rel_nam (rel_sqc rel_sup (rel_sqc (rel_tkq _) (rel_sqc rel_flds (rel_sqc rel_mths (rel_sqc (rel_tkq _) rel_sqn)))))))
theorem rel_cls : RF cls := rel_if (fun C E h => by unfold mnb; rw [h.isb, h.isb, h.isb]) rel_mcl rel_ocl
theorem rel_clz : RF clz := rel_unt rel_cls
theorem rel_fil : RFs fil := rel_lsf (fun C E h => by unfold cbg; rw [h.left]) rel_clz
end Go.Proofs.YtfmlcddakfbleaaGreatDoor

namespace Go.Proofs.YtfmlcddakfbleaaGreatDoor
open Go.RowKit SignMath TreeMath

open Dc
theorem fok_blk {s : ByteArray} (h : fok s = true) (hs : s.size ≤ 1500) : fok (blk s) = true ∧ spt0 (ftr (blk s)) = spt0 (ftr s) := by
  unfold fok at h
  simp only [Bool.and_eq_true, decide_eq_true_eq] at h
  obtain ⟨⟨hsz, hb⟩, hf⟩ := h
  have hbn : bad (tk (bs s) 0) = none := by simpa using hb
  obtain ⟨r1, r2⟩ := rel_fil _ _ (rel_blk hbn)
  have hbs := blk_size s
  refine ⟨?_, (spt0_nod r2).symm⟩
  unfold fok
  simp only [Bool.and_eq_true, decide_eq_true_eq]
  refine ⟨⟨by omega, ?_⟩, ?_⟩
  · rw [(cu0_blk hbn).2]; rfl
  · rw [← r1.f]; exact hf
theorem ftr_pl {s : ByteArray} {T : Tr} (hp : pl T = ftr s) : pl T = pl (ftr s) := by rw [← hp, pl_pl]
theorem f_facts {s : ByteArray} (h : fok s = true) {T : Tr} (hp : pl T = ftr s) : rgt T = true ∧ wt T ≤ 9000 ∧ stb 0 (TreeMath.lf T) = true ∧ tx (TreeMath.lf T) ++ ftl s = s ∧ tbb (TreeMath.lf T) = blk s := by
  obtain ⟨h1, h2, h3, h4, h5⟩ := fok_facts h
  obtain ⟨g1, g2, g3, g4⟩ := whole_facts h1 h2 h3 h4 h5 (ftr_pl hp)
  refine ⟨g1, g2, g3, g4, ?_⟩
  have hl : (TreeMath.lf T).map pl = lvl s 0 (cu0 s).L := by rw [← lf_pl, hp, h3]
  unfold blk
  rw [← hl]
  have : ∀ l : List Tr, tbb l = tbb (l.map pl) := by
    intro l
    induction l with
    | nil => rfl
    | cons x r ih => show (x.t ++ b32) ++ tbb r = ((pl x).t ++ b32) ++ tbb (r.map pl); rw [← ih, pl_eq]
  exact this _
theorem f_same {s : ByteArray} (h : fok s = true) (hs : s.size ≤ 1500) {T U : Tr} (hT : pl T = ftr s) (hU : pl U = ftr (blk s)) : (cg stp T ()).1 = (cg stp U ()).1 := by
  obtain ⟨-, b3⟩ := fok_blk h hs
  show spt0 T = spt0 U
  rw [← spt0_pl T, ← spt0_pl U, hT, hU, b3]
end Go.Proofs.YtfmlcddakfbleaaGreatDoor
