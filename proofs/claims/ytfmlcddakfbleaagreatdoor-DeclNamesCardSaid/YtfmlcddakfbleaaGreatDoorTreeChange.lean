/- tree.changed at any tree. -/
import Derived.Test.YtfmlcddakfbleaaGreatDoorTreeChanged
namespace Go.Proofs.YtfmlcddakfbleaaGreatDoor
open Go.RowKit TreeMath

theorem off_set5o {X : Nat → Prop} {b : Nat} (hb : X b) (W : World) (o : Nat) (T : Tr) : Off X W (set5o W b o T) :=
  ((((Off.setCell (p := ⟨b, o, none⟩) hb _ _).trans (Off.setCell (p := ⟨b, o + 1, none⟩) hb _ _)).trans (Off.setCell (p := ⟨b, o + 2, none⟩) hb _ _)).trans (Off.setCell (p := ⟨b, o + 3, none⟩) hb _ _)).trans (Off.setCell (p := ⟨b, o + 4, none⟩) hb _ _)

abbrev nd (k : Int) (g t : ByteArray) (a : Int) : Tr := ⟨k, g, t, a, none, 0, []⟩
/-- what holds ahead of each round -/
def ChI {σ : Type} (f : σ → Tr → Tr × σ) (J : σ → As) (k : Int) (g t : ByteArray) (a : Int) (kids : List Tr) (s : σ) (X : Nat → Prop) (W : World) (j : Nat) (m : List Tr) (sj : σ) (wr : World) : Prop :=
  m.length = j ∧ W.heap.size + 3 ≤ wr.heap.size ∧ wr.heap[W.heap.size]? = some (.cells #[.int .i64 k, .string g, .string t, .int .i64 a, .slice (some ⟨W.heap.size + 1 + 1, 0, none⟩) kids.length kids.length] 30 (0, 0)) ∧
  wr.heap[W.heap.size + 1]? = some (.cells z5 30 (0, 0)) ∧ (∃ cs, wr.heap[W.heap.size + 1 + 1]? = some (.cells cs 30 (0, 0)) ∧ cs.size = kids.length * 5) ∧
  (∀ (i : Nat) (x : Tr), m[i]? = some x → At5 wr (W.heap.size + 1 + 1) (i * 5) x) ∧ (∀ x ∈ m, Tn (nw (W.heap.size + 3) wr) wr x) ∧ Kept X W wr ∧ J sj (wth X W wr) wr ∧
  m.map pl = (cgs f (kids.take j) s).1 ∧ sj = (cgs f (kids.take j) s).2

theorem cgs_take {σ : Type} (f : σ → Tr → Tr × σ) {kids : List Tr} {j : Nat} {e : Tr} (s : σ) (h : kids[j]? = some e) :
    (cgs f (kids.take (j + 1)) s).1 = (cgs f (kids.take j) s).1 ++ [(cg f e (cgs f (kids.take j) s).2).1] ∧ (cgs f (kids.take (j + 1)) s).2 = (cg f e (cgs f (kids.take j) s).2).2 := by
  rw [List.take_add_one, h]
  simp only [Option.toList_some, cgs_append, cgs_cons, cgs_nil, and_self]

set_option maxRecDepth 100000 in
set_option maxHeartbeats 4000000 in
theorem changed_any {σ : Type} (gf : Nat) (lb : Array Value) (eg : ∀ args w, (callFunc gf args).run Tryz.prog w = .ok (.enter gf args) w) (f : σ → Tr → Tr × σ) (hf : ∀ s T, (f s (tok T)).1.kids = [] ∧ (f s (tok T)).1.A = none ∧ (f s (tok T)).1.c = 0)
    (n₀ : Nat) (w₀ : World) (J : σ → As) (hJ : ∀ s, Frames (J s)) (hlow : ∀ s X W, J s X W → Low n₀ w₀ X W) (hL : LeafF gf lb f J) (T : Tr) :
    ∀ (s : σ) (X : Nat → Prop) (W : World), (∀ s x, x ∈ ns T → rng (f s (tok x)).1.a) → lk T → wt T ≤ 9000 → Tn (lo n₀) w₀ T → (∀ k, X k → k < W.heap.size) → J s X W →
    Calls Tryz.prog 45 #[nv T, .func (.func gf) #[] lb] W (ChV f J T s X W) := by
  induction T using Tr.ind with | _ k g t a A c kids ih =>
  intro s X W hra hlk hw hT hX h0
  by_cases hk : k = 1
  · exact changed_leaf gf lb eg f hf J hJ hL ⟨k, g, t, a, A, c, kids⟩ s X W (hra s _ (ns_self _)) hk (hlk _ (ns_self _) hk) hw hX h0
  · have hkl : kids.length < 9000 := by have := kids_le (T := ⟨k, g, t, a, A, c, kids⟩); simp only at this; omega
    have hkf : (k == 1) = false := by simp [hk]
    have HCG : Hid ((cg f ⟨k, g, t, a, A, c, kids⟩ s).1 = ⟨k, g, t, a, none, 0, (cgs f kids s).1⟩ ∧ (cg f ⟨k, g, t, a, A, c, kids⟩ s).2 = (cgs f kids s).2) := Lib.hid (by rw [cg_eq, if_neg hk]; exact ⟨rfl, rfl⟩)
    have HRG := Lib.hid hT.rng
    have HT := Lib.hid hT
    have HI := Lib.hid ih
    have HRA := Lib.hid hra
    have HLK := Lib.hid hlk
    have HX := Lib.hid hX
    have H0 := Lib.hid h0
    have HW := Lib.hid hw
    clear ih hra hlk hw hT hX h0 hk
    by_cases hl0 : kids.length = 0
    · obtain rfl : kids = [] := List.eq_nil_of_length_eq_zero hl0
      clear hl0 hkl
      go_enter Tryz.func45, Tryz.ntmps45
      go_wp2
      go_loopw [26] (fun i wr => i = .int .i64 0 ∧ wr = (W.alloc (.cells (ncc (nd k g t a)) 30)).alloc (.cells z5 30)) (fun _ _ => 0)
      case atStart => exact ⟨rfl, rfl⟩
      case round =>
        obtain ⟨rfl, rfl⟩ := hrel
        go_wp2
        refine bodyPost_ret (v := nv (nd k g t a)) (by simp [results, Tryz.results45, go_sem]) rfl ?_
        refine ⟨nd k g t a, rfl, by rw [HCG.out.1, pl_eq]; rfl, tn_iff.2 ⟨HRG.out, fun h => by simp at h, fun x hx => by cases hx⟩, by simp; omega, Kept.trans (by simp) (Kept.alloc _ _ _) (Kept.alloc _ _ _), ?_⟩
        rw [HCG.out.2]
        exact (hJ _).more H0.out ((Off.alloc _ _ _).trans (Off.alloc _ _ _)) (fun q h => h.imp id fun h => h.1)
    · have hlp : 0 < kids.length := by omega
      clear hl0
      obtain ⟨i0, hi, hz0, hz1, hz2⟩ := info_parts info_tnode
      have hmk := fun W => run_makeSlice (P := Tryz.prog) W 23 30 i0 _ Tryz.underlying23 hi hz0 .i64 .i64 (kids.length : Int) (kids.length : Int) (by omega) (Int.le_refl _) (by rw [hz1]; simp; omega) (by rw [hz2]; omega) (by omega)
      rw [hz1] at hmk
      simp only [Int.toNat_natCast] at hmk
      generalize hZ : madeCells (Value.cells (.agg #[.int .i64 0, .string ⟨#[]⟩, .string ⟨#[]⟩, .int .i64 0, .slice none 0 0])) (kids.length * 5) = Z at hmk
      have hZs : Z.size = kids.length * 5 := by rw [← hZ]; exact size_madeCells _ _
      have HZS := Lib.hid hZs
      clear hZ hZs hi hz0 hz1 hz2
      go_enter Tryz.func45, Tryz.ntmps45
      go_wp2
      obtain ⟨W2, hW2⟩ : ∃ W2, (((W.alloc (.cells #[.int .i64 k, .string g, .string t, .int .i64 a, .slice (some ⟨W.heap.size + 1 + 1, 0, none⟩) kids.length kids.length] 30)).alloc (.cells z5 30)).alloc (.cells Z 30)) = W2 := ⟨_, rfl⟩
      have hI : ChI f J k g t a kids s X W 0 [] s W2 := by
        rw [← hW2]
        refine ⟨rfl, by simp, ?_, ?_, ⟨Z, ?_, HZS.out⟩, (fun i x h => by simp at h), (fun x h => by cases h), ?_, ?_, by simp [cgs_nil], by simp [cgs_nil]⟩
        · exact (Below.heap_alloc _ _ _ (by simp; omega)).trans ((Below.heap_alloc _ _ _ (by simp)).trans (heap_alloc_new W _))
        · refine (Below.heap_alloc _ _ _ (by simp)).trans ?_
          have := heap_alloc_new (W.alloc (.cells #[.int .i64 k, .string g, .string t, .int .i64 a, .slice (some ⟨W.heap.size + 1 + 1, 0, none⟩) kids.length kids.length] 30)) (.cells z5 30)
          rwa [World.size_alloc] at this
        · have := heap_alloc_new ((W.alloc (.cells #[.int .i64 k, .string g, .string t, .int .i64 a, .slice (some ⟨W.heap.size + 1 + 1, 0, none⟩) kids.length kids.length] 30)).alloc (.cells z5 30)) (.cells Z 30)
          rwa [World.size_alloc, World.size_alloc] at this
        · exact Kept.trans (by simp; omega) (Kept.trans (by simp) (Kept.alloc _ _ _) (Kept.alloc _ _ _)) (Kept.alloc _ _ _)
        · exact (hJ _).more H0.out (((Off.alloc _ _ _).trans (Off.alloc _ _ _)).trans (Off.alloc _ _ _)) (fun q h => h.imp id fun h => h.1)
      have HI0 := Lib.hid hI
      have HW2 := Lib.hid hW2
      clear hI hW2
      go_loopw [26] (fun i wr => ∃ (j : Nat) (m : List Tr) (sj : σ), i = .int .i64 j ∧ j ≤ kids.length ∧ Hid (ChI f J k g t a kids s X W j m sj wr)) (fun i _ => kids.length + 1 - (intOf i).toNat)
      case atStart => exact ⟨0, [], s, rfl, Nat.zero_le _, by rw [HW2.out]; exact HI0⟩
      case round =>
        obtain ⟨j, m, sj, rfl, hj, HD⟩ := hrel
        obtain ⟨d1, d2, d3, d4, ⟨cs, d5, d5'⟩, d6, d7, d8, d9, d10, d11⟩ := HD.out
        clear HI0 HW2 hmk
        by_cases hlt : j < kids.length
        · obtain ⟨e, he⟩ : ∃ e, kids[j]? = some e := ⟨_, List.getElem?_eq_getElem hlt⟩
          have hmem := List.mem_of_getElem? he
          have hlw := hlow _ _ _ d9
          obtain ⟨b, off, rfl, hb, c0, c1, c2, c3, c4⟩ := (HT.out.below hlw.1).at_ he
          have hXW : ∀ q, (X q ∨ W.heap.size ≤ q ∧ q < wr.heap.size + 1) → q < (wr.alloc (.cells (ncc e) 30)).drew.heap.size := fun q h => by
            show q < (wr.alloc (.cells (ncc e) 30)).heap.size
            rw [World.size_alloc]
            rcases h with h | h
            · have := HX.out q h; omega
            · exact h.2
          have HC := Lib.hid (HI.out e hmem sj (fun q => X q ∨ W.heap.size ≤ q ∧ q < wr.heap.size + 1) ((wr.alloc (.cells (ncc e) 30)).drew) (fun s x hx => HRA.out s x (ns_kid hmem hx)) (lk_kid HLK.out hmem) (Nat.le_trans (Nat.le_of_lt (wt_kid hmem)) HW.out) (HT.out.kid hmem) hXW
            ((hJ _).more d9 ((Off.alloc _ wr _).trans (Off.drew _ _)) (fun q h => by
              rcases h with h | ⟨h1, h2⟩
              · exact .inl (.inl h)
              · by_cases hq : q < wr.heap.size
                · exact .inl (.inr ⟨h1, hq⟩)
                · exact .inr (by omega))))
          have hbk := heap_alloc_new wr (.cells (ncc e) 30)
          have hb2 : (wr.alloc (.cells (ncc e) 30)).heap[W.heap.size]? = _ := (Below.heap_alloc wr (.cells (ncc e) 30) W.heap.size (by omega)).trans d3
          have HSW : Hid (∀ w6 : World, (wr.alloc (.cells (ncc e) 30)).drew.heap.size ≤ w6.heap.size → Kept (fun q => X q ∨ W.heap.size ≤ q ∧ q < wr.heap.size + 1) (wr.alloc (.cells (ncc e) 30)).drew w6 → (w6.cell? ⟨W.heap.size, 4, none⟩ = some (.slice (some ⟨W.heap.size + 1 + 1, 0, none⟩) kids.length kids.length) ∧ w6.cell? ⟨wr.heap.size, 0, none⟩ = some (.int .i64 e.k) ∧ w6.cell? ⟨wr.heap.size, 1, none⟩ = some (.string e.g) ∧ w6.cell? ⟨wr.heap.size, 2, none⟩ = some (.string e.t) ∧ w6.cell? ⟨wr.heap.size, 3, none⟩ = some (.int .i64 e.a) ∧ w6.cell? ⟨wr.heap.size, 4, none⟩ = some (.slice e.A e.kids.length e.c))) := Lib.hid fun w6 hs hk => by
            have e1 := (hk W.heap.size (.inr ⟨Nat.le_refl _, by omega⟩) (by show _ < (wr.alloc _).heap.size; simp; omega)).trans hb2
            have e2 := (hk wr.heap.size (.inr ⟨by omega, by omega⟩) (by show _ < (wr.alloc _).heap.size; simp)).trans hbk
            exact ⟨cell_heap e1, cell_heap e2, cell_heap e2, cell_heap e2, cell_heap e2, cell_heap e2⟩
          have hS : ((wr.alloc (.cells (ncc e) 30)).drew.cell? ⟨W.heap.size, 4, none⟩ = some (.slice (some ⟨W.heap.size + 1 + 1, 0, none⟩) kids.length kids.length) ∧ (wr.alloc (.cells (ncc e) 30)).drew.cell? ⟨wr.heap.size, 0, none⟩ = some (.int .i64 e.k) ∧ (wr.alloc (.cells (ncc e) 30)).drew.cell? ⟨wr.heap.size, 1, none⟩ = some (.string e.g) ∧ (wr.alloc (.cells (ncc e) 30)).drew.cell? ⟨wr.heap.size, 2, none⟩ = some (.string e.t) ∧ (wr.alloc (.cells (ncc e) 30)).drew.cell? ⟨wr.heap.size, 3, none⟩ = some (.int .i64 e.a) ∧ (wr.alloc (.cells (ncc e) 30)).drew.cell? ⟨wr.heap.size, 4, none⟩ = some (.slice e.A e.kids.length e.c)) := ⟨cell_heap hb2, cell_heap hbk, cell_heap hbk, cell_heap hbk, cell_heap hbk, cell_heap hbk⟩
          have HE := Lib.hid he
          have z1 : (0 : Int) ≤ j := by omega
          have z2 : (j : Int) < kids.length := by omega
          have HALL := Lib.hid (And.intro d1 (And.intro d2 (And.intro d3 (And.intro d4 (And.intro d5 (And.intro d6 (And.intro d7 (And.intro d8 (And.intro d10 d11)))))))))
          clear d1 d3 d4 d5 d6 d7 d8 d9 d10 d11 hmem he hb hbk hb2 hlw hXW
          go_wp2
          rename_i K0 hK0
          refine wp_region_noPanic (wp_region_held (S := fun W' => W'.cell? ⟨W.heap.size, 4, none⟩ = some (.slice (some ⟨W.heap.size + 1 + 1, 0, none⟩) kids.length kids.length) ∧ W'.cell? ⟨wr.heap.size, 0, none⟩ = some (.int .i64 e.k) ∧ W'.cell? ⟨wr.heap.size, 1, none⟩ = some (.string e.g) ∧ W'.cell? ⟨wr.heap.size, 2, none⟩ = some (.string e.t) ∧ W'.cell? ⟨wr.heap.size, 3, none⟩ = some (.int .i64 e.a) ∧ W'.cell? ⟨wr.heap.size, 4, none⟩ = some (.slice e.A e.kids.length e.c)) (by kernel_rfl) ?_)
          show wpAnyH _ _ _ _ _ _ _ _ (wr.alloc (.cells (ncc e) 30)).drew
          refine wpAnyH_take_d (i := 0) (v := .pointer (some ⟨W.heap.size, 4, none⟩)) 31 rfl rfl (by kernel_rfl) (by kernel_rfl) (by kernel_rfl) (fun _ _ _ h => h) (Or.inl ⟨by kernel_rfl, fun w' hS' => ?y0⟩) hS ?_
          case y0 => (obtain ⟨s0, s1, s2, s3, s4, s5⟩ := hS'; go_simp)
          simp only [Act.put, List.setIfInBounds_toArray, List.set_cons_zero, List.set_cons_succ]
          refine wpAnyH_take_d (i := 1) (v := .slice (some ⟨W.heap.size + 1 + 1, 0, none⟩) kids.length kids.length) 32 rfl rfl (by kernel_rfl) (by kernel_rfl) (by kernel_rfl) (fun _ _ _ h => h) (Or.inl ⟨by kernel_rfl, fun w' hS' => ?y1⟩) hS ?_
          case y1 => (obtain ⟨s0, s1, s2, s3, s4, s5⟩ := hS'; go_simp)
          simp only [Act.put, List.setIfInBounds_toArray, List.set_cons_zero, List.set_cons_succ]
          refine wpAnyH_take_d (i := 2) (v := .int .i64 (j : Nat)) 33 rfl rfl (by kernel_rfl) (by kernel_rfl) (by kernel_rfl) (fun _ _ _ h => h) (Or.inl ⟨by kernel_rfl, fun w' hS' => ?y2⟩) hS ?_
          case y2 => (obtain ⟨s0, s1, s2, s3, s4, s5⟩ := hS'; go_simp)
          simp only [Act.put, List.setIfInBounds_toArray, List.set_cons_zero, List.set_cons_succ]
          refine wpAnyH_take_d (i := 3) (v := nv e) 34 rfl rfl (by kernel_rfl) (by kernel_rfl) (by kernel_rfl) (fun _ _ _ h => h) (Or.inl ⟨by kernel_rfl, fun w' hS' => ?y3⟩) hS ?_
          case y3 => (obtain ⟨s0, s1, s2, s3, s4, s5⟩ := hS'; go_simp)
          simp only [Act.put, List.setIfInBounds_toArray, List.set_cons_zero, List.set_cons_succ]
          refine wpAnyH_take_d (i := 4) (v := .func (.func gf) #[] lb) 35 rfl rfl (by kernel_rfl) (by kernel_rfl) (by kernel_rfl) (fun _ _ _ h => h) (Or.inl ⟨by kernel_rfl, fun w' hS' => ?y4⟩) hS ?_
          case y4 => (obtain ⟨s0, s1, s2, s3, s4, s5⟩ := hS'; go_simp)
          simp only [Act.put, List.setIfInBounds_toArray, List.set_cons_zero, List.set_cons_succ]
          refine wpAnyH_ready (rs := [5]) (by kernel_rfl) (by simp) ?_
          refine AllReadyH.cons rfl (fun K hK => ?_) AllReadyH.nil
          go_simp
          refine HC.out.mono ?_
          rintro r w6 ⟨U, rfl, hU1, hU2, hU3, hU4, hU5⟩
          have hsw := HSW.out w6 hU3 hU4
          refine hK.out _ _ hsw (fun _ => ?_)
          clear hK K
          try simp only [Act.put, List.setIfInBounds_toArray, List.set_cons_zero, List.set_cons_succ]
          obtain ⟨d1, -, d3, d4, d5, d6, d7, d8, d10', d11⟩ := HALL.out
          have old6 : ∀ q, W.heap.size ≤ q → q < wr.heap.size → w6.heap[q]? = wr.heap[q]? := fun q h1 h2 => (hU4 q (.inr ⟨h1, by omega⟩) (by show _ < (wr.alloc _).heap.size; simp; omega)).trans (Below.heap_alloc wr _ _ h2)
          have hs6 : wr.heap.size + 1 ≤ w6.heap.size := by have := hU3; show _ ≤ _; exact (show (wr.alloc (.cells (ncc e) 30)).heap.size = wr.heap.size + 1 by simp) ▸ this
          have hrow := (old6 (W.heap.size + 1 + 1) (by omega) (by omega)).trans d5
          obtain ⟨w7, hw7⟩ : ∃ w7, set5o w6 (W.heap.size + 1 + 1) (j * 5) U = w7 := ⟨_, rfl⟩
          have hs7 : w7.heap.size = w6.heap.size := by rw [← hw7, set5o_size]
          have oth7 : ∀ q, q ≠ W.heap.size + 1 + 1 → w7.heap[q]? = w6.heap[q]? := fun q h => by rw [← hw7]; exact set5o_other _ h U
          have hj5 : j * 5 + 5 ≤ cs.size := by rw [d5']; omega
          have hD7 : ChI f J k g t a kids s X W (j + 1) (m ++ [U]) (cg f e sj).2 w7 := by
            obtain ⟨t1, t2⟩ := cgs_take f s HE.out
            refine ⟨by simp [d1], by omega, (oth7 _ (by omega)).trans ((old6 _ (by omega) (by omega)).trans d3), (oth7 _ (by omega)).trans ((old6 _ (by omega) (by omega)).trans d4), ⟨_, by rw [← hw7]; exact set5o_self hrow U, by simpa using d5'⟩, ?_, ?_, ?_, ?_, ?_, ?_⟩
            · intro i x hx
              by_cases hi : i < j
              · rw [List.getElem?_append_left (by omega)] at hx
                have h6 := (d6 i x hx).keep (w' := w6) (fun q => cell_of (old6 _ (by omega) (by omega)))
                rw [← hw7]
                refine ⟨(set5o_far hrow (by omega) U).trans h6.1, (set5o_far hrow (by omega) U).trans h6.2.1, (set5o_far hrow (by omega) U).trans h6.2.2.1, (set5o_far hrow (by omega) U).trans h6.2.2.2.1, (set5o_far hrow (by omega) U).trans h6.2.2.2.2⟩
              · rw [List.getElem?_append_right (by omega)] at hx
                have hi0 : i - m.length = 0 := by
                  have := (List.getElem?_eq_some_iff.1 hx).1
                  simp at this; omega
                rw [hi0] at hx
                simp at hx
                subst hx
                have hij : i = j := by
                  have h9 := d1
                  omega
                rw [hij, ← hw7]
                exact set5o_at hrow hj5 U
            · intro x hx
              rcases List.mem_append.1 hx with hx | hx
              · exact (d7 x hx).keep (fun q i hq => cell_of ((oth7 q (by have := hq.1; omega)).trans (old6 q (by have := hq.1; omega) hq.2))) (fun q hq => ⟨hq.1, by have := hq.2; omega⟩)
              · rw [List.mem_singleton.1 hx]
                exact hU2.keep (fun q i hq => cell_of (oth7 q (by have h9 : wr.heap.size + 1 ≤ q := (show (wr.alloc (.cells (ncc e) 30)).heap.size = wr.heap.size + 1 by simp) ▸ hq.1; omega))) (fun q hq => ⟨by have h9 : wr.heap.size + 1 ≤ q := (show (wr.alloc (.cells (ncc e) 30)).heap.size = wr.heap.size + 1 by simp) ▸ hq.1; omega, by have := hq.2; omega⟩)
            · refine Kept.trans (by omega) (Kept.trans (by omega) d8 (Kept.trans (by simp) (Kept.alloc X wr (.cells (ncc e) 30)) (fun q hq hlt => hU4 q (.inl hq) hlt))) ?_
              intro q hq _
              exact oth7 q (by have := HX.out q hq; omega)
            · have h5 : J (cg f e sj).2 (wth (fun q => X q ∨ W.heap.size ≤ q ∧ q < wr.heap.size + 1) (wr.alloc (.cells (ncc e) 30)).drew w6) w7 := by
                rw [← hw7]; exact (hJ _).off hU5 (off_set5o (.inl (.inr ⟨by omega, by omega⟩)) _ _ _)
              refine (hJ _).less h5 (fun q h => ?_)
              rcases h with h | ⟨h1, h2⟩
              · exact .inl (.inl h)
              · by_cases hq : q < wr.heap.size + 1
                · exact .inl (.inr ⟨h1, hq⟩)
                · refine .inr ⟨?_, by omega⟩
                  show (wr.alloc _).heap.size ≤ q
                  simp; omega
            · rw [List.map_append, d10', t1]; simp [hU1, d11]
            · rw [t2, d11]
          have HD7 := Lib.hid hD7
          have HW7 := Lib.hid hw7
          have HROW6 := Lib.hid (And.intro hrow hj5)
          have hsw7 : w7.cell? ⟨W.heap.size, 4, none⟩ = some (.slice (some ⟨W.heap.size + 1 + 1, 0, none⟩) kids.length kids.length) ∧ w7.cell? ⟨wr.heap.size, 0, none⟩ = some (.int .i64 e.k) ∧ w7.cell? ⟨wr.heap.size, 1, none⟩ = some (.string e.g) ∧ w7.cell? ⟨wr.heap.size, 2, none⟩ = some (.string e.t) ∧ w7.cell? ⟨wr.heap.size, 3, none⟩ = some (.int .i64 e.a) ∧ w7.cell? ⟨wr.heap.size, 4, none⟩ = some (.slice e.A e.kids.length e.c) :=
            ⟨(cell_of (oth7 _ (by omega))).trans hsw.1, (cell_of (oth7 _ (by omega))).trans hsw.2.1, (cell_of (oth7 _ (by omega))).trans hsw.2.2.1, (cell_of (oth7 _ (by omega))).trans hsw.2.2.2.1, (cell_of (oth7 _ (by omega))).trans hsw.2.2.2.2.1, (cell_of (oth7 _ (by omega))).trans hsw.2.2.2.2.2⟩
          clear hD7 hw7 hrow hj5 old6 oth7 d1 d3 d4 d5 d6 d7 d8 d10' d11 hU1 hU2 hU3 hU4 hU5
          refine wpAnyH_take_d (i := 6) (v := .pointer (some ⟨W.heap.size + 1 + 1, j * 5, none⟩)) 37 rfl rfl (by kernel_rfl) (by kernel_rfl) (by kernel_rfl) (fun _ _ _ h => h) (Or.inl ⟨by kernel_rfl, fun w' hS' => ?y6⟩) hsw ?_
          case y6 => (obtain ⟨s0, s1, s2, s3, s4, s5⟩ := hS'; go_simp)
          simp only [Act.put, List.setIfInBounds_toArray, List.set_cons_zero, List.set_cons_succ]
          refine wpAnyH_ready (rs := [7]) (by kernel_rfl) (by simp) ?_
          refine AllReadyH.cons rfl (fun K hK => ?_) AllReadyH.nil
          refine step_store_at (by rfl) 30 (.tmp 37) (.tmp 36) (by rfl) size_tnode (W.heap.size + 1 + 1) (j * 5) U (by rfl) (by rfl) HROW6.out.1 HROW6.out.2 ?_
          rw [HW7.out]
          refine hK.out _ _ hsw7 (fun _ => ?_)
          clear hK K hsw hsw7 hS
          refine wpAnyH_done (by kernel_rfl) ?_ _
          refine hK0 _ _ ?_
          go_wp2
          go_roundw
          case rel => exact ⟨j + 1, m ++ [U], (cg f e sj).2, by go_num, by omega, HD7⟩
          case measure => simp [intOf]; omega
        · obtain rfl : j = kids.length := by omega
          have c0 := cell_heap d3 (i := 0)
          have c1 := cell_heap d3 (i := 1)
          have c2 := cell_heap d3 (i := 2)
          have c3 := cell_heap d3 (i := 3)
          have c4 := cell_heap d3 (i := 4)
          have r0 := cell_heap d4 (i := 0)
          have r1 := cell_heap d4 (i := 1)
          have r2 := cell_heap d4 (i := 2)
          have r3 := cell_heap d4 (i := 3)
          have r4 := cell_heap d4 (i := 4)
          have fr : ∀ i, wr.frozen? ⟨W.heap.size + 1, i, none⟩ = false := fun i => frozen_heap d4
          simp only [List.getElem?_toArray, List.getElem?_cons_zero, List.getElem?_cons_succ] at c0 c1 c2 c3 c4 r0 r1 r2 r3 r4
          have hml : m.length = kids.length := d1
          have HS5 := Lib.hid (set5_self d4 ⟨k, g, t, a, some ⟨W.heap.size + 1 + 1, 0, none⟩, kids.length, m⟩)
          have hoth : ∀ q, q ≠ W.heap.size + 1 → (set5 wr (W.heap.size + 1) ⟨k, g, t, a, some ⟨W.heap.size + 1 + 1, 0, none⟩, kids.length, m⟩).heap[q]? = wr.heap[q]? := fun q h => set5_other h _
          have HP : Hid (ChV f J ⟨k, g, t, a, A, c, kids⟩ s X W (.returned (nv ⟨k, g, t, a, some ⟨W.heap.size + 1 + 1, 0, none⟩, kids.length, m⟩)) (set5 wr (W.heap.size + 1) ⟨k, g, t, a, some ⟨W.heap.size + 1 + 1, 0, none⟩, kids.length, m⟩)) := Lib.hid (by
            refine ⟨⟨k, g, t, a, some ⟨W.heap.size + 1 + 1, 0, none⟩, kids.length, m⟩, rfl, ?_, tn_iff.2 ⟨HRG.out, fun _ => ⟨W.heap.size + 1 + 1, 0, rfl, ⟨by omega, by rw [set5_size]; omega⟩, fun i x hx => ?_⟩, fun x hx => ?_⟩, by rw [set5_size]; omega, ?_, ?_⟩
            · rw [HCG.out.1, pl_eq]
              simp only [d10, List.take_length]
            · rw [Nat.zero_add]
              exact (d6 i x hx).keep (fun q => cell_of (hoth _ (by omega)))
            · exact (d7 x hx).keep (fun q i hq => cell_of (hoth q (by have := hq.1; omega))) (fun q hq => ⟨by have := hq.1; omega, by rw [set5_size]; exact hq.2⟩)
            · exact Kept.trans (by omega) d8 (fun q hq _ => hoth q (by have := HX.out q hq; omega))
            · rw [HCG.out.2]
              have h5 := (hJ sj).off d9 (off_set5 (X := wth X W wr) (b := W.heap.size + 1) (.inr ⟨by omega, by omega⟩) wr ⟨k, g, t, a, some ⟨W.heap.size + 1 + 1, 0, none⟩, kids.length, m⟩)
              rw [d11, List.take_length] at h5
              exact (hJ _).less h5 (fun q h => h.imp id fun h => ⟨h.1, by rw [set5_size] at h; exact h.2⟩))
          have hW9 : set5 wr (W.heap.size + 1) ⟨k, g, t, a, some ⟨W.heap.size + 1 + 1, 0, none⟩, kids.length, m⟩ = (((((wr.setCell ⟨W.heap.size + 1, 0, none⟩ (.int .i64 k)).setCell ⟨W.heap.size + 1, 1, none⟩ (.string g)).setCell ⟨W.heap.size + 1, 2, none⟩ (.string t)).setCell ⟨W.heap.size + 1, 3, none⟩ (.int .i64 a)).setCell ⟨W.heap.size + 1, 4, none⟩ (.slice (some ⟨W.heap.size + 1 + 1, 0, none⟩) kids.length kids.length)) := by simp only [set5, hml]
          have hnv : nv ⟨k, g, t, a, some ⟨W.heap.size + 1 + 1, 0, none⟩, kids.length, m⟩ = .agg #[.int .i64 k, .string g, .string t, .int .i64 a, .slice (some ⟨W.heap.size + 1 + 1, 0, none⟩) kids.length kids.length] := by simp only [nv, hml]
          rw [hW9, hnv] at HP
          rw [hW9] at HS5
          simp only [ncc, hml] at HS5
          clear hW9 hnv
          clear d1 d2 d3 d4 d5 d5' d6 d7 d8 d9 d10 d11 hml hoth
          go_wp2
          have g0 := cell_heap HS5.out (i := 0)
          have g1 := cell_heap HS5.out (i := 1)
          have g2 := cell_heap HS5.out (i := 2)
          have g3 := cell_heap HS5.out (i := 3)
          have g4 := cell_heap HS5.out (i := 4)
          simp only [List.getElem?_toArray, List.getElem?_cons_zero, List.getElem?_cons_succ] at g0 g1 g2 g3 g4
          exact bodyPost_ret (v := .agg #[.int .i64 k, .string g, .string t, .int .i64 a, .slice (some ⟨W.heap.size + 1 + 1, 0, none⟩) kids.length kids.length]) (by simp [results, Tryz.results45, go_sem, g0, g1, g2, g3, g4]) rfl HP.out
end Go.Proofs.YtfmlcddakfbleaaGreatDoor
