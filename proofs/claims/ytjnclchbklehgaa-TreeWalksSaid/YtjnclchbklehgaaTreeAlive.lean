/- alive: the chapter's example is right, has its text and stands right. -/
import Derived.Test.YtjnclchbklehgaaTreeMake
namespace Go.Proofs.Ytjnclchbklehgaa
open Go.RowKit TreeMath

theorem tk_block {w : World} {b : Nat} {l : List Tr} {S : Nat → Prop} (h : w.heap[b]? = some (.cells (ncells l).toArray 25 (0, 0))) (hS : S b) : Tks S w (some ⟨b, 0, none⟩) l :=
  fun _ => ⟨b, 0, rfl, hS, fun i x hx => at5_of (fun j u hu => by rw [cell_heap h, Nat.zero_add]; simpa using hu) hx⟩
theorem lk_exI : lk exI := fun x hx hk => by
  rw [ns_exI] at hx
  rcases List.mem_cons.1 hx with h | h
  · rw [h] at hk; simp [exI] at hk
  · rw [List.mem_singleton.1 h]; rfl
theorem rng0 : rng 0 := ⟨by omega, by omega⟩

set_option maxRecDepth 100000 in
set_option maxHeartbeats 2000000 in
theorem alive_any (w : World) : Calls Try.prog 7 #[] w fun e w' => e = .returned (.bool true) ∧ Below w.heap.size w w' := by
  go_enter Try.func7, Try.ntmps7
  go_wp2_with fail
  refine (token_any ⟨#[]⟩ ⟨#[33]⟩ 0 _).mono ?_
  rintro e w1 ⟨rfl, hb1⟩
  go_wp2_with fail
  refine (token_any ⟨#[32]⟩ ⟨#[97]⟩ 2 _).mono ?_
  rintro e w2 ⟨rfl, hb2⟩
  have hR : ∀ S W, Tn S W exR := fun S W => tn_iff.2 ⟨⟨by decide, by decide⟩, fun h => by simp [exR] at h, fun x hx => by cases hx⟩
  have hL : ∀ S W, Tn S W exL := fun S W => tn_iff.2 ⟨⟨by decide, by decide⟩, fun h => by simp [exL] at h, fun x hx => by cases hx⟩
  have hbk := heap_alloc_new w2 (.cells (ncells [exR]).toArray 25)
  have hp1 : pl ⟨28, ⟨#[]⟩, ⟨#[]⟩, 0, some ⟨w2.heap.size, 0, none⟩, 1, [exR]⟩ = exI := by rw [pl_eq]; simp [pl_eq, exI, exR]
  have hpI : pl exI = exI := by rw [← hp1, pl_pl]
  have HM := Lib.hid (make_any 28 (some ⟨w2.heap.size, 0, none⟩) 1 [exR] (w2.alloc (.cells (ncells [exR]).toArray 25))
    (lk_of (hp1.trans hpI.symm) lk_exI)
    (by rw [← wt_pl, hp1, wt_exI]; omega)
    (tn_iff.2 ⟨rng0, tk_block hbk (by show _ < _; simp), fun x hx => by rw [List.mem_singleton.1 hx]; exact hR _ _⟩))
  rw [hp1] at HM
  have HB2 := Lib.hid (hb1.trans (hb2.mono hb1.size))
  have HB2a := Lib.hid (below1 w2 (.cells (ncells [exR]).toArray 25))
  have HH := Lib.hid (And.intro hR hL)
  have HPI := Lib.hid hpI
  clear hbk hp1 hR hL hpI hb1 hb2
  go_wp2_with fail
  refine HM.out.mono ?_
  rintro e w3 ⟨U1, rfl, h1, h2, h3⟩
  have hb3 : Below w.heap.size w w3 := HB2.out.trans ((HB2a.out.trans (h3.mono (by simp))).mono HB2.out.size)
  obtain ⟨hR, hL⟩ := HH.out
  have hbk := heap_alloc_new w3 (.cells (ncells [exL, U1]).toArray 25)
  have hp2 : pl ⟨21, ⟨#[]⟩, ⟨#[]⟩, 0, some ⟨w3.heap.size, 0, none⟩, 2, [exL, U1]⟩ = exN := by rw [pl_eq]; simp [h1, exN, pl_eq exL]; simp [exL]
  have hpN : pl exN = exN := by rw [← hp2, pl_pl]
  have HM2 := Lib.hid (make_any 21 (some ⟨w3.heap.size, 0, none⟩) 2 [exL, U1] (w3.alloc (.cells (ncells [exL, U1]).toArray 25))
    (lk_of (hp2.trans hpN.symm) (lk_rgt rgt_exN))
    (by rw [← wt_pl, hp2, wt_exN]; omega)
    (tn_iff.2 ⟨rng0, tk_block hbk (by show _ < _; simp), fun x hx => by
      rcases List.mem_cons.1 hx with rfl | hx
      · exact hL _ _
      · rw [List.mem_singleton.1 hx]; exact (h2.all.alloc (Nat.le_refl _) _).more (by simp)⟩))
  rw [hp2] at HM2
  have HB3 := Lib.hid (hb3.trans ((below1 w3 (.cells (ncells [exL, U1]).toArray 25)).mono hb3.size))
  have HPN := Lib.hid hpN
  clear hbk hp2 hR hL hpN h1 h2 h3 hb3
  go_wp2_with fail
  refine HM2.out.mono ?_
  rintro e w4 ⟨U, rfl, h1, h2, h3⟩
  have hb4 : Below w.heap.size w w4 := HB3.out.trans (h3.mono HB3.out.size)
  have hT := h2.all
  have hw : wt U ≤ 5000 := by rw [← wt_pl, h1, wt_exN]; omega
  have hsm := same_of (h1.trans HPN.out.symm)
  have hrg : rgt U = true := by rw [hsm.1, rgt_exN]
  have htx : tx (lf U) = ⟨#[33, 32, 97]⟩ := by rw [hsm.2.2.2.1, tx_exN]
  have hst : stb 0 (lf U) = true := by rw [← stb_pl, hsm.2.2.2.2, stb_pl, stb_exN]
  have HB4 := Lib.hid (hb4.trans ((below1 w4 (nbx U)).mono hb4.size))
  have HR := Lib.hid (right_any U (w4.alloc (nbx U)) ((hT.below (below1 w4 _)).more (by simp)) hw)
  rw [hrg] at HR
  have HTT := Lib.hid (And.intro hT (And.intro hw (And.intro hrg (And.intro htx hst))))
  clear h1 h2 h3 hb4 hT hw hsm hrg htx hst
  go_wp2_with fail
  refine HR.out.mono ?_
  rintro e w5 ⟨rfl, hb5⟩
  obtain ⟨hT, hw, hrg, htx, hst⟩ := HTT.out
  have hc5 := cell_new5 hb5
  have hT5 := (hT.below ((below1 w4 _).trans (hb5.mono (by simp)))).more (show w4.heap.size ≤ w5.heap.size by have := hb5.size; simp at this; omega)
  have HX := Lib.hid (text_any U w5 hT5 hw)
  rw [hrg, if_pos rfl, htx] at HX
  have HT5 := Lib.hid hT5
  clear hT hw hrg htx hst hT5
  go_wp2_with fail
  refine HX.out.mono ?_
  rintro e w6 ⟨rfl, hb6⟩
  obtain ⟨hT, hw, hrg, htx, hst⟩ := HTT.out
  have hb56 := hb5.trans (hb6.mono hb5.size)
  have hc6 := cell_new5 hb56
  have HS := Lib.hid (stands_any U 0 w6 (HT5.out.after hb6) hw)
  rw [hrg, hst] at HS
  clear hT hw hrg htx hst hc5
  go_wp2_with fail
  refine HS.out.mono ?_
  rintro e w7 ⟨rfl, hb7⟩
  go_wp2
  go_ret
  exact ⟨rfl, HB4.out.trans ((hb56.trans (hb7.mono hb56.size)).mono HB4.out.size)⟩
end Go.Proofs.Ytjnclchbklehgaa
