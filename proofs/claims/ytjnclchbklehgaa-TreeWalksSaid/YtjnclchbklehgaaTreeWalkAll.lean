/- tree.Walk, whole. -/
import Derived.Test.YtjnclchbklehgaaTreeWalk
namespace Go.Proofs.Ytjnclchbklehgaa
open Go.RowKit Go.Shelf TreeMath

theorem pls_pl (T : Tr) : (wk 0 (pl T)).map plp = (wk 0 T).map plp := by
  rw [wk_pl, List.map_map]
  exact List.map_congr_left fun p _ => by simp only [Function.comp, plp, pl_pl]
theorem pls_of {T U : Tr} (h : pl U = pl T) : (wk 0 U).map plp = (wk 0 T).map plp := by rw [← pls_pl U, h, pls_pl]

/-- what tree.Walk answers -/
def WkV (T : Tr) (w : World) (e : Ending) (w' : World) : Prop := Below w.heap.size w w' ∧ ((rgt T = false ∧ e = .returned (.func (.func 40) #[] #[])) ∨
  (rgt T = true ∧ ∃ b U, e = .returned (.func (.func 42) #[] #[.pointer (some ⟨b, 0, none⟩)]) ∧ w.heap.size ≤ b ∧ w'.heap[b]? = some (nbx U) ∧ pl U = pl T ∧ Tn (nw w.heap.size w') w' U))

set_option maxRecDepth 100000 in
set_option maxHeartbeats 800000 in
theorem walkAll_any (T : Tr) (w : World) (hw : wt T ≤ 5000) (hT : Tn (lo w.heap.size) w T) :
    Calls Try.prog 20 #[nv T] w (WkV T w) := by
  have hB1 := below1 w (nbx T)
  have HR := Lib.hid (right_any T (w.alloc (nbx T)) ((hT.below hB1).more hB1.size) hw)
  have HCP : Hid (rgt T = true → ∀ W, Below w.heap.size w W → Calls Try.prog 41 #[nv T] W (CpV (pl T) W)) := Lib.hid fun hr W hW =>
    copied_any T W (fun x hx hk => (snd_leaf (rgt_node hr hx) hk).2.2) hw ((hT.below hW).more hW.size)
  have HB := Lib.hid hB1
  clear hB1 hw hT
  unfold WkV
  go_enter Try.func20, Try.ntmps20
  cases hr : rgt T with
  | false =>
    rw [hr] at HR
    go_wp2_with fail
    refine HR.out.mono ?_
    rintro e w1 ⟨rfl, hb1⟩
    have HB1 := Lib.hid (HB.out.trans (hb1.mono HB.out.size))
    clear hb1
    go_wp2
    go_ret
    exact ⟨HB1.out, rfl⟩
  | true =>
    rw [hr] at HR
    go_wp2_with fail
    refine HR.out.mono ?_
    rintro e w1 ⟨rfl, hb1⟩
    have hc1 := box5 hb1
    have HB1 := Lib.hid (HB.out.trans (hb1.mono HB.out.size))
    clear hb1
    go_wp2_with fail
    refine (HCP.out hr w1 HB1.out).mono ?_
    rintro e w2 ⟨U, rfl, hU, hTU, hb2⟩
    have hsz := HB1.out.size
    have hb3 := below1 w2 (.cells z5 25)
    have hb3' : Below w2.heap.size w2 (set5 (w2.alloc (.cells z5 25)) w2.heap.size U) := below_set5 hb3 (Nat.le_refl _) U
    obtain ⟨W3, hW3⟩ : ∃ W3, set5 (w2.alloc (.cells z5 25)) w2.heap.size U = W3 := ⟨_, rfl⟩
    rw [hW3] at hb3'
    have HN := Lib.hid (heap_alloc_new w2 (.cells z5 25))
    have HS : Hid (W3.heap[w2.heap.size]? = some (nbx U)) := Lib.hid (by rw [← hW3]; exact set5_self (heap_alloc_new w2 _) U)
    have HW : Hid (Below w.heap.size w W3) := Lib.hid (HB1.out.trans ((hb2.trans (hb3'.mono hb2.size)).mono hsz))
    have HT : Hid (Tn (nw w.heap.size W3) W3 U) := Lib.hid (hTU.keep (fun b i hb => cell_of (hb3'.block b hb.2)) (fun b hb => ⟨Nat.le_trans hsz hb.1, Nat.lt_of_lt_of_le hb.2 hb3'.size⟩))
    have HL : Hid (w.heap.size ≤ w2.heap.size) := Lib.hid (Nat.le_trans hsz hb2.size)
    have HW3 := Lib.hid hW3
    clear hb3 hb3' hTU hb2 hW3 hsz hc1
    go_wp2_with (refine wpList_store_node (by rfl) 25 (.tmp 3) (.tmp 8) (by rfl) size_tnode w2.heap.size U (by rfl) (by rfl) HN.out ?_; rw [HW3.out])
    go_ret
    exact ⟨HW.out, w2.heap.size, rfl, HL.out, U, HS.out, hU, HT.out⟩
end Go.Proofs.Ytjnclchbklehgaa
