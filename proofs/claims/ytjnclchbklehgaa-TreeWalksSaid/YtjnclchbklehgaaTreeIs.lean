/- The law's own question: is a tree the same as one of the document's? -/
import Derived.Test.YtjnclchbklehgaaTreeRefSame
import Derived.Test.YtjnclchbklehgaaTreeDoc
namespace Go.Proofs.Ytjnclchbklehgaa
open Go.RowKit TreeMath

set_option maxHeartbeats 1600000 in
theorem is_any (T U : Tr) (w : World) (hw : wt T ≤ 5000) (hv : wt U ≤ 5000) (hT : Tn (lo w.heap.size) w T) (hU : Tn (lo w.heap.size) w U) :
    Calls Try.prog 21 #[nv T, nv U] w (AlV T U w) := by
  have hB2 := below2 w (nbx T) (rbx U)
  have hT2 := (hT.below hB2).more hB2.size
  have hU2 := (hU.below hB2).more hB2.size
  have HD := Lib.hid (doc_any T 5000 ((w.alloc (nbx T)).alloc (rbx U)) (by omega) (by omega) (Szd.of hw) hT2)
  have HS : Hid (∀ (V : Tr) W, pl V = pl T → Below ((w.alloc (nbx T)).alloc (rbx U)).heap.size ((w.alloc (nbx T)).alloc (rbx U)) W → Tn (lo W.heap.size) W V → Calls Try.prog 27 #[nv V, nv U] W (AlV T U W)) :=
    Lib.hid fun V W hp hb hV => by
      have h1 := rsame_any V U W (by rw [(same_of hp).2.2.1]; exact hw) hv hV ((hU2.below hb).more hb.size)
      have h2 : sm V U = sm T U := by
        rw [Bool.eq_iff_iff, sm_iff, sm_iff, hp]
      unfold AlV at h1 ⊢
      rwa [h2] at h1
  have HB := Lib.hid hB2
  have HW := Lib.hid hw
  unfold AlV at HS ⊢
  obtain ⟨S, hS⟩ : ∃ S, sm T U = S := ⟨_, rfl⟩
  rw [hS] at HS ⊢
  clear hB2 hT2 hU2 hw hv hT hU hS
  go_enter Try.func21, Try.ntmps21
  go_wp2_with fail
  refine HD.out.mono ?_
  rintro r w1 ⟨V, l, rfl, hb1, hV, l1, l2, l3, l4⟩
  obtain ⟨hl, hp⟩ := l3 (by have := HW.out; omega)
  have hl0 : 0 ≤ l := by have := HW.out; omega
  have hb2 : Below ((w.alloc (nbx T)).alloc (rbx U)).heap.size ((w.alloc (nbx T)).alloc (rbx U)) (w1.alloc (rbx V)) := hb1.trans ((below1 w1 _).mono hb1.size)
  have hd1 := box5 hb1
  rw [World.size_alloc] at hd1
  have hsz : w.heap.size + 2 ≤ w1.heap.size := by have := hb1.size; simpa using this
  have HC := Lib.hid (HS.out V (w1.alloc (rbx V)) hp hb2 ((hV.all.below (below1 w1 _)).more (by simp)))
  have HB2 := Lib.hid hb2
  clear hp hl l1 l2 l3 l4 hb1 hb2 hV HD HS
  go_wp2_with fail
  refine HC.out.mono ?_
  rintro e w2 ⟨rfl, hb3⟩
  go_wp2
  go_ret
  exact ⟨rfl, HB.out.trans ((HB2.out.trans (hb3.mono HB2.out.size)).mono HB.out.size)⟩
end Go.Proofs.Ytjnclchbklehgaa
