/- The reference's Join in lists: what is read at a place, and how long things are. -/
import Derived.Test.YtgfafinpcpiogaaShiftJoinMath
namespace Go.Proofs.Ytgfafinpcpiogaa.ShiftMath
open EditMath

theorem jput_le (st : JS) (to : Int) : (jput st to).length ≤ st.out.length + 1 := by
  unfold jput; split <;> simp
theorem jst_len (B : List By) : (jst B).out.length ≤ B.length ∧ (jst B).tx.length ≤ B.length := by
  suffices h : ∀ (B : List By) (st : JS), (B.foldl jstep st).out.length ≤ st.out.length + B.length ∧ (B.foldl jstep st).tx.length ≤ st.tx.length + B.length by
    have := h B ⟨[], 0, []⟩; simpa [jst] using this
  intro B
  induction B with
  | nil => intro st; simp
  | cons b B ih =>
    intro st
    rw [List.foldl_cons]
    obtain ⟨h1, h2⟩ := ih (jstep st b)
    have h3 : (jstep st b).out.length ≤ st.out.length + 1 ∧ (jstep st b).tx.length ≤ st.tx.length + 1 := by
      unfold jstep
      split
      · simp
      · exact ⟨jput_le st b.1, by simp⟩
    simp only [List.length_cons]
    omega
theorem jst_take {D : List By} {k : Nat} {d : By} (h : D[k]? = some d) : jst (D.take (k + 1)) = jstep (jst (D.take k)) d := by
  rw [List.take_add_one, h]; exact jst_snoc _ _

/-- where a byte of the last text stood -/
theorem src_top {b : List Ed} {m : Int} (hb : rt b m = true) : ∀ y ∈ srcOf (pcs b m), y < m ∨ y < 0 := by
  intro y hy
  have top := (pcs_asc hb).top (pcs_pos hb).2.1
  unfold srcOf at hy
  obtain ⟨p, hp, hy⟩ := List.mem_flatMap.1 hy
  unfold bs at hy
  split at hy
  · rename_i hw
    left
    have := top p hp hw
    unfold rangeI at hy
    simp at hy
    omega
  · right
    have := List.eq_of_mem_replicate hy
    omega
theorem bys_at {L : List Pc} {k : Nat} {y : Int} (h : (srcOf L)[k]? = some y) : ∃ ch, (textOf L)[k]? = some ch ∧ (bysOf L)[k]? = some (y, ch) := by
  have hl := src_text L
  have hlt := (List.getElem?_eq_some_iff.1 h).1
  refine ⟨(textOf L)[k], List.getElem?_eq_getElem (by omega), ?_⟩
  rw [bysOf_zip, List.getElem?_zip_eq_some]
  exact ⟨h, List.getElem?_eq_getElem (by omega)⟩
end Go.Proofs.Ytgfafinpcpiogaa.ShiftMath
