/- cursor.New. -/
import Derived.Test.YtfmlcddakfbleaaGreatDoorCurAny
namespace Go.Proofs.YtfmlcddakfbleaaGreatDoor
open Go.RowKit SignMath TreeMath

theorem ch_pair {n : Nat} : ∀ {L : List Tk} {a : Nat}, Ch n a L → L.Pairwise (fun x y => x.z ≤ y.a) ∧ ∀ x ∈ L, a ≤ x.a
  | [], _, _ => ⟨List.Pairwise.nil, fun _ h => by cases h⟩
  | t :: r, a, h => by
    obtain ⟨h1, h2, h3, h4⟩ := h
    obtain ⟨p, q⟩ := ch_pair h4
    refine ⟨List.pairwise_cons.2 ⟨q, p⟩, fun x hx => ?_⟩
    rcases List.mem_cons.1 hx with rfl | hx
    · omega
    · have := q x hx; omega

/-- the cursor ahead of a text's first token -/
def cu0 (s : ByteArray) : Cu := ⟨s, rls (tk (bs s) 0), 0, 0, 0, 0⟩
theorem cu0_ok (s : ByteArray) (hs : s.size ≤ 4000) : (cu0 s).Ok := by
  have hch := tk_chain (bs s) _ 0 (Nat.le_refl _) (Nat.zero_le _)
  rw [bs_size] at hch
  have hb := chain_bound hch
  have hp := (ch_pair hch).1.filter (fun t => decide (2 < t.k))
  have hl := tk_size s
  have hr := rls_len (tk (bs s) 0)
  refine ⟨Nat.zero_le _, hs, ?_, fun t ht => hb t (List.mem_filter.1 ht).1, fun i x y hx hy => ?_, Nat.zero_le _, ⟨Int.le_refl _, by show (0 : Int) ≤ 15; omega⟩, ⟨Int.le_refl _, by show (0 : Int) ≤ 4000; omega⟩⟩
  · show (rls (tk (bs s) 0)).length ≤ 4000
    omega
  · obtain ⟨hi, rfl⟩ := List.getElem?_eq_some_iff.1 hx
    obtain ⟨hj, rfl⟩ := List.getElem?_eq_some_iff.1 hy
    exact List.pairwise_iff_getElem.1 hp i (i + 1) hi hj (by omega)

/-- what New answers -/
def NewV (s : ByteArray) (w : World) (e : Ending) (w' : World) : Prop :=
  if 4000 < s.size then e = .returned (.tuple #[.pointer none, .int .i64 4000, errn 4]) ∧ Below w.heap.size w w'
  else match bad (tk (bs s) 0) with
    | some t => e = .returned (.tuple #[.pointer none, .int .i64 (t.a : Nat), errn 2]) ∧ Below w.heap.size w w'
    | none => ∃ b A c, e = .returned (.tuple #[.pointer (some ⟨b, 0, none⟩), .int .i64 0, .nilIface]) ∧ w.heap.size ≤ b ∧ CuM b A c (cu0 s) w' ∧ Below w.heap.size w w'

set_option maxRecDepth 100000 in
set_option maxHeartbeats 2000000 in
theorem new_any (s : ByteArray) (w : World) (hL : LaidX w) : Calls Tryz.prog 22 #[.string s] w (NewV s w) := by
  unfold NewV
  by_cases hs : 4000 < s.size
  · simp only [if_pos hs]
    have z1 : (4000 : Int) < (s.size : Nat) := by omega
    clear hs hL
    go_enter Tryz.func22, Tryz.ntmps22
    go_wp2
    refine bodyPost_ret (v := .tuple #[.pointer none, .int .i64 4000, errn 4]) (by simp [results, Tryz.results22, go_sem]) rfl ⟨rfl, Below.refl _ _⟩
  · simp only [if_neg hs]
    have z1 : ¬ (4000 : Int) < (s.size : Nat) := by omega
    have HR := Lib.hid (real_any s (by omega) w hL)
    unfold RlV rlT rlA rlE at HR
    unfold cu0
    cases hbd : bad (tk (bs s) 0) with
    | some t =>
      simp only [hbd] at HR ⊢
      clear hs hL hbd
      go_enter Tryz.func22, Tryz.ntmps22
      go_wp2_with fail
      refine HR.out.mono ?_
      rintro e w1 ⟨A, c, rfl, -, -, hb⟩
      go_wp2
      refine bodyPost_ret (v := .tuple #[.pointer none, .int .i64 (t.a : Nat), errn 2]) (by simp [results, Tryz.results22, go_sem]) rfl ⟨rfl, hb⟩
    | none =>
      simp only [hbd] at HR ⊢
      generalize rls (tk (bs s) 0) = L at HR ⊢
      clear hs hL hbd
      go_enter Tryz.func22, Tryz.ntmps22
      go_wp2_with fail
      refine HR.out.mono ?_
      rintro e w1 ⟨A, c, rfl, hr, hA, hb⟩
      have hal := heap_alloc_new w1 (cubx ⟨s, L, 0, 0, 0, 0⟩ A c)
      have hr2 := hr.after (below1 w1 (cubx ⟨s, L, 0, 0, 0, 0⟩ A c))
      have hne : 0 < (tcells L).length → ∀ a, A = some a → a.block ≠ w1.heap.size := fun hn a ha => by
        obtain ⟨g, off, e, hg, -⟩ := hr hn
        rw [ha] at e; injection e with e; rw [e]; show g ≠ _; omega
      have HH := Lib.hid (show CuM w1.heap.size A c ⟨s, L, 0, 0, 0, 0⟩ (w1.alloc (cubx ⟨s, L, 0, 0, 0, 0⟩ A c)) from ⟨hal, hr2, hne⟩)
      have HB := Lib.hid (And.intro hb.size (hb.trans ((below1 w1 (cubx ⟨s, L, 0, 0, 0, 0⟩ A c)).mono hb.size)))
      clear hal hr2 hne hr hA hb
      go_wp2
      refine bodyPost_ret (v := .tuple #[.pointer (some ⟨w1.heap.size, 0, none⟩), .int .i64 0, .nilIface]) (by simp [results, Tryz.results22, go_sem]) rfl ⟨w1.heap.size, A, c, rfl, HB.out.1, HH.out, HB.out.2⟩
end Go.Proofs.YtfmlcddakfbleaaGreatDoor
