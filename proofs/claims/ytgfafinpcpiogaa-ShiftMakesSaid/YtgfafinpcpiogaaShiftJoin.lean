/- Join. -/
import Derived.Test.YtgfafinpcpiogaaShiftPlain
import Derived.Test.YtgfafinpcpiogaaShiftKept
import Derived.Test.YtgfafinpcpiogaaEditGrowA
namespace Go.Proofs.Ytgfafinpcpiogaa
open Go.RowKit Go.Shelf EditMath ShiftMath

attribute [local go_sem] Oper.semAt_some

theorem wth_length (f t : Int) (P : List Pc) (n : Nat) : (wth f t P n).length ≤ P.length := by
  unfold wth
  rw [List.length_map]
  exact Nat.le_trans (List.Sublist.length_le (List.takeWhile_sublist _)) (by rw [List.length_drop]; omega)
theorem bhd_length (P1 P2 : List Pc) : (bhd P1 P2).length ≤ P2.length * (P1.length + 1) := by
  unfold bhd
  induction P2 with
  | nil => simp
  | cons p P2 ih =>
    have h1 : (bhd1 P1 p).length ≤ P1.length + 1 := by
      unfold bhd1
      split
      · have := wth_length p.f p.t P1 (sn P1 p.f); omega
      · simp
    rw [List.flatMap_cons, List.length_append, List.length_cons, Nat.add_mul, Nat.one_mul]
    omega
theorem cutP_size (f t : Int) (p : Pc) : (cutP f t p).s.size ≤ p.s.size := by
  unfold cutP
  split
  · exact Nat.zero_le _
  · simp only [ByteArray.size_extract]
    omega
theorem bhd_small {P1 P2 : List Pc} (h1 : ∀ p ∈ P1, PcOk p) (h2 : ∀ p ∈ P2, PcOk p) : ∀ p ∈ bhd P1 P2, p.s.size ≤ 10000000 := by
  intro p hp
  unfold bhd at hp
  obtain ⟨q, hq, hp⟩ := List.mem_flatMap.1 hp
  unfold bhd1 at hp
  split at hp
  · unfold wth at hp
    obtain ⟨r, hr, rfl⟩ := List.mem_map.1 hp
    have hr1 := List.mem_of_mem_drop ((List.takeWhile_sublist _).subset hr)
    have := cutP_size q.f q.t r
    obtain ⟨_, _, _, _, _, _, o⟩ := h1 r hr1
    omega
  · simp at hp
    subst hp
    obtain ⟨_, _, _, _, _, _, o⟩ := h2 p hq
    omega

set_option maxHeartbeats 400000 in
theorem behind_any (A : Option Addr) (n c gf : Nat) (lb : Array Value) (w : World) :
    Calls Try.prog 61 #[.slice A n c, .func (.func gf) #[] lb] w fun e w' =>
      e = .returned (.func (.func 94) #[] #[.pointer (some ⟨w.heap.size + 1, 0, none⟩), .pointer (some ⟨w.heap.size, 0, none⟩)]) ∧ (w.alloc (.cells #[.slice A n c] 103)).alloc (.cells #[.func (.func gf) #[] lb] 89) = w' := by
  have hmf : ∀ (fn : Fn) (first cap : Array Value) (w : World), (Instr.makeFunc fn first cap).run Try.prog w = .ok (.func fn first cap) w := fun _ _ _ _ => rfl
  go_enter Try.func61, Try.ntmps61
  go_wp2
  go_ret
  exact ⟨rfl, rfl⟩

def JoV (L : List Ed) (w : World) (e : Ending) (w' : World) : Prop := ∃ A c, e = .returned (.tuple #[.slice A L.length c, .nilIface]) ∧ Eds w' w'.heap.size A L ∧ Below w.heap.size w w'
def JoB (w : World) (e : Ending) (w' : World) : Prop := e = .returned (.tuple #[.slice none 0 0, errn 2]) ∧ Below w.heap.size w w'

section
variable (A0 A1 : Option Addr) (c0 c1 : Nat) (a b : List Ed) (size : Int) (w : World)
set_option maxRecDepth 100000 in
set_option maxHeartbeats 400000 in
theorem join_bad1 (hl : a.length ≤ 31) (hr : Eds w w.heap.size A0 a) (hsz : size ≤ 500) (htx : tx a ≤ 500) (hR : rt a size = false) :
    Calls Try.prog 24 #[.slice A0 a.length c0, .slice A1 b.length c1, .int .i64 size] w (JoB w) := by
  have HG := Lib.hid (grow_any A0 c0 a size (by omega) (by omega) w (by omega) hr)
  rw [show growV a size = .tuple #[.int .i64 0, errn 2] by simp [growV, hR]] at HG
  clear hR
  go_enter Try.func24, Try.ntmps24
  go_wp2_with (go_at_call 58; refine HG.out.mono ?_; rintro e w1 ⟨rfl, hB1⟩)
  go_ret2
  exact ⟨rfl, hB1⟩

set_option maxRecDepth 100000 in
set_option maxHeartbeats 400000 in
theorem join_bad2 (hl : a.length ≤ 31) (hl1 : b.length ≤ 31) (hr : Eds w w.heap.size A0 a) (hr1 : Eds w w.heap.size A1 b) (hz0 : 0 ≤ size) (hsz : size ≤ 500) (htx : tx a ≤ 500) (hg0 : -1000000 ≤ gr a) (hg1 : gr a ≤ 1000000) (hR : rt a size = true) (hR2 : rt b (size + gr a) = false) :
    Calls Try.prog 24 #[.slice A0 a.length c0, .slice A1 b.length c1, .int .i64 size] w (JoB w) := by
  have HG := Lib.hid (grow_any A0 c0 a size (by omega) (by omega) w (by omega) hr)
  rw [show growV a size = .tuple #[.int .i64 (gr a), .nilIface] by simp [growV, hR]] at HG
  have HR2 := Lib.hid hR2
  have hw : IntKind.i64.wrap (size + gr a) = size + gr a := IntWalk.i64_in _ (by omega)
  clear hR hR2
  go_enter Try.func24, Try.ntmps24
  go_wp2_with (first | (go_at_call 58; refine HG.out.mono ?_; rintro e w1 ⟨rfl, hB1⟩) | (go_at_call 49; refine (right_any A1 c1 b (size + gr a) _ (by omega) (hr1.after hB1)).mono ?_; rw [HR2.out]; rintro e w2 ⟨rfl, hB2⟩))
  go_ret2
  exact ⟨rfl, hB1.trans (hB2.mono hB1.size)⟩

set_option maxRecDepth 100000 in
set_option maxHeartbeats 1000000 in
theorem join_ok (hl : a.length ≤ 31) (hl1 : b.length ≤ 31) (hr : Eds w w.heap.size A0 a) (hr1 : Eds w w.heap.size A1 b) (hz0 : 0 ≤ size) (hsz : size ≤ 500) (htx : tx a ≤ 500) (htx1 : tx b ≤ 500) (hg0 : -1000000 ≤ gr a) (hg1 : gr a ≤ 500) (hR : rt a size = true) (hR2 : rt b (size + gr a) = true) :
    Calls Try.prog 24 #[.slice A0 a.length c0, .slice A1 b.length c1, .int .i64 size] w (JoV (jput (pst (bhd (pcs a size) (pcs b (size + gr a)))) size) w) := by
  have hz2 : 0 ≤ size + gr a := (rt_parts hR2).1
  have hs0 := small_of hR (by omega) (by omega)
  have hs1 := small_of hR2 (by omega) (by omega)
  have ok0 := pcs_ok hs0 hz0 (by omega)
  have ok1 := pcs_ok hs1 hz2 (by omega)
  have HG := Lib.hid (grow_any A0 c0 a size (by omega) (by omega) w (by omega) hr)
  rw [show growV a size = .tuple #[.int .i64 (gr a), .nilIface] by simp [growV, hR]] at HG
  have HR2 := Lib.hid hR2
  have hw : IntKind.i64.wrap (size + gr a) = size + gr a := IntWalk.i64_in _ (by omega)
  have hGood : Good (pcs a size) := ⟨(pcs_pos hR).1, fun p hp => ⟨(pcs_pos hR).2.1 p hp, ok0 p hp, pcs_len hR p hp⟩⟩
  have hok1 : ∀ p ∈ pcs b (size + gr a), Wf p ∧ PcOk p := fun p hp => ⟨(pcs_pos hR2).2.1 p hp, ok1 p hp⟩
  have HCo : Hid (∀ w1, Below w.heap.size w w1 →
      Calls Try.prog 56 #[.func (.func 90) #[] #[.pointer (some ⟨w1.heap.size, 0, none⟩), .pointer (some ⟨w1.heap.size + 1, 0, none⟩)]] ((w1.alloc (.cells #[.slice A0 a.length c0] 22)).alloc (.cells #[.int .i64 size] 3))
        (CoV (pcs a size) ((w1.alloc (.cells #[.slice A0 a.length c0] 22)).alloc (.cells #[.int .i64 size] 3)))) := Lib.hid fun w1 hB => by
    refine collect_any (pieces_iter w1.heap.size (w1.heap.size + 1) A0 c0 a size (by omega) hs0 hz0 (by omega)) (enters_of Try.func90 (by kernel_rfl) rfl) _ (fun X W hlow => ⟨?_, ?_, w.heap.size, ?_, ?_⟩) ?_
    · exact hlow.has ((Below.heap_alloc _ _ _ (by simp)).trans (World.alloc_heap_new w1 _)) (by simp; omega)
    · exact hlow.has (by have := World.alloc_heap_new (w1.alloc (.cells #[.slice A0 a.length c0] 22)) (.cells #[.int .i64 size] 3); rwa [World.size_alloc] at this) (by simp)
    · exact (hr.below (hB.trans ((below2 w1 _ _).mono hB.size))).below (hlow.1.mono (by have := hB.size; simp; omega))
    · have := hB.size; have := hlow.2.1; simp at this; omega
    · have := pcs_length a size; omega
  have HPl : Hid (∀ (w4 : World) (A4 : Option Addr) (c4 : Nat), Below w.heap.size w w4 → Rdc w4 w4.heap.size A4 (pcells (pcs a size)) →
      Calls Try.prog 60 #[.func (.func 94) #[] #[.pointer (some ⟨w4.heap.size + 1 + 1 + 1, 0, none⟩), .pointer (some ⟨w4.heap.size + 1 + 1, 0, none⟩)], .int .i64 size]
        ((((w4.alloc (.cells #[.slice A1 b.length c1] 22)).alloc (.cells #[.int .i64 (size + gr a)] 3)).alloc (.cells #[.slice A4 (pcs a size).length c4] 103)).alloc (.cells #[.func (.func 90) #[] #[.pointer (some ⟨w4.heap.size, 0, none⟩), .pointer (some ⟨w4.heap.size + 1, 0, none⟩)]] 89))
        fun e w' => PlV (jput (pst (bhd (pcs a size) (pcs b (size + gr a)))) size) w4 e w') := Lib.hid fun w4 A4 c4 hB hd => by
    obtain ⟨a1, a2, a3, a4⟩ := allocs4 w4 (.cells #[.slice A1 b.length c1] 22) (.cells #[.int .i64 (size + gr a)] 3) (.cells #[.slice A4 (pcs a size).length c4] 103) (.cells #[.func (.func 90) #[] #[.pointer (some ⟨w4.heap.size, 0, none⟩), .pointer (some ⟨w4.heap.size + 1, 0, none⟩)]] 89)
    have hb4 := below4 w4 (.cells #[.slice A1 b.length c1] 22) (.cells #[.int .i64 (size + gr a)] 3) (.cells #[.slice A4 (pcs a size).length c4] 103) (.cells #[.func (.func 90) #[] #[.pointer (some ⟨w4.heap.size, 0, none⟩), .pointer (some ⟨w4.heap.size + 1, 0, none⟩)]] 89)
    have hsz4 : ((((w4.alloc (.cells #[.slice A1 b.length c1] 22)).alloc (.cells #[.int .i64 (size + gr a)] 3)).alloc (.cells #[.slice A4 (pcs a size).length c4] 103)).alloc (.cells #[.func (.func 90) #[] #[.pointer (some ⟨w4.heap.size, 0, none⟩), .pointer (some ⟨w4.heap.size + 1, 0, none⟩)]] 89)).heap.size = w4.heap.size + 1 + 1 + 1 + 1 := by simp
    generalize ((((w4.alloc (.cells #[.slice A1 b.length c1] 22)).alloc (.cells #[.int .i64 (size + gr a)] 3)).alloc (.cells #[.slice A4 (pcs a size).length c4] 103)).alloc (.cells #[.func (.func 90) #[] #[.pointer (some ⟨w4.heap.size, 0, none⟩), .pointer (some ⟨w4.heap.size + 1, 0, none⟩)]] 89)) = w6 at *
    refine (plist_any (behind_iter (pieces_iter w4.heap.size (w4.heap.size + 1) A1 c1 b (size + gr a) (by omega) hs1 hz2 (by omega)) (enters_of Try.func90 (by kernel_rfl) rfl) (w4.heap.size + 1 + 1 + 1) (w4.heap.size + 1 + 1) A4 c4 (pcs a size) hGood (by have := pcs_length a size; omega) hok1)
      (enters_of Try.func94 (by kernel_rfl) rfl) w6 size (fun X W hlow => ?_) ?_ (bhd_small ok0 ok1)).mono ?_
    · refine ⟨hlow.has a4 (by omega), hlow.has a3 (by omega), ⟨hlow.has a1 (by omega), hlow.has a2 (by omega), w.heap.size, ?_, ?_⟩, w4.heap.size, ?_, ?_⟩
      · exact (hr1.below (hB.trans (hb4.mono hB.size))).below (hlow.1.mono (by have := hB.size; omega))
      · have := hB.size; have := hlow.2.1; omega
      · exact (hd.below hb4).below (hlow.1.mono (by omega))
      · have := hlow.2.1; omega
    · have h1 := bhd_length (pcs a size) (pcs b (size + gr a))
      have h2 := pcs_length a size
      have h3 := pcs_length b (size + gr a)
      have h4 : (pcs b (size + gr a)).length * ((pcs a size).length + 1) ≤ 63 * 64 := Nat.mul_le_mul (by omega) (by omega)
      omega
    · rintro e w7 ⟨A7, c7, rfl, h7, hb7⟩
      exact ⟨A7, c7, rfl, h7, hb4.trans (hb7.mono (by omega))⟩
  clear hR hR2 hs0 hs1 ok0 ok1 hGood hok1
  go_enter Try.func24, Try.ntmps24
  generalize hP : pcs a size = P1 at *
  generalize hL : jput (pst (bhd P1 (pcs b (size + gr a)))) size = L at *
  clear hP hL
  go_wp2_with (first | (go_at_call 58; refine HG.out.mono ?_; rintro e w1 ⟨rfl, hB1⟩) | (go_at_call 49; refine (right_any A1 c1 b (size + gr a) _ (by omega) (hr1.after hB1)).mono ?_; rw [HR2.out]; rintro e w2 ⟨rfl, hB2⟩; have hB12 := hB1.trans (hB2.mono hB1.size)) | (go_at_call 59; refine (pieces_any _ _ _ _ _).mono ?_; rintro e w' ⟨rfl, rfl⟩) | (go_at_call 56; refine (HCo.out _ hB12).mono ?_; rintro e w4 ⟨A4, c4, rfl, hd4, hba4, hb4⟩; have hB4 : Below w.heap.size w w4 := hB12.trans (((below2 w2 _ _).mono hB12.size).trans (hb4.mono (by have := hB12.size; simp; omega))); have HD4 := Lib.hid hd4; clear hd4 hba4 hb4) | (go_at_call 61; refine (behind_any _ _ _ _ _ _).mono ?_; rintro e w' ⟨rfl, rfl⟩) | (go_at_call 60; refine (HPl.out w4 A4 c4 hB4 HD4.out).mono ?_; rintro e w7 ⟨A7, c7, rfl, h7, hb7⟩; have H7 := Lib.hid h7; clear h7))
  go_ret2
  exact ⟨A7, c7, rfl, H7.out, hB4.trans (hb7.mono hB4.size)⟩
end
end Go.Proofs.Ytgfafinpcpiogaa
