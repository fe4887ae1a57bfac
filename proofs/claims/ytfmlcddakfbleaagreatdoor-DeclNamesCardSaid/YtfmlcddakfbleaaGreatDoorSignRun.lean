/- sign.Run at any function that asks one byte: where the bytes end for which it answers true. -/
import Derived.Test.YtfmlcddakfbleaaGreatDoorSignSmall
import Derived.Defers
import Derived.Recover
import Derived.Shelf.Abstract
namespace Go.Proofs.YtfmlcddakfbleaaGreatDoor
open Go.RowKit SignMath

/-- the deferred function, behind a run that returns: it does nothing -/
theorem catch_idle (w : World) : CallsD Tryz.prog 104 #[] .returning w fun e u' w' => e = .returned (.tuple #[]) ∧ u' = .returning ∧ w' = w := by
  refine callsD_of_wpS Tryz.func104 rfl fun c₀ cs hu => ?_
  apply wpS_region
  cases c₀
  simp_all [wpOpsS, go_sem, recoverD, Tryz.ntmps104, bodyPostS, results, Tryz.results104]

/-- a place taken into a text -/
def cl (at_ : Int) (n : Nat) : Nat := (min (max at_ 0) n).toNat
theorem cl_le (a : Int) (n : Nat) : cl a n ≤ n := by unfold cl; omega
theorem cl_eq (a : Int) (n : Nat) : (cl a n : Int) = min (max a 0) n := by unfold cl; omega

/-- behind the run: the deferred function, the result -/
theorem run_out (k n : Nat) (w : World) (h : k = n) {ts : Array Value} (h6 : ts[6]? = some (.int .i64 (k : Nat))) :
    bodyPostD Tryz.prog Tryz.f81 (fun e w' => e = Ending.returned (.int .i64 (n : Nat)) ∧ w = w') Exit.ret { tmps := ts, defers := [{ target := .fn (.func 104) #[], args := #[] }] } w := by
  subst h
  refine leaves_cons (f := 104) (args := #[]) (by simp) (by simp [go_sem]) ?_
  refine (catch_idle _).mono ?_
  rintro e u' w'' ⟨rfl, rfl, rfl⟩
  exact ⟨_, results_tmp Tryz.results81 _ _ _, by simp [Array.getD_eq_getD_getElem?, h6], rfl⟩

set_option maxHeartbeats 1000000 in
theorem run_any (g : Nat) (p : Int → Bool) (hp : Asks g p) (eg : ∀ args w, (callFunc g args).run Tryz.prog w = .ok (.enter g args) w) (s : ByteArray) (hs : s.size ≤ 10000) (k0 : Int) (w : World) :
    Calls Tryz.prog 81 #[.string s, .int .i64 k0, .func (.func g) #[] #[]] w fun e w' => e = .returned (.int .i64 (rn p s.data.toList (cl k0 s.size) : Nat)) ∧ w = w' := by
  have hsz : s.data.toList.length = s.size := by simp
  have HZ := Lib.hid hsz
  clear hsz
  obtain ⟨m, hm⟩ : ∃ m : Nat, m = cl k0 s.size := ⟨_, rfl⟩
  rw [← hm]
  have hmz : m ≤ s.size := by rw [hm]; exact cl_le _ _
  have HM : Hid ((m : Int) = min (max k0 0) s.size) := Lib.hid (by rw [hm]; exact cl_eq _ _)
  clear hm
  have HP := Lib.hid hp
  clear hp
  rcases Int.lt_or_le k0 0 with h | h
  rotate_left
  rcases Int.lt_or_le s.size k0 with h' | h'
  rotate_left
  all_goals
    go_enter_defers Tryz.func81, Tryz.ntmps81
    go_wp2
    go_loop [6] (fun i => ∃ k : Nat, k ≤ s.size ∧ i = .int .i64 (k : Int) ∧ Hid (rn p s.data.toList k = rn p s.data.toList m)) (fun i => s.size - (intOf i).toNat)
    case atStart =>
      have := HM.out
      exact ⟨m, hmz, by first | rfl | (rw [show (m : Int) = k0 by omega]) | (rw [show (m : Int) = 0 by omega]) | (rw [show (m : Int) = s.size by omega]), Lib.hid rfl⟩
    case round =>
      obtain ⟨k, hk, rfl, HR⟩ := hrel
      by_cases hlt : k < s.size
      · cases hq : p (s[k].toNat : Int) with
        | true =>
          have HN := Lib.hid (rn_step p s.data.toList k (by rw [HZ.out]; exact hlt) hq)
          have HQ := Lib.hid hq
          clear hq
          go_wp2_with (go_at_fn g; refine (HP.out _ _).mono ?_; rw [HQ.out]; rintro e w' ⟨rfl, rfl⟩)
          go_round
          case rel => exact ⟨k + 1, by omega, by go_num, Lib.hid (HN.out.symm.trans HR.out)⟩
          case measure => simp [intOf]; omega
        | false =>
          have HN := Lib.hid (rn_stop p s.data.toList k (by rw [HZ.out]; exact hlt) hq)
          have HQ := Lib.hid hq
          clear hq
          go_wp2_with (go_at_fn g; refine (HP.out _ _).mono ?_; rw [HQ.out]; rintro e w' ⟨rfl, rfl⟩)
          exact run_out k _ _ (HN.out.symm.trans HR.out) rfl
      · obtain rfl : k = s.size := by omega
        have HN := Lib.hid (rn_end p s.data.toList s.size (by rw [HZ.out]; exact Nat.le_refl _))
        go_wp2
        exact run_out _ _ _ (HN.out.symm.trans HR.out) rfl
end Go.Proofs.YtfmlcddakfbleaaGreatDoor
