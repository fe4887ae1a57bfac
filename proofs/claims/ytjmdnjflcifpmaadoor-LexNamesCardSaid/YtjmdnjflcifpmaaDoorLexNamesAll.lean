/- The law LexNames, at every text, name and number. -/
import Derived.Test.YtjmdnjflcifpmaaDoorLexNamesWalk
namespace Go.Proofs.YtjmdnjflcifpmaaDoor
open Go.RowKit Go.Shelf SignMath

theorem wd_le {l : List UInt8} (h : wd l = true) : l.length ≤ 64 := by
  rcases Nat.lt_or_ge 64 l.length with h2 | h2
  · rw [wd_long h2] at h; cases h
  · exact h2

theorem names_walk (s n : ByteArray) (st : Int) (hn : n.size ≤ 140737488355328) (w : World) (hL : LaidX w) :
    Calls Tryd.prog 7 #[.string s, .string n, .int .i64 st] w fun e w' => e = .returned (.bool true) ∧ Below w.heap.size w w' := by
  by_cases hs : 2000 < s.size
  · exact names_long s n st hs w hL
  · cases hw : (wd (bs n) && !kw n) with
    | false => exact names_none s n st hs hn hw w hL
    | true =>
      have h64 : n.size ≤ 64 := by
        have := wd_le (Bool.and_eq_true_iff.1 hw).1
        rwa [bs_size] at this
      by_cases h1 : n = bSys
      · exact names_kept s n st hs hw h64 (.inl h1) w hL
      · by_cases h2 : n = bOut
        · exact names_kept s n st hs hw h64 (.inr (.inl h2)) w hL
        · by_cases h3 : n = bPri
          · exact names_kept s n st hs hw h64 (.inr (.inr h3)) w hL
          · exact callsIn_wide.1 (names_in s n st hs hw h64 h1 h2 h3 w hL)
end Go.Proofs.YtjmdnjflcifpmaaDoor
