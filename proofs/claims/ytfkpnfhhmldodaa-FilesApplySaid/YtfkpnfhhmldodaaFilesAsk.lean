/- Contracts: which bytes may stand in a name, which names are right, where a file stands. -/
import Derived.Test.YtfkpnfhhmldodaaFilesMem
import Derived.Test.YtfkpnfhhmldodaaEditList
import Derived.Laws.IdiomStrings
namespace Go.Proofs.Ytfkpnfhhmldodaa
open Go.RowKit EditMath FilesMath

theorem u8_cases (n : Int) : n ≤ 44 ∨ n = 45 ∨ n = 46 ∨ n = 47 ∨ (48 ≤ n ∧ n ≤ 57) ∨ (58 ≤ n ∧ n ≤ 64) ∨ (65 ≤ n ∧ n ≤ 90) ∨ (91 ≤ n ∧ n ≤ 94) ∨ n = 95 ∨ n = 96 ∨ (97 ≤ n ∧ n ≤ 122) ∨ 123 ≤ n := by omega
theorem okb_yes {u : UInt8} (h : ((97 : Int) ≤ u.toNat ∧ (u.toNat : Int) ≤ 122) ∨ ((65 : Int) ≤ u.toNat ∧ (u.toNat : Int) ≤ 90) ∨ ((48 : Int) ≤ u.toNat ∧ (u.toNat : Int) ≤ 57) ∨ (u.toNat : Int) = 46 ∨ (u.toNat : Int) = 45 ∨ (u.toNat : Int) = 95) : okb u = true := by
  unfold okb
  simp only [Bool.or_eq_true, Bool.and_eq_true, decide_eq_true_eq]
  omega
theorem okb_no {u : UInt8} (h : ¬ (((97 : Int) ≤ u.toNat ∧ (u.toNat : Int) ≤ 122) ∨ ((65 : Int) ≤ u.toNat ∧ (u.toNat : Int) ≤ 90) ∨ ((48 : Int) ≤ u.toNat ∧ (u.toNat : Int) ≤ 57) ∨ (u.toNat : Int) = 46 ∨ (u.toNat : Int) = 45 ∨ (u.toNat : Int) = 95)) : okb u = false := by
  cases e : okb u with
  | false => rfl
  | true =>
    unfold okb at e
    simp only [Bool.or_eq_true, Bool.and_eq_true, decide_eq_true_eq] at e
    omega

set_option maxHeartbeats 400000 in
theorem nameByte_any (u : UInt8) (w : World) :
    Calls Try.prog 103 #[.int .u8 (u.toNat : Int)] w fun e w' => e = .returned (.bool (okb u)) ∧ w = w' := by
  rcases u8_cases (u.toNat : Int) with h | h | h | h | ⟨h, h'⟩ | ⟨h, h'⟩ | ⟨h, h'⟩ | ⟨h, h'⟩ | h | h | ⟨h, h'⟩ | h
  all_goals
    go_enter Try.func103, Try.ntmps103
    go_wp2
    go_ret
    refine ⟨ret_bool ?_, rfl⟩
    first
      | exact (okb_yes (u := u) (by omega)).symm
      | exact (okb_no (u := u) (by omega)).symm
      | (rw [okb_no (u := u) (by omega)]; simp only [Bool.or_eq_false_iff, beq_eq_false_iff_ne, ne_eq]; omega)

set_option maxHeartbeats 400000 in
theorem nameRight1_any (u : UInt8) (w : World) :
    Calls Try.prog 102 #[.int .u8 (u.toNat : Int)] w fun e w' => e = .returned (.bool (!okb u)) ∧ w = w' := by
  have HC := fun W => Lib.hid (nameByte_any u W)
  go_enter Try.func102, Try.ntmps102
  go_wp2_with fail
  refine (HC _).out.mono ?_
  rintro e w1 ⟨rfl, rfl⟩
  go_wp2
  go_ret
  exact ⟨rfl, rfl⟩

/-- a row of bytes that reads as s -/
def Bys (w : World) (b : Nat) (s : List UInt8) : Prop := ∀ (i : Nat) (u : UInt8), s[i]? = some u → w.cell? ⟨b, i, none⟩ = some (.int .u8 (u.toNat : Int))

def idxB (p : UInt8 → Bool) (l : List UInt8) : Int := match l.findIdx? p with | some i => (i : Int) | none => -1
theorem idxB_hit {p : UInt8 → Bool} {l : List UInt8} {k : Nat} {e : UInt8} (he : l[k]? = some e) (hp : p e = true) (h : ∀ (i : Nat) (x : UInt8), i < k → l[i]? = some x → p x = false) : idxB p l = k := by
  unfold idxB
  have hk := (List.getElem?_eq_some_iff.1 he).1
  have hx := (List.getElem?_eq_some_iff.1 he).2
  have : l.findIdx? p = some k := by
    rw [List.findIdx?_eq_some_iff_getElem]
    exact ⟨hk, by rw [hx]; exact hp, fun j hj => by simp [h j l[j] hj (List.getElem?_eq_getElem (by omega))]⟩
  rw [this]
theorem idxB_miss {p : UInt8 → Bool} {l : List UInt8} (h : ∀ (i : Nat) (x : UInt8), l[i]? = some x → p x = false) : idxB p l = -1 := by
  unfold idxB
  have : l.findIdx? p = none := by
    rw [List.findIdx?_eq_none_iff]
    intro x hx
    obtain ⟨i, hi⟩ := List.getElem?_of_mem hx
    exact h i x hi
  rw [this]
theorem idxB_any (p : UInt8 → Bool) (l : List UInt8) : decide (0 ≤ idxB p l) = l.any p := by
  unfold idxB
  cases h : l.findIdx? p with
  | none =>
    rw [List.findIdx?_eq_none_iff] at h
    symm
    simpa using h
  | some i =>
    obtain ⟨hi, hp, _⟩ := List.findIdx?_eq_some_iff_getElem.1 h
    symm
    simp
    exact ⟨l[i], List.getElem_mem hi, hp⟩

theorem enters102 : ∀ args w, (callFunc 102 args).run Try.prog w = .ok (.enter 102 args) w := enters_of Try.func102 (by kernel_rfl) rfl

set_option maxRecDepth 100000 in
set_option maxHeartbeats 1000000 in
theorem indexB_any (b c : Nat) (l : List UInt8) (w : World) (hl : l.length ≤ 40) (hr : Bys w b l) :
    Calls Try.prog 118 #[.slice (some ⟨b, 0, none⟩) l.length c, .func (.func 102) #[] #[]] w fun e w' => e = .returned (.int .i64 (idxB (fun u => !okb u) l)) ∧ w = w' := by
  have eg := enters102
  go_enter Try.func118, Try.ntmps118
  go_wp2
  go_loopw [5, 8] (fun _ i wr => ∃ k : Nat, k ≤ l.length ∧ i = .int .i64 k ∧ wr = w ∧ Hid (∀ (i : Nat) (x : UInt8), i < k → l[i]? = some x → (!okb x) = false)) (fun _ i _ => l.length - (intOf i).toNat)
  case atStart => exact ⟨0, Nat.zero_le _, rfl, rfl, Lib.hid (fun i x hi _ => absurd hi (Nat.not_lt_zero _))⟩
  case round =>
    obtain ⟨k, hk, rfl, rfl, HN⟩ := hrel
    by_cases hlt : k < l.length
    · have he : l[k]? = some l[k] := List.getElem?_eq_getElem hlt
      generalize l[k] = e at he
      have c0 := hr k e he
      have c1 : wr.cell? ⟨b, 0 + k, none⟩ = some (.int .u8 (e.toNat : Int)) := by rw [Nat.zero_add]; exact c0
      have HC := Lib.hid (nameRight1_any e wr)
      have HE := Lib.hid he
      clear he
      cases hq : (!okb e) with
      | true =>
        have HQ := Lib.hid hq
        clear hq
        go_wp2_with (go_at_fn 102; refine HC.out.mono ?_; rw [HQ.out]; rintro r w1 ⟨rfl, rfl⟩)
        go_ret
        exact ⟨ret_int (idxB_hit HE.out HQ.out HN.out).symm, rfl⟩
      | false =>
        have HQ := Lib.hid hq
        clear hq
        go_wp2_with (go_at_fn 102; refine HC.out.mono ?_; rw [HQ.out]; rintro r w1 ⟨rfl, rfl⟩)
        go_roundw
        case rel =>
          refine ⟨k + 1, by omega, by go_num, by first | trivial | rfl, Lib.hid (fun i x hi hx => ?_)⟩
          by_cases e : i = k
          · subst e; rw [HE.out] at hx; injection hx with hx; subst hx; exact HQ.out
          · exact HN.out i x (by omega) hx
        case measure => simp [intOf]; omega
    · obtain rfl : k = l.length := by omega
      go_wp2
      go_ret
      exact ⟨ret_int (idxB_miss fun i x hx => HN.out i x (List.getElem?_eq_some_iff.1 hx).1 hx).symm, rfl⟩

set_option maxHeartbeats 400000 in
theorem containsB_any (b c : Nat) (l : List UInt8) (w : World) (hl : l.length ≤ 40) (hr : Bys w b l) :
    Calls Try.prog 101 #[.slice (some ⟨b, 0, none⟩) l.length c, .func (.func 102) #[] #[]] w fun e w' => e = .returned (.bool (l.any fun u => !okb u)) ∧ w = w' := by
  have HC := Lib.hid (indexB_any b c l w hl hr)
  clear hr
  have HI := Lib.hid (idxB_any (fun u => !okb u) l)
  generalize idxB (fun u => !okb u) l = r at HI HC
  generalize l.any (fun u => !okb u) = q at HI ⊢
  go_enter Try.func101, Try.ntmps101
  go_wp2_with fail
  refine HC.out.mono ?_
  rintro e w1 ⟨rfl, rfl⟩
  go_wp2
  go_ret
  exact ⟨ret_bool HI.out, rfl⟩

theorem not_any_not (l : List UInt8) : (!l.any fun u => !okb u) = l.all okb := by
  induction l with
  | nil => rfl
  | cons a l ih => simp only [List.any_cons, List.all_cons, Bool.not_or, Bool.not_not, ih]

theorem bys_new (w : World) (s : ByteArray) (cap : Nat) (t : TypeId) (p : Nat × Nat) : Bys (w.drew.alloc (.cells (bytesRow s cap) t p)) w.heap.size s.data.toList := by
  intro i u hu
  have hh : (w.drew.alloc (.cells (bytesRow s cap) t p)).heap[w.heap.size]? = some (.cells (bytesRow s cap) t p) := heap_alloc_new w.drew _
  rw [Lib.cell_of_heap hh]
  unfold bytesRow
  obtain ⟨hlt, he⟩ := List.getElem?_eq_some_iff.1 hu
  have hlt2 : i < s.data.size := hlt
  rw [Array.getElem?_append_left (by simpa using hlt2), Array.getElem?_map, Array.getElem?_eq_getElem hlt2]
  simp only [Option.map_some]
  have : s.data[i] = u := by rw [← he]; rfl
  rw [this]

set_option maxRecDepth 100000 in
set_option maxHeartbeats 400000 in
theorem nameRight_any (s : ByteArray) (hs : (s.size : Int) ≤ 140737488355328) (w : World) :
    Calls Try.prog 72 #[.string s] w fun e w' => e = .returned (.bool (title s)) ∧ Below w.heap.size w w' := by
  have hq := bytes_none s
  by_cases h0 : s.size = 0
  · rw [decide_eq_true h0] at hq
    go_enter Try.func72, Try.ntmps72
    go_wp2
    all_goals go_ret
    all_goals exact ⟨ret_bool (title_no (by omega)).symm, Below.refl _ _⟩
  · rw [decide_eq_false h0] at hq
    by_cases h1 : (s.size : Int) ≤ 40
    · have HC := fun b c W h => Lib.hid (containsB_any b c s.data.toList W (by have : s.data.toList.length = s.size := rfl; omega) h)
      have h2 : decide (40 < (s.size : Int)) = false := decide_eq_false (by omega)
      have ht : (!s.data.toList.any fun u => !okb u) = title s := by
        rw [not_any_not]
        unfold title
        rw [decide_eq_true (by omega), decide_eq_true (by omega)]
        simp
      have HT := Lib.hid ht
      clear ht
      generalize (s.data.toList.any fun u => !okb u) = q at HC HT
      go_enter Try.func72, Try.ntmps72
      have hcv := fun W => run_bytes_of_string (P := Try.prog) W 9 111 5 s Try.underlying9 Try.underlying111 Try.underlying5
      go_wp2_with fail
      have hB1 : Below w.heap.size w (w.drew.alloc (.cells (bytesRow s (grownCap w s.size 0 5)) 5 ((bytesRow s (grownCap w s.size 0 5)).size, (bytesRow s (grownCap w s.size 0 5)).size + 1))) := (below_drewN (Below.refl _ w) 1).alloc (Nat.le_refl _) _
      refine (HC w.heap.size (grownCap w s.size 0 5) _ (bys_new w s _ _ _)).out.mono ?_
      rintro e w1 ⟨rfl, rfl⟩
      go_wp2
      go_ret
      exact ⟨ret_bool HT.out, hB1⟩
    · have h2 : decide (40 < (s.size : Int)) = true := decide_eq_true (by omega)
      go_enter Try.func72, Try.ntmps72
      go_wp2
      go_ret
      exact ⟨ret_bool (title_no (by omega)).symm, Below.refl _ _⟩
end Go.Proofs.Ytfkpnfhhmldodaa
