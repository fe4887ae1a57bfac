/- The document's answer on which trees are right. -/
import Derived.Test.YtjnclchbklehgaaTreeSmall
import Derived.LoopN
namespace Go.Proofs.Ytjnclchbklehgaa
open Go.RowKit TreeMath

/-- what left answers -/
def lfv (T : Tr) (m : Int) : Int := if rgt T = true ∧ (cn T : Int) ≤ m then m - cn T else -1
/-- the same of a list -/
def lfl (l : List Tr) (m : Int) : Int := if l.all rgt = true ∧ ((l.map cn).sum : Int) ≤ m then m - ((l.map cn).sum : Nat) else -1

theorem lfl_snoc (l : List Tr) (x : Tr) (m : Int) (_hm : 0 ≤ m) (h : 0 ≤ lfl l m) : lfl (l ++ [x]) m = lfv x (lfl l m) := by
  unfold lfl at *
  by_cases h1 : l.all rgt = true ∧ ((l.map cn).sum : Int) ≤ m
  · rw [if_pos h1]
    unfold lfv
    simp only [List.all_append, List.map_append, List.sum_append, List.all_cons, List.all_nil, Bool.and_true, List.map_cons, List.map_nil, List.sum_cons, List.sum_nil, Nat.add_zero, Bool.and_eq_true]
    by_cases h2 : rgt x = true ∧ (cn x : Int) ≤ m - ((l.map cn).sum : Nat)
    · rw [if_pos h2, if_pos ⟨⟨h1.1, h2.1⟩, by omega⟩]; omega
    · rw [if_neg h2, if_neg (fun h3 => h2 ⟨h3.1.2, by omega⟩)]
  · rw [if_neg h1] at h; omega
theorem lfl_stop (l k : List Tr) (m : Int) (h : lfl l m < 0) : lfl (l ++ k) m = -1 := by
  unfold lfl at *
  by_cases h1 : l.all rgt = true ∧ ((l.map cn).sum : Int) ≤ m
  · rw [if_pos h1] at h; omega
  · rw [if_neg]
    rintro ⟨h2, h3⟩
    rw [List.all_append, Bool.and_eq_true] at h2
    rw [List.map_append, List.sum_append] at h3
    exact h1 ⟨h2.1, by omega⟩
theorem lfv_eq (T : Tr) (m : Int) (hs : snd T = true) (_hm : 1 ≤ m) : lfv T m = lfl T.kids (m - 1) := by
  unfold lfv lfl
  rw [rgt_eq, hs, Bool.true_and, cn_eq]
  by_cases h : T.kids.all rgt = true ∧ (((T.kids.map cn).sum : Nat) : Int) ≤ m - 1
  · rw [if_pos h, if_pos ⟨h.1, by omega⟩]; omega
  · rw [if_neg h, if_neg (fun h3 => h ⟨h3.1, by omega⟩)]
theorem lfv_bad (T : Tr) (m : Int) (hs : snd T = false) : lfv T m = -1 := by
  unfold lfv
  rw [rgt_eq, hs]
  simp
theorem lfv_none (T : Tr) (m : Int) (hm : m < 1) : lfv T m = -1 := by
  unfold lfv
  rw [if_neg]
  rintro ⟨_, h⟩
  rw [cn_eq] at h
  omega
theorem lfv_le (T : Tr) (m : Int) : -1 ≤ lfv T m ∧ (0 ≤ m → lfv T m ≤ m) := by unfold lfv; split <;> omega
theorem lfl_le (l : List Tr) (m : Int) : -1 ≤ lfl l m ∧ (0 ≤ m → lfl l m ≤ m) := by unfold lfl; split <;> omega
theorem snd_of (T : Tr) : snd T = (decide (1 ≤ T.k) && decide (T.k ≤ 32) && (if T.k = 1 then decide (T.t.size ≠ 0) && decide (0 ≤ T.a) && decide (T.kids.length = 0) else decide (T.t.size = 0) && decide (T.g.size = 0) && decide (T.a = 0))) := by
  unfold snd
  by_cases h : T.k = 1
  · simp [h]
  · simp only [h, if_false]
    by_cases h1 : 1 < T.k
    · simp [h1, show 1 ≤ T.k by omega]
      cases decide (T.k ≤ 32) <;> cases decide (T.g = ByteArray.empty) <;> cases decide (T.t = ByteArray.empty) <;> simp
    · simp [h1, show ¬ 1 ≤ T.k by omega]

set_option maxRecDepth 100000 in
set_option maxHeartbeats 2000000 in
theorem left_any (T : Tr) : ∀ (m : Int) (w : World), 0 ≤ m → m ≤ 20000 → wt T ≤ 5000 → Tn (lo w.heap.size) w T →
    Calls Try.prog 33 #[nv T, .int .i64 m] w fun e w' => e = .returned (.int .i64 (lfv T m)) ∧ Below w.heap.size w w' := by
  induction T using Tr.ind with | _ k g t a A c kids ih =>
  intro m w hm0 hm1 hw hT
  have hkl : kids.length < 5000 := by have := kids_le (T := ⟨k, g, t, a, A, c, kids⟩); simp only at this; omega
  obtain ⟨m1, hm⟩ : ∃ m1 : Int, m - 1 = m1 := ⟨_, rfl⟩
  have z1 : -1 ≤ m1 := by omega
  have z2 : m1 ≤ 20000 := by omega
  by_cases h1 : m < 1
  · have HV := Lib.hid (lfv_none ⟨k, g, t, a, A, c, kids⟩ m h1)
    have z3 : m1 < 0 := by omega
    clear ih hw hT h1
    go_enter Try.func33, Try.ntmps33
    go_wp2
    go_ret
    exact ⟨ret_int HV.out.symm, below1 _ _⟩
  · have z3 : 0 ≤ m1 := by omega
    cases hs : snd ⟨k, g, t, a, A, c, kids⟩ with
    | false =>
      have HV := Lib.hid (lfv_bad ⟨k, g, t, a, A, c, kids⟩ m hs)
      have HS := Lib.hid hs
      clear ih hw hT h1 hs
      by_cases hk : k = 1
      all_goals
        first | subst hk | skip
        go_enter Try.func33, Try.ntmps33
        go_wp2
      all_goals first
        | (go_ret; exact ⟨ret_int HV.out.symm, below1 _ _⟩)
        | (exfalso; have h9 := HS.out; clear HS HV; rename_i a1 _ _; clear a1; simp_all [snd]; done)
        | (exfalso; have h9 := HS.out; clear HS HV; simp_all [snd]; done)
        | (exfalso; have h9 := HS.out; clear HS HV; simp_all [snd, bytes_none, bytes_nil]; omega)
    | true =>
      have HV : Hid (lfv ⟨k, g, t, a, A, c, kids⟩ m = lfl kids m1) := Lib.hid (by rw [lfv_eq _ _ hs (by omega), hm])
      have HT := Lib.hid hT
      have HW := Lib.hid hw
      have HI := Lib.hid ih
      have hl0 : lfl kids m1 = lfl kids m1 := rfl
      clear h1 hT hw ih hl0
      by_cases hk : k = 1
      · subst hk
        obtain ⟨h2, h3, h4⟩ := snd_leaf hs rfl
        simp only at h2 h3 h4
        subst h4
        have hV2 : lfl [] m1 = m1 := by simp [lfl, z3]
        rw [hV2] at HV
        have e0 : ((t.size : Int) == 0) = false := by rw [beq_eq_false_iff_ne]; omega
        have e1 : decide (a < 0) = false := by simp; omega
        clear hs hV2
        go_enter Try.func33, Try.ntmps33
        go_wp2
        go_loopw [1, 5] (fun mv i wr => i = .int .i64 0 ∧ mv = .int .i64 m1 ∧ wr = w.alloc (.cells #[.int .i64 1, .string g, .string t, .int .i64 a, .slice A 0 c] 29)) (fun _ _ _ => 0)
        case atStart => exact ⟨rfl, rfl, rfl⟩
        case round =>
          obtain ⟨rfl, rfl, rfl⟩ := hrel
          go_wp2
          go_ret
          exact ⟨ret_int HV.out.symm, below1 _ _⟩
      · obtain ⟨h2, h3, h4, h5, h6⟩ := snd_other hs hk
        simp only at h2 h3 h4 h5 h6
        subst h6
        have hd1 : (k == 1) = false := by simp [hk]
        clear hs
        go_enter Try.func33, Try.ntmps33
        go_wp2
        go_loopw [1, 5] (fun mv i wr => ∃ (j : Nat) (mj : Int), i = .int .i64 j ∧ j ≤ kids.length ∧ mv = .int .i64 mj ∧ Hid (lfl (kids.take j) m1 = mj) ∧ 0 ≤ mj ∧ mj ≤ 20000 ∧ Below (w.alloc (.cells (ncc ⟨k, g, t, 0, A, c, kids⟩) 29)).heap.size (w.alloc (.cells (ncc ⟨k, g, t, 0, A, c, kids⟩) 29)) wr) (fun _ i _ => kids.length + 1 - (intOf i).toNat)
        case atStart => exact ⟨0, m1, rfl, Nat.zero_le _, rfl, Lib.hid (by simp [lfl, z3]), z3, z2, Below.refl _ _⟩
        case round =>
          obtain ⟨j, mj, rfl, hj, rfl, HJ, y1, y2, hB⟩ := hrel
          obtain ⟨-, -, -, -, q4, hz⟩ := box5 (T := ⟨k, g, t, 0, A, c, kids⟩) hB
          have hBw : Below w.heap.size w wr := (below1 w _).trans (hB.mono (by simp))
          by_cases hlt : j < kids.length
          · obtain ⟨e, he⟩ : ∃ e, kids[j]? = some e := ⟨_, List.getElem?_eq_getElem hlt⟩
            have hmem := List.mem_of_getElem? he
            obtain ⟨b, off, rfl, hb, c0, c1, c2, c3, c4⟩ := (HT.out.below hBw).at_ he
            have hwe := wt_kid (T := ⟨k, g, t, 0, some ⟨b, off, none⟩, c, kids⟩) hmem
            have HC := Lib.hid (HI.out e hmem mj wr y1 y2 (by have := HW.out; omega) (((HT.out.kid hmem).below hBw).more (Nat.le_of_lt hz)))
            have HS : Hid (lfl (kids.take (j + 1)) m1 = lfv e mj) := Lib.hid (by
              rw [List.take_add_one, he]
              have := lfl_snoc (kids.take j) e m1 z3 (by rw [HJ.out]; exact y1)
              rw [HJ.out] at this
              exact this)
            have HE : Hid (lfl (kids.take (j + 1)) m1 < 0 → lfl kids m1 = -1) := Lib.hid (fun h => by
              have := lfl_stop _ (kids.drop (j + 1)) _ h
              rwa [List.take_append_drop] at this)
            have hr := lfv_le e mj
            rw [HS.out] at HE
            have z4 : (0 : Int) ≤ j := by omega
            have z5 : (j : Int) < kids.length := by omega
            have hr1 := hr.1
            have hr2 := hr.2 y1
            generalize lfv e mj = r at HC HS HE hr1 hr2
            clear hmem hwe he hr
            by_cases hr0 : r < 0
            · go_wp2_with (go_at_call 33; refine HC.out.mono ?_; rintro e w1 ⟨rfl, hb1⟩)
              go_ret
              exact ⟨ret_int (by rw [HV.out, HE.out hr0]), hBw.trans (hb1.mono hBw.size)⟩
            · have hr3 : 0 ≤ r := by omega
              clear hr0
              go_wp2_with (go_at_call 33; refine HC.out.mono ?_; rintro e w1 ⟨rfl, hb1⟩)
              go_roundw
              case rel => exact ⟨j + 1, r, by go_num, by omega, rfl, HS, hr3, by omega, hB.trans (hb1.mono hB.size)⟩
              case measure => simp [intOf]; omega
          · obtain rfl : j = kids.length := by omega
            have HS : Hid (lfl kids m1 = mj) := Lib.hid (by have := HJ.out; rwa [List.take_length] at this)
            go_wp2
            go_ret
            exact ⟨ret_int (by rw [HV.out, HS.out]), hBw⟩
end Go.Proofs.Ytjnclchbklehgaa
