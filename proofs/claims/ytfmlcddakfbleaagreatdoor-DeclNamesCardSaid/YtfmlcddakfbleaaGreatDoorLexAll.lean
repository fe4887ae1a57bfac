/- lex.All: the iterator hands all tokens of its text, in their order, to any loop. slices.Collect of tokens. lex.List. -/
import Derived.Test.YtfmlcddakfbleaaGreatDoorLexFirst
import Derived.Test.YtfmlcddakfbleaaGreatDoorShiftFrame
import Derived.Test.YtfmlcddakfbleaaGreatDoorShiftRow
import Derived.Test.YtfmlcddakfbleaaGreatDoorTextBridge
import Derived.RangeFuncCalls
import Derived.RangeFuncLeaves
import Derived.Shelf.Abstract
import Derived.Shelf.RegionOpen
import Derived.OwnWalkIn
import Derived.TacticsInMore
import Derived.LoopNIn
import Derived.LoopIn
namespace Go.Proofs.YtfmlcddakfbleaaGreatDoor
open Go.RowKit Go.Shelf SignMath

attribute [local go_sem] Oper.semAt_some

abbrev tkv (t : Tk) : Value := .agg #[.int .i64 (t.k : Nat), .int .i64 (t.a : Nat), .int .i64 (t.z : Nat)]

set_option maxRecDepth 100000 in
set_option maxHeartbeats 2000000 in
theorem all_iter (s : ByteArray) (hs : s.size ≤ 10000) (w₀ : World) (hL : LaidX w₀) (b : Nat) :
    Iter Tryz.prog 91 #[.pointer (some ⟨b, 0, none⟩)] (fun t : Tk => #[tkv t]) (tk (bs s) 0) (fun X W => Low w₀.heap.size w₀ X W ∧ Has b (.cells #[.string s] 9 (0, 0)) X W) := by
  intro n m lp J Jx W hJ hJx hC hY h0
  have HY := Lib.hid hY
  have HC := Lib.hid hC
  have HJ := Lib.hid hJ
  have HJx := Lib.hid hJx
  have HL := Lib.hid hL
  have HZ := Lib.hid (bs_size s)
  clear hY hC hJ hJx hL
  have HQ : Hid (∀ W' : World, (Low w₀.heap.size w₀ no W' ∧ Has b (.cells #[.string s] 9 (0, 0)) no W') → W'.cell? ⟨b, 0, none⟩ = some (.string s)) := Lib.hid (fun W' h => by
    simp [World.cell?, h.2.2])
  have q0 := HQ.out _ (HC.out _ _ _ h0)
  refine callsIn_of_wp Tryz.func91 rfl trivial ?_ rfl
  simp only [Tryz.ntmps91, List.size_toArray, List.length_cons, List.length_nil, Nat.reduceAdd, Nat.reduceSub, Array.replicate_succ, Array.replicate_zero, List.push_toArray, List.append_toArray, List.nil_append, List.cons_append]
  gi_wp2
  gi_loopw [3, 4, 5] (fun i _ _ wr => ∃ (k : Nat) (pre : List Tk), i = .int .i64 k ∧ k ≤ s.size ∧ Hid (pre ++ tk (bs s) k = tk (bs s) 0) ∧ J pre no wr) (fun i _ _ _ => s.size - (intOf i).toNat)
  case atStart => exact ⟨0, [], rfl, Nat.zero_le _, Lib.hid rfl, h0⟩
  case round =>
    clear q0 h0
    obtain ⟨k, pre, rfl, hk, HT, hJs⟩ := hrel
    have hlow := HC.out _ _ _ hJs
    have q0 := HQ.out _ hlow
    by_cases hlt : k < s.size
    · have hz : (s.extract k s.size).size = s.size - k := by rw [← bs_size, bs_end, List.length_drop, bs_size]
      have HF := Lib.hid (first_any (s.extract k s.size) (by omega) (by omega) wr (HL.out.below hlow.1.1))
      have hsz := ft_size (l := (bs s).drop k) (by intro e; have := congrArg List.length e; rw [List.length_drop, bs_size] at this; simp at this; omega)
      rw [List.length_drop, bs_size] at hsz
      have hkd := ft_kind ((bs s).drop k)
      have HS := Lib.hid (tk_step (l := bs s) (at_ := k) (by rw [bs_size]; exact hlt))
      rw [bs_end] at HF
      clear hz hlow
      generalize ft ((bs s).drop k) = x at HF hsz hkd HS
      obtain ⟨q, z⟩ := x
      dsimp only at hsz hkd HS
      rw [HS.out] at HT
      have HP : Hid (pre ++ [⟨q, k, k + z⟩] <+: tk (bs s) 0) := Lib.hid (by rw [← HT.out]; exact ⟨tk (bs s) (k + z), by simp⟩)
      gi_wp2
      refine ⟨trivial, fun h => by simp [Fence.wide] at h, (callsIn_wide.2 HF.out).mono ?_⟩
      rintro e w1 ⟨rfl, hb1⟩
      have hJ1 := (HJ.out _).off hJs (Off.of_below hb1)
      obtain ⟨fn, tmps, assign, body, hy, hR⟩ := HY.out _ ⟨q, k, k + z⟩ no w1 (fun _ h => h.elim) hJ1 HP.out
      simp only [tkv, Int.natCast_add] at hy
      unfold tk2
      dsimp only
      gi_wp2
      refine round_any (hR.mono ?_)
      rintro r W3 ⟨hs3, hk3, (⟨rfl, hJ3⟩ | ⟨rfl, hJx3⟩)⟩
      · clear hk3 hy
        gi_wp2
        go_roundw
        case rel => exact ⟨k + z, pre ++ [⟨q, k, k + z⟩], by go_num, by omega, Lib.hid (by rw [← HT.out]; simp), hJ3⟩
        case measure => simp [intOf]; omega
      · gi_wp2
        refine bodyPost_ret (results_none rfl _ _ _) rfl ?_
        exact ⟨⟨_, rfl⟩, .inr ⟨_, HP.out, hJx3⟩⟩
    · obtain rfl : k = s.size := by omega
      have HE := Lib.hid (tk_end (l := bs s) (at_ := s.size) (by rw [bs_size]; exact Nat.le_refl _))
      gi_wp2
      go_end0
      refine ⟨⟨_, rfl⟩, .inl ?_⟩
      have := HT.out
      rw [HE.out, List.append_nil] at this
      rw [← this]
      exact hJs

set_option maxHeartbeats 400000 in
theorem lexAll_any (s : ByteArray) (w : World) :
    Calls Tryz.prog 69 #[.string s] w fun e w' => e = .returned (.func (.func 91) #[] #[.pointer (some ⟨w.heap.size, 0, none⟩)]) ∧ w.alloc (.cells #[.string s] 9) = w' := by
  have hmf : ∀ (fn : Fn) (first cap : Array Value) (w : World), (Instr.makeFunc fn first cap).run Tryz.prog w = .ok (.func fn first cap) w := fun _ _ _ _ => rfl
  go_enter Tryz.func69, Tryz.ntmps69
  go_wp2
  go_ret
  exact ⟨rfl, rfl⟩

theorem eg_all : ∀ args w, (callFunc 91 args).run Tryz.prog w = .ok (.enter 91 args) w := by
  intro args w; simp [go_sem]

/-- tokens' cells -/
def tcells (l : List Tk) : List Value := l.flatMap fun t => [.int .i64 (t.k : Nat), .int .i64 (t.a : Nat), .int .i64 (t.z : Nat)]
theorem tcells_length (l : List Tk) : (tcells l).length = l.length * 3 := by
  unfold tcells
  induction l with
  | nil => rfl
  | cons p ps ih => simp [List.flatMap_cons, ih]; omega
theorem tcells_at : ∀ (l : List Tk) (i : Nat) (p : Tk), l[i]? = some p → (tcells l)[i * 3]? = some (.int .i64 (p.k : Nat)) ∧ (tcells l)[i * 3 + 1]? = some (.int .i64 (p.a : Nat)) ∧ (tcells l)[i * 3 + 2]? = some (.int .i64 (p.z : Nat)) := by
  intro l
  induction l with
  | nil => intro i p h; simp at h
  | cons q ps ih =>
    intro i p h
    have e : tcells (q :: ps) = .int .i64 (q.k : Nat) :: .int .i64 (q.a : Nat) :: .int .i64 (q.z : Nat) :: tcells ps := by simp [tcells, List.flatMap_cons]
    cases i with
    | zero => simp at h; subst h; rw [e]; exact ⟨rfl, rfl, rfl⟩
    | succ i =>
      simp at h
      obtain ⟨h1, h2, h3⟩ := ih i p h
      rw [e]
      exact ⟨by rw [show (i + 1) * 3 = i * 3 + 1 + 1 + 1 from by omega]; simpa using h1, by rw [show (i + 1) * 3 + 1 = i * 3 + 1 + 1 + 1 + 1 from by omega]; simpa using h2,
        by rw [show (i + 1) * 3 + 2 = i * 3 + 2 + 1 + 1 + 1 from by omega]; simpa using h3⟩
theorem tcells_snoc (l : List Tk) (p : Tk) : tcells (l ++ [p]) = tcells l ++ [.int .i64 (p.k : Nat), .int .i64 (p.a : Nat), .int .i64 (p.z : Nat)] := by simp [tcells]
theorem info_token : (Tryz.prog.info? 109).map (fun i => (i.zero, i.size, i.bytes)) = some (some (.agg #[.int .i64 0, .int .i64 0, .int .i64 0]), 3, 24) := by kernel_rfl

/-- a row's block is no box of another type -/
theorem row_ne {base : Nat} {e t : TypeId} {size : Nat} {v u : Value} {n : Nat} {cs : List Value} {X : Nat → Prop} {W : World} {b : Nat} (h : W.ownsRow base e size v n cs) (hb : Has b (.cells #[u] t (0, 0)) X W) (hte : t ≠ e) : some b ≠ v.ownBlock := by
  intro hh
  rcases h.2 with ⟨rfl, _⟩ | ⟨g, cap, cur, rfl, _, hg, _⟩
  · cases hh
  · injection hh with hh
    subst hh
    have := hb.2.symm.trans hg
    injection this with this
    injection this with _ h2 _
    exact hte h2

/-- a box of another type that is set leaves a row -/
theorem row_set {base : Nat} {e t : TypeId} {size : Nat} {v u u' : Value} {n : Nat} {cs : List Value} {X : Nat → Prop} {W : World} {b : Nat} (h : Row base e size v n cs X W) (hb : Has b (.cells #[u] t (0, 0)) X W) (hte : t ≠ e) : Row base e size v n cs X (W.setCell ⟨b, 0, none⟩ u') :=
  ⟨World.ownsRow.kept h.1 (grownBy_setCell' W b u') (.inr (fun hh => row_ne h.1 hb hte hh.symm)), h.2⟩

theorem lbelow1 (w : World) (o : Obj) : Below w.heap.size w (w.alloc o) := (Below.refl _ w).alloc (Nat.le_refl _) _
abbrev tkc (p : Tk) : Obj := .cells #[.int .i64 (p.k : Nat), .int .i64 (p.a : Nat), .int .i64 (p.z : Nat)] 109 (0, 0)
/-- the walk stops here -/
structure LStay (p : Prop) : Prop where
  out : p
theorem LStay.in_ {p : Prop} (h : p) : LStay p := ⟨h⟩

/-- a slice's tokens, one by one -/
theorem tok_at {w : World} {B : Nat} {A : Option Addr} {l : List Tk} {k : Nat} {t : Tk} (h : Rdc w B A (tcells l)) (hk : l[k]? = some t) : ∃ b off, A = some ⟨b, off, none⟩ ∧ b < B ∧
    w.cell? ⟨b, off + k * 3, none⟩ = some (.int .i64 (t.k : Nat)) ∧ w.cell? ⟨b, off + k * 3 + 1, none⟩ = some (.int .i64 (t.a : Nat)) ∧ w.cell? ⟨b, off + k * 3 + 2, none⟩ = some (.int .i64 (t.z : Nat)) := by
  have hl := (List.getElem?_eq_some_iff.1 hk).1
  obtain ⟨b, off, rfl, hb, hc⟩ := h.at_ (by rw [tcells_length]; omega)
  obtain ⟨h0, h1, h2⟩ := tcells_at l k t hk
  exact ⟨b, off, rfl, hb, hc _ _ h0, by rw [Nat.add_assoc]; exact hc _ _ h1, by rw [Nat.add_assoc]; exact hc _ _ h2⟩

theorem lbelow_drewN {B : Nat} {a w : World} (h : Below B a w) (n : Nat) : Below B a (w.drewN n) := ⟨h.os, h.tape, h.output, h.size, h.block⟩
theorem tk_length (l : List UInt8) : ∀ (n at_ : Nat), l.length - at_ ≤ n → (tk l at_).length ≤ n := by
  intro n
  induction n with
  | zero => intro at_ h; rw [tk_end (by omega)]; simp
  | succ n ih =>
    intro at_ h
    by_cases hl : at_ < l.length
    · have hz := ft_size (l := l.drop at_) (by intro e; have := congrArg List.length e; simp at this; omega)
      rw [tk_step hl, List.length_cons]
      have := ih (at_ + (ft (l.drop at_)).2) (by omega)
      omega
    · rw [tk_end (by omega)]; simp

theorem tk_size (s : ByteArray) : (tk (bs s) 0).length ≤ s.size := tk_length _ _ _ (by rw [bs_size]; omega)

end Go.Proofs.YtfmlcddakfbleaaGreatDoor
