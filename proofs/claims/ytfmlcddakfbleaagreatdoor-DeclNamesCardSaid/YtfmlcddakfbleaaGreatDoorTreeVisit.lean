/- tree.visit, for any yield: the walk through a tree; the iterator that it makes. -/
import Derived.Test.YtfmlcddakfbleaaGreatDoorTreeSmall
import Derived.Test.YtfmlcddakfbleaaGreatDoorShiftFrame
import Derived.RangeFuncCalls
import Derived.RangeFuncLeaves
import Derived.Shelf.Abstract
import Derived.Shelf.RegionOpen
import Derived.OwnWalkIn
import Derived.TacticsInMore
import Derived.LoopNIn
import Derived.LoopIn
namespace Go.Proofs.YtfmlcddakfbleaaGreatDoor
open Go.RowKit Go.Shelf TreeMath

attribute [local go_sem] Oper.semAt_some

abbrev wv (p : Nat × Tr) : Array Value := #[.int .i64 (p.1 : Nat), nv p.2]

theorem Low.lo {n : Nat} {w : World} {X : Nat → Prop} {W : World} {T : Tr} (h : Low n w X W) (hT : Tn (lo n) w T) : Tn (lo n) W T := hT.below h.1

theorem fm_take {β : Type} (f : Tr → List β) {l : List Tr} {j : Nat} {e : Tr} (h : l[j]? = some e) : (l.take (j + 1)).flatMap f = (l.take j).flatMap f ++ f e := by
  rw [List.take_add_one, h]; simp
theorem fm_pre {β : Type} (f : Tr → List β) {l : List Tr} {j : Nat} {e : Tr} {pre xs : List β} (h : l[j]? = some e) (hp : pre ++ l.flatMap f <+: xs) : (pre ++ (l.take j).flatMap f) ++ f e <+: xs := by
  refine List.IsPrefix.trans ?_ hp
  refine ⟨(l.drop (j + 1)).flatMap f, ?_⟩
  rw [List.append_assoc, List.append_assoc, ← List.append_assoc ((l.take j).flatMap f), ← fm_take f h, ← List.flatMap_append, List.take_append_drop]

set_option maxRecDepth 100000 in
set_option maxHeartbeats 2000000 in
theorem visit_any (n₀ : Nat) (w₀ : World) (n m lp : Nat) (J Jx : List (Nat × Tr) → As) (xs : List (Nat × Tr)) (hJ : ∀ pre, Frames (J pre)) (hJx : ∀ pre, Frames (Jx pre)) (hC : ∀ pre X W, J pre X W → Low n₀ w₀ X W)
    (hY : ∀ pre x X W, XOk X W → J pre X W → (pre ++ [x]) <+: xs → YieldAt Fence.wide m Tryz.prog lp (wv x) W fun e W' => W.heap.size ≤ W'.heap.size ∧ Kept X W W' ∧
      ((e = .returned (.bool true) ∧ J (pre ++ [x]) X W') ∨ (e = .returned (.bool false) ∧ Jx (pre ++ [x]) X W'))) (T : Tr) :
    ∀ (d : Nat) (pre : List (Nat × Tr)) (X : Nat → Prop) (W : World), d ≤ 9000 - wt T → wt T ≤ 9000 → Tn (lo n₀) w₀ T → (pre ++ wk d T) <+: xs → XOk X W → J pre X W →
    CallsIn Fence.wide n Tryz.prog 75 #[nv T, .int .i64 (d : Nat), .func (.yield lp) #[] #[]] W fun e W' => W.heap.size ≤ W'.heap.size ∧ Kept X W W' ∧
      ((e = .returned (.bool true) ∧ J (pre ++ wk d T) X W') ∨ (e = .returned (.bool false) ∧ ∃ q, q <+: xs ∧ Jx q X W')) := by
  have HY := Lib.hid hY
  have HC := Lib.hid hC
  have HJ := Lib.hid hJ
  have HJx := Lib.hid hJx
  clear hY hC hJ hJx
  induction T using Tr.ind with | _ k g t a A c kids ih =>
  intro d pre X W hd hw hT hp hX h0
  have HIH := Lib.hid ih
  have HT := Lib.hid hT
  have hkl : kids.length < 9000 := by have := kids_le (T := ⟨k, g, t, a, A, c, kids⟩); simp only at this; omega
  have HD := Lib.hid hd
  have HW := Lib.hid hw
  have hwk := wk_eq d ⟨k, g, t, a, A, c, kids⟩
  have HP : Hid ((pre ++ [(d, (⟨k, g, t, a, A, c, kids⟩ : Tr))]) ++ kids.flatMap (wk (d + 1)) <+: xs) := Lib.hid (by rw [hwk] at hp; simpa using hp)
  have HWK := Lib.hid hwk
  have HX := Lib.hid hX
  have hd5 : d ≤ 9000 := by omega
  clear ih hT hd hw hwk hp hX
  refine callsIn_of_wp Tryz.func75 rfl trivial ?_ rfl
  simp only [Tryz.ntmps75, List.size_toArray, List.length_cons, List.length_nil, Nat.reduceAdd, Nat.reduceSub, Array.replicate_succ, Array.replicate_zero, List.push_toArray, List.append_toArray, List.nil_append, List.cons_append]
  have hO := (HX.out).below (below1 W (.cells (ncc ⟨k, g, t, a, A, c, kids⟩) 30))
  obtain ⟨fn, tmps, assign, body, hy, hR⟩ := HY.out pre (d, ⟨k, g, t, a, A, c, kids⟩) (fun j => X j ∨ j = W.heap.size) (W.alloc (.cells (ncc ⟨k, g, t, a, A, c, kids⟩) 30))
    (fun j hj => hj.elim (hO j) (fun e => by subst e; exact ⟨_, World.alloc_heap_new W _, rfl⟩)) ((HJ.out _).more h0 (Off.alloc _ _ _) (fun j hj => hj.elim .inl (fun e => .inr (by omega)))) (List.IsPrefix.trans (List.prefix_append _ _) HP.out)
  clear hO
  simp only [wv] at hy
  gi_wp2
  refine round_any (hR.mono ?_)
  rintro r W3 ⟨hs3, hk3, (⟨rfl, hJ3⟩ | ⟨rfl, hJx3⟩)⟩
  · have hb3 := hk3 W.heap.size (.inr rfl) (by simp)
    rw [World.alloc_heap_new] at hb3
    have q4 : W3.cell? ⟨W.heap.size, 4, none⟩ = some (.slice A kids.length c) := by simp [World.cell?, hb3]
    have HK3 : Hid (Kept X W W3) := Lib.hid (Kept.trans (by simp) (Kept.alloc X W _) (hk3.mono fun _ h => .inl h))
    have hJ3' := (HJ.out _).less hJ3 (fun j (h : X j) => .inl h)
    have hs3' : W.heap.size ≤ W3.heap.size := Nat.le_trans (by simp) hs3
    clear hy hR hk3 hJ3 hb3 hs3
    gi_wp2
    gi_loopw [17] (fun i wr => ∃ j : Nat, i = .int .i64 j ∧ j ≤ kids.length ∧ W.heap.size ≤ wr.heap.size ∧ Hid (Kept X W wr) ∧ J ((pre ++ [(d, (⟨k, g, t, a, A, c, kids⟩ : Tr))]) ++ (kids.take j).flatMap (wk (d + 1))) X wr) (fun i _ => kids.length + 1 - (intOf i).toNat)
    case atStart => exact ⟨0, rfl, Nat.zero_le _, hs3', HK3, by simpa using hJ3'⟩
    case round =>
      clear q4 HK3 hJ3' hs3'
      obtain ⟨j, rfl, hj, hsr, HKr, hJr⟩ := hrel
      by_cases hlt : j < kids.length
      · obtain ⟨e, he⟩ : ∃ e, kids[j]? = some e := ⟨_, List.getElem?_eq_getElem hlt⟩
        have hmem := List.mem_of_getElem? he
        have hlow := HC.out _ _ _ hJr
        obtain ⟨b, off, rfl, hb, c0, c1, c2, c3, c4⟩ := (HT.out.below hlow.1).at_ he
        have hwe := wt_kid (T := ⟨k, g, t, a, some ⟨b, off, none⟩, c, kids⟩) hmem
        have HS := Lib.hid (fm_take (wk (d + 1)) he)
        have HQ := Lib.hid (fm_pre (wk (d + 1)) he HP.out)
        have hXr := HX.out.kept HKr.out
        have hIH := HIH.out e hmem (d + 1) ((pre ++ [(d, (⟨k, g, t, a, some ⟨b, off, none⟩, c, kids⟩ : Tr))]) ++ (kids.take j).flatMap (wk (d + 1))) X (wr.alloc (.cells (ncc e) 30))
          (by have := HD.out; have := HW.out; omega) (by have := HW.out; omega) (HT.out.kid hmem) HQ.out (hXr.below (below1 _ _)) ((HJ.out _).off hJr (Off.alloc _ _ _))
        rw [Int.natCast_add, Int.natCast_one] at hIH
        have HI := Lib.hid hIH
        have z1 : (j : Int) < kids.length := by omega
        have z2 : (0 : Int) ≤ j := by omega
        clear hIH hwe hmem he hlow hXr
        gi_wp2
        refine ⟨trivial, fun h => by simp [Fence.wide] at h, (callsIn_wide.2 (callsIn_wide.1 HI.out)).mono ?_⟩
        rintro r W4 ⟨hs4, hk4, (⟨rfl, hJ4⟩ | ⟨rfl, q, hq, hJx4⟩)⟩
        · clear c0 c1 c2 c3 c4 hJr
          have HJ4 : Hid (J ((pre ++ [(d, (⟨k, g, t, a, some ⟨b, off, none⟩, c, kids⟩ : Tr))]) ++ (kids.take (j + 1)).flatMap (wk (d + 1))) X W4) := Lib.hid (by rw [HS.out, ← List.append_assoc]; exact hJ4)
          have HK4 := Lib.hid (Kept.trans hsr HKr.out (Kept.trans (by simp) (Kept.alloc X wr _) hk4))
          have hs5 : W.heap.size ≤ W4.heap.size := Nat.le_trans hsr (Nat.le_trans (by simp) hs4)
          clear hJ4 hk4 hs4
          gi_wp2
          go_roundw
          case rel => exact ⟨j + 1, by go_num, by omega, hs5, HK4, HJ4.out⟩
          case measure => simp [intOf]; omega
        · gi_wp2
          refine bodyPost_ret (v := .bool false) (by simp [results, Tryz.results75, go_sem]) rfl ?_
          exact ⟨Nat.le_trans hsr (Nat.le_trans (by simp) hs4), Kept.trans hsr HKr.out (Kept.trans (by simp) (Kept.alloc X wr _) hk4), .inr ⟨rfl, q, hq, hJx4⟩⟩
      · obtain rfl : j = kids.length := by omega
        gi_wp2
        refine bodyPost_ret (v := .bool true) (by simp [results, Tryz.results75, go_sem]) rfl ?_
        refine ⟨hsr, HKr.out, .inl ⟨rfl, ?_⟩⟩
        rw [List.take_length] at hJr
        rw [HWK.out]
        simpa using hJr
  · clear hy hR
    gi_wp2
    refine bodyPost_ret (v := .bool false) (by simp [results, Tryz.results75, go_sem]) rfl ?_
    exact ⟨Nat.le_trans (by simp) hs3, Kept.trans (by simp) (Kept.alloc X W _) (hk3.mono fun _ h => .inl h), .inr ⟨rfl, _, List.IsPrefix.trans (List.prefix_append _ _) HP.out, (HJx.out _).less hJx3 (fun j (h : X j) => .inl h)⟩⟩
end Go.Proofs.YtfmlcddakfbleaaGreatDoor
