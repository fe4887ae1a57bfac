/- lex.All: the iterator hands all tokens of its text, in their order, to any loop. slices.Collect of tokens. lex.List. -/
import Derived.Test.YtjmdnjflcifpmaaDoorLexFirst
import Derived.Test.YtjmdnjflcifpmaaDoorShiftFrame
import Derived.Test.YtjmdnjflcifpmaaDoorShiftRow
import Derived.Test.YtjmdnjflcifpmaaDoorTextBridge
import Derived.RangeFuncCalls
import Derived.RangeFuncLeaves
import Derived.Shelf.Abstract
import Derived.Shelf.RegionOpen
import Derived.OwnWalkIn
import Derived.TacticsInMore
import Derived.LoopNIn
import Derived.LoopIn
namespace Go.Proofs.YtjmdnjflcifpmaaDoor
open Go.RowKit Go.Shelf SignMath

attribute [local go_sem] Oper.semAt_some

abbrev tkv (t : Tk) : Value := .agg #[.int .i64 (t.k : Nat), .int .i64 (t.a : Nat), .int .i64 (t.z : Nat)]

set_option maxRecDepth 100000 in
set_option maxHeartbeats 2000000 in
theorem all_iter (s : ByteArray) (hs : s.size ≤ 10000) (w₀ : World) (hL : LaidX w₀) (b : Nat) :
    Iter Tryd.prog 22 #[.pointer (some ⟨b, 0, none⟩)] (fun t : Tk => #[tkv t]) (tk (bs s) 0) (fun X W => Low w₀.heap.size w₀ X W ∧ Has b (.cells #[.string s] 9 (0, 0)) X W) := by
  intro n m lp J Jx W hJ hJx hC hY h0
  have HY := Lib.hid hY
  have HC := Lib.hid hC
  have HJ := Lib.hid hJ
  have HJx := Lib.hid hJx
  have HL := Lib.hid hL
  have HZ := Lib.hid (bs_size s)
  clear hY hC hJ hJx hL
  have HQ : Hid (∀ W' : World, (Low w₀.heap.size w₀ no W' ∧ Has b (.cells #[.string s] 9 (0, 0)) no W') → W'.cell? ⟨b, 0, none⟩ = some (.string s)) := Lib.hid (fun W' h => by
    simp [World.cell?, h.2.2])
  have q0 := HQ.out _ (HC.out _ _ _ h0)
  refine callsIn_of_wp Tryd.func22 rfl trivial ?_ rfl
  simp only [Tryd.ntmps22, List.size_toArray, List.length_cons, List.length_nil, Nat.reduceAdd, Nat.reduceSub, Array.replicate_succ, Array.replicate_zero, List.push_toArray, List.append_toArray, List.nil_append, List.cons_append]
  gi_wp2
  gi_loopw [3, 4, 5] (fun i _ _ wr => ∃ (k : Nat) (pre : List Tk), i = .int .i64 k ∧ k ≤ s.size ∧ Hid (pre ++ tk (bs s) k = tk (bs s) 0) ∧ J pre no wr) (fun i _ _ _ => s.size - (intOf i).toNat)
  case atStart => exact ⟨0, [], rfl, Nat.zero_le _, Lib.hid rfl, h0⟩
  case round =>
    clear q0 h0
    obtain ⟨k, pre, rfl, hk, HT, hJs⟩ := hrel
    have hlow := HC.out _ _ _ hJs
    have q0 := HQ.out _ hlow
    by_cases hlt : k < s.size
    · have hz : (s.extract k s.size).size = s.size - k := by rw [← bs_size, bs_end, List.length_drop, bs_size]
      have HF := Lib.hid (first_any (s.extract k s.size) (by omega) (by omega) wr (HL.out.below hlow.1.1))
      have hsz := ft_size (l := (bs s).drop k) (by intro e; have := congrArg List.length e; rw [List.length_drop, bs_size] at this; simp at this; omega)
      rw [List.length_drop, bs_size] at hsz
      have hkd := ft_kind ((bs s).drop k)
      have HS := Lib.hid (tk_step (l := bs s) (at_ := k) (by rw [bs_size]; exact hlt))
      rw [bs_end] at HF
      clear hz hlow
      generalize ft ((bs s).drop k) = x at HF hsz hkd HS
      obtain ⟨q, z⟩ := x
      dsimp only at hsz hkd HS
      rw [HS.out] at HT
      have HP : Hid (pre ++ [⟨q, k, k + z⟩] <+: tk (bs s) 0) := Lib.hid (by rw [← HT.out]; exact ⟨tk (bs s) (k + z), by simp⟩)
      gi_wp2
      refine ⟨trivial, fun h => by simp [Fence.wide] at h, (callsIn_wide.2 HF.out).mono ?_⟩
      rintro e w1 ⟨rfl, hb1⟩
      have hJ1 := (HJ.out _).off hJs (Off.of_below hb1)
      obtain ⟨fn, tmps, assign, body, hy, hR⟩ := HY.out _ ⟨q, k, k + z⟩ no w1 (fun _ h => h.elim) hJ1 HP.out
      simp only [tkv, Int.natCast_add] at hy
      unfold tk2
      dsimp only
      gi_wp2
      refine round_any (hR.mono ?_)
      rintro r W3 ⟨hs3, hk3, (⟨rfl, hJ3⟩ | ⟨rfl, hJx3⟩)⟩
      · clear hk3 hy
        gi_wp2
        go_roundw
        case rel => exact ⟨k + z, pre ++ [⟨q, k, k + z⟩], by go_num, by omega, Lib.hid (by rw [← HT.out]; simp), hJ3⟩
        case measure => simp [intOf]; omega
      · gi_wp2
        refine bodyPost_ret (results_none rfl _ _ _) rfl ?_
        exact ⟨⟨_, rfl⟩, .inr ⟨_, HP.out, hJx3⟩⟩
    · obtain rfl : k = s.size := by omega
      have HE := Lib.hid (tk_end (l := bs s) (at_ := s.size) (by rw [bs_size]; exact Nat.le_refl _))
      gi_wp2
      go_end0
      refine ⟨⟨_, rfl⟩, .inl ?_⟩
      have := HT.out
      rw [HE.out, List.append_nil] at this
      rw [← this]
      exact hJs

set_option maxHeartbeats 400000 in
theorem lexAll_any (s : ByteArray) (w : World) :
    Calls Tryd.prog 10 #[.string s] w fun e w' => e = .returned (.func (.func 22) #[] #[.pointer (some ⟨w.heap.size, 0, none⟩)]) ∧ w.alloc (.cells #[.string s] 9) = w' := by
  have hmf : ∀ (fn : Fn) (first cap : Array Value) (w : World), (Instr.makeFunc fn first cap).run Tryd.prog w = .ok (.func fn first cap) w := fun _ _ _ _ => rfl
  go_enter Tryd.func10, Tryd.ntmps10
  go_wp2
  go_ret
  exact ⟨rfl, rfl⟩

theorem eg_all : ∀ args w, (callFunc 22 args).run Tryd.prog w = .ok (.enter 22 args) w := by
  intro args w; simp [go_sem]

/-- tokens' cells -/
def tcells (l : List Tk) : List Value := l.flatMap fun t => [.int .i64 (t.k : Nat), .int .i64 (t.a : Nat), .int .i64 (t.z : Nat)]
theorem tcells_length (l : List Tk) : (tcells l).length = l.length * 3 := by
  unfold tcells
  induction l with
  | nil => rfl
  | cons p ps ih => simp [List.flatMap_cons, ih]; omega
theorem tcells_at : ∀ (l : List Tk) (i : Nat) (p : Tk), l[i]? = some p → (tcells l)[i * 3]? = some (.int .i64 (p.k : Nat)) ∧ (tcells l)[i * 3 + 1]? = some (.int .i64 (p.a : Nat)) ∧ (tcells l)[i * 3 + 2]? = some (.int .i64 (p.z : Nat)) := by
  intro l
  induction l with
  | nil => intro i p h; simp at h
  | cons q ps ih =>
    intro i p h
    have e : tcells (q :: ps) = .int .i64 (q.k : Nat) :: .int .i64 (q.a : Nat) :: .int .i64 (q.z : Nat) :: tcells ps := by simp [tcells, List.flatMap_cons]
    cases i with
    | zero => simp at h; subst h; rw [e]; exact ⟨rfl, rfl, rfl⟩
    | succ i =>
      simp at h
      obtain ⟨h1, h2, h3⟩ := ih i p h
      rw [e]
      exact ⟨by rw [show (i + 1) * 3 = i * 3 + 1 + 1 + 1 from by omega]; simpa using h1, by rw [show (i + 1) * 3 + 1 = i * 3 + 1 + 1 + 1 + 1 from by omega]; simpa using h2,
        by rw [show (i + 1) * 3 + 2 = i * 3 + 2 + 1 + 1 + 1 from by omega]; simpa using h3⟩
theorem tcells_snoc (l : List Tk) (p : Tk) : tcells (l ++ [p]) = tcells l ++ [.int .i64 (p.k : Nat), .int .i64 (p.a : Nat), .int .i64 (p.z : Nat)] := by simp [tcells]
theorem info_token : (Tryd.prog.info? 31).map (fun i => (i.zero, i.size, i.bytes)) = some (some (.agg #[.int .i64 0, .int .i64 0, .int .i64 0]), 3, 24) := by kernel_rfl

/-- a row's block is no box of another type -/
theorem row_ne {base : Nat} {e t : TypeId} {size : Nat} {v u : Value} {n : Nat} {cs : List Value} {X : Nat → Prop} {W : World} {b : Nat} (h : W.ownsRow base e size v n cs) (hb : Has b (.cells #[u] t (0, 0)) X W) (hte : t ≠ e) : some b ≠ v.ownBlock := by
  intro hh
  rcases h.2 with ⟨rfl, _⟩ | ⟨g, cap, cur, rfl, _, hg, _⟩
  · cases hh
  · injection hh with hh
    subst hh
    have := hb.2.symm.trans hg
    injection this with this
    injection this with _ h2 _
    exact hte h2

/-- a box of another type that is set leaves a row -/
theorem row_set {base : Nat} {e t : TypeId} {size : Nat} {v u u' : Value} {n : Nat} {cs : List Value} {X : Nat → Prop} {W : World} {b : Nat} (h : Row base e size v n cs X W) (hb : Has b (.cells #[u] t (0, 0)) X W) (hte : t ≠ e) : Row base e size v n cs X (W.setCell ⟨b, 0, none⟩ u') :=
  ⟨World.ownsRow.kept h.1 (grownBy_setCell' W b u') (.inr (fun hh => row_ne h.1 hb hte hh.symm)), h.2⟩

theorem below1 (w : World) (o : Obj) : Below w.heap.size w (w.alloc o) := (Below.refl _ w).alloc (Nat.le_refl _) _

/-- a slice of tokens, in new memory -/
def CoV (L : List Tk) (w : World) (e : Ending) (w' : World) : Prop := ∃ A c, e = .returned (.slice A L.length c) ∧ Rdc w' w'.heap.size A (tcells L) ∧ (∀ a, A = some a → w.heap.size ≤ a.block) ∧ Below w.heap.size w w'

def CoI (w : World) (y : Nat) (pre : List Tk) : As := fun X W => Low w.heap.size w X W ∧ ∃ v, Has y (.cells #[v] 35 (0, 0)) X W ∧ Row w.heap.size 31 3 v pre.length (tcells pre) X W
theorem CoI.frames (w : World) (y : Nat) (pre : List Tk) : Frames (CoI w y pre) := (Low.frames _ _).and (Frames.ex fun _ => (Has.frames _ _).and (Row.frames _ _ _ _ _ _))
abbrev tkc (p : Tk) : Obj := .cells #[.int .i64 (p.k : Nat), .int .i64 (p.a : Nat), .int .i64 (p.z : Nat)] 31 (0, 0)
abbrev coFrm (y bp : Nat) (v : Value) (p : Tk) : Act := { tmps := #[.slice none 0 0, v, .pointer (some ⟨y, 0, none⟩), undef, .slice none 0 0, .pointer (some ⟨bp, 0, none⟩), v, tkv p, undef, undef, undef, undef, undef], defers := [] }
def CoA (w : World) (y : Nat) (v : Value) (pre : List Tk) (p : Tk) (a' : Act) : As := fun X W => ∃ bp, CoI w y pre X W ∧ Has bp (tkc p) X W ∧ a' = coFrm y bp v p

set_option maxRecDepth 100000 in
set_option maxHeartbeats 1000000 in
theorem appendSeq_any {gf : Nat} {lb : Array Value} {xs : List Tk} {C : As} (hit : Iter Tryd.prog gf lb (fun p : Tk => #[tkv p]) xs C) (eg : ∀ args w, (callFunc gf args).run Tryd.prog w = .ok (.enter gf args) w) (w : World)
    (hC : ∀ X W, Low w.heap.size w X W → C X W) (hxs : xs.length ≤ 20000) :
    Calls Tryd.prog 44 #[.slice none 0 0, .func (.func gf) #[] lb] w (CoV xs w) := by
  have HC := Lib.hid hC
  clear hC
  refine (callsIn_wide (n := 8)).1 ?_
  refine callsIn_of_wp_marks Tryd.func44 rfl trivial ?_ rfl
  simp only [Tryd.ntmps44, List.size_toArray, List.length_cons, List.length_nil, Nat.reduceAdd, Nat.reduceSub, Array.replicate_succ, Array.replicate_zero, List.push_toArray, List.append_toArray, List.nil_append, List.cons_append]
  gi_wp2
  refine range_out hit rfl eg (fun _ => rfl) (CoI w w.heap.size) (fun _ _ _ _ => False) (CoA w w.heap.size (.func (.func gf) #[] lb)) ?fI ?fX ?fA ?hC ?h0 ?assign ?body ?done ?stop
  case fI => exact fun pre => CoI.frames _ _ _
  case fX => exact fun c pre => Frames.pure _
  case fA => exact fun pre p a' => Frames.ex fun bp => (CoI.frames _ _ _).and ((Has.frames _ _).and (Frames.pure _))
  case hC => exact fun pre X W1 h => HC.out X W1 h.1
  case h0 => exact ⟨⟨below1 w _, by simp, fun _ h => h.elim⟩, .slice none 0 0, Has.newAt (fun h => h) rfl _, World.ownsRow_nil _ _ _ _, fun k hk => by cases hk⟩
  case assign =>
    rintro lq X pre p W1 K hX hXb hi hp hK
    gi_wp2
    exact hK _ _ (by simp) (Kept.alloc _ _ _) ⟨W1.heap.size, (CoI.frames _ _ _).off hi (Off.alloc _ _ _), Has.new hXb _, rfl⟩
  case body =>
    rintro lq X pre p a' W1 hX hXb hr2 ⟨bp, ⟨hlow, v, hy, hrow⟩, hbp, rfl⟩ hp
    have hlen : pre.length < 20000 := by have := hp.length_le; simp at this; omega
    clear hp
    obtain ⟨A0, c0, rfl⟩ := own_slice hrow.1
    have p0 := hbp.cell (i := 0)
    have p1 := hbp.cell (i := 1)
    have p2 := hbp.cell (i := 2)
    have q0 := hy.cell (i := 0)
    simp only [List.getElem?_toArray, List.getElem?_cons_zero, List.getElem?_cons_succ] at p0 p1 p2 q0
    have hne := row_ne hrow.1 hy (by decide)
    gi_wp2_with (gi_at_builtin; refine wpListIn_append_at (W1.alloc _) rfl _ _ 35 rfl w.heap.size 31 _ 3 24 Tryd.underlying35 info_token rfl (by decide) _ pre.length _ rfl (hrow.1.alloc _) W1.heap.size _ rfl (World.alloc_heap_new W1 _) rfl (by intro u hu; simp at hu; rcases hu with rfl | rfl | rfl <;> rfl) (by unfold maxLen; omega) (by omega) (by have := hlow.2.1; simp; omega) ?_; intro v' w1' hown' hgrow hat; obtain ⟨A1, c1, rfl⟩ := own_slice hown'; have hy1 : Has w.heap.size (.cells #[.slice A0 pre.length c0] 35 (0, 0)) X w1' := ⟨hy.1, (hgrow.block _ (hy.alloc _).lt hne).trans (hy.alloc _).2⟩; have q1 := hy1.cell (i := 0); have f1 := hy1.frozen (i := 0); simp only [List.getElem?_toArray, List.getElem?_cons_zero] at q1)
    obtain ⟨hrow1, hk1⟩ := Row.appended ((Row.frames _ _ _ _ _ _).off hrow (Off.alloc _ W1 _)) hXb (by simp) hown' hgrow hat
    have hs1 : W1.heap.size ≤ w1'.heap.size := Nat.le_trans (by simp) hgrow.size
    have hk2 : Kept X W1 w1' := Kept.trans (by simp) (Kept.alloc _ _ _) hk1
    have hlow1 : Low w.heap.size w X w1' := ⟨(hlow.1.alloc hlow.2.1 _).grown hgrow (by have := hlow.2.1; simp; omega) (fun k hk => (World.ownsRow.lt hrow.1 k hk).1), Nat.le_trans hlow.2.1 hs1, hlow.2.2⟩
    refine ⟨?_, ?_, ?_, _, hy1.set, ?_⟩
    · simp only [World.setCell, Array.size_modify]; exact hs1
    · exact Kept.trans hs1 hk2 (Kept.set hy1.1 _ _)
    · exact ⟨hlow1.1.setCell (p := ⟨w.heap.size, 0, none⟩) (Nat.le_refl _) _, by have := hlow1.2.1; simp only [World.setCell, Array.size_modify]; exact this, hlow1.2.2⟩
    · rw [List.length_append, tcells_snoc]
      exact row_set hrow1 hy1 (by decide)
  case done =>
    rintro D W1 ⟨hlow, v, hy, hrow⟩ hD
    obtain ⟨A0, c0, rfl⟩ := own_slice hrow.1
    have q0 := hy.cell (i := 0)
    simp only [List.getElem?_toArray, List.getElem?_cons_zero] at q0
    gi_wp2
    refine ⟨by simp, .inl ⟨_, _, rfl, run_takeDeferred hD, ?_⟩⟩
    have ho : Off (· = D) W1 (W1.putObj D (.deferred none)) := Off.putObj (X := (· = D)) rfl _ _
    have hrow2 := (Row.frames _ _ _ _ _ _).off hrow ho
    refine ⟨.slice A0 xs.length c0, by simp [results, Tryd.results44, go_sem], A0, c0, rfl, own_read hrow2.1, (fun a ha => (World.ownsRow.lt hrow2.1 a.block (by rw [ha]; rfl)).1), ((Low.frames _ _).off hlow ho).1⟩
  case stop =>
    rintro D c pre W1 hp h hD
    exact h.elim

set_option maxHeartbeats 400000 in
theorem collect_any {gf : Nat} {lb : Array Value} {xs : List Tk} {C : As} (hit : Iter Tryd.prog gf lb (fun p : Tk => #[tkv p]) xs C) (eg : ∀ args w, (callFunc gf args).run Tryd.prog w = .ok (.enter gf args) w) (w : World)
    (hC : ∀ X W, Low w.heap.size w X W → C X W) (hxs : xs.length ≤ 20000) :
    Calls Tryd.prog 24 #[.func (.func gf) #[] lb] w (CoV xs w) := by
  have H := Lib.hid (appendSeq_any hit eg w hC hxs)
  clear hC
  go_enter Tryd.func24, Tryd.ntmps24
  go_wp2_with fail
  refine H.out.mono ?_
  rintro e w1 ⟨A, c, rfl, hd, hba, hb⟩
  have HD := Lib.hid hd
  have HBA := Lib.hid hba
  clear hd hba
  go_wp2
  go_ret
  exact ⟨A, c, rfl, HD.out, HBA.out, hb⟩

theorem tk_length (l : List UInt8) : ∀ (n at_ : Nat), l.length - at_ ≤ n → (tk l at_).length ≤ n := by
  intro n
  induction n with
  | zero => intro at_ h; rw [tk_end (by omega)]; simp
  | succ n ih =>
    intro at_ h
    by_cases hl : at_ < l.length
    · have hz := ft_size (l := l.drop at_) (by intro e; have := congrArg List.length e; simp at this; omega)
      rw [tk_step hl, List.length_cons]
      have := ih (at_ + (ft (l.drop at_)).2) (by omega)
      omega
    · rw [tk_end (by omega)]; simp

theorem tk_size (s : ByteArray) : (tk (bs s) 0).length ≤ s.size := tk_length _ _ _ (by rw [bs_size]; omega)

set_option maxHeartbeats 400000 in
theorem list_any (s : ByteArray) (hs : s.size ≤ 10000) (w : World) (hL : LaidX w) :
    Calls Tryd.prog 12 #[.string s] w (CoV (tk (bs s) 0) w) := by
  have hL1 := hL.below (below1 w (.cells #[.string s] 9))
  have hb := World.alloc_heap_new w (.cells #[.string s] 9)
  have hit := all_iter s hs _ hL1 w.heap.size
  have hlen := tk_size s
  have H := Lib.hid (collect_any hit eg_all (w.alloc (.cells #[.string s] 9)) (fun X W h => ⟨h, fun hx => by have := h.2.2 _ hx; simp at this; omega, (h.1.block _ (by simp)).trans hb⟩) (by omega))
  clear hL1 hb hit
  have HS := Lib.hid (below1 w (.cells #[.string s] 9))
  generalize tk (bs s) 0 = L at H hlen
  go_enter Tryd.func12, Tryd.ntmps12
  go_wp2_with (first | (go_at_call 10; refine (lexAll_any s w).mono ?_; rintro e w' ⟨rfl, rfl⟩) | (go_at_call 24; refine H.out.mono ?_; rintro e w1 ⟨A, c, rfl, hd, hba, hb⟩; have HD := Lib.hid hd; have HBA := Lib.hid hba; clear hd hba))
  go_ret
  refine ⟨A, c, rfl, HD.out, fun a ha => Nat.le_trans (by simp) (HBA.out a ha), HS.out.trans (hb.mono (by simp))⟩
end Go.Proofs.YtjmdnjflcifpmaaDoor
