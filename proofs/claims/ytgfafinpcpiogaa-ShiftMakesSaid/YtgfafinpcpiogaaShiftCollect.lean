/- slices.Collect of pieces, whatever iterator gives them. -/
import Derived.Test.YtgfafinpcpiogaaShiftGoing
import Derived.Test.YtgfafinpcpiogaaShiftSpans
namespace Go.Proofs.Ytgfafinpcpiogaa
open Go.RowKit Go.Shelf EditMath ShiftMath

attribute [local go_sem] Oper.semAt_some

def pcells (l : List Pc) : List Value := l.flatMap fun p => [.int .i64 p.a, .int .i64 p.f, .int .i64 p.t, .string p.s]
theorem pcells_length (l : List Pc) : (pcells l).length = l.length * 4 := by
  unfold pcells
  induction l with
  | nil => rfl
  | cons p ps ih => simp [List.flatMap_cons, ih]; omega
theorem pcells_at : ∀ (l : List Pc) (i : Nat) (p : Pc), l[i]? = some p → (pcells l)[i * 4]? = some (.int .i64 p.a) ∧ (pcells l)[i * 4 + 1]? = some (.int .i64 p.f) ∧ (pcells l)[i * 4 + 2]? = some (.int .i64 p.t) ∧ (pcells l)[i * 4 + 3]? = some (.string p.s) := by
  intro l
  induction l with
  | nil => intro i p h; simp at h
  | cons q ps ih =>
    intro i p h
    have e : pcells (q :: ps) = .int .i64 q.a :: .int .i64 q.f :: .int .i64 q.t :: .string q.s :: pcells ps := by simp [pcells, List.flatMap_cons]
    cases i with
    | zero => simp at h; subst h; rw [e]; exact ⟨rfl, rfl, rfl, rfl⟩
    | succ i =>
      simp at h
      obtain ⟨h1, h2, h3, h4⟩ := ih i p h
      rw [e]
      exact ⟨by rw [show (i + 1) * 4 = i * 4 + 1 + 1 + 1 + 1 from by omega]; simpa using h1, by rw [show (i + 1) * 4 + 1 = i * 4 + 1 + 1 + 1 + 1 + 1 from by omega]; simpa using h2,
        by rw [show (i + 1) * 4 + 2 = i * 4 + 2 + 1 + 1 + 1 + 1 from by omega]; simpa using h3, by rw [show (i + 1) * 4 + 3 = i * 4 + 3 + 1 + 1 + 1 + 1 from by omega]; simpa using h4⟩
theorem pcells_snoc (l : List Pc) (p : Pc) : pcells (l ++ [p]) = pcells l ++ [.int .i64 p.a, .int .i64 p.f, .int .i64 p.t, .string p.s] := by simp [pcells]
theorem info_piece : (Try.prog.info? 92).map (fun i => (i.zero, i.size, i.bytes)) = some (some (.agg #[.int .i64 0, .int .i64 0, .int .i64 0, .string ⟨#[]⟩]), 4, 40) := by kernel_rfl

def CoV (L : List Pc) (w : World) (e : Ending) (w' : World) : Prop := ∃ A c, e = .returned (.slice A L.length c) ∧ Rdc w' w'.heap.size A (pcells L) ∧ (∀ a, A = some a → w.heap.size ≤ a.block) ∧ Below w.heap.size w w'

def CoI (w : World) (y : Nat) (pre : List Pc) : As := fun X W => Low w.heap.size w X W ∧ ∃ v, Has y (.cells #[v] 103 (0, 0)) X W ∧ Row w.heap.size 92 4 v pre.length (pcells pre) X W
theorem CoI.frames (w : World) (y : Nat) (pre : List Pc) : Frames (CoI w y pre) := (Low.frames _ _).and (Frames.ex fun _ => (Has.frames _ _).and (Row.frames _ _ _ _ _ _))
abbrev coFrm (y bp : Nat) (v : Value) (p : Pc) : Act := { tmps := #[.slice none 0 0, v, .pointer (some ⟨y, 0, none⟩), undef, .slice none 0 0, .pointer (some ⟨bp, 0, none⟩), v, pcv p, undef, undef, undef, undef, undef], defers := [] }
def CoA (w : World) (y : Nat) (v : Value) (pre : List Pc) (p : Pc) (a' : Act) : As := fun X W => ∃ bp, CoI w y pre X W ∧ Has bp (pcc p) X W ∧ a' = coFrm y bp v p

set_option maxRecDepth 100000 in
set_option maxHeartbeats 1000000 in
theorem appendSeq_any {gf : Nat} {lb : Array Value} {xs : List Pc} {C : As} (hit : Iter Try.prog gf lb (fun p : Pc => #[pcv p]) xs C) (eg : ∀ args w, (callFunc gf args).run Try.prog w = .ok (.enter gf args) w) (w : World)
    (hC : ∀ X W, Low w.heap.size w X W → C X W) (hxs : xs.length ≤ 20000) :
    Calls Try.prog 88 #[.slice none 0 0, .func (.func gf) #[] lb] w (CoV xs w) := by
  have HC := Lib.hid hC
  clear hC
  refine (callsIn_wide (n := 8)).1 ?_
  refine callsIn_of_wp_marks Try.func88 rfl trivial ?_ rfl
  simp only [Try.ntmps88, List.size_toArray, List.length_cons, List.length_nil, Nat.reduceAdd, Nat.reduceSub, Array.replicate_succ, Array.replicate_zero, List.push_toArray, List.append_toArray, List.nil_append, List.cons_append]
  gi_wp2
  refine range_out hit rfl eg (fun _ => rfl) (CoI w w.heap.size) (fun _ _ _ _ => False) (CoA w w.heap.size (.func (.func gf) #[] lb)) ?fI ?fX ?fA ?hC ?h0 ?assign ?body ?done ?stop
  case fI => exact fun pre => CoI.frames _ _ _
  case fX => exact fun c pre => Frames.pure _
  case fA => exact fun pre p a' => Frames.ex fun bp => (CoI.frames _ _ _).and ((Has.frames _ _).and (Frames.pure _))
  case hC => exact fun pre X W1 h => HC.out X W1 h.1
  case h0 => exact ⟨⟨below1 w _, by simp, fun _ h => h.elim⟩, .slice none 0 0, Has.newAt (fun h => h) rfl _, World.ownsRow_nil _ _ _ _, fun k hk => by cases hk⟩
  case assign =>
    rintro lq X pre p W1 K hX hXb hi hp hK
    gi_wp2
    exact hK _ _ (by simp) (Kept.alloc _ _ _) ⟨W1.heap.size, (CoI.frames _ _ _).off hi (Off.alloc _ _ _), Has.new hXb _, rfl⟩
  case body =>
    rintro lq X pre p a' W1 hX hXb hr2 ⟨bp, ⟨hlow, v, hy, hrow⟩, hbp, rfl⟩ hp
    have hlen : pre.length < 20000 := by have := (List.getElem?_eq_some_iff.1 (pref_iff hp).2).1; omega
    clear hp
    obtain ⟨A0, c0, rfl⟩ := own_slice hrow.1
    have p0 := hbp.cell (i := 0)
    have p1 := hbp.cell (i := 1)
    have p2 := hbp.cell (i := 2)
    have p3 := hbp.cell (i := 3)
    have q0 := hy.cell (i := 0)
    simp only [List.getElem?_toArray, List.getElem?_cons_zero, List.getElem?_cons_succ] at p0 p1 p2 p3 q0
    have hne := row_ne hrow.1 hy (by decide)
    gi_wp2_with (gi_at_builtin; refine wpListIn_append_at (W1.alloc _) rfl _ _ 103 rfl w.heap.size 92 _ 4 40 Try.underlying103 info_piece rfl (by decide) _ pre.length _ rfl (hrow.1.alloc _) W1.heap.size _ rfl (World.alloc_heap_new W1 _) rfl (by intro u hu; simp at hu; rcases hu with rfl | rfl | rfl | rfl <;> rfl) (by unfold maxLen; omega) (by omega) (by have := hlow.2.1; simp; omega) ?_; intro v' w1' hown' hgrow hat; obtain ⟨A1, c1, rfl⟩ := own_slice hown'; have hy1 : Has w.heap.size (.cells #[.slice A0 pre.length c0] 103 (0, 0)) X w1' := ⟨hy.1, (hgrow.block _ (hy.alloc _).lt hne).trans (hy.alloc _).2⟩; have q1 := hy1.cell (i := 0); have f1 := hy1.frozen (i := 0); simp only [List.getElem?_toArray, List.getElem?_cons_zero] at q1)
    obtain ⟨hrow1, hk1⟩ := Row.appended ((Row.frames _ _ _ _ _ _).off hrow (Off.alloc _ W1 _)) hXb (by simp) hown' hgrow hat
    have hs1 : W1.heap.size ≤ w1'.heap.size := Nat.le_trans (by simp) hgrow.size
    have hk2 : Kept X W1 w1' := Kept.trans (by simp) (Kept.alloc _ _ _) hk1
    have hlow1 : Low w.heap.size w X w1' := ⟨(hlow.1.alloc hlow.2.1 _).grown hgrow (by have := hlow.2.1; simp; omega) (fun k hk => (World.ownsRow.lt hrow.1 k hk).1), Nat.le_trans hlow.2.1 hs1, hlow.2.2⟩
    refine ⟨?_, ?_, ?_, _, hy1.set, ?_⟩
    · simp only [World.setCell, Array.size_modify]; exact hs1
    · exact Kept.trans hs1 hk2 (Kept.set hy1.1 _ _)
    · exact ⟨hlow1.1.setCell (p := ⟨w.heap.size, 0, none⟩) (Nat.le_refl _) _, by have := hlow1.2.1; simp only [World.setCell, Array.size_modify]; exact this, hlow1.2.2⟩
    · rw [List.length_append, pcells_snoc]
      exact row_set hrow1 hy1 (by decide)
  case done =>
    rintro D W1 ⟨hlow, v, hy, hrow⟩ hD
    obtain ⟨A0, c0, rfl⟩ := own_slice hrow.1
    have q0 := hy.cell (i := 0)
    simp only [List.getElem?_toArray, List.getElem?_cons_zero] at q0
    gi_wp2
    refine ⟨by simp, .inl ⟨_, _, rfl, run_takeDeferred hD, ?_⟩⟩
    have ho : Off (· = D) W1 (W1.putObj D (.deferred none)) := Off.putObj (X := (· = D)) rfl _ _
    have hrow2 := (Row.frames _ _ _ _ _ _).off hrow ho
    refine ⟨.slice A0 xs.length c0, by simp [results, Try.results88, go_sem], A0, c0, rfl, own_read hrow2.1, (fun a ha => (World.ownsRow.lt hrow2.1 a.block (by rw [ha]; rfl)).1), ((Low.frames _ _).off hlow ho).1⟩
  case stop =>
    rintro D c pre W1 hp h hD
    exact h.elim

set_option maxHeartbeats 400000 in
theorem collect_any {gf : Nat} {lb : Array Value} {xs : List Pc} {C : As} (hit : Iter Try.prog gf lb (fun p : Pc => #[pcv p]) xs C) (eg : ∀ args w, (callFunc gf args).run Try.prog w = .ok (.enter gf args) w) (w : World)
    (hC : ∀ X W, Low w.heap.size w X W → C X W) (hxs : xs.length ≤ 20000) :
    Calls Try.prog 56 #[.func (.func gf) #[] lb] w (CoV xs w) := by
  have H := Lib.hid (appendSeq_any hit eg w hC hxs)
  clear hC
  go_enter Try.func56, Try.ntmps56
  go_wp2_with fail
  refine H.out.mono ?_
  rintro e w1 ⟨A, c, rfl, hd, hba, hb⟩
  have HD := Lib.hid hd
  have HBA := Lib.hid hba
  clear hd hba
  go_wp2
  go_ret
  exact ⟨A, c, rfl, HD.out, HBA.out, hb⟩
end Go.Proofs.Ytgfafinpcpiogaa
