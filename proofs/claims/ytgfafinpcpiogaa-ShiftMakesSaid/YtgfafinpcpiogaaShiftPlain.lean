/- plainList, whatever iterator gives the pieces. -/
import Derived.Test.YtgfafinpcpiogaaShiftPut
namespace Go.Proofs.Ytgfafinpcpiogaa
open Go.RowKit Go.Shelf EditMath ShiftMath

attribute [local go_sem] Oper.semAt_some

theorem jput_len (st : JS) (to : Int) : (jput st to).length ≤ st.out.length + 1 := by
  unfold jput; split <;> simp
theorem pfold_len (L : List Pc) : ∀ st : JS, (L.foldl pstep st).out.length ≤ st.out.length + L.length := by
  induction L with
  | nil => intro st; simp
  | cons p L ih =>
    intro st
    rw [List.foldl_cons]
    have h1 := ih (pstep st p)
    have h2 : (pstep st p).out.length ≤ st.out.length + 1 := by
      unfold pstep
      split
      · exact jput_len st p.f
      · simp
    simp only [List.length_cons]
    omega
theorem pfold_tx (N : Nat) (L : List Pc) : (∀ p ∈ L, p.s.size ≤ N) → ∀ st : JS, (L.foldl pstep st).tx.length ≤ st.tx.length + L.length * N := by
  induction L with
  | nil => intro _ st; simp
  | cons p L ih =>
    intro h st
    rw [List.foldl_cons]
    have h1 := ih (fun q hq => h q (List.mem_cons_of_mem _ hq)) (pstep st p)
    have h3 := h p (List.mem_cons_self ..)
    have h2 : (pstep st p).tx.length ≤ st.tx.length + N := by
      unfold pstep
      split
      · simp
      · simp only [List.length_append]
        have : p.s.data.toList.length = p.s.size := rfl
        omega
    simp only [List.length_cons, Nat.add_mul, Nat.one_mul]
    omega

abbrev putv (w : World) : Value := .func (.func 91) #[] #[.pointer (some ⟨w.heap.size + 1 + 1, 0, none⟩), .pointer (some ⟨w.heap.size + 1, 0, none⟩), .pointer (some ⟨w.heap.size, 0, none⟩)]
abbrev putc (w : World) : Obj := .cells #[putv w] 114 (0, 0)
abbrev pst (pre : List Pc) : JS := pre.foldl pstep ⟨[], 0, []⟩
abbrev plP (w : World) (pre : List Pc) (X : Nat → Prop) (W : World) : Prop := ∃ A, ∃ c, PL w w.heap.size (w.heap.size + 1) (w.heap.size + 1 + 1) A c (pst pre).out (pst pre).at_ (pst pre).tx X W
def PlI (w : World) (pre : List Pc) : As := fun X W => plP w pre (fun j => X j ∨ (fun j => j = w.heap.size + 1 + 1 + 1) j) W ∧ Has (w.heap.size + 1 + 1 + 1) (putc w) X W
theorem plP.frames (w : World) (pre : List Pc) : Frames (plP w pre) := Frames.ex fun _A => Frames.ex fun _c => PL.frames _ _ _ _ _ _ _ _ _
theorem PlI.frames (w : World) (pre : List Pc) : Frames (PlI w pre) := ((plP.frames w pre).within _).and (Has.frames _ _)
abbrev plFrm (w : World) (g : Value) (size : Int) (bp : Nat) (p : Pc) : Act := { tmps := #[g, .int .i64 size, undef, undef, .slice none 0 0, .pointer (some ⟨w.heap.size, 0, none⟩), .pointer (some ⟨w.heap.size + 1, 0, none⟩), .pointer (some ⟨w.heap.size + 1 + 1, 0, none⟩), .pointer (some ⟨w.heap.size + 1 + 1 + 1, 0, none⟩), .pointer (some ⟨bp, 0, none⟩), putv w, g, pcv p, undef, undef, undef, undef, undef, undef, undef, undef, undef, undef, undef, undef, undef, undef, undef, undef], defers := [] }
def PlA (w : World) (g : Value) (size : Int) (pre : List Pc) (p : Pc) (a' : Act) : As := fun X W => ∃ bp, plP w pre (fun j => X j ∨ (fun j => j = w.heap.size + 1 + 1 + 1 ∨ j = bp) j) W ∧ Has (w.heap.size + 1 + 1 + 1) (putc w) X W ∧ Has bp (pcc p) X W ∧ a' = plFrm w g size bp p

theorem allocs4 (w : World) (o1 o2 o3 o4 : Obj) : ((((w.alloc o1).alloc o2).alloc o3).alloc o4).heap[w.heap.size]? = some o1 ∧ ((((w.alloc o1).alloc o2).alloc o3).alloc o4).heap[w.heap.size + 1]? = some o2 ∧ ((((w.alloc o1).alloc o2).alloc o3).alloc o4).heap[w.heap.size + 1 + 1]? = some o3 ∧ ((((w.alloc o1).alloc o2).alloc o3).alloc o4).heap[w.heap.size + 1 + 1 + 1]? = some o4 := by
  have h2 := World.alloc_heap_new (w.alloc o1) o2
  have h3 := World.alloc_heap_new ((w.alloc o1).alloc o2) o3
  have h4 := World.alloc_heap_new (((w.alloc o1).alloc o2).alloc o3) o4
  simp only [World.size_alloc] at h2 h3 h4
  refine ⟨?_, ?_, ?_, h4⟩
  · exact (Below.heap_alloc _ _ _ (by simp; omega)).trans ((Below.heap_alloc _ _ _ (by simp; omega)).trans ((Below.heap_alloc _ _ _ (by simp)).trans (World.alloc_heap_new w _)))
  · exact (Below.heap_alloc _ _ _ (by simp)).trans ((Below.heap_alloc _ _ _ (by simp)).trans h2)
  · exact (Below.heap_alloc _ _ _ (by simp)).trans h3
theorem below4 (w : World) (o1 o2 o3 o4 : Obj) : Below w.heap.size w ((((w.alloc o1).alloc o2).alloc o3).alloc o4) := (below3 w o1 o2 o3).alloc (by simp; omega) _

def PlV (L : List Ed) (w : World) (e : Ending) (w' : World) : Prop := ∃ A c, e = .returned (.slice A L.length c) ∧ Eds w' w'.heap.size A L ∧ Below w.heap.size w w'

theorem PL.setF {w : World} {bL bT bF : Nat} {A : Option Addr} {c : Nat} {out : List Ed} {at_ v : Int} {tx : List UInt8} {X : Nat → Prop} {W : World} (h : PL w bL bT bF A c out at_ tx X W) (hne1 : bL ≠ bF) (hne3 : bF ≠ bT) (hbF : w.heap.size ≤ bF) :
    PL w bL bT bF A c out v tx X (W.setCell ⟨bF, 0, none⟩ (.int .i64 v)) ∧ Kept X W (W.setCell ⟨bF, 0, none⟩ (.int .i64 v)) ∧ W.heap.size ≤ (W.setCell ⟨bF, 0, none⟩ (.int .i64 v)).heap.size := by
  have ho : Off (fun k => k = bF) W (W.setCell ⟨bF, 0, none⟩ (.int .i64 v)) := Off.setCell (X := fun k => k = bF) (p := ⟨bF, 0, none⟩) rfl W _
  refine ⟨⟨ho.low' h.low (fun k hk => by omega), h.hF.set, ho.bd' h.hT (fun e => hne3 e.symm) (fun k hk => by subst hk; exact h.hF.ok), ho.has' h.hL hne1, row_set h.hR h.hF (by decide)⟩, Kept.set h.hF.1 _ _, by simp [World.setCell]⟩

theorem own_eds {w : World} {base : Nat} {A : Option Addr} {c : Nat} {m : List Ed} (h : w.ownsRow base 87 3 (.slice A m.length c) m.length (ecells m)) : Eds w w.heap.size A m := Own.eds (base := base) (c := c) h

set_option maxRecDepth 100000 in
set_option maxHeartbeats 1000000 in
theorem plist_any {gf : Nat} {lb : Array Value} {xs : List Pc} {C : As} (hit : Iter Try.prog gf lb (fun p : Pc => #[pcv p]) xs C) (eg : ∀ args w, (callFunc gf args).run Try.prog w = .ok (.enter gf args) w) (w : World) (size : Int)
    (hC : ∀ X W, Low w.heap.size w X W → C X W) (hxs : xs.length ≤ 5000) (hok : ∀ p ∈ xs, p.s.size ≤ 10000000) :
    Calls Try.prog 60 #[.func (.func gf) #[] lb, .int .i64 size] w (PlV (jput (pst xs) size) w) := by
  have HC := Lib.hid hC
  have HOK := Lib.hid hok
  clear hC hok
  have hmf : ∀ (fn : Fn) (first cap : Array Value) (w : World), (Instr.makeFunc fn first cap).run Try.prog w = .ok (.func fn first cap) w := fun _ _ _ _ => rfl
  have hst : ∀ (W : World) (a : Addr) (f : Fn) (x y : Array Value) (t : Value), W.cell? a = some t → W.frozen? a = false → (store a (.func f x y)).run Try.prog W = .ok () (W.setCell a (.func f x y)) := fun W a f x y t h1 h2 => by rw [run_store _ _ _ _ _ rfl, h1]; simp [h2]
  refine (callsIn_wide (n := 8)).1 ?_
  refine callsIn_of_wp_marks Try.func60 rfl trivial ?_ rfl
  simp only [Try.ntmps60, List.size_toArray, List.length_cons, List.length_nil, Nat.reduceAdd, Nat.reduceSub, Array.replicate_succ, Array.replicate_zero, List.push_toArray, List.append_toArray, List.nil_append, List.cons_append]
  gi_wp2
  refine range_out hit rfl eg (fun _ => rfl) (PlI w) (fun _ _ _ _ => False) (PlA w (.func (.func gf) #[] lb) size) ?fI ?fX ?fA ?hC ?h0 ?assign ?body ?done ?stop
  case fI => exact fun pre => PlI.frames _ _
  case fX => exact fun c pre => Frames.pure _
  case fA => exact fun pre p a' => Frames.ex fun bp => ((plP.frames w pre).within _).and ((Has.frames _ _).and ((Has.frames _ _).and (Frames.pure _)))
  case hC => rintro pre X W1 ⟨⟨A, c, h⟩, _⟩; exact HC.out X W1 ((Low.frames _ _).less h.low fun _ hk => .inl hk)
  case h0 =>
    obtain ⟨a1, a2, a3, a4⟩ := allocs4 w (.cells #[.slice none 0 0] 22) (bdc (.pointer none) (.slice none 0 0)) (.cells #[.int .i64 0] 3) (putc w)
    refine ⟨⟨none, 0, ⟨⟨below4 w _ _ _ _, by simp; omega, fun k hk => hk.elim (fun h => h.elim) (fun h => by omega)⟩, ⟨fun h => h.elim (fun h => h.elim) (fun h => by omega), a3⟩, ?_, ⟨fun h => h.elim (fun h => h.elim) (fun h => by omega), a1⟩, ⟨World.ownsRow_nil _ _ _ _, fun k hk => by cases hk⟩⟩⟩, ⟨fun h => h, a4⟩⟩
    exact ⟨fun h => h.elim (fun h => h.elim) (fun h => by omega), _, _, .inl rfl, by omega, a2, World.ownsRowF_nil _ _ _ _, by simp [Value.ownBlock], fun k hk => by simp [Value.ownBlock] at hk⟩
  case assign =>
    rintro lq X pre p W1 K hX hXb ⟨hi, hpt⟩ hp hK
    gi_wp2
    refine hK _ _ (by simp) (Kept.alloc _ _ _) ⟨W1.heap.size, (plP.frames _ _).more hi (Off.alloc _ _ _) (fun j hj => ?_), hpt.alloc _, Has.new hXb _, rfl⟩
    rcases hj with h | h | h
    · exact .inl (.inl h)
    · exact .inl (.inr h)
    · exact .inr (by omega)
  case body =>
    rintro lq X pre p a' W1 hX hXb hr2 ⟨bp, ⟨A, c, h⟩, hpt, hbp, rfl⟩ hp
    have hlen : pre.length < 5000 := by have := (List.getElem?_eq_some_iff.1 (pref_iff hp).2).1; omega
    have hl1 : (pst pre).out.length ≤ 10000 := by
      have t : (pst pre).out.length ≤ 0 + pre.length := pfold_len pre ⟨[], 0, []⟩
      omega
    have hl2 : (pst pre).tx.length ≤ 100000000000 := by
      have t : (pst pre).tx.length ≤ 0 + pre.length * 10000000 := pfold_tx 10000000 pre (fun q hq => HOK.out q (by obtain ⟨r, hr⟩ := hp; rw [← hr]; simp [hq])) ⟨[], 0, []⟩
      omega
    have hps : p.s.size ≤ 10000000 := HOK.out p (pref_mem hp)
    clear hp
    have p0 := hbp.cell (i := 0)
    have p1 := hbp.cell (i := 1)
    have p2 := hbp.cell (i := 2)
    have p3 := hbp.cell (i := 3)
    simp only [List.getElem?_toArray, List.getElem?_cons_zero, List.getElem?_cons_succ] at p0 p1 p2 p3
    have HS : Hid (pst (pre ++ [p]) = pstep (pst pre) p) := Lib.hid (by simp [pst])
    have H := Lib.hid h
    have HZ : Hid (XOk (fun j => X j ∨ (fun j => j = w.heap.size + 1 + 1 + 1 ∨ j = bp) j) W1) := Lib.hid (fun j hj => by
      rcases hj with h | h | h
      · exact hXb j h
      · subst h; exact hpt.ok
      · subst h; exact hbp.ok)
    clear h hXb
    generalize pst pre = st at *
    obtain ⟨out, at_, tx⟩ := st
    simp only at H hl1 hl2
    cases hw : went p with
    | false =>
      have HP : Hid (pstep ⟨out, at_, tx⟩ p = ⟨out, at_, tx ++ p.s.data.toList⟩) := Lib.hid (by simp [pstep, hw])
      have HW := Lib.hid hw
      clear hw
      gi_wp2_with (refine ⟨trivial, ?_⟩; gi_at_call 86; refine (CallsIn.inRound lq (callsIn_wide.2 (went_any p _))).mono ?_; rw [HW.out]; rintro r W2 ⟨rfl, hB2⟩; have hbp2 := (Has.frames _ _).off hbp (Off.of_below hB2); have hpt2 := (Has.frames _ _).off hpt (Off.of_below hB2); have H2 := Lib.hid ((PL.frames _ _ _ _ _ _ _ _ _).off H.out (Off.of_below hB2)); have r3 := hbp2.cell (i := 3); simp only [List.getElem?_toArray, List.getElem?_cons_zero, List.getElem?_cons_succ] at r3)
      refine ⟨trivial, ?_⟩
      refine (CallsIn.inRound lq (callsIn_wide.2 (bdWrite p.s H2.out.hT (HZ.out.below hB2) (by omega) H2.out.low.2.1))).mono ?_
      rintro r W3 ⟨rfl, hT3, hO3⟩
      have h3 : PL w w.heap.size (w.heap.size + 1) (w.heap.size + 1 + 1) A c out at_ (tx ++ p.s.data.toList) (fun j => X j ∨ (fun j => j = w.heap.size + 1 + 1 + 1 ∨ j = bp) j) W3 := ⟨hO3.lows H2.out.low, hO3.has H2.out.hF (by omega), hT3, hO3.has H2.out.hL (by omega), hO3.row H2.out.hR (row_ne2 H2.out.hR.1 H2.out.hT)⟩
      have hk3 : Kept (fun j => X j ∨ (fun j => j = w.heap.size + 1 + 1 + 1 ∨ j = bp) j) W2 W3 := hO3.kept H2.out.hT.1 (HZ.out.below hB2)
      have hpt3 := hpt2.kept hk3 (.inr (.inl rfl))
      have hs3 : W2.heap.size ≤ W3.heap.size := hO3.low.size
      have HK3 := Lib.hid (Kept.trans hB2.size (Kept.below hB2) (hk3.mono fun _ h => .inl h : Kept X W2 W3))
      have HS3 := Lib.hid (Nat.le_trans hB2.size hs3)
      clear hO3 hk3 hs3 hT3
      gi_wp2
      refine ⟨HS3.out, HK3.out, ⟨A, c, ?_⟩, hpt3⟩
      rw [HS.out, HP.out]
      exact (PL.frames _ _ _ _ _ _ _ _ _).less h3 (fun j h => h.elim .inl (fun h => .inr (.inl h)))
    | true =>
      have HP : Hid (pstep ⟨out, at_, tx⟩ p = ⟨jput ⟨out, at_, tx⟩ p.f, p.t, []⟩) := Lib.hid (by simp [pstep, hw])
      have HW := Lib.hid hw
      clear hw
      gi_wp2_with (refine ⟨trivial, ?_⟩; gi_at_call 86; refine (CallsIn.inRound lq (callsIn_wide.2 (went_any p _))).mono ?_; rw [HW.out]; rintro r W2 ⟨rfl, hB2⟩; have hbp2 := (Has.frames _ _).off hbp (Off.of_below hB2); have hpt2 := (Has.frames _ _).off hpt (Off.of_below hB2); have H2 := Lib.hid ((PL.frames _ _ _ _ _ _ _ _ _).off H.out (Off.of_below hB2)); have r1 := hbp2.cell (i := 1); have r0 := hpt2.cell (i := 0); simp only [List.getElem?_toArray, List.getElem?_cons_zero, List.getElem?_cons_succ] at r1 r0)
      refine ⟨trivial, ?_⟩
      refine (CallsIn.inRound lq (callsIn_wide.2 (put_any w w.heap.size (w.heap.size + 1) (w.heap.size + 1 + 1) A c ⟨out, at_, tx⟩ p.f _ W2 (HZ.out.below hB2) H2.out hl1 (Nat.le_refl _) (by omega) (by omega) (by omega)))).mono ?_
      rintro r W3 ⟨rfl, hs3, hk3, A3, c3, h3⟩
      have hpt3 := hpt2.kept hk3 (.inr (.inl rfl))
      have hbp3 := hbp2.kept hk3 (.inr (.inr rfl))
      have r2 := hbp3.cell (i := 2)
      have q0 := h3.hF.cell (i := 0)
      have q1 := h3.hF.frozen (i := 0)
      simp only [List.getElem?_toArray, List.getElem?_cons_zero, List.getElem?_cons_succ] at r2 q0
      have HK3 := Lib.hid (Kept.trans hB2.size (Kept.below hB2) (hk3.mono fun _ h => .inl h : Kept X W2 W3))
      have HS3 := Lib.hid (Nat.le_trans hB2.size hs3)
      have H3 := Lib.hid h3
      clear hk3 hs3 h3
      gi_wp2
      obtain ⟨h4, hk4, hs4⟩ := PL.setF (v := p.t) H3.out (by omega) (by omega) (by omega)
      refine ⟨Nat.le_trans HS3.out hs4, Kept.trans HS3.out HK3.out (hk4.mono fun _ h => .inl h), ⟨A3, c3, ?_⟩, hpt3.other (by omega)⟩
      rw [HS.out, HP.out]
      exact (PL.frames _ _ _ _ _ _ _ _ _).less h4 (fun j h => h.elim .inl (fun h => .inr (.inl h)))
  case done =>
    rintro D W1 ⟨⟨A, c, h⟩, hpt⟩ hD
    have hl1 : (pst xs).out.length ≤ 10000 := by
      have t : (pst xs).out.length ≤ 0 + xs.length := pfold_len xs ⟨[], 0, []⟩
      omega
    have r0 := hpt.cell (i := 0)
    simp only [List.getElem?_toArray, List.getElem?_cons_zero] at r0
    have H := Lib.hid h
    have HZ : Hid (XOk (fun j => j = D ∨ (fun j => j = w.heap.size + 1 + 1 + 1) j) W1) := Lib.hid (fun j hj => by
      rcases hj with h | h
      · subst h; exact ⟨_, hD, rfl⟩
      · subst h; exact hpt.ok)
    clear h
    generalize pst xs = st at *
    gi_wp2_with (refine ⟨trivial, ?_⟩; gi_at_call 91; refine (callsIn_wide.2 (put_any w w.heap.size (w.heap.size + 1) (w.heap.size + 1 + 1) A c st size _ W1 HZ.out H.out hl1 (Nat.le_refl _) (by omega) (by omega) (by omega))).mono ?_; rintro r W2 ⟨rfl, hs2, hk2, A2, c2, h2⟩; have hD2 := (hk2 D (.inl rfl) (HZ.out.lt (.inl rfl))).trans hD; have q0 := h2.hL.cell (i := 0); simp only [List.getElem?_toArray, List.getElem?_cons_zero] at q0)
    refine ⟨by simp, .inl ⟨_, _, rfl, run_takeDeferred hD2, ?_⟩⟩
    have h3 := (PL.frames _ _ _ _ _ _ _ _ _).off h2 (Off.putObj (X := fun j => j = D ∨ (fun j => j = w.heap.size + 1 + 1 + 1) j) (l := D) (.inl rfl) W2 (.deferred none))
    refine ⟨.slice A2 (jput st size).length c2, by simp [results, Try.results60, go_sem], A2, c2, rfl, own_eds h3.hR.1, h3.low.1⟩
  case stop =>
    rintro D c pre W1 hp h hD
    exact h.elim
end Go.Proofs.Ytgfafinpcpiogaa
