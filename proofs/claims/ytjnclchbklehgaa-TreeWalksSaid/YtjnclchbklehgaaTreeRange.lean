/- Ranges over functions whose values are made anew: what is handed on reads as told, wherever it lies; the frame of a round is told by the frame of the range. Over any program. -/
import Derived.Test.YtjnclchbklehgaaShiftFrame
namespace Go.Proofs.Ytjnclchbklehgaa
open Go.RowKit

/-- The iterator hands on a list each of whose beginnings is such (Pf), and which is such when it is whole (Fn); of each value holds E. -/
def IterG {α : Type} (P : Program) (g : Nat) (lb : Array Value) (encs : α → Array Value) (Pf Fn : List α → Prop) (E : α → As) (C : As) : Prop :=
  ∀ (n m l : Nat) (J Jx : List α → As) (W : World), (∀ pre, Frames (J pre)) → (∀ pre, Frames (Jx pre)) → (∀ pre X W, J pre X W → C X W) →
    (∀ pre x X W, XOk X W → J pre X W → E x X W → Pf (pre ++ [x]) → YieldAt Fence.wide m P l (encs x) W fun e W' => W.heap.size ≤ W'.heap.size ∧ Kept X W W' ∧
      ((e = .returned (.bool true) ∧ J (pre ++ [x]) X W') ∨ (e = .returned (.bool false) ∧ Jx (pre ++ [x]) X W'))) →
    J [] no W →
    CallsIn Fence.wide n P g (#[.func (.yield l) #[] #[]] ++ lb) W fun e W' => (∃ v, e = .returned v) ∧ ((∃ xs, Fn xs ∧ J xs no W') ∨ ∃ pre, Jx pre no W')

theorem Iter.g {α : Type} {P : Program} {g : Nat} {lb : Array Value} {encs : α → Array Value} {xs : List α} {C : As} (h : Iter P g lb encs xs C) : IterG P g lb encs (· <+: xs) (· = xs) (fun _ _ _ => True) C := by
  intro n m l J Jx W hJ hJx hC hY h0
  refine (h n m l J Jx W hJ hJx hC (fun pre x X W hX hj hp => hY pre x X W hX hj trivial hp) h0).mono ?_
  rintro e W' ⟨hv, h | ⟨pre, _, h⟩⟩
  · exact ⟨hv, .inl ⟨xs, rfl, h⟩⟩
  · exact ⟨hv, .inr ⟨pre, h⟩⟩
theorem gT {α : Type} : ∀ (x : α) (X : Nat → Prop) (W : World) (l : Nat), (fun (_ : α) (_ : Nat → Prop) (_ : World) => True) x X W → (∀ i, W.cell? ⟨l, i, none⟩ = none) → (fun (_ : α) (_ : Nat → Prop) (_ : World) => True) x (fun k => X k ∨ k = l) W := fun _ _ _ _ _ _ => trivial

section
variable {P : Program} {α : Type} {ps : Array Tmp} {assign body : Code} {encs : α → Array Value} {Pf Fn : List α → Prop} {E : α → As} {C : As}

/-- one whose rounds are this body's -/
theorem roundsG {fn : FuncId} {tmps : Array Value} {d : Nat} {l m : Nat} (rec : LoopState → Option Code → Loop) (hrec : rec = fun st pe => { state := st, pending := pe, fn, tmps, params := ps, assign, body, defers := d })
    (hps : ∀ x, (encs x).size = ps.size) (I : List α → As) (Ix : Code → List α → As) (A : List α → α → Act → As) (hI : ∀ pre, Frames (I pre)) (hIx : ∀ c pre, Frames (Ix c pre)) (hA : ∀ pre x a, Frames (A pre x a))
    (hassign : ∀ (X : Nat → Prop) (pre : List α) (x : α) (W : World) (K : Act → World → Prop), X l → XOk X W → I pre X W → E x X W → Pf (pre ++ [x]) →
      (∀ a' W', W.heap.size ≤ W'.heap.size → Kept X W W' → A pre x a' X W' → K a' W') →
      assign.wpIn (Fence.wide.inRound l) m P (Exit.then K (fun _ _ _ => False)) { tmps := (ps.zip (encs x)).foldl (fun t (p, v) => t.setIfInBounds p v) tmps, defers := [] } W)
    (hbody : ∀ (X : Nat → Prop) (pre : List α) (x : α) (a' : Act) (W : World), X l → XOk X W → (∃ r, W.heap[l]? = some (.loop r)) → A pre x a' X W → Pf (pre ++ [x]) →
      body.wpIn (Fence.wide.inRound l) m P (rPost X (I (pre ++ [x])) (fun c => Ix c (pre ++ [x])) W) a' W)
    (pre : List α) (x : α) (X : Nat → Prop) (W : World) (hb : XOk X W) (h : I pre (fun k => X k ∨ k = l) W ∧ Has l (.loop (rec .ready none)) X W) (he : E x X W) (hE : ∀ x X W l, E x X W → (∀ i, W.cell? ⟨l, i, none⟩ = none) → E x (fun k => X k ∨ k = l) W) (hp : Pf (pre ++ [x])) :
    YieldAt Fence.wide m P l (encs x) W fun e W' => W.heap.size ≤ W'.heap.size ∧ Kept X W W' ∧
      ((e = .returned (.bool true) ∧ I (pre ++ [x]) (fun k => X k ∨ k = l) W' ∧ Has l (.loop (rec .ready none)) X W') ∨
       (e = .returned (.bool false) ∧ ∃ c, Ix c (pre ++ [x]) (fun k => X k ∨ k = l) W' ∧ Has l (.loop (rec .done (some c))) X W')) := by
  obtain ⟨hi, hX, hl⟩ := h
  have hy := run_yield (P := P) (args := encs x) hl (by rw [hrec]; exact hps x)
  rw [hrec] at hy
  have hlt := (Array.getElem?_eq_some_iff.1 hl).1
  have hb2 : XOk (fun k => X k ∨ k = l) W := fun k hk => hk.elim (hb k) (fun e => ⟨_, e ▸ hl, rfl⟩)
  refine ⟨fn, _, assign, body, hy, roundIn_of_wpIn trivial (hassign (fun k => X k ∨ k = l) pre x W _ (.inr rfl) hb2 hi (hE _ _ _ _ he (fun i => by simp [World.cell?, hl])) hp ?_)⟩
  clear hy
  intro a' Wa hsz hka ha
  have hla : Wa.heap[l]? = some (.loop (rec .ready none)) := (hka l (.inr rfl) hlt).trans hl
  refine ⟨_, run_beginRound hla (by rw [hrec]), ?_⟩
  obtain ⟨W2, hW2⟩ : ∃ W2, Wa.putObj l (.loop { rec .ready none with state := .busy }) = W2 := ⟨_, rfl⟩
  have hs2 : W2.heap.size = Wa.heap.size := by rw [← hW2]; simp
  have hl2 : W2.heap[l]? = some (.loop { rec .ready none with state := .busy }) := by rw [← hW2]; exact World.putObj_heap_same (by omega)
  have ho2 : Off (fun k => X k ∨ k = l) Wa W2 := by rw [← hW2]; exact Off.putObj (.inr rfl) _ _
  have hx2 : Kept X Wa W2 := by rw [← hW2]; exact fun k hk _ => World.putObj_heap_other (fun e => hX (e ▸ hk))
  rw [hW2]
  clear hW2
  refine wpIn_mono (hbody (fun k => X k ∨ k = l) pre x a' W2 (.inr rfl) (fun k hk => hk.elim (fun h => by obtain ⟨o, ho, hn⟩ := hb2 k (.inl h); exact ⟨o, (hx2 k h (Nat.lt_of_lt_of_le (hb.lt h) hsz)).trans ((hka k (.inl h) (hb.lt h)).trans ho), hn⟩) (fun e => ⟨_, e ▸ hl2, rfl⟩)) ⟨_, hl2⟩ ((hA pre x a').off ha ho2) hp) ?_
  have fin : ∀ (jump : Option Code) (W3 : World), W2.heap.size ≤ W3.heap.size → Kept (fun k => X k ∨ k = l) W2 W3 →
      (Instr.endRound l jump).run P W3 = .ok (.bool jump.isNone) (W3.putObj l (.loop (rec (if jump.isNone then .ready else .done) jump))) ∧
      W.heap.size ≤ (W3.putObj l (.loop (rec (if jump.isNone then .ready else .done) jump))).heap.size ∧
      Kept X W (W3.putObj l (.loop (rec (if jump.isNone then .ready else .done) jump))) ∧
      Off (fun k => X k ∨ k = l) W3 (W3.putObj l (.loop (rec (if jump.isNone then .ready else .done) jump))) ∧
      (W3.putObj l (.loop (rec (if jump.isNone then .ready else .done) jump))).heap[l]? = some (.loop (rec (if jump.isNone then .ready else .done) jump)) := fun jump W3 hs3 hk3 => by
    have hl3 := (hk3 l (.inr rfl) (by omega)).trans hl2
    have hlt3 := (Array.getElem?_eq_some_iff.1 hl3).1
    have := run_endRound (P := P) jump hl3
    rw [hrec] at this ⊢
    refine ⟨this, by simp; omega, ?_, Off.putObj (.inr rfl) _ _, World.putObj_heap_same hlt3⟩
    have h1 : Kept X W W3 := Kept.trans (by omega) (Kept.trans hsz (hka.mono fun _ h => .inl h) hx2) (hk3.mono fun _ h => .inl h)
    exact Kept.trans (by omega) h1 (fun k hk _ => World.putObj_heap_other (fun e => hX (e ▸ hk)))
  rintro e a3 W3 hp3
  cases e with
  | normal =>
    obtain ⟨hs3, hk3, hi3⟩ := hp3
    obtain ⟨hr, f1, f2, f3, f4⟩ := fin none W3 hs3 hk3
    exact ⟨_, _, hr, f1, f2, .inl ⟨rfl, (hI _).off hi3 f3, hX, f4⟩⟩
  | ret =>
    obtain ⟨hs3, hk3, hi3⟩ := hp3
    obtain ⟨hr, f1, f2, f3, f4⟩ := fin (some .ret) W3 hs3 hk3
    exact ⟨_, _, hr, f1, f2, .inr ⟨rfl, _, (hIx _ _).off hi3 f3, hX, f4⟩⟩
  | exit id =>
    obtain ⟨hs3, hk3, hi3⟩ := hp3
    obtain ⟨hr, f1, f2, f3, f4⟩ := fin (some (.exit id)) W3 hs3 hk3
    exact ⟨_, _, hr, f1, f2, .inr ⟨rfl, _, (hIx _ _).off hi3 f3, hX, f4⟩⟩
  | goto t =>
    obtain ⟨hs3, hk3, hi3⟩ := hp3
    obtain ⟨hr, f1, f2, f3, f4⟩ := fin (some (.goto t)) W3 hs3 hk3
    exact ⟨_, _, hr, f1, f2, .inr ⟨rfl, _, (hIx _ _).off hi3 f3, hX, f4⟩⟩
  | panic ch => exact hp3.elim
  | outgrown => exact hp3.elim

variable {g : Operand} {Q : Exit → Act → World → Prop} {a : Act} {w : World} {gf : Nat} {lb : Array Value} {n : Nat}

/-- behind the iterator -/
theorem throughG {fn : FuncId} {d : Nat} {l : Nat} (rec : LoopState → Option Code → Loop) (hrec : rec = fun st pe => { state := st, pending := pe, fn, tmps := a.tmps, params := ps, assign, body, defers := d })
    (hit : IterG P gf lb encs Pf Fn E C) (hE : ∀ x X W l, E x X W → (∀ i, W.cell? ⟨l, i, none⟩ = none) → E x (fun k => X k ∨ k = l) W) (hEf : ∀ x, Frames (E x)) (hps : ∀ x, (encs x).size = ps.size) (I : List α → As) (Ix : Code → List α → As) (A : List α → α → Act → As) (hI : ∀ pre, Frames (I pre)) (hIx : ∀ c pre, Frames (Ix c pre)) (hA : ∀ pre x a, Frames (A pre x a))
    (hC : ∀ pre X W, I pre X W → C X W)
    (hassign : ∀ (X : Nat → Prop) (pre : List α) (x : α) (W : World) (K : Act → World → Prop), X l → XOk X W → I pre X W → E x X W → Pf (pre ++ [x]) →
      (∀ a' W', W.heap.size ≤ W'.heap.size → Kept X W W' → A pre x a' X W' → K a' W') →
      assign.wpIn (Fence.wide.inRound l) n P (Exit.then K (fun _ _ _ => False)) { tmps := (ps.zip (encs x)).foldl (fun t (p, v) => t.setIfInBounds p v) a.tmps, defers := [] } W)
    (hbody : ∀ (X : Nat → Prop) (pre : List α) (x : α) (a' : Act) (W : World), X l → XOk X W → (∃ r, W.heap[l]? = some (.loop r)) → A pre x a' X W → Pf (pre ++ [x]) →
      body.wpIn (Fence.wide.inRound l) n P (rPost X (I (pre ++ [x])) (fun c => Ix c (pre ++ [x])) W) a' W)
    {W1 : World} (hl : W1.heap[l]? = some (.loop (rec .ready none))) (h0 : I [] (· = l) W1) (n1 : Nat) (a1 : Act) (Q1 : Exit → Act → World → Prop) (F : Fence)
    (hdone : ∀ (xs : List α) (W : World), Fn xs → I xs (· = l) W → Q1 .normal a1 W)
    (hstop : ∀ (c : Code) (pre : List α) (W : World), Ix c pre (· = l) W → c.wpIn F n P Q1 a1 W) :
    CallsIn Fence.wide n1 P gf (#[.func (.yield l) #[] #[]] ++ lb) W1 (rangePost F n P l Q1 a1) := by
  refine (hit n1 n l (fun pre X W => I pre (fun k => X k ∨ k = l) W ∧ Has l (.loop (rec .ready none)) X W)
    (fun pre X W => ∃ c, Ix c pre (fun k => X k ∨ k = l) W ∧ Has l (.loop (rec .done (some c))) X W) W1
    (fun pre => ((hI pre).within _).and (Has.frames _ _)) (fun pre => Frames.ex fun c => ((hIx c pre).within _).and (Has.frames _ _))
    (fun pre X W h => hC pre X W ((hI pre).less h.1 fun _ hk => .inl hk))
    (fun pre x X W hb h he hp => roundsG rec hrec hps I Ix A hI hIx hA hassign hbody pre x X W hb h he hE hp)
    ⟨(hI []).less h0 (fun k hk => hk.elim (fun h => h.elim) id), fun h => h, hl⟩).mono ?_
  have hex : ∀ (st : LoopState) (pe : Option Code) (W : World), Off (· = l) W (W.putObj l (.loop { rec st pe with state := .exhausted })) := fun st pe W => Off.putObj (X := (· = l)) rfl _ _
  rintro e W2 ⟨⟨v, rfl⟩, (⟨xs, hfn, hi, _, hl2⟩ | ⟨pre, c, hi, _, hl2⟩)⟩
  · have hr := run_endLoop (P := P) hl2 (by rw [hrec]; simp)
    exact ⟨none, _, by rw [hrec] at hr ⊢; exact hr, hdone xs _ hfn ((hI xs).off ((hI xs).less hi fun _ hk => .inr hk) (hex _ _ _))⟩
  · have hr := run_endLoop (P := P) hl2 (by rw [hrec]; simp)
    exact ⟨some c, _, by rw [hrec] at hr ⊢; exact hr, hstop c pre _ ((hIx c pre).off ((hIx c pre).less hi fun _ hk => .inr hk) (hex _ _ _))⟩

/-- A RANGE OVER A FUNCTION, outside of any round. -/
theorem range_outG0 (hit : IterG P gf lb encs Pf Fn E C) (hE : ∀ x X W l, E x X W → (∀ i, W.cell? ⟨l, i, none⟩ = none) → E x (fun k => X k ∨ k = l) W) (hEf : ∀ x, Frames (E x)) (hg : a.eval g = .func (.func gf) #[] lb) (eg : ∀ args w, (callFunc gf args).run P w = .ok (.enter gf args) w) (hps : ∀ x, (encs x).size = ps.size)
    (I : List α → As) (Ix : Code → List α → As) (A : List α → α → Act → As) (hI : ∀ pre, Frames (I pre)) (hIx : ∀ c pre, Frames (Ix c pre)) (hA : ∀ pre x a, Frames (A pre x a))
    (hC : ∀ pre X W, I pre X W → C X W) (h0 : I [] no w)
    (hassign : ∀ (l : Nat) (X : Nat → Prop) (pre : List α) (x : α) (W : World) (K : Act → World → Prop), X l → XOk X W → I pre X W → E x X W → Pf (pre ++ [x]) →
      (∀ a' W', W.heap.size ≤ W'.heap.size → Kept X W W' → A pre x a' X W' → K a' W') →
      assign.wpIn (Fence.wide.inRound l) n P (Exit.then K (fun _ _ _ => False)) { tmps := (ps.zip (encs x)).foldl (fun t (p, v) => t.setIfInBounds p v) a.tmps, defers := [] } W)
    (hbody : ∀ (l : Nat) (X : Nat → Prop) (pre : List α) (x : α) (a' : Act) (W : World), X l → XOk X W → (∃ r, W.heap[l]? = some (.loop r)) → A pre x a' X W → Pf (pre ++ [x]) →
      body.wpIn (Fence.wide.inRound l) n P (rPost X (I (pre ++ [x])) (fun c => Ix c (pre ++ [x])) W) a' W)
    (hdone : ∀ (D : Nat) (xs : List α) (W : World), Fn xs → I xs (· = D) W → W.heap[D]? = some (.deferred (some [])) → Q .normal { a with defers := { target := .collected D, args := #[] } :: a.defers } W)
    (hstop : ∀ (D : Nat) (c : Code) (pre : List α) (W : World), Ix c pre (· = D) W → W.heap[D]? = some (.deferred (some [])) → c.wpIn Fence.wide n P Q { a with defers := { target := .collected D, args := #[] } :: a.defers } W) :
    (Code.rangeFunc g ps assign body).wpIn Fence.wide n P Q a w := by
  refine wpIn_rangeFunc ?_
  intro fn _
  show ∃ (l : Nat) (mark : List Deferred) (w₁ : World) (d : Deferred) (w₁' : World) (f : FuncId) (args : Array Value) (w₂ : World), (Instr.enterLoop fn a.tmps ps assign body none).run P w = .ok (l, mark) w₁ ∧ _
  obtain ⟨rec, hrec⟩ : ∃ rec : LoopState → Option Code → Loop, rec = fun st pe => { state := st, pending := pe, fn, tmps := a.tmps, params := ps, assign, body, defers := w.heap.size } := ⟨_, rfl⟩
  obtain ⟨W1, hW1⟩ : ∃ W1, (w.alloc (.deferred (some []))).alloc (.loop (rec .ready none)) = W1 := ⟨_, rfl⟩
  have hL1 : W1.heap[w.heap.size + 1]? = some (.loop (rec .ready none)) := by
    rw [← hW1]; have := World.alloc_heap_new (w.alloc (.deferred (some []))) (.loop (rec .ready none)); rwa [World.size_alloc] at this
  have hD1 : W1.heap[w.heap.size]? = some (.deferred (some [])) := by
    rw [← hW1]; exact (Below.heap_alloc _ _ _ (by simp)).trans (World.alloc_heap_new w _)
  have hI1 : I [] (fun k => k = w.heap.size + 1 ∨ k = w.heap.size) W1 := by
    refine (hI []).more h0 (W' := W1) ?_ (fun k hk => .inr (by omega))
    rw [← hW1]; exact (Off.alloc _ _ _).trans (Off.alloc _ _ _)
  refine ⟨w.heap.size + 1, [{ target := .collected w.heap.size, args := #[] }], W1, { target := .fn (.func gf) lb, args := #[.func (.yield (w.heap.size + 1)) #[] #[]] }, W1, gf,
    #[.func (.yield (w.heap.size + 1)) #[] #[]] ++ lb, W1, ?_, ?_, fun _ _ => trivial, ?_, fun h => by simp [Fence.wide] at h, ?_⟩
  · rw [← hW1, hrec]; exact run_enterLoop_outer _ _ _ _ _
  · simp only [resolve, hg]
    simp [go_sem]
  · simp [invoke, go_sem, eg]
  · exact throughG rec hrec hit hE hEf hps (fun pre X W => I pre (fun k => X k ∨ k = w.heap.size) W ∧ Has w.heap.size (.deferred (some [])) X W)
      (fun c pre X W => Ix c pre (fun k => X k ∨ k = w.heap.size) W ∧ Has w.heap.size (.deferred (some [])) X W)
      (fun pre x a' X W => A pre x a' (fun k => X k ∨ k = w.heap.size) W ∧ Has w.heap.size (.deferred (some [])) X W)
      (fun pre => ((hI pre).within _).and (Has.frames _ _)) (fun c pre => ((hIx c pre).within _).and (Has.frames _ _)) (fun pre x a' => ((hA pre x a').within _).and (Has.frames _ _))
      (fun pre X W h => hC pre X W ((hI pre).less h.1 fun _ hk => .inl hk))
      (fun X pre x W K hl hb hi he hp hK => hassign _ (fun k => X k ∨ k = w.heap.size) pre x W K (.inl hl) (fun k hk => hk.elim (hb k) (fun e => ⟨_, e ▸ hi.2.2, rfl⟩)) hi.1 (hE _ _ _ _ he (fun i => by simp [World.cell?, hi.2.2])) hp fun a' W' hs hk ha =>
        hK a' W' hs (hk.mono fun _ h => .inl h) ⟨ha, hi.2.1, (hk _ (.inr rfl) (Has.lt hi.2)).trans hi.2.2⟩)
      (fun X pre x a' W hl hb hr ha hp => wpIn_mono (hbody _ (fun k => X k ∨ k = w.heap.size) pre x a' W (.inl hl) (fun k hk => hk.elim (hb k) (fun e => ⟨_, e ▸ ha.2.2, rfl⟩)) hr ha.1 hp) (by
        have hh : ∀ W3 : World, W.heap.size ≤ W3.heap.size → Kept (fun k => X k ∨ k = w.heap.size) W W3 → Has w.heap.size (.deferred (some [])) X W3 := fun W3 hs hk => ⟨ha.2.1, (hk _ (.inr rfl) (Has.lt ha.2)).trans ha.2.2⟩
        rintro e a3 W3 h3
        cases e with
        | normal => exact ⟨h3.1, h3.2.1.mono fun _ h => .inl h, h3.2.2, hh W3 h3.1 h3.2.1⟩
        | ret => exact ⟨h3.1, h3.2.1.mono fun _ h => .inl h, h3.2.2, hh W3 h3.1 h3.2.1⟩
        | exit id => exact ⟨h3.1, h3.2.1.mono fun _ h => .inl h, h3.2.2, hh W3 h3.1 h3.2.1⟩
        | goto t => exact ⟨h3.1, h3.2.1.mono fun _ h => .inl h, h3.2.2, hh W3 h3.1 h3.2.1⟩
        | panic ch => exact h3.elim
        | outgrown => exact h3.elim))
      hL1 ⟨hI1, by simp, hD1⟩ _ _ Q Fence.wide
      (fun xs W hf h => hdone _ xs W hf ((hI xs).less h.1 fun _ hk => .inr hk) h.2.2)
      (fun c pre W h => hstop _ c pre W ((hIx c pre).less h.1 fun _ hk => .inr hk) h.2.2)

/-- A range over a function that may be left by a break: what lies behind it is walked once. -/
theorem range_postG0 (hit : IterG P gf lb encs Pf Fn E C) (hE : ∀ x X W l, E x X W → (∀ i, W.cell? ⟨l, i, none⟩ = none) → E x (fun k => X k ∨ k = l) W) (hEf : ∀ x, Frames (E x)) (hg : a.eval g = .func (.func gf) #[] lb) (eg : ∀ args w, (callFunc gf args).run P w = .ok (.enter gf args) w) (hps : ∀ x, (encs x).size = ps.size)
    (I : List α → As) (Ix : Code → List α → As) (A : List α → α → Act → As) (hI : ∀ pre, Frames (I pre)) (hIx : ∀ c pre, Frames (Ix c pre)) (hA : ∀ pre x a, Frames (A pre x a))
    (hC : ∀ pre X W, I pre X W → C X W) (h0 : I [] no w) (id : Nat) (hQ : ∀ a w, Q .normal a w → Q (.exit id) a w) (Post : Nat → World → Prop)
    (hdone : ∀ (D : Nat) (xs : List α) (W : World), Fn xs → I xs (· = D) W → W.heap[D]? = some (.deferred (some [])) → Post D W)
    (hstop : ∀ (D : Nat) (c : Code) (pre : List α) (W : World), Ix c pre (· = D) W → W.heap[D]? = some (.deferred (some [])) → c = .exit id ∧ Post D W)
    (hassign : ∀ (l : Nat) (X : Nat → Prop) (pre : List α) (x : α) (W : World) (K : Act → World → Prop), X l → XOk X W → I pre X W → E x X W → Pf (pre ++ [x]) →
      (∀ a' W', W.heap.size ≤ W'.heap.size → Kept X W W' → A pre x a' X W' → K a' W') →
      assign.wpIn (Fence.wide.inRound l) n P (Exit.then K (fun _ _ _ => False)) { tmps := (ps.zip (encs x)).foldl (fun t (p, v) => t.setIfInBounds p v) a.tmps, defers := [] } W)
    (hbody : ∀ (l : Nat) (X : Nat → Prop) (pre : List α) (x : α) (a' : Act) (W : World), X l → XOk X W → (∃ r, W.heap[l]? = some (.loop r)) → A pre x a' X W → Pf (pre ++ [x]) →
      body.wpIn (Fence.wide.inRound l) n P (rPost X (I (pre ++ [x])) (fun c => Ix c (pre ++ [x])) W) a' W)
    (tail : ∀ (D : Nat) (W : World), Post D W → Q .normal { a with defers := { target := .collected D, args := #[] } :: a.defers } W) :
    (Code.rangeFunc g ps assign body).wpIn Fence.wide n P Q a w :=
  range_outG0 hit hE hEf hg eg hps I Ix A hI hIx hA hC h0 hassign hbody (fun D xs W hf hi hD => tail D W (hdone D xs W hf hi hD))
    (fun D c pre W hi hD => by
      obtain ⟨rfl, hP⟩ := hstop D c pre W hi hD
      exact wpIn_exit (hQ _ _ (tail D W hP)))

/-- the same; a round's frame is made out of the range's -/
theorem range_outG {β : Type} (hit : IterG P gf lb encs Pf Fn E C) (hE : ∀ x X W l, E x X W → (∀ i, W.cell? ⟨l, i, none⟩ = none) → E x (fun k => X k ∨ k = l) W) (hEf : ∀ x, Frames (E x)) (hg : a.eval g = .func (.func gf) #[] lb) (eg : ∀ args w, (callFunc gf args).run P w = .ok (.enter gf args) w) (hps : ∀ x, (encs x).size = ps.size)
    (Fr : Array Value → α → β → Act) (I : List α → As) (Ix : Code → List α → As) (B : List α → α → β → As) (hI : ∀ pre, Frames (I pre)) (hIx : ∀ c pre, Frames (Ix c pre)) (hB : ∀ pre x b, Frames (B pre x b))
    (hC : ∀ pre X W, I pre X W → C X W) (h0 : I [] no w)
    (hassign : ∀ (l : Nat) (X : Nat → Prop) (pre : List α) (x : α) (W : World) (K : Act → World → Prop), X l → XOk X W → I pre X W → E x X W → Pf (pre ++ [x]) →
      (∀ b W', W.heap.size ≤ W'.heap.size → Kept X W W' → B pre x b X W' → K (Fr a.tmps x b) W') →
      assign.wpIn (Fence.wide.inRound l) n P (Exit.then K (fun _ _ _ => False)) { tmps := (ps.zip (encs x)).foldl (fun t (p, v) => t.setIfInBounds p v) a.tmps, defers := [] } W)
    (hbody : ∀ (l : Nat) (X : Nat → Prop) (pre : List α) (x : α) (b : β) (W : World), X l → XOk X W → (∃ r, W.heap[l]? = some (.loop r)) → B pre x b X W → Pf (pre ++ [x]) →
      body.wpIn (Fence.wide.inRound l) n P (rPost X (I (pre ++ [x])) (fun c => Ix c (pre ++ [x])) W) (Fr a.tmps x b) W)
    (hdone : ∀ (D : Nat) (xs : List α) (W : World), Fn xs → I xs (· = D) W → W.heap[D]? = some (.deferred (some [])) → Q .normal { a with defers := { target := .collected D, args := #[] } :: a.defers } W)
    (hstop : ∀ (D : Nat) (c : Code) (pre : List α) (W : World), Ix c pre (· = D) W → W.heap[D]? = some (.deferred (some [])) → c.wpIn Fence.wide n P Q { a with defers := { target := .collected D, args := #[] } :: a.defers } W) :
    (Code.rangeFunc g ps assign body).wpIn Fence.wide n P Q a w :=
  range_outG0 hit hE hEf hg eg hps I Ix (fun pre x a' X W => ∃ b, B pre x b X W ∧ a' = Fr a.tmps x b) hI hIx (fun pre x a' => Frames.ex fun b => (hB pre x b).and (Frames.pure _)) hC h0
    (fun l X pre x W K hl hX hi he hp hK => hassign l X pre x W K hl hX hi he hp fun b W' h1 h2 h3 => hK _ W' h1 h2 ⟨b, h3, rfl⟩)
    (fun l X pre x a' W hl hX hr ⟨b, hb, ha⟩ hp => by subst ha; exact hbody l X pre x b W hl hX hr hb hp) hdone hstop

/-- the same, where it may be left by a break: what lies behind it is walked once -/
theorem range_postG {β : Type} (hit : IterG P gf lb encs Pf Fn E C) (hE : ∀ x X W l, E x X W → (∀ i, W.cell? ⟨l, i, none⟩ = none) → E x (fun k => X k ∨ k = l) W) (hEf : ∀ x, Frames (E x)) (hg : a.eval g = .func (.func gf) #[] lb) (eg : ∀ args w, (callFunc gf args).run P w = .ok (.enter gf args) w) (hps : ∀ x, (encs x).size = ps.size)
    (Fr : Array Value → α → β → Act) (I : List α → As) (Ix : Code → List α → As) (B : List α → α → β → As) (hI : ∀ pre, Frames (I pre)) (hIx : ∀ c pre, Frames (Ix c pre)) (hB : ∀ pre x b, Frames (B pre x b))
    (hC : ∀ pre X W, I pre X W → C X W) (h0 : I [] no w) (id : Nat) (hQ : ∀ a w, Q .normal a w → Q (.exit id) a w) (Post : Nat → World → Prop)
    (hdone : ∀ (D : Nat) (xs : List α) (W : World), Fn xs → I xs (· = D) W → W.heap[D]? = some (.deferred (some [])) → Post D W)
    (hstop : ∀ (D : Nat) (c : Code) (pre : List α) (W : World), Ix c pre (· = D) W → W.heap[D]? = some (.deferred (some [])) → c = .exit id ∧ Post D W)
    (hassign : ∀ (l : Nat) (X : Nat → Prop) (pre : List α) (x : α) (W : World) (K : Act → World → Prop), X l → XOk X W → I pre X W → E x X W → Pf (pre ++ [x]) →
      (∀ b W', W.heap.size ≤ W'.heap.size → Kept X W W' → B pre x b X W' → K (Fr a.tmps x b) W') →
      assign.wpIn (Fence.wide.inRound l) n P (Exit.then K (fun _ _ _ => False)) { tmps := (ps.zip (encs x)).foldl (fun t (p, v) => t.setIfInBounds p v) a.tmps, defers := [] } W)
    (hbody : ∀ (l : Nat) (X : Nat → Prop) (pre : List α) (x : α) (b : β) (W : World), X l → XOk X W → (∃ r, W.heap[l]? = some (.loop r)) → B pre x b X W → Pf (pre ++ [x]) →
      body.wpIn (Fence.wide.inRound l) n P (rPost X (I (pre ++ [x])) (fun c => Ix c (pre ++ [x])) W) (Fr a.tmps x b) W)
    (tail : ∀ (D : Nat) (W : World), Post D W → Q .normal { a with defers := { target := .collected D, args := #[] } :: a.defers } W) :
    (Code.rangeFunc g ps assign body).wpIn Fence.wide n P Q a w :=
  range_outG hit hE hEf hg eg hps Fr I Ix B hI hIx hB hC h0 hassign hbody (fun D xs W hf hi hD => tail D W (hdone D xs W hf hi hD))
    (fun D c pre W hi hD => by
      obtain ⟨rfl, hP⟩ := hstop D c pre W hi hD
      exact wpIn_exit (hQ _ _ (tail D W hP)))
end
end Go.Proofs.Ytjnclchbklehgaa
