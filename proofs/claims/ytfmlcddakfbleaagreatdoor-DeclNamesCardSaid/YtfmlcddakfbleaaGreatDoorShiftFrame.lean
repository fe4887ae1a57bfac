/- Iterators within iterators: what a loop's owner says of its own blocks, framed against the blocks of the iterator that it goes through. Over any program. -/
import Derived.RangeFuncNested
import Derived.RangeFuncBound
namespace Go.Proofs.YtfmlcddakfbleaaGreatDoor
open Go.RowKit

/-- W' is as W was outside the blocks X. -/
structure Off (X : Nat → Prop) (W W' : World) : Prop where
  os : W'.os = W.os
  tape : W'.tape = W.tape
  output : W'.output = W.output
  size : W.heap.size ≤ W'.heap.size
  block : ∀ k, k < W.heap.size → ¬ X k → W'.heap[k]? = W.heap[k]?

/-- the blocks X are in W' as they were in W -/
def Kept (X : Nat → Prop) (W W' : World) : Prop := ∀ k, X k → k < W.heap.size → W'.heap[k]? = W.heap[k]?

/-- what is said of a world by one who owns nothing of X -/
abbrev As := (Nat → Prop) → World → Prop

/-- it abides whatever is done to X, and to blocks laid since -/
def Frames (I : As) : Prop := ∀ X X' W W', I X W → Off X W W' → (∀ k, X' k → X k ∨ W.heap.size ≤ k) → I X' W'

def no : Nat → Prop := fun _ => False

/-- a row of bytes -/
def byteRow : Obj → Bool
  | .cells _ t _ => t == 5
  | _ => false
/-- the blocks X are there, and no rows of bytes -/
def XOk (X : Nat → Prop) (W : World) : Prop := ∀ k, X k → ∃ o, W.heap[k]? = some o ∧ byteRow o = false
theorem XOk.lt {X : Nat → Prop} {W : World} (h : XOk X W) {k : Nat} (hk : X k) : k < W.heap.size := by
  obtain ⟨o, ho, _⟩ := h k hk; exact (Array.getElem?_eq_some_iff.1 ho).1

theorem Off.refl (X : Nat → Prop) (W : World) : Off X W W := ⟨rfl, rfl, rfl, Nat.le_refl _, fun _ _ _ => rfl⟩
theorem Off.trans {X : Nat → Prop} {A B C : World} (h : Off X A B) (k : Off X B C) : Off X A C :=
  ⟨k.os.trans h.os, k.tape.trans h.tape, k.output.trans h.output, Nat.le_trans h.size k.size, fun i hi hx => (k.block i (Nat.lt_of_lt_of_le hi h.size) hx).trans (h.block i hi hx)⟩
theorem Off.mono {X Y : Nat → Prop} {A B : World} (h : Off X A B) (hxy : ∀ k, X k → Y k) : Off Y A B := ⟨h.os, h.tape, h.output, h.size, fun k hk hy => h.block k hk (fun hx => hy (hxy k hx))⟩
theorem Off.alloc (X : Nat → Prop) (W : World) (o : Obj) : Off X W (W.alloc o) := ⟨rfl, rfl, rfl, by simp, fun k hk _ => Below.heap_alloc _ _ _ hk⟩
theorem Off.drew (X : Nat → Prop) (W : World) : Off X W W.drew := ⟨rfl, rfl, rfl, Nat.le_refl _, fun _ _ _ => rfl⟩
theorem Off.setCell {X : Nat → Prop} {p : Addr} (hp : X p.block) (W : World) (v : Value) : Off X W (W.setCell p v) :=
  ⟨rfl, rfl, rfl, by simp [World.setCell], fun k _ hx => Below.heap_setCell _ _ _ _ (fun e => hx (e ▸ hp))⟩
theorem Off.putObj {X : Nat → Prop} {l : Nat} (hl : X l) (W : World) (o : Obj) : Off X W (W.putObj l o) :=
  ⟨rfl, rfl, rfl, by simp, fun k _ hx => World.putObj_heap_other (fun e => hx (e ▸ hl))⟩
theorem Off.of_below {X : Nat → Prop} {W W' : World} (h : Below W.heap.size W W') : Off X W W' := ⟨h.os, h.tape, h.output, h.size, fun k hk _ => h.block k hk⟩
theorem Off.of_grown {X : Nat → Prop} {W W' : World} {row : Option Nat} (h : W.grownBy W' row) (hr : ∀ k, row = some k → X k) : Off X W W' :=
  ⟨h.os, h.tape, h.output, h.size, fun k hk hx => h.block k hk (fun e => hx (hr k e.symm))⟩

theorem Kept.refl (X : Nat → Prop) (W : World) : Kept X W W := fun _ _ _ => rfl
theorem Kept.trans {X : Nat → Prop} {A B C : World} (hs : A.heap.size ≤ B.heap.size) (h : Kept X A B) (k : Kept X B C) : Kept X A C := fun i hx hi => (k i hx (Nat.lt_of_lt_of_le hi hs)).trans (h i hx hi)
theorem Kept.of_off {X Y : Nat → Prop} {A B : World} (h : Off Y A B) (hxy : ∀ k, X k → ¬ Y k) : Kept X A B := fun k hx hk => h.block k hk (hxy k hx)
theorem Kept.mono {X Y : Nat → Prop} {A B : World} (h : Kept X A B) (hxy : ∀ k, Y k → X k) : Kept Y A B := fun k hy hk => h k (hxy k hy) hk

theorem Kept.cell {X : Nat → Prop} {A B : World} (h : Kept X A B) {b o : Nat} (hb : X b) (hlt : b < A.heap.size) : B.cell? ⟨b, o, none⟩ = A.cell? ⟨b, o, none⟩ := World.cell?_of_block (a := ⟨b, o, none⟩) (h b hb hlt)
theorem Kept.frozen {X : Nat → Prop} {A B : World} (h : Kept X A B) {b o : Nat} (hb : X b) (hlt : b < A.heap.size) : B.frozen? ⟨b, o, none⟩ = A.frozen? ⟨b, o, none⟩ := World.frozen?_of_block (a := ⟨b, o, none⟩) (h b hb hlt)

theorem Kept.alloc (X : Nat → Prop) (W : World) (o : Obj) : Kept X W (W.alloc o) := fun k _ hk => Below.heap_alloc W o k hk
theorem Kept.set {X : Nat → Prop} {p : Addr} (hp : ¬ X p.block) (W : World) (v : Value) : Kept X W (W.setCell p v) := fun _k hx _ => Below.heap_setCell W _ _ _ (fun e => hp (e ▸ hx))
theorem Kept.below {X : Nat → Prop} {W W' : World} (h : Below W.heap.size W W') : Kept X W W' := fun k _ hk => h.block k hk

theorem Frames.less {I : As} (h : Frames I) {X X' : Nat → Prop} {W : World} (hi : I X W) (hx : ∀ k, X' k → X k) : I X' W := h X X' W W hi (Off.refl X W) (fun k hk => .inl (hx k hk))
theorem Frames.off {I : As} (h : Frames I) {X : Nat → Prop} {W W' : World} (hi : I X W) (ho : Off X W W') : I X W' := h X X W W' hi ho (fun _ hk => .inl hk)
theorem Frames.more {I : As} (h : Frames I) {X X' : Nat → Prop} {W W' : World} (hi : I X W) (ho : Off X W W') (hx : ∀ k, X' k → X k ∨ W.heap.size ≤ k) : I X' W' := h X X' W W' hi ho hx

/-- block b is mine, and holds o -/
def Has (b : Nat) (o : Obj) : As := fun X W => ¬ X b ∧ W.heap[b]? = some o

theorem Has.lt {b : Nat} {o : Obj} {X : Nat → Prop} {W : World} (h : Has b o X W) : b < W.heap.size := (Array.getElem?_eq_some_iff.1 h.2).1
theorem Has.frames (b : Nat) (o : Obj) : Frames (Has b o) := fun X X' W W' h ho hx =>
  ⟨fun hb => (hx b hb).elim h.1 (fun hle => by have := Has.lt h; omega), (ho.block b (Has.lt h) h.1).trans h.2⟩
theorem Has.kept {b : Nat} {o : Obj} {X M : Nat → Prop} {W W' : World} (h : Has b o X W) (hk : Kept M W W') (hM : M b) : Has b o X W' := ⟨h.1, (hk b hM h.lt).trans h.2⟩
theorem Has.ne {b b' : Nat} {o o' : Obj} {X : Nat → Prop} {W : World} (h : Has b o X W) (h' : Has b' o' X W) (hne : o ≠ o') : b ≠ b' := fun e => by
  subst e; have := h.2.symm.trans h'.2; injection this with this; exact hne this
theorem Has.alloc {b : Nat} {o : Obj} {X : Nat → Prop} {W : World} (h : Has b o X W) (o' : Obj) : Has b o X (W.alloc o') := ⟨h.1, (Below.heap_alloc W o' b h.lt).trans h.2⟩
theorem Has.new {X : Nat → Prop} {W : World} (hb : XOk X W) (o : Obj) : Has W.heap.size o X (W.alloc o) := ⟨fun h => by have := hb.lt h; omega, World.alloc_heap_new W o⟩
theorem Has.new1 {X : Nat → Prop} {W : World} (hb : XOk X W) (o o' : Obj) : Has (W.heap.size + 1) o' X ((W.alloc o).alloc o') :=
  ⟨fun h => by have := hb.lt h; omega, by have := World.alloc_heap_new (W.alloc o) o'; rwa [World.size_alloc] at this⟩
theorem Has.newAt {X : Nat → Prop} {W : World} {b : Nat} (hX : ¬ X b) (hb : b = W.heap.size) (o : Obj) : Has b o X (W.alloc o) := ⟨hX, by rw [hb]; exact World.alloc_heap_new W o⟩
theorem XOk.kept {X : Nat → Prop} {W W' : World} (h : XOk X W) (hk : Kept X W W') : XOk X W' := fun k hx => by
  obtain ⟨o, ho, hn⟩ := h k hx; exact ⟨o, (hk k hx (h.lt hx)).trans ho, hn⟩
theorem XOk.below {X : Nat → Prop} {W W' : World} (h : XOk X W) (hb : Below W.heap.size W W') : XOk X W' := h.kept fun k _ hk => hb.block k hk
theorem Has.ok {b : Nat} {o : Obj} {X : Nat → Prop} {W : World} (h : Has b o X W) (hn : byteRow o = false := by rfl) : ∃ o, W.heap[b]? = some o ∧ byteRow o = false := ⟨o, h.2, hn⟩
theorem Has.set {b : Nat} {v v' : Value} {t : TypeId} {X : Nat → Prop} {W : World} (h : Has b (.cells #[v] t (0, 0)) X W) : Has b (.cells #[v'] t (0, 0)) X (W.setCell ⟨b, 0, none⟩ v') := ⟨h.1, Boxed.set v' h.2⟩
theorem Has.other {b b' o : Nat} {ob : Obj} {v' : Value} {X : Nat → Prop} {W : World} (h : Has b ob X W) (hne : b ≠ b') : Has b ob X (W.setCell ⟨b', o, none⟩ v') := ⟨h.1, (Below.heap_setCell W _ _ _ hne).trans h.2⟩
theorem Has.cell {b i : Nat} {cs : Array Value} {t : TypeId} {fr : Nat × Nat} {X : Nat → Prop} {W : World} (h : Has b (.cells cs t fr) X W) : W.cell? ⟨b, i, none⟩ = cs[i]? := by simp [World.cell?, h.2]
theorem Has.frozen {b i : Nat} {cs : Array Value} {t : TypeId} {X : Nat → Prop} {W : World} (h : Has b (.cells cs t (0, 0)) X W) : W.frozen? ⟨b, i, none⟩ = false := by simp [World.frozen?, h.2]
theorem Has.drew {b : Nat} {o : Obj} {X : Nat → Prop} {W : World} (h : Has b o X W) : Has b o X W.drew := h
/-- what lay below n₀ is as it was in w -/
def Low (n₀ : Nat) (w : World) : As := fun X W => Below n₀ w W ∧ n₀ ≤ W.heap.size ∧ ∀ k, X k → n₀ ≤ k
theorem Low.frames (n₀ : Nat) (w : World) : Frames (Low n₀ w) := fun X X' W W' h ho hx =>
  ⟨h.1.trans ⟨ho.os, ho.tape, ho.output, ho.size, fun k hk => ho.block k (Nat.lt_of_lt_of_le hk h.2.1) (fun hX => by have := h.2.2 k hX; omega)⟩, Nat.le_trans h.2.1 ho.size,
    fun k hk => (hx k hk).elim (h.2.2 k) (fun hle => Nat.le_trans h.2.1 hle)⟩
theorem Frames.and {I J : As} (hi : Frames I) (hj : Frames J) : Frames (fun X W => I X W ∧ J X W) := fun X X' W W' h ho hx => ⟨hi X X' W W' h.1 ho hx, hj X X' W W' h.2 ho hx⟩
theorem Frames.pure (p : Prop) : Frames (fun _ _ => p) := fun _ _ _ _ h _ _ => h
theorem Frames.ex {β : Type} {I : β → As} (h : ∀ b, Frames (I b)) : Frames (fun X W => ∃ b, I b X W) := fun X X' W W' ⟨b, hb⟩ ho hx => ⟨b, h b X X' W W' hb ho hx⟩
/-- what is said with the blocks M let out too -/
theorem Frames.within {I : As} (h : Frames I) (M : Nat → Prop) : Frames (fun X W => I (fun k => X k ∨ M k) W) := fun _X _X' W W' hi ho hx =>
  h _ _ W W' hi (ho.mono fun _ hk => .inl hk) (fun k hk => hk.elim (fun hk => (hx k hk).elim (fun h => .inl (.inl h)) .inr) (fun hk => .inl (.inr hk)))

/-- The iterator g with what it has captured gives xs, in order, or as many as are asked for; C: what it reads of its captured variables, kept by whoever goes through it. -/
def Iter {α : Type} (P : Program) (g : Nat) (lb : Array Value) (encs : α → Array Value) (xs : List α) (C : As) : Prop :=
  ∀ (n m l : Nat) (J Jx : List α → As) (W : World), (∀ pre, Frames (J pre)) → (∀ pre, Frames (Jx pre)) → (∀ pre X W, J pre X W → C X W) →
    (∀ pre x X W, XOk X W → J pre X W → (pre ++ [x]) <+: xs → YieldAt Fence.wide m P l (encs x) W fun e W' => W.heap.size ≤ W'.heap.size ∧ Kept X W W' ∧
      ((e = .returned (.bool true) ∧ J (pre ++ [x]) X W') ∨ (e = .returned (.bool false) ∧ Jx (pre ++ [x]) X W'))) →
    J [] no W →
    CallsIn Fence.wide n P g (#[.func (.yield l) #[] #[]] ++ lb) W fun e W' => (∃ v, e = .returned v) ∧ (J xs no W' ∨ ∃ pre, pre <+: xs ∧ Jx pre no W')

theorem round_any {m m' : Nat} {P : Program} {l : Nat} {fn : FuncId} {tmps : Array Value} {assign body : Code} {W : World} {R : Ending → World → Prop} (h : RoundIn Fence.wide m P l fn tmps assign body W R) {b : Prop} :
    (Fence.wide.depth.isSome = true → b) ∧ RoundIn Fence.wide m' P l fn tmps assign body W R := ⟨fun h => by simp [Fence.wide] at h, h.1, fun c cs _ => h.2 c cs (room_wide _)⟩
theorem round_in {m m' : Nat} {P : Program} {l l' : Nat} {fn : FuncId} {tmps : Array Value} {assign body : Code} {W : World} {R : Ending → World → Prop} (h : RoundIn Fence.wide m P l fn tmps assign body W R) {b : Prop} :
    ((Fence.wide.inRound l').depth.isSome = true → b) ∧ RoundIn (Fence.wide.inRound l') m' P l fn tmps assign body W R := ⟨fun h => by simp [Fence.wide] at h, h.1, fun c cs _ => h.2 c cs (room_wide _)⟩

theorem round_at {m m' : Nat} {P : Program} {l l' : Nat} {fn : FuncId} {tmps : Array Value} {assign body : Code} {W : World} {R : Ending → World → Prop} (h : RoundIn Fence.wide m P l fn tmps assign body W R) :
    RoundIn (Fence.wide.inRound l') m' P l fn tmps assign body W R := ⟨h.1, fun c cs _ => h.2 c cs (room_wide _)⟩
theorem round_out {m m' : Nat} {P : Program} {l : Nat} {fn : FuncId} {tmps : Array Value} {assign body : Code} {W : World} {R : Ending → World → Prop} (h : RoundIn Fence.wide m P l fn tmps assign body W R) :
    RoundIn Fence.wide m' P l fn tmps assign body W R := ⟨h.1, fun c cs _ => h.2 c cs (room_wide _)⟩

/-- HOW THE BODY OF A ROUND MAY BE LEFT. -/
def rPost (X : Nat → Prop) (I : As) (Ix : Code → As) (W : World) : Exit → Act → World → Prop
  | .normal, _, W' => W.heap.size ≤ W'.heap.size ∧ Kept X W W' ∧ I X W'
  | .ret, _, W' => W.heap.size ≤ W'.heap.size ∧ Kept X W W' ∧ Ix .ret X W'
  | .exit id, _, W' => W.heap.size ≤ W'.heap.size ∧ Kept X W W' ∧ Ix (.exit id) X W'
  | .goto t, _, W' => W.heap.size ≤ W'.heap.size ∧ Kept X W W' ∧ Ix (.goto t) X W'
  | .panic _, _, _ => False
  | .outgrown, _, _ => False

section
variable {P : Program} {α : Type} {ps : Array Tmp} {assign body : Code} {encs : α → Array Value}

/-- one whose rounds are this body's -/
theorem rounds {fn : FuncId} {tmps : Array Value} {d : Nat} {l m : Nat} {xs : List α} (rec : LoopState → Option Code → Loop) (hrec : rec = fun st pe => { state := st, pending := pe, fn, tmps, params := ps, assign, body, defers := d })
    (hps : ∀ x, (encs x).size = ps.size) (I : List α → As) (Ix : Code → List α → As) (A : List α → α → Act → As) (hI : ∀ pre, Frames (I pre)) (hIx : ∀ c pre, Frames (Ix c pre)) (hA : ∀ pre x a, Frames (A pre x a))
    (hassign : ∀ (X : Nat → Prop) (pre : List α) (x : α) (W : World) (K : Act → World → Prop), X l → XOk X W → I pre X W → (pre ++ [x]) <+: xs →
      (∀ a' W', W.heap.size ≤ W'.heap.size → Kept X W W' → A pre x a' X W' → K a' W') →
      assign.wpIn (Fence.wide.inRound l) m P (Exit.then K (fun _ _ _ => False)) { tmps := (ps.zip (encs x)).foldl (fun t (p, v) => t.setIfInBounds p v) tmps, defers := [] } W)
    (hbody : ∀ (X : Nat → Prop) (pre : List α) (x : α) (a' : Act) (W : World), X l → XOk X W → (∃ r, W.heap[l]? = some (.loop r)) → A pre x a' X W → (pre ++ [x]) <+: xs →
      body.wpIn (Fence.wide.inRound l) m P (rPost X (I (pre ++ [x])) (fun c => Ix c (pre ++ [x])) W) a' W)
    (pre : List α) (x : α) (X : Nat → Prop) (W : World) (hb : XOk X W) (h : I pre (fun k => X k ∨ k = l) W ∧ Has l (.loop (rec .ready none)) X W) (hp : (pre ++ [x]) <+: xs) :
    YieldAt Fence.wide m P l (encs x) W fun e W' => W.heap.size ≤ W'.heap.size ∧ Kept X W W' ∧
      ((e = .returned (.bool true) ∧ I (pre ++ [x]) (fun k => X k ∨ k = l) W' ∧ Has l (.loop (rec .ready none)) X W') ∨
       (e = .returned (.bool false) ∧ ∃ c, Ix c (pre ++ [x]) (fun k => X k ∨ k = l) W' ∧ Has l (.loop (rec .done (some c))) X W')) := by
  obtain ⟨hi, hX, hl⟩ := h
  have hy := run_yield (P := P) (args := encs x) hl (by rw [hrec]; exact hps x)
  rw [hrec] at hy
  have hlt := (Array.getElem?_eq_some_iff.1 hl).1
  have hb2 : XOk (fun k => X k ∨ k = l) W := fun k hk => hk.elim (hb k) (fun e => ⟨_, e ▸ hl, rfl⟩)
  refine ⟨fn, _, assign, body, hy, roundIn_of_wpIn trivial (hassign (fun k => X k ∨ k = l) pre x W _ (.inr rfl) hb2 hi hp ?_)⟩
  clear hy
  intro a' Wa hsz hka ha
  have hla : Wa.heap[l]? = some (.loop (rec .ready none)) := (hka l (.inr rfl) hlt).trans hl
  refine ⟨_, run_beginRound hla (by rw [hrec]), ?_⟩
  obtain ⟨W2, hW2⟩ : ∃ W2, Wa.putObj l (.loop { rec .ready none with state := .busy }) = W2 := ⟨_, rfl⟩
  have hs2 : W2.heap.size = Wa.heap.size := by rw [← hW2]; simp
  have hl2 : W2.heap[l]? = some (.loop { rec .ready none with state := .busy }) := by rw [← hW2]; exact World.putObj_heap_same (by omega)
  have ho2 : Off (fun k => X k ∨ k = l) Wa W2 := by rw [← hW2]; exact Off.putObj (.inr rfl) _ _
  have hx2 : Kept X Wa W2 := by rw [← hW2]; exact fun k hk _ => World.putObj_heap_other (fun e => hX (e ▸ hk))
  rw [hW2]
  clear hW2
  refine wpIn_mono (hbody (fun k => X k ∨ k = l) pre x a' W2 (.inr rfl) (fun k hk => hk.elim (fun h => by obtain ⟨o, ho, hn⟩ := hb2 k (.inl h); exact ⟨o, (hx2 k h (Nat.lt_of_lt_of_le (hb.lt h) hsz)).trans ((hka k (.inl h) (hb.lt h)).trans ho), hn⟩) (fun e => ⟨_, e ▸ hl2, rfl⟩)) ⟨_, hl2⟩ ((hA pre x a').off ha ho2) hp) ?_
  have fin : ∀ (jump : Option Code) (W3 : World), W2.heap.size ≤ W3.heap.size → Kept (fun k => X k ∨ k = l) W2 W3 →
      (Instr.endRound l jump).run P W3 = .ok (.bool jump.isNone) (W3.putObj l (.loop (rec (if jump.isNone then .ready else .done) jump))) ∧
      W.heap.size ≤ (W3.putObj l (.loop (rec (if jump.isNone then .ready else .done) jump))).heap.size ∧
      Kept X W (W3.putObj l (.loop (rec (if jump.isNone then .ready else .done) jump))) ∧
      Off (fun k => X k ∨ k = l) W3 (W3.putObj l (.loop (rec (if jump.isNone then .ready else .done) jump))) ∧
      (W3.putObj l (.loop (rec (if jump.isNone then .ready else .done) jump))).heap[l]? = some (.loop (rec (if jump.isNone then .ready else .done) jump)) := fun jump W3 hs3 hk3 => by
    have hl3 := (hk3 l (.inr rfl) (by omega)).trans hl2
    have hlt3 := (Array.getElem?_eq_some_iff.1 hl3).1
    have := run_endRound (P := P) jump hl3
    rw [hrec] at this ⊢
    refine ⟨this, by simp; omega, ?_, Off.putObj (.inr rfl) _ _, World.putObj_heap_same hlt3⟩
    have h1 : Kept X W W3 := Kept.trans (by omega) (Kept.trans hsz (hka.mono fun _ h => .inl h) hx2) (hk3.mono fun _ h => .inl h)
    exact Kept.trans (by omega) h1 (fun k hk _ => World.putObj_heap_other (fun e => hX (e ▸ hk)))
  rintro e a3 W3 hp3
  cases e with
  | normal =>
    obtain ⟨hs3, hk3, hi3⟩ := hp3
    obtain ⟨hr, f1, f2, f3, f4⟩ := fin none W3 hs3 hk3
    exact ⟨_, _, hr, f1, f2, .inl ⟨rfl, (hI _).off hi3 f3, hX, f4⟩⟩
  | ret =>
    obtain ⟨hs3, hk3, hi3⟩ := hp3
    obtain ⟨hr, f1, f2, f3, f4⟩ := fin (some .ret) W3 hs3 hk3
    exact ⟨_, _, hr, f1, f2, .inr ⟨rfl, _, (hIx _ _).off hi3 f3, hX, f4⟩⟩
  | exit id =>
    obtain ⟨hs3, hk3, hi3⟩ := hp3
    obtain ⟨hr, f1, f2, f3, f4⟩ := fin (some (.exit id)) W3 hs3 hk3
    exact ⟨_, _, hr, f1, f2, .inr ⟨rfl, _, (hIx _ _).off hi3 f3, hX, f4⟩⟩
  | goto t =>
    obtain ⟨hs3, hk3, hi3⟩ := hp3
    obtain ⟨hr, f1, f2, f3, f4⟩ := fin (some (.goto t)) W3 hs3 hk3
    exact ⟨_, _, hr, f1, f2, .inr ⟨rfl, _, (hIx _ _).off hi3 f3, hX, f4⟩⟩
  | panic ch => exact hp3.elim
  | outgrown => exact hp3.elim

variable {g : Operand} {Q : Exit → Act → World → Prop} {a : Act} {w : World} {gf : Nat} {lb : Array Value} {n : Nat} {xs : List α} {C : As}

/-- behind the iterator -/
theorem through {fn : FuncId} {d : Nat} {l : Nat} (rec : LoopState → Option Code → Loop) (hrec : rec = fun st pe => { state := st, pending := pe, fn, tmps := a.tmps, params := ps, assign, body, defers := d })
    (hit : Iter P gf lb encs xs C) (hps : ∀ x, (encs x).size = ps.size) (I : List α → As) (Ix : Code → List α → As) (A : List α → α → Act → As) (hI : ∀ pre, Frames (I pre)) (hIx : ∀ c pre, Frames (Ix c pre)) (hA : ∀ pre x a, Frames (A pre x a))
    (hC : ∀ pre X W, I pre X W → C X W)
    (hassign : ∀ (X : Nat → Prop) (pre : List α) (x : α) (W : World) (K : Act → World → Prop), X l → XOk X W → I pre X W → (pre ++ [x]) <+: xs →
      (∀ a' W', W.heap.size ≤ W'.heap.size → Kept X W W' → A pre x a' X W' → K a' W') →
      assign.wpIn (Fence.wide.inRound l) n P (Exit.then K (fun _ _ _ => False)) { tmps := (ps.zip (encs x)).foldl (fun t (p, v) => t.setIfInBounds p v) a.tmps, defers := [] } W)
    (hbody : ∀ (X : Nat → Prop) (pre : List α) (x : α) (a' : Act) (W : World), X l → XOk X W → (∃ r, W.heap[l]? = some (.loop r)) → A pre x a' X W → (pre ++ [x]) <+: xs →
      body.wpIn (Fence.wide.inRound l) n P (rPost X (I (pre ++ [x])) (fun c => Ix c (pre ++ [x])) W) a' W)
    {W1 : World} (hl : W1.heap[l]? = some (.loop (rec .ready none))) (h0 : I [] (· = l) W1) (n1 : Nat) (a1 : Act) (Q1 : Exit → Act → World → Prop) (F : Fence)
    (hdone : ∀ (W : World), I xs (· = l) W → Q1 .normal a1 W)
    (hstop : ∀ (c : Code) (pre : List α) (W : World), pre <+: xs → Ix c pre (· = l) W → c.wpIn F n P Q1 a1 W) :
    CallsIn Fence.wide n1 P gf (#[.func (.yield l) #[] #[]] ++ lb) W1 (rangePost F n P l Q1 a1) := by
  refine (hit n1 n l (fun pre X W => I pre (fun k => X k ∨ k = l) W ∧ Has l (.loop (rec .ready none)) X W)
    (fun pre X W => ∃ c, Ix c pre (fun k => X k ∨ k = l) W ∧ Has l (.loop (rec .done (some c))) X W) W1
    (fun pre => ((hI pre).within _).and (Has.frames _ _)) (fun pre => Frames.ex fun c => ((hIx c pre).within _).and (Has.frames _ _))
    (fun pre X W h => hC pre X W ((hI pre).less h.1 fun _ hk => .inl hk))
    (fun pre x X W hb h hp => rounds rec hrec hps I Ix A hI hIx hA hassign hbody pre x X W hb h hp)
    ⟨(hI []).less h0 (fun k hk => hk.elim (fun h => h.elim) id), fun h => h, hl⟩).mono ?_
  have hex : ∀ (st : LoopState) (pe : Option Code) (W : World), Off (· = l) W (W.putObj l (.loop { rec st pe with state := .exhausted })) := fun st pe W => Off.putObj (X := (· = l)) rfl _ _
  rintro e W2 ⟨⟨v, rfl⟩, (⟨hi, _, hl2⟩ | ⟨pre, hpre, c, hi, _, hl2⟩)⟩
  · have hr := run_endLoop (P := P) hl2 (by rw [hrec]; simp)
    exact ⟨none, _, by rw [hrec] at hr ⊢; exact hr, hdone _ ((hI xs).off ((hI xs).less hi fun _ hk => .inr hk) (hex _ _ _))⟩
  · have hr := run_endLoop (P := P) hl2 (by rw [hrec]; simp)
    exact ⟨some c, _, by rw [hrec] at hr ⊢; exact hr, hstop c pre _ hpre ((hIx c pre).off ((hIx c pre).less hi fun _ hk => .inr hk) (hex _ _ _))⟩

/-- A RANGE OVER A FUNCTION, outside of any round. -/
theorem range_out (hit : Iter P gf lb encs xs C) (hg : a.eval g = .func (.func gf) #[] lb) (eg : ∀ args w, (callFunc gf args).run P w = .ok (.enter gf args) w) (hps : ∀ x, (encs x).size = ps.size)
    (I : List α → As) (Ix : Code → List α → As) (A : List α → α → Act → As) (hI : ∀ pre, Frames (I pre)) (hIx : ∀ c pre, Frames (Ix c pre)) (hA : ∀ pre x a, Frames (A pre x a))
    (hC : ∀ pre X W, I pre X W → C X W) (h0 : I [] no w)
    (hassign : ∀ (l : Nat) (X : Nat → Prop) (pre : List α) (x : α) (W : World) (K : Act → World → Prop), X l → XOk X W → I pre X W → (pre ++ [x]) <+: xs →
      (∀ a' W', W.heap.size ≤ W'.heap.size → Kept X W W' → A pre x a' X W' → K a' W') →
      assign.wpIn (Fence.wide.inRound l) n P (Exit.then K (fun _ _ _ => False)) { tmps := (ps.zip (encs x)).foldl (fun t (p, v) => t.setIfInBounds p v) a.tmps, defers := [] } W)
    (hbody : ∀ (l : Nat) (X : Nat → Prop) (pre : List α) (x : α) (a' : Act) (W : World), X l → XOk X W → (∃ r, W.heap[l]? = some (.loop r)) → A pre x a' X W → (pre ++ [x]) <+: xs →
      body.wpIn (Fence.wide.inRound l) n P (rPost X (I (pre ++ [x])) (fun c => Ix c (pre ++ [x])) W) a' W)
    (hdone : ∀ (D : Nat) (W : World), I xs (· = D) W → W.heap[D]? = some (.deferred (some [])) → Q .normal { a with defers := { target := .collected D, args := #[] } :: a.defers } W)
    (hstop : ∀ (D : Nat) (c : Code) (pre : List α) (W : World), pre <+: xs → Ix c pre (· = D) W → W.heap[D]? = some (.deferred (some [])) → c.wpIn Fence.wide n P Q { a with defers := { target := .collected D, args := #[] } :: a.defers } W) :
    (Code.rangeFunc g ps assign body).wpIn Fence.wide n P Q a w := by
  refine wpIn_rangeFunc ?_
  intro fn _
  show ∃ (l : Nat) (mark : List Deferred) (w₁ : World) (d : Deferred) (w₁' : World) (f : FuncId) (args : Array Value) (w₂ : World), (Instr.enterLoop fn a.tmps ps assign body none).run P w = .ok (l, mark) w₁ ∧ _
  obtain ⟨rec, hrec⟩ : ∃ rec : LoopState → Option Code → Loop, rec = fun st pe => { state := st, pending := pe, fn, tmps := a.tmps, params := ps, assign, body, defers := w.heap.size } := ⟨_, rfl⟩
  obtain ⟨W1, hW1⟩ : ∃ W1, (w.alloc (.deferred (some []))).alloc (.loop (rec .ready none)) = W1 := ⟨_, rfl⟩
  have hL1 : W1.heap[w.heap.size + 1]? = some (.loop (rec .ready none)) := by
    rw [← hW1]; have := World.alloc_heap_new (w.alloc (.deferred (some []))) (.loop (rec .ready none)); rwa [World.size_alloc] at this
  have hD1 : W1.heap[w.heap.size]? = some (.deferred (some [])) := by
    rw [← hW1]; exact (Below.heap_alloc _ _ _ (by simp)).trans (World.alloc_heap_new w _)
  have hI1 : I [] (fun k => k = w.heap.size + 1 ∨ k = w.heap.size) W1 := by
    refine (hI []).more h0 (W' := W1) ?_ (fun k hk => .inr (by omega))
    rw [← hW1]; exact (Off.alloc _ _ _).trans (Off.alloc _ _ _)
  refine ⟨w.heap.size + 1, [{ target := .collected w.heap.size, args := #[] }], W1, { target := .fn (.func gf) lb, args := #[.func (.yield (w.heap.size + 1)) #[] #[]] }, W1, gf,
    #[.func (.yield (w.heap.size + 1)) #[] #[]] ++ lb, W1, ?_, ?_, fun _ _ => trivial, ?_, fun h => by simp [Fence.wide] at h, ?_⟩
  · rw [← hW1, hrec]; exact run_enterLoop_outer _ _ _ _ _
  · simp only [resolve, hg]
    simp [go_sem]
  · simp [invoke, go_sem, eg]
  · exact through rec hrec hit hps (fun pre X W => I pre (fun k => X k ∨ k = w.heap.size) W ∧ Has w.heap.size (.deferred (some [])) X W)
      (fun c pre X W => Ix c pre (fun k => X k ∨ k = w.heap.size) W ∧ Has w.heap.size (.deferred (some [])) X W)
      (fun pre x a' X W => A pre x a' (fun k => X k ∨ k = w.heap.size) W ∧ Has w.heap.size (.deferred (some [])) X W)
      (fun pre => ((hI pre).within _).and (Has.frames _ _)) (fun c pre => ((hIx c pre).within _).and (Has.frames _ _)) (fun pre x a' => ((hA pre x a').within _).and (Has.frames _ _))
      (fun pre X W h => hC pre X W ((hI pre).less h.1 fun _ hk => .inl hk))
      (fun X pre x W K hl hb hi hp hK => hassign _ (fun k => X k ∨ k = w.heap.size) pre x W K (.inl hl) (fun k hk => hk.elim (hb k) (fun e => ⟨_, e ▸ hi.2.2, rfl⟩)) hi.1 hp fun a' W' hs hk ha =>
        hK a' W' hs (hk.mono fun _ h => .inl h) ⟨ha, hi.2.1, (hk _ (.inr rfl) (Has.lt hi.2)).trans hi.2.2⟩)
      (fun X pre x a' W hl hb hr ha hp => wpIn_mono (hbody _ (fun k => X k ∨ k = w.heap.size) pre x a' W (.inl hl) (fun k hk => hk.elim (hb k) (fun e => ⟨_, e ▸ ha.2.2, rfl⟩)) hr ha.1 hp) (by
        have hh : ∀ W3 : World, W.heap.size ≤ W3.heap.size → Kept (fun k => X k ∨ k = w.heap.size) W W3 → Has w.heap.size (.deferred (some [])) X W3 := fun W3 hs hk => ⟨ha.2.1, (hk _ (.inr rfl) (Has.lt ha.2)).trans ha.2.2⟩
        rintro e a3 W3 h3
        cases e with
        | normal => exact ⟨h3.1, h3.2.1.mono fun _ h => .inl h, h3.2.2, hh W3 h3.1 h3.2.1⟩
        | ret => exact ⟨h3.1, h3.2.1.mono fun _ h => .inl h, h3.2.2, hh W3 h3.1 h3.2.1⟩
        | exit id => exact ⟨h3.1, h3.2.1.mono fun _ h => .inl h, h3.2.2, hh W3 h3.1 h3.2.1⟩
        | goto t => exact ⟨h3.1, h3.2.1.mono fun _ h => .inl h, h3.2.2, hh W3 h3.1 h3.2.1⟩
        | panic ch => exact h3.elim
        | outgrown => exact h3.elim))
      hL1 ⟨hI1, by simp, hD1⟩ _ _ Q Fence.wide
      (fun W h => hdone _ W ((hI xs).less h.1 fun _ hk => .inr hk) h.2.2)
      (fun c pre W hp h => hstop _ c pre W hp ((hIx c pre).less h.1 fun _ hk => .inr hk) h.2.2)

/-- A range over a function that may be left by a break: what lies behind it is walked once. -/
theorem range_post (hit : Iter P gf lb encs xs C) (hg : a.eval g = .func (.func gf) #[] lb) (eg : ∀ args w, (callFunc gf args).run P w = .ok (.enter gf args) w) (hps : ∀ x, (encs x).size = ps.size)
    (I : List α → As) (Ix : Code → List α → As) (A : List α → α → Act → As) (hI : ∀ pre, Frames (I pre)) (hIx : ∀ c pre, Frames (Ix c pre)) (hA : ∀ pre x a, Frames (A pre x a))
    (hC : ∀ pre X W, I pre X W → C X W) (h0 : I [] no w) (id : Nat) (hQ : ∀ a w, Q .normal a w → Q (.exit id) a w) (Post : Nat → World → Prop)
    (hdone : ∀ (D : Nat) (W : World), I xs (· = D) W → W.heap[D]? = some (.deferred (some [])) → Post D W)
    (hstop : ∀ (D : Nat) (c : Code) (pre : List α) (W : World), pre <+: xs → Ix c pre (· = D) W → W.heap[D]? = some (.deferred (some [])) → c = .exit id ∧ Post D W)
    (hassign : ∀ (l : Nat) (X : Nat → Prop) (pre : List α) (x : α) (W : World) (K : Act → World → Prop), X l → XOk X W → I pre X W → (pre ++ [x]) <+: xs →
      (∀ a' W', W.heap.size ≤ W'.heap.size → Kept X W W' → A pre x a' X W' → K a' W') →
      assign.wpIn (Fence.wide.inRound l) n P (Exit.then K (fun _ _ _ => False)) { tmps := (ps.zip (encs x)).foldl (fun t (p, v) => t.setIfInBounds p v) a.tmps, defers := [] } W)
    (hbody : ∀ (l : Nat) (X : Nat → Prop) (pre : List α) (x : α) (a' : Act) (W : World), X l → XOk X W → (∃ r, W.heap[l]? = some (.loop r)) → A pre x a' X W → (pre ++ [x]) <+: xs →
      body.wpIn (Fence.wide.inRound l) n P (rPost X (I (pre ++ [x])) (fun c => Ix c (pre ++ [x])) W) a' W)
    (tail : ∀ (D : Nat) (W : World), Post D W → Q .normal { a with defers := { target := .collected D, args := #[] } :: a.defers } W) :
    (Code.rangeFunc g ps assign body).wpIn Fence.wide n P Q a w :=
  range_out hit hg eg hps I Ix A hI hIx hA hC h0 hassign hbody (fun D W hi hD => tail D W (hdone D W hi hD))
    (fun D c pre W hp hi hD => by
      obtain ⟨rfl, hP⟩ := hstop D c pre W hp hi hD
      exact wpIn_exit (hQ _ _ (tail D W hP)))

/-- A RANGE OVER A FUNCTION in a round of another one. -/
theorem range_in {l₀ : Nat} {r₀ : Loop} (hl₀ : w.heap[l₀]? = some (.loop r₀)) (hit : Iter P gf lb encs xs C) (hg : a.eval g = .func (.func gf) #[] lb) (eg : ∀ args w, (callFunc gf args).run P w = .ok (.enter gf args) w) (hps : ∀ x, (encs x).size = ps.size)
    (I : List α → As) (Ix : Code → List α → As) (A : List α → α → Act → As) (hI : ∀ pre, Frames (I pre)) (hIx : ∀ c pre, Frames (Ix c pre)) (hA : ∀ pre x a, Frames (A pre x a))
    (hC : ∀ pre X W, I pre X W → C X W) (h0 : I [] no w)
    (hassign : ∀ (l : Nat) (X : Nat → Prop) (pre : List α) (x : α) (W : World) (K : Act → World → Prop), X l → XOk X W → I pre X W → (pre ++ [x]) <+: xs →
      (∀ a' W', W.heap.size ≤ W'.heap.size → Kept X W W' → A pre x a' X W' → K a' W') →
      assign.wpIn (Fence.wide.inRound l) n P (Exit.then K (fun _ _ _ => False)) { tmps := (ps.zip (encs x)).foldl (fun t (p, v) => t.setIfInBounds p v) a.tmps, defers := [] } W)
    (hbody : ∀ (l : Nat) (X : Nat → Prop) (pre : List α) (x : α) (a' : Act) (W : World), X l → XOk X W → (∃ r, W.heap[l]? = some (.loop r)) → A pre x a' X W → (pre ++ [x]) <+: xs →
      body.wpIn (Fence.wide.inRound l) n P (rPost X (I (pre ++ [x])) (fun c => Ix c (pre ++ [x])) W) a' W)
    (hdone : ∀ (W : World), I xs no W → Q .normal a W)
    (hstop : ∀ (c : Code) (pre : List α) (W : World), pre <+: xs → Ix c pre no W → c.wpIn (Fence.wide.inRound l₀) n P Q a W) :
    (Code.rangeFunc g ps assign body).wpIn (Fence.wide.inRound l₀) n P Q a w := by
  refine wpIn_rangeFunc ?_
  intro fn _
  show ∃ (l : Nat) (mark : List Deferred) (w₁ : World) (d : Deferred) (w₁' : World) (f : FuncId) (args : Array Value) (w₂ : World), (Instr.enterLoop fn a.tmps ps assign body (some l₀)).run P w = .ok (l, mark) w₁ ∧ _
  obtain ⟨rec, hrec⟩ : ∃ rec : LoopState → Option Code → Loop, rec = fun st pe => { state := st, pending := pe, fn, tmps := a.tmps, params := ps, assign, body, defers := r₀.defers } := ⟨_, rfl⟩
  refine ⟨w.heap.size, [], w.alloc (.loop (rec .ready none)), { target := .fn (.func gf) lb, args := #[.func (.yield w.heap.size) #[] #[]] }, w.alloc (.loop (rec .ready none)), gf,
    #[.func (.yield w.heap.size) #[] #[]] ++ lb, w.alloc (.loop (rec .ready none)), ?_, ?_, fun _ _ => trivial, ?_, fun h => by simp [Fence.wide] at h, ?_⟩
  · rw [hrec]; exact run_enterLoop_inner hl₀ _ _ _ _ _
  · simp only [resolve, hg]
    simp [go_sem]
  · simp [invoke, go_sem, eg]
  · exact CallsIn.inRound l₀ (through rec hrec hit hps I Ix A hI hIx hA hC (hassign _) (hbody _) (World.alloc_heap_new w _)
      ((hI []).more h0 (Off.alloc _ _ _) (fun k hk => .inr (by omega))) _ _ Q (Fence.wide.inRound l₀)
      (fun W h => hdone W ((hI xs).less h fun _ hk => hk.elim)) (fun c pre W hp h => hstop c pre W hp ((hIx c pre).less h fun _ hk => hk.elim)))
end
end Go.Proofs.YtfmlcddakfbleaaGreatDoor
