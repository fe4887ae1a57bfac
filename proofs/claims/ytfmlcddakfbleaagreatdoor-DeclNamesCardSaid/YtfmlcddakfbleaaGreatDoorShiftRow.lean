/- Rows of cells: read, owned within frames, appended to within a fence. Over any program. -/
import Derived.Test.YtfmlcddakfbleaaGreatDoorShiftFrame
import Derived.Maps.AppendAt
import Derived.OwnWalkIn
import Derived.Deep.AppendLies
namespace Go.Proofs.YtfmlcddakfbleaaGreatDoor
open Go.RowKit

/-- cells that lie one behind the other below block B -/
def Rdc (w : World) (B : Nat) (A : Option Addr) (cs : List Value) : Prop :=
  0 < cs.length → ∃ b off, A = some ⟨b, off, none⟩ ∧ b < B ∧ ∀ (j : Nat) (u : Value), cs[j]? = some u → w.cell? ⟨b, off + j, none⟩ = some u

section
variable {w w' : World} {B B' : Nat} {A : Option Addr} {cs : List Value}
theorem Rdc.keep (h : Rdc w B A cs) (hk : ∀ p : Addr, p.block < B → w'.cell? p = w.cell? p) : Rdc w' B A cs := fun hn => by
  obtain ⟨b, off, e, hb, hc⟩ := h hn
  exact ⟨b, off, e, hb, fun j u hu => (hk ⟨b, off + j, none⟩ hb).trans (hc j u hu)⟩
theorem Rdc.more (h : Rdc w B A cs) (hB : B ≤ B') : Rdc w B' A cs := fun hn => by
  obtain ⟨b, off, e, hb, hc⟩ := h hn
  exact ⟨b, off, e, by omega, hc⟩
theorem Rdc.below (h : Rdc w B A cs) (hb : Below B w w') : Rdc w' B A cs := h.keep fun _ hp => hb.cell hp
theorem Rdc.after (h : Rdc w w.heap.size A cs) (hb : Below w.heap.size w w') : Rdc w' w'.heap.size A cs := (h.below hb).more hb.size
theorem Rdc.at_ (h : Rdc w B A cs) (hn : 0 < cs.length) : ∃ b off, A = some ⟨b, off, none⟩ ∧ b < B ∧ ∀ (j : Nat) (u : Value), cs[j]? = some u → w.cell? ⟨b, off + j, none⟩ = some u := h hn
end

section
variable {w w' : World} {base : Nat} {e : TypeId} {size : Nat} {v : Value} {n : Nat} {cs : List Value}
theorem own_read {A : Option Addr} {c : Nat} (h : w.ownsRow base e size (.slice A n c) n cs) : Rdc w w.heap.size A cs := fun hn => by
  rcases h.2 with ⟨hv, h0⟩ | ⟨g, cap, cur, hv, hb, hg, _, _, _, _⟩
  · have := h.1
    rw [h0] at this
    simp at this
    rw [this] at hn
    simp at hn
  · injection hv with hA hm hc
    subst hA
    have hc := World.ownsRow.cells h (g := g) rfl
    refine ⟨g, 0, rfl, (Array.getElem?_eq_some_iff.1 hg).1, fun j u hu => ?_⟩
    have := hc j u hu
    rwa [Addr.add_lit] at this
theorem own_slice (h : w.ownsRow base e size v n cs) : ∃ A c, v = .slice A n c := by
  rcases h.2 with ⟨hv, h0⟩ | ⟨g, cap, cur, hv, _⟩
  · exact ⟨none, 0, by rw [hv, h0]⟩
  · exact ⟨_, _, hv⟩
theorem own_below (h : w.ownsRow base e size v n cs) (hb : Below w.heap.size w w') : w'.ownsRow base e size v n cs :=
  World.ownsRow.kept h (row := none) ⟨hb.os, hb.tape, hb.output, hb.size, fun k hk _ => hb.block k hk⟩ (by cases hv : v.ownBlock <;> simp)
end

/-- a row of mine -/
def Row (base : Nat) (e : TypeId) (size : Nat) (v : Value) (n : Nat) (cs : List Value) : As := fun X W => W.ownsRow base e size v n cs ∧ ∀ k, v.ownBlock = some k → ¬ X k

theorem Row.frames (base : Nat) (e : TypeId) (size : Nat) (v : Value) (n : Nat) (cs : List Value) : Frames (Row base e size v n cs) := fun X X' W W' h ho hx => by
  obtain ⟨⟨h1, h2⟩, h3⟩ := h
  have hlt := World.ownsRow.lt ⟨h1, h2⟩
  refine ⟨⟨h1, ?_⟩, fun k hk hk' => (hx k hk').elim (h3 k hk) (fun hle => by have := (hlt k hk).2; omega)⟩
  rcases h2 with h2 | ⟨g, cap, cur, hv, hb, hg, r⟩
  · exact .inl h2
  · exact .inr ⟨g, cap, cur, hv, hb, (ho.block g (Array.getElem?_eq_some_iff.1 hg).1 (h3 g (by rw [hv]; rfl))).trans hg, r⟩

/-- an append within a fence, and where the new row lies -/
theorem wpListIn_append_at {F : Fence} {m0 : Nat} {P : Program} (w : World) {ops : Array Oper} {rest : List Oper} {o : Oper} {a : Act} {Q : Exit → Act → World → Prop}
    (hg : o.guard = none) (s x : Operand) (t : TypeId) (hop : o.op = Op.call { callee := Callee.builtin Builtin.append, args := #[s, x], argTypes := #[t, t] })
    (base : Nat) (e : TypeId) (z : Value) (size bytes : Nat) (h1 : P.underlying t = some (.slice e)) (hinfo : (P.info? e).map (fun i => (i.zero, i.size, i.bytes)) = some (some z, size, bytes)) (h6 : z.cells.size = size) (h7 : 0 < size)
    (v : Value) (k : Nat) (xs : List Value) (hs : a.eval s = v) (hown : w.ownsRow base e size v k xs) (b0 : Nat) (cs : Array Value) (hx : a.eval x = .slice (some ⟨b0, 0, none⟩) 1 1) (hblk : w.heap[b0]? = some (.cells cs e (0, 0))) (hn : cs.toList.length = 1 * size)
    (h1c : ∀ u ∈ cs.toList, u.oneCell' = true) (b1 : k + 1 ≤ maxLen) (b2 : (k + 1) * bytes ≤ 140737488355328) (b3 : base ≤ w.heap.size)
    (hK : ∀ v' w', w'.ownsRow base e size v' (k + 1) (xs ++ cs.toList) → w.grownBy w' v.ownBlock → (v'.ownBlock = v.ownBlock ∨ v'.ownBlock = some w.heap.size) → wpListIn F m0 P ops Q rest (a.put o.dst v') w') :
    wpListIn F m0 P ops Q (o :: rest) a w := by
  obtain ⟨i, h2, h3, h4, h5⟩ := info_parts hinfo
  obtain ⟨v', w', hrun, r1, r2, _, r4⟩ := run_append_own_at (P := P) w base t o.type e i z size bytes h1 h2 h3 h4 h5 h6 h7 v k xs hown ⟨b0, 0, none⟩ 1 1 cs.toList hn (World.news_of_block hblk) h1c b1 b2 b3
  refine wpListIn_plain hg fun K hK' => ?_
  unfold Oper.wpIn
  refine ⟨by simp [Oper.about, hop, resolve, Target.leads, Sem.run_pure], ?_⟩
  rw [Oper.semAt_plain F _ _ (by rw [hop]; intro c hc'; cases hc')]
  simp [execOp, hop, resolve, invoke, builtin, hs, hx, hrun, Result.andThen]
  exact hK' _ _ (hK v' w' r1 r2 r4)

/-- behind an append in a round -/
theorem Row.appended {X : Nat → Prop} {W V w' : World} {base : Nat} {e : TypeId} {size : Nat} {v v' : Value} {k n' : Nat} {cs cs' : List Value} (h : Row base e size v k cs X V) (hXb : XOk X W) (hs : W.heap.size ≤ V.heap.size)
    (hown : w'.ownsRow base e size v' n' cs') (hg : V.grownBy w' v.ownBlock) (hat : v'.ownBlock = v.ownBlock ∨ v'.ownBlock = some V.heap.size) : Row base e size v' n' cs' X w' ∧ Kept X V w' := by
  refine ⟨⟨hown, fun j hj hXj => ?_⟩, fun j hj hlt => hg.block j hlt (fun hh => h.2 j hh.symm hj)⟩
  rcases hat with hat | hat
  · exact h.2 j (hat ▸ hj) hXj
  · rw [hat] at hj
    injection hj with hj
    have := hXb.lt hXj
    omega

end Go.Proofs.YtfmlcddakfbleaaGreatDoor
