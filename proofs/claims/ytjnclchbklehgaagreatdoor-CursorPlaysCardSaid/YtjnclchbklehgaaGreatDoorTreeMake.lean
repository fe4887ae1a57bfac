/- tree.copied, tree.Make; alive. -/
import Derived.Test.YtjnclchbklehgaaGreatDoorTreeChange
import Derived.Test.YtjnclchbklehgaaGreatDoorTreeBuilder
namespace Go.Proofs.YtjnclchbklehgaaGreatDoor
open Go.RowKit TreeMath

theorem low_below {n : Nat} {w W W' : World} {X : Nat → Prop} (h : Low n w X W) (hb : Below W.heap.size W W') : Low n w X W' := (Low.frames n w).off h (Off.of_below hb)
theorem low_wth {n : Nat} {w W W' : World} {X : Nat → Prop} (h : Low n w X W') (hn : n ≤ W.heap.size) : Low n w (wth X W W') W' := ⟨h.1, h.2.1, fun k hk => hk.elim (h.2.2 k) fun h => Nat.le_trans hn h.1⟩

/-- what copied answers -/
def CpV (P : Tr) (w : World) (e : Ending) (w' : World) : Prop := ∃ U, e = .returned (nv U) ∧ pl U = P ∧ Tn (nw w.heap.size w') w' U ∧ Below w.heap.size w w'




def same1 (s : Unit) (x : Tr) : Tr × Unit := (x, s)
theorem cgs_map {f : Unit → Tr → Tr × Unit} (l : List Tr) (p : Tr → Tr) (h : ∀ x ∈ l, (cg f x ()).1 = p x) : (cgs f l ()).1 = l.map p := by
  induction l with
  | nil => rfl
  | cons x xs ih => rw [cgs_cons, List.map_cons]; simp only; rw [h x (by simp), ih (fun y hy => h y (by simp [hy]))]
theorem cg_same (T : Tr) : (cg same1 T ()).1 = pl T := by
  induction T using Tr.ind with | _ k g t a A c kids ih =>
  rw [cg_eq, pl_eq]
  by_cases hk : k = 1
  · rw [if_pos hk]; simp [same1, tok, cgs_map kids pl ih, hk]
  · rw [if_neg hk]; simp [cgs_map kids pl ih]











theorem CpV.after {P : Tr} {w W : World} {e : Ending} {w' : World} (h : CpV P W e w') (hb : Below w.heap.size w W) : CpV P w e w' := by
  obtain ⟨U, h1, h2, h3, h4⟩ := h
  exact ⟨U, h1, h2, h3.less hb.size, hb.trans (h4.mono hb.size)⟩



























































/-- the chapter's example -/
def exL : Tr := ⟨1, ⟨#[]⟩, ⟨#[33]⟩, 0, none, 0, []⟩
def exR : Tr := ⟨1, ⟨#[32]⟩, ⟨#[97]⟩, 2, none, 0, []⟩
def exI : Tr := ⟨28, ⟨#[]⟩, ⟨#[]⟩, 0, none, 0, [exR]⟩
def exN : Tr := ⟨21, ⟨#[]⟩, ⟨#[]⟩, 0, none, 0, [exL, exI]⟩
theorem ns_exL : ns exL = [exL] := by rw [ns_eq]; rfl
theorem ns_exR : ns exR = [exR] := by rw [ns_eq]; rfl
theorem ns_exI : ns exI = [exI, exR] := by rw [ns_eq]; simp [exI, ns_exR]
theorem ns_exN : ns exN = [exN, exL, exI, exR] := by rw [ns_eq]; simp [exN, ns_exL, ns_exI]
theorem rgt_exN : rgt exN = true := by unfold rgt; rw [ns_exN]; decide
theorem lf_exN : lf exN = [exL, exR] := by unfold lf; rw [ns_exN]; rfl
theorem tx_exN : tx (lf exN) = ⟨#[33, 32, 97]⟩ := by rw [lf_exN]; rfl
theorem stb_exN : stb 0 (lf exN) = true := by rw [lf_exN]; first | rfl | kernel_rfl | (simp [stb, exL, exR, wrap64]; done)
theorem wt_exI : wt exI = 2 := by unfold wt; rw [ns_exI]; decide
theorem wt_exN : wt exN = 4 := by unfold wt; rw [ns_exN]; decide
theorem stb_pl (l : List Tr) : ∀ p, stb p (l.map pl) = stb p l := by
  induction l with
  | nil => intro p; rfl
  | cons x xs ih => intro p; rw [List.map_cons, stb, stb, ih, pl_eq]
theorem lk_of {T U : Tr} (h : pl T = pl U) (hU : lk U) : lk T := fun x hx hk => by
  have h1 : (ns T).map pl = (ns U).map pl := by rw [← ns_pl, ← ns_pl, h]
  have h2 : pl x ∈ (ns U).map pl := by rw [← h1]; exact List.mem_map.2 ⟨x, hx, rfl⟩
  obtain ⟨y, hy, he⟩ := List.mem_map.1 h2
  rw [pl_eq, pl_eq x] at he
  simp only [Tr.mk.injEq] at he
  have := hU y hy (by rw [he.1, hk])
  rw [this] at he
  simpa using he.2.2.2.2.symm
end Go.Proofs.YtjnclchbklehgaaGreatDoor
