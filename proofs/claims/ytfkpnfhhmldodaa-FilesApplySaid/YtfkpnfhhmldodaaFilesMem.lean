/- A slice of files in memory that reads as a list, and a slice of patches. -/
import Derived.Test.YtfkpnfhhmldodaaEditMem
import Derived.Test.YtfkpnfhhmldodaaEditSmall
import Derived.Test.YtfkpnfhhmldodaaFilesMath
namespace Go.Proofs.Ytfkpnfhhmldodaa
open Go.RowKit EditMath FilesMath

abbrev flv (f : Fl) : Value := .agg #[.string f.n, .string f.t]

/-- a slice of files that reads as l and lies below block B -/
def Fls (w : World) (B : Nat) (A : Option Addr) (l : List Fl) : Prop :=
  0 < l.length → ∃ b off, A = some ⟨b, off, none⟩ ∧ b < B ∧ ∀ (i : Nat) (e : Fl), l[i]? = some e →
    w.cell? ⟨b, off + i * 2, none⟩ = some (.string e.n) ∧ w.cell? ⟨b, off + i * 2 + 1, none⟩ = some (.string e.t)

section
variable {w w' : World} {B B' : Nat} {A : Option Addr} {l : List Fl}
theorem Fls.none_ : Fls w B A [] := fun h => absurd h (by simp)
theorem Fls.at_ {k : Nat} {e : Fl} (h : Fls w B A l) (hk : l[k]? = some e) : ∃ b off, A = some ⟨b, off, none⟩ ∧ b < B ∧
    w.cell? ⟨b, off + k * 2, none⟩ = some (.string e.n) ∧ w.cell? ⟨b, off + k * 2 + 1, none⟩ = some (.string e.t) := by
  have hl := (List.getElem?_eq_some_iff.1 hk).1
  obtain ⟨b, off, e, hb, hc⟩ := h (by omega)
  exact ⟨b, off, e, hb, hc k _ hk⟩
theorem Fls.keep (h : Fls w B A l) (hk : ∀ p : Addr, p.block < B → w'.cell? p = w.cell? p) : Fls w' B A l := fun hn => by
  obtain ⟨b, off, e, hb, hc⟩ := h hn
  refine ⟨b, off, e, hb, fun i d hd => ?_⟩
  obtain ⟨c0, c1⟩ := hc i d hd
  exact ⟨(hk _ hb).trans c0, (hk _ hb).trans c1⟩
theorem Fls.more (h : Fls w B A l) (hB : B ≤ B') : Fls w B' A l := fun hn => by
  obtain ⟨b, off, e, hb, hc⟩ := h hn
  exact ⟨b, off, e, by omega, hc⟩
theorem Fls.below (h : Fls w B A l) (hb : Below B w w') : Fls w' B A l := h.keep fun _ hp => hb.cell hp
theorem Fls.after (h : Fls w w.heap.size A l) (hb : Below w.heap.size w w') : Fls w' w'.heap.size A l := (h.below hb).more hb.size
theorem Fls.alloc (h : Fls w B A l) (hB : B ≤ w.heap.size) (o : Obj) : Fls (w.alloc o) B A l := h.keep fun p hp => World.cell?_alloc_lt w o p (by omega)
theorem Fls.take (h : Fls w B A l) (k : Nat) : Fls w B A (l.take k) := fun hn => by
  rw [List.length_take] at hn
  obtain ⟨b, off, e, hb, hc⟩ := h (by omega)
  exact ⟨b, off, e, hb, fun i d hd => hc i d (take_get hd).1⟩
end

/-- a patch: its file's name, and its edits where they lie -/
structure Pt where
  n : ByteArray
  A : Option Addr
  c : Nat
  l : List Ed
abbrev ptv (p : Pt) : Value := .agg #[.string p.n, .slice p.A p.l.length p.c]
/-- a patch's edits can be read -/
def PtOk (w : World) (B : Nat) (p : Pt) : Prop := Eds w B p.A p.l ∧ p.l.length ≤ p.c ∧ (p.A = none → p.c = 0)
/-- a slice of patches that reads as l and lies below block B -/
def Pts (w : World) (B : Nat) (A : Option Addr) (l : List Pt) : Prop :=
  (0 < l.length → ∃ b off, A = some ⟨b, off, none⟩ ∧ b < B ∧ ∀ (i : Nat) (e : Pt), l[i]? = some e →
    w.cell? ⟨b, off + i * 2, none⟩ = some (.string e.n) ∧ w.cell? ⟨b, off + i * 2 + 1, none⟩ = some (.slice e.A e.l.length e.c)) ∧
  ∀ (i : Nat) (e : Pt), l[i]? = some e → PtOk w B e
section
variable {w w' : World} {B B' : Nat} {A : Option Addr} {l : List Pt}
theorem Pts.none_ : Pts w B A [] := ⟨fun h => absurd h (by simp), fun i e h => by simp at h⟩
theorem Pts.at_ {k : Nat} {e : Pt} (h : Pts w B A l) (hk : l[k]? = some e) : ∃ b off, A = some ⟨b, off, none⟩ ∧ b < B ∧
    w.cell? ⟨b, off + k * 2, none⟩ = some (.string e.n) ∧ w.cell? ⟨b, off + k * 2 + 1, none⟩ = some (.slice e.A e.l.length e.c) ∧ Eds w B e.A e.l ∧ e.l.length ≤ e.c ∧ (e.A = none → e.c = 0) := by
  have hl := (List.getElem?_eq_some_iff.1 hk).1
  obtain ⟨b, off, e, hb, hc⟩ := h.1 (by omega)
  exact ⟨b, off, e, hb, (hc k _ hk).1, (hc k _ hk).2, h.2 k _ hk⟩
theorem Pts.keep (h : Pts w B A l) (hk : ∀ p : Addr, p.block < B → w'.cell? p = w.cell? p) : Pts w' B A l := by
  refine ⟨fun hn => ?_, fun i e he => ⟨(h.2 i e he).1.keep hk, (h.2 i e he).2⟩⟩
  obtain ⟨b, off, e, hb, hc⟩ := h.1 hn
  refine ⟨b, off, e, hb, fun i d hd => ?_⟩
  obtain ⟨c0, c1⟩ := hc i d hd
  exact ⟨(hk _ hb).trans c0, (hk _ hb).trans c1⟩
theorem Pts.more (h : Pts w B A l) (hB : B ≤ B') : Pts w B' A l := by
  refine ⟨fun hn => ?_, fun i e he => ⟨(h.2 i e he).1.more hB, (h.2 i e he).2⟩⟩
  obtain ⟨b, off, e, hb, hc⟩ := h.1 hn
  exact ⟨b, off, e, by omega, hc⟩
theorem Pts.below (h : Pts w B A l) (hb : Below B w w') : Pts w' B A l := h.keep fun _ hp => hb.cell hp
theorem Pts.after (h : Pts w w.heap.size A l) (hb : Below w.heap.size w w') : Pts w' w'.heap.size A l := (h.below hb).more hb.size
theorem Pts.alloc (h : Pts w B A l) (hB : B ≤ w.heap.size) (o : Obj) : Pts (w.alloc o) B A l := h.keep fun p hp => World.cell?_alloc_lt w o p (by omega)
end

end Go.Proofs.Ytfkpnfhhmldodaa
