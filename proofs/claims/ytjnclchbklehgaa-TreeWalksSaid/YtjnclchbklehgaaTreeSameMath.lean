/- Changed leaves do not hang on where a tree lies; what the law TreePlaces compares at its end. -/
import Derived.Test.YtjnclchbklehgaaTreePlaceMath
namespace Go.Proofs.Ytjnclchbklehgaa
open Go.RowKit TreeMath

theorem cgs_pl {σ : Type} (f : σ → Tr → Tr × σ) {l : List Tr} (h : ∀ x ∈ l, ∀ s, cg f (pl x) s = cg f x s) : ∀ s, cgs f (l.map pl) s = cgs f l s := by
  induction l with
  | nil => intro s; rfl
  | cons x xs ih => intro s; rw [List.map_cons, cgs_cons, cgs_cons, h x (by simp), ih (fun y hy => h y (by simp [hy]))]
theorem cg_pl {σ : Type} (f : σ → Tr → Tr × σ) (T : Tr) : ∀ s, cg f (pl T) s = cg f T s := by
  induction T using Tr.ind with | _ k g t a A c kids ih =>
  intro s
  rw [pl_eq]
  rw [cg_eq f ⟨k, g, t, a, none, 0, kids.map pl⟩, cg_eq f ⟨k, g, t, a, A, c, kids⟩]
  simp only [tok, cgs_pl f ih]
theorem cg_same_of {σ : Type} (f : σ → Tr → Tr × σ) {T U : Tr} (h : pl U = pl T) (s : σ) : cg f U s = cg f T s := by rw [← cg_pl, h, cg_pl]
/-- all lists of a changed tree are plain -/
theorem pl_cgs {σ : Type} (f : σ → Tr → Tr × σ) {l : List Tr} (h : ∀ x ∈ l, ∀ s, pl (cg f x s).1 = (cg f x s).1) : ∀ s, (cgs f l s).1.map pl = (cgs f l s).1 := by
  induction l with
  | nil => intro s; rfl
  | cons x xs ih => intro s; rw [cgs_cons, List.map_cons, h x (by simp), ih (fun y hy => h y (by simp [hy]))]
theorem pl_cg {σ : Type} (f : σ → Tr → Tr × σ) (T : Tr) : ∀ s, pl (cg f T s).1 = (cg f T s).1 := by
  induction T using Tr.ind with | _ k g t a A c kids ih =>
  intro s
  rw [cg_eq]
  split
  · rw [pl_eq]; simp only [pl_cgs f ih]
  · rw [pl_eq]; simp only [pl_cgs f ih]
/-- two trees that read as the same plain one are the same -/
theorem sm_of {T U P : Tr} (h : pl T = P) (k : pl U = P) : sm T U = true := (sm_iff T U).2 (h.trans k.symm)
theorem sm_pls {T U T' U' : Tr} (h : pl T = pl T') (k : pl U = pl U') : sm T U = sm T' U' := by
  rw [Bool.eq_iff_iff, sm_iff, sm_iff, h, k]
end Go.Proofs.Ytjnclchbklehgaa
