/- Patches that can be applied, plainly: file by file; the way back and the difference lead back and on. -/
import Derived.Test.YtfkpnfhhmldodaaFilesInvert
namespace Go.Proofs.Ytfkpnfhhmldodaa
open EditMath FilesMath

/-- patches that can be applied -/
structure Good (l : List Fl) (P : List PD) : Prop where
  right : Rgt l
  each : ∀ p ∈ P, ∃ q f, plc l p.1 = some q ∧ l[q]? = some f ∧ rt p.2 (f.t.size : Int) = true ∧ (f.t.size : Int) + gr p.2 ≤ 4000
  once : (P.map Prod.fst).Nodup

theorem nodup_at {α : Type} {l : List α} (h : l.Nodup) {i j : Nat} {a : α} (hij : i < j) (hi : l[i]? = some a) (hj : l[j]? = some a) : False := by
  obtain ⟨h1, e1⟩ := List.getElem?_eq_some_iff.1 hi
  obtain ⟨h2, e2⟩ := List.getElem?_eq_some_iff.1 hj
  exact (List.pairwise_iff_getElem.1 h i j h1 h2 hij) (e1.trans e2.symm)
theorem nodup_of {α : Type} {l : List α} (h : ∀ (i j : Nat) (a : α), i < j → l[i]? = some a → l[j]? = some a → False) : l.Nodup := by
  unfold List.Nodup
  rw [List.pairwise_iff_getElem]
  intro i j hi hj hij e
  exact h i j l[i] hij (List.getElem?_eq_getElem hi) (by rw [e]; exact List.getElem?_eq_getElem hj)

theorem prun_nodup {l : List Fl} {P : List PD} : ∀ (k : Nat), k ≤ P.length → (prun l (P.take k)).2.Nodup := by
  intro k
  induction k with
  | zero => intro _; simp [prun]
  | succ k ih =>
    intro hk
    obtain ⟨p, hp⟩ : ∃ p, P[k]? = some p := ⟨_, List.getElem?_eq_getElem (by omega)⟩
    rw [prun_snoc l hp]
    have h := ih (by omega)
    unfold pstep
    split
    · split
      · exact h
      · split
        · exact h
        · rename_i hm
          split
          · simp only
            rw [List.nodup_append]
            exact ⟨h, by simp, fun a ha b hb e => by simp at hb; subst hb; subst e; exact hm ha⟩
          · exact h
    · exact h

theorem good_of {l : List Fl} {P : List PD} (h : pbad l P = 0) : Good l P := by
  obtain ⟨hR, h0, hnb⟩ := pbad_zero h
  have hok := (prun_ok (l := l) (P := P) P.length (Nat.le_refl _) (by rw [List.take_length]; exact h0))
  have hnd := prun_nodup (l := l) (P := P) P.length (Nat.le_refl _)
  rw [List.take_length] at hok hnd
  refine ⟨rgt_iff.1 hR, fun p hp => ?_, ?_⟩
  · obtain ⟨i, hi⟩ := List.getElem?_of_mem hp
    obtain ⟨n, hn, hplc, hrt⟩ := hok.2 i p (List.getElem?_eq_some_iff.1 hi).1 hi
    obtain ⟨f, hf⟩ : ∃ f, l[n]? = some f := ⟨_, List.getElem?_eq_getElem (plc_lt hplc)⟩
    rw [tsz_at hf] at hrt
    refine ⟨n, f, hplc, hf, hrt, ?_⟩
    have : ¬ pbig l n p := fun hb => hnb ⟨i, n, p, hn, hi, hb⟩
    unfold pbig at this
    rw [tsz_at hf] at this
    omega
  · refine nodup_of fun i j a hij hi hj => ?_
    rw [List.getElem?_map, Option.map_eq_some_iff] at hi hj
    obtain ⟨p, hp, rfl⟩ := hi
    obtain ⟨p', hp', e⟩ := hj
    obtain ⟨n, hn, hp1, _⟩ := hok.2 i _ (List.getElem?_eq_some_iff.1 hp).1 hp
    obtain ⟨n', hn', hp2, _⟩ := hok.2 j _ (List.getElem?_eq_some_iff.1 hp').1 hp'
    rw [e, hp1] at hp2
    injection hp2 with hp2
    subst hp2
    exact nodup_at hnd hij hn hn'

theorem prun_good {l : List Fl} {P : List PD} (h : Good l P) : ∀ (k : Nat), k ≤ P.length → (prun l (P.take k)).1 = 0 := by
  intro k
  induction k with
  | zero => intro _; simp [prun]
  | succ k ih =>
    intro hk
    have h0 := ih (by omega)
    obtain ⟨p, hp⟩ : ∃ p, P[k]? = some p := ⟨_, List.getElem?_eq_getElem (by omega)⟩
    obtain ⟨q, f, hplc, hf, hrt, _⟩ := h.each p (List.mem_of_getElem? hp)
    obtain ⟨hl, hok⟩ := prun_ok (l := l) (P := P) k (by omega) h0
    rw [prun_snoc l hp]
    unfold pstep
    rw [if_pos h0, hplc]
    simp only
    rw [if_neg, tsz_at hf, if_pos hrt]
    intro hm
    obtain ⟨i, hi⟩ := List.getElem?_of_mem hm
    have hik : i < k := by have := (List.getElem?_eq_some_iff.1 hi).1; omega
    obtain ⟨p', hp'⟩ : ∃ p', P[i]? = some p' := ⟨_, List.getElem?_eq_getElem (by omega)⟩
    obtain ⟨n, hn, hpn, _⟩ := hok i p' hik hp'
    rw [hi] at hn
    injection hn with hn
    subst hn
    obtain ⟨f1, g1, e1⟩ := plc_some hplc
    obtain ⟨f2, g2, e2⟩ := plc_some hpn
    rw [g1] at g2
    injection g2 with g2
    subst g2
    exact nodup_at h.once hik (by rw [List.getElem?_map, hp']; rfl) (by rw [List.getElem?_map, hp]; show some p.1 = some p'.1; rw [← e1, ← e2])

theorem pbad_good {l : List Fl} {P : List PD} (h : Good l P) : pbad l P = 0 := by
  have h0 := prun_good h P.length (Nat.le_refl _)
  have hok := (prun_ok (l := l) (P := P) P.length (Nat.le_refl _) h0)
  rw [List.take_length] at h0 hok
  unfold pbad
  rw [if_pos (rgt_yes h.right), if_pos h0, if_neg]
  rintro ⟨i, n, p, hn, hp, hb⟩
  obtain ⟨q, f, hplc, hf, _, hs⟩ := h.each p (List.mem_of_getElem? hp)
  obtain ⟨n', hn', hp', _⟩ := hok.2 i p (List.getElem?_eq_some_iff.1 hp).1 hp
  rw [hn] at hn'
  injection hn' with hn'
  subst hn'
  rw [hplc] at hp'
  injection hp' with hp'
  subst hp'
  unfold pbig at hb
  rw [tsz_at hf] at hb
  omega

/-- a file's text behind patches -/
def newT (P : List PD) (f : Fl) : ByteArray := match P.find? (fun p => decide (p.1 = f.n)) with | some p => ⟨(ap f.t.data.toList 0 p.2).toArray⟩ | none => f.t

theorem find_name {P : List PD} (h : (P.map Prod.fst).Nodup) {p : PD} (hp : p ∈ P) : P.find? (fun x => decide (x.1 = p.1)) = some p := by
  induction P with
  | nil => cases hp
  | cons a P ih =>
    rw [List.map_cons, List.nodup_cons] at h
    rw [List.find?_cons]
    rcases List.mem_cons.1 hp with rfl | hm
    · simp
    · have hne : a.1 ≠ p.1 := fun e => h.1 (by rw [e]; exact List.mem_map_of_mem hm)
      rw [decide_eq_false hne]
      exact ih h.2 hm
theorem find_none {P : List PD} {n : ByteArray} (h : ∀ p ∈ P, p.1 ≠ n) : P.find? (fun x => decide (x.1 = n)) = none := by
  rw [List.find?_eq_none]; intro x hx; simpa using h x hx

theorem apS_at {l : List Fl} {P : List PD} (h : Good l P) {i : Nat} {f : Fl} (hf : l[i]? = some f) : ∀ (j : Nat), j ≤ P.length → (apS l (prun l P).2 P j)[i]? = some ⟨f.n, newT (P.take j) f⟩ := by
  have h0 := prun_good h P.length (Nat.le_refl _)
  have hok := (prun_ok (l := l) (P := P) P.length (Nat.le_refl _) h0)
  rw [List.take_length] at hok
  intro j
  induction j with
  | zero => intro _; rw [apS_zero]; simpa [newT] using hf
  | succ j ih =>
    intro hj
    have ih := ih (by omega)
    obtain ⟨p, hp⟩ : ∃ p, P[j]? = some p := ⟨_, List.getElem?_eq_getElem (by omega)⟩
    obtain ⟨n, hn, hplc, _⟩ := hok.2 j p (by omega) hp
    obtain ⟨f', hf', hfn⟩ := plc_some hplc
    have hT : P.take (j + 1) = P.take j ++ [p] := by rw [List.take_add_one, hp]; rfl
    rw [apS_succ hn hp]
    unfold put1
    rw [hf']
    simp only
    rw [List.getElem?_set]
    by_cases e : n = i
    · subst e
      rw [hf] at hf'
      injection hf' with hf'
      subst hf'
      have hlt := (List.getElem?_eq_some_iff.1 ih).1
      rw [if_pos rfl, if_pos hlt]
      have hnone : (P.take j).find? (fun x => decide (x.1 = f.n)) = none := find_none (fun x hx e => by
        obtain ⟨k, hk⟩ := List.getElem?_of_mem hx
        have hkj : k < j := by have := (List.getElem?_eq_some_iff.1 hk).1; simp at this; omega
        rw [List.getElem?_take, if_pos hkj] at hk
        exact nodup_at h.once hkj (by rw [List.getElem?_map, hk]; rfl) (by rw [List.getElem?_map, hp]; show some p.1 = some x.1; rw [e, hfn]))
      unfold newT
      rw [hT, List.find?_append, hnone, Option.none_or, List.find?_cons, decide_eq_true hfn.symm]
    · rw [if_neg e, ih]
      have hne : p.1 ≠ f.n := fun q => by
        rw [q, h.right.place hf] at hplc
        injection hplc with hplc
        exact e hplc.symm
      unfold newT
      rw [hT, List.find?_append, List.find?_cons, decide_eq_false hne]
      simp

theorem apL_length {l : List Fl} {P : List PD} (h : Good l P) : (apL l P).length = l.length := by
  unfold apL; rw [if_pos (pbad_good h), apS_length]
theorem apL_at {l : List Fl} {P : List PD} (h : Good l P) {i : Nat} {f : Fl} (hf : l[i]? = some f) : (apL l P)[i]? = some ⟨f.n, newT P f⟩ := by
  have := apS_at h hf P.length (Nat.le_refl _)
  rw [List.take_length] at this
  unfold apL; rw [if_pos (pbad_good h)]; exact this

/-- two lists of files with the same names -/
theorem plc_names {l k : List Fl} (h : l.map Fl.n = k.map Fl.n) (n : ByteArray) : plc l n = plc k n := by
  have e : ∀ l : List Fl, plc l n = (l.map Fl.n).findIdx? (fun x => decide (x = n)) := fun l => by unfold plc; rw [List.findIdx?_map]; rfl
  rw [e, e, h]
theorem apL_names {l : List Fl} {P : List PD} (h : Good l P) : (apL l P).map Fl.n = l.map Fl.n := by
  apply List.ext_getElem?
  intro i
  rw [List.getElem?_map, List.getElem?_map]
  cases hf : l[i]? with
  | none =>
    rw [List.getElem?_eq_none (by rw [apL_length h]; exact List.getElem?_eq_none_iff.1 hf)]
  | some f => rw [apL_at h hf]; rfl

theorem newT_size {l : List Fl} {P : List PD} (h : Good l P) {i : Nat} {f : Fl} (hf : l[i]? = some f) : (newT P f).size ≤ 4000 := by
  unfold newT
  split
  · rename_i p hp
    have hm := List.mem_of_find?_eq_some hp
    have hn : p.1 = f.n := by have := List.find?_some hp; simpa using this
    obtain ⟨q, f', hplc, hf', hrt, hs⟩ := h.each p hm
    rw [hn, h.right.place hf] at hplc
    injection hplc with hplc
    subst hplc
    rw [hf] at hf'
    injection hf' with hf'
    subst hf'
    have := ap_size f.t hrt
    show (ap f.t.data.toList 0 p.2).toArray.size ≤ 4000
    rw [List.size_toArray]
    omega
  · exact (h.right.2.2 i f hf).2.1

/-- the new workspace is right -/
theorem apL_right {l : List Fl} {P : List PD} (h : Good l P) : Rgt (apL l P) := by
  refine ⟨by rw [apL_length h]; exact h.right.1, by rw [apL_length h]; exact h.right.2.1, fun i g hg => ?_⟩
  have hi : i < l.length := by have := (List.getElem?_eq_some_iff.1 hg).1; rwa [apL_length h] at this
  obtain ⟨f, hf⟩ : ∃ f, l[i]? = some f := ⟨_, List.getElem?_eq_getElem hi⟩
  rw [apL_at h hf] at hg
  injection hg with hg
  subst hg
  have ho := h.right.2.2 i f hf
  refine ⟨ho.1, newT_size h hf, ?_⟩
  show plc ((apL l P).take i) f.n = none
  rw [plc_names (k := l.take i) (by rw [List.map_take, List.map_take, apL_names h])]
  exact ho.2.2

theorem toArr (s : ByteArray) : (⟨s.data.toList.toArray⟩ : ByteArray) = s := by obtain ⟨⟨d⟩⟩ := s; rfl

/-- what a file is behind a patch of it -/
theorem newT_hit {l : List Fl} {P : List PD} (h : Good l P) {p : PD} (hp : p ∈ P) {f : Fl} (hn : f.n = p.1) : newT P f = ⟨(ap f.t.data.toList 0 p.2).toArray⟩ := by
  unfold newT; rw [hn, find_name h.once hp]

theorem bkP_names (l : List Fl) (P : List PD) : (P.map (bkP l)).map Prod.fst = P.map Prod.fst := by rw [List.map_map]; rfl

/-- the patches back can be applied to the new workspace -/
theorem back_good {l : List Fl} {P : List PD} (h : Good l P) : Good (apL l P) (P.map (bkP l)) := by
  refine ⟨apL_right h, fun p' hp' => ?_, by rw [bkP_names]; exact h.once⟩
  obtain ⟨p, hp, rfl⟩ := List.mem_map.1 hp'
  obtain ⟨q, f, hplc, hf, hrt, hs⟩ := h.each p hp
  obtain ⟨f', hf', hn⟩ := plc_some hplc
  rw [hf] at hf'
  injection hf' with hf'
  subst hf'
  have ht := txtOf_at hplc hf
  have hsz := ap_size f.t hrt
  have hback := bkL_back f.t hrt
  have hr2 := bkL_right f.t hrt
  have hT := newT_hit h hp hn
  have hlen : ((newT P f).size : Int) = f.t.size + gr p.2 := by
    rw [hT]; show ((ap f.t.data.toList 0 p.2).toArray.size : Int) = _; rw [List.size_toArray]; exact hsz
  refine ⟨q, ⟨f.n, newT P f⟩, by rw [plc_names (apL_names h)]; exact hplc, apL_at h hf, ?_, ?_⟩
  · show rt (bkL (txtOf l p.1) p.2) ((newT P f).size : Int) = true
    rw [ht, hlen]; exact hr2
  · show ((newT P f).size : Int) + gr (bkL (txtOf l p.1) p.2) ≤ 4000
    rw [ht]
    have h1 := ap_size (newT P f) (l := bkL f.t p.2) (by rw [hlen]; exact hr2)
    have h2 : (newT P f).data.toList = ap f.t.data.toList 0 p.2 := by rw [hT]
    rw [h2, hback] at h1
    have h3 : f.t.data.toList.length = f.t.size := rfl
    have h4 := (h.right.2.2 q f hf).2.1
    omega

/-- they lead back -/
theorem back_leads {l : List Fl} {P : List PD} (h : Good l P) : apL (apL l P) (P.map (bkP l)) = l := by
  have hg := back_good h
  apply List.ext_getElem?
  intro i
  cases hf : l[i]? with
  | none => exact List.getElem?_eq_none (by rw [apL_length hg, apL_length h]; exact List.getElem?_eq_none_iff.1 hf)
  | some f =>
    rw [apL_at hg (apL_at h hf)]
    congr 1
    obtain ⟨fn, ft⟩ := f
    show (⟨fn, newT (P.map (bkP l)) ⟨fn, newT P ⟨fn, ft⟩⟩⟩ : Fl) = ⟨fn, ft⟩
    congr 1
    by_cases hx : ∃ p ∈ P, p.1 = fn
    · obtain ⟨p, hp, hn⟩ := hx
      obtain ⟨q, f', hplc, hf', hrt, hs⟩ := h.each p hp
      have hpl := h.right.place hf
      simp only at hpl
      rw [hn, hpl] at hplc
      injection hplc with hplc
      subst hplc
      rw [hf] at hf'
      injection hf' with hf'
      subst hf'
      have ht : txtOf l p.1 = ft := by rw [hn]; exact txtOf_at hpl hf
      rw [newT_hit hg (p := bkP l p) (List.mem_map_of_mem hp) (f := ⟨fn, newT P ⟨fn, ft⟩⟩) hn.symm, newT_hit h hp (f := ⟨fn, ft⟩) hn.symm]
      show (⟨(ap (ap ft.data.toList 0 p.2) 0 (bkL (txtOf l p.1) p.2)).toArray⟩ : ByteArray) = ft
      rw [ht, bkL_back ft hrt, toArr]
    · have h1 : P.find? (fun x => decide (x.1 = fn)) = none := find_none fun p hp e => hx ⟨p, hp, e⟩
      have h2 : (P.map (bkP l)).find? (fun x => decide (x.1 = fn)) = none := find_none fun p hp e => by
        obtain ⟨p', hp', rfl⟩ := List.mem_map.1 hp
        exact hx ⟨p', hp', e⟩
      unfold newT
      simp only [h1, h2]

/-- the names of a right workspace -/
theorem names_nodup {l : List Fl} (h : Rgt l) : (l.map Fl.n).Nodup := nodup_of fun i j a hij hi hj => by
  rw [List.getElem?_map, Option.map_eq_some_iff] at hi hj
  obtain ⟨f, hf, rfl⟩ := hi
  obtain ⟨g, hg, e⟩ := hj
  have h1 := h.place hf
  have h2 := h.place hg
  rw [e, h1] at h2
  injection h2 with h2
  omega

theorem dfE_right (a b : ByteArray) : rt [dfE a b] (a.size : Int) = true := by
  obtain ⟨f1, f2⟩ := dfF_le a b
  obtain ⟨m1, m2⟩ := dfM_le a b
  refine rt_mk (by omega) (fun i e he => ?_) (fun i x y hx hy => ?_)
  · cases i with
    | zero => simp at he; subst he; show (0 : Int) ≤ (dfF a b : Int) ∧ (dfF a b : Int) ≤ (a.size : Int) - dfM a b ∧ (a.size : Int) - dfM a b ≤ a.size; omega
    | succ i => simp at he
  · simp at hy
theorem dfE_gr (a b : ByteArray) : (a.size : Int) + gr [dfE a b] = b.size := by
  have h1 := ap_size a (dfE_right a b)
  rw [ap_diff] at h1
  have h2 : b.data.toList.length = b.size := rfl
  omega
theorem dfE_tx (a b : ByteArray) : tx [dfE a b] ≤ b.size := by
  show ((b.extract (dfF a b) (b.size - dfM a b)).size : Int) + 0 ≤ b.size
  rw [ByteArray.size_extract]; omega

/-- what a difference is made of -/
theorem dfs_mem {a b : List Fl} {p : PD} (h : p ∈ dfs a b) : ∃ (i : Nat) (f g : Fl), a[i]? = some f ∧ b[i]? = some g ∧ f.t ≠ g.t ∧ p = (f.n, [dfE f.t g.t]) := by
  unfold dfs at h
  obtain ⟨x, hx, rfl⟩ := List.mem_map.1 h
  obtain ⟨hm, hne⟩ := List.mem_filter.1 hx
  obtain ⟨i, hi⟩ := List.getElem?_of_mem hm
  rw [List.getElem?_zip_eq_some] at hi
  exact ⟨i, x.1, x.2, hi.1, hi.2, of_decide_eq_true hne, rfl⟩
theorem dfs_has {a b : List Fl} {i : Nat} {f g : Fl} (hf : a[i]? = some f) (hg : b[i]? = some g) (hne : f.t ≠ g.t) : (f.n, [dfE f.t g.t]) ∈ dfs a b := by
  unfold dfs
  refine List.mem_map.2 ⟨(f, g), List.mem_filter.2 ⟨?_, decide_eq_true hne⟩, rfl⟩
  exact List.mem_of_getElem? (i := i) (List.getElem?_zip_eq_some.2 ⟨hf, hg⟩)
theorem zip_names : ∀ (a b : List Fl), ((a.zip b).map fun x => x.1.n).Sublist (a.map Fl.n)
  | [], _ => by simp
  | _ :: _, [] => by simp
  | x :: a, y :: b => by simp only [List.zip_cons_cons, List.map_cons]; exact (zip_names a b).cons_cons _
theorem dfs_names (a b : List Fl) : ((dfs a b).map Prod.fst).Sublist (a.map Fl.n) := by
  unfold dfs
  rw [List.map_map]
  exact List.Sublist.trans (List.Sublist.map _ List.filter_sublist) (zip_names a b)

/-- the difference to a right workspace with the same names -/
theorem diff_good {a b : List Fl} (ha : Rgt a) (hb : Rgt b) : Good a (dfs a b) := by
  refine ⟨ha, fun p hp => ?_, List.Nodup.sublist (dfs_names a b) (names_nodup ha)⟩
  obtain ⟨i, f, g, hf, hg, _, rfl⟩ := dfs_mem hp
  refine ⟨i, f, ha.place hf, hf, dfE_right _ _, ?_⟩
  rw [dfE_gr]
  have := (hb.2.2 i g hg).2.1
  omega
theorem diff_leads {a b : List Fl} (ha : Rgt a) (hb : Rgt b) (hn : a.map Fl.n = b.map Fl.n) : apL a (dfs a b) = b := by
  have hgd := diff_good ha hb
  have hlen : a.length = b.length := by have := congrArg List.length hn; simpa using this
  apply List.ext_getElem?
  intro i
  cases hf : a[i]? with
  | none =>
    have hi := List.getElem?_eq_none_iff.1 hf
    rw [List.getElem?_eq_none (by rw [apL_length hgd]; exact hi), List.getElem?_eq_none (by omega)]
  | some f =>
    have hi := (List.getElem?_eq_some_iff.1 hf).1
    obtain ⟨g, hg⟩ : ∃ g, b[i]? = some g := ⟨_, List.getElem?_eq_getElem (by omega)⟩
    have hfg : f.n = g.n := by
      have := congrArg (·[i]?) hn
      simp only [List.getElem?_map, hf, hg, Option.map_some, Option.some.injEq] at this
      exact this
    rw [apL_at hgd hf, hg]
    congr 1
    obtain ⟨gn, gt⟩ := g
    simp only at hfg
    rw [hfg]
    congr 1
    by_cases hne : f.t = gt
    · have : (dfs a b).find? (fun x => decide (x.1 = f.n)) = none := find_none fun p hp e => by
        obtain ⟨j, f2, g2, hf2, hg2, hne2, rfl⟩ := dfs_mem hp
        have h1 := ha.place hf
        have h2 := ha.place hf2
        simp only at e
        rw [e, h1] at h2
        injection h2 with h2
        subst h2
        rw [hf] at hf2
        rw [hg] at hg2
        injection hf2 with hf2
        injection hg2 with hg2
        subst hf2
        subst hg2
        exact hne2 hne
      unfold newT
      rw [this]
      exact hne
    · rw [newT_hit hgd (dfs_has hf hg hne) rfl, ap_diff, toArr]

theorem sameN_of {a b : List Fl} (hn : a.map Fl.n = b.map Fl.n) : sameN a b = true := sameN_yes ⟨by have := congrArg List.length hn; simpa using this, fun i x y hx hy => by
  have := congrArg (·[i]?) hn
  simp only [List.getElem?_map, hx, hy, Option.map_some, Option.some.injEq] at this
  exact this⟩

/-- sizes -/
theorem tot_right : ∀ (l : List Fl), (∀ f ∈ l, f.n.size ≤ 40 ∧ f.t.size ≤ 4000) → tot l ≤ 4040 * l.length
  | [], _ => by simp [tot]
  | f :: l, h => by
    have h1 := h f (by simp)
    have h2 := tot_right l (fun x hx => h x (by simp [hx]))
    simp only [tot, List.length_cons]
    omega
theorem rgt_tot {l : List Fl} (h : Rgt l) : tot l ≤ 50000 := by
  have := tot_right l (fun f hf => by
    obtain ⟨i, hi⟩ := List.getElem?_of_mem hf
    have := h.2.2 i f hi
    exact ⟨(title_parts this.1).2.1, this.2.1⟩)
  have := h.2.1
  omega
theorem ptot_small : ∀ (m : List Pt), (∀ p ∈ m.map pd, p.1.size ≤ 40 ∧ tx p.2 ≤ 4000) → ptot m ≤ 4040 * m.length
  | [], _ => by simp [ptot]
  | p :: m, h => by
    have h1 := h (p.n, p.l) (by simp [pd])
    have h2 := ptot_small m (fun x hx => h x (by simp only [List.map_cons, List.mem_cons]; exact .inr hx))
    simp only [ptot, List.length_cons]
    simp only at h1
    omega
theorem good_length {l : List Fl} {P : List PD} (h : Good l P) : P.length ≤ 8 := by
  have hs : P.map Prod.fst ⊆ l.map Fl.n := fun x hx => by
    obtain ⟨p, hp, rfl⟩ := List.mem_map.1 hx
    obtain ⟨q, f, hplc, _⟩ := h.each p hp
    obtain ⟨f', hf', hn⟩ := plc_some hplc
    exact List.mem_map.2 ⟨f', List.mem_of_getElem? hf', hn⟩
  have := h.once.length_le_of_subset hs
  have := h.right.2.1
  simp at *
  omega
theorem good_name {l : List Fl} {P : List PD} (h : Good l P) {p : PD} (hp : p ∈ P) : p.1.size ≤ 40 := by
  obtain ⟨q, f, hplc, _⟩ := h.each p hp
  obtain ⟨f', hf', hn⟩ := plc_some hplc
  rw [← hn]
  exact (title_parts (h.right.2.2 q f' hf').1).2.1
theorem good_ptot {l : List Fl} {m : List Pt} (h : Good l (m.map pd)) (ht : ∀ p ∈ m.map pd, tx p.2 ≤ 4000) : ptot m ≤ 50000 ∧ m.length ≤ 30 := by
  have h1 := good_length h
  rw [List.length_map] at h1
  have h2 := ptot_small m (fun p hp => ⟨good_name h hp, ht p hp⟩)
  omega
end Go.Proofs.Ytfkpnfhhmldodaa
