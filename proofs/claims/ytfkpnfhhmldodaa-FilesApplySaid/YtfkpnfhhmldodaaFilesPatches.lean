/- Rows of numbers that a call owns; Index and Contains of numbers. -/
import Derived.Test.YtfkpnfhhmldodaaFilesOwn
import Derived.Test.YtfkpnfhhmldodaaEditApply
import Derived.Test.YtfkpnfhhmldodaaFilesMath
import Derived.Test.YtfkpnfhhmldodaaFilesMore
import Derived.Test.YtfkpnfhhmldodaaFilesMany
import Derived.Test.YtfkpnfhhmldodaaFilesDiff
import Derived.StillTailTactics
import Derived.Test.YtfkpnfhhmldodaaFilesCopy
import Derived.Deep.RegionHeld3
import Derived.Test.YtfkpnfhhmldodaaEditRefApply
namespace Go.Proofs.Ytfkpnfhhmldodaa
open Go.RowKit EditMath FilesMath

theorem info_int4 : (Try.prog.info? 3).map (fun i => (i.zero, i.size, i.bytes)) = some (some (.int .i64 0), 1, 8) := by kernel_rfl
def ncells4 (l : List Nat) : List Value := l.map fun (n : Nat) => Value.int .i64 (n : Int)
/-- a slice of numbers that reads as l -/
def Nts (w : World) (B : Nat) (A : Option Addr) (l : List Nat) : Prop :=
  0 < l.length → ∃ b off, A = some ⟨b, off, none⟩ ∧ b < B ∧ ∀ (i n : Nat), l[i]? = some n → w.cell? ⟨b, off + i, none⟩ = some (.int .i64 (n : Int))
theorem Nts.at_ {w : World} {B : Nat} {A : Option Addr} {l : List Nat} {k n : Nat} (h : Nts w B A l) (hk : l[k]? = some n) : ∃ b off, A = some ⟨b, off, none⟩ ∧ b < B ∧ w.cell? ⟨b, off + k, none⟩ = some (.int .i64 (n : Int)) := by
  have hl := (List.getElem?_eq_some_iff.1 hk).1
  obtain ⟨b, off, e, hb, hc⟩ := h (by omega)
  exact ⟨b, off, e, hb, hc k _ hk⟩
theorem Nts.below {w w' : World} {B : Nat} {A : Option Addr} {l : List Nat} (h : Nts w B A l) (hb : Below B w w') : Nts w' B A l := fun hn => by
  obtain ⟨b, off, e, hlt, hc⟩ := h hn
  exact ⟨b, off, e, hlt, fun i n hi => (hb.cell hlt).trans (hc i n hi)⟩
theorem Nts.after {w w' : World} {A : Option Addr} {l : List Nat} (h : Nts w w.heap.size A l) (hb : Below w.heap.size w w') : Nts w' w'.heap.size A l := fun hn => by
  obtain ⟨b, off, e, hlt, hc⟩ := h.below hb hn
  exact ⟨b, off, e, Nat.lt_of_lt_of_le hlt hb.size, hc⟩

def OwnN4 (w : World) (base : Nat) (A : Option Addr) (c : Nat) (m : List Nat) : Prop := w.ownsRow base 3 1 (.slice A m.length c) m.length (ncells4 m)
theorem OwnN4.nil (w : World) (base : Nat) : OwnN4 w base none 0 [] := World.ownsRow_nil _ _ _ _
theorem OwnN4.form {w : World} {base : Nat} {v : Value} {n : Nat} {m : List Nat} (h : w.ownsRow base 3 1 v n (ncells4 m)) : ∃ A c, v = .slice A m.length c ∧ n = m.length ∧ OwnN4 w base A c m := by
  have hn : n = m.length := by have := h.1; simp [ncells4] at this; omega
  subst hn
  rcases h.2 with ⟨hv, hn⟩ | ⟨g, cap, cur, hv, _⟩
  · exact ⟨none, 0, by rw [hv, hn], rfl, by unfold OwnN4; rw [hn]; rw [hv, hn] at h; exact h⟩
  · exact ⟨some ⟨g, 0, none⟩, cap, hv, rfl, by unfold OwnN4; rw [hv] at h; exact h⟩
theorem OwnN4.nts {w : World} {base c : Nat} {A : Option Addr} {m : List Nat} (h : OwnN4 w base A c m) : Nts w w.heap.size A m := by
  intro hn
  rcases h.2 with ⟨hv, h0⟩ | ⟨g, cap, cur, hv, hb, hg, _, _, _, _⟩
  · omega
  · injection hv with hA hm hc
    subst hA
    have hc := World.ownsRow.cells h (g := g) rfl
    refine ⟨g, 0, rfl, (Array.getElem?_eq_some_iff.1 hg).1, fun i n hi => ?_⟩
    have hadd : ∀ n, (⟨g, 0, none⟩ : Addr).add n = ⟨g, 0 + n, none⟩ := fun n => Addr.add_lit _ _ _
    have k1 := hc i (.int .i64 (n : Int)) (by simp [ncells4, hi])
    rw [hadd] at k1
    exact k1
theorem OwnN4.alloc {w : World} {base c : Nat} {A : Option Addr} {m : List Nat} (h : OwnN4 w base A c m) (o : Obj) : OwnN4 (w.alloc o) base A c m := World.ownsRow.alloc h o
theorem OwnN4.lt {w : World} {base c : Nat} {A : Option Addr} {m : List Nat} (h : OwnN4 w base A c m) : ∀ k, (Value.slice A m.length c).ownBlock = some k → base ≤ k ∧ k < w.heap.size := World.ownsRow.lt h
theorem OwnN4.below {w w' : World} {base c : Nat} {A : Option Addr} {m : List Nat} (h : OwnN4 w base A c m) (hb : Below w.heap.size w w') : OwnN4 w' base A c m :=
  World.ownsRow.kept h (row := none) ⟨hb.os, hb.tape, hb.output, hb.size, fun k hk _ => hb.block k hk⟩ (by cases hv : (Value.slice A m.length c).ownBlock <;> simp)
theorem OwnN4.belowApp {w W w' : World} {B base : Nat} {A : Option Addr} {c : Nat} {m : List Nat} (hown : OwnN4 W base A c m) (hB : Below B w W) (hg : W.grownBy w' (Value.slice A m.length c).ownBlock) (hb : B ≤ base) (hW : B ≤ W.heap.size) : Below B w w' :=
  hB.grown hg hW (fun k e => by have := (hown.lt k e).1; omega)

/-- one number appended -/
theorem wpList_append_OwnN4 {ops : Array Oper} {rest : List Oper} {o : Oper} {a : Act} {Q : Exit → Act → World → Prop} (hgd : o.guard = none) (s x : Operand)
    (ho : o.op = .call { callee := .builtin .append, args := #[s, x], argTypes := #[94, 94] }) (V : World) (base : Nat) (A : Option Addr) (c : Nat) (m : List Nat) (n X : Nat)
    (hs : a.eval s = .slice A m.length c) (hx : a.eval x = .slice (some ⟨X, 0, none⟩) 1 1) (hblk : V.heap[X]? = some (.cells #[.int .i64 (n : Int)] 3 (0, 0))) (hown : OwnN4 V base A c m) (hn : m.length ≤ 20000) (hbase : base ≤ V.heap.size)
    (h : ∀ A' c' w', OwnN4 w' base A' c' (m ++ [n]) → V.grownBy w' (Value.slice A m.length c).ownBlock → wpList Try.prog ops Q rest (a.put o.dst (.slice A' (m ++ [n]).length c')) w') :
    wpList Try.prog ops Q (o :: rest) a V := by
  obtain ⟨i0, hi, hz0, hz1, hz2⟩ := info_parts info_int4
  refine wpList_append_own _ hgd s x 94 ho base 3 i0 _ 1 8 Try.underlying94 hi hz0 hz1 hz2 rfl (by decide) _ _ _ hs hown ⟨X, 0, none⟩ 1 1 [.int .i64 (n : Int)] hx rfl (World.news_of_block (cs := #[.int .i64 (n : Int)]) hblk) (by intro u hu; simp at hu; rw [hu]; rfl) (by unfold maxLen; omega) (by omega) hbase ?_
  intro v' w' hown' hgrow _
  have he : ncells4 m ++ [.int .i64 (n : Int)] = ncells4 (m ++ [n]) := by simp [ncells4]
  rw [he] at hown'
  obtain ⟨A', c', rfl, _, ho'⟩ := OwnN4.form hown'
  exact h A' c' w' ho' hgrow

/-- where a number stands: -1 if it isn't there -/
def ixI (l : List Nat) (n : Nat) : Int := match l.findIdx? (fun x => decide (x = n)) with | some i => (i : Int) | none => -1
theorem ixI_hit {l : List Nat} {n k : Nat} (he : l[k]? = some n) (h : ∀ (i x : Nat), i < k → l[i]? = some x → x ≠ n) : ixI l n = k := by
  unfold ixI
  obtain ⟨hk, hx⟩ := List.getElem?_eq_some_iff.1 he
  have : l.findIdx? (fun x => decide (x = n)) = some k := by
    rw [List.findIdx?_eq_some_iff_getElem]
    exact ⟨hk, by rw [hx]; simp, fun j hj => by simpa using h j l[j] hj (List.getElem?_eq_getElem (by omega))⟩
  rw [this]
theorem ixI_miss {l : List Nat} {n : Nat} (h : ∀ (i x : Nat), l[i]? = some x → x ≠ n) : ixI l n = -1 := by
  unfold ixI
  have : l.findIdx? (fun x => decide (x = n)) = none := by
    rw [List.findIdx?_eq_none_iff]
    intro x hx
    obtain ⟨i, hi⟩ := List.getElem?_of_mem hx
    simpa using h i x hi
  rw [this]
theorem ixI_mem (l : List Nat) (n : Nat) : decide (0 ≤ ixI l n) = decide (n ∈ l) := by
  unfold ixI
  cases h : l.findIdx? (fun x => decide (x = n)) with
  | none =>
    rw [List.findIdx?_eq_none_iff] at h
    have : n ∉ l := fun hm => by have := h n hm; simp at this
    simp [this]
  | some i =>
    obtain ⟨hi, hp, _⟩ := List.findIdx?_eq_some_iff_getElem.1 h
    have hx : l[i] = n := by simpa using hp
    have : n ∈ l := by rw [← hx]; exact List.getElem_mem hi
    simp [this]

set_option maxHeartbeats 1000000 in
theorem indexI_any (A : Option Addr) (c : Nat) (l : List Nat) (n : Nat) (w : World) (hl : l.length ≤ 100) (hr : Nts w w.heap.size A l) :
    Calls Try.prog 82 #[.slice A l.length c, .int .i64 (n : Int)] w fun e w' => e = .returned (.int .i64 (ixI l n)) ∧ w = w' := by
  go_enter Try.func82, Try.ntmps82
  go_wp2
  go_loopw [5, 8] (fun _ i wr => ∃ k : Nat, k ≤ l.length ∧ i = .int .i64 k ∧ w = wr ∧ Hid (∀ (i x : Nat), i < k → l[i]? = some x → x ≠ n)) (fun _ i _ => l.length - (intOf i).toNat)
  case atStart => exact ⟨0, Nat.zero_le _, rfl, rfl, Lib.hid (fun i x hi _ => absurd hi (Nat.not_lt_zero _))⟩
  case round =>
    obtain ⟨k, hk, rfl, rfl, HN⟩ := hrel
    by_cases hlt : k < l.length
    · have he : l[k]? = some l[k] := List.getElem?_eq_getElem hlt
      generalize l[k] = x at he
      obtain ⟨b, off, rfl, hb, c0⟩ := hr.at_ he
      have HE := Lib.hid he
      clear he
      have z0 : (0 : Int) ≤ k := by omega
      have z1 : (k : Int) < l.length := by omega
      by_cases hq : x = n
      · subst hq
        have d0 : ((x : Int) == x) = true := by simp
        go_wp2
        go_ret
        exact ⟨ret_int (ixI_hit HE.out HN.out).symm, rfl⟩
      · have d0 : ((n : Int) == x) = false := by rw [beqd]; exact decide_eq_false (by omega)
        have d1 : ((x : Int) == n) = false := by rw [beqd]; exact decide_eq_false (by omega)
        have HQ := Lib.hid hq
        clear hq
        go_wp2
        go_roundw
        case rel =>
          refine ⟨k + 1, by omega, by go_num, by first | trivial | rfl, Lib.hid (fun i y hi hy => ?_)⟩
          by_cases e : i = k
          · subst e; rw [HE.out] at hy; injection hy with hy; subst hy; exact HQ.out
          · exact HN.out i y (by omega) hy
        case measure => simp [intOf]; omega
    · obtain rfl : k = l.length := by omega
      go_wp2
      go_ret
      exact ⟨ret_int (ixI_miss fun i x hx => HN.out i x (List.getElem?_eq_some_iff.1 hx).1 hx).symm, rfl⟩

set_option maxHeartbeats 400000 in
theorem containsI_any (A : Option Addr) (c : Nat) (l : List Nat) (n : Nat) (w : World) (hl : l.length ≤ 100) (hr : Nts w w.heap.size A l) :
    Calls Try.prog 104 #[.slice A l.length c, .int .i64 (n : Int)] w fun e w' => e = .returned (.bool (decide (n ∈ l))) ∧ w = w' := by
  have HC := Lib.hid (indexI_any A c l n w hl hr)
  clear hr
  have HI := Lib.hid (ixI_mem l n)
  generalize ixI l n = r at HI HC
  generalize decide (n ∈ l) = q at HI ⊢
  go_enter Try.func104, Try.ntmps104
  go_wp2_with fail
  refine HC.out.mono ?_
  rintro e w1 ⟨rfl, rfl⟩
  go_wp2
  go_ret
  exact ⟨ret_bool HI.out, rfl⟩
end Go.Proofs.Ytfkpnfhhmldodaa

namespace Go.Proofs.Ytfkpnfhhmldodaa
open EditMath FilesMath

abbrev PD := ByteArray × List Ed
/-- the size of a file's text, by its number -/
def tsz (l : List Fl) (i : Nat) : Int := match l[i]? with | some f => (f.t.size : Int) | none => 0
theorem tsz_at {l : List Fl} {i : Nat} {f : Fl} (h : l[i]? = some f) : tsz l i = f.t.size := by unfold tsz; rw [h]
/-- one patch looked at: the error so far, the numbers so far -/
def pstep (l : List Fl) (st : Int × List Nat) (p : PD) : Int × List Nat :=
  if st.1 = 0 then (match plc l p.1 with
    | none => (5, st.2)
    | some i => if i ∈ st.2 then (6, st.2) else if rt p.2 (tsz l i) = true then (0, st.2 ++ [i]) else (2, st.2)) else st
def prun (l : List Fl) (P : List PD) : Int × List Nat := P.foldl (pstep l) (0, [])
theorem prun_snoc (l : List Fl) {P : List PD} {k : Nat} {p : PD} (h : P[k]? = some p) : prun l (P.take (k + 1)) = pstep l (prun l (P.take k)) p := by
  unfold prun
  rw [List.take_add_one, h, List.foldl_append]
  rfl
theorem pstep_stuck {l : List Fl} {st : Int × List Nat} {p : PD} (h : st.1 ≠ 0) : pstep l st p = st := by unfold pstep; rw [if_neg h]
theorem fold_stuck {l : List Fl} (Q : List PD) {st : Int × List Nat} (h : st.1 ≠ 0) : Q.foldl (pstep l) st = st := by
  induction Q with
  | nil => rfl
  | cons p Q ih => rw [List.foldl_cons, pstep_stuck h]; exact ih
theorem prun_stuck {l : List Fl} {P : List PD} (k : Nat) (h : (prun l (P.take k)).1 ≠ 0) : prun l P = prun l (P.take k) := by
  have : prun l P = (P.drop k).foldl (pstep l) (prun l (P.take k)) := by
    unfold prun
    rw [← List.foldl_append, List.take_append_drop]
  rw [this, fold_stuck _ h]
/-- what is known of the patches looked at without an error -/
theorem prun_ok {l : List Fl} {P : List PD} : ∀ (k : Nat), k ≤ P.length → (prun l (P.take k)).1 = 0 → (prun l (P.take k)).2.length = k ∧
    ∀ (i : Nat) (p : PD), i < k → P[i]? = some p → ∃ n, (prun l (P.take k)).2[i]? = some n ∧ plc l p.1 = some n ∧ rt p.2 (tsz l n) = true := by
  intro k
  induction k with
  | zero => intro _ _; exact ⟨by simp [prun], fun i p hi => absurd hi (Nat.not_lt_zero _)⟩
  | succ k ih =>
    intro hk h0
    obtain ⟨p, hp⟩ : ∃ p, P[k]? = some p := ⟨_, List.getElem?_eq_getElem (by omega)⟩
    have hs := prun_snoc l hp
    by_cases h1 : (prun l (P.take k)).1 = 0
    · obtain ⟨hl, hall⟩ := ih (by omega) h1
      rw [hs] at h0 ⊢
      unfold pstep at h0 ⊢
      rw [if_pos h1] at h0 ⊢
      cases hplc : plc l p.1 with
      | none => rw [hplc] at h0; simp at h0
      | some n =>
        rw [hplc] at h0
        simp only at h0 ⊢
        by_cases hm : n ∈ (prun l (P.take k)).2
        · rw [if_pos hm] at h0; simp at h0
        · rw [if_neg hm] at h0 ⊢
          by_cases hr : rt p.2 (tsz l n) = true
          · rw [if_pos hr]
            simp only
            refine ⟨by simp [hl], fun i q hi hq => ?_⟩
            by_cases hik : i < k
            · obtain ⟨n', a1, a2, a3⟩ := hall i q hik hq
              exact ⟨n', by rw [List.getElem?_append_left (by omega)]; exact a1, a2, a3⟩
            · have : i = k := by omega
              subst this
              rw [hp] at hq
              injection hq with hq
              subst hq
              exact ⟨n, by rw [List.getElem?_append_right (by omega), hl]; simp, hplc, hr⟩
          · rw [if_neg hr] at h0; simp at h0
    · rw [hs, pstep_stuck h1] at h0
      exact absurd h0 h1

/-- would a text be too large? -/
def pbig (l : List Fl) (n : Nat) (p : PD) : Prop := 4000 < tsz l n + gr p.2
def Pbig (l : List Fl) (P : List PD) : Prop := ∃ (i n : Nat) (p : PD), (prun l P).2[i]? = some n ∧ P[i]? = some p ∧ pbig l n p
open Classical in
/-- what stands against patches of a workspace: an error's number -/
noncomputable def pbad (l : List Fl) (P : List PD) : Int := if rgt l = true then (if (prun l P).1 = 0 then (if Pbig l P then 4 else 0) else (prun l P).1) else 2
end Go.Proofs.Ytfkpnfhhmldodaa

namespace Go.Proofs.Ytfkpnfhhmldodaa
open Go.RowKit EditMath FilesMath

set_option maxHeartbeats 1000000 in
theorem tooLarge_any (A : Option Addr) (c : Nat) (l : List Ed) (size : Int) (hR : rt l size = true) (hsz : size ≤ 50000) (htx : tx l ≤ 50000) (w : World) (hl : l.length ≤ 10000) (hr : Eds w w.heap.size A l) :
    Calls Try.prog 105 #[.int .i64 size, .slice A l.length c] w fun e w' => e = .returned (.bool (decide (4000 < size + gr l))) ∧ Below w.heap.size w w' := by
  have h0 := (rt_parts hR).1
  obtain ⟨g1, g2, _⟩ := gr_bounds hR
  have t0 := tx_nonneg l
  have HG := Lib.hid (grow_any A c l size (by omega) (by omega) w hl hr)
  unfold growV at HG
  rw [if_pos hR] at HG
  clear hR
  generalize gr l = g at *
  go_enter Try.func105, Try.ntmps105
  go_wp2_with fail
  refine HG.out.mono ?_
  rintro e w1 ⟨rfl, hb1⟩
  go_wp2
  all_goals go_ret
  all_goals exact ⟨rfl, hb1⟩

/-- what patched answers -/
def PchV (nums : List Nat) (n : Int) (w : World) (e : Ending) (w' : World) : Prop := ∃ A c, e = .returned (.tuple #[.slice A nums.length c, er n]) ∧ Nts w' w'.heap.size A nums ∧ Below w.heap.size w w'
theorem PchV.bad {w w' : World} {n : Int} (hn : n ≠ 0) (hb : Below w.heap.size w w') : PchV [] n w (.returned (.tuple #[.slice none 0 0, errn n])) w' := ⟨none, 0, by unfold er; rw [if_neg hn]; rfl, fun h => by simp at h, hb⟩

def PaI (w : World) (l : List Fl) (m : List Pt) (v i : Value) (wr : World) : Prop :=
  ∃ (k : Nat) (A' : Option Addr) (c' : Nat) (nums : List Nat), k ≤ m.length ∧ i = .int .i64 (k : Int) ∧ v = .slice A' nums.length c' ∧ Below w.heap.size w wr ∧ OwnN4 wr w.heap.size A' c' nums ∧ nums.length = k ∧ prun l ((m.map pd).take k) = (0, nums)

theorem map_at {m : List Pt} {k : Nat} {p : Pt} (h : m[k]? = some p) : (m.map pd)[k]? = some (p.n, p.l) := by rw [List.getElem?_map, h]; rfl

set_option maxRecDepth 100000 in
set_option maxHeartbeats 4000000 in
theorem patched_any (A A2 : Option Addr) (c c2 : Nat) (l : List Fl) (m : List Pt) (w : World) (hl : l.length ≤ 30) (hc : l.length ≤ c) (ht : tot l ≤ 50000) (hlm : m.length ≤ 30) (hpt : ptot m ≤ 50000) (hpl : ∀ (i : Nat) (p : Pt), m[i]? = some p → p.l.length ≤ 10000)
    (hr : Fls w w.heap.size A l) (hr2 : Pts w w.heap.size A2 m) :
    Calls Try.prog 74 #[.slice A l.length c, .slice A2 m.length c2] w (PchV (if pbad l (m.map pd) = 0 then (prun l (m.map pd)).2 else []) (pbad l (m.map pd)) w) := by
  have HR := Lib.hid (right4_any A c l w hl hc (sizes_of ht) hr)
  have HNO := fun (n : ByteArray) (W : World) (h : Below w.heap.size w W) => Lib.hid (numberOf_any A c l n W hl (hr.after h))
  have HPL := Lib.hid hpl
  have HPT := Lib.hid (fun (i : Nat) (p : Pt) (h : m[i]? = some p) => Int.le_trans (ptot_at h) hpt)
  have HZ := Lib.hid (sizes_of ht)
  have HFR := Lib.hid hr
  have HPR := Lib.hid hr2
  clear hpl hpt ht hr hr2
  cases hR : rgt l with
  | false =>
    have hb : pbad l (m.map pd) = 2 := by unfold pbad; rw [if_neg (by simp [hR])]
    rw [hb, if_neg (by decide)]
    rw [hR] at HR
    clear hR hb
    go_enter Try.func74, Try.ntmps74
    go_wp2_with fail
    refine HR.out.mono ?_
    rintro e w1 ⟨rfl, hb1⟩
    go_wp2
    go_ret2
    exact PchV.bad (by decide) hb1
  | true =>
    rw [hR] at HR
    have HB : Hid (∀ n, n ≠ 0 → (prun l (m.map pd)).1 = n → pbad l (m.map pd) = n) := Lib.hid (by
      intro n hn h
      unfold pbad
      rw [if_pos hR, if_neg (by rw [h]; exact hn), h])
    have HB4 : Hid ((prun l (m.map pd)).1 = 0 → Pbig l (m.map pd) → pbad l (m.map pd) = 4) := Lib.hid (by
      intro h h2
      unfold pbad
      rw [if_pos hR, if_pos h, if_pos h2])
    have HB0 : Hid ((prun l (m.map pd)).1 = 0 → ¬ Pbig l (m.map pd) → pbad l (m.map pd) = 0) := Lib.hid (by
      intro h h2
      unfold pbad
      rw [if_pos hR, if_pos h, if_neg h2])
    clear hR
    have hfin : ∀ (W : World) (e : Ending) (n : Int), pbad l (m.map pd) = n → n ≠ 0 → PchV [] n w e W → PchV (if pbad l (m.map pd) = 0 then (prun l (m.map pd)).2 else []) (pbad l (m.map pd)) w e W := by
      intro W e n h1 h2 h3
      rw [h1, if_neg h2]
      exact h3
    have HFIN := Lib.hid hfin
    have HGO : Hid (∀ (W : World) (e : Ending), pbad l (m.map pd) = 0 → PchV (prun l (m.map pd)).2 0 w e W → PchV (if pbad l (m.map pd) = 0 then (prun l (m.map pd)).2 else []) (pbad l (m.map pd)) w e W) := Lib.hid (fun W e h1 h2 => by rw [h1, if_pos rfl]; exact h2)
    clear hfin
    generalize (if pbad l (m.map pd) = 0 then (prun l (m.map pd)).2 else []) = RN at *
    generalize hRB : pbad l (m.map pd) = RB at *
    have HRB := Lib.hid hRB
    clear hRB
    go_enter Try.func74, Try.ntmps74
    go_wp2_with fail
    refine HR.out.mono ?_
    rintro e w1 ⟨rfl, hb1⟩
    clear HR
    go_wp2
    go_loopw [6, 8, 9, 18] (fun v _ _ i wr => PaI w l m v i wr) (fun _ _ _ i _ => m.length - (intOf i).toNat)
    case atStart => exact ⟨0, none, 0, [], Nat.zero_le _, rfl, rfl, hb1, OwnN4.nil _ _, rfl, rfl⟩
    case round =>
      obtain ⟨k, A', c', nums, hk, rfl, rfl, hB, hown, hnl, hpr⟩ := hrel
      have HPRN := Lib.hid hpr
      have HO := Lib.hid hown
      have hnle : nums.length ≤ 30 := by omega
      have HNL := Lib.hid hnl
      clear hpr hown hnl
      by_cases hlt : k < m.length
      · have he : m[k]? = some m[k] := List.getElem?_eq_getElem hlt
        generalize m[k] = p at he
        obtain ⟨pn, pA, pc, pl⟩ := p
        have hpl := HPL.out k _ he
        obtain ⟨b, off, rfl, hb, c0, c1, hE, _, _⟩ := (HPR.out.below hB).at_ he
        have HE := Lib.hid (map_at he)
        have HST := Lib.hid (prun_snoc l (map_at he))
        have HSK := Lib.hid (fun (n : Int) (hn : n ≠ 0) (h : (prun l ((m.map pd).take (k + 1))).1 = n) => HB.out n hn (by rw [prun_stuck (k + 1) (by rw [h]; exact hn)]; exact h))
        simp only at hpl c0 c1 hE HE HST
        clear he
        have z0 : (0 : Int) ≤ k := by omega
        have z1 : (k : Int) < m.length := by omega
        have hB1 : Below wr.heap.size wr (wr.alloc (.cells #[.string pn, .slice pA pl.length pc] 122)) := below1 _ _
        have hBw := hB.trans (hB1.mono hB.size)
        have HO1 := Lib.hid (HO.out.below hB1)
        have HE1 := Lib.hid ((hE.more hB.size).after hB1)
        have hx0 : (wr.alloc (.cells #[.string pn, .slice pA pl.length pc] 122)).heap[wr.heap.size]? = some (.cells #[.string pn, .slice pA pl.length pc] 122 (0, 0)) := heap_alloc_new wr _
        have HX0 := Lib.hid hx0
        clear hx0 hE HO
        have hHN := HNO pn _ hBw
        rcases plcI_cases l pn with ⟨hp, hpi⟩ | ⟨q, hp, hpi, hq⟩
        · rw [hpi] at hHN
          have HX : Hid (prun l ((m.map pd).take (k + 1)) = (5, nums)) := Lib.hid (by rw [HST.out, HPRN.out]; unfold pstep; rw [if_pos rfl, hp])
          clear hp hpi
          go_wp2_with fail
          refine hHN.out.mono ?_
          rintro r w2 ⟨rfl, hb2⟩
          go_wp2
          go_ret2
          exact HFIN.out _ _ 5 (HSK.out 5 (by decide) (by rw [HX.out])) (by decide) (PchV.bad (by decide) (hBw.trans (hb2.mono hBw.size)))
        · rw [hpi] at hHN
          have z2 : decide ((q : Int) < 0) = false := decide_eq_false (by omega)
          go_wp2_with fail
          refine hHN.out.mono ?_
          rintro r w2 ⟨rfl, hb2⟩
          have hB2 := hBw.trans (hb2.mono hBw.size)
          have HO2 := Lib.hid (HO1.out.below hb2)
          have HE2 := Lib.hid (HE1.out.after hb2)
          have hx2 : w2.heap[wr.heap.size]? = some (.cells #[.string pn, .slice pA pl.length pc] 122 (0, 0)) := (hb2.block wr.heap.size (by simp)).trans HX0.out
          have y0 : w2.cell? ⟨wr.heap.size, 0, none⟩ = some (.string pn) := by rw [Lib.cell_of_heap hx2]; rfl
          have y1 : w2.cell? ⟨wr.heap.size, 1, none⟩ = some (.slice pA pl.length pc) := by rw [Lib.cell_of_heap hx2]; rfl
          clear hx2 hb2 HO1 HE1 HX0
          have HCN := Lib.hid (containsI_any A' c' nums q w2 (by omega) HO2.out.nts)
          by_cases hmem : q ∈ nums
          · rw [decide_eq_true hmem] at HCN
            have HX : Hid (prun l ((m.map pd).take (k + 1)) = (6, nums)) := Lib.hid (by rw [HST.out, HPRN.out]; unfold pstep; rw [if_pos rfl, hp]; simp only; rw [if_pos hmem])
            clear hp hpi hmem
            go_wp2_with fail
            refine HCN.out.mono ?_
            rintro r w3 ⟨rfl, rfl⟩
            go_wp2
            go_ret2
            exact HFIN.out _ _ 6 (HSK.out 6 (by decide) (by rw [HX.out])) (by decide) (PchV.bad (by decide) hB2)
          · rw [decide_eq_false hmem] at HCN
            obtain ⟨f, hf⟩ : ∃ f, l[q]? = some f := ⟨_, List.getElem?_eq_getElem hq⟩
            have hfs := (HZ.out q f hf).2
            have hts := tsz_at hf
            obtain ⟨bb, off2, hA, hbb, g0, g1⟩ := (HFR.out.below hB2).at_ hf
            subst hA
            have z3 : (0 : Int) ≤ q := by omega
            have z4 : (q : Int) < l.length := by omega
            have HRT := fun (W : World) h => Lib.hid (right_any pA pc pl (f.t.size : Int) W (by omega) h)
            have HX : Hid (prun l ((m.map pd).take (k + 1)) = if rt pl (f.t.size : Int) = true then (0, nums ++ [q]) else (2, nums)) := Lib.hid (by rw [HST.out, HPRN.out]; unfold pstep; rw [if_pos rfl, hp]; simp only; rw [if_neg hmem, hts])
            clear hp hpi hmem hf hts
            have hdr : Below w2.heap.size w2 w2.drew := ⟨rfl, rfl, rfl, Nat.le_refl _, fun _ _ => rfl⟩
            cases hrt : rt pl (f.t.size : Int) with
            | false =>
              rw [hrt] at HRT HX
              clear hrt
              go_wp2_with fail
              refine HCN.out.mono ?_
              rintro r w3 ⟨rfl, rfl⟩
              go_wp2
              go_still_tail 8, (by kernel_rfl)
              change wpList _ _ _ _ _ w2.drew
              go_wp2_with fail
              refine (HRT _ (HE2.out.after hdr)).out.mono ?_
              rintro r w4 ⟨rfl, hb4⟩
              go_wp2
              go_ret2
              exact HFIN.out _ _ 2 (HSK.out 2 (by decide) (by rw [HX.out]; rfl)) (by decide) (PchV.bad (by decide) (hB2.trans ((hdr.trans hb4).mono hB2.size)))
            | true =>
              rw [hrt] at HRT HX
              clear hrt
              go_wp2_with fail
              refine HCN.out.mono ?_
              rintro r w3 ⟨rfl, rfl⟩
              go_wp2
              go_still_tail 8, (by kernel_rfl)
              change wpList _ _ _ _ _ w2.drew
              go_wp2_with fail
              refine (HRT _ (HE2.out.after hdr)).out.mono ?_
              rintro r w4 ⟨rfl, hb4⟩
              have hB4 := hB2.trans ((hdr.trans hb4).mono hB2.size)
              have HO4 := Lib.hid (HO2.out.below (hdr.trans hb4))
              clear hb4 hdr HO2 HE2
              go_wp2_with (at_builtin; refine wpList_append_OwnN4 (by rfl) _ _ (by rfl) _ w.heap.size A' c' nums q w4.heap.size (by rfl) (by rfl) (heap_alloc_new w4 _) (HO4.out.alloc _) (by omega) (by have := hB4.size; simp; omega) ?_; intro A5 c5 w5 hown5 hgrow5)
              have hB5 : Below w.heap.size w w5 := (HO4.out.alloc _).belowApp (hB4.trans ((below1 w4 _).mono hB4.size)) hgrow5 (Nat.le_refl _) (by have := hB4.size; simp; omega)
              have HO5 := Lib.hid hown5
              clear hown5 hgrow5
              go_roundw
              case rel => exact ⟨k + 1, A5, c5, nums ++ [q], by omega, by go_num, by simp, hB5, HO5.out, by simp [HNL.out], by rw [HX.out]; rfl⟩
              case measure => simp [intOf]; omega
      · obtain rfl : k = m.length := by omega
        have hpf : prun l (m.map pd) = (0, nums) := by have := HPRN.out; rwa [List.take_of_length_le (by simp)] at this
        have hok := prun_ok (l := l) (P := m.map pd) m.length (by simp) (by rw [HPRN.out])
        rw [HPRN.out] at hok
        have HOK := Lib.hid hok.2
        have HPF := Lib.hid hpf
        clear hok hpf HPRN
        have HNT := Lib.hid HO.out.nts
        have hB0 := hB
        clear hB
        go_wp2
        generalize hW1 : wr = W1 at *
        clear hW1
        go_loopw [10, 11, 54] (fun _ _ i wr => ∃ j : Nat, j ≤ nums.length ∧ i = .int .i64 (j : Int) ∧ Below W1.heap.size W1 wr ∧ Hid (∀ (i n : Nat) (p : PD), i < j → nums[i]? = some n → (m.map pd)[i]? = some p → ¬ pbig l n p)) (fun _ _ i _ => nums.length - (intOf i).toNat)
        case atStart => exact ⟨0, Nat.zero_le _, rfl, Below.refl _ _, Lib.hid (fun i n p hi => absurd hi (Nat.not_lt_zero _))⟩
        case round =>
          obtain ⟨j, hj, rfl, hB, HN⟩ := hrel
          have hBB := hB0.trans (hB.mono hB0.size)
          by_cases hlt2 : j < nums.length
          · have hn : nums[j]? = some nums[j] := List.getElem?_eq_getElem hlt2
            generalize nums[j] = q at hn
            have hjm : j < m.length := by have := HNL.out; omega
            have he : m[j]? = some m[j] := List.getElem?_eq_getElem hjm
            generalize m[j] = p at he
            obtain ⟨pn, pA, pc, pl⟩ := p
            obtain ⟨q', hq', hplc, hrt⟩ := HOK.out j _ hjm (map_at he)
            rw [hn] at hq'
            injection hq' with hq'
            subst hq'
            simp only at hplc hrt
            have hql := plc_lt hplc
            obtain ⟨f, hf⟩ : ∃ f, l[q]? = some f := ⟨_, List.getElem?_eq_getElem hql⟩
            rw [tsz_at hf] at hrt
            have hfs := (HZ.out q f hf).2
            have hpx := HPT.out j _ he
            have hpl := HPL.out j _ he
            simp only at hpx hpl
            obtain ⟨b, off, rfl, hb, c0, c1, hE, _, _⟩ := (HPR.out.below hBB).at_ he
            obtain ⟨bb, off2, rfl, hbb, g0, g1⟩ := (HFR.out.below hBB).at_ hf
            obtain ⟨b3, off3, rfl, hb3, n0⟩ := (HNT.out.below hB).at_ hn
            simp only at c0 c1 hE
            have HTL := fun (W : World) h => Lib.hid (tooLarge_any pA pc pl (f.t.size : Int) hrt (by omega) (by omega) W (by omega) h)
            have HE := Lib.hid (hE.more hBB.size)
            have HNJ := Lib.hid hn
            have HMJ := Lib.hid (map_at he)
            have hbg : pbig l q (pn, pl) ↔ 4000 < (f.t.size : Int) + gr pl := by unfold pbig; rw [tsz_at hf]
            have HBG := Lib.hid hbg
            clear hn he hf hplc hrt hE hbg
            have z0 : (0 : Int) ≤ j := by omega
            have z1 : (j : Int) < m.length := by omega
            have z2 : (0 : Int) ≤ q := by omega
            have z3 : (q : Int) < l.length := by omega
            have z4 : (j : Int) < nums.length := by omega
            have hdr : Below wr.heap.size wr wr.drew := ⟨rfl, rfl, rfl, Nat.le_refl _, fun _ _ => rfl⟩
            by_cases hbig : 4000 < (f.t.size : Int) + gr pl
            · rw [decide_eq_true hbig] at HTL
              have HBI := Lib.hid hbig
              clear hbig
              go_wp2
              go_still_tail 11, (by kernel_rfl)
              change wpList _ _ _ _ _ wr.drew
              go_wp2_with fail
              refine (HTL _ (HE.out.after hdr)).out.mono ?_
              rintro r w4 ⟨rfl, hb4⟩
              go_wp2
              go_ret2
              exact HFIN.out _ _ 4 (HB4.out (by rw [HPF.out]) ⟨j, q, _, by rw [HPF.out]; exact HNJ.out, HMJ.out, HBG.out.2 HBI.out⟩) (by decide) (PchV.bad (by decide) (hBB.trans ((hdr.trans hb4).mono hBB.size)))
            · rw [decide_eq_false hbig] at HTL
              have HBI := Lib.hid hbig
              clear hbig
              go_wp2
              go_still_tail 11, (by kernel_rfl)
              change wpList _ _ _ _ _ wr.drew
              go_wp2_with fail
              refine (HTL _ (HE.out.after hdr)).out.mono ?_
              rintro r w4 ⟨rfl, hb4⟩
              go_wp2
              go_roundw
              case rel =>
                refine ⟨j + 1, by omega, by go_num, hB.trans ((hdr.trans hb4).mono hB.size), Lib.hid (fun i n p hi hn hp => ?_)⟩
                by_cases e : i = j
                · subst e
                  rw [HNJ.out] at hn
                  rw [HMJ.out] at hp
                  injection hn with hn
                  injection hp with hp
                  subst hn
                  subst hp
                  exact fun h => by have h1 := HBG.out.1 h; have h2 := HBI.out; omega
                · exact HN.out i n p (by omega) hn hp
              case measure => simp [intOf]; omega
          · obtain rfl : j = nums.length := by omega
            have hz : RB = 0 := HB0.out (by rw [HPF.out]) (by
              rintro ⟨i, n, p, h1, h2, h3⟩
              rw [HPF.out] at h1
              exact HN.out i n p (List.getElem?_eq_some_iff.1 h1).1 h1 h2 h3)
            have HZZ := Lib.hid hz
            clear hz
            go_wp2
            go_ret2
            exact HGO.out _ _ HZZ.out (by rw [HPF.out]; exact ⟨A', c', rfl, HNT.out.after hB, hBB⟩)
end Go.Proofs.Ytfkpnfhhmldodaa

namespace Go.Proofs.Ytfkpnfhhmldodaa
open Go.RowKit EditMath FilesMath

/-- one file's new text put in -/
def put1 (l st : List Fl) (n : Nat) (p : PD) : List Fl := match l[n]? with
  | some f => st.set n ⟨f.n, ⟨(ap f.t.data.toList 0 p.2).toArray⟩⟩
  | none => st
/-- the workspace behind the first j patches -/
def apS (l : List Fl) (nums : List Nat) (P : List PD) (j : Nat) : List Fl := ((nums.take j).zip (P.take j)).foldl (fun st x => put1 l st x.1 x.2) l
theorem apS_zero (l : List Fl) (nums : List Nat) (P : List PD) : apS l nums P 0 = l := by simp [apS]
theorem apS_succ {l : List Fl} {nums : List Nat} {P : List PD} {j n : Nat} {p : PD} (hn : nums[j]? = some n) (hp : P[j]? = some p) : apS l nums P (j + 1) = put1 l (apS l nums P j) n p := by
  have h1 := (List.getElem?_eq_some_iff.1 hn).1
  have h2 := (List.getElem?_eq_some_iff.1 hp).1
  unfold apS
  rw [List.take_add_one, List.take_add_one, hn, hp]
  simp only [Option.toList_some]
  rw [List.zip_append (by rw [List.length_take, List.length_take]; omega), List.foldl_append]
  rfl
theorem put1_length (l st : List Fl) (n : Nat) (p : PD) : (put1 l st n p).length = st.length := by unfold put1; split <;> simp
theorem apS_length (l : List Fl) (nums : List Nat) (P : List PD) (j : Nat) : (apS l nums P j).length = l.length := by
  unfold apS
  generalize (nums.take j).zip (P.take j) = Z
  suffices h : ∀ (Z : List (Nat × PD)) (st : List Fl), (Z.foldl (fun st x => put1 l st x.1 x.2) st).length = st.length from h Z l
  intro Z
  induction Z with
  | nil => intro st; rfl
  | cons x Z ih => intro st; rw [List.foldl_cons, ih, put1_length]
/-- all names stay -/
def NamesOf (l st : List Fl) : Prop := ∀ (i : Nat) (f g : Fl), l[i]? = some f → st[i]? = some g → f.n = g.n
theorem put1_names {l st : List Fl} (h : NamesOf l st) (n : Nat) (p : PD) : NamesOf l (put1 l st n p) := by
  intro i f g hf hg
  unfold put1 at hg
  split at hg
  · rename_i f' hf'
    rw [List.getElem?_set] at hg
    split at hg
    · rename_i e
      subst e
      split at hg
      · injection hg with hg
        subst hg
        rw [hf] at hf'
        injection hf' with hf'
        rw [hf']
      · cases hg
    · exact h i f g hf hg
  · exact h i f g hf hg
theorem apS_names (l : List Fl) (nums : List Nat) (P : List PD) (j : Nat) : NamesOf l (apS l nums P j) := by
  unfold apS
  generalize (nums.take j).zip (P.take j) = Z
  suffices h : ∀ (Z : List (Nat × PD)) (st : List Fl), NamesOf l st → NamesOf l (Z.foldl (fun st x => put1 l st x.1 x.2) st) from h Z l (fun i f g hf hg => by rw [hf] at hg; injection hg with hg; rw [hg])
  intro Z
  induction Z with
  | nil => intro st h; exact h
  | cons x Z ih => intro st h; rw [List.foldl_cons]; exact ih _ (put1_names h _ _)
/-- one text set, in the row -/
theorem fcells_set : ∀ (st : List Fl) (n : Nat) (g : Fl) (t : ByteArray), st[n]? = some g → fcells (st.set n ⟨g.n, t⟩) = (fcells st).set (n * 2 + 1) (.string t) := by
  intro st
  induction st with
  | nil => intro n g t h; simp at h
  | cons x st ih =>
    intro n g t h
    have he : ∀ (y : Fl) (ys : List Fl), fcells (y :: ys) = .string y.n :: .string y.t :: fcells ys := fun y ys => by simp [fcells, List.flatMap_cons, fcs]
    cases n with
    | zero => simp at h; subst h; rw [List.set_cons_zero, he, he]; rfl
    | succ n =>
      simp at h
      rw [List.set_cons_succ, he, he, ih n g t h]
      rw [show (n + 1) * 2 + 1 = n * 2 + 1 + 1 + 1 by omega, List.set_cons_succ, List.set_cons_succ]

/-- the workspace behind patches -/
noncomputable def apL (l : List Fl) (P : List PD) : List Fl := if pbad l P = 0 then apS l (prun l P).2 P P.length else []

/-- what Apply answers -/
def AplV (L : List Fl) (n : Int) (w : World) (e : Ending) (w' : World) : Prop := ∃ A c, e = .returned (.tuple #[.slice A L.length c, er n]) ∧ Fls w' w'.heap.size A L ∧ L.length ≤ c ∧ (A = none → c = 0) ∧ Below w.heap.size w w'

theorem pbad_zero {l : List Fl} {P : List PD} (h : pbad l P = 0) : rgt l = true ∧ (prun l P).1 = 0 ∧ ¬ Pbig l P := by
  unfold pbad at h
  split at h
  · rename_i h1
    split at h
    · rename_i h2
      split at h
      · cases h
      · rename_i h3; exact ⟨h1, h2, h3⟩
    · rename_i h2; exact absurd h h2
  · cases h

set_option maxRecDepth 100000 in
set_option maxHeartbeats 4000000 in
theorem apply4_any (A A2 : Option Addr) (c c2 : Nat) (l : List Fl) (m : List Pt) (w : World) (hl : l.length ≤ 30) (hc : l.length ≤ c) (hnil : A = none → c = 0) (ht : tot l ≤ 50000) (hlm : m.length ≤ 30) (hpt : ptot m ≤ 50000) (hpl : ∀ (i : Nat) (p : Pt), m[i]? = some p → p.l.length ≤ 10000)
    (hr : Fls w w.heap.size A l) (hr2 : Pts w w.heap.size A2 m) :
    Calls Try.prog 40 #[.slice A l.length c, .slice A2 m.length c2] w (AplV (apL l (m.map pd)) (pbad l (m.map pd)) w) := by
  have HPA := Lib.hid (patched_any A A2 c c2 l m w hl hc ht hlm hpt hpl hr hr2)
  by_cases hb : pbad l (m.map pd) = 0
  · obtain ⟨hR, h0, hnb⟩ := pbad_zero hb
    have hok := (prun_ok (l := l) (P := m.map pd) m.length (by simp) (by rw [List.take_of_length_le (by simp)]; exact h0))
    rw [List.take_of_length_le (by simp)] at hok
    unfold apL
    rw [hb, if_pos rfl, List.length_map]
    rw [hb, if_pos rfl] at HPA
    have HNB := Lib.hid hnb
    have HRG := Lib.hid (rgt_iff.1 hR)
    clear hb hR h0 hnb
    unfold Pbig at HNB
    generalize (prun l (m.map pd)).2 = nums at *
    obtain ⟨hnl, hok⟩ := hok
    have hnle : nums.length ≤ 30 := by omega
    have HNL := Lib.hid hnl
    have HOK := Lib.hid hok
    have HPL := Lib.hid hpl
    have HPT := Lib.hid (fun (i : Nat) (p : Pt) (h : m[i]? = some p) => Int.le_trans (ptot_at h) hpt)
    have HFR := Lib.hid hr
    have HPR := Lib.hid hr2
    have HCP := fun (W : World) (h : Below w.heap.size w W) => Lib.hid (copy4_any A c l W hl hnil (hr.after h))
    clear hnl hok hpl hpt hr hr2
    go_enter Try.func40, Try.ntmps40
    go_wp2_with fail
    refine HPA.out.mono ?_
    rintro e w1 ⟨A1, c1, rfl, hN1, hb1⟩
    rw [show er 0 = Value.nilIface from rfl]
    go_wp2_with fail
    refine (HCP w1 hb1).out.mono ?_
    rintro e W1 ⟨g, rfl, hg, hrow, hb2⟩
    have hB1 := hb1.trans (hb2.mono hb1.size)
    have HNT : Hid (Nts W1 g A1 nums) := Lib.hid (fun hn => by
      obtain ⟨b, off, e, hlt, hcc⟩ := (hN1.below hb2) hn
      exact ⟨b, off, e, Nat.lt_of_lt_of_le hlt hg, hcc⟩)
    have hgw : w.heap.size ≤ g := Nat.le_trans hb1.size hg
    have hgl : g < W1.heap.size := (Array.getElem?_eq_some_iff.1 hrow).1
    have HROW := Lib.hid hrow
    clear hrow hN1 hb1 hb2 HPA HCP
    go_wp2
    go_loopw [7, 9, 10, 24] (fun er _ _ i wr => er = .nilIface ∧ ∃ j : Nat, j ≤ nums.length ∧ i = .int .i64 (j : Int) ∧ Below g W1 wr ∧ wr.heap[g]? = some (.cells (fcells (apS l nums (m.map pd) j)).toArray 58 (0, 0))) (fun _ _ _ i _ => nums.length - (intOf i).toNat)
    case atStart => exact ⟨rfl, 0, Nat.zero_le _, rfl, Below.refl _ _, by rw [apS_zero]; exact HROW.out⟩
    case round =>
      obtain ⟨rfl, j, hj, rfl, hB, hrw⟩ := hrel
      have hBB : Below w.heap.size w wr := hB1.trans (hB.mono hgw)
      have hgr : g < wr.heap.size := (Array.getElem?_eq_some_iff.1 hrw).1
      by_cases hlt : j < nums.length
      · have hn : nums[j]? = some nums[j] := List.getElem?_eq_getElem hlt
        generalize nums[j] = q at hn
        have hjm : j < m.length := by have := HNL.out; omega
        have he : m[j]? = some m[j] := List.getElem?_eq_getElem hjm
        generalize m[j] = p at he
        obtain ⟨pn, pA, pc, pl⟩ := p
        obtain ⟨q', hq', hplc, hrt⟩ := HOK.out j _ hjm (map_at he)
        rw [hn] at hq'
        injection hq' with hq'
        subst hq'
        simp only at hplc hrt
        have hql := plc_lt hplc
        obtain ⟨f, hf⟩ : ∃ f, l[q]? = some f := ⟨_, List.getElem?_eq_getElem hql⟩
        have hnb : ¬ pbig l q (pn, pl) := fun h => HNB.out ⟨j, q, _, hn, map_at he, h⟩
        unfold pbig at hnb
        rw [tsz_at hf] at hrt hnb
        have hfs := (HRG.out.2.2 q f hf).2.1
        have hpx := HPT.out j _ he
        have hpl := HPL.out j _ he
        simp only at hpx hpl hnb
        obtain ⟨b, off, rfl, hb, c0, c1, hE, _, _⟩ := (HPR.out.below hBB).at_ he
        obtain ⟨bb, off2, rfl, hbb, g0, g1⟩ := (HFR.out.below hBB).at_ hf
        obtain ⟨b3, off3, rfl, hb3, n0⟩ := (HNT.out.below hB).at_ hn
        simp only at c0 c1 hE
        have hbad : bad f.t pl = 0 := by unfold bad; rw [if_pos hrt, if_neg (by omega)]
        have HAP := fun (W : World) h => Lib.hid (apply_ok f.t pA pc pl hbad (by omega) W (by omega) h)
        have HE := Lib.hid (hE.more hBB.size)
        have HST := Lib.hid (apS_succ (l := l) hn (map_at he))
        have hlen := apS_length l nums (m.map pd) j
        obtain ⟨gf, hgf⟩ : ∃ gf, (apS l nums (m.map pd) j)[q]? = some gf := ⟨_, List.getElem?_eq_getElem (by rw [hlen]; exact hql)⟩
        have hnm := apS_names l nums (m.map pd) j q f gf hf hgf
        have HSET := Lib.hid (fcells_set (apS l nums (m.map pd) j) q gf ⟨(ap f.t.data.toList 0 pl).toArray⟩ hgf)
        have HFQ := Lib.hid hf
        have HNM := Lib.hid hnm
        have hcl : (fcells (apS l nums (m.map pd) j))[q * 2 + 1]? = some (.string gf.t) := (fcells_at _ q gf hgf).2
        have y0 : wr.cell? ⟨g, q * 2 + 1, none⟩ = some (.string gf.t) := by rw [Lib.cell_of_heap hrw]; simpa using hcl
        have f0 : wr.frozen? ⟨g, q * 2 + 1, none⟩ = false := Lib.frozen_of_heap hrw _
        have HRW := Lib.hid hrw
        clear hn he hf hplc hrt hE hbad hgf hnm hlen hrw hcl hnb
        have z0 : (0 : Int) ≤ j := by omega
        have z1 : (j : Int) < m.length := by omega
        have z2 : (0 : Int) ≤ q := by omega
        have z3 : (q : Int) < l.length := by omega
        have z4 : (j : Int) < nums.length := by omega
        have hdr : Below wr.heap.size wr wr.drew := ⟨rfl, rfl, rfl, Nat.le_refl _, fun _ _ => rfl⟩
        go_wp2
        have y1 : wr.cell? ⟨g, q * 2 + 1, none⟩ = some (curAt wr g (q * 2 + 1)) := curAt_of y0
        clear y0
        have hbg : b ≠ g := by omega
        have hbbg : bb ≠ g := by omega
        have hbs := hBB.size
        go_region_held3 (fun w' => w'.cell? ⟨bb, off2 + q * 2 + 1, none⟩ = some (.string f.t) ∧ w'.cell? ⟨b, off + j * 2 + 1, none⟩ = some (.slice pA pl.length pc) ∧ w'.cell? ⟨g, q * 2 + 1, none⟩ = some (curAt w' g (q * 2 + 1)) ∧ w'.frozen? ⟨g, q * 2 + 1, none⟩ = false)
          (first
            | exact ⟨g1, c1, y1, f0⟩
            | (go_keep; done)
            | (go_split_ands
               refine ⟨?_, ?_, ?_, ?_⟩
               · (rw [hb4.cell (p := ⟨bb, off2 + q * 2 + 1, none⟩) (by simp; omega)]; assumption)
               · (rw [hb4.cell (p := ⟨b, off + j * 2 + 1, none⟩) (by simp; omega)]; assumption)
               · (refine curAt_below ?_ hb4 hgr; assumption)
               · (rw [hb4.frozen (p := ⟨g, q * 2 + 1, none⟩) hgr]; assumption))
            | (go_split_ands
               refine ⟨?_, ?_, ?_, ?_⟩
               · (refine cell_far ?_ hbbg _; assumption)
               · (refine cell_far ?_ hbg _; assumption)
               · (refine curAt_set ?_ _; assumption)
               · go_keep))
          ((go_at_call 27; refine (HAP _ (HE.out.after hdr)).out.mono ?_; rintro r w4 ⟨rfl, hb4⟩))
        have hb4' : Below wr.heap.size wr w4 := hdr.trans hb4
        have hg4 : g < w4.heap.size := Nat.lt_of_lt_of_le hgr hb4'.size
        have hB5 : Below g W1 (w4.setCell ⟨g, q * 2 + 1, none⟩ (.string ⟨(ap f.t.data.toList 0 pl).toArray⟩)) := (hB.trans (hb4'.mono (Nat.le_of_lt hgr))).setCell (p := ⟨g, q * 2 + 1, none⟩) (Nat.le_refl _) _
        have hrow4 : w4.heap[g]? = some (.cells (fcells (apS l nums (m.map pd) j)).toArray 58 (0, 0)) := (hb4'.block g hgr).trans HRW.out
        have hrow5 : (w4.setCell ⟨g, q * 2 + 1, none⟩ (.string ⟨(ap f.t.data.toList 0 pl).toArray⟩)).heap[g]? = some (.cells (fcells (apS l nums (m.map pd) (j + 1))).toArray 58 (0, 0)) := by
          rw [HST.out]
          unfold put1
          rw [HFQ.out]
          simp only
          rw [HNM.out, HSET.out]
          rw [setCell_eq_setRow w4 g (q * 2 + 1) _ 58 (0, 0) _ hrow4, setRow_heap w4 g _ _ 58 (0, 0) hrow4]
          simp
        have HR5 := Lib.hid hrow5
        have HB5 := Lib.hid hB5
        clear hrow5 hB5 hrow4 hb4 hb4' hB y1 f0
        generalize w4.setCell ⟨g, q * 2 + 1, none⟩ (.string ⟨(ap f.t.data.toList 0 pl).toArray⟩) = W5 at *
        go_wp2
        go_roundw
        case rel => exact ⟨rfl, j + 1, by omega, by go_num, HB5.out, HR5.out⟩
        case measure => simp [intOf]; omega
      · obtain rfl : j = nums.length := by omega
        have hlen := apS_length l nums (m.map pd) nums.length
        have HLEN := Lib.hid hlen
        have HRW := Lib.hid hrw
        clear hlen hrw
        go_wp2
        go_ret2
        have hfl := row_fls HRW.out
        have hmn := HNL.out
        refine ⟨some ⟨g, 0, none⟩, l.length, ?_, ?_, ?_, (fun h => by cases h), hBB⟩
        · rw [← hmn, HLEN.out]; rfl
        · rw [← hmn]; exact hfl
        · rw [← hmn, HLEN.out]; exact Nat.le_refl _
  · unfold apL
    rw [if_neg hb]
    rw [if_neg hb] at HPA
    have hne : pbad l (m.map pd) ≠ 0 := hb
    generalize pbad l (m.map pd) = n at *
    have hen : er n = errn n := by unfold er; rw [if_neg hne]
    clear hb
    unfold PchV at HPA
    rw [hen] at HPA
    go_enter Try.func40, Try.ntmps40
    go_wp2_with fail
    refine HPA.out.mono ?_
    rintro e w1 ⟨A1, c1, rfl, hN1, hb1⟩
    go_wp2
    go_ret2
    exact ⟨none, 0, by rw [hen]; rfl, Fls.none_, Nat.zero_le _, (fun _ => rfl), hb1⟩
end Go.Proofs.Ytfkpnfhhmldodaa

namespace Go.Proofs.Ytfkpnfhhmldodaa
open Go.RowKit EditMath FilesMath

/-- a whole slice of files appended to an empty row of the call's own -/
theorem wpList_append_fls {ops : Array Oper} {rest : List Oper} {o : Oper} {a : Act} {Q : Exit → Act → World → Prop} (hgd : o.guard = none) (s x : Operand)
    (ho : o.op = .call { callee := .builtin .append, args := #[s, x], argTypes := #[54, 54] }) (W : World) (base : Nat) (A : Option Addr) (c : Nat) (B : Nat) (A2 : Option Addr) (c2 : Nat) (l : List Fl)
    (hs : a.eval s = .slice A 0 c) (hx : a.eval x = .slice A2 l.length c2) (hown : OwnF W base A c []) (hr : Fls W B A2 l) (hnil : A2 = none → c2 = 0) (hn : l.length ≤ 20000) (hbase : base ≤ W.heap.size)
    (h : ∀ A' c' w', OwnF w' base A' c' l → W.grownBy w' (Value.slice A 0 c).ownBlock → wpList Try.prog ops Q rest (a.put o.dst (.slice A' l.length c')) w') :
    wpList Try.prog ops Q (o :: rest) a W := by
  obtain ⟨i0, hi, hz0, hz1, hz2⟩ := info_parts info_OwnF
  cases A2 with
  | none =>
    have hl : l = [] := by
      cases l with
      | nil => rfl
      | cons e l => obtain ⟨b, off, hA, _⟩ := hr (by simp); cases hA
    subst hl
    have hc := hnil rfl
    subst hc
    exact wpList_append_own_none hgd s x 54 ho base 58 i0 2 Try.underlying54 hi _ _ _ hs hown hx (h A c W hown (World.grownBy.refl _ _))
  | some ad =>
    refine wpList_append_own _ hgd s x 54 ho base 58 i0 _ 2 32 Try.underlying54 hi hz0 hz1 hz2 rfl (by decide) _ _ _ hs hown ad l.length c2 (fcells l) hx (fcells_length l) (fls_cells hr) (fcells_one l) (by unfold maxLen; simp; omega) (by simp; omega) hbase ?_
    intro v' w' hown' hgrow _
    have he : fcells [] ++ fcells l = fcells l := by simp [fcells]
    rw [he] at hown'
    obtain ⟨A', c', rfl, _, ho'⟩ := OwnF.form hown'
    exact h A' c' w' ho' hgrow

theorem OwnF.some_ {w : World} {base c : Nat} {A : Option Addr} {m : List Fl} (h : OwnF w base A c m) (hn : 0 < m.length) : ∃ g, A = some ⟨g, 0, none⟩ ∧ base ≤ g ∧ g < w.heap.size := by
  rcases h.2 with ⟨_, h0⟩ | ⟨g, cap, cur, hv, hb, hg, _⟩
  · omega
  · injection hv with hA
    exact ⟨g, hA, hb, (Array.getElem?_eq_some_iff.1 hg).1⟩
theorem OwnF.set_ {w : World} {base c g q : Nat} {st : List Fl} {gf : Fl} {t : ByteArray} (h : OwnF w base (some ⟨g, 0, none⟩) c st) (hq : st[q]? = some gf) : OwnF (w.setCell ⟨g, q * 2 + 1, none⟩ (.string t)) base (some ⟨g, 0, none⟩) c (st.set q ⟨gf.n, t⟩) := by
  have := (World.ownsRow.stored h (q * 2 + 1) (.string t)).1
  unfold OwnF
  rw [List.length_set, fcells_set st q gf t hq]
  exact this

/-- the numbers so far, with one more: the workspace behind the patches so far is the same -/
theorem apS_app {l : List Fl} {nums : List Nat} {P : List PD} {k q : Nat} (h : nums.length = k) : apS l (nums ++ [q]) P k = apS l nums P k := by
  unfold apS
  rw [List.take_append_of_le_length (by omega)]

/-- a number is there just if a patch of that name is -/
theorem dup_iff {l : List Fl} {nums : List Nat} {P : List PD} {k q : Nat} {n : ByteArray} (hnl : nums.length = k) (hkP : k ≤ P.length) (hok : ∀ (i : Nat) (p : PD), i < k → P[i]? = some p → ∃ x, nums[i]? = some x ∧ plc l p.1 = some x) (hq : plc l n = some q) :
    q ∈ nums ↔ ∃ (i : Nat) (p : PD), i < k ∧ P[i]? = some p ∧ p.1 = n := by
  constructor
  · intro hm
    obtain ⟨i, hi⟩ := List.getElem?_of_mem hm
    have hik := (List.getElem?_eq_some_iff.1 hi).1
    obtain ⟨p, hp⟩ : ∃ p, P[i]? = some p := ⟨_, List.getElem?_eq_getElem (by omega)⟩
    obtain ⟨x, hx, hpl⟩ := hok i p (by omega) hp
    rw [hi] at hx
    injection hx with hx
    subst hx
    obtain ⟨f, hf, hfn⟩ := plc_some hpl
    obtain ⟨f2, hf2, hfn2⟩ := plc_some hq
    rw [hf] at hf2
    injection hf2 with hf2
    subst hf2
    exact ⟨i, p, by omega, hp, hfn.symm.trans hfn2⟩
  · rintro ⟨i, p, hik, hp, rfl⟩
    obtain ⟨x, hx, hpl⟩ := hok i p hik hp
    rw [hq] at hpl
    injection hpl with hpl
    subst hpl
    exact List.mem_of_getElem? hx

def AplR (L : List Fl) (n : Int) (w : World) (e : Ending) (w' : World) : Prop := ∃ A c, e = .returned (.tuple #[.slice A L.length c, .int .i64 n]) ∧ Fls w' w'.heap.size A L ∧ Below w.heap.size w w'
theorem AplR.bad {w w' : World} {n : Int} (hb : Below w.heap.size w w') : AplR [] n w (.returned (.tuple #[.slice none 0 0, .int .i64 n])) w' := ⟨none, 0, rfl, Fls.none_, hb⟩

/-- what is known of the patches so far -/
structure RaI (w : World) (l : List Fl) (m : List Pt) (wr : World) (k g c' : Nat) (nums : List Nat) (st : List Fl) (B : Bool) : Prop where
  hk : k ≤ m.length
  hB : Below w.heap.size w wr
  hg : w.heap.size ≤ g
  hown : OwnF wr w.heap.size (some ⟨g, 0, none⟩) c' st
  hst : st.length = l.length
  hnm : NamesOf l st
  hpr : prun l ((m.map pd).take k) = (0, nums)
  hbig : B = true ↔ ∃ (i n : Nat) (p : PD), i < k ∧ nums[i]? = some n ∧ (m.map pd)[i]? = some p ∧ pbig l n p
  hap : B = false → st = apS l nums (m.map pd) k

theorem nums_at {nums : List Nat} {q i : Nat} (hi : i < nums.length) : (nums ++ [q])[i]? = nums[i]? := List.getElem?_append_left hi
theorem nums_last {nums : List Nat} {q k : Nat} (h : nums.length = k) : (nums ++ [q])[k]? = some q := by rw [List.getElem?_append_right (by omega)]; simp [h]
theorem RaI.big_ {w wr W : World} {l st : List Fl} {m : List Pt} {k g c q : Nat} {nums : List Nat} {B : Bool} {p : PD} (H : RaI w l m wr k g c nums st B) (hnl : nums.length = k) (hE : (m.map pd)[k]? = some p) (hpr : prun l ((m.map pd).take (k + 1)) = (0, nums ++ [q])) (hlt : k < m.length)
    (hbg : pbig l q p) (hB : Below w.heap.size w W) (hown : OwnF W w.heap.size (some ⟨g, 0, none⟩) c st) : RaI w l m W (k + 1) g c (nums ++ [q]) st true :=
  ⟨hlt, hB, H.hg, hown, H.hst, H.hnm, hpr, ⟨fun _ => ⟨k, q, p, Nat.lt_succ_self k, nums_last hnl, hE, hbg⟩, fun _ => rfl⟩, fun h => by cases h⟩
theorem RaI.put_ {w wr W : World} {l st : List Fl} {m : List Pt} {k g c q : Nat} {nums : List Nat} {B : Bool} {p : PD} {f gf : Fl} (H : RaI w l m wr k g c nums st B) (hnl : nums.length = k) (hE : (m.map pd)[k]? = some p) (hpr : prun l ((m.map pd).take (k + 1)) = (0, nums ++ [q])) (hlt : k < m.length)
    (hbg : ¬ pbig l q p) (hf : l[q]? = some f) (hgf : st[q]? = some gf) (hB : Below w.heap.size w W) (hown : OwnF W w.heap.size (some ⟨g, 0, none⟩) c (st.set q ⟨gf.n, ⟨(ap f.t.data.toList 0 p.2).toArray⟩⟩)) :
    RaI w l m W (k + 1) g c (nums ++ [q]) (st.set q ⟨gf.n, ⟨(ap f.t.data.toList 0 p.2).toArray⟩⟩) B := by
  have hpu : st.set q ⟨gf.n, ⟨(ap f.t.data.toList 0 p.2).toArray⟩⟩ = put1 l st q p := by unfold put1; rw [hf]; simp only; rw [H.hnm q f gf hf hgf]
  refine ⟨hlt, hB, H.hg, hown, by rw [List.length_set]; exact H.hst, by rw [hpu]; exact put1_names H.hnm q p, hpr, ?_, fun hB0 => ?_⟩
  · rw [H.hbig]
    constructor
    · rintro ⟨i, n, p', h1, h2, h3, h4⟩
      exact ⟨i, n, p', by omega, by rw [nums_at (by omega)]; exact h2, h3, h4⟩
    · rintro ⟨i, n, p', h1, h2, h3, h4⟩
      by_cases e : i = k
      · subst e
        rw [nums_last hnl] at h2
        injection h2 with h2
        subst h2
        rw [hE] at h3
        injection h3 with h3
        subst h3
        exact absurd h4 hbg
      · exact ⟨i, n, p', by omega, by rw [nums_at (by omega)] at h2; exact h2, h3, h4⟩
  · rw [hpu, apS_succ (nums_last hnl) hE, apS_app hnl, ← H.hap hB0]

theorem cell_lt2 {w : World} {b o : Nat} {v : Value} (h : w.cell? ⟨b, o, none⟩ = some v) : b < w.heap.size := World.block_lt_of_cell? w ⟨b, o, none⟩ h
theorem wrap64_small {z : Int} (h1 : -9223372036854775808 ≤ z) (h2 : z ≤ 9223372036854775807) : wrap64 z = z := by unfold wrap64; omega

set_option maxRecDepth 100000 in
set_option maxHeartbeats 8000000 in
theorem refApply4_any (A A2 : Option Addr) (c c2 : Nat) (l : List Fl) (m : List Pt) (w : World) (hl : l.length ≤ 30) (hnil : A = none → c = 0) (ht : tot l ≤ 50000) (hlm : m.length ≤ 30) (hpt : ptot m ≤ 50000) (hpl : ∀ (i : Nat) (p : Pt), m[i]? = some p → p.l.length ≤ 10000)
    (hr : Fls w w.heap.size A l) (hr2 : Pts w w.heap.size A2 m) :
    Calls Try.prog 41 #[.slice A l.length c, .slice A2 m.length c2] w (AplR (apL l (m.map pd)) (pbad l (m.map pd)) w) := by
  have HR := Lib.hid (refRight4_any A c l w hl (sizes_of ht) hr)
  have HNO := fun (n : ByteArray) (W : World) (h : Below w.heap.size w W) => Lib.hid (place_any A c l n W hl (hr.after h))
  have HPL := Lib.hid hpl
  have HPT := Lib.hid (fun (i : Nat) (p : Pt) (h : m[i]? = some p) => Int.le_trans (ptot_at h) hpt)
  have HFR := Lib.hid hr
  have HPR := Lib.hid hr2
  have HNIL := Lib.hid hnil
  clear hpl hpt ht hr hr2 hnil
  cases hR : rgt l with
  | false =>
    have hb : pbad l (m.map pd) = 2 := by unfold pbad; rw [if_neg (by simp [hR])]
    unfold apL
    rw [hb, if_neg (by decide)]
    rw [hR] at HR
    clear hR hb
    go_enter Try.func41, Try.ntmps41
    go_wp2_with fail
    refine HR.out.mono ?_
    rintro e w1 ⟨rfl, rfl⟩
    go_wp2
    go_ret2
    exact AplR.bad (Below.refl _ _)
  | true =>
    rw [hR] at HR
    have HRG := Lib.hid (rgt_iff.1 hR)
    have HBAD : Hid (∀ (W : World) (e : Ending) (n : Int), n ≠ 0 → (∃ k, (prun l ((m.map pd).take k)).1 = n) → AplR [] n w e W → AplR (apL l (m.map pd)) (pbad l (m.map pd)) w e W) := Lib.hid (by
      rintro W e n hn ⟨k, hk⟩ h
      have h1 : (prun l (m.map pd)).1 = n := by rw [prun_stuck k (by rw [hk]; exact hn)]; exact hk
      have h2 : pbad l (m.map pd) = n := by unfold pbad; rw [if_pos hR, if_neg (by rw [h1]; exact hn), h1]
      unfold apL
      rw [h2, if_neg hn]
      exact h)
    have HBIG : Hid (∀ (W : World) (e : Ending), (prun l (m.map pd)).1 = 0 → Pbig l (m.map pd) → AplR [] 4 w e W → AplR (apL l (m.map pd)) (pbad l (m.map pd)) w e W) := Lib.hid (by
      intro W e h1 hb h
      have h2 : pbad l (m.map pd) = 4 := by unfold pbad; rw [if_pos hR, if_pos h1, if_pos hb]
      unfold apL
      rw [h2, if_neg (by decide)]
      exact h)
    have HOKE : Hid (∀ (W : World) (e : Ending), (prun l (m.map pd)).1 = 0 → ¬ Pbig l (m.map pd) → AplR (apS l (prun l (m.map pd)).2 (m.map pd) (m.map pd).length) 0 w e W → AplR (apL l (m.map pd)) (pbad l (m.map pd)) w e W) := Lib.hid (by
      intro W e h1 hb h
      have h2 : pbad l (m.map pd) = 0 := by unfold pbad; rw [if_pos hR, if_pos h1, if_neg hb]
      unfold apL
      rw [h2, if_pos rfl]
      exact h)
    clear hR
    generalize apL l (m.map pd) = RL at *
    generalize pbad l (m.map pd) = RB at *
    go_enter Try.func41, Try.ntmps41
    go_wp2_with fail
    refine HR.out.mono ?_
    rintro e w1 ⟨rfl, rfl⟩
    clear HR
    have HF0 := Lib.hid (HFR.out.alloc (Nat.le_refl _) (.cells #[] 58))
    go_wp2_with (at_builtin; refine wpList_append_fls (by rfl) _ _ (by rfl) _ w.heap.size (some ⟨w.heap.size, 0, none⟩) 0 w.heap.size A c l (by rfl) (by rfl) (OwnF.made w _ (Nat.le_refl _)) HF0.out HNIL.out (by omega) (by simp) ?_; intro A3 c3 w3 hown3 hgrow3)
    have hB3 : Below w.heap.size w w3 := (OwnF.made w w.heap.size (Nat.le_refl _)).belowApp (m := []) (below1 w _) hgrow3 (Nat.le_refl _) (by simp)
    obtain ⟨g, rfl, hg, _⟩ := hown3.some_ (by have := HRG.out.1; omega)
    have HO3 := Lib.hid hown3
    clear hown3 hgrow3 HF0
    go_loopw [7, 8, 9, 10, 11] (fun lg i _ _ _ wr => ∃ k nums st B, i = .int .i64 (k : Nat) ∧ lg = .bool B ∧ RaI w l m wr k g c3 nums st B) (fun _ i _ _ _ _ => m.length - (intOf i).toNat)
    case atStart => exact ⟨0, [], l, false, rfl, rfl, Nat.zero_le _, hB3, hg, HO3.out, rfl, (fun i f f2 h1 h2 => by rw [h1] at h2; injection h2 with h2; rw [h2]), rfl, ⟨(fun h => by cases h), (fun ⟨i, _, _, hi, _⟩ => absurd hi (Nat.not_lt_zero _))⟩, fun _ => (apS_zero _ _ _).symm⟩
    case round =>
      obtain ⟨k, nums, st, B, rfl, rfl, H⟩ := hrel
      have hBk := H.hB
      have hkm := H.hk
      have hok := prun_ok (l := l) (P := m.map pd) k (by simpa using hkm) (by rw [H.hpr])
      rw [H.hpr] at hok
      have HOK := Lib.hid hok
      have HH := Lib.hid H
      clear H hok
      by_cases hlt : k < m.length
      · have he : m[k]? = some m[k] := List.getElem?_eq_getElem hlt
        generalize m[k] = p at he
        obtain ⟨pn, pA, pc, pl⟩ := p
        have hpl := HPL.out k _ he
        have hpx := HPT.out k _ he
        obtain ⟨b, off, rfl, hb, c0, c1, hE, _, _⟩ := (HPR.out.below hBk).at_ he
        have HE := Lib.hid (map_at he)
        have HST := Lib.hid (prun_snoc l (map_at he))
        simp only at hpl hpx c0 c1 hE HE HST
        clear he
        have z0 : (0 : Int) ≤ k := by omega
        have z1 : (k : Int) < m.length := by omega
        have hB1 : Below wr.heap.size wr (wr.alloc (.cells #[.string pn, .slice pA pl.length pc] 122)) := below1 _ _
        have hBw := hBk.trans (hB1.mono hBk.size)
        have HO1 := Lib.hid (HH.out.hown.below hB1)
        have HE1 := Lib.hid ((hE.more hBk.size).after hB1)
        have hx0 : (wr.alloc (.cells #[.string pn, .slice pA pl.length pc] 122)).heap[wr.heap.size]? = some (.cells #[.string pn, .slice pA pl.length pc] 122 (0, 0)) := heap_alloc_new wr _
        have HX0 := Lib.hid hx0
        clear hx0 hE
        have hHN := HNO pn _ hBw
        rcases plcI_cases l pn with ⟨hp, hpi⟩ | ⟨q, hp, hpi, hq⟩
        · rw [hpi] at hHN
          have HX : Hid (prun l ((m.map pd).take (k + 1)) = (5, nums)) := Lib.hid (by rw [HST.out, HH.out.hpr]; unfold pstep; rw [if_pos rfl, hp])
          clear hp hpi
          go_wp2_with fail
          refine hHN.out.mono ?_
          rintro r w2 ⟨rfl, rfl⟩
          go_wp2
          go_ret2
          exact HBAD.out _ _ 5 (by decide) ⟨k + 1, by rw [HX.out]⟩ (AplR.bad hBw)
        · rw [hpi] at hHN
          have z2 : decide ((q : Int) < 0) = false := decide_eq_false (by omega)
          have HDUP := Lib.hid (dup_iff (l := l) (P := m.map pd) HOK.out.1 (by simpa using hkm) (fun i p hi hp => by obtain ⟨x, h1, h2, _⟩ := HOK.out.2 i p hi hp; exact ⟨x, h1, h2⟩) hp)
          go_wp2_with fail
          refine hHN.out.mono ?_
          rintro r w2 ⟨rfl, rfl⟩
          go_wp2
          have y0 : (wr.alloc (.cells #[.string pn, .slice pA pl.length pc] 122)).cell? ⟨wr.heap.size, 0, none⟩ = some (.string pn) := by rw [Lib.cell_of_heap HX0.out]; rfl
          have y1 : (wr.alloc (.cells #[.string pn, .slice pA pl.length pc] 122)).cell? ⟨wr.heap.size, 1, none⟩ = some (.slice pA pl.length pc) := by rw [Lib.cell_of_heap HX0.out]; rfl
          have hs0 : wr.heap.size < (wr.alloc (.cells #[.string pn, .slice pA pl.length pc] 122)).heap.size := by simp
          generalize hbx : wr.heap.size = bx at *
          generalize (wr.alloc (.cells #[.string pn, .slice pA pl.length pc] 122)) = W1 at *
          have HBX := Lib.hid hbx
          clear hbx HX0 c0 c1
          go_loopw [11] (fun i wr => ∃ j : Nat, j ≤ k ∧ i = .int .i64 (j : Int) ∧ Below W1.heap.size W1 wr ∧ Hid (∀ (i : Nat) (p : PD), i < j → (m.map pd)[i]? = some p → p.1 ≠ pn)) (fun i _ => k - (intOf i).toNat)
          case atStart => exact ⟨0, Nat.zero_le _, rfl, Below.refl _ _, Lib.hid (fun i p hi => absurd hi (Nat.not_lt_zero _))⟩
          case round =>
            obtain ⟨j, hjk, rfl, hB2, HN⟩ := hrel
            have hBB := hBw.trans (hB2.mono hBw.size)
            have x0 : wr.cell? ⟨bx, 0, none⟩ = some (.string pn) := (hB2.cell (p := ⟨bx, 0, none⟩) hs0).trans y0
            have x1 : wr.cell? ⟨bx, 1, none⟩ = some (.slice pA pl.length pc) := (hB2.cell (p := ⟨bx, 1, none⟩) hs0).trans y1
            by_cases hjl : j < k
            · have hd : m[j]? = some (m[j]'(by omega)) := List.getElem?_eq_getElem (by omega)
              generalize m[j]'(by omega) = d at hd
              obtain ⟨dn, dA, dc, dl⟩ := d
              obtain ⟨b2, off2, hA2, hb2, d0, d1, _, _, _⟩ := (HPR.out.below hBB).at_ hd
              simp only at d0 d1
              injection hA2 with hA2
              injection hA2 with hA2 hA3
              subst hA2
              subst hA3
              have HMD := Lib.hid (map_at hd)
              clear hd
              have z3 : (0 : Int) ≤ j := by omega
              have z4 : (j : Int) < m.length := by omega
              have z5 : (j : Int) < k := by omega
              have hs1 := str_beq dn pn
              by_cases hdn : dn = pn
              · rw [decide_eq_true hdn] at hs1
                have HDN := Lib.hid hdn
                clear hdn
                go_wp2
                go_quiet (fail)
                go_wp2
                go_ret2
                have hmem : q ∈ nums := HDUP.out.2 ⟨j, _, hjl, HMD.out, HDN.out⟩
                exact HBAD.out _ _ 6 (by decide) ⟨k + 1, by rw [HST.out, HH.out.hpr]; unfold pstep; rw [if_pos rfl, hp]; simp only; rw [if_pos hmem]⟩ (AplR.bad (below_drewN hBB _))
              · rw [decide_eq_false hdn] at hs1
                have HDN := Lib.hid hdn
                clear hdn
                go_wp2
                go_quiet (fail)
                go_wp2
                go_roundw
                case rel =>
                  refine ⟨j + 1, by omega, by go_num, below_drewN hB2 _, Lib.hid (fun i p hi hp' => ?_)⟩
                  by_cases e : i = j
                  · subst e; rw [HMD.out] at hp'; injection hp' with hp'; subst hp'; exact HDN.out
                  · exact HN.out i p (by omega) hp'
                case measure => simp [intOf]; omega
            · obtain rfl : j = k := by omega
              have hnm : q ∉ nums := fun hm => by obtain ⟨i, p, h1, h2, h3⟩ := HDUP.out.1 hm; exact HN.out i p h1 h2 h3
              obtain ⟨f, hf⟩ : ∃ f, l[q]? = some f := ⟨_, List.getElem?_eq_getElem hq⟩
              have hfs := (HRG.out.2.2 q f hf).2.1
              have hts := tsz_at hf
              obtain ⟨bb, off2, hA, hbb, g0, g1⟩ := (HFR.out.below hBB).at_ hf
              subst hA
              have z3 : (0 : Int) ≤ q := by omega
              have z4 : (q : Int) < l.length := by omega
              have HRT := fun (W : World) h => Lib.hid (refRight_any pA pc pl (f.t.size : Int) W (by omega) h)
              have HX : Hid (prun l ((m.map pd).take (j + 1)) = if rt pl (f.t.size : Int) = true then (0, nums ++ [q]) else (2, nums)) := Lib.hid (by rw [HST.out, HH.out.hpr]; unfold pstep; rw [if_pos rfl, hp]; simp only; rw [if_neg hnm, hts])
              have hdr : Below wr.heap.size wr wr.drew := ⟨rfl, rfl, rfl, Nat.le_refl _, fun _ _ => rfl⟩
              have HE2 := Lib.hid (HE1.out.after hB2)
              have HO2 := Lib.hid (HO1.out.below hB2)
              have HFQ := Lib.hid hf
              have HPB : Hid (pbig l q (pn, pl) ↔ 4000 < (f.t.size : Int) + gr pl) := Lib.hid (by unfold pbig; rw [hts])
              clear hp hpi hnm hf hts HDUP hHN HN y0 y1
              cases hrt : rt pl (f.t.size : Int) with
              | false =>
                rw [hrt] at HRT HX
                clear hrt
                go_wp2
                go_still_tail 8, (by kernel_rfl)
                change wpList _ _ _ _ _ wr.drew
                go_wp2_with fail
                refine (HRT _ (HE2.out.after hdr)).out.mono ?_
                rintro r w4 ⟨rfl, hb4⟩
                go_wp2
                go_ret2
                exact HBAD.out _ _ 2 (by decide) ⟨j + 1, by rw [HX.out]; rfl⟩ (AplR.bad (hBB.trans ((hdr.trans hb4).mono hBB.size)))
              | true =>
                obtain ⟨g2, g3, _⟩ := gr_bounds hrt
                have t0 := tx_nonneg pl
                have hwr : wrap64 (gr pl) = gr pl := wrap64_small (by omega) (by omega)
                have HGR := fun (W : World) h => Lib.hid (refGrow_any pA pc pl W (by omega) h)
                rw [hwr] at HGR
                have HRTT := Lib.hid hrt
                have hwr2 : IntKind.i64.wrap ((f.t.size : Int) + gr pl) = (f.t.size : Int) + gr pl := by
                  simp only [IntKind.wrap, IntKind.signed, IntKind.bits]
                  simp
                  omega
                rw [hrt] at HRT HX
                clear hrt hwr
                have hpx2 : tx pl ≤ 50000 := by omega
                go_wp2
                go_still_tail 8, (by kernel_rfl)
                change wpList _ _ _ _ _ wr.drew
                go_wp2_with fail
                refine (HRT _ (HE2.out.after hdr)).out.mono ?_
                rintro r w4 ⟨rfl, hb4⟩
                have hb4' : Below wr.heap.size wr w4 := hdr.trans hb4
                have hB4 := hBB.trans (hb4'.mono hBB.size)
                have HE4 := Lib.hid (HE2.out.after hb4')
                have HO4 := Lib.hid (HO2.out.below hb4')
                have hsw : bx < wr.heap.size := Nat.lt_of_lt_of_le hs0 hB2.size
                have v0 : w4.cell? ⟨bb, off2 + q * 2 + 1, none⟩ = some (.string f.t) := (hb4'.cell (p := ⟨bb, off2 + q * 2 + 1, none⟩) (Nat.lt_of_lt_of_le hbb hBB.size)).trans g1
                have v1 : w4.cell? ⟨bx, 1, none⟩ = some (.slice pA pl.length pc) := (hb4'.cell (p := ⟨bx, 1, none⟩) hsw).trans x1
                have hsw4 : bx < w4.heap.size := Nat.lt_of_lt_of_le hsw hb4'.size
                have hbb4 : bb < w4.heap.size := Nat.lt_of_lt_of_le hbb hB4.size
                have hdr4 : Below w4.heap.size w4 w4.drew := ⟨rfl, rfl, rfl, Nat.le_refl _, fun _ _ => rfl⟩
                clear hb4 hb4' hB2 HE2 HO2 HE1 HO1 hdr g0 g1 x0 x1 HRT
                go_wp2
                go_region_held3 (fun w' => w'.cell? ⟨bb, off2 + q * 2 + 1, none⟩ = some (.string f.t) ∧ w'.cell? ⟨bx, 1, none⟩ = some (.slice pA pl.length pc))
                  (first
                    | exact ⟨v0, v1⟩
                    | (go_keep; done)
                    | (go_split_ands
                       refine ⟨?_, ?_⟩
                       · (rw [hb5.cell (p := ⟨bb, off2 + q * 2 + 1, none⟩) hbb4]; assumption)
                       · (rw [hb5.cell (p := ⟨bx, 1, none⟩) hsw4]; assumption)))
                  ((go_at_call 55; refine (HGR _ (HE4.out.after hdr4)).out.mono ?_; rintro r w5 ⟨rfl, hb5⟩))
                have hb5' : Below w4.heap.size w4 w5 := hdr4.trans hb5
                have hB5 := hB4.trans (hb5'.mono hB4.size)
                have HE5 := Lib.hid (HE4.out.after hb5')
                have HO5 := Lib.hid (HO4.out.below hb5')
                have u0 : w5.cell? ⟨bb, off2 + q * 2 + 1, none⟩ = some (.string f.t) := (hb5'.cell (p := ⟨bb, off2 + q * 2 + 1, none⟩) hbb4).trans v0
                have u1 : w5.cell? ⟨bx, 1, none⟩ = some (.slice pA pl.length pc) := (hb5'.cell (p := ⟨bx, 1, none⟩) hsw4).trans v1
                have hsw5 : bx < w5.heap.size := Nat.lt_of_lt_of_le hsw4 hb5'.size
                have hbb5 : bb < w5.heap.size := Nat.lt_of_lt_of_le hbb4 hb5'.size
                clear hb5 hb5' HE4 HO4 hdr4 v0 v1 hB4
                by_cases hbg : 4000 < (f.t.size : Int) + gr pl
                · have q0 : decide (4000 < (f.t.size : Int) + gr pl) = true := decide_eq_true hbg
                  have HBG := Lib.hid hbg
                  have q1 : ¬ (f.t.size : Int) + gr pl ≤ 4000 := by omega
                  go_wp2
                  go_roundw
                  case rel => exact ⟨j + 1, nums ++ [q], st, true, by go_num, rfl, HH.out.big_ HOK.out.1 HE.out (by rw [HX.out]; rfl) (by omega) (HPB.out.2 HBG.out) hB5 HO5.out⟩
                  case measure => simp [intOf]; omega
                · have q0 : decide (4000 < (f.t.size : Int) + gr pl) = false := decide_eq_false hbg
                  have hbad : bad f.t pl = 0 := by unfold bad; rw [if_pos HRTT.out, if_neg (by omega)]
                  have HAP := fun (W : World) h => Lib.hid (refApply_ok f.t pA pc pl hbad (by omega) W (by omega) h)
                  have HBG := Lib.hid hbg
                  obtain ⟨gf, hgf⟩ : ∃ gf, st[q]? = some gf := ⟨_, List.getElem?_eq_getElem (by rw [HH.out.hst]; exact hq)⟩
                  obtain ⟨e0, e1⟩ : w5.cell? ⟨g, q * 2 + 1, none⟩ = some (.string gf.t) ∧ w5.frozen? ⟨g, q * 2 + 1, none⟩ = false := by
                    obtain ⟨b', off', hA', _, hcc⟩ := HO5.out.reads (by have := (List.getElem?_eq_some_iff.1 hgf).1; omega)
                    injection hA' with hA'
                    injection hA' with hA1 hA2
                    subst hA1
                    subst hA2
                    refine ⟨by have := (hcc q gf hgf).2; rwa [Nat.zero_add] at this, ?_⟩
                    rcases HO5.out.2 with ⟨hv, _⟩ | ⟨g', cap, cur, hv, _, hgg, _⟩
                    · cases hv
                    · injection hv with hv
                      injection hv with hv
                      injection hv with hv
                      subst hv
                      exact Lib.frozen_of_heap hgg _
                  have HGF := Lib.hid hgf
                  have y5 : w5.cell? ⟨g, q * 2 + 1, none⟩ = some (curAt w5 g (q * 2 + 1)) := curAt_of e0
                  have hgw := HH.out.hg
                  have hgl : g < w5.heap.size := (cell_lt2 e0)
                  have hbbg : bb ≠ g := by omega
                  have hbxg : bx ≠ g := fun h => by have := (HH.out.hown.lt g (by rfl)).2; rw [HBX.out, h] at this; exact Nat.lt_irrefl _ this
                  have hdr5 : Below w5.heap.size w5 w5.drew := ⟨rfl, rfl, rfl, Nat.le_refl _, fun _ _ => rfl⟩
                  clear hbad hgf e0
                  go_wp2
                  go_region_held3 (fun w' => w'.cell? ⟨bb, off2 + q * 2 + 1, none⟩ = some (.string f.t) ∧ w'.cell? ⟨bx, 1, none⟩ = some (.slice pA pl.length pc) ∧ w'.cell? ⟨g, q * 2 + 1, none⟩ = some (curAt w' g (q * 2 + 1)) ∧ w'.frozen? ⟨g, q * 2 + 1, none⟩ = false)
                    (first
                      | exact ⟨u0, u1, y5, e1⟩
                      | (go_keep; done)
                      | (go_split_ands
                         refine ⟨?_, ?_, ?_, ?_⟩
                         · (rw [hb6.cell (p := ⟨bb, off2 + q * 2 + 1, none⟩) hbb5]; assumption)
                         · (rw [hb6.cell (p := ⟨bx, 1, none⟩) hsw5]; assumption)
                         · (refine curAt_below ?_ hb6 hgl; assumption)
                         · (rw [hb6.frozen (p := ⟨g, q * 2 + 1, none⟩) hgl]; assumption))
                      | (go_split_ands
                         refine ⟨?_, ?_, ?_, ?_⟩
                         · (refine cell_far ?_ hbbg _; assumption)
                         · (refine cell_far ?_ hbxg _; assumption)
                         · (refine curAt_set ?_ _; assumption)
                         · go_keep))
                    ((go_at_call 75; refine (HAP _ (HE5.out.after hdr5)).out.mono ?_; rintro r w6 ⟨rfl, hb6⟩))
                  have hb6' : Below w5.heap.size w5 w6 := hdr5.trans hb6
                  have hown6 := (HO5.out.below hb6').set_ (t := ⟨(ap f.t.data.toList 0 pl).toArray⟩) HGF.out
                  have hB6 : Below w.heap.size w (w6.setCell ⟨g, q * 2 + 1, none⟩ (.string ⟨(ap f.t.data.toList 0 pl).toArray⟩)) := (hB5.trans (hb6'.mono hB5.size)).setCell (p := ⟨g, q * 2 + 1, none⟩) hgw _
                  have HO6 := Lib.hid hown6
                  have HB6 := Lib.hid hB6
                  clear hown6 hB6 hb6 hb6' y5 e1 u0 u1
                  generalize w6.setCell ⟨g, q * 2 + 1, none⟩ (.string ⟨(ap f.t.data.toList 0 pl).toArray⟩) = W7 at *
                  go_wp2
                  go_roundw
                  case rel => exact ⟨j + 1, nums ++ [q], _, B, by go_num, rfl, HH.out.put_ (p := (pn, pl)) HOK.out.1 HE.out (by rw [HX.out]; rfl) (by omega) (fun h => by have h1 := HPB.out.1 h; have h2 := HBG.out; omega) HFQ.out HGF.out HB6.out HO6.out⟩
                  case measure => simp [intOf]; omega
      · obtain rfl : k = m.length := by omega
        have hpf : prun l (m.map pd) = (0, nums) := by have := HH.out.hpr; rwa [List.take_of_length_le (by simp)] at this
        have HPF := Lib.hid hpf
        clear hpf
        have hbb : (B = true) ↔ Pbig l (m.map pd) := by
          rw [HH.out.hbig]
          unfold Pbig
          rw [HPF.out]
          constructor
          · rintro ⟨i, n, p, _, h2, h3, h4⟩; exact ⟨i, n, p, h2, h3, h4⟩
          · rintro ⟨i, n, p, h2, h3, h4⟩; exact ⟨i, n, p, by have := (List.getElem?_eq_some_iff.1 h3).1; simpa using this, h2, h3, h4⟩
        have HBB := Lib.hid hbb
        clear hbb
        cases B with
        | true =>
          go_wp2
          go_ret2
          exact HBIG.out _ _ (by rw [HPF.out]) (HBB.out.1 (by first | rfl | trivial)) (AplR.bad hBk)
        | false =>
          go_wp2
          go_ret2
          refine HOKE.out _ _ (by rw [HPF.out]) (fun h => by have := HBB.out.2 h; cases this) ?_
          rw [HPF.out, List.length_map]
          have hst := HH.out.hap (by first | rfl | trivial)
          refine ⟨some ⟨g, 0, none⟩, c3, ?_, ?_, hBk⟩
          · rw [← hst, HH.out.hst]; rfl
          · rw [← hst]; exact HH.out.hown.fls
end Go.Proofs.Ytfkpnfhhmldodaa
