/- Contracts: EqualFunc by names, Diff. -/
import Derived.Test.YtfkpnfhhmldodaaFilesChange
import Derived.Test.YtfkpnfhhmldodaaFilesOwn
namespace Go.Proofs.Ytfkpnfhhmldodaa
open Go.RowKit EditMath FilesMath

/-- an error by its number -/
def er (n : Int) : Value := if n = 0 then .nilIface else errn n
theorem num_er (n : Int) (hn : 0 ≤ n) (w : World) : Calls Try.prog 19 #[er n] w fun e w' => e = .returned (.int .i64 n) ∧ w = w' := by
  unfold er
  by_cases h : n = 0
  · subst h; exact num_nil w
  · rw [if_neg h]; exact num_errno n (by omega) w

/-- the same names in the same order -/
def SameN (a b : List Fl) : Prop := a.length = b.length ∧ ∀ (i : Nat) (x y : Fl), a[i]? = some x → b[i]? = some y → x.n = y.n
open Classical in
noncomputable def sameN (a b : List Fl) : Bool := decide (SameN a b)
theorem sameN_yes {a b : List Fl} (h : SameN a b) : sameN a b = true := by simp [sameN, h]
theorem sameN_no {a b : List Fl} (h : ¬ SameN a b) : sameN a b = false := by simp [sameN, h]
theorem sameN_iff {a b : List Fl} : sameN a b = true ↔ SameN a b := by simp [sameN]

theorem enters80 : ∀ args w, (callFunc 80 args).run Try.prog w = .ok (.enter 80 args) w := enters_of Try.func80 (by kernel_rfl) rfl

set_option maxHeartbeats 400000 in
theorem diff1_any (x y : Fl) (w : World) :
    Calls Try.prog 80 #[flv x, flv y] w fun e w' => e = .returned (.bool (decide (x.n = y.n))) ∧ Below w.heap.size w w' := by
  have hb := str_beq x.n y.n
  go_enter Try.func80, Try.ntmps80
  go_wp2
  go_ret
  exact ⟨rfl, below2 _ _ _⟩

set_option maxRecDepth 100000 in
set_option maxHeartbeats 2000000 in
theorem equalF_any (A A2 : Option Addr) (c c2 : Nat) (a b : List Fl) (w : World) (hl : a.length ≤ 30) (_hl2 : b.length ≤ 30) (hr : Fls w w.heap.size A a) (hr2 : Fls w w.heap.size A2 b) :
    Calls Try.prog 79 #[.slice A a.length c, .slice A2 b.length c2, .func (.func 80) #[] #[]] w fun e w' => e = .returned (.bool (sameN a b)) ∧ Below w.heap.size w w' := by
  have eg := enters80
  by_cases hn : a.length = b.length
  · have d0 : ((a.length : Int) != b.length) = false := by simp [hn]
    go_enter Try.func79, Try.ntmps79
    have HN0 := Lib.hid hn
    clear hn
    go_wp2
    go_loopw [7, 8, 9, 17] (fun _ _ _ i wr => ∃ k : Nat, k ≤ a.length ∧ i = .int .i64 k ∧ Below w.heap.size w wr ∧ Hid (∀ (i : Nat) (x y : Fl), i < k → a[i]? = some x → b[i]? = some y → x.n = y.n)) (fun _ _ _ i _ => a.length - (intOf i).toNat)
    case atStart => exact ⟨0, Nat.zero_le _, rfl, Below.refl _ _, Lib.hid (fun i x y hi _ _ => absurd hi (Nat.not_lt_zero _))⟩
    case round =>
      obtain ⟨k, hk, rfl, hB, HN⟩ := hrel
      by_cases hlt : k < a.length
      · have hlt2 : k < b.length := by rw [← HN0.out]; exact hlt
        have he : a[k]? = some a[k] := List.getElem?_eq_getElem hlt
        have hf : b[k]? = some b[k] := List.getElem?_eq_getElem hlt2
        generalize a[k] = e at he
        generalize b[k] = f at hf
        obtain ⟨bb, off, rfl, hb, c0, c1⟩ := (hr.below hB).at_ he
        obtain ⟨b2, off2, rfl, hb2, g0, g1⟩ := (hr2.below hB).at_ hf
        have HC := fun W => Lib.hid (diff1_any e f W)
        have HE := Lib.hid he
        have HF := Lib.hid hf
        clear he hf
        have z0 : (0 : Int) ≤ k := by omega
        have z1 : (k : Int) < a.length := by omega
        have z2 : (k : Int) < b.length := by omega
        have k0 : (wr.alloc (.cells #[.string e.n, .string e.t] 58)).cell? ⟨b2, off2 + k * 2, none⟩ = some (.string f.n) := (World.cell?_alloc_lt _ _ _ (Nat.lt_of_lt_of_le hb2 hB.size)).trans g0
        have k1 : (wr.alloc (.cells #[.string e.n, .string e.t] 58)).cell? ⟨b2, off2 + k * 2 + 1, none⟩ = some (.string f.t) := (World.cell?_alloc_lt _ _ _ (Nat.lt_of_lt_of_le hb2 hB.size)).trans g1
        have hBB := hB.trans ((below2 wr (.cells #[.string e.n, .string e.t] 58) (.cells #[.string f.n, .string f.t] 58)).mono hB.size)
        by_cases hq : e.n = f.n
        · rw [decide_eq_true hq] at HC
          have HQ := Lib.hid hq
          clear hq
          go_wp2_with (go_at_fn 80; refine (HC _).out.mono ?_; rintro r w1 ⟨rfl, hb1⟩)
          go_roundw
          case rel =>
            refine ⟨k + 1, by omega, by go_num, hBB.trans (hb1.mono hBB.size), Lib.hid (fun i x y hi hx hy => ?_)⟩
            by_cases e : i = k
            · subst e; rw [HE.out] at hx; rw [HF.out] at hy; injection hx with hx; injection hy with hy; subst hx; subst hy; exact HQ.out
            · exact HN.out i x y (by omega) hx hy
          case measure => simp [intOf]; omega
        · rw [decide_eq_false hq] at HC
          have HQ := Lib.hid hq
          clear hq
          go_wp2_with (go_at_fn 80; refine (HC _).out.mono ?_; rintro r w1 ⟨rfl, hb1⟩)
          go_ret
          exact ⟨ret_bool (sameN_no (fun h => HQ.out (h.2 k e f HE.out HF.out))).symm, hBB.trans (hb1.mono hBB.size)⟩
      · obtain rfl : k = a.length := by omega
        go_wp2
        go_ret
        exact ⟨ret_bool (sameN_yes ⟨HN0.out, fun i x y hx hy => HN.out i x y (List.getElem?_eq_some_iff.1 hx).1 hx hy⟩).symm, hB⟩
  · have d0 : ((a.length : Int) != b.length) = true := by simp; omega
    go_enter Try.func79, Try.ntmps79
    go_wp2
    go_ret
    exact ⟨ret_bool (sameN_no (fun h => hn h.1)).symm, Below.refl _ _⟩

/-- a patch as plain data -/
def pd (p : Pt) : ByteArray × List Ed := (p.n, p.l)
/-- the patches from a workspace to another one -/
def dfs (a b : List Fl) : List (ByteArray × List Ed) := ((a.zip b).filter fun x => decide (x.1.t ≠ x.2.t)).map fun x => (x.1.n, [dfE x.1.t x.2.t])
theorem zip_snoc {a b : List Fl} {k : Nat} {e f : Fl} (he : a[k]? = some e) (hf : b[k]? = some f) : (a.take (k + 1)).zip (b.take (k + 1)) = (a.take k).zip (b.take k) ++ [(e, f)] := by
  have h1 := (List.getElem?_eq_some_iff.1 he).1
  have h2 := (List.getElem?_eq_some_iff.1 hf).1
  rw [take_snocF he, take_snocF hf, List.zip_append (by rw [List.length_take, List.length_take]; omega)]
  rfl
theorem dfs_same {a b : List Fl} {k : Nat} {e f : Fl} (he : a[k]? = some e) (hf : b[k]? = some f) (h : e.t = f.t) : dfs (a.take (k + 1)) (b.take (k + 1)) = dfs (a.take k) (b.take k) := by
  unfold dfs; rw [zip_snoc he hf]; simp [h]
theorem dfs_more {a b : List Fl} {k : Nat} {e f : Fl} (he : a[k]? = some e) (hf : b[k]? = some f) (h : e.t ≠ f.t) : dfs (a.take (k + 1)) (b.take (k + 1)) = dfs (a.take k) (b.take k) ++ [(e.n, [dfE e.t f.t])] := by
  unfold dfs; rw [zip_snoc he hf]; simp [h]

theorem ne_fl (e d : Fl) (h : e.n = d.n) (w : World) : (binOp .neq 58 (.agg #[.string e.n, .string e.t]) (.agg #[.string d.n, .string d.t])).run Try.prog w = .ok (.bool (!decide (e.t = d.t))) w := by
  have u9 := Try.underlying9
  have a9 := Try.isAgg9
  have z9 := Try.sizeOf9
  have hS : Try.prog.underlying 58 = some (.struct (Try.prog.fieldsOf 58)) := by kernel_rfl
  have hp : Try.prog.stoodInHeld 58 = false := by kernel_rfl
  have q1 := str_beq e.n d.n
  have q2 := str_beq e.t d.t
  rw [decide_eq_true h] at q1
  rw [run_neq_struct, show (10000 : Nat) = 9999 + 1 from rfl, run_equalIn_agg w 9999 58 _ _ hS hp]
  simp only [Program.fieldsOf, Try.underlying58]
  cases hd : decide (e.t = d.t) <;> rw [hd] at q2 <;> go_simp

end Go.Proofs.Ytfkpnfhhmldodaa
