/- tree.Path, whole. -/
import Derived.Test.YtjnclchbklehgaaTreePath
namespace Go.Proofs.Ytjnclchbklehgaa
open Go.RowKit Go.Shelf TreeMath

def pthT (a : Int) : Tr → List Int := fold (fun k _ _ _ _ _ kids r => k :: (((kids.zip r).find? fun p => hasB a p.1).map (·.2)).getD [])
/-- the kinds of the nodes that have a byte, from a list of nodes down -/
def pth (a : Int) (l : List Tr) : List Int := ((l.find? (hasB a)).map (pthT a)).getD []
theorem find_zip {p : Tr → Bool} {f : Tr → List Int} (l : List Tr) : ((l.zip (l.map f)).find? fun x => p x.1).map (·.2) = (l.find? p).map f := by
  induction l with
  | nil => rfl
  | cons y l ih =>
    simp only [List.map_cons, List.zip_cons_cons, List.find?_cons]
    cases p y
    · exact ih
    · rfl
theorem pthT_eq (a : Int) (T : Tr) : pthT a T = T.k :: pth a T.kids := by
  unfold pthT
  rw [fold_eq]
  unfold pth
  rw [find_zip]
  rfl
theorem pth_hit {a : Int} {l : List Tr} {i : Nat} {x : Tr} (hx : l[i]? = some x) (h : idxT (hasB a) l = i) : pth a l = x.k :: pth a x.kids := by
  unfold idxT at h
  unfold pth
  cases hf : l.findIdx? (hasB a) with
  | none => rw [hf] at h; simp at h
  | some j =>
    rw [hf] at h
    obtain rfl : j = i := by simp at h; omega
    have : l.find? (hasB a) = some x := by
      rw [List.find?_eq_some_iff_getElem]
      obtain ⟨h1, h2, h3⟩ := List.findIdx?_eq_some_iff_getElem.1 hf
      have hxx := (List.getElem?_eq_some_iff.1 hx).2
      exact ⟨by rw [← hxx]; exact h2, j, h1, hxx, fun k hk => by simpa using h3 k hk⟩
    rw [this]
    exact pthT_eq a x
theorem pth_miss {a : Int} {l : List Tr} (h : idxT (hasB a) l = -1) : pth a l = [] := by
  unfold idxT at h
  unfold pth
  cases hf : l.findIdx? (hasB a) with
  | none =>
    rw [List.findIdx?_eq_none_iff] at hf
    have : l.find? (hasB a) = none := by rw [List.find?_eq_none]; exact fun x hx => by simp [hf x hx]
    rw [this]; rfl
  | some j => rw [hf] at h; simp at h

theorem idxT_cases (p : Tr → Bool) (l : List Tr) : idxT p l = -1 ∨ ∃ i x, l[i]? = some x ∧ idxT p l = (i : Nat) := by
  unfold idxT
  cases hf : l.findIdx? p with
  | none => exact .inl rfl
  | some j =>
    obtain ⟨h1, _, _⟩ := List.findIdx?_eq_some_iff_getElem.1 hf
    exact .inr ⟨j, l[j], List.getElem?_eq_getElem h1, rfl⟩

def kcells (L : List Int) : List Value := L.map fun x => .int .i64 x
/-- a row of kinds of the call's own -/
def OwnK (w : World) (base : Nat) (A : Option Addr) (c : Nat) (L : List Int) : Prop := w.ownsRow base 22 1 (.slice A L.length c) L.length (kcells L)
theorem info_kind : (Try.prog.info? 22).map (fun i => (i.zero, i.size, i.bytes)) = some (some (.int .i64 0), 1, 8) := by kernel_rfl
theorem wpList_append_kind {ops : Array Oper} {rest : List Oper} {o : Oper} {a : Act} {Q : Exit → Act → World → Prop} (hgd : o.guard = none) (s x : Operand)
    (ho : o.op = .call { callee := .builtin .append, args := #[s, x], argTypes := #[56, 56] }) (W : World) (base : Nat) (A : Option Addr) (c : Nat) (L : List Int) (y : Int)
    (hs : a.eval s = .slice A L.length c) (hx : a.eval x = .slice (some ⟨W.heap.size, 0, none⟩) 1 1) (hown : OwnK W base A c L) (hn : L.length ≤ 10000000) (hbase : base ≤ W.heap.size)
    (h : ∀ A' c' w', OwnK w' base A' c' (L ++ [y]) → W.grownBy w' (Value.slice A L.length c).ownBlock → wpList Try.prog ops Q rest (a.put o.dst (.slice A' (L ++ [y]).length c')) w') :
    wpList Try.prog ops Q (o :: rest) a (W.alloc (.cells #[.int .i64 y] 22)) := by
  obtain ⟨i0, hi, hz0, hz1, hz2⟩ := info_parts info_kind
  refine wpList_append_own_at _ hgd s x 56 ho base 22 i0 _ 1 8 Try.underlying56 hi hz0 hz1 hz2 rfl (by decide) _ _ _ hs (World.ownsRow.alloc hown _) ⟨W.heap.size, 0, none⟩ 1 1 [.int .i64 y] hx rfl
    (World.news_of_block (cs := #[.int .i64 y]) (World.alloc_heap_new W _)) (by intro u hu; simp at hu; subst hu; rfl) (by unfold maxLen; omega) (by omega) (by simp; omega) ?_
  intro v' w' hown' hgrow _ _
  obtain ⟨A', c', rfl⟩ : ∃ A' c', v' = .slice A' (L.length + 1) c' := by
    rcases hown'.2 with ⟨hv, hn⟩ | ⟨g, cap, cur, hv, _⟩
    · omega
    · exact ⟨_, _, hv⟩
  have e1 : L.length + 1 = (L ++ [y]).length := by simp
  have e2 : kcells L ++ [.int .i64 y] = kcells (L ++ [y]) := by simp [kcells]
  rw [e1, e2] at hown'
  have := h A' c' w' hown' ((World.grownBy_alloc W _ _).trans hgrow)
  rwa [← e1] at this

theorem ownk_less {w : World} {B B' : Nat} {A : Option Addr} {c : Nat} {L : List Int} (h : OwnK w B A c L) (hB : B' ≤ B) : OwnK w B' A c L := by
  refine ⟨h.1, ?_⟩
  rcases h.2 with h2 | ⟨g, cap, cur, hv, hb, r⟩
  · exact .inl h2
  · exact .inr ⟨g, cap, cur, hv, Nat.le_trans hB hb, r⟩
theorem ownk_below {w w' : World} {B : Nat} {A : Option Addr} {c : Nat} {L : List Int} (h : OwnK w B A c L) (hb' : Below w.heap.size w w') : OwnK w' B A c L := by
  refine ⟨h.1, ?_⟩
  rcases h.2 with h2 | ⟨g, cap, cur, hv, hb, hg, r⟩
  · exact .inl h2
  · exact .inr ⟨g, cap, cur, hv, hb, (hb'.block g (Array.getElem?_eq_some_iff.1 hg).1).trans hg, r⟩

/-- what tree.Path answers -/
def PthV (L : List Int) (w : World) (e : Ending) (w' : World) : Prop := ∃ A c, e = .returned (.slice A L.length c) ∧ OwnK w' w.heap.size A c L ∧ Below w.heap.size w w'
def PthR (a : Int) (L : List Int) (W0 : World) (p nx i : Value) (wr : World) : Prop := ∃ (pre : List Int) (m : List Tr) (A : Option Addr) (c : Nat) (An : Option Addr) (cn : Nat), p = .slice A pre.length c ∧ nx = .slice An m.length cn ∧ i = .int .i64 (idxT (hasB a) m) ∧ pre ++ pth a m = L ∧
  m.length ≤ 5000 ∧ (∀ x ∈ m, pre.length + wt x ≤ 5000) ∧ Tks (lo W0.heap.size) wr An m ∧ (∀ x ∈ m, Tn (lo W0.heap.size) wr x) ∧ OwnK wr W0.heap.size A c pre ∧ Below W0.heap.size W0 wr
def slen : Value → Nat | .slice _ n _ => n | _ => 0

set_option maxRecDepth 100000 in
set_option maxHeartbeats 800000 in
theorem path_any (T : Tr) (a : Int) (w : World) (hw : wt T ≤ 5000) (hT : Tn (lo w.heap.size) w T) :
    Calls Try.prog 23 #[nv T, .int .i64 a] w (PthV (if rgt T = true then pth a [T] else []) w) := by
  have hB1 := below2 w (nbx T) (ibx a)
  have HR := Lib.hid (right_any T ((w.alloc (nbx T)).alloc (ibx a)) ((hT.below hB1).more hB1.size) hw)
  have HB := Lib.hid hB1
  have HT := Lib.hid hT
  have HI : Hid (∀ (W : World) (m : List Tr) (A : Option Addr) (c : Nat), W.heap[w.heap.size + 1]? = some (ibx a) → m.length ≤ 5000 → (∀ x ∈ m, wt x ≤ 5000) → Tks (lo W.heap.size) W A m → (∀ x ∈ m, Tn (lo W.heap.size) W x) →
      Calls Try.prog 46 #[.slice A m.length c, .func (.func 45) #[] #[.pointer (some ⟨w.heap.size + 1, 0, none⟩)]] W fun e w' => e = .returned (.int .i64 (idxT (hasB a) m)) ∧ Below W.heap.size W w') := Lib.hid fun W m A c hg hm hwt hr hn => by
    refine indexT_any A c m _ _ eg_path1 (hasB a) W (by omega) hr fun W2 x hx hB => ?_
    exact has_any a (w.heap.size + 1) x W2 (((hn x hx).below hB).more hB.size) (hwt x hx) ((hB.block _ (Array.getElem?_eq_some_iff.1 hg).1).trans hg)
  have HW := Lib.hid hw
  clear hB1 hT hw
  go_enter Try.func23, Try.ntmps23
  cases hr : rgt T with
  | false =>
    rw [hr] at HR
    go_wp2_with fail
    refine HR.out.mono ?_
    rintro e w1 ⟨rfl, hb1⟩
    have HB1 := Lib.hid (HB.out.trans (hb1.mono HB.out.size))
    clear hb1
    go_wp2
    go_ret
    exact ⟨none, 0, rfl, World.ownsRow_nil _ _ _ _, HB1.out⟩
  | true =>
    rw [hr] at HR
    go_wp2_with fail
    refine HR.out.mono ?_
    rintro e w1 ⟨rfl, hb1⟩
    have hc1 := box5 ((below1 (w.alloc (nbx T)) (ibx a)).trans (hb1.mono (by simp)))
    have HB1 := Lib.hid (HB.out.trans (hb1.mono HB.out.size))
    have hg1 := (hb1.block (w.heap.size + 1) (by simp)).trans (show ((w.alloc (nbx T)).alloc (ibx a)).heap[w.heap.size + 1]? = some (ibx a) from by have := heap_alloc_new (w.alloc (nbx T)) (ibx a); rwa [World.size_alloc] at this)
    have HG1 := Lib.hid hg1
    clear hb1 hg1
    go_wp2_with fail
    obtain ⟨W0, hW0⟩ : ∃ W0, w1.alloc (nbx T) = W0 := ⟨_, rfl⟩
    have hB10 : Below w1.heap.size w1 W0 := by rw [← hW0]; exact below1 w1 _
    have HB0 := Lib.hid (HB1.out.trans (hB10.mono HB1.out.size))
    have hb0 : W0.heap[w1.heap.size]? = some (nbx T) := by rw [← hW0]; exact heap_alloc_new w1 _
    have hl0 : w1.heap.size < W0.heap.size := (Array.getElem?_eq_some_iff.1 hb0).1
    have HG0 := Lib.hid ((hB10.block _ (Array.getElem?_eq_some_iff.1 HG1.out).1).trans HG1.out)
    have HK0 : Hid (Tks (lo W0.heap.size) W0 (some ⟨w1.heap.size, 0, none⟩) [T]) := Lib.hid fun _ => by
      refine ⟨w1.heap.size, 0, rfl, hl0, fun i x hx => ?_⟩
      have hi := (List.getElem?_eq_some_iff.1 hx).1
      obtain rfl : i = 0 := by simp at hi; omega
      obtain rfl : T = x := by simpa using hx
      exact ⟨cell_heap hb0, cell_heap hb0, cell_heap hb0, cell_heap hb0, cell_heap hb0⟩
    have HN0 : Hid (∀ x ∈ [T], Tn (lo W0.heap.size) W0 x) := Lib.hid fun x hx => by
      obtain rfl := List.mem_singleton.1 hx
      exact (HT.out.below HB0.out).more HB0.out.size
    have HW1 : Hid (∀ x ∈ [T], wt x ≤ 5000) := Lib.hid fun x hx => by
      obtain rfl := List.mem_singleton.1 hx
      exact HW.out
    have HWW := Lib.hid hW0
    clear hB10 hb0 hl0 hc1
    show Calls _ _ _ (w1.alloc (nbx T)) _
    rw [hW0]
    clear hW0
    refine (HI.out W0 [T] (some ⟨w1.heap.size, 0, none⟩) 1 HG0.out (by simp) HW1.out HK0.out HN0.out).mono ?_
    rintro e w2 ⟨rfl, hb2⟩
    have HB2 := Lib.hid hb2
    clear hb2
    obtain ⟨L, hL⟩ : ∃ L, pth a [T] = L := ⟨_, rfl⟩
    rw [hL]
    go_wp2_with fail
    go_loopw [6, 7, 8] (fun p nx i wr => PthR a L W0 p nx i wr) (fun p _ _ _ => 5001 - slen p)
    case atStart => exact ⟨[], [T], none, 0, _, 1, rfl, rfl, rfl, hL, by simp, fun x hx => by have := HW1.out x hx; simpa using this, HK0.out.keep (fun b i hb => cell_of (HB2.out.block b hb)) (fun _ h => h), fun x hx => (HN0.out x hx).below HB2.out, World.ownsRow_nil _ _ _ _, HB2.out⟩
    case round =>
      obtain ⟨pre, m, A, c, An, cn, rfl, rfl, rfl, h1, h2, h3, h4, h5, h6, h7⟩ := hrel
      rcases idxT_cases (hasB a) m with h8 | ⟨i, x, hx, h8⟩
      · have h9 := pth_miss h8
        rw [h8]
        rw [h9, List.append_nil] at h1
        subst h1
        have HLL := Lib.hid hL
        clear h3 h4 h5 h8 h9 hL
        have HO := Lib.hid (ownk_less h6 HB0.out.size)
        have H7 := Lib.hid (HB0.out.trans (h7.mono HB0.out.size))
        go_wp2
        go_ret
        exact ⟨A, c, by rw [HLL.out]; rfl, by rw [HLL.out]; exact HO.out, H7.out⟩
      · have hlt : i < m.length := (List.getElem?_eq_some_iff.1 hx).1
        have hxm : x ∈ m := List.mem_of_getElem? hx
        have h9 := pth_hit hx h8
        rw [h9] at h1
        rw [h8]
        obtain ⟨b, off, rfl, hb, hc⟩ := h4 (by omega)
        obtain ⟨c0, c1, c2, c3, c4⟩ := hc i x hx
        have hwx := h3 x hxm
        have hT1 := (tn_iff.1 (h5 x hxm)).2.1
        have hT2 := fun y (hy : y ∈ x.kids) => (h5 x hxm).kid hy
        have HT1 := Lib.hid hT1
        have HT2 := Lib.hid hT2
        have HO := Lib.hid h6
        have H7 := Lib.hid h7
        have H1 := Lib.hid h1
        have hk0 : x.kids.length < wt x := kids_le
        have hC4 : ∀ w3, Below W0.heap.size W0 w3 → wr.grownBy w3 (Value.slice A pre.length c).ownBlock → w3.cell? ⟨b, off + i * 5 + 4, none⟩ = some (.slice x.A x.kids.length x.c) := fun w3 hB3 hg3 => by
          rw [← c4]
          exact cell_of (hg3.block b (Nat.lt_of_lt_of_le hb H7.out.size) (fun q => by have := (World.ownsRow.lt HO.out b q.symm).1; omega))
        have HC4 := Lib.hid hC4
        clear h1 h3 h4 h5 h6 h7 h8 h9 hc hT1 hT2 hL hC4
        go_wp2_with (first | (at_builtin; refine wpList_append_kind rfl _ _ rfl wr W0.heap.size A c pre x.k rfl rfl HO.out (by omega) H7.out.size ?_; intro A3 c3 w3 hO3 hg3; have hB3 : Below W0.heap.size W0 w3 := H7.out.grown hg3 H7.out.size (fun k e => (World.ownsRow.lt HO.out k e).1); have d4 := HC4.out w3 hB3 hg3) | fail)
        have hs3 := hB3.size
        have hk3 : ∀ y i, lo W0.heap.size y → w3.cell? ⟨y, i, none⟩ = wr.cell? ⟨y, i, none⟩ := fun y i hy => cell_of (hg3.block y (Nat.lt_of_lt_of_le hy H7.out.size) (fun q => by have := (World.ownsRow.lt HO.out y q.symm).1; omega))
        have HK3 := Lib.hid (HT1.out.keep hk3 (fun _ h => h))
        have HN3 := Lib.hid (fun y hy => (HT2.out y hy).keep hk3 (fun _ h => h))
        have HY : Hid (∀ y ∈ x.kids, wt y < wt x) := Lib.hid fun y hy => wt_kid hy
        refine (HI.out w3 x.kids x.A x.c ((hB3.block _ (Array.getElem?_eq_some_iff.1 HG0.out).1).trans HG0.out) (by omega) (fun y hy => by have := HY.out y hy; omega) (HK3.out.keep (fun _ _ _ => rfl) fun b hb => Nat.lt_of_lt_of_le hb hs3) (fun y hy => (HN3.out y hy).keep (fun _ _ _ => rfl) fun b hb => Nat.lt_of_lt_of_le hb hs3)).mono ?_
        rintro e w4 ⟨rfl, hb4⟩
        have HB4 := Lib.hid hb4
        have HB3 := Lib.hid hB3
        have HO3 := Lib.hid hO3
        have hb5 : ∀ y i, lo W0.heap.size y → w4.cell? ⟨y, i, none⟩ = w3.cell? ⟨y, i, none⟩ := fun y i hy => cell_of (HB4.out.block y (Nat.lt_of_lt_of_le hy hs3))
        have HR4 : Hid (PthR a L W0 (.slice A3 (pre ++ [x.k]).length c3) (.slice x.A x.kids.length x.c) (.int .i64 (idxT (hasB a) x.kids)) w4) := Lib.hid ⟨pre ++ [x.k], x.kids, A3, c3, x.A, x.c, rfl, rfl, rfl, by rw [List.append_assoc]; exact H1.out, by omega, fun y hy => by have := HY.out y hy; rw [List.length_append, List.length_singleton]; omega, HK3.out.keep hb5 (fun _ h => h), fun y hy => (HN3.out y hy).keep hb5 (fun _ h => h), ownk_below HO3.out HB4.out, HB3.out.trans (HB4.out.mono hs3)⟩
        clear hb4 hB3 hO3 hb5 hk3 hg3
        rw [List.length_append, List.length_singleton] at HR4
        go_wp2_with fail
        go_roundw
        case rel => exact HR4.out
        case measure => simp [slen]; omega
end Go.Proofs.Ytjnclchbklehgaa
