/- The law ShiftKeeps, walked. -/
import Derived.Test.YtajdpbgpoadcgaaShiftKept
import Derived.Test.YtajdpbgpoadcgaaShiftGoesWalk
namespace Go.Proofs.Ytajdpbgpoadcgaa
open Go.RowKit Go.Shelf EditMath ShiftMath

attribute [local go_sem] Oper.semAt_some

theorem stop_z (x : Int) : 1 ≤ wrap64 (1 + wrap64 ((IntKind.u64.wrap x).tmod 40)) ∧ wrap64 (1 + wrap64 ((IntKind.u64.wrap x).tmod 40)) ≤ 40 := by
  have h0 : 0 ≤ IntKind.u64.wrap x := by
    simp only [IntKind.wrap, IntKind.signed, IntKind.bits]
    simp
    omega
  rw [Int.tmod_eq_emod_of_nonneg h0]
  generalize IntKind.u64.wrap x = u at *
  unfold wrap64
  omega

def keL (l : List Ed) (size : Int) : List Pc := if rt l size = true then (pcs l size).filter went else []
theorem kept_any (A : Option Addr) (c : Nat) (l : List Ed) (size : Int) (w : World) (hl : l.length ≤ 31) (hsz : size ≤ 500) (htx : tx l ≤ 500) (hr : Eds w w.heap.size A l) :
    Calls Try.prog 18 #[.slice A l.length c, .int .i64 size] w (KeV (keL l size) w) := by
  cases hR : rt l size with
  | false => have := kept_bad A c l size w (by omega) hr hR; rwa [show keL l size = [] by simp [keL, hR]]
  | true => have := kept_ok A c l size w (by omega) hr hR (by omega) (small_of hR (by omega) (by omega)); rwa [show keL l size = (pcs l size).filter went by simp [keL, hR]]
theorem keL_ok {l : List Ed} {size : Int} (hsz : size ≤ 500) (htx : tx l ≤ 500) : ∀ p ∈ keL l size, PcOk p ∧ p.f < p.t := by
  intro p hp
  unfold keL at hp
  split at hp
  · rename_i hR
    obtain ⟨hp1, hp2⟩ := List.mem_filter.1 hp
    exact ⟨pcs_ok (small_of hR (by omega) (by omega)) (rt_parts hR).1 (by omega) p hp1, (((pcs_pos hR).2.1 p hp1).1 hp2).2⟩
  · cases hp
theorem keL_length (l : List Ed) (size : Int) (hl : l.length ≤ 31) : (keL l size).length ≤ 1000 := by
  unfold keL
  split
  · exact Nat.le_trans (List.length_filter_le _ _) (by have := pcs_length l size; omega)
  · simp
theorem keL_asc (l : List Ed) (size : Int) : (keptL (keL l size)).Pairwise lt2 ∧ ∀ u ∈ keptL (keL l size), 0 ≤ u.1 ∧ 0 ≤ u.2 ∧ u.1 < size := by
  unfold keL
  split
  · rename_i hR
    obtain ⟨hP, hW, _⟩ := pcs_pos hR
    obtain ⟨h1, h2⟩ := kept_asc _ 0 size 0 (pcs_asc hR) hP hW
    exact ⟨h1, fun u hu => ⟨(h2 u hu).1, (h2 u hu).2.2, (h2 u hu).2.1⟩⟩
  · exact ⟨List.Pairwise.nil, fun u hu => by simp [keptL] at hu⟩

def lastOf (pre : List (Int × Int)) : Int × Int := pre.getLast?.getD (-1, -1)
theorem lastOf_snoc (pre : List (Int × Int)) (x : Int × Int) : lastOf (pre ++ [x]) = x := by simp [lastOf]
theorem last_lt {K pre : List (Int × Int)} {x : Int × Int} (hK : K.Pairwise lt2) (hn : ∀ u ∈ K, 0 ≤ u.1 ∧ 0 ≤ u.2) (hp : (pre ++ [x]) <+: K) : (lastOf pre).1 < x.1 ∧ (lastOf pre).2 < x.2 := by
  unfold lastOf
  cases h : pre.getLast? with
  | none =>
    obtain ⟨r, rfl⟩ := hp
    have := hn x (by simp)
    simp
    omega
  | some u => exact kept_next hK hp u (List.mem_of_getLast? h)

/-- a block that is as it was -/
def Same (w3 : World) (A : Option Addr) : As := fun X W => w3.heap.size ≤ W.heap.size ∧ ∀ a, A = some a → a.block < w3.heap.size → ¬ X a.block ∧ W.heap[a.block]? = w3.heap[a.block]?
theorem Same.frames (w3 : World) (A : Option Addr) : Frames (Same w3 A) := fun X X' W W' h ho hx =>
  ⟨Nat.le_trans h.1 ho.size, fun a ha hlt => ⟨fun hX => (hx _ hX).elim (h.2 a ha hlt).1 (fun hle => by have := h.1; omega), (ho.block _ (by have := h.1; omega) (h.2 a ha hlt).1).trans (h.2 a ha hlt).2⟩⟩
theorem Same.rdc {w3 W : World} {A : Option Addr} {X : Nat → Prop} {cs : List Value} (h : Same w3 A X W) (hr : Rdc w3 w3.heap.size A cs) : Rdc W w3.heap.size A cs := fun hn => by
  obtain ⟨b, off, e, hb, hc⟩ := hr hn
  exact ⟨b, off, e, hb, fun j u hu => (World.cell?_of_block (a := ⟨b, off + j, none⟩) (h.2 _ e hb).2).trans (hc j u hu)⟩
theorem Same.set {w3 W : World} {A : Option Addr} {X : Nat → Prop} {b : Nat} {v : Value} (h : Same w3 A X W) (hb : ∀ a, A = some a → a.block ≠ b) : Same w3 A X (W.setCell ⟨b, 0, none⟩ v) :=
  ⟨by simp only [World.setCell, Array.size_modify]; exact h.1, fun a ha hlt => ⟨(h.2 a ha hlt).1, (Below.heap_setCell W _ _ _ (hb a ha)).trans (h.2 a ha hlt).2⟩⟩

/-- the law's boxes -/
structure KsH (y0 y1 : Nat) (z n a b : Int) (v : Value) (X : Nat → Prop) (W : World) : Prop where
  h1 : Has y0 (.cells #[.int .i64 z] 3 (0, 0)) X W
  h2 : Has (y0 + 1) (.cells #[.bool false] 4 (0, 0)) X W
  h3 : Has y1 (.cells #[.int .i64 n] 3 (0, 0)) X W
  h4 : Has (y1 + 1) (.cells #[.int .i64 a] 3 (0, 0)) X W
  h5 : Has (y1 + 1 + 1) (.cells #[.int .i64 b] 3 (0, 0)) X W
  h6 : Has (y1 + 1 + 1 + 1) (.cells #[v] 71 (0, 0)) X W
theorem KsH.frames (y0 y1 : Nat) (z n a b : Int) (v : Value) : Frames (KsH y0 y1 z n a b v) := fun X X' W W' h ho hx =>
  ⟨Has.frames _ _ X X' W W' h.h1 ho hx, Has.frames _ _ X X' W W' h.h2 ho hx, Has.frames _ _ X X' W W' h.h3 ho hx, Has.frames _ _ X X' W W' h.h4 ho hx, Has.frames _ _ X X' W W' h.h5 ho hx, Has.frames _ _ X X' W W' h.h6 ho hx⟩

def KsI (w w3 : World) (y1 : Nat) (z : Int) (A : Option Addr) (v : Value) (pre : List (Int × Int)) : As := fun X W =>
  Low w.heap.size w X W ∧ KsH w.heap.size y1 z pre.length (lastOf pre).1 (lastOf pre).2 v X W ∧ Same w3 A X W ∧ (pre.length : Int) < z
theorem KsI.frames (w w3 : World) (y1 : Nat) (z : Int) (A : Option Addr) (v : Value) (pre : List (Int × Int)) : Frames (KsI w w3 y1 z A v pre) := (Low.frames _ _).and ((KsH.frames _ _ _ _ _ _ _).and ((Same.frames _ _).and (Frames.pure _)))
/-- what is there behind the loop -/
def KsT (w : World) (y1 : Nat) (z n : Int) : As := fun X W => Low w.heap.size w X W ∧ Has w.heap.size (.cells #[.int .i64 z] 3 (0, 0)) X W ∧ Has (w.heap.size + 1) (.cells #[.bool false] 4 (0, 0)) X W ∧ Has y1 (.cells #[.int .i64 n] 3 (0, 0)) X W
theorem KsT.frames (w : World) (y1 : Nat) (z n : Int) : Frames (KsT w y1 z n) := (Low.frames _ _).and ((Has.frames _ _).and ((Has.frames _ _).and (Has.frames _ _)))
def KsX (w : World) (y1 : Nat) (z : Int) (c : Code) (pre : List (Int × Int)) : As := fun X W => c = .exit 0 ∧ KsT w y1 z pre.length X W ∧ (pre.length : Int) = z

abbrev ksFrm (y0 y1 : Nat) (A : Option Addr) (n c : Nat) (size x z : Int) (p : Int × Int) : Act := { tmps := #[.slice A n c, .int .i64 size, .int .i64 x, undef, undef, .pointer (some ⟨y0, 0, none⟩), .pointer (some ⟨y0 + 1, 0, none⟩), .pointer (some ⟨y1, 0, none⟩), .pointer (some ⟨y1 + 1, 0, none⟩), .pointer (some ⟨y1 + 1 + 1, 0, none⟩), .int .i64 p.1, .int .i64 p.2, undef, undef, undef, undef, undef, undef, .bool true, .bool false, .int .i64 size, .slice A n c, .bool false, .int .i64 x, .int .u64 (IntKind.u64.wrap x), .int .u64 ((IntKind.u64.wrap x).tmod 40), .int .i64 (wrap64 ((IntKind.u64.wrap x).tmod 40)), .int .i64 z, .slice A n c, .int .i64 size, .func (.func 32) #[] #[.pointer (some ⟨y1 + 1 + 1 + 1, 0, none⟩)], .int .i64 p.1, .int .i64 p.2, undef, undef, undef, undef, undef, undef, undef, undef, undef, undef, undef, undef, undef, undef, undef, undef, undef, undef, undef, undef, undef, undef, undef, undef, undef, undef, undef, undef, undef, undef, undef, undef, undef, undef, undef, undef, undef, undef, undef, undef, undef, undef, undef, undef, undef, undef, undef, undef, undef, undef, undef, undef, undef, undef, undef, undef], defers := [] }

theorem ks_step {w w3 W : World} {y1 : Nat} {z n0 la lb n : Int} {p : Int × Int} {A : Option Addr} {v : Value} {X : Nat → Prop} (hlow : Low w.heap.size w X W) (hh : KsH w.heap.size y1 z n0 la lb v X W) (hsame : Same w3 A X W) (hlt : w.heap.size + 1 < y1)
    (hb : ∀ a, A = some a → y1 + 1 + 1 + 1 < a.block) :
    W.heap.size ≤ (((W.setCell ⟨y1 + 1, 0, none⟩ (.int .i64 p.1)).setCell ⟨y1 + 1 + 1, 0, none⟩ (.int .i64 p.2)).setCell ⟨y1, 0, none⟩ (.int .i64 n)).heap.size ∧
    Kept X W (((W.setCell ⟨y1 + 1, 0, none⟩ (.int .i64 p.1)).setCell ⟨y1 + 1 + 1, 0, none⟩ (.int .i64 p.2)).setCell ⟨y1, 0, none⟩ (.int .i64 n)) ∧
    Low w.heap.size w X (((W.setCell ⟨y1 + 1, 0, none⟩ (.int .i64 p.1)).setCell ⟨y1 + 1 + 1, 0, none⟩ (.int .i64 p.2)).setCell ⟨y1, 0, none⟩ (.int .i64 n)) ∧
    KsH w.heap.size y1 z n p.1 p.2 v X (((W.setCell ⟨y1 + 1, 0, none⟩ (.int .i64 p.1)).setCell ⟨y1 + 1 + 1, 0, none⟩ (.int .i64 p.2)).setCell ⟨y1, 0, none⟩ (.int .i64 n)) ∧
    Same w3 A X (((W.setCell ⟨y1 + 1, 0, none⟩ (.int .i64 p.1)).setCell ⟨y1 + 1 + 1, 0, none⟩ (.int .i64 p.2)).setCell ⟨y1, 0, none⟩ (.int .i64 n)) := by
  have hsz : (((W.setCell ⟨y1 + 1, 0, none⟩ (.int .i64 p.1)).setCell ⟨y1 + 1 + 1, 0, none⟩ (.int .i64 p.2)).setCell ⟨y1, 0, none⟩ (.int .i64 n)).heap.size = W.heap.size := by simp [World.setCell]
  refine ⟨by omega, ?_, ⟨?_, by have := hlow.2.1; omega, hlow.2.2⟩, ⟨?_, ?_, ?_, ?_, ?_, ?_⟩, ?_⟩
  · exact Kept.trans (by simp [World.setCell]) (Kept.trans (by simp [World.setCell]) (Kept.set hh.h4.1 _ _) (Kept.set hh.h5.1 _ _)) (Kept.set hh.h3.1 _ _)
  · exact ((hlow.1.setCell (p := ⟨y1 + 1, 0, none⟩) (by simp; omega) _).setCell (p := ⟨y1 + 1 + 1, 0, none⟩) (by simp; omega) _).setCell (p := ⟨y1, 0, none⟩) (by simp; omega) _
  · exact ((hh.h1.other (by omega)).other (by omega)).other (by omega)
  · exact ((hh.h2.other (by omega)).other (by omega)).other (by omega)
  · exact ((hh.h3.other (by omega)).other (by omega)).set
  · exact ((hh.h4.set).other (by omega)).other (by omega)
  · exact ((hh.h5.other (by omega)).set).other (by omega)
  · exact ((hh.h6.other (by omega)).other (by omega)).other (by omega)
  · exact ((hsame.set (fun a ha => by have := hb a ha; omega)).set (fun a ha => by have := hb a ha; omega)).set (fun a ha => by have := hb a ha; omega)

theorem ks_ret {w W : World} {D : Nat} {v1 u1 : Value} {t1 : TypeId} (hlow : Low w.heap.size w (· = D) W) (h2 : Has (w.heap.size + 1) (.cells #[u1] t1 (0, 0)) (· = D) W) (hD : W.heap[D]? = some (.deferred (some []))) :
    (W.setCell ⟨w.heap.size + 1, 0, none⟩ v1).heap[D]? = some (.deferred (some [])) ∧ ((W.setCell ⟨w.heap.size + 1, 0, none⟩ v1).putObj D (.deferred none)).cell? ⟨w.heap.size + 1, 0, none⟩ = some v1 ∧
      Below w.heap.size w ((W.setCell ⟨w.heap.size + 1, 0, none⟩ v1).putObj D (.deferred none)) := by
  have ho : Off (· = D) (W.setCell ⟨w.heap.size + 1, 0, none⟩ v1) ((W.setCell ⟨w.heap.size + 1, 0, none⟩ v1).putObj D (.deferred none)) := Off.putObj (X := (· = D)) rfl _ _
  have hl2 : Low w.heap.size w (· = D) (W.setCell ⟨w.heap.size + 1, 0, none⟩ v1) := ⟨hlow.1.setCell (p := ⟨w.heap.size + 1, 0, none⟩) (by simp) _, by have := hlow.2.1; simp only [World.setCell, Array.size_modify]; exact this, hlow.2.2⟩
  exact ⟨(Below.heap_setCell _ _ _ _ (fun e => h2.1 e.symm)).trans hD, ((Has.frames _ _).off (h2.set (v' := v1)) ho).cell, ((Low.frames _ _).off hl2 ho).1⟩

set_option maxRecDepth 100000 in
set_option maxHeartbeats 2000000 in
theorem keeps_in (A : Option Addr) (c : Nat) (l : List Ed) (size x : Int) (hes : ∀ (i : Nat) (e : Ed), l[i]? = some e → (e.s.size : Int) ≤ 140737488355328) (hl : (l.length : Int) ≤ 9223372036854775807) (w : World) (hr : Eds w w.heap.size A l) :
    CallsIn Fence.wide 8 Try.prog 4 #[.slice A l.length c, .int .i64 size, .int .i64 x] w fun e w' => e = .returned (.bool true) ∧ Below w.heap.size w w' := by
  have HS := Lib.hid hes
  clear hes
  refine callsIn_of_wp_marks Try.func4 rfl trivial ?_ rfl
  simp only [Try.ntmps4, List.size_toArray, List.length_cons, List.length_nil, Nat.reduceAdd, Nat.reduceSub, Array.replicate_succ, Array.replicate_zero, List.push_toArray, List.append_toArray, List.nil_append, List.cons_append]
  gi_wp2_with fail
  refine ⟨trivial, ?_⟩
  refine (callsIn_wide.2 (alive_any _)).mono ?_
  rintro e w1 ⟨rfl, hb1⟩
  have hB1 : Below w.heap.size w w1 := (below2 w _ _).trans (hb1.mono (by simp; omega))
  gi_wp2_with fail
  refine ⟨trivial, ?_⟩
  refine (callsIn_wide.2 (large3_any size A c l HS.out hl _ (hr.after hB1))).mono ?_
  rintro e w2 ⟨hv, hb2⟩
  have hB2 := hB1.trans (hb2.mono hB1.size)
  have hk2 : Off no ((w.alloc (.cells #[.int .i64 x] 3)).alloc (.cells #[.bool false] 4)) w2 := (Off.of_below hb1).trans (Off.of_below hb2)
  have h1 : Has w.heap.size (.cells #[.int .i64 x] 3 (0, 0)) no w2 := (Has.frames _ _).off ((Has.newAt (X := no) (fun h => h) rfl _).alloc _) hk2
  have h2 : Has (w.heap.size + 1) (.cells #[.bool false] 4 (0, 0)) no w2 := (Has.frames _ _).off (Has.newAt (X := no) (fun h => h) (by simp) _) hk2
  have q1 := h1.cell (i := 0)
  have q2 := h2.cell (i := 0)
  have f1 := h1.frozen (i := 0)
  have f2 := h2.frozen (i := 0)
  simp only [List.getElem?_toArray, List.getElem?_cons_zero] at q1 q2
  clear hb1 hb2 hk2
  rcases hv with rfl | ⟨rfl, hl31, htx, hsz⟩
  · gi_wp2
    have r2 := (h2.set (v' := .bool true)).cell (i := 0)
    simp only [List.getElem?_toArray, List.getElem?_cons_zero] at r2
    exact ⟨.bool true, by simp [results, Try.results4, go_sem, r2], rfl, hB2.setCell (p := ⟨w.heap.size + 1, 0, none⟩) (by simp) _⟩
  · clear hl
    have hlt2 : w.heap.size + 1 < w2.heap.size := h2.lt
    obtain ⟨hz1, hz2⟩ := stop_z x
    gi_wp2_with fail
    refine ⟨trivial, ?_⟩
    generalize wrap64 (1 + wrap64 ((IntKind.u64.wrap x).tmod 40)) = z at *
    have hB3 : Below w.heap.size w (w2.setCell ⟨w.heap.size, 0, none⟩ (.int .i64 z)) := hB2.setCell (p := ⟨w.heap.size, 0, none⟩) (Nat.le_refl _) _
    have g1 : Has w.heap.size (.cells #[.int .i64 z] 3 (0, 0)) no (w2.setCell ⟨w.heap.size, 0, none⟩ (.int .i64 z)) := h1.set
    have g2 : Has (w.heap.size + 1) (.cells #[.bool false] 4 (0, 0)) no (w2.setCell ⟨w.heap.size, 0, none⟩ (.int .i64 z)) := h2.other (by omega)
    have hsz2 : (w2.setCell ⟨w.heap.size, 0, none⟩ (.int .i64 z)).heap.size = w2.heap.size := by simp [World.setCell]
    generalize hw2 : w2.setCell ⟨w.heap.size, 0, none⟩ (.int .i64 z) = w2' at *
    have hB4 : Below w.heap.size w (((w2'.alloc (.cells #[.int .i64 0] 3)).alloc (.cells #[.int .i64 (-1)] 3)).alloc (.cells #[.int .i64 (-1)] 3)) := hB3.trans ((below3 w2' _ _ _).mono hB3.size)
    refine (callsIn_wide.2 (kept_any A c l size _ hl31 hsz htx (hr.after hB4))).mono ?_
    rintro e w3 ⟨A3, c3, rfl, hbx, hd3, hba3, hb3⟩
    have hs4 : (((w2'.alloc (.cells #[.int .i64 0] 3)).alloc (.cells #[.int .i64 (-1)] 3)).alloc (.cells #[.int .i64 (-1)] 3)).heap.size = w2.heap.size + 1 + 1 + 1 := by simp [hsz2]
    have ho3 : Off no (((w2'.alloc (.cells #[.int .i64 0] 3)).alloc (.cells #[.int .i64 (-1)] 3)).alloc (.cells #[.int .i64 (-1)] 3)) w3 := Off.of_below hb3
    rw [hs4] at hbx hba3 ⊢
    have hB5 : Below w.heap.size w w3 := hB4.trans (hb3.mono hB4.size)
    have hz3 : w2.heap.size + 1 + 1 + 1 < w3.heap.size := (Array.getElem?_eq_some_iff.1 hbx).1
    have hI0 : KsI w w3 w2.heap.size z A3 (.slice A3 (keL l size).length c3) [] no w3 := by
      refine ⟨⟨hB5, hB5.size, fun _ h => h.elim⟩, ⟨?_, ?_, ?_, ?_, ?_, ⟨fun h => h, hbx⟩⟩, ⟨Nat.le_refl _, fun a ha hlt => ⟨fun h => h, rfl⟩⟩, by simp; omega⟩
      · exact (Has.frames _ _).off (((g1.alloc _).alloc _).alloc _) ho3
      · exact (Has.frames _ _).off (((g2.alloc _).alloc _).alloc _) ho3
      · exact (Has.frames _ _).off (((Has.newAt (X := no) (fun h => h) hsz2.symm _).alloc _).alloc _) ho3
      · exact (Has.frames _ _).off ((Has.newAt (X := no) (fun h => h) (by simp [hsz2]) _).alloc _) ho3
      · exact (Has.frames _ _).off (Has.newAt (X := no) (fun h => h) (by simp [hsz2]) _) ho3
    have HD3 := Lib.hid hd3
    have HBA := Lib.hid hba3
    have HII := Lib.hid hI0
    have HSZ := Lib.hid hsz2
    have hLl := keL_length l size hl31
    clear hd3 hba3 hbx hI0 hs4 ho3 g1 g2 hw2 h1 h2 q1 q2 f1 f2 hB4 hB3 hsz2 hb3
    generalize hLL : keL l size = LL at *
    have HLL := Lib.hid hLL
    clear hLL
    gi_wp2
    refine range_post (kept_iter (w2.heap.size + 1 + 1 + 1) A3 c3 LL hLl (by rw [← HLL.out]; exact keL_ok hsz htx)) rfl (enters_of Try.func32 (by kernel_rfl) rfl) (fun _ => rfl)
      (KsI w w3 w2.heap.size z A3 (.slice A3 LL.length c3)) (KsX w w2.heap.size z) (fun pre p a' X W => KsI w w3 w2.heap.size z A3 (.slice A3 LL.length c3) pre X W ∧ a' = ksFrm w.heap.size w2.heap.size A l.length c size x z p) ?fI ?fX ?fA ?hC HII.out 0 (fun _ _ h => h) (fun D W => KsT w w2.heap.size z (min z (keptL LL).length) (· = D) W ∧ W.heap[D]? = some (.deferred (some []))) ?done ?stop ?assign ?body ?tail
    case assign =>
      rintro lq X pre p W1 K hX hXb hi hp hK
      gi_wp2
      exact hK _ _ (Nat.le_refl _) (Kept.refl _ _) ⟨hi, rfl⟩
    case fI => exact fun pre => KsI.frames _ _ _ _ _ _ _
    case fX => exact fun c pre => (Frames.pure _).and ((KsT.frames _ _ _ _).and (Frames.pure _))
    case fA => exact fun pre p a' => (KsI.frames _ _ _ _ _ _ _).and (Frames.pure _)
    case hC =>
      rintro pre X W1 ⟨hlow, hh, hsame, _⟩
      exact ⟨hh.h6, _, hsame.rdc HD3.out, hsame.1⟩
    case done =>
      rintro D W1 ⟨hlow, hh, hsame, hlz⟩ hD
      refine ⟨⟨hlow, hh.h1, hh.h2, ?_⟩, hD⟩
      rw [show min z ((keptL LL).length : Int) = (keptL LL).length by omega]
      exact hh.h3
    case stop =>
      rintro D c pre W1 hp ⟨rfl, ⟨hlow, k1, k2, k3⟩, hlz⟩ hD
      refine ⟨rfl, ⟨hlow, k1, k2, ?_⟩, hD⟩
      have := hp.length_le
      rw [show min z ((keptL LL).length : Int) = (pre.length : Int) by omega]
      exact k3
    case body =>
      rintro lq X pre p a' W1 hX hXb hr2 ⟨⟨hlow, hh, hsame, hlz⟩, rfl⟩ hp
      obtain ⟨ha1, ha2⟩ := keL_asc l size
      rw [HLL.out] at ha1 ha2
      obtain ⟨hp1, hp2⟩ := last_lt ha1 (fun u hu => ⟨(ha2 u hu).1, (ha2 u hu).2.1⟩) hp
      have HLS := Lib.hid (lastOf_snoc pre p)
      clear ha1 ha2 hp
      have q1 := hh.h1.cell (i := 0)
      have q3 := hh.h3.cell (i := 0)
      have q4 := hh.h4.cell (i := 0)
      have q5 := hh.h5.cell (i := 0)
      have f3 := hh.h3.frozen (i := 0)
      have f4 := hh.h4.frozen (i := 0)
      have f5 := hh.h5.frozen (i := 0)
      simp only [List.getElem?_toArray, List.getElem?_cons_zero] at q1 q3 q4 q5
      have hlt1 := hh.h1.lt
      have d1 : decide (p.1 ≤ (lastOf pre).1) = false := decide_eq_false (by omega)
      have d2 : decide (p.2 ≤ (lastOf pre).2) = false := decide_eq_false (by omega)
      generalize (lastOf pre).1 = la at *
      generalize (lastOf pre).2 = lb at *
      have HBN : Hid (∀ a, A3 = some a → w2.heap.size + 1 + 1 + 1 < a.block) := HBA
      have HST := Lib.hid (ks_step (p := p) (n := (pre.length : Int) + 1) hlow hh hsame hlt2 HBN.out)
      gi_wp2
      · rename_i ht
        obtain ⟨s1, s2, s3, s4, s5⟩ := HST.out
        refine ⟨s1, s2, rfl, ⟨s3, s4.h1, s4.h2, ?_⟩, ?_⟩
        · rw [List.length_append]; exact s4.h3
        · have := beq_iff_eq.1 ht
          simp
          omega
      · rename_i ht
        obtain ⟨s1, s2, s3, s4, s5⟩ := HST.out
        refine ⟨s1, s2, s3, ?_, s5, ?_⟩
        · rw [HLS.out, List.length_append]; exact s4
        · have : ¬ ((pre.length : Int) + 1 = z) := by simpa using ht
          simp
          omega
    case tail =>
      rintro D W1 ⟨hT, hD⟩
      have HRR : Hid (∀ W, Below w.heap.size w W → Calls Try.prog 15 #[.slice A l.length c, .int .i64 size] W fun e w' => e = .returned (.bool (rt l size)) ∧ Below W.heap.size W w') := Lib.hid fun W hW => refRight_any A c l size W (by omega) (hr.after hW)
      cases hq : rt l size with
      | false =>
        have hnil : LL = [] := by rw [← HLL.out, keL, if_neg (by rw [hq]; simp)]
        subst hnil
        have hmin : min z ((keptL ([] : List Pc)).length : Int) = 0 := by simp [keptL]; omega
        rw [hmin] at hT
        have HR2 := HRR.out
        rw [hq] at HR2
        have HR3 := Lib.hid HR2
        clear hq HR2 HRR hmin
        gi_wp2_with (refine ⟨trivial, ?_⟩; gi_at_call 15; refine (callsIn_wide.2 (HR3.out _ hT.1.1)).mono ?_; rintro e w4 ⟨rfl, hb4⟩; have hT4 := (KsT.frames _ _ _ _).off hT (Off.of_below hb4); have hD4 := (hb4.block D (Array.getElem?_eq_some_iff.1 hD).1).trans hD; obtain ⟨hlow4, k1, k2, k3⟩ := hT4; have q3 := k3.cell (i := 0); have q2 := k2.cell (i := 0); have f2 := k2.frozen (i := 0); simp only [List.getElem?_toArray, List.getElem?_cons_zero] at q2 q3)
        obtain ⟨r1, r2, r3⟩ := ks_ret (v1 := .bool true) hlow4 k2 hD4
        refine ⟨by simp, .inl ⟨_, _, rfl, run_takeDeferred r1, ?_⟩⟩
        exact ⟨.bool true, by simp [results, Try.results4, go_sem, r2], rfl, r3⟩
      | true =>
        have hLL : (pcs l size).filter went = LL := by rw [← HLL.out, keL, if_pos hq]
        have hsm : Small l := small_of hq (by omega) (by omega)
        have h0 := (rt_parts hq).1
        have HM := Lib.hid (many_all hq)
        rw [hLL] at HM
        have HG : Hid (∀ (k : Int) W, Below w.heap.size w W → Calls Try.prog 9 #[.slice A l.length c, .int .i64 size, .int .i64 k] W fun e w' => e = .returned (goesR LL k) ∧ Below W.heap.size W w') :=
          Lib.hid fun k W hW => by rw [← hLL]; exact goes_ok A c l size k W (by omega) (hr.after hW) hq (by omega) hsm
        have HC : Hid (∀ (k : Int) W, 0 ≤ k → k ≤ 9223372036854775807 → Below w.heap.size w W → Calls Try.prog 10 #[.slice A l.length c, .int .i64 size, .int .i64 k] W fun e w' => e = .returned (cameR LL k) ∧ Below W.heap.size W w') :=
          Lib.hid fun k W hk0 hk1 hW => by rw [← hLL]; exact came_ok A c l size k W (by omega) (hr.after hW) hq (by omega) hsm hk0 hk1
        have HTB : Hid (∀ (x : Int) (p : Pc), 0 ≤ x → LL.find? (inP x) = some p → 0 ≤ x + (p.a - p.f) ∧ ∃ q, LL.find? (inC (x + (p.a - p.f))) = some q ∧ x + (p.a - p.f) - (q.a - q.f) = x) :=
          Lib.hid fun x p hx hf => by rw [← hLL] at hf ⊢; exact there_back hq hx hf
        have HOK : Hid (∀ p ∈ LL, PcOk p) := Lib.hid fun p hp => by rw [← hLL] at hp; exact pcs_ok hsm h0 (by omega) p (List.mem_filter.1 hp).1
        have HR2 := HRR.out
        rw [hq] at HR2
        have HR3 := Lib.hid HR2
        clear hq HR2 HRR hLL hsm
        gi_wp2_with (refine ⟨trivial, ?_⟩; gi_at_call 15; refine (callsIn_wide.2 (HR3.out _ hT.1.1)).mono ?_; rintro e w4 ⟨rfl, hb4⟩)
        have hT4 := (KsT.frames _ _ _ _).off hT (Off.of_below hb4)
        have hD4 := (hb4.block D (Array.getElem?_eq_some_iff.1 hD).1).trans hD
        clear hT hD hb4 HR3 HD3 HBA HII HSZ hB1 hB2 hB5
        generalize hnn : min z ((keptL LL).length : Int) = nn at *
        have HNN := Lib.hid hnn
        clear hnn
        gi_loopw [12, 55] (fun mv i wr => ∃ k : Nat, i = .int .i64 k ∧ (k : Int) ≤ size ∧ mv = .int .i64 (many LL k : Nat) ∧ KsT w w2.heap.size z nn (· = D) wr ∧ wr.heap[D]? = some (.deferred (some []))) (fun mv i wr => size.toNat - (intOf i).toNat)
        case atStart => exact ⟨0, rfl, h0, by simp [many_zero], hT4, hD4⟩
        case round =>
          obtain ⟨k, rfl, hk, rfl, hTr, hDr⟩ := hrel
          by_cases hlt : (k : Int) < size
          · have hms := many_succ LL (k := (k : Int)) (by omega)
            have hmk : many LL (k : Int) ≤ k := by unfold many; exact Nat.le_trans List.countP_le_length (by rw [rangeI_length]; omega)
            cases hf : LL.find? (inP k) with
            | none =>
              have HMS : Hid (many LL ((k : Int) + 1) = many LL (k : Int)) := Lib.hid (by rw [hms, hf]; rfl)
              have HG2 := HG.out (k : Int)
              rw [show goesR LL (k : Int) = .tuple #[.int .i64 0, errn 5] by rw [goesR, hf]] at HG2
              have HG3 := Lib.hid HG2
              clear hf hms HG2
              generalize many LL (k : Int) = mk at *
              gi_wp2_with (refine ⟨trivial, ?_⟩; gi_at_call 9; refine (callsIn_wide.2 (HG3.out _ hTr.1.1)).mono ?_; rintro e w5 ⟨rfl, hb5⟩)
              have hT5 := (KsT.frames _ _ _ _).off hTr (Off.of_below hb5)
              have hD5 := (hb5.block D (Array.getElem?_eq_some_iff.1 hDr).1).trans hDr
              go_roundw
              case rel => exact ⟨k + 1, by go_num, by omega, by rw [show ((k + 1 : Nat) : Int) = (k : Int) + 1 by omega, HMS.out], hT5, hD5⟩
              case measure => simp [intOf]; omega
            | some p =>
              have HMS : Hid (many LL ((k : Int) + 1) = many LL (k : Int) + 1) := Lib.hid (by rw [hms, hf]; rfl)
              obtain ⟨o1, o2, o3, o4, o5, o6, o7⟩ := HOK.out p (find_mem hf)
              obtain ⟨b1, q, b2, b3⟩ := HTB.out (k : Int) p (by omega) hf
              have HG2 := HG.out (k : Int)
              rw [show goesR LL (k : Int) = .tuple #[.int .i64 ((k : Int) + (p.a - p.f)), .nilIface] by rw [goesR, hf]] at HG2
              have HG3 := Lib.hid HG2
              have HC2 := HC.out ((k : Int) + (p.a - p.f))
              rw [show cameR LL ((k : Int) + (p.a - p.f)) = .tuple #[.int .i64 (k : Int), .nilIface] by rw [cameR, b2]; simp only [b3]] at HC2
              have HC3 := Lib.hid (fun W => HC2 W b1 (by omega))
              clear hf hms HG2 HC2 b2 b3
              generalize (k : Int) + (p.a - p.f) = aa at *
              have hkk : ((k : Int) != k) = false := by simp
              generalize many LL (k : Int) = mk at *
              gi_wp2_with (first | (refine ⟨trivial, ?_⟩; gi_at_call 9; refine (callsIn_wide.2 (HG3.out _ hTr.1.1)).mono ?_; rintro e w5 ⟨rfl, hb5⟩; have hT5 := (KsT.frames _ _ _ _).off hTr (Off.of_below hb5); have hD5 := (hb5.block D (Array.getElem?_eq_some_iff.1 hDr).1).trans hDr) | (refine ⟨trivial, ?_⟩; gi_at_call 10; refine (callsIn_wide.2 (HC3.out _ hT5.1.1)).mono ?_; rintro e w6 ⟨rfl, hb6⟩))
              have hT6 := (KsT.frames _ _ _ _).off hT5 (Off.of_below hb6)
              have hD6 := (hb6.block D (Array.getElem?_eq_some_iff.1 hD5).1).trans hD5
              go_roundw
              case rel => exact ⟨k + 1, by go_num, by omega, by rw [show ((k + 1 : Nat) : Int) = (k : Int) + 1 by omega, HMS.out]; go_num, hT6, hD6⟩
              case measure => simp [intOf]; omega
          · obtain ⟨hlow4, k1, k2, k3⟩ := hTr
            have hkz : (k : Int) = size := by omega
            have q1 := k1.cell (i := 0)
            have q3 := k3.cell (i := 0)
            have q2 := k2.cell (i := 0)
            have f2 := k2.frozen (i := 0)
            simp only [List.getElem?_toArray, List.getElem?_cons_zero] at q1 q2 q3
            have hmm : (many LL (k : Int) : Int) = (keptL LL).length := by rw [hkz, HM.out]
            rw [hmm]
            generalize ((keptL LL).length : Int) = tot at *
            clear hmm hkz HM
            gi_wp2
            · have hfin : (nn == tot) = true := by rw [← HNN.out]; simp; omega
              obtain ⟨r1, r2, r3⟩ := ks_ret (v1 := .bool (nn == tot)) hlow4 k2 hDr
              refine ⟨by simp, .inl ⟨_, _, rfl, run_takeDeferred r1, ?_⟩⟩
              rw [hfin] at r2 r3 ⊢
              exact ⟨.bool true, by simp [results, Try.results4, go_sem, r2], rfl, r3⟩
            · have hfin : (nn == z) = true := by rw [← HNN.out]; simp; omega
              obtain ⟨r1, r2, r3⟩ := ks_ret (v1 := .bool (nn == z)) hlow4 k2 hDr
              refine ⟨by simp, .inl ⟨_, _, rfl, run_takeDeferred r1, ?_⟩⟩
              rw [hfin] at r2 r3 ⊢
              exact ⟨.bool true, by simp [results, Try.results4, go_sem, r2], rfl, r3⟩

theorem shiftKeeps_walk (A : Option Addr) (c : Nat) (l : List Ed) (size x : Int) (hes : ∀ (i : Nat) (e : Ed), l[i]? = some e → (e.s.size : Int) ≤ 140737488355328) (hl : (l.length : Int) ≤ 9223372036854775807) (w : World) (hr : Eds w w.heap.size A l) :
    Calls Try.prog 4 #[.slice A l.length c, .int .i64 size, .int .i64 x] w fun e w' => e = .returned (.bool true) ∧ Below w.heap.size w w' := callsIn_wide.1 (keeps_in A c l size x hes hl w hr)

end Go.Proofs.Ytajdpbgpoadcgaa
