/- The document's Place of a right tree. -/
import Derived.Test.YtkjfheondlpnfaaTreePlaceMath
import Derived.Test.YtkjfheondlpnfaaTreeRefSame
import Derived.RegionTactic
import Derived.ChangeAlike
namespace Go.Proofs.Ytkjfheondlpnfaa
open Go.RowKit TreeMath

/-- what the document's Place answers -/
def RpV (T : Tr) (p : Int) (w : World) (e : Ending) (w' : World) : Prop := ∃ U, e = .returned (.tuple #[nv U, .int .i64 (cg plc T p).2]) ∧ pl U = (cg plc T p).1 ∧ Tn (nw w.heap.size w') w' U ∧ Below w.heap.size w w'

set_option maxRecDepth 100000 in
set_option maxHeartbeats 2000000 in
theorem rplace_leaf (g t : ByteArray) (a : Int) (A : Option Addr) (c : Nat) (p : Int) (w : World) (_hz : (g.size : Int) + t.size ≤ 250000) :
    Calls Try.prog 29 #[nv ⟨1, g, t, a, A, c, []⟩, .int .i64 p] w (RpV ⟨1, g, t, a, A, c, []⟩ p w) := by
  obtain ⟨v, hv⟩ : ∃ v, wrap64 (p + g.size) = v := ⟨_, rfl⟩
  obtain ⟨u, hu⟩ : ∃ u, wrap64 (v + t.size) = u := ⟨_, rfl⟩
  have HR : Hid (rng v) := Lib.hid (hv ▸ wrap_rng _)
  have HP : Hid ((cg plc ⟨1, g, t, a, A, c, []⟩ p).1 = pl ⟨1, g, t, v, A, c, []⟩ ∧ (cg plc ⟨1, g, t, a, A, c, []⟩ p).2 = u) := Lib.hid (by
    rw [cg_eq, if_pos rfl, pl_eq]
    simp only [cgs_nil, plc, tok, hv, hu, List.map_nil, and_self])
  unfold RpV
  rw [HP.out.1, HP.out.2]
  have HB := Lib.hid (below2 w (rbx ⟨1, g, t, v, A, c, []⟩) (rbx ⟨1, g, t, v, A, c, []⟩))
  go_enter Try.func29, Try.ntmps29
  go_wp2_with fail
  have hu2 : IntKind.i64.wrap (v + t.size) = u := (IntWalk.i64_left _).trans hu
  go_region
  go_wp2
  refine bodyPost_ret (v := .tuple #[nv ⟨1, g, t, v, A, c, []⟩, .int .i64 u]) (by simp [results, Try.results29, go_sem, nv]) rfl ?_
  exact ⟨⟨1, g, t, v, A, c, []⟩, rfl, rfl, tn_iff.2 ⟨HR.out, fun h => absurd h (by simp), fun x hx => absurd hx (by simp)⟩, ⟨HB.out.os, HB.out.tape, HB.out.output, HB.out.size, HB.out.block⟩⟩

/-- what holds ahead of each round -/
def RpI (k : Int) (p : Int) (kids : List Tr) (T : Tr) (W : Nat) (j : Nat) (mj : Int) (m : List Tr) (A : Option Addr) (c : Nat) (wr : World) : Prop :=
  m.length = j ∧ W + 3 ≤ wr.heap.size ∧ wr.heap[W]? = some (rbx T) ∧ wr.heap[W + 1]? = some (.cells z5 29 (0, 0)) ∧
  wr.heap[W + 2]? = some (.cells #[.int .i64 k, .string ⟨#[]⟩, .string ⟨#[]⟩, .int .i64 0, .slice A m.length c] 29 (0, 0)) ∧ NRow 29 (W + 3) (.slice A m.length c) m wr ∧
  m.map pl = (cgs plc (kids.take j) p).1 ∧ mj = (cgs plc (kids.take j) p).2
theorem size_nil {s : ByteArray} (h : s.size = 0) : s = ⟨#[]⟩ := by
  obtain ⟨⟨l⟩⟩ := s
  have : l = [] := List.eq_nil_of_length_eq_zero h
  rw [this]

set_option maxRecDepth 100000 in
set_option maxHeartbeats 2000000 in
theorem rplace_any (T : Tr) : ∀ (p : Int) (w : World), rgt T = true → wt T ≤ 5000 → Tn (lo w.heap.size) w T →
    Calls Try.prog 29 #[nv T, .int .i64 p] w (RpV T p w) := by
  induction T using Tr.ind with | _ k g t a A c kids ih =>
  intro p w hr hw hT
  by_cases hk : k = 1
  · subst hk
    obtain ⟨-, -, h3⟩ := snd_leaf (rgt_node hr (ns_self _)) rfl
    simp only at h3
    subst h3
    exact rplace_leaf g t a A c p w (by have := text_le (ns_self ⟨1, g, t, a, A, c, []⟩); simp only at this; omega)
  · obtain ⟨-, -, hg0, ht0, ha0⟩ := snd_other (rgt_node hr (ns_self _)) hk
    simp only at hg0 ht0 ha0
    subst ha0
    obtain rfl := size_nil hg0
    obtain rfl := size_nil ht0
    have hkl : kids.length < 5000 := by have := kids_le (T := ⟨k, ⟨#[]⟩, ⟨#[]⟩, 0, A, c, kids⟩); simp only at this; omega
    have hkf : (k == 1) = false := by simp [hk]
    have HT := Lib.hid hT
    have HI : Hid (∀ x ∈ kids, ∀ (q : Int) (W : World), Tn (lo W.heap.size) W x → Calls Try.prog 29 #[nv x, .int .i64 q] W (RpV x q W)) := Lib.hid fun x hx q W h =>
      ih x hx q W (rgt_kid hr hx) (by have := wt_kid (T := ⟨k, ⟨#[]⟩, ⟨#[]⟩, 0, A, c, kids⟩) hx; omega) h
    have HCG : Hid ((cg plc ⟨k, ⟨#[]⟩, ⟨#[]⟩, 0, A, c, kids⟩ p).1 = ⟨k, ⟨#[]⟩, ⟨#[]⟩, 0, none, 0, (cgs plc kids p).1⟩ ∧ (cg plc ⟨k, ⟨#[]⟩, ⟨#[]⟩, 0, A, c, kids⟩ p).2 = (cgs plc kids p).2) := Lib.hid (by rw [cg_eq, if_neg hk]; exact ⟨rfl, rfl⟩)
    have hbw : Below w.heap.size w (((w.alloc (rbx ⟨k, ⟨#[]⟩, ⟨#[]⟩, 0, A, c, kids⟩)).alloc (.cells z5 29)).alloc (.cells #[.int .i64 k, .string ⟨#[]⟩, .string ⟨#[]⟩, .int .i64 0, .slice none 0 0] 29)) := ((below1 w _).alloc (by simp) _).alloc (by simp; omega) _
    have HI0 : Hid (RpI k p kids ⟨k, ⟨#[]⟩, ⟨#[]⟩, 0, A, c, kids⟩ w.heap.size 0 p [] none 0 (((w.alloc (rbx ⟨k, ⟨#[]⟩, ⟨#[]⟩, 0, A, c, kids⟩)).alloc (.cells z5 29)).alloc (.cells #[.int .i64 k, .string ⟨#[]⟩, .string ⟨#[]⟩, .int .i64 0, .slice none 0 0] 29))) := Lib.hid (by
      refine ⟨rfl, by simp, ?_, ?_, ?_, NRow.nil _ _ _, rfl, rfl⟩
      · exact (Below.heap_alloc _ _ _ (by simp; omega)).trans ((Below.heap_alloc _ _ _ (by simp)).trans (heap_alloc_new w _))
      · exact (Below.heap_alloc _ _ _ (by simp)).trans (by have := heap_alloc_new (w.alloc (rbx ⟨k, ⟨#[]⟩, ⟨#[]⟩, 0, A, c, kids⟩)) (.cells z5 29); simpa using this)
      · have := heap_alloc_new ((w.alloc (rbx ⟨k, ⟨#[]⟩, ⟨#[]⟩, 0, A, c, kids⟩)).alloc (.cells z5 29)) (.cells #[.int .i64 k, .string ⟨#[]⟩, .string ⟨#[]⟩, .int .i64 0, .slice none 0 0] 29)
        simpa using this)
    clear ih hr hw hT hg0 ht0 hk
    unfold RpV
    rw [HCG.out.1, HCG.out.2]
    go_enter Try.func29, Try.ntmps29
    go_wp2
    go_loopw [1, 7] (fun mv i wr => ∃ (j : Nat) (mj : Int) (m : List Tr) (A' : Option Addr) (c' : Nat), i = .int .i64 j ∧ j ≤ kids.length ∧ mv = .int .i64 mj ∧ Below w.heap.size w wr ∧ Hid (RpI k p kids ⟨k, ⟨#[]⟩, ⟨#[]⟩, 0, A, c, kids⟩ w.heap.size j mj m A' c' wr)) (fun _ i _ => kids.length + 1 - (intOf i).toNat)
    case atStart => exact ⟨0, p, [], none, 0, rfl, Nat.zero_le _, rfl, hbw, HI0⟩
    case round =>
      obtain ⟨j, mj, m, A', c', rfl, hj, rfl, hB, HD⟩ := hrel
      obtain ⟨hml, hsz, h0, h1, h2, hrow, y1, y2⟩ := HD.out
      have HROW := Lib.hid hrow
      have Y1 := Lib.hid y1
      have Y2 := Lib.hid y2
      have H0 := Lib.hid h0
      have H1 := Lib.hid h1
      have H2 := Lib.hid h2
      have p4 : wr.cell? ⟨w.heap.size, 4, none⟩ = some (.slice A kids.length c) := cell_heap h0 (i := 4)
      have p0 : wr.cell? ⟨w.heap.size + 1 + 1, 0, none⟩ = some (.int .i64 k) := cell_heap h2 (i := 0)
      have p1 : wr.cell? ⟨w.heap.size + 1 + 1, 1, none⟩ = some (.string ⟨#[]⟩) := cell_heap h2 (i := 1)
      have p2 : wr.cell? ⟨w.heap.size + 1 + 1, 2, none⟩ = some (.string ⟨#[]⟩) := cell_heap h2 (i := 2)
      have p3 : wr.cell? ⟨w.heap.size + 1 + 1, 3, none⟩ = some (.int .i64 0) := cell_heap h2 (i := 3)
      have p5 : wr.cell? ⟨w.heap.size + 1 + 1, 4, none⟩ = some (.slice A' m.length c') := cell_heap h2 (i := 4)
      clear hrow y1 y2 h0 h1 h2 HI0 hbw
      have HML := Lib.hid hml
      clear hml
      by_cases hlt : j < kids.length
      · obtain ⟨e, he⟩ : ∃ e, kids[j]? = some e := ⟨_, List.getElem?_eq_getElem hlt⟩
        have hmem := List.mem_of_getElem? he
        have hzr : w.heap.size < wr.heap.size := by omega
        obtain ⟨b, off, rfl, hb, c0, c1, c2, c3, c4⟩ := (HT.out.below hB).at_ he
        have z4 : (0 : Int) ≤ j := by omega
        have z5' : (j : Int) < kids.length := by omega
        have HC := Lib.hid (HI.out e hmem mj wr (((HT.out.kid hmem).below hB).more (Nat.le_of_lt hzr)))
        have HTK : Hid ((cgs plc (kids.take (j + 1)) p).1 = (cgs plc (kids.take j) p).1 ++ [(cg plc e (cgs plc (kids.take j) p).2).1] ∧ (cgs plc (kids.take (j + 1)) p).2 = (cg plc e (cgs plc (kids.take j) p).2).2) := Lib.hid (cgs_take plc p he)
        clear he hmem hb
        unfold RpV at HC
        go_wp2_with fail
        refine HC.out.mono ?_
        rintro r w6 ⟨U, rfl, hp6, hU, hb6⟩
        have HP6 := Lib.hid hp6
        clear p0 p1 p2 p3 p4 p5 c0 c1 c2 c3 c4 hp6
        have hs6 := hb6.size
        have old6 : ∀ b, b < wr.heap.size → w6.heap[b]? = wr.heap[b]? := fun b hb => hb6.block b hb
        have hz2 : w.heap.size + 1 + 1 < w6.heap.size := by omega
        have y5 : w6.cell? ⟨w.heap.size + 1 + 1, 4, none⟩ = some (.slice A' m.length c') := cell_heap (i := 4) ((old6 (w.heap.size + 2) (by omega)).trans H2.out)
        obtain ⟨V, hV⟩ : ∃ V, (w6.alloc (.cells (ncc U) 29)).alloc (.cells (ncc U) 29) = V := ⟨_, rfl⟩
        have hsV : V.heap.size = w6.heap.size + 2 := by rw [← hV, World.size_alloc, World.size_alloc]
        have oldV : ∀ b, b < w6.heap.size → V.heap[b]? = w6.heap[b]? := fun b hb => by rw [← hV]; exact (Below.heap_alloc _ _ _ (by simp; omega)).trans (Below.heap_alloc _ _ _ hb)
        have hbV : Below wr.heap.size wr V := by
          rw [← hV]
          exact (hb6.alloc hs6 _).alloc (by simp; omega) _
        have hxV : V.heap[w6.heap.size + 1]? = some (.cells (ncc U) 29 (0, 0)) := by rw [← hV]; have := heap_alloc_new (w6.alloc (.cells (ncc U) 29)) (.cells (ncc U) 29); rwa [World.size_alloc] at this
        have hUV : Tn (nw wr.heap.size V) V U := hU.keep (fun b i hb => cell_of (oldV b hb.2)) (fun b hb => ⟨hb.1, by have := hb.2; omega⟩)
        have hrowV := HROW.out.below hbV
        have hUV2 := HROW.out.beside hbV.size (by omega) hUV
        have HV := Lib.hid hV
        have OLD := Lib.hid (And.intro old6 oldV)
        have HSV := Lib.hid hsV
        have HBV := Lib.hid (And.intro hbV (And.intro hxV (And.intro hrowV hUV2)))
        clear hV old6 oldV hsV hbV hxV hrowV hUV2 hUV hU
        obtain ⟨q, hq⟩ : ∃ q, (cg plc e mj).2 = q := ⟨_, rfl⟩
        have HQ := Lib.hid hq
        rw [hq]
        clear hq
        go_wp2_with (first | (at_builtin; refine Stay.out ?_))
        refine Stay.mk ?_
        refine (wpList_append_node (by rfl) _ _ 27 29 (by rfl) Try.underlying27 info_rnode _ (w.heap.size + 3) (.slice A' m.length c') m U (w6.heap.size + 1) (by rfl) (by rfl) (by rw [HV.out]; exact HBV.out.2.1) (by rw [HV.out]; exact HBV.out.2.2.1) (by rw [HV.out]; exact HBV.out.2.2.2) (by have := HML.out; omega) (by rw [HV.out, HSV.out]; omega) ?_)
        rw [HV.out]; intro A2 c2 w9 hr9 hg9
        obtain ⟨old6, oldV⟩ := OLD.out
        obtain ⟨hbV, hxV, hrowV, hUV2⟩ := HBV.out
        have hsV := HSV.out
        have own9 : ∀ b, b < w.heap.size + 3 → some b ≠ (Value.slice A' m.length c').ownBlock := fun b hb q => by have := (hrowV.lt b q.symm).1; omega
        have all9 : ∀ b, b < w.heap.size + 3 → w9.heap[b]? = wr.heap[b]? := fun b hb => (hg9.block _ (by omega) (own9 _ hb)).trans ((oldV _ (by omega)).trans (old6 _ (by omega)))
        have ho9 := (all9 (w.heap.size + 2) (by omega)).trans H2.out
        have hs9 : w.heap.size + 3 ≤ w9.heap.size := by have := hg9.size; omega
        have hB9 : Below w.heap.size w (w9.setCell ⟨w.heap.size + 1 + 1, 4, none⟩ (.slice A2 (m ++ [U]).length c2)) := (below_append (hB.trans (hbV.mono (by omega))) hg9 hrowV (by omega) (by omega)).setCell (by simp; omega) _
        have HD9 : Hid (RpI k p kids ⟨k, ⟨#[]⟩, ⟨#[]⟩, 0, some ⟨b, off, none⟩, c, kids⟩ w.heap.size (j + 1) q (m ++ [U]) A2 c2 (w9.setCell ⟨w.heap.size + 1 + 1, 4, none⟩ (.slice A2 (m ++ [U]).length c2))) := Lib.hid (by
          refine ⟨by have := HML.out; simp; omega, by rw [World.setCell]; simp; omega, ?_, ?_, ?_, hr9.set (by simp) _, ?_, ?_⟩
          · exact (Below.heap_setCell _ _ _ _ (by simp; omega)).trans ((all9 _ (by omega)).trans H0.out)
          · exact (Below.heap_setCell _ _ _ _ (by simp)).trans ((all9 _ (by omega)).trans H1.out)
          · have := heap_set ho9 (i := 4) (.slice A2 (m ++ [U]).length c2)
            simpa using this
          · rw [HTK.out.1, List.map_append, Y1.out, ← Y2.out, ← HP6.out]; rfl
          · rw [HTK.out.2, ← Y2.out, HQ.out])
        have HB9 := Lib.hid hB9
        have hlen : (m ++ [U]).length = m.length + 1 := by simp
        rw [hlen] at HB9 HD9
        clear hlen
        have c9 := cell_heap ho9 (i := 4)
        have f9 := frozen_heap ho9 (i := 4)
        simp only [List.getElem?_toArray, List.getElem?_cons_zero, List.getElem?_cons_succ] at c9
        clear old6 oldV hbV hxV hrowV hUV2 own9 all9 ho9 hB9 hsV hr9 hg9 y5
        go_wp2
        go_roundw
        case rel => exact ⟨j + 1, q, m ++ [U], A2, c2, by go_num, by omega, rfl, HB9.out, HD9⟩
        case measure => simp [intOf]; omega
      · obtain rfl : j = kids.length := by omega
        have f1 : ∀ i, wr.frozen? ⟨w.heap.size + 1, i, none⟩ = false := fun i => frozen_heap H1.out
        have r0 : wr.cell? ⟨w.heap.size + 1, 0, none⟩ = some (.int .i64 0) := cell_heap H1.out (i := 0)
        have r1 : wr.cell? ⟨w.heap.size + 1, 1, none⟩ = some (.string ⟨#[]⟩) := cell_heap H1.out (i := 1)
        have r2 : wr.cell? ⟨w.heap.size + 1, 2, none⟩ = some (.string ⟨#[]⟩) := cell_heap H1.out (i := 2)
        have r3 : wr.cell? ⟨w.heap.size + 1, 3, none⟩ = some (.int .i64 0) := cell_heap H1.out (i := 3)
        have r4 : wr.cell? ⟨w.heap.size + 1, 4, none⟩ = some (.slice none 0 0) := cell_heap H1.out (i := 4)
        have hb2 : Below w.heap.size w (set5 wr (w.heap.size + 1) ⟨k, ⟨#[]⟩, ⟨#[]⟩, 0, A', c', m⟩) := below_set5 hB (by omega) _
        have hrow2 := HROW.out.keep (w' := set5 wr (w.heap.size + 1) ⟨k, ⟨#[]⟩, ⟨#[]⟩, 0, A', c', m⟩) (by rw [set5_size]; exact Nat.le_refl _) (fun b hb => by rw [set5_other (by have := hb.1; omega)])
        have HB2 := Lib.hid hb2
        have HT2 := Lib.hid ((hrow2.tn (k := k) (g := ⟨#[]⟩) (t := ⟨#[]⟩) (a := 0) (by unfold rng; omega)).keep (fun _ _ _ => rfl) (fun b (hb : nw _ _ b) => (⟨by have := hb.1; omega, hb.2⟩ : nw w.heap.size _ b)))
        have HS2 := Lib.hid (set5_self H1.out ⟨k, ⟨#[]⟩, ⟨#[]⟩, 0, A', c', m⟩)
        have H1' := H1
        clear hb2 hrow2
        go_wp2
        have g0 := cell_heap HS2.out (i := 0)
        have g1 := cell_heap HS2.out (i := 1)
        have g2 := cell_heap HS2.out (i := 2)
        have g3 := cell_heap HS2.out (i := 3)
        have g4 := cell_heap HS2.out (i := 4)
        simp only [List.getElem?_toArray, List.getElem?_cons_zero, List.getElem?_cons_succ] at g0 g1 g2 g3 g4
        refine bodyPost_ret (v := .tuple #[nv ⟨k, ⟨#[]⟩, ⟨#[]⟩, 0, A', c', m⟩, .int .i64 mj]) (by simp [results, Try.results29, go_sem, g0, g1, g2, g3, g4]) rfl ?_
        have h3 := Y1.out
        have h4 := Y2.out
        rw [List.take_length] at h3 h4
        refine ⟨⟨k, ⟨#[]⟩, ⟨#[]⟩, 0, A', c', m⟩, by rw [h4], ?_, HT2.out, HB2.out⟩
        rw [pl_eq]
        simp only [h3]
end Go.Proofs.Ytkjfheondlpnfaa
