/- The document's leaves of a tree. -/
import Derived.Test.YtjnclchbklehgaaTreeRefWalk
import Derived.Test.YtjnclchbklehgaaTreeRefMem
namespace Go.Proofs.Ytjnclchbklehgaa
open Go.RowKit TreeMath

/-- items that lie one behind the other in blocks below B -/
def ITk (w : World) (B : Nat) (A : Option Addr) (L : List (Nat × Tr)) : Prop :=
  0 < L.length → ∃ b off, A = some ⟨b, off, none⟩ ∧ b < B ∧ ∀ (i : Nat) (p : Nat × Tr), L[i]? = some p → w.cell? ⟨b, off + i * 6, none⟩ = some (.int .i64 (p.1 : Nat)) ∧ At5 w b (off + i * 6 + 1) p.2

theorem icells_length (l : List (Nat × Tr)) : (icells l).length = l.length * 6 := by
  unfold icells
  induction l with
  | nil => rfl
  | cons p ps ih => simp [List.flatMap_cons, ics, ih]; omega
theorem icells_at : ∀ (l : List (Nat × Tr)) (i : Nat) (x : Nat × Tr), l[i]? = some x → ∀ (j : Nat) (u : Value), (ics x)[j]? = some u → (icells l)[i * 6 + j]? = some u := by
  intro l
  induction l with
  | nil => intro i p h; simp at h
  | cons q ps ih =>
    intro i x h j u hu
    have hj : j < 6 := by have := (List.getElem?_eq_some_iff.1 hu).1; simpa [ics] using this
    have he : icells (q :: ps) = ics q ++ icells ps := by simp [icells, List.flatMap_cons]
    have hl : (ics q).length = 6 := rfl
    rw [he]
    cases i with
    | zero => simp at h; subst h; rw [List.getElem?_append_left (by omega)]; simpa using hu
    | succ i =>
      simp at h
      rw [List.getElem?_append_right (by omega), hl, show (i + 1) * 6 + j - 6 = i * 6 + j from by omega]
      exact ih i x h j u hu

theorem IRow.form {base : Nat} {v : Value} {l : List (Nat × Tr)} {w : World} (h : IRow base v l w) : ∃ A c, v = .slice A l.length c ∧ ITk w w.heap.size A l := by
  rcases h.2 with ⟨hv, hn⟩ | ⟨g, cap, cur, hv, hb, hg, _⟩
  · exact ⟨none, 0, by rw [hv, hn], fun h0 => by omega⟩
  · refine ⟨some ⟨g, 0, none⟩, cap, hv, fun _ => ⟨g, 0, rfl, (Array.getElem?_eq_some_iff.1 hg).1, fun i p hp => ?_⟩⟩
    have hc : ∀ (j : Nat) (u : Value), (ics p)[j]? = some u → w.cell? ⟨g, 0 + (i * 6 + j), none⟩ = some u := fun j u hu => by
      rw [hv] at h
      have := World.ownsRow.cells h (g := g) rfl _ _ (icells_at l i p hp j u hu)
      rwa [Addr.add_lit] at this
    refine ⟨by simpa using hc 0 _ rfl, ?_, ?_, ?_, ?_, ?_⟩
    · have := hc 1 _ rfl; rwa [← Nat.add_assoc] at this
    · have := hc 2 _ rfl; rwa [← Nat.add_assoc] at this
    · have := hc 3 _ rfl; rwa [← Nat.add_assoc] at this
    · have := hc 4 _ rfl; rwa [← Nat.add_assoc] at this
    · have := hc 5 _ rfl; rwa [← Nat.add_assoc] at this
theorem ITk.below {w w' : World} {B : Nat} {A : Option Addr} {L : List (Nat × Tr)} (h : ITk w B A L) (hb : Below B w w') : ITk w' B A L := fun hn => by
  obtain ⟨b, off, e, hB, hc⟩ := h hn
  exact ⟨b, off, e, hB, fun i p hp => ⟨(cell_of (hb.block _ hB)).trans (hc i p hp).1, (hc i p hp).2.keep fun i => cell_of (hb.block _ hB)⟩⟩
theorem ITk.at_ {w : World} {B : Nat} {A : Option Addr} {L : List (Nat × Tr)} (h : ITk w B A L) {i : Nat} {p : Nat × Tr} (hp : L[i]? = some p) : ∃ b off, A = some ⟨b, off, none⟩ ∧ b < B ∧ w.cell? ⟨b, off + i * 6, none⟩ = some (.int .i64 (p.1 : Nat)) ∧ At5 w b (off + i * 6 + 1) p.2 := by
  have hl := (List.getElem?_eq_some_iff.1 hp).1
  obtain ⟨b, off, e, hB, hc⟩ := h (by omega)
  exact ⟨b, off, e, hB, hc i p hp⟩

/-- a row of nodes of the call's own, whatever lies below them -/
def LRow (e : TypeId) (base : Nat) (v : Value) (m : List Tr) (w : World) : Prop := w.ownsRow base e 5 v m.length (ncells m)
theorem LRow.form {e : TypeId} {base : Nat} {v : Value} {m : List Tr} {w : World} (h : LRow e base v m w) : ∃ A c, v = .slice A m.length c ∧ Tks (lo w.heap.size) w A m := by
  rcases h.2 with ⟨hv, hn⟩ | ⟨g, cap, cur, hv, hb, hg, _⟩
  · exact ⟨none, 0, by rw [hv, hn], fun h0 => by omega⟩
  · refine ⟨some ⟨g, 0, none⟩, cap, hv, fun _ => ⟨g, 0, rfl, (Array.getElem?_eq_some_iff.1 hg).1, fun i p hp => at5_of (fun j u hu => ?_) hp⟩⟩
    rw [hv] at h
    have := World.ownsRow.cells h (g := g) rfl _ _ hu
    rwa [Addr.add_lit] at this

/-- one node appended, whatever lies below it -/
theorem wpList_append_leaf {ops : Array Oper} {rest : List Oper} {o : Oper} {a : Act} {Q : Exit → Act → World → Prop} (hgd : o.guard = none) (s x : Operand) (t e : TypeId)
    (ho : o.op = .call { callee := .builtin .append, args := #[s, x], argTypes := #[t, t] }) (ht : Try.prog.underlying t = some (.slice e)) (hinfo : (Try.prog.info? e).map (fun i => (i.zero, i.size, i.bytes)) = some (some (.agg #[.int .i64 0, .string ⟨#[]⟩, .string ⟨#[]⟩, .int .i64 0, .slice none 0 0]), 5, 72))
    (V : World) (base : Nat) (v : Value) (m : List Tr) (T : Tr) (X : Nat)
    (hs : a.eval s = v) (hx : a.eval x = .slice (some ⟨X, 0, none⟩) 1 1) (hblk : V.heap[X]? = some (.cells (ncc T) e (0, 0))) (hrow : LRow e base v m V) (hn : m.length ≤ 20000) (hbase : base ≤ V.heap.size)
    (h : ∀ v' w', LRow e base v' (m ++ [T]) w' → V.grownBy w' v.ownBlock → wpList Try.prog ops Q rest (a.put o.dst v') w') :
    wpList Try.prog ops Q (o :: rest) a V := by
  obtain ⟨i0, hi, hz0, hz1, hz2⟩ := info_parts hinfo
  refine wpList_append_own_at V hgd s x t ho base e i0 _ 5 72 ht hi hz0 hz1 hz2 rfl (by decide) _ _ _ hs hrow ⟨X, 0, none⟩ 1 1 (ncs T) hx rfl (World.news_of_block hblk) (by intro u hu; simp [ncs] at hu; rcases hu with rfl | rfl | rfl | rfl | rfl <;> rfl) (by unfold maxLen; omega) (by omega) hbase ?_
  intro v' w' hown hg _ _
  exact h v' w' (by unfold LRow; rw [List.length_append, ncells_snoc]; exact hown) hg

def rlvp (pre : List (Nat × Tr)) : List Tr := (pre.map (·.2)).filter lfb
theorem rlvp_take {L : List (Nat × Tr)} {j : Nat} {p : Nat × Tr} (h : L[j]? = some p) : rlvp (L.take (j + 1)) = rlvp (L.take j) ++ (if p.2.k = 1 then [p.2] else []) := by
  unfold rlvp
  rw [List.take_add_one, h]
  by_cases hk : p.2.k = 1 <;> simp [lfb, hk]
theorem rlvp_len (L : List (Nat × Tr)) : (rlvp L).length ≤ L.length := by
  unfold rlvp
  exact Nat.le_trans (List.length_filter_le _ _) (by simp)

/-- what Leaves answers -/
def LvV (L : List Tr) (w : World) (e : Ending) (w' : World) : Prop := ∃ A c, e = .returned (.slice A L.length c) ∧ Tks (lo w'.heap.size) w' A L ∧ Below w.heap.size w w'

set_option maxRecDepth 100000 in
set_option maxHeartbeats 2000000 in
theorem rleaves_any (T : Tr) (w : World) (hT : Tn (lo w.heap.size) w T) (hw : wt T ≤ 5000) :
    Calls Try.prog 39 #[nv T] w (LvV (lf T) w) := by
  have hcn : cn T ≤ 5000 := Nat.le_trans (cn_wt T) hw
  have HWK := Lib.hid (rwalk_any (w.alloc (.cells (ncc T) 29)).heap.size T 0 [] (.slice none 0 0) (w.alloc (.cells (ncc T) 29)) (Nat.zero_le _) hw (by simp; omega) (Nat.le_refl _) ((hT.below (below1 w _)).more (by simp)) (World.ownsRow_nil _ _ _ _))
  have hL5 : (wk 0 T).length ≤ 5000 := by rw [wk_length]; exact hcn
  have HLF : Hid (rlvp (wk 0 T) = lf T) := Lib.hid rfl
  have HB0 := Lib.hid (below1 w (.cells (ncc T) 29))
  clear hT hw hcn
  go_enter Try.func39, Try.ntmps39
  go_wp2_with (go_at_call 18; refine HWK.out.mono ?_; rintro r w2 ⟨v2, rfl, hr2, hg2⟩)
  have hB2 : Below w.heap.size w w2 := HB0.out.trans (Below.mono ⟨hg2.grown.os, hg2.grown.tape, hg2.grown.output, hg2.grown.size, fun k hk => hg2.grown.block k hk (by simp [Value.ownBlock])⟩ (by simp))
  rw [List.nil_append] at hr2
  obtain ⟨A2, c2, rfl, hI2⟩ := hr2.form
  generalize wk 0 T = L at hI2 HLF hL5 hr2
  have HI2 := Lib.hid hI2
  clear hr2 hg2 hI2 HWK
  go_wp2
  go_loopw [3, 5] (fun ov i wr => ∃ (j : Nat) (v' : Value), i = .int .i64 j ∧ j ≤ L.length ∧ v' = ov ∧ Hid (LRow 29 w2.heap.size v' (rlvp (L.take j)) wr) ∧ Below w2.heap.size w2 wr) (fun _ i _ => L.length + 1 - (intOf i).toNat)
  case atStart => exact ⟨0, .slice none 0 0, rfl, Nat.zero_le _, rfl, Lib.hid (World.ownsRow_nil _ _ _ _), Below.refl _ _⟩
  case round =>
    obtain ⟨j, v', rfl, hj, rfl, HRr, hB⟩ := hrel
    by_cases hlt : j < L.length
    · obtain ⟨⟨d, e⟩, he⟩ : ∃ e, L[j]? = some e := ⟨_, List.getElem?_eq_getElem hlt⟩
      obtain ⟨b, off, rfl, hb, cd, c0, c1, c2', c3, c4⟩ := (HI2.out.below hB).at_ he
      have HTK := Lib.hid (rlvp_take he)
      have hml : (rlvp (L.take j)).length ≤ 5000 := Nat.le_trans (rlvp_len _) (by rw [List.length_take]; omega)
      have z1 : (0 : Int) ≤ j := by omega
      have z2 : (j : Int) < L.length := by omega
      simp only at c0 c1 c2' c3 c4
      clear he hb
      by_cases hk : e.k = 1
      · have HS : Hid (rlvp (L.take (j + 1)) = rlvp (L.take j) ++ [e]) := Lib.hid (by rw [HTK.out, if_pos hk])
        have hbk := heap_alloc_new wr (.cells (ncc e) 29)
        have HBK := Lib.hid hbk
        have HRA := Lib.hid (World.ownsRow.alloc HRr.out (.cells (ncc e) 29))
        have hd : (e.k == 1) = true := by simp [hk]
        have HK := Lib.hid hk
        clear hk hbk
        go_wp2_with (at_builtin; refine Stay.out ?_)
        refine Stay.mk ?_
        refine wpList_append_leaf (by rfl) _ _ 27 29 (by rfl) Try.underlying27 info_rnode _ w2.heap.size v' (rlvp (L.take j)) e wr.heap.size (by rfl) (by rfl) HBK.out HRA.out (by omega) (by have := hB.size; simp; omega) ?_
        intro v3 w3 hr3 hg3
        have HR3 : Hid (LRow 29 w2.heap.size v3 (rlvp (L.take (j + 1))) w3) := Lib.hid (by rw [HS.out]; exact hr3)
        have hB3 : Below w2.heap.size w2 w3 := (hB.alloc hB.size _).grown hg3 (by have := hB.size; simp; omega) (fun k hk => (World.ownsRow.lt HRr.out k hk).1)
        clear hr3 hg3
        go_wp2
        go_roundw
        case rel => exact ⟨j + 1, v3, by go_num, by omega, rfl, HR3, hB3⟩
        case measure => simp [intOf]; omega
      · have HS : Hid (rlvp (L.take (j + 1)) = rlvp (L.take j)) := Lib.hid (by rw [HTK.out, if_neg hk, List.append_nil])
        have hd : (e.k == 1) = false := by simp [hk]
        clear hk
        go_wp2
        go_roundw
        case rel => exact ⟨j + 1, v', by go_num, by omega, rfl, Lib.hid (by rw [HS.out]; exact HRr.out), hB⟩
        case measure => simp [intOf]; omega
    · obtain rfl : j = L.length := by omega
      have hf := HRr.out
      rw [List.take_length, HLF.out] at hf
      obtain ⟨A3, c3, rfl, h3⟩ := LRow.form hf
      have H3 := Lib.hid h3
      clear hf h3
      go_wp2
      refine bodyPost_ret (v := .slice A3 (lf T).length c3) (by simp [results, Try.results39, go_sem]) rfl ?_
      exact ⟨A3, c3, rfl, H3.out, hB2.trans (hB.mono hB2.size)⟩
end Go.Proofs.Ytjnclchbklehgaa
