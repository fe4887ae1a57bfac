/- The law CursorPlays, walked. -/
import Derived.Test.YtjnclchbklehgaaGreatDoorPlaysSmall
import Derived.Test.YtjnclchbklehgaaGreatDoorMzCur
namespace Go.Proofs.YtjnclchbklehgaaGreatDoor
open Go.RowKit SignMath TreeMath

attribute [local go_sem] Oper.semAt_some

/-- a slice of acts in memory -/
def Acs (S : Nat → Prop) (w : World) (A : Option Addr) (l : List Ac) : Prop :=
  0 < l.length → ∃ b off, A = some ⟨b, off, none⟩ ∧ S b ∧ ∀ (i : Nat) (x : Ac), l[i]? = some x → w.cell? ⟨b, off + i * 4, none⟩ = some (.int .i64 x.k) ∧ w.cell? ⟨b, off + i * 4 + 1, none⟩ = some (.int .i64 x.n) ∧ w.cell? ⟨b, off + i * 4 + 2, none⟩ = some (.int .i64 x.a) ∧ w.cell? ⟨b, off + i * 4 + 3, none⟩ = some (.string x.t)
theorem Acs.at_ {S : Nat → Prop} {w : World} {A : Option Addr} {l : List Ac} {i : Nat} {x : Ac} (h : Acs S w A l) (hx : l[i]? = some x) : ∃ b off, A = some ⟨b, off, none⟩ ∧ S b ∧ w.cell? ⟨b, off + i * 4, none⟩ = some (.int .i64 x.k) ∧ w.cell? ⟨b, off + i * 4 + 1, none⟩ = some (.int .i64 x.n) ∧ w.cell? ⟨b, off + i * 4 + 2, none⟩ = some (.int .i64 x.a) ∧ w.cell? ⟨b, off + i * 4 + 3, none⟩ = some (.string x.t) := by
  obtain ⟨b, off, hA, hb, h⟩ := h (by have := (List.getElem?_eq_some_iff.1 hx).1; omega)
  exact ⟨b, off, hA, hb, h i x hx⟩

theorem Cu.take_L (C : Cu) (q : Bool) : (C.take q).1.L = C.L := by
  unfold Cu.take
  split
  · rfl
  · exact C.fail_L 2
theorem Cu.down_L (C : Cu) : C.down.1.L = C.L := by
  unfold Cu.down
  split
  · split
    · exact C.fail_L 3
    · rfl
  · rfl
theorem Cu.fail_d (C : Cu) (n : Int) : (C.fail n).d = C.d := by unfold Cu.fail; split <;> rfl
theorem Cu.take_d (C : Cu) (q : Bool) : (C.take q).1.d = C.d := by
  unfold Cu.take
  split
  · rfl
  · exact C.fail_d 2
theorem Cu.down_d {C : Cu} (h : C.d ≤ 200) : C.down.1.d ≤ 200 := by
  unfold Cu.down
  split
  · split
    · rw [C.fail_d]; exact h
    · show C.d + 1 ≤ 200; omega
  · exact h
theorem Cu.take_leaf {C : Cu} (hk : C.Ok) (q : Bool) : (C.take q).2.kids = [] ∧ wt (C.take q).2 ≤ 5000 ∧ rng (C.take q).2.a := by
  have hz := hk.sz
  have hw : ∀ X : Tr, X.kids = [] → X.g.size + X.t.size ≤ 8000 → wt X ≤ 5000 := fun X h1 h2 => by rw [wt_eq, h1]; unfold w1; simp; omega
  unfold Cu.take
  split
  · rename_i t ht
    obtain ⟨-, h2⟩ := Cu.nxt_some ht
    have htk := hk.tok t (List.mem_of_getElem? h2)
    refine ⟨rfl, hw _ rfl ?_, ?_⟩
    · unfold Cu.leaf; simp only [ByteArray.size_extract]; omega
    · unfold Cu.leaf rng; simp only; omega
  · exact ⟨rfl, hw _ rfl (by show zn1.g.size + zn1.t.size ≤ 8000; decide), by unfold zn1 rng; simp⟩
theorem tn_leaf {S : Nat → Prop} {w : World} {X : Tr} (h : X.kids = []) (hr : rng X.a) : Tn S w X := tn_iff.2 ⟨hr, fun hn => by rw [h] at hn; simp at hn, by rw [h]; simp⟩

/-- what the law holds between two acts -/
structure Pl (w : World) (b : Nat) (A : Option Addr) (c : Nat) (mb : Nat) (A' : Option Addr) (c' : Nat) (C : Cu) (W : World) : Prop where
  low : Below w.heap.size w W
  cm : CuM b A c C W
  mbx : W.heap[mb]? = some (rcb C A' c')
  rc : RcR C A' W
  ok : C.Ok
  d : C.d ≤ 200
  hb : w.heap.size ≤ b
  hmb : w.heap.size ≤ mb
  ne : mb ≠ b
  rne : 0 < (tcells C.L).length → ∀ a, A' = some a → a.block ≠ b ∧ a.block ≠ mb
  cne : 0 < (tcells C.L).length → ∀ a, A = some a → a.block ≠ mb
section
variable {w W W' : World} {b c mb c' : Nat} {A A' : Option Addr} {C C' : Cu}
theorem Pl.step (h : Pl w b A c mb A' c' C W) (hb : Below W.heap.size W W') : Pl w b A c mb A' c' C W' :=
  ⟨h.low.trans (hb.mono h.low.size), h.cm.below hb, (hb.block _ (Array.getElem?_eq_some_iff.1 h.mbx).1).trans h.mbx, rc_after h.rc hb, h.ok, h.d, h.hb, h.hmb, h.ne, h.rne, h.cne⟩
/-- the cursor has gone on: the document's box is behind -/
structure Pm (w : World) (b : Nat) (A : Option Addr) (c : Nat) (mb : Nat) (A' : Option Addr) (c' : Nat) (C C' : Cu) (W : World) : Prop where
  low : Below w.heap.size w W
  cm : CuM b A c C' W
  mbx : W.heap[mb]? = some (rcb C A' c')
  rc : RcR C A' W
  ok : C'.Ok
  d : C'.d ≤ 200
  hb : w.heap.size ≤ b
  hmb : w.heap.size ≤ mb
  ne : mb ≠ b
  hL : C'.L = C.L
  rne : 0 < (tcells C.L).length → ∀ a, A' = some a → a.block ≠ b ∧ a.block ≠ mb
  cne : 0 < (tcells C.L).length → ∀ a, A = some a → a.block ≠ mb
theorem Pl.cur (h : Pl w b A c mb A' c' C W) (hm : CuM b A c C' W') (ho : Of b W W') (hL : C'.L = C.L) (hk : C'.Ok) (hd : C'.d ≤ 200) : Pm w b A c mb A' c' C C' W' := by
  have hlt := (Array.getElem?_eq_some_iff.1 h.mbx).1
  refine ⟨h.low.trans (of_low ho h.hb h.low.size), hm, (ho.block mb hlt h.ne).trans h.mbx, ?_, hk, hd, h.hb, h.hmb, h.ne, hL, h.rne, h.cne⟩
  intro hl
  obtain ⟨g, off, rfl, hg, hc⟩ := h.rc hl
  exact ⟨g, off, rfl, Nat.lt_of_lt_of_le hg ho.size, fun j u hu => (cell_of (ho.block g hg (h.rne hl _ rfl).1)).trans (hc j u hu)⟩
theorem Pm.step (h : Pm w b A c mb A' c' C C' W) (hb : Below W.heap.size W W') : Pm w b A c mb A' c' C C' W' :=
  ⟨h.low.trans (hb.mono h.low.size), h.cm.below hb, (hb.block _ (Array.getElem?_eq_some_iff.1 h.mbx).1).trans h.mbx, rc_after h.rc hb, h.ok, h.d, h.hb, h.hmb, h.ne, h.hL, h.rne, h.cne⟩
/-- the document's cursor is stored -/
theorem Pm.store (h : Pm w b A c mb A' c' C C' W) : Pl w b A c mb A' c' C' (set6 W mb C'.s A' C'.L.length c' (C'.n : Nat) (C'.d : Nat) C'.p C'.f) := by
  refine ⟨below_set6 h.low h.hmb _ _ _ _ _ _ _ _, ⟨(set6_other (fun e => h.ne e.symm) _ _ _ _ _ _ _ _).trans h.cm.box, ?_, h.cm.ne⟩, set6_self h.mbx _ _ _ _ _ _ _ _, ?_, h.ok, h.d, h.hb, h.hmb, h.ne, by rw [h.hL]; exact h.rne, by rw [h.hL]; exact h.cne⟩
  · intro hl
    obtain ⟨g, off, rfl, hg, hc⟩ := h.cm.row hl
    exact ⟨g, off, rfl, by simp only [set6, size_set]; exact hg, fun j u hu => (cell_of (set6_other (h.cne (by rw [← h.hL]; exact hl) _ rfl) _ _ _ _ _ _ _ _)).trans (hc j u hu)⟩
  · intro hl
    rw [h.hL] at hl ⊢
    obtain ⟨g, off, rfl, hg, hc⟩ := h.rc hl
    exact ⟨g, off, rfl, by simp only [set6, size_set]; exact hg, fun j u hu => (cell_of (set6_other (h.rne hl _ rfl).2 _ _ _ _ _ _ _ _)).trans (hc j u hu)⟩
end
end Go.Proofs.YtjnclchbklehgaaGreatDoor

namespace Go.Proofs.YtjnclchbklehgaaGreatDoor
open Go.RowKit SignMath TreeMath

attribute [local go_sem] Oper.semAt_some

theorem wpList_stay {ops : Array Oper} {rest : List Oper} {o : Oper} {a : Act} {w : World} {Q : Exit → Act → World → Prop} (t : TypeId) (x y : Operand) (_ho : o.op = .store t x y) (h : Stay (wpList Tryz.prog ops Q (o :: rest) a w)) : wpList Tryz.prog ops Q (o :: rest) a w := h

set_option maxRecDepth 100000 in
set_option maxHeartbeats 2000000 in
/-- a text or a script that is too long -/
theorem plays_long (s : ByteArray) (m : Int) (Asc : Option Addr) (n csc : Nat) (w : World) (hL : LaidX w) (_hm : (n : Int) = m) (h : (5000 : Int) < (s.size : Nat) ∨ (¬ (5000 : Int) < (s.size : Nat) ∧ (300 : Int) < (n : Nat))) : Calls Tryz.prog 3 #[.string s, .slice Asc n csc] w fun e w' => e = .returned (.bool true) ∧ Below w.heap.size w w' := by
  have HL := Lib.hid hL
  clear hL _hm
  rcases h with h | ⟨h1, h2⟩
  · go_enter Tryz.func3, Tryz.ntmps3
    go_wp2_with fail
    refine (curAlive_any w HL.out).mono ?_
    rintro e w1 ⟨rfl, hb⟩
    go_wp2
    go_ret
    exact ⟨rfl, hb⟩
  · go_enter Tryz.func3, Tryz.ntmps3
    go_wp2_with fail
    refine (curAlive_any w HL.out).mono ?_
    rintro e w1 ⟨rfl, hb⟩
    go_wp2
    go_ret
    exact ⟨rfl, hb⟩

set_option maxRecDepth 100000 in
set_option maxHeartbeats 2000000 in
/-- a text that is too long for a cursor, or not clean -/
theorem plays_bad (s : ByteArray) (Asc : Option Addr) (n csc : Nat) (w : World) (hL : LaidX w) (h1 : ¬ (5000 : Int) < (s.size : Nat)) (h2 : ¬ (300 : Int) < (n : Nat)) (a k : Int) (hk : 0 < k)
    (hN : ∀ w1, LaidX w1 → Calls Tryz.prog 9 #[.string s] w1 fun e w' => e = .returned (.tuple #[.pointer none, .int .i64 a, errn k]) ∧ Below w1.heap.size w1 w')
    (hR : ∀ w1, Calls Tryz.prog 10 #[.string s] w1 fun e w' => e = .returned (.tuple #[rzero, .int .i64 a, .int .i64 k]) ∧ Below w1.heap.size w1 w') :
    Calls Tryz.prog 3 #[.string s, .slice Asc n csc] w fun e w' => e = .returned (.bool true) ∧ Below w.heap.size w w' := by
  have HL := Lib.hid hL
  have HN := Lib.hid hN
  have HR := Lib.hid hR
  have HK := Lib.hid hk
  have e1 : (k == 0) = false := by rw [beq_eq_false_iff_ne]; omega
  have e2 : (k != 0) = true := by simp [bne, e1]
  have e3 : (k == k) = true := by simp
  have e4 : (k != k) = false := by simp
  have e5 : (a != a) = false := by simp
  clear hL hN hR hk
  go_enter Tryz.func3, Tryz.ntmps3
  go_wp2_with fail
  refine (curAlive_any w HL.out).mono ?_
  rintro e w1 ⟨rfl, hb1⟩
  have HB1 := Lib.hid hb1
  have HN1 := Lib.hid (HN.out w1 (HL.out.below hb1))
  clear hb1
  go_wp2_with fail
  refine HN1.out.mono ?_
  rintro e w2 ⟨rfl, hb2⟩
  have HB2 := Lib.hid (HB1.out.trans (hb2.mono HB1.out.size))
  have HR2 := Lib.hid (HR.out w2)
  clear hb2 HN1 HB1
  go_wp2_with fail
  refine HR2.out.mono ?_
  rintro e w3 ⟨rfl, hb3⟩
  have HB3 := Lib.hid (HB2.out.trans (hb3.mono HB2.out.size))
  clear hb3 HR2 HB2
  go_wp2_with fail
  refine (num_errno k HK.out _).mono ?_
  rintro e w4 ⟨rfl, rfl⟩
  go_wp2
  go_ret
  exact ⟨rfl, HB3.out.trans ((below1 w3 _).mono HB3.out.size)⟩

set_option maxRecDepth 100000 in
set_option maxHeartbeats 8000000 in
theorem plays_good (s : ByteArray) (sc : List Ac) (Asc : Option Addr) (csc : Nat) (w : World) (hL : LaidX w) (h1 : s.size ≤ 4000) (h2 : sc.length ≤ 300) (hsc : Acs (lo w.heap.size) w Asc sc) (hrg : ∀ x ∈ sc, rng x.k ∧ rng x.n ∧ rng x.a)
    (hN : ∀ w1, LaidX w1 → Calls Tryz.prog 9 #[.string s] w1 fun e w' => ∃ b A c, e = .returned (.tuple #[.pointer (some ⟨b, 0, none⟩), .int .i64 0, .nilIface]) ∧ w1.heap.size ≤ b ∧ CuM b A c (cu0 s) w' ∧ Below w1.heap.size w1 w')
    (hR : ∀ w1, Calls Tryz.prog 10 #[.string s] w1 fun e w' => ∃ A c, e = .returned (.tuple #[rcv (cu0 s) A c, .int .i64 0, .int .i64 0]) ∧ RcR (cu0 s) A w' ∧ (∀ a, A = some a → w1.heap.size ≤ a.block) ∧ Below w1.heap.size w1 w') :
    Calls Tryz.prog 3 #[.string s, .slice Asc sc.length csc] w fun e w' => e = .returned (.bool true) ∧ Below w.heap.size w w' := by
  have HL := Lib.hid hL
  have HN := Lib.hid hN
  have HR := Lib.hid hR
  have HSC := Lib.hid hsc
  have HRNG := Lib.hid hrg
  have HOK0 := Lib.hid (cu0_ok s h1)
  have z1 : ¬ (5000 : Int) < (s.size : Nat) := by omega
  have z2 : ¬ (300 : Int) < (sc.length : Nat) := by omega
  have hd0 : (cu0 s).d ≤ 200 := Nat.zero_le _
  generalize cu0 s = C0 at HN HR HOK0 hd0
  clear hL hN hR hsc hrg h1
  go_enter Tryz.func3, Tryz.ntmps3
  go_wp2_with fail
  refine (curAlive_any w HL.out).mono ?_
  rintro e w1 ⟨rfl, hb1⟩
  have HB1 := Lib.hid hb1
  have HN1 := Lib.hid (HN.out w1 (HL.out.below hb1))
  clear hb1
  go_wp2_with fail
  refine HN1.out.mono ?_
  rintro e w2 ⟨b, A, c, rfl, hwb, hm2, hb2⟩
  have HB2 := Lib.hid (HB1.out.trans (hb2.mono HB1.out.size))
  have HM2 := Lib.hid hm2
  have hbw : w.heap.size ≤ b := Nat.le_trans HB1.out.size hwb
  have HR2 := Lib.hid (HR.out w2)
  clear hb2 HN1 HB1 hwb hm2
  go_wp2_with fail
  refine HR2.out.mono ?_
  rintro e w3 ⟨A', c', rfl, hr3, hA3, hb3⟩
  have hPl : Pl w b A c w3.heap.size A' c' C0 (w3.alloc (rcb C0 A' c')) := by
    have hlt := HM2.out.lt
    have hs3 := hb3.size
    have hal := below1 w3 (rcb C0 A' c')
    have hl3 := HB2.out.trans (hb3.mono HB2.out.size)
    refine ⟨hl3.trans (hal.mono hl3.size), (HM2.out.below hb3).below hal, heap_alloc_new w3 _, rc_after hr3 hal, HOK0.out, hd0, hbw, hl3.size, by omega, ?_, ?_⟩
    · intro hl a ha
      obtain ⟨g, off, e, hg, -⟩ := hr3 hl
      have := hA3 a ha
      rw [ha] at e; injection e with e; subst e
      exact ⟨by show g ≠ b; have : w2.heap.size ≤ g := this; omega, by show g ≠ _; omega⟩
    · intro hl a ha
      obtain ⟨g, off, e, hg, -⟩ := HM2.out.row hl
      rw [ha] at e; injection e with e; subst e
      show g ≠ _; omega
  have HPL := Lib.hid hPl
  generalize hmb : w3.heap.size = mb at HPL
  clear hb3 HR2 HB2 HM2 hr3 hA3 hPl
  go_wp2_with fail
  refine (num_nil _).mono ?_
  rintro e w4 ⟨rfl, rfl⟩
  go_wp2
  have HHM := Lib.hid hmb
  clear hmb
  go_loopw [65] (fun i wr => ∃ (j : Nat) (C : Cu), i = .int .i64 j ∧ j ≤ sc.length ∧ Hid (Pl w b A c mb A' c' C wr)) (fun i _ => sc.length + 1 - (intOf i).toNat)
  case atStart => exact ⟨0, C0, rfl, Nat.zero_le _, HPL⟩
  case round =>
    clear HPL
    obtain ⟨j, C, rfl, hj, HP⟩ := hrel
    have hP := HP.out
    have HOK := Lib.hid hP.ok
    by_cases hlt : j < sc.length
    · obtain ⟨x, hx⟩ : ∃ x, sc[j]? = some x := ⟨_, List.getElem?_eq_getElem hlt⟩
      have HRG := Lib.hid (HRNG.out x (List.mem_of_getElem? hx))
      obtain ⟨bs, off, rfl, hbs, c0, c1, c2, c3⟩ := HSC.out.at_ hx
      have hbk := hP.low.block bs hbs
      replace c0 := (cell_of hbk).trans c0
      replace c1 := (cell_of hbk).trans c1
      replace c2 := (cell_of hbk).trans c2
      replace c3 := (cell_of hbk).trans c3
      have y1 : (0 : Int) ≤ j := by omega
      have y2 : (j : Int) < sc.length := by omega
      have hP1 := hP.step (below1 wr (acb x))
      have m0 := heap6 hP1.mbx
      clear hx hbs hbk HP
      by_cases hkk : x.k = 0
      · skip
        have q0 : (x.k == 0) = true := by rw [beq_iff_eq]; exact hkk
        clear hkk
        go_wp2_with fail
        refine (any_any x.n hP1.cm hP1.ok).mono ?_
        rintro e w5 ⟨rfl, hm5, ho5⟩
        have hx5 : w5.heap[wr.heap.size]? = some (acb x) := (ho5.block _ (by simp) (by have := hP.cm.lt; omega)).trans (heap_alloc_new wr (acb x))
        have hp5 := hP1.cur hm5 ho5 (Cu.take_L C _) (HOK.out.take _) (by rw [Cu.take_d]; exact hP1.d)
        have hlf := Cu.take_leaf HOK.out (C.anyb x.n)
        have href := (fun (w' : World) (h' : RcR C A' w') => by have h := rany_any (c := c') x.n h' HOK.out; rw [any_eq C x.n HOK.out] at h; exact h : ∀ (w' : World), RcR C A' w' → Calls Tryz.prog 13 #[rcv C A' c', .int .i64 x.n] w' (Rd w' (.tuple #[rcv (C.take (C.anyb x.n)).1 A' c', nv (C.take (C.anyb x.n)).2])))
        generalize C.take (C.anyb x.n) = r at hp5 hlf href hm5 ⊢
        obtain ⟨C1, X⟩ := r
        simp only at hp5 hlf href hm5 ⊢
        have hs5 : wr.heap.size < w5.heap.size := (Array.getElem?_eq_some_iff.1 hx5).1
        have hp6 := hp5.step (below1 w5 (nbx X))
        have hx6 := (Below.heap_alloc w5 (nbx X) _ (Array.getElem?_eq_some_iff.1 hx5).1).trans hx5
        have hn6 := heap_alloc_new w5 (nbx X)
        have a6 := heap4 hx6
        have m6 := heap6 hp6.mbx
        have HF6 := Lib.hid (href _ hp6.rc)
        have HP6 := Lib.hid hp6
        have HX6 := Lib.hid hx6
        have HN6 := Lib.hid hn6
        have HLF := Lib.hid hlf
        clear hm5 ho5 hx5 hp5 href hp6 hx6 hn6 hlf
        go_wp2_with fail
        refine HF6.out.mono ?_
        rintro e w7 ⟨rfl, hb7⟩
        have HW57 : wr.heap.size < w5.heap.size ∧ w5.heap.size < w7.heap.size := ⟨hs5, by have := hb7.size; simp at this; omega⟩
        have hp7 := (HP6.out.step hb7).step (below2 w7 (rcb C1 A' c') (.cells (ncc X) 45))
        have hx7 := ((below2 w7 (rcb C1 A' c') (.cells (ncc X) 45)).block _ (Nat.lt_of_lt_of_le (Array.getElem?_eq_some_iff.1 HX6.out).1 hb7.size)).trans ((hb7.block _ (Array.getElem?_eq_some_iff.1 HX6.out).1).trans HX6.out)
        have hn7 := ((below2 w7 (rcb C1 A' c') (.cells (ncc X) 45)).block _ (Nat.lt_of_lt_of_le (Array.getElem?_eq_some_iff.1 HN6.out).1 hb7.size)).trans ((hb7.block _ (Array.getElem?_eq_some_iff.1 HN6.out).1).trans HN6.out)
        have hc7 : ((w7.alloc (rcb C1 A' c')).alloc (.cells (ncc X) 45)).heap[w7.heap.size]? = some (rcb C1 A' c') := (Below.heap_alloc _ _ _ (by simp)).trans (heap_alloc_new w7 _)
        have hd7 : ((w7.alloc (rcb C1 A' c')).alloc (.cells (ncc X) 45)).heap[w7.heap.size + 1]? = some (.cells (ncc X) 45 (0, 0)) := by have := heap_alloc_new (w7.alloc (rcb C1 A' c')) (.cells (ncc X) 45); rwa [World.size_alloc] at this
        clear hb7 HF6 HP6 HX6 HN6 a6 m6
        go_wp2
        rename_i K0 hK0
        refine wp_region_noPanic (wp_region_held (S := fun w' : World => w'.heap[w7.heap.size]? = some (rcb C1 A' c') ∧ w'.heap[w5.heap.size]? = some (nbx X) ∧ w'.heap[w7.heap.size + 1]? = some (.cells (ncc X) 45 (0, 0))) (by kernel_rfl) ?_)
        have hdr : Below ((w7.alloc (rcb C1 A' c')).alloc (.cells (ncc X) 45)).heap.size ((w7.alloc (rcb C1 A' c')).alloc (.cells (ncc X) 45)) ((w7.alloc (rcb C1 A' c')).alloc (.cells (ncc X) 45)).drew := ⟨rfl, rfl, rfl, Nat.le_refl _, fun _ _ => rfl⟩
        have hp8 := hp7.step hdr
        have hx8 := (hdr.block _ (Array.getElem?_eq_some_iff.1 hx7).1).trans hx7
        have hn8 := (hdr.block _ (Array.getElem?_eq_some_iff.1 hn7).1).trans hn7
        have hc8 := (hdr.block _ (Array.getElem?_eq_some_iff.1 hc7).1).trans hc7
        have hd8 := (hdr.block _ (Array.getElem?_eq_some_iff.1 hd7).1).trans hd7
        clear hdr hp7 hx7 hn7 hc7 hd7
        show wpAnyH _ _ _ _ _ _ _ _ ((w7.alloc (rcb C1 A' c')).alloc (.cells (ncc X) 45)).drew
        generalize ((w7.alloc (rcb C1 A' c')).alloc (.cells (ncc X) 45)).drew = w8 at hp8 hx8 hn8 hc8 hd8 ⊢
        refine wpAnyH_take_d (i := 0) (v := rcv C1 A' c') 92 rfl rfl (by kernel_rfl) (by kernel_rfl) (by kernel_rfl) (fun _ _ _ h => h) (Or.inl ⟨by kernel_rfl, fun w' hS' => ?y0⟩) (⟨hc8, hn8, hd8⟩) ?_
        case y0 => (obtain ⟨s0, s1, s2, s3, s4, s5⟩ := heap6 hS'.1; clear hS'; go_simp)
        simp only [Act.put, List.setIfInBounds_toArray, List.set_cons_zero, List.set_cons_succ]
        refine wpAnyH_take_d (i := 1) (v := nv X) 93 rfl rfl (by kernel_rfl) (by kernel_rfl) (by kernel_rfl) (fun _ _ _ h => h) (Or.inl ⟨by kernel_rfl, fun w' hS' => ?y1⟩) (⟨hc8, hn8, hd8⟩) ?_
        case y1 => (have s0 := heap5 hS'.2.1; clear hS'; go_simp)
        simp only [Act.put, List.setIfInBounds_toArray, List.set_cons_zero, List.set_cons_succ]
        refine wpAnyH_take_d (i := 2) (v := nv X) 94 rfl rfl (by kernel_rfl) (by kernel_rfl) (by kernel_rfl) (fun _ _ _ h => h) (Or.inl ⟨by kernel_rfl, fun w' hS' => ?y2⟩) (⟨hc8, hn8, hd8⟩) ?_
        case y2 => (have s0 := heap5 hS'.2.2; clear hS'; go_simp)
        simp only [Act.put, List.setIfInBounds_toArray, List.set_cons_zero, List.set_cons_succ]
        refine wpAnyH_ready (rs := [3]) (by kernel_rfl) (by simp) ?_
        refine AllReadyH.cons rfl (fun K hK => ?_) AllReadyH.nil
        go_simp
        obtain ⟨hl1, hl2, hl3⟩ := HLF.out
        refine (is8_any X X w8 hl2 hl2 (tn_leaf hl1 hl3) (tn_leaf hl1 hl3)).mono ?_
        rintro e w9 ⟨rfl, hb9⟩
        rw [show sm X X = true from (sm_iff X X).2 rfl]
        have hp9 := hp8.step hb9
        have hx9 := (hb9.block _ (Array.getElem?_eq_some_iff.1 hx8).1).trans hx8
        have hn9 := (hb9.block _ (Array.getElem?_eq_some_iff.1 hn8).1).trans hn8
        have hc9 := (hb9.block _ (Array.getElem?_eq_some_iff.1 hc8).1).trans hc8
        have hd9 := (hb9.block _ (Array.getElem?_eq_some_iff.1 hd8).1).trans hd8
        clear hb9 hp8 hx8 hn8 hc8 hd8
        refine hK.out _ _ (⟨hc9, hn9, hd9⟩) (fun _ => ?_)
        clear hK K
        try simp only [Act.put, List.setIfInBounds_toArray, List.set_cons_zero, List.set_cons_succ]
        refine wpAnyH_ready (rs := [4]) (by kernel_rfl) (by simp) ?_
        refine AllReadyH.cons rfl (fun K hK => ?_) AllReadyH.nil
        refine step_store_six (by rfl) 31 (.tmp 8) (.tmp 92) (by rfl) size_rcur mb (s := C1.s) (A := A') (n := C1.L.length) (c := c') (x2 := (C1.n : Nat)) (x3 := (C1.d : Nat)) (x4 := C1.p) (x5 := C1.f) (by rfl) (by rfl) hp9.mbx ?_
        have hQ := hp9.store
        have ho : ∀ {k : Nat}, k ≠ mb → (set6 w9 mb C1.s A' C1.L.length c' (C1.n : Nat) (C1.d : Nat) C1.p C1.f).heap[k]? = w9.heap[k]? := fun h => set6_other h _ _ _ _ _ _ _ _
        have hmbw : mb < wr.heap.size := (Array.getElem?_eq_some_iff.1 hP.mbx).1
        have hw57 : wr.heap.size < w5.heap.size ∧ w5.heap.size < w7.heap.size := HW57
        replace hx9 := (ho (k := wr.heap.size) (by omega)).trans hx9
        replace hn9 := (ho (k := w5.heap.size) (by omega)).trans hn9
        replace hc9 := (ho (k := w7.heap.size) (by omega)).trans hc9
        replace hd9 := (ho (k := w7.heap.size + 1) (by omega)).trans hd9
        clear ho
        generalize set6 w9 mb C1.s A' C1.L.length c' (C1.n : Nat) (C1.d : Nat) C1.p C1.f = wB at hQ hx9 hn9 hc9 hd9 ⊢
        refine hK.out _ _ (⟨hc9, hn9, hd9⟩) (fun _ => ?_)
        clear hK K
        try simp only [Act.put, List.setIfInBounds_toArray]
        refine wpAnyH_take_d (i := 5) (v := .bool true) 13 rfl rfl (by kernel_rfl) (by kernel_rfl) (by kernel_rfl) (fun _ _ _ h => h) (Or.inl ⟨by kernel_rfl, fun w' hS' => ?y5⟩) (⟨hc9, hn9, hd9⟩) ?_
        case y5 => (clear hS'; go_simp)
        simp only [Act.put]
        refine wpAnyH_done (by kernel_rfl) ?_ _
        refine hK0 _ _ ?_
        clear hp9 hn9 hc9 hd9 hP hP1
        have m9 := heap6 hQ.mbx
        have a9 := heap4 hx9
        go_wp2_with fail
        refine (stands8_any x HRG.out.2.2 hQ.cm hQ.rc hQ.ok).mono ?_
        rintro e w10 ⟨rfl, hb10⟩
        have HPN := Lib.hid (hQ.step hb10)
        clear hQ hx9 hb10 m9 a9
        go_wp2
        go_roundw
        case rel => exact ⟨j + 1, _, by go_num, by omega, HPN⟩
        case measure => simp [intOf]; omega
      · by_cases hk1 : x.k = 1
        · skip
          have q0 : (x.k == 0) = false := by rw [beq_eq_false_iff_ne]; exact hkk
          have q1 : (x.k == 1) = true := by rw [beq_iff_eq]; exact hk1
          clear hkk hk1
          go_wp2_with fail
          refine (want_any x.t hP1.cm hP1.ok).mono ?_
          rintro e w5 ⟨rfl, hm5, ho5⟩
          have hx5 : w5.heap[wr.heap.size]? = some (acb x) := (ho5.block _ (by simp) (by have := hP.cm.lt; omega)).trans (heap_alloc_new wr (acb x))
          have hp5 := hP1.cur hm5 ho5 (Cu.take_L C _) (HOK.out.take _) (by rw [Cu.take_d]; exact hP1.d)
          have hlf := Cu.take_leaf HOK.out (C.isb 0 x.t)
          have href := (fun (w' : World) (h' : RcR C A' w') => rwant_any (c := c') x.t h' HOK.out : ∀ (w' : World), RcR C A' w' → Calls Tryz.prog 16 #[rcv C A' c', .string x.t] w' (Rd w' (.tuple #[rcv (C.take (C.isb 0 x.t)).1 A' c', nv (C.take (C.isb 0 x.t)).2])))
          generalize C.take (C.isb 0 x.t) = r at hp5 hlf href hm5 ⊢
          obtain ⟨C1, X⟩ := r
          simp only at hp5 hlf href hm5 ⊢
          have hs5 : wr.heap.size < w5.heap.size := (Array.getElem?_eq_some_iff.1 hx5).1
          have hp6 := hp5.step (below1 w5 (nbx X))
          have hx6 := (Below.heap_alloc w5 (nbx X) _ (Array.getElem?_eq_some_iff.1 hx5).1).trans hx5
          have hn6 := heap_alloc_new w5 (nbx X)
          have a6 := heap4 hx6
          have m6 := heap6 hp6.mbx
          have HF6 := Lib.hid (href _ hp6.rc)
          have HP6 := Lib.hid hp6
          have HX6 := Lib.hid hx6
          have HN6 := Lib.hid hn6
          have HLF := Lib.hid hlf
          clear hm5 ho5 hx5 hp5 href hp6 hx6 hn6 hlf
          go_wp2_with fail
          refine HF6.out.mono ?_
          rintro e w7 ⟨rfl, hb7⟩
          have HW57 : wr.heap.size < w5.heap.size ∧ w5.heap.size < w7.heap.size := ⟨hs5, by have := hb7.size; simp at this; omega⟩
          have hp7 := (HP6.out.step hb7).step (below2 w7 (rcb C1 A' c') (.cells (ncc X) 45))
          have hx7 := ((below2 w7 (rcb C1 A' c') (.cells (ncc X) 45)).block _ (Nat.lt_of_lt_of_le (Array.getElem?_eq_some_iff.1 HX6.out).1 hb7.size)).trans ((hb7.block _ (Array.getElem?_eq_some_iff.1 HX6.out).1).trans HX6.out)
          have hn7 := ((below2 w7 (rcb C1 A' c') (.cells (ncc X) 45)).block _ (Nat.lt_of_lt_of_le (Array.getElem?_eq_some_iff.1 HN6.out).1 hb7.size)).trans ((hb7.block _ (Array.getElem?_eq_some_iff.1 HN6.out).1).trans HN6.out)
          have hc7 : ((w7.alloc (rcb C1 A' c')).alloc (.cells (ncc X) 45)).heap[w7.heap.size]? = some (rcb C1 A' c') := (Below.heap_alloc _ _ _ (by simp)).trans (heap_alloc_new w7 _)
          have hd7 : ((w7.alloc (rcb C1 A' c')).alloc (.cells (ncc X) 45)).heap[w7.heap.size + 1]? = some (.cells (ncc X) 45 (0, 0)) := by have := heap_alloc_new (w7.alloc (rcb C1 A' c')) (.cells (ncc X) 45); rwa [World.size_alloc] at this
          clear hb7 HF6 HP6 HX6 HN6 a6 m6
          go_wp2
          rename_i K0 hK0
          refine wp_region_noPanic (wp_region_held (S := fun w' : World => w'.heap[w7.heap.size]? = some (rcb C1 A' c') ∧ w'.heap[w5.heap.size]? = some (nbx X) ∧ w'.heap[w7.heap.size + 1]? = some (.cells (ncc X) 45 (0, 0))) (by kernel_rfl) ?_)
          have hdr : Below ((w7.alloc (rcb C1 A' c')).alloc (.cells (ncc X) 45)).heap.size ((w7.alloc (rcb C1 A' c')).alloc (.cells (ncc X) 45)) ((w7.alloc (rcb C1 A' c')).alloc (.cells (ncc X) 45)).drew := ⟨rfl, rfl, rfl, Nat.le_refl _, fun _ _ => rfl⟩
          have hp8 := hp7.step hdr
          have hx8 := (hdr.block _ (Array.getElem?_eq_some_iff.1 hx7).1).trans hx7
          have hn8 := (hdr.block _ (Array.getElem?_eq_some_iff.1 hn7).1).trans hn7
          have hc8 := (hdr.block _ (Array.getElem?_eq_some_iff.1 hc7).1).trans hc7
          have hd8 := (hdr.block _ (Array.getElem?_eq_some_iff.1 hd7).1).trans hd7
          clear hdr hp7 hx7 hn7 hc7 hd7
          show wpAnyH _ _ _ _ _ _ _ _ ((w7.alloc (rcb C1 A' c')).alloc (.cells (ncc X) 45)).drew
          generalize ((w7.alloc (rcb C1 A' c')).alloc (.cells (ncc X) 45)).drew = w8 at hp8 hx8 hn8 hc8 hd8 ⊢
          refine wpAnyH_take_d (i := 0) (v := rcv C1 A' c') 109 rfl rfl (by kernel_rfl) (by kernel_rfl) (by kernel_rfl) (fun _ _ _ h => h) (Or.inl ⟨by kernel_rfl, fun w' hS' => ?y0⟩) (⟨hc8, hn8, hd8⟩) ?_
          case y0 => (obtain ⟨s0, s1, s2, s3, s4, s5⟩ := heap6 hS'.1; clear hS'; go_simp)
          simp only [Act.put, List.setIfInBounds_toArray, List.set_cons_zero, List.set_cons_succ]
          refine wpAnyH_take_d (i := 1) (v := nv X) 110 rfl rfl (by kernel_rfl) (by kernel_rfl) (by kernel_rfl) (fun _ _ _ h => h) (Or.inl ⟨by kernel_rfl, fun w' hS' => ?y1⟩) (⟨hc8, hn8, hd8⟩) ?_
          case y1 => (have s0 := heap5 hS'.2.1; clear hS'; go_simp)
          simp only [Act.put, List.setIfInBounds_toArray, List.set_cons_zero, List.set_cons_succ]
          refine wpAnyH_take_d (i := 2) (v := nv X) 111 rfl rfl (by kernel_rfl) (by kernel_rfl) (by kernel_rfl) (fun _ _ _ h => h) (Or.inl ⟨by kernel_rfl, fun w' hS' => ?y2⟩) (⟨hc8, hn8, hd8⟩) ?_
          case y2 => (have s0 := heap5 hS'.2.2; clear hS'; go_simp)
          simp only [Act.put, List.setIfInBounds_toArray, List.set_cons_zero, List.set_cons_succ]
          refine wpAnyH_ready (rs := [3]) (by kernel_rfl) (by simp) ?_
          refine AllReadyH.cons rfl (fun K hK => ?_) AllReadyH.nil
          go_simp
          obtain ⟨hl1, hl2, hl3⟩ := HLF.out
          refine (is8_any X X w8 hl2 hl2 (tn_leaf hl1 hl3) (tn_leaf hl1 hl3)).mono ?_
          rintro e w9 ⟨rfl, hb9⟩
          rw [show sm X X = true from (sm_iff X X).2 rfl]
          have hp9 := hp8.step hb9
          have hx9 := (hb9.block _ (Array.getElem?_eq_some_iff.1 hx8).1).trans hx8
          have hn9 := (hb9.block _ (Array.getElem?_eq_some_iff.1 hn8).1).trans hn8
          have hc9 := (hb9.block _ (Array.getElem?_eq_some_iff.1 hc8).1).trans hc8
          have hd9 := (hb9.block _ (Array.getElem?_eq_some_iff.1 hd8).1).trans hd8
          clear hb9 hp8 hx8 hn8 hc8 hd8
          refine hK.out _ _ (⟨hc9, hn9, hd9⟩) (fun _ => ?_)
          clear hK K
          try simp only [Act.put, List.setIfInBounds_toArray, List.set_cons_zero, List.set_cons_succ]
          refine wpAnyH_ready (rs := [4]) (by kernel_rfl) (by simp) ?_
          refine AllReadyH.cons rfl (fun K hK => ?_) AllReadyH.nil
          refine step_store_six (by rfl) 31 (.tmp 8) (.tmp 109) (by rfl) size_rcur mb (s := C1.s) (A := A') (n := C1.L.length) (c := c') (x2 := (C1.n : Nat)) (x3 := (C1.d : Nat)) (x4 := C1.p) (x5 := C1.f) (by rfl) (by rfl) hp9.mbx ?_
          have hQ := hp9.store
          have ho : ∀ {k : Nat}, k ≠ mb → (set6 w9 mb C1.s A' C1.L.length c' (C1.n : Nat) (C1.d : Nat) C1.p C1.f).heap[k]? = w9.heap[k]? := fun h => set6_other h _ _ _ _ _ _ _ _
          have hmbw : mb < wr.heap.size := (Array.getElem?_eq_some_iff.1 hP.mbx).1
          have hw57 : wr.heap.size < w5.heap.size ∧ w5.heap.size < w7.heap.size := HW57
          replace hx9 := (ho (k := wr.heap.size) (by omega)).trans hx9
          replace hn9 := (ho (k := w5.heap.size) (by omega)).trans hn9
          replace hc9 := (ho (k := w7.heap.size) (by omega)).trans hc9
          replace hd9 := (ho (k := w7.heap.size + 1) (by omega)).trans hd9
          clear ho
          generalize set6 w9 mb C1.s A' C1.L.length c' (C1.n : Nat) (C1.d : Nat) C1.p C1.f = wB at hQ hx9 hn9 hc9 hd9 ⊢
          refine hK.out _ _ (⟨hc9, hn9, hd9⟩) (fun _ => ?_)
          clear hK K
          try simp only [Act.put, List.setIfInBounds_toArray]
          refine wpAnyH_take_d (i := 5) (v := .bool true) 13 rfl rfl (by kernel_rfl) (by kernel_rfl) (by kernel_rfl) (fun _ _ _ h => h) (Or.inl ⟨by kernel_rfl, fun w' hS' => ?y5⟩) (⟨hc9, hn9, hd9⟩) ?_
          case y5 => (clear hS'; go_simp)
          simp only [Act.put]
          refine wpAnyH_done (by kernel_rfl) ?_ _
          refine hK0 _ _ ?_
          clear hp9 hn9 hc9 hd9 hP hP1
          have m9 := heap6 hQ.mbx
          have a9 := heap4 hx9
          go_wp2_with fail
          refine (stands8_any x HRG.out.2.2 hQ.cm hQ.rc hQ.ok).mono ?_
          rintro e w10 ⟨rfl, hb10⟩
          have HPN := Lib.hid (hQ.step hb10)
          clear hQ hx9 hb10 m9 a9
          go_wp2
          go_roundw
          case rel => exact ⟨j + 1, _, by go_num, by omega, HPN⟩
          case measure => simp [intOf]; omega
        · by_cases hk2 : x.k = 2
          · skip
            have q0 : (x.k == 0) = false := by rw [beq_eq_false_iff_ne]; exact hkk
            have q1 : (x.k == 1) = false := by rw [beq_eq_false_iff_ne]; exact hk1
            have q2 : (x.k == 2) = true := by rw [beq_iff_eq]; exact hk2
            clear hkk hk1 hk2
            go_wp2_with fail
            refine (down_any hP1.cm hP1.ok).mono ?_
            rintro e w5 ⟨rfl, hm5, ho5⟩
            have hx5 : w5.heap[wr.heap.size]? = some (acb x) := (ho5.block _ (by simp) (by have := hP.cm.lt; omega)).trans (heap_alloc_new wr (acb x))
            have hp5 := hP1.cur hm5 ho5 (Cu.down_L C) HOK.out.down (Cu.down_d hP1.d)
            have a5 := heap4 hx5
            have m5 := heap6 hp5.mbx
            have HP5 := Lib.hid hp5
            have HX5 := Lib.hid hx5
            have HF5 := Lib.hid (rdown_any (c := c') hp5.rc HOK.out hP1.d)
            have hs5 : wr.heap.size < w5.heap.size := (Array.getElem?_eq_some_iff.1 hx5).1
            clear hm5 ho5 hx5 hp5
            obtain ⟨C1, hC1⟩ : ∃ C1, C.down.1 = C1 := ⟨_, rfl⟩
            obtain ⟨dq, hq2⟩ : ∃ dq, C.down.2 = dq := ⟨_, rfl⟩
            rw [hC1] at HP5 HF5
            rw [hq2] at HF5 ⊢
            clear hC1 hq2
            go_wp2_with fail
            refine HF5.out.mono ?_
            rintro e w7 ⟨rfl, hb7⟩
            have hmbw : mb < wr.heap.size := (Array.getElem?_eq_some_iff.1 hP.mbx).1
            have hp7 := (HP5.out.step hb7).step (below1 w7 (rcb C1 A' c'))
            have hx7 := (Below.heap_alloc w7 (rcb C1 A' c') _ (Nat.lt_of_lt_of_le hs5 hb7.size)).trans ((hb7.block _ hs5).trans HX5.out)
            have hc7 := heap6 (heap_alloc_new w7 (rcb C1 A' c'))
            have HP7 := Lib.hid hp7
            have HX7 := Lib.hid hx7
            have hdq : (dq == dq) = true := by simp
            clear a5 m5 HP5 HX5 HF5 hp7 hx7 hb7
            go_wp2_with (with_reducible refine wpList_stay 31 (.tmp 8) (.tmp 122) (by rfl) ?_)
            refine Stay.mk ?_
            have hmb8 := HP7.out.mbx
            have hQ := HP7.out.store
            have hx9 := (set6_other (W := w7.alloc (rcb C1 A' c')) (b := mb) (k := wr.heap.size) (by omega) C1.s A' C1.L.length c' (C1.n : Nat) (C1.d : Nat) C1.p C1.f).trans HX7.out
            clear hc7 HP7 HX7 hP hP1
            generalize w7.alloc (rcb C1 A' c') = w8 at hmb8 hQ hx9 ⊢
            refine wpList_store_six (by rfl) 31 (.tmp 8) (.tmp 122) (by rfl) size_rcur mb (s := C1.s) (A := A') (n := C1.L.length) (c := c') (x2 := (C1.n : Nat)) (x3 := (C1.d : Nat)) (x4 := C1.p) (x5 := C1.f) (by rfl) (by rfl) hmb8 ?_
            generalize set6 w8 mb C1.s A' C1.L.length c' (C1.n : Nat) (C1.d : Nat) C1.p C1.f = wB at hQ hx9 ⊢
            clear hmb8
            have m9 := heap6 hQ.mbx
            have a9 := heap4 hx9
            go_wp2_with fail
            refine (stands8_any x HRG.out.2.2 hQ.cm hQ.rc hQ.ok).mono ?_
            rintro e w10 ⟨rfl, hb10⟩
            have HPN := Lib.hid (hQ.step hb10)
            clear hQ hx9 hb10 m9 a9
            go_wp2
            go_roundw
            case rel => exact ⟨j + 1, _, by go_num, by omega, HPN⟩
            case measure => simp [intOf]; omega
          · by_cases hk3 : x.k = 3
            · skip
              have q0 : (x.k == 0) = false := by rw [beq_eq_false_iff_ne]; exact hkk
              have q1 : (x.k == 1) = false := by rw [beq_eq_false_iff_ne]; exact hk1
              have q2 : (x.k == 2) = false := by rw [beq_eq_false_iff_ne]; exact hk2
              have q3 : (x.k == 3) = true := by rw [beq_iff_eq]; exact hk3
              clear hkk hk1 hk2 hk3
              go_wp2_with fail
              refine (up_any hP1.cm hP1.ok).mono ?_
              rintro e w5 ⟨⟨vv, rfl⟩, hm5, ho5⟩
              have hx5 : w5.heap[wr.heap.size]? = some (acb x) := (ho5.block _ (by simp) (by have := hP.cm.lt; omega)).trans (heap_alloc_new wr (acb x))
              have hp5 := hP1.cur hm5 ho5 rfl HOK.out.up (by have := hP1.d; show C.d - 1 ≤ 200; omega)
              have a5 := heap4 hx5
              have m5 := heap6 hp5.mbx
              have HP5 := Lib.hid hp5
              have HX5 := Lib.hid hx5
              have HF5 := Lib.hid (rup_any (A := A') (c := c') (W := w5) HOK.out)
              have hs5 : wr.heap.size < w5.heap.size := (Array.getElem?_eq_some_iff.1 hx5).1
              clear hm5 ho5 hx5 hp5
              generalize C.up = C1 at HP5 HF5
              go_wp2_with fail
              refine HF5.out.mono ?_
              rintro e w7 ⟨rfl, hb7⟩
              have hmbw : mb < wr.heap.size := (Array.getElem?_eq_some_iff.1 hP.mbx).1
              have hp7 := HP5.out.step hb7
              have hx7 := (hb7.block _ hs5).trans HX5.out
              have HP7 := Lib.hid hp7
              have HX7 := Lib.hid hx7
              clear a5 m5 HP5 HX5 HF5 hp7 hx7 hb7
              go_wp2_with (refine wpList_store_six (by rfl) 31 (.tmp 8) (.tmp 131) (by rfl) size_rcur mb (s := C1.s) (A := A') (n := C1.L.length) (c := c') (x2 := (C1.n : Nat)) (x3 := (C1.d : Nat)) (x4 := C1.p) (x5 := C1.f) (by rfl) (by rfl) HP7.out.mbx ?_; refine Stay.out ?_)
              refine Stay.mk ?_
              have hQ := HP7.out.store
              have hx9 := (set6_other (W := w7) (b := mb) (k := wr.heap.size) (by omega) C1.s A' C1.L.length c' (C1.n : Nat) (C1.d : Nat) C1.p C1.f).trans HX7.out
              clear HP7 HX7 hP hP1
              generalize set6 w7 mb C1.s A' C1.L.length c' (C1.n : Nat) (C1.d : Nat) C1.p C1.f = wB at hQ hx9 ⊢
              have m9 := heap6 hQ.mbx
              have a9 := heap4 hx9
              go_wp2_with fail
              refine (stands8_any x HRG.out.2.2 hQ.cm hQ.rc hQ.ok).mono ?_
              rintro e w10 ⟨rfl, hb10⟩
              have HPN := Lib.hid (hQ.step hb10)
              clear hQ hx9 hb10 m9 a9
              go_wp2
              go_roundw
              case rel => exact ⟨j + 1, _, by go_num, by omega, HPN⟩
              case measure => simp [intOf]; omega
            · skip
              have q0 : (x.k == 0) = false := by rw [beq_eq_false_iff_ne]; exact hkk
              have q1 : (x.k == 1) = false := by rw [beq_eq_false_iff_ne]; exact hk1
              have q2 : (x.k == 2) = false := by rw [beq_eq_false_iff_ne]; exact hk2
              have q3 : (x.k == 3) = false := by rw [beq_eq_false_iff_ne]; exact hk3
              clear hkk hk1 hk2 hk3
              go_wp2_with fail
              refine (fail_any x.n HRG.out.2.1 hP1.cm hP1.ok).mono ?_
              rintro e w5 ⟨⟨vv, rfl⟩, hm5, ho5⟩
              have hx5 : w5.heap[wr.heap.size]? = some (acb x) := (ho5.block _ (by simp) (by have := hP.cm.lt; omega)).trans (heap_alloc_new wr (acb x))
              have hp5 := hP1.cur hm5 ho5 (Cu.fail_L C _) (HOK.out.fail _) (by rw [Cu.fail_d]; exact hP1.d)
              have a5 := heap4 hx5
              have m5 := heap6 hp5.mbx
              have HP5 := Lib.hid hp5
              have HX5 := Lib.hid hx5
              have HF5 := Lib.hid (rfail_any (c := c') x.n hp5.rc HOK.out)
              have hs5 : wr.heap.size < w5.heap.size := (Array.getElem?_eq_some_iff.1 hx5).1
              clear hm5 ho5 hx5 hp5
              generalize C.fail x.n = C1 at HP5 HF5
              go_wp2_with fail
              refine HF5.out.mono ?_
              rintro e w7 ⟨rfl, hb7⟩
              have hmbw : mb < wr.heap.size := (Array.getElem?_eq_some_iff.1 hP.mbx).1
              have hp7 := HP5.out.step hb7
              have hx7 := (hb7.block _ hs5).trans HX5.out
              have HP7 := Lib.hid hp7
              have HX7 := Lib.hid hx7
              clear a5 m5 HP5 HX5 HF5 hp7 hx7 hb7
              go_wp2_with (refine wpList_store_six (by rfl) 31 (.tmp 8) (.tmp 78) (by rfl) size_rcur mb (s := C1.s) (A := A') (n := C1.L.length) (c := c') (x2 := (C1.n : Nat)) (x3 := (C1.d : Nat)) (x4 := C1.p) (x5 := C1.f) (by rfl) (by rfl) HP7.out.mbx ?_; refine Stay.out ?_)
              refine Stay.mk ?_
              have hQ := HP7.out.store
              have hx9 := (set6_other (W := w7) (b := mb) (k := wr.heap.size) (by omega) C1.s A' C1.L.length c' (C1.n : Nat) (C1.d : Nat) C1.p C1.f).trans HX7.out
              clear HP7 HX7 hP hP1
              generalize set6 w7 mb C1.s A' C1.L.length c' (C1.n : Nat) (C1.d : Nat) C1.p C1.f = wB at hQ hx9 ⊢
              have m9 := heap6 hQ.mbx
              have a9 := heap4 hx9
              go_wp2_with fail
              refine (stands8_any x HRG.out.2.2 hQ.cm hQ.rc hQ.ok).mono ?_
              rintro e w10 ⟨rfl, hb10⟩
              have HPN := Lib.hid (hQ.step hb10)
              clear hQ hx9 hb10 m9 a9
              go_wp2
              go_roundw
              case rel => exact ⟨j + 1, _, by go_num, by omega, HPN⟩
              case measure => simp [intOf]; omega
    · obtain rfl : j = sc.length := by omega
      have m0 := heap6 hP.mbx
      go_wp2_with fail
      refine (stands8_any ⟨0, 0, 0, ⟨#[]⟩⟩ ⟨by simp, by simp⟩ hP.cm hP.rc hP.ok).mono ?_
      rintro e w10 ⟨rfl, hb10⟩
      have HLW := Lib.hid (hP.low.trans (hb10.mono hP.low.size))
      clear hb10 m0 hP
      go_wp2
      go_ret
      exact ⟨rfl, HLW.out⟩
end Go.Proofs.YtjnclchbklehgaaGreatDoor

namespace Go.Proofs.YtjnclchbklehgaaGreatDoor
open Go.RowKit SignMath TreeMath

theorem plays_walk (s : ByteArray) (sc : List Ac) (Asc : Option Addr) (csc : Nat) (w : World) (hL : LaidX w) (hsc : Acs (lo w.heap.size) w Asc sc) (hrg : ∀ x ∈ sc, rng x.k ∧ rng x.n ∧ rng x.a) :
    Calls Tryz.prog 3 #[.string s, .slice Asc sc.length csc] w fun e w' => e = .returned (.bool true) ∧ Below w.heap.size w w' := by
  by_cases h1 : 5000 < s.size
  · exact plays_long s _ Asc _ csc w hL rfl (.inl (by omega))
  · by_cases h2 : 300 < sc.length
    · exact plays_long s _ Asc _ csc w hL rfl (.inr ⟨by omega, by omega⟩)
    · by_cases h3 : 4000 < s.size
      · exact plays_bad s Asc _ csc w hL (by omega) (by omega) 4000 4 (by omega) (fun w1 h => by have := new_any s w1 h; unfold NewV at this; simp only [if_pos h3] at this; exact this) (fun w1 => by have := rnew_any s w1; unfold RNewV at this; simp only [if_pos h3] at this; exact this)
      · cases hb : bad (tk (bs s) 0) with
        | some t => exact plays_bad s Asc _ csc w hL (by omega) (by omega) (t.a : Nat) 2 (by omega) (fun w1 h => by have := new_any s w1 h; unfold NewV at this; simp only [if_neg h3, hb] at this; exact this) (fun w1 => by have := rnew_any s w1; unfold RNewV at this; simp only [if_neg h3, hb] at this; exact this)
        | none => exact plays_good s sc Asc csc w hL (by omega) (by omega) hsc hrg (fun w1 h => by have := new_any s w1 h; unfold NewV at this; simp only [if_neg h3, hb] at this; exact this) (fun w1 => by have := rnew_any s w1; unfold RNewV at this; simp only [if_neg h3, hb] at this; exact this)
end Go.Proofs.YtjnclchbklehgaaGreatDoor
