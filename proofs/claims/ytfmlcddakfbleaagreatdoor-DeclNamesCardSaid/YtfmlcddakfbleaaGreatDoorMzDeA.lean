/- The parser of classes and files, plainly. -/
import Derived.Test.YtfmlcddakfbleaaGreatDoorMzStC
import Derived.Test.YtfmlcddakfbleaaGreatDoorMzTpl
namespace Go.Proofs.YtfmlcddakfbleaaGreatDoor
open Go.RowKit SignMath TreeMath

def sClass : ByteArray := ⟨#[99, 108, 97, 115, 115]⟩
def sExt : ByteArray := ⟨#[101, 120, 116, 101, 110, 100, 115]⟩
def sPub : ByteArray := ⟨#[112, 117, 98, 108, 105, 99]⟩
def sStat : ByteArray := ⟨#[115, 116, 97, 116, 105, 99]⟩
def sVoid : ByteArray := ⟨#[118, 111, 105, 100]⟩
def sMain : ByteArray := ⟨#[109, 97, 105, 110]⟩
def sStr : ByteArray := ⟨#[83, 116, 114, 105, 110, 103]⟩
def sRet : ByteArray := ⟨#[114, 101, 116, 117, 114, 110]⟩

/-- a tree, and the zero one if the cursor has failed -/
def unt (f : Cu → Cu × Tr) (C : Cu) : Cu × Tr := ((f C).1, if (f C).1.f = 0 then (f C).2 else zn1)
def tyq : Part := on1 (unt typ)
def prm : Cu → Cu × Tr := ndq 7 [tyq, nam]
def prms : Part := arg prm
def sup : Part := fun C => if C.isb 0 sExt = true then sq [tkq [sExt], nam] C else (C, [])
def fld : Cu → Cu × Tr := ndq 5 [tyq, nam, tkq [sSemi]]
def fbg (C : Cu) : Bool := decide (0 < C.left) && !C.isb 0 sPub && !C.isb 0 sBrC
def flds : Part := fun C => lst fbg fld C.left (C, [])
def mth : Cu → Cu × Tr := ndq 6 [tkq [sPub], tyq, nam, tkq [sRo], prms, tkq [sRo2, sBrO], unf vbs, unf stl, tkq [sRet], exq, tkq [sSemi, sBrC]]
def mbg (C : Cu) : Bool := C.isb 0 sPub
def mths : Part := fun C => lst mbg mth C.left (C, [])
def mcl : Cu → Cu × Tr := ndq 3 [tkq [sClass], nam, tkq [sBrO, sPub, sStat, sVoid, sMain, sRo, sStr, sSq, sSq2], nam, tkq [sRo2, sBrO], unf stl, tkq [sBrC, sBrC]]
def ocl : Cu → Cu × Tr := ndq 4 [tkq [sClass], nam, sup, tkq [sBrO], flds, mths, tkq [sBrC]]
def mnb (C : Cu) : Bool := C.isb 2 sBrO && C.isb 3 sPub && C.isb 4 sStat
def cls (C : Cu) : Cu × Tr := if mnb C = true then mcl C else ocl C
def clz : Cu → Cu × Tr := unt cls
def cbg (C : Cu) : Bool := decide (0 < C.left)
def fil : Part := fun C => lst cbg clz C.left (C, [])

/-- what the readings come to -/
theorem Got.unt {f : Cu → Cu × Tr} {D : Nat} (h : GX f D) : GX (unt f) D := fun C hk h2 h1 => by
  have g := h C hk h2 h1
  unfold Go.Proofs.YtfmlcddakfbleaaGreatDoor.unt
  by_cases hf : (f C).1.f = 0
  · rw [if_pos hf]; exact g
  · rw [if_neg hf]; exact g.junk hf _ _
theorem Got.tyq (D : Nat) : GP tyq D 0 := Got.unt (Got.typ D)
theorem Got.prm (D : Nat) : GX prm D := Got.ndq ⟨by omega, by omega⟩ (Got.sqc (Got.tyq D) (Got.sqc (Got.nam D) (Got.sqn D))) (by simp)
theorem Got.prms (D : Nat) : GP prms D 0 := Got.arg (Got.prm D)
theorem Got.sup (D : Nat) : GP sup D 0 := fun C hk h2 h1 => by
  unfold Go.Proofs.YtfmlcddakfbleaaGreatDoor.sup
  split
  · exact GP.zero (Got.sqc (Got.tkq _ D) (Got.sqc (Got.nam D) (Got.sqn D))) C hk h2 h1
  · exact Got.refl hk
theorem Got.fld (D : Nat) : GX fld D := Got.ndq ⟨by omega, by omega⟩ (Got.sqc (Got.tyq D) (Got.sqc (Got.nam D) (Got.sqc (Got.tkq _ D) (Got.sqn D)))) (by simp)
theorem Got.flds (D : Nat) : GP flds D 0 := fun C hk h2 h1 => Got.lst (Got.fld D) _ C _ h2 h1 (Got.refl hk)
theorem Got.mth : GX mth 0 := Got.ndq ⟨by omega, by omega⟩ (Got.sqc (Got.tkq _ 0) (Got.sqc (Got.tyq 0) (Got.sqc (Got.nam 0) (Got.sqc (Got.tkq _ 0) (Got.sqc (Got.prms 0) (Got.sqc (Got.tkq _ 0) (Got.sqc Got.uvb (Got.sqc Got.ust (Got.sqc (Got.tkq _ 0) (Got.sqc (Got.exq 0) (Got.sqc (Got.tkq _ 0) (Got.sqn 0)))))))))))) (by simp)
theorem Got.mths : GP mths 0 0 := fun C hk h2 h1 => Got.lst Got.mth _ C _ h2 h1 (Got.refl hk)
theorem Got.mcl : GX mcl 0 := Got.ndq ⟨by omega, by omega⟩ (Got.sqc (Got.tkq _ 0) (Got.sqc (Got.nam 0) (Got.sqc (Got.tkq _ 0) (Got.sqc (Got.nam 0) (Got.sqc (Got.tkq _ 0) (Got.sqc Got.ust (Got.sqc (Got.tkq _ 0) (Got.sqn 0)))))))) (by simp)
theorem Got.ocl : GX ocl 0 := Got.ndq ⟨by omega, by omega⟩ (Got.sqc (Got.tkq _ 0) (Got.sqc (Got.nam 0) (Got.sqc (Got.sup 0) (Got.sqc (Got.tkq _ 0) (Got.sqc (Got.flds 0) (Got.sqc Got.mths (Got.sqc (Got.tkq _ 0) (Got.sqn 0)))))))) (by simp)
theorem Got.cls : GX cls 0 := fun C hk h2 h1 => by
  unfold Go.Proofs.YtfmlcddakfbleaaGreatDoor.cls
  split
  · exact Got.mcl C hk h2 h1
  · exact Got.ocl C hk h2 h1
theorem Got.clz : GX clz 0 := Got.unt Got.cls
theorem Got.fil : GP fil 0 0 := fun C hk h2 h1 => Got.lst Got.clz _ C _ h2 h1 (Got.refl hk)

/-- a token that is taken, or the failure, leaves fewer -/
theorem take_left {C : Cu} (h : 0 < C.left) (q : Bool) : (C.take q).1.left < C.left := by
  cases q with
  | false =>
    rw [Cu.take_false]
    have : (C.fail 2).left = 0 := by unfold Cu.left; rw [if_neg (Cu.fail_f C 2)]
    show (C.fail 2).left < C.left
    omega
  | true =>
    cases hx : C.nxt 0 with
    | none =>
      have e1 : C.take true = (C.fail 2, zn1) := by unfold Cu.take; rw [hx]
      rw [e1]
      have : (C.fail 2).left = 0 := by unfold Cu.left; rw [if_neg (Cu.fail_f C 2)]
      show (C.fail 2).left < C.left
      omega
    | some t =>
      rw [Cu.take_true hx]
      obtain ⟨hf, -⟩ := Cu.nxt_some hx
      have e1 : C.left = C.L.length - C.n := if_pos hf
      have e2 : ({ C with n := C.n + 1 } : Cu).left = C.L.length - (C.n + 1) := if_pos hf
      show ({ C with n := C.n + 1 } : Cu).left < C.left
      omega
theorem tks_left0 {s : ByteArray} {l : List ByteArray} {C : Cu} (hk : C.Ok) (h2 : C.d ≤ 200) (h : 0 < C.left) : (tkq (s :: l) C).1.left < C.left := by
  have g := Got.wnt hk s
  have h1 := take_left h (C.isb 0 s)
  have := (Got.tkq l 0 _ g.ok (by rw [g.d]; exact h2) (Nat.zero_le _)).left
  show (tkq l (wnt s C).1).1.left < C.left
  have e : (wnt s C).1 = (C.take (C.isb 0 s)).1 := rfl
  rw [e] at this ⊢
  omega
theorem nam_left0 {C : Cu} (h : 0 < C.left) : (nam C).1.left < C.left := take_left h _
theorem typ_left0 {C : Cu} (hk : C.Ok) (h2 : C.d ≤ 200) (h : 0 < C.left) : (typ C).1.left < C.left := by
  unfold typ
  split
  · exact sq_left (Got.sqn 0) (Got.tkq _ 0).zero hk h2 (Nat.zero_le _) (tks_left0 hk h2 h)
  · split
    · exact sq_left (Got.sqn 0) (Got.tkq _ 0).zero hk h2 (Nat.zero_le _) (tks_left0 hk h2 h)
    · split
      · exact sq_left (Got.sqn 0) (Got.tkq _ 0).zero hk h2 (Nat.zero_le _) (tks_left0 hk h2 h)
      · exact sq_left (Got.sqn 0) (Got.nam 0).zero hk h2 (Nat.zero_le _) (nam_left0 h)
theorem fbg_left {C : Cu} (h : fbg C = true) : 0 < C.left := by
  unfold fbg at h
  simp only [Bool.and_eq_true, decide_eq_true_eq] at h
  exact h.1.1
theorem fld_left {C : Cu} (hk : C.Ok) (h2 : C.d ≤ 200) (h : fbg C = true) : (fld C).1.left < C.left :=
  sq_left (Got.sqc (Got.nam 0) (Got.sqc (Got.tkq _ 0) (Got.sqn 0))) (Got.tyq 0) hk h2 (Nat.zero_le _) (typ_left0 hk h2 (fbg_left h))
set_option maxRecDepth 100000 in
theorem mth_left {C : Cu} (hk : C.Ok) (h2 : C.d ≤ 200) (h : mbg C = true) : (mth C).1.left < C.left :=
  sq_left (Got.sqc (Got.tyq 0) (Got.sqc (Got.nam 0) (Got.sqc (Got.tkq _ 0) (Got.sqc (Got.prms 0) (Got.sqc (Got.tkq _ 0) (Got.sqc Got.uvb (Got.sqc Got.ust (Got.sqc (Got.tkq _ 0) (Got.sqc (Got.exq 0) (Got.sqc (Got.tkq _ 0) (Got.sqn 0))))))))))) (Got.tkq _ 0).zero hk h2 (Nat.zero_le _) (tks_left hk h2 h)
set_option maxRecDepth 100000 in
theorem cls_left {C : Cu} (hk : C.Ok) (h2 : C.d ≤ 200) (h : 0 < C.left) : (cls C).1.left < C.left := by
  unfold cls
  split
  · exact sq_left (Got.sqc (Got.nam 0) (Got.sqc (Got.tkq _ 0) (Got.sqc (Got.nam 0) (Got.sqc (Got.tkq _ 0) (Got.sqc Got.ust (Got.sqc (Got.tkq _ 0) (Got.sqn 0))))))) (Got.tkq _ 0).zero hk h2 (Nat.zero_le _) (tks_left0 hk h2 h)
  · exact sq_left (Got.sqc (Got.nam 0) (Got.sqc (Got.sup 0) (Got.sqc (Got.tkq _ 0) (Got.sqc (Got.flds 0) (Got.sqc Got.mths (Got.sqc (Got.tkq _ 0) (Got.sqn 0))))))) (Got.tkq _ 0).zero hk h2 (Nat.zero_le _) (tks_left0 hk h2 h)
theorem clz_left {C : Cu} (hk : C.Ok) (h2 : C.d ≤ 200) (h : cbg C = true) : (clz C).1.left < C.left := cls_left hk h2 (of_decide_eq_true h)
theorem flds_len {C : Cu} (hk : C.Ok) : (flds C).2.length ≤ 4000 := by have := lst_len (bg := fbg) (f := fld) C.left (C, []); have h2 := left_len hk; simp only [List.length_nil] at this; show (lst fbg fld C.left (C, [])).2.length ≤ 4000; omega
theorem mths_len {C : Cu} (hk : C.Ok) : (mths C).2.length ≤ 4000 := by have := lst_len (bg := mbg) (f := mth) C.left (C, []); have h2 := left_len hk; simp only [List.length_nil] at this; show (lst mbg mth C.left (C, [])).2.length ≤ 4000; omega
theorem sup_len (C : Cu) : (sup C).2.length ≤ 2 := by
  unfold sup
  split
  · exact Nat.le_refl 2
  · exact Nat.zero_le _
end Go.Proofs.YtfmlcddakfbleaaGreatDoor

namespace Go.Proofs.YtfmlcddakfbleaaGreatDoor
namespace Dc
open Go.RowKit SignMath TreeMath

abbrev sdb (b : Nat) : Obj := .cells #[.pointer (some ⟨b, 0, none⟩)] 98 (0, 0)
section
variable {b : Nat} {A : Option Addr} {c : Nat} {w : World} {C : Cu}
theorem EK.starts (h : CuM b A c C w) (hk : C.Ok) : EK b A c no (· = b) w C [(w.heap.size + 1, zb5), (w.heap.size, sdb b)] [w.heap.size + 1, w.heap.size] [] ((w.alloc (sdb b)).alloc zb5) := by
  have := ((EK.begin h hk).alloc (sdb b)).alloc zb5
  rwa [World.size_alloc] at this
end
set_option maxRecDepth 100000 in
set_option maxHeartbeats 1000000 in
theorem one_any (T : Tr) (w : World) : Calls Tryz.prog 107 #[nv T] w fun e w' => e = .returned (.slice (some ⟨w.heap.size + 1, 0, none⟩) 1 1) ∧ w' = (w.alloc (.cells (ncc T) 30 (0, 0))).alloc (.cells (ncc T) 30 (0, 0)) := by
  go_enter Tryz.func107, Tryz.ntmps107
  go_wp2
  refine bodyPost_ret (v := .slice (some ⟨w.heap.size + 1, 0, none⟩) 1 1) (by simp [results, Tryz.results107, go_sem]) rfl ⟨rfl, rfl⟩

section
variable {b : Nat} {A : Option Addr} {c : Nat}
set_option maxRecDepth 100000 in
set_option maxHeartbeats 4000000 in
theorem dname_any : WhatF 86 b A c nam 0 := by
  intro w C h hk hd _
  have ek1 := (EK.begin h hk).alloc (sdb b)
  have HC := Lib.hid (anyk_any 4 ek1.cu ek1.ok)
  have hG := Got.any hk 4
  have p0 := cell_heap (ek1.box (z := w.heap.size) (o := sdb b) (by simp)) (i := 0)
  simp only [List.getElem?_toArray, List.getElem?_cons_zero] at p0
  have E1 := Lib.hid ek1
  have HG := Lib.hid hG
  clear ek1 hG h hk hd
  go_enter Tryz.func86, Tryz.ntmps86
  go_wp2_with fail
  refine HC.out.mono ?_
  rintro e w2 ⟨T, rfl, hp, hT, hm, ho⟩
  have ek2 := E1.out.got hT hm ⟨HG.out.ok, HG.out.L⟩ ho
  have E2 := Lib.hid ek2
  clear ek2 hT hm ho HC E1 p0
  go_wp2_with fail
  refine (one_any T w2).mono ?_
  rintro e w3 ⟨rfl, rfl⟩
  have HV := Lib.hid ((E2.out.oned (T := T) (by simp)).listb (r := nam C) (Al := some ⟨w2.heap.size + 1, 0, none⟩) (cl := 1) (m := [T]) (by simp) (by simp) (by simp) rfl (by show [pl T] = _; rw [hp]; rfl))
  clear E2 hp
  go_wp2
  refine bodyPost_ret (v := .slice (some ⟨w2.heap.size + 1, 0, none⟩) 1 1) (by simp [results, Tryz.results86, go_sem]) rfl HV.out

/-- ahead of each round of tokens -/
structure TkI (b : Nat) (A : Option Addr) (c g : Nat) (o : Obj) (w : World) (l : List ByteArray) (C : Cu) (res : Cu × List Tr) (k : Nat) (C' : Cu) (m : List Tr) (Al : Option Addr) (cl : Nat) (zs : List Nat) (W : World) : Prop where
  ek : EK b A c no (· = b) w C' [(w.heap.size, sdb b), (g, o)] zs m W
  row : RowN W (.slice Al k cl) m
  own : ∀ q, (Value.slice Al k cl).ownBlock = some q → q ∈ zs
  ne : ∀ q ∈ [(w.heap.size, sdb b), (g, o)], (Value.slice Al k cl).ownBlock ≠ some q.1
  hn : m.length = k
  r1 : (tkq (l.drop k) C').1 = res.1
  r2 : m.map pl ++ (tkq (l.drop k) C').2 = res.2
set_option maxRecDepth 100000 in
set_option maxHeartbeats 8000000 in
theorem tokensW_any (l : List ByteArray) (n : Nat) (hl : l.length = n) (hn4 : n ≤ 9) (g off : Nat) (o : Obj) (w : World) (C : Cu) (hgb : g ≠ b) (hgo : w.heap[g]? = some o) (hsm : ∀ W' : World, W'.heap[g]? = some o → SsM W' g off l) (h : CuM b A c C w) (hk : C.Ok) :
    Calls Tryz.prog 85 #[rcv b, .slice (some ⟨g, off, none⟩) n n] w (TlW b A c (tkq l C) w) := by
  have ek1 := ((EK.begin h hk).has_ hgb hgo).alloc (sdb b)
  have hgw : g < w.heap.size := (Array.getElem?_eq_some_iff.1 hgo).1
  generalize hres : tkq l C = res
  have HI0 : Hid (TkI b A c g o w l C res 0 C [] none 0 [w.heap.size] (w.alloc (sdb b))) := Lib.hid ⟨ek1.sub (by simp) (by simp), RowN.nil _, fun q hq => (by cases hq), fun q _ e => (by cases e), rfl, by rw [List.drop_zero, hres], by rw [List.drop_zero, hres]; rfl⟩
  have HSM := Lib.hid hsm
  have HLN := Lib.hid hl
  clear ek1 h hk hgo hsm hres hl
  go_enter Tryz.func85, Tryz.ntmps85
  go_wp2
  go_loopw [5, 10] (fun v i wr => ∃ (k : Nat) (C' : Cu) (m : List Tr) (Al : Option Addr) (cl : Nat) (zs : List Nat), i = .int .i64 k ∧ k ≤ n ∧ v = .slice Al k cl ∧ Hid (TkI b A c g o w l C res k C' m Al cl zs wr)) (fun _ i _ => n - (intOf i).toNat)
  case atStart => exact ⟨0, C, [], none, 0, _, rfl, Nat.zero_le _, rfl, HI0⟩
  case round =>
    obtain ⟨k, C', m, Al, cl, zs, rfl, hkn, rfl, HD⟩ := hrel
    clear HI0
    have ek := HD.out.ek
    by_cases hlt : k < n
    · obtain ⟨s, hs⟩ : ∃ s, l[k]? = some s := ⟨_, List.getElem?_eq_getElem (by have := HLN.out; omega)⟩
      have c0 := HSM.out wr (ek.box (z := g) (o := o) (by simp)) k s hs
      have hdr : l.drop k = s :: l.drop (k + 1) := by
        rw [List.drop_eq_getElem_cons (by have := HLN.out; omega), show l[k]'(by have := HLN.out; omega) = s from (List.getElem?_eq_some_iff.1 hs).2]
      have r1 := HD.out.r1
      have r2 := HD.out.r2
      rw [hdr] at r1 r2
      have R1 : Hid ((tkq (l.drop (k + 1)) (wnt s C').1).1 = res.1) := Lib.hid r1
      have R2 : Hid (m.map pl ++ ((wnt s C').2 :: (tkq (l.drop (k + 1)) (wnt s C').1).2) = res.2) := Lib.hid r2
      have HW := Lib.hid (wnt_any s ek.cu ek.ok)
      have HGW := Lib.hid (Got.wnt ek.ok s)
      have p0 := cell_heap (ek.box (z := w.heap.size) (o := sdb b) (by simp)) (i := 0)
      simp only [List.getElem?_toArray, List.getElem?_cons_zero] at p0
      have E1 := Lib.hid ek
      have HR1 := Lib.hid HD.out.row
      have HO := Lib.hid (And.intro HD.out.own (And.intro HD.out.ne HD.out.hn))
      have z1 : (0 : Int) ≤ (k : Nat) := by omega
      have z2 : ((k : Nat) : Int) < n := by omega
      have z3 : ((k : Nat) : Int) ≤ 9 := by omega
      clear ek hs hdr r1 r2 HD
      go_wp2_with fail
      refine HW.out.mono ?_
      rintro e w2 ⟨SG, rfl, hp1, hT1, hm1, ho1⟩
      have hob : (Value.slice Al k cl).ownBlock ≠ some b := fun e => by
        have := (E1.out.zn b (HO.out.1 b e)).1
        have := E1.out.hX b rfl
        omega
      have ek2 := E1.out.got hT1 hm1 ⟨HGW.out.ok, HGW.out.L⟩ ho1
      have hrow2 := HR1.out.of ho1 hob
      have ek3 := ek2.rowOf 0 1 (l := [SG]) rfl (by simp) (.cells #[.int .i64 SG.k, .string SG.g, .string SG.t, .int .i64 SG.a, .slice SG.A SG.kids.length SG.c] 30 (0, 0)) 30 rfl
      have hrow3 := hrow2.below (below1 w2 (.cells #[.int .i64 SG.k, .string SG.g, .string SG.t, .int .i64 SG.a, .slice SG.A SG.kids.length SG.c] 30 (0, 0)))
      have hlies := (tn_iff.1 (ek3.tn ⟨0, ⟨#[]⟩, ⟨#[]⟩, 0, some ⟨w2.heap.size, 0, none⟩, 1, [SG]⟩ (by simp))).2.1
      have E3 := Lib.hid (ek3.sub (bs' := [(w.heap.size, sdb b), (g, o)]) (ts' := SG :: m) (by simp) (by simp only [List.mem_cons]; rintro T (h | h) <;> simp [h]))
      have HR3 := Lib.hid hrow3
      have HLI := Lib.hid hlies
      clear ek2 hrow2 ek3 hrow3 hlies hT1 hm1 ho1 p0 HW E1 HR1 hob c0
      go_wp2_with (at_builtin; refine Stay.out ?_)
      refine Stay.mk ?_
      refine wpList_append_n (by rfl) (.tmp 14) (.tmp 19) (by rfl) (w2.alloc (.cells #[.int .i64 SG.k, .string SG.g, .string SG.t, .int .i64 SG.a, .slice SG.A SG.kids.length SG.c] 30 (0, 0))) (.slice Al k cl) m [SG] (some ⟨w2.heap.size, 0, none⟩) 1 1 _ rfl (by rfl) (by rfl) HLI.out (by simp) HR3.out (by have := HO.out.2.2; simp; omega) ?_
      intro A1 c1 w4 hrow4 hg4 hat4
      obtain ⟨zs4, ek4, hz4, ho4, hn4'⟩ := E3.out.grows hg4 (own' := (Value.slice A1 (m ++ [SG]).length c1).ownBlock) (fun q hq => .inl (HO.out.1 q hq)) HO.out.2.1 hat4 hrow4.lt
      have hlen : (m ++ [SG]).length = k + 1 := by rw [List.length_append, HO.out.2.2]; rfl
      have hmap : (m ++ [SG]).map pl ++ (tkq (l.drop (k + 1)) (wnt s C').1).2 = res.2 := by
        rw [List.map_append, List.map_cons, List.map_nil, hp1, List.append_assoc]
        exact R2.out
      have ek5 := ek4.sub (bs' := [(w.heap.size, sdb b), (g, o)]) (ts' := m ++ [SG]) (by simp) (by simp only [List.mem_append, List.mem_cons, List.not_mem_nil, or_false]; rintro T (h | h) <;> simp [h])
      rw [hlen] at hrow4 ho4 hn4'
      rw [hlen]
      have HI : Hid (TkI b A c g o w l C res (k + 1) (wnt s C').1 (m ++ [SG]) A1 c1 zs4 w4) := Lib.hid ⟨ek5, hrow4, fun q hq => (ho4 q hq).resolve_right (fun hh => hh.2 hh.1), hn4', hlen, R1.out, hmap⟩
      clear ek4 ek5 hrow4 hg4 hat4 hz4 ho4 hn4' hlen hmap E3 HR3 HLI R1 R2 hp1
      go_wp2
      go_roundw
      case rel => exact ⟨k + 1, (wnt s C').1, m ++ [SG], A1, c1, zs4, by go_num, by omega, rfl, HI⟩
      case measure => simp [intOf]; omega
    · obtain rfl : k = n := by omega
      have hnl : l.drop k = [] := List.drop_eq_nil_of_le (by rw [HLN.out]; exact Nat.le_refl _)
      have r1 := HD.out.r1
      have r2 := HD.out.r2
      rw [hnl] at r1 r2
      have hres : res = (C', m.map pl) := by
        have e1 : C' = res.1 := r1
        have e2 : m.map pl ++ [] = res.2 := r2
        rw [List.append_nil] at e2
        exact Prod.ext e1.symm e2.symm
      have hlo := HD.out.own
      have hmk := HD.out.hn
      have hrow := HD.out.row
      subst hmk
      have HV := Lib.hid (ek.listw (r := res) (m := m) hrow hlo (fun x hx => hx) (by omega) (by rw [hres]) (by rw [hres]))
      clear ek r1 r2 hnl hlo hrow HD hres
      go_wp2
      refine bodyPost_ret (v := .slice Al m.length cl) (by simp [results, Tryz.results85, go_sem]) rfl HV.out
theorem tokens_any (l : List ByteArray) (n : Nat) (hl : l.length = n) (hn4 : n ≤ 9) (g off : Nat) (o : Obj) (w : World) (C : Cu) (hgb : g ≠ b) (hgo : w.heap[g]? = some o) (hsm : ∀ W' : World, W'.heap[g]? = some o → SsM W' g off l) (h : CuM b A c C w) (hk : C.Ok) :
    Calls Tryz.prog 85 #[rcv b, .slice (some ⟨g, off, none⟩) n n] w (TlV b A c (tkq l C) w) := (tokensW_any l n hl hn4 g off o w C hgb hgo hsm h hk).mono fun _ _ h => h.v
end
set_option maxRecDepth 100000 in
set_option maxHeartbeats 4000000 in
theorem snode_any (k : Int) (ps : List Pp) (n : Nat) (hn : ps.length = n) (hn6 : n ≤ 12) (g off : Nat) (o : Obj) (w : World) (hgo : w.heap[g]? = some o) (hpm : ∀ W' : World, W'.heap[g]? = some o → PpM W' g off ps) (hlies : ∀ p ∈ ps, Tks (lo w.heap.size) w p.A p.m) (hnil : ∀ p ∈ ps, p.A = none → p.c = 0) (hlen : sz_ ps ≤ 20000) :
    Calls Tryz.prog 41 #[.int .i64 k, .slice (some ⟨g, off, none⟩) n n] w fun e w' => ∃ A' c', e = .returned (nv ⟨k, ⟨#[]⟩, ⟨#[]⟩, 0, A', c', ps.flatMap Pp.m⟩) ∧ RowN w' (.slice A' (ps.flatMap Pp.m).length c') (ps.flatMap Pp.m) ∧ (∀ q, (Value.slice A' (ps.flatMap Pp.m).length c').ownBlock = some q → w.heap.size < q) ∧ Below w.heap.size w w' := by
  have hgw : g < w.heap.size := (Array.getElem?_eq_some_iff.1 hgo).1
  have hb0 := below1 w zb5
  have HC := Lib.hid (concat_any ps n hn hn6 g off o (w.alloc zb5) ((hb0.block g hgw).trans hgo) hpm (fun p hp => (hlies p hp).keep (fun q i hq => cell_of (hb0.block q hq)) fun q hq => by have : q < w.heap.size := hq; show q < (w.alloc zb5).heap.size; simp; omega) hnil hlen)
  have HB := Lib.hid hb0
  clear hgo hpm hlies hnil hlen hb0 hn
  generalize ps.flatMap Pp.m = M at HC ⊢
  go_enter Tryz.func41, Tryz.ntmps41
  go_wp2_with fail
  refine HC.out.mono ?_
  rintro e w2 ⟨A', c', rfl, hrow, hown, hb2⟩
  have hz := (hb2.block w.heap.size (by simp)).trans (heap_alloc_new w zb5)
  have hs := set5_self hz ⟨k, ⟨#[]⟩, ⟨#[]⟩, 0, A', c', M⟩
  have hB := below_set5 (HB.out.trans (hb2.mono (by simp))) (Nat.le_refl _) ⟨k, ⟨#[]⟩, ⟨#[]⟩, 0, A', c', M⟩
  have hown2 : ∀ q, (Value.slice A' M.length c').ownBlock = some q → w.heap.size < q := fun q hq => by have := hown q hq; rw [World.size_alloc] at this; omega
  have hrow2 : RowN (set5 w2 w.heap.size ⟨k, ⟨#[]⟩, ⟨#[]⟩, 0, A', c', M⟩) (.slice A' M.length c') M := hrow.keep fun q hq => set5_other (by have := hown2 q hq; omega) _
  have HF := Lib.hid (And.intro hrow2 (And.intro hown2 hB))
  clear hrow hown hb2 hB hown2 hrow2 HC
  go_wp2_with (with_reducible refine stay_store 30 (.tmp 4) (.tmp 8) (by rfl) ?_)
  refine Stay.mk ?_
  refine wpList_store_node (by rfl) 30 (.tmp 4) (.tmp 8) (by rfl) size_tnode w.heap.size ⟨k, ⟨#[]⟩, ⟨#[]⟩, 0, A', c', M⟩ (by rfl) (by rfl) hz ?_
  generalize set5 w2 w.heap.size ⟨k, ⟨#[]⟩, ⟨#[]⟩, 0, A', c', M⟩ = w9 at hs HF ⊢
  clear hz
  go_wp2
  have g0 := cell_heap hs (i := 0)
  have g1 := cell_heap hs (i := 1)
  have g2 := cell_heap hs (i := 2)
  have g3 := cell_heap hs (i := 3)
  have g4 := cell_heap hs (i := 4)
  simp only [List.getElem?_toArray, List.getElem?_cons_zero, List.getElem?_cons_succ] at g0 g1 g2 g3 g4
  refine bodyPost_ret (v := nv ⟨k, ⟨#[]⟩, ⟨#[]⟩, 0, A', c', M⟩) (by simp [results, Tryz.results41, go_sem, g0, g1, g2, g3, g4]) rfl ⟨A', c', rfl, HF.out.1, HF.out.2.1, HF.out.2.2⟩

/-- a node of parts that are there -/
theorem EK.nodedB {b : Nat} {A : Option Addr} {c : Nat} {S X : Nat → Prop} {w W : World} {C : Cu} {bs : List (Nat × Obj)} {zs : List Nat} {ts : List Tr} (h : EK b A c S X w C bs zs ts W) (k : Int) (ps : List Pp) (n : Nat) (hn : ps.length = n) (hn6 : n ≤ 12) (hps : ∀ p ∈ ps, bnd p.A p.c p.m ∈ ts) (hnil : ∀ p ∈ ps, p.A = none → p.c = 0) (hlen : sz_ ps ≤ 20000) (o : Obj) (t : TypeId) (ho : o = .cells (ps.map Pp.v).toArray t (0, 0)) :
    Calls Tryz.prog 41 #[.int .i64 k, .slice (some ⟨W.heap.size, 0, none⟩) n n] (W.alloc o) fun e W' => ∃ A' c', e = .returned (nv ⟨k, ⟨#[]⟩, ⟨#[]⟩, 0, A', c', ps.flatMap Pp.m⟩) ∧ EK b A c S X w C bs zs ((⟨k, ⟨#[]⟩, ⟨#[]⟩, 0, A', c', ps.flatMap Pp.m⟩ : Tr) :: ts) W' ∧ Below W.heap.size W W' := by
  have h1 := h.below (below1 W o)
  have hlt : ∀ q, (S q ∨ w.heap.size ≤ q ∧ q < (W.alloc o).heap.size) ∧ q ∉ zs → q < (W.alloc o).heap.size := fun q hq => (h1.inS hq.1).1
  refine (snode_any k ps n hn hn6 W.heap.size 0 o (W.alloc o) (heap_alloc_new W o) (fun W' h' => pp_row W' _ ps t o ho h') (fun p hp => ((tn_iff.1 (h1.tn _ (hps p hp))).2.1).keep (fun _ _ _ => rfl) hlt) hnil hlen).mono ?_
  rintro e W' ⟨A', c', rfl, hrow, hown, hb⟩
  have h2 := h1.below hb
  refine ⟨A', c', rfl, ⟨h2.cu, h2.ok, h2.off, h2.rl, h2.bX, h2.hX, h2.hS, h2.has, h2.zn, fun Y hY => ?_⟩, (below1 W o).trans (hb.mono (by simp))⟩
  rcases List.mem_cons.1 hY with rfl | hY
  · refine tn_iff.2 ⟨rng0, hrow.tks.keep (fun _ _ _ => rfl) fun q hq => ?_, fun x hx => ?_⟩
    · have := hown q hq
      have hl := hrow.lt q hq
      have hs := h1.size
      exact ⟨.inr ⟨by omega, hl⟩, fun hz => by have := (h1.zn q hz).2; omega⟩
    · obtain ⟨p, hp, hx⟩ := List.mem_flatMap.1 hx
      exact (h2.tn _ (hps p hp)).kid hx
  · exact h2.tn Y hY
end Dc
end Go.Proofs.YtfmlcddakfbleaaGreatDoor

namespace Go.Proofs.YtfmlcddakfbleaaGreatDoor
namespace Dc
open Go.RowKit SignMath TreeMath

/-- what an operation does: the reader loaded; texts in a row; a tree read; one node's list; a list read; tokens; the parts in a row; a node of them; the result stored -/
inductive Kd
  | load
  | fa
  | ptr (x : Nat)
  | row (l : List ByteArray)
  | tree (F : Nat) (f : Cu → Cu × Tr) (x : Nat)
  | treep (F : Nat) (f : Cu → Cu × Tr) (x : Nat)
  | one (x : Nat)
  | list (F : Nat) (f : Part) (n x : Nat)
  | listp (F : Nat) (f : Part) (n x : Nat)
  | toks (l : List ByteArray) (x r : Nat)
  | bund (xs : List Nat)
  | node (k : Int) (r : Nat)
  | store (x : Nat)
def Kd.isCall : Kd → Bool
  | .tree .. | .treep .. | .one .. | .list .. | .listp .. | .toks .. | .node .. => true
  | _ => false
def Kd.isPart : Kd → Bool
  | .one .. | .list .. | .listp .. | .toks .. => true
  | _ => false
def Kd.deps (j : Nat) : Kd → List Nat
  | .ptr x => [x]
  | .tree _ _ x => [x]
  | .treep _ _ x => [x]
  | .one x => [x]
  | .list _ _ _ x => [x]
  | .listp _ _ _ x => [x]
  | .toks _ x r => [x, r]
  | .bund xs => xs
  | .node _ r => [r]
  | .store _ => List.range j
  | _ => []
def Kd.mx : Kd → Nat
  | .one _ => 1
  | .list _ _ n _ => n
  | .listp _ _ n _ => n
  | .toks l _ _ => l.length
  | _ => 0
def Kd.go : Kd → Cu → Cu
  | .tree _ f _, C => (f C).1
  | .treep _ f _, C => (f C).1
  | .list _ f _ _, C => (f C).1
  | .listp _ f _ _, C => (f C).1
  | .toks l _ _, C => (tkq l C).1
  | _, C => C
section
variable (D : List Kd)
/-- the cursor ahead of an operation; what an operation comes to -/
def cuA (C : Cu) : Nat → Cu
  | 0 => C
  | j + 1 => match D[j]? with
    | some k => k.go (cuA C j)
    | none => cuA C j
def tv (C : Cu) (j : Nat) : List Tr := match D[j]? with
  | some (.tree _ f _) => [(f (cuA D C j)).2]
  | some (.treep _ f _) => [(f (cuA D C j)).2]
  | _ => []
def pv (C : Cu) (j : Nat) : List Tr := match D[j]? with
  | some (.one x) => tv D C x
  | some (.list _ f _ _) => (f (cuA D C j)).2
  | some (.listp _ f _ _) => (f (cuA D C j)).2
  | some (.toks l _ _) => (tkq l (cuA D C j)).2
  | _ => []
def bv (C : Cu) (j : Nat) : List Tr := match D[j]? with
  | some (.bund xs) => xs.flatMap (pv D C)
  | _ => []
def nvl (C : Cu) (j : Nat) : List Tr := match D[j]? with
  | some (.node k r) => [nod k (bv D C r)]
  | _ => []
def isCallAt (j : Nat) : Bool := ((D[j]?).map Kd.isCall).getD false
/-- the call ahead -/
def pc : Nat → Option Nat
  | 0 => none
  | i + 1 => if isCallAt D i = true then some i else pc i
def depsAt (j : Nat) (k : Kd) : List Nat := k.deps j ++ if k.isCall = true then (pc D j).toList else []
def WFk : Kd → Prop
  | .row l => l.length ≤ 9
  | .ptr x => D[x]? = some .fa
  | .tree _ _ x => D[x]? = some .load
  | .treep _ _ x => ∃ y, D[x]? = some (.ptr y)
  | .one x => ∃ F f y, D[x]? = some (.tree F f y) ∨ D[x]? = some (.treep F f y)
  | .list _ _ _ x => D[x]? = some .load
  | .listp _ _ _ x => ∃ y, D[x]? = some (.ptr y)
  | .toks l x r => D[x]? = some .load ∧ D[r]? = some (.row l) ∧ l.length ≤ 9
  | .bund xs => xs.length ≤ 12 ∧ (xs.all fun x => ((D[x]?).map Kd.isPart).getD false) = true ∧ (xs.map fun x => ((D[x]?).map Kd.mx).getD 0).sum ≤ 20000
  | .node _ r => ∃ xs, D[r]? = some (.bund xs)
  | .store x => ∃ k r, D[x]? = some (.node k r)
  | _ => True
end
/-- a function that reads a tree, one that reads some, by the cursor itself -/
def PartP (gf b : Nat) (A : Option Addr) (c : Nat) (f : Cu → Cu × Tr) (D : Nat) : Prop := ∀ (W : World) (C : Cu), CuM b A c C W → C.Ok → C.d ≤ 200 → D ≤ C.d → Calls Tryz.prog gf #[.pointer (some ⟨b, 0, none⟩)] W (TrV b A c (f C) W)
def WhatP (gf b : Nat) (A : Option Addr) (c : Nat) (f : Part) (D : Nat) : Prop := ∀ (W : World) (C : Cu), CuM b A c C W → C.Ok → C.d ≤ 200 → D ≤ C.d → Calls Tryz.prog gf #[.pointer (some ⟨b, 0, none⟩)] W (TlV b A c (f C) W)
section
variable (b : Nat) (A : Option Addr) (c Dp : Nat)
/-- the contracts -/
def Con : Kd → Prop
  | .tree F f _ => Ent F ∧ PartF F b A c f Dp ∧ GX f Dp
  | .treep F f _ => Ent F ∧ PartP F b A c f Dp ∧ GX f Dp
  | .list F f n _ => Ent F ∧ WhatF F b A c f Dp ∧ GP f Dp 0 ∧ (9000 ≤ n ∨ ∀ C : Cu, C.Ok → (f C).2.length ≤ n)
  | .listp F f n _ => Ent F ∧ WhatP F b A c f Dp ∧ GP f Dp 0 ∧ (9000 ≤ n ∨ ∀ C : Cu, C.Ok → (f C).2.length ≤ n)
  | _ => True
end
def Fits (base j : Nat) (o : Oper) : Kd → Prop
  | .load => o.op = .load 98 (.tmp 1) ∧ o.dst = some (base + j)
  | .fa => o.op = .fieldAddr 98 (.tmp 1) 0 ∧ o.dst = some (base + j)
  | .ptr x => o.op = .load 56 (.tmp (base + x)) ∧ o.dst = some (base + j)
  | .row l => (∃ ps, o.op = .buildSlice 117 l.length ps ∧ ps.toList = (l.zipIdx 0).map fun p => (p.2, .const (.string p.1))) ∧ 0 < l.length ∧ o.dst = some (base + j)
  | .tree F _ x => (∃ ty, o.op = .call { callee := .value (.func F), args := #[.tmp (base + x)], argTypes := ty }) ∧ o.dst = some (base + j)
  | .treep F _ x => (∃ ty, o.op = .call { callee := .value (.func F), args := #[.tmp (base + x)], argTypes := ty }) ∧ o.dst = some (base + j)
  | .one x => (∃ ty, o.op = .call { callee := .value (.func 107), args := #[.tmp (base + x)], argTypes := ty }) ∧ o.dst = some (base + j)
  | .list F _ _ x => (∃ ty, o.op = .call { callee := .value (.func F), args := #[.tmp (base + x)], argTypes := ty }) ∧ o.dst = some (base + j)
  | .listp F _ _ x => (∃ ty, o.op = .call { callee := .value (.func F), args := #[.tmp (base + x)], argTypes := ty }) ∧ o.dst = some (base + j)
  | .toks _ x r => (∃ ty, o.op = .call { callee := .value (.func 85), args := #[.tmp (base + x), .tmp (base + r)], argTypes := ty }) ∧ o.dst = some (base + j)
  | .bund xs => (∃ ps, o.op = .buildSlice 100 xs.length ps ∧ ps.toList = (xs.zipIdx 0).map fun p => (p.2, .tmp (base + p.1))) ∧ 0 < xs.length ∧ o.dst = some (base + j)
  | .node k r => (∃ ty, o.op = .call { callee := .value (.func 41), args := #[.const (.int .i64 k), .tmp (base + r)], argTypes := ty }) ∧ o.dst = some (base + j)
  | .store x => o.op = .store 30 (.tmp 2) (.tmp (base + x)) ∧ o.dst = none
section
variable {D : List Kd} {C C0 : Cu}
theorem Kd.go_id {k : Kd} (h : k.isCall = false) : k.go C = C := by cases k <;> first | rfl | cases h
theorem cuA_skip {p : Nat} : ∀ {i : Nat}, p ≤ i → (∀ j, p ≤ j → j < i → isCallAt D j = false) → cuA D C i = cuA D C p
  | 0, h, _ => by rw [Nat.le_zero.1 h]
  | i + 1, h, hn => by
    rcases Nat.lt_or_ge p (i + 1) with hlt | hge
    · have ih := cuA_skip (p := p) (i := i) (by omega) fun j h1 h2 => hn j h1 (by omega)
      have hi := hn i (by omega) (by omega)
      show (match D[i]? with | some k => k.go (cuA D C i) | none => cuA D C i) = _
      unfold isCallAt at hi
      cases hx : D[i]? with
      | none => exact ih
      | some k =>
        rw [hx] at hi
        exact (Kd.go_id hi).trans ih
    · rw [show p = i + 1 from by omega]
theorem cuA_at {i : Nat} {k : Kd} (h : D[i]? = some k) : cuA D C (i + 1) = k.go (cuA D C i) := by
  show (match D[i]? with | some k => k.go (cuA D C i) | none => cuA D C i) = _
  rw [h]
theorem pc_some : ∀ {i q : Nat}, pc D i = some q → q < i ∧ isCallAt D q = true ∧ ∀ j, q < j → j < i → isCallAt D j = false
  | 0, _, h => by cases h
  | i + 1, q, h => by
    unfold pc at h
    split at h
    · rename_i hc
      injection h with h
      subst h
      exact ⟨Nat.lt_succ_self _, hc, fun j h1 h2 => by omega⟩
    · rename_i hc
      obtain ⟨h1, h2, h3⟩ := pc_some h
      exact ⟨by omega, h2, fun j h4 h5 => by
        rcases Nat.lt_or_ge j i with h6 | h6
        · exact h3 j h4 h6
        · rw [show j = i from by omega]; simpa using hc⟩
theorem pc_none : ∀ {i : Nat}, pc D i = none → ∀ j, j < i → isCallAt D j = false
  | 0, _, j, hj => absurd hj (Nat.not_lt_zero _)
  | i + 1, h, j, hj => by
    unfold pc at h
    split at h
    · cases h
    · rename_i hc
      rcases Nat.lt_or_ge j i with h6 | h6
      · exact pc_none h j h6
      · rw [show j = i from by omega]; simpa using hc
end

/-- what an operation that is done has left -/
def Hold (D : List Kd) (C0 : Cu) (b base : Nat) (a : Act) (bs : List (Nat × Obj)) (ts : List Tr) (j : Nat) : Kd → Prop
  | .load => a.eval (.tmp (base + j)) = rcv b
  | .fa => ∃ z, a.eval (.tmp (base + j)) = .pointer (some ⟨z, 0, none⟩) ∧ (z, sdb b) ∈ bs
  | .ptr _ => a.eval (.tmp (base + j)) = .pointer (some ⟨b, 0, none⟩)
  | .row l => ∃ g, a.eval (.tmp (base + j)) = .slice (some ⟨g, 0, none⟩) l.length l.length ∧ (g, rowO l) ∈ bs ∧ g ≠ b
  | .tree _ _ _ => ∃ T, a.eval (.tmp (base + j)) = nv T ∧ T ∈ ts ∧ [pl T] = tv D C0 j
  | .treep _ _ _ => ∃ T, a.eval (.tmp (base + j)) = nv T ∧ T ∈ ts ∧ [pl T] = tv D C0 j
  | .bund xs => ∃ (g : Nat) (ps : List Pp), a.eval (.tmp (base + j)) = .slice (some ⟨g, 0, none⟩) xs.length xs.length ∧ (g, ppO ps) ∈ bs ∧ ps.length = xs.length ∧ (∀ p ∈ ps, bnd p.A p.c p.m ∈ ts) ∧ (∀ p ∈ ps, p.A = none → p.c = 0) ∧ (ps.flatMap Pp.m).map pl = bv D C0 j ∧ sz_ ps ≤ 20000
  | .node _ _ => ∃ T, a.eval (.tmp (base + j)) = nv T ∧ T ∈ ts ∧ [pl T] = nvl D C0 j
  | .store _ => True
  | k => ∃ p : Pp, a.eval (.tmp (base + j)) = p.v ∧ bnd p.A p.c p.m ∈ ts ∧ (p.A = none → p.c = 0) ∧ p.m.map pl = pv D C0 j ∧ p.m.length ≤ k.mx
theorem Hold.mono {D : List Kd} {C0 : Cu} {b base : Nat} {a a' : Act} {bs bs' : List (Nat × Obj)} {ts ts' : List Tr} {j : Nat} {k : Kd} (h : Hold D C0 b base a bs ts j k) (ha : a'.eval (.tmp (base + j)) = a.eval (.tmp (base + j))) (hb : ∀ q ∈ bs, q ∈ bs') (ht : ∀ T ∈ ts, T ∈ ts') : Hold D C0 b base a' bs' ts' j k := by
  cases k <;> simp only [Hold, ha] at h ⊢
  · exact h
  · obtain ⟨z, h1, h2⟩ := h; exact ⟨z, h1, hb _ h2⟩
  · exact h
  · obtain ⟨g, h1, h2, h3⟩ := h; exact ⟨g, h1, hb _ h2, h3⟩
  · obtain ⟨T, h1, h2, h3⟩ := h; exact ⟨T, h1, ht _ h2, h3⟩
  · obtain ⟨T, h1, h2, h3⟩ := h; exact ⟨T, h1, ht _ h2, h3⟩
  · obtain ⟨p, h1, h2, h3⟩ := h; exact ⟨p, h1, ht _ h2, h3⟩
  · obtain ⟨p, h1, h2, h3⟩ := h; exact ⟨p, h1, ht _ h2, h3⟩
  · obtain ⟨p, h1, h2, h3⟩ := h; exact ⟨p, h1, ht _ h2, h3⟩
  · obtain ⟨p, h1, h2, h3⟩ := h; exact ⟨p, h1, ht _ h2, h3⟩
  · obtain ⟨g, ps, h1, h2, h3, h4, h5⟩ := h; exact ⟨g, ps, h1, hb _ h2, h3, fun p hp => ht _ (h4 p hp), h5⟩
  · obtain ⟨T, h1, h2, h3⟩ := h; exact ⟨T, h1, ht _ h2, h3⟩

/-- while the region goes -/
structure St (D : List Kd) (C0 : Cu) (b : Nat) (A : Option Addr) (c base nt z1 z2 : Nat) (df : List Deferred) (w0 : World) (L : Array Bool) (a : Act) (w : World) (p : Nat) (C : Cu) (bs : List (Nat × Obj)) (zs : List Nat) (ts : List Tr) : Prop where
  sz : L.size = D.length
  df : a.defers = df
  nt : a.tmps.size = nt
  e1 : a.eval (.tmp 1) = .pointer (some ⟨z1, 0, none⟩)
  e2 : a.eval (.tmp 2) = .pointer (some ⟨z2, 0, none⟩)
  un : L.getD (D.length - 1) false = false
  cu : C = cuA D C0 p
  d : C.d = C0.d
  ek : EK b A c no (· = b) w0 C bs zs ts w
  m1 : (z1, sdb b) ∈ bs
  m2 : (z2, zb5) ∈ bs
  m3 : z2 ∈ zs
  pf : ∀ j, isCallAt D j = true → (L.getD j false = true ↔ j < p)
  hd : ∀ j k, D[j]? = some k → L.getD j false = true → Hold D C0 b base a bs ts j k

section
variable {D : List Kd} {C0 : Cu} {b : Nat} {A : Option Addr} {c base nt z1 z2 : Nat} {df : List Deferred} {w0 : World} {L : Array Bool} {a : Act} {w : World} {p : Nat} {C : Cu} {bs : List (Nat × Obj)} {zs : List Nat} {ts : List Tr}
theorem St.put (h : St D C0 b A c base nt z1 z2 df w0 L a w p C bs zs ts) (hb : 2 < base) {i : Nat} (hi : i + 1 < D.length) (hnt : base + i < nt) {k : Kd} (hk : D[i]? = some k) (v : Value) {w' : World} {p' : Nat} {C' : Cu} {bs' : List (Nat × Obj)} {zs' : List Nat} {ts' : List Tr} (ek : EK b A c no (· = b) w0 C' bs' zs' ts' w')
    (hbs : ∀ q ∈ bs, q ∈ bs') (hzs : ∀ z ∈ zs, z ∈ zs') (hts : ∀ T ∈ ts, T ∈ ts') (cu : C' = cuA D C0 p') (d : C'.d = C0.d) (pf : ∀ j, isCallAt D j = true → ((j = i ∨ L.getD j false = true) ↔ j < p')) (hold : Hold D C0 b base (a.put (some (base + i)) v) bs' ts' i k) :
    St D C0 b A c base nt z1 z2 df w0 (L.setIfInBounds i true) (a.put (some (base + i)) v) w' p' C' bs' zs' ts' := by
  have hiL : i < L.size := by rw [h.sz]; omega
  have n1 : (1 : Nat) ≠ base + i := by omega
  have n2 : (2 : Nat) ≠ base + i := by omega
  refine ⟨by simpa using h.sz, h.df, by show (a.tmps.setIfInBounds _ _).size = nt; simpa using h.nt, (eval_put_ne n1).trans h.e1, (eval_put_ne n2).trans h.e2, by rw [getD_set hiL, if_neg (by omega)]; exact h.un, cu, d, ek, hbs _ h.m1, hbs _ h.m2, hzs _ h.m3, fun j hj => ?_, fun j kj hkj hj => ?_⟩
  · rw [getD_set hiL, ← pf j hj]
    by_cases e : j = i <;> simp [e]
  · rw [getD_set hiL] at hj
    by_cases e : j = i
    · subst e
      rw [hk] at hkj
      injection hkj with hkj
      rw [← hkj]
      exact hold
    · rw [if_neg e] at hj
      have n3 : base + j ≠ base + i := by omega
      exact (h.hd j kj hkj hj).mono (eval_put_ne n3) hbs hts
end
end Dc
end Go.Proofs.YtfmlcddakfbleaaGreatDoor

namespace Go.Proofs.YtfmlcddakfbleaaGreatDoor
namespace Dc
open Go.RowKit SignMath TreeMath

theorem ent_one : Ent 107 := ent_of Tryz.func107 (by kernel_rfl) (by kernel_rfl)
theorem ent_toks : Ent 85 := ent_of Tryz.func85 (by kernel_rfl) (by kernel_rfl)
theorem ent_node : Ent 41 := ent_of Tryz.func41 (by kernel_rfl) (by kernel_rfl)
set_option maxRecDepth 100000 in
theorem size_reader : ∀ w : World, (sizeOf 98).run Tryz.prog w = .ok 1 w := fun _ => rfl
set_option maxRecDepth 100000 in
theorem size_ptr : ∀ w : World, (sizeOf 56).run Tryz.prog w = .ok 1 w := fun _ => rfl
theorem run_fa {o : Oper} {a : Act} {w : World} {x : Operand} {z : Nat} (ho : o.op = .fieldAddr 98 x 0) (hx : a.eval x = .pointer (some ⟨z, 0, none⟩)) : (execOp a.eval o).run Tryz.prog w = .ok (.value (.pointer (some ⟨z, 0, none⟩))) w := by
  simp only [execOp, ho, hx]
  go_simp
theorem run_ptr {o : Oper} {a : Act} {w : World} {x : Operand} {z b : Nat} (ho : o.op = .load 56 x) (hx : a.eval x = .pointer (some ⟨z, 0, none⟩)) (hz : w.heap[z]? = some (sdb b)) : (execOp a.eval o).run Tryz.prog w = .ok (.value (.pointer (some ⟨b, 0, none⟩))) w := by
  have s0 := cell_heap hz (i := 0)
  simp only [List.getElem?_toArray, List.getElem?_cons_zero] at s0
  simp only [execOp, ho, hx]
  go_simp
theorem run_load {o : Oper} {a : Act} {w : World} {x : Operand} {z b : Nat} (ho : o.op = .load 98 x) (hx : a.eval x = .pointer (some ⟨z, 0, none⟩)) (hz : w.heap[z]? = some (sdb b)) : (execOp a.eval o).run Tryz.prog w = .ok (.value (rcv b)) w := by
  have s0 := cell_heap hz (i := 0)
  simp only [List.getElem?_toArray, List.getElem?_cons_zero] at s0
  simp only [execOp, ho, hx]
  go_simp
section
variable {D : List Kd} {C0 : Cu} {b : Nat} {A : Option Addr} {c base nt z1 z2 : Nat} {df : List Deferred} {w0 : World} {L : Array Bool} {a : Act} {w : World} {p : Nat} {C : Cu} {bs : List (Nat × Obj)} {zs : List Nat} {ts : List Tr}
theorem St.chain (h : St D C0 b A c base nt z1 z2 df w0 L a w p C bs zs ts) {i : Nat} (hc : isCallAt D i = true) (hu : L.getD i true = false) (hpc : ∀ q, pc D i = some q → L.getD q false = true) : cuA D C0 i = C ∧ ∀ j, isCallAt D j = true → ((j = i ∨ L.getD j false = true) ↔ j < i + 1) := by
  have hpi : p ≤ i := by
    rcases Nat.lt_or_ge i p with h1 | h1
    · have := (h.pf i hc).2 h1
      rw [unl hu] at this
      cases this
    · exact h1
  have hno : ∀ j, p ≤ j → j < i → isCallAt D j = false := fun j h1 h2 => by
    cases hq : pc D i with
    | none => exact pc_none hq j h2
    | some q =>
      obtain ⟨h3, h4, h5⟩ := pc_some hq
      have := (h.pf q h4).1 (hpc q hq)
      exact h5 j (by omega) h2
  refine ⟨(cuA_skip hpi hno).trans h.cu.symm, fun j hj => ?_⟩
  rw [h.pf j hj]
  constructor
  · rintro (e | e) <;> omega
  · intro e
    rcases Nat.lt_or_ge j p with h1 | h1
    · exact .inr h1
    · by_cases e2 : j = i
      · exact .inl e2
      · have := hno j h1 (by omega)
        rw [hj] at this
        cases this
theorem St.other (h : St D C0 b A c base nt z1 z2 df w0 L a w p C bs zs ts) {i : Nat} (hc : isCallAt D i = false) : ∀ j, isCallAt D j = true → ((j = i ∨ L.getD j false = true) ↔ j < p) := fun j hj => by
  rw [← h.pf j hj]
  refine ⟨fun e => e.resolve_left fun e => ?_, .inr⟩
  rw [e, hc] at hj
  cases hj
/-- the parts that are there -/
theorem St.parts (h : St D C0 b A c base nt z1 z2 df w0 L a w p C bs zs ts) : ∀ (xs : List Nat), (xs.all fun x => ((D[x]?).map Kd.isPart).getD false) = true → (∀ x ∈ xs, L.getD x false = true) →
    ∃ ps : List Pp, ps.length = xs.length ∧ (xs.map fun x => a.eval (.tmp (base + x))) = ps.map Pp.v ∧ (∀ q ∈ ps, bnd q.A q.c q.m ∈ ts) ∧ (∀ q ∈ ps, q.A = none → q.c = 0) ∧ (ps.flatMap Pp.m).map pl = xs.flatMap (pv D C0) ∧ (ps.flatMap Pp.m).length ≤ (xs.map fun x => ((D[x]?).map Kd.mx).getD 0).sum
  | [], _, _ => ⟨[], rfl, rfl, by simp, by simp, rfl, Nat.le_refl _⟩
  | x :: xs, hp, hl => by
    rw [List.all_cons, Bool.and_eq_true] at hp
    obtain ⟨ps, g1, g2, g3, g4, g5, g6⟩ := h.parts xs hp.2 fun y hy => hl y (List.mem_cons_of_mem _ hy)
    have h1 := hp.1
    cases hx : D[x]? with
    | none => rw [hx] at h1; cases h1
    | some k =>
      rw [hx] at h1
      have hh := h.hd x k hx (hl x (by simp))
      have hP : ∃ q : Pp, a.eval (.tmp (base + x)) = q.v ∧ bnd q.A q.c q.m ∈ ts ∧ (q.A = none → q.c = 0) ∧ q.m.map pl = pv D C0 x ∧ q.m.length ≤ k.mx := by
        cases k <;> first | exact hh | cases h1
      obtain ⟨q, q1, q2, q3, q4, q5⟩ := hP
      refine ⟨q :: ps, by simp [g1], by rw [List.map_cons, List.map_cons, q1, g2], ?_, ?_, ?_, ?_⟩
      · intro y hy
        rcases List.mem_cons.1 hy with rfl | hy
        · exact q2
        · exact g3 y hy
      · intro y hy
        rcases List.mem_cons.1 hy with rfl | hy
        · exact q3
        · exact g4 y hy
      · rw [List.flatMap_cons, List.map_append, q4, g5, List.flatMap_cons]
      · rw [List.flatMap_cons, List.length_append, List.map_cons, List.sum_cons, hx]
        exact Nat.add_le_add q5 g6
theorem EK.noded2 {S X : Nat → Prop} {w W : World} (h : EK b A c S X w C bs zs ts W) (k : Int) (ps : List Pp) (n : Nat) (hn : ps.length = n) (hn6 : n ≤ 12) (hps : ∀ p ∈ ps, bnd p.A p.c p.m ∈ ts) (hnil : ∀ p ∈ ps, p.A = none → p.c = 0) (hlen : sz_ ps ≤ 20000) (g : Nat) (hg : (g, ppO ps) ∈ bs) :
    Calls Tryz.prog 41 #[.int .i64 k, .slice (some ⟨g, 0, none⟩) n n] W fun e W' => ∃ A' c', e = .returned (nv ⟨k, ⟨#[]⟩, ⟨#[]⟩, 0, A', c', ps.flatMap Pp.m⟩) ∧ EK b A c S X w C bs zs ((⟨k, ⟨#[]⟩, ⟨#[]⟩, 0, A', c', ps.flatMap Pp.m⟩ : Tr) :: ts) W' := by
  have hlt : ∀ q, (S q ∨ w.heap.size ≤ q ∧ q < W.heap.size) ∧ q ∉ zs → q < W.heap.size := fun q hq => (h.inS hq.1).1
  refine (snode_any k ps n hn hn6 g 0 (ppO ps) W (h.box hg) (fun W' h' => pp_row W' _ ps 23 _ rfl h') (fun p hp => ((tn_iff.1 (h.tn _ (hps p hp))).2.1).keep (fun _ _ _ => rfl) hlt) hnil hlen).mono ?_
  rintro e W' ⟨A', c', rfl, hrow, hown, hb⟩
  have h2 := h.below hb
  refine ⟨A', c', rfl, h2.cu, h2.ok, h2.off, h2.rl, h2.bX, h2.hX, h2.hS, h2.has, h2.zn, fun Y hY => ?_⟩
  rcases List.mem_cons.1 hY with rfl | hY
  · refine tn_iff.2 ⟨rng0, hrow.tks.keep (fun _ _ _ => rfl) fun q hq => ?_, fun x hx => ?_⟩
    · have := hown q hq
      have hl := hrow.lt q hq
      have hs := h.size
      exact ⟨.inr ⟨by omega, hl⟩, fun hz => by have := (h.zn q hz).2; omega⟩
    · obtain ⟨p, hp, hx⟩ := List.mem_flatMap.1 hx
      exact (h2.tn _ (hps p hp)).kid hx
  · exact h2.tn Y hY
end
end Dc
end Go.Proofs.YtfmlcddakfbleaaGreatDoor

namespace Go.Proofs.YtfmlcddakfbleaaGreatDoor
namespace Dc
open Go.RowKit SignMath TreeMath

def Kd.isStore : Kd → Bool
  | .store _ => true
  | _ => false
/-- an operation is what it should be -/
def Fit1 (D : List Kd) (b : Nat) (A : Option Addr) (c Dp base j : Nat) (o : Oper) (k : Kd) : Prop :=
  o.guard = none ∧ Fits base j o k ∧ afterOk o (depsAt D j k) = true ∧ afterLt o j = true ∧ (k.isStore == decide (j + 1 = D.length)) = true ∧ WFk D k ∧ Con b A c Dp k
def FitL (D : List Kd) (b : Nat) (A : Option Addr) (c Dp base : Nat) : Nat → List Oper → List Kd → Prop
  | j, o :: os, k :: ks => Fit1 D b A c Dp base j o k ∧ FitL D b A c Dp base (j + 1) os ks
  | _, [], [] => True
  | _, _, _ => False
theorem fitL_at {D : List Kd} {b : Nat} {A : Option Addr} {c Dp base : Nat} : ∀ {j : Nat} {os : List Oper} {ks : List Kd}, FitL D b A c Dp base j os ks → os.length = ks.length ∧ ∀ (i : Nat) (o : Oper) (k : Kd), os[i]? = some o → ks[i]? = some k → Fit1 D b A c Dp base (j + i) o k
  | _, [], [], _ => ⟨rfl, fun i o k h => by simp at h⟩
  | _, [], _ :: _, h => h.elim
  | _, _ :: _, [], h => h.elim
  | j, o :: os, k :: ks, h => by
    obtain ⟨h1, h2⟩ := fitL_at h.2
    refine ⟨by rw [List.length_cons, List.length_cons, h1], fun i o' k' ho hk => ?_⟩
    cases i with
    | zero =>
      rw [List.getElem?_cons_zero] at ho hk
      injection ho with ho
      injection hk with hk
      rw [← ho, ← hk]
      exact h.1
    | succ i =>
      rw [List.getElem?_cons_succ] at ho hk
      have := h2 i o' k' ho hk
      rwa [show j + 1 + i = j + (i + 1) from by omega] at this

section
variable {D : List Kd} {C0 : Cu} {b : Nat} {A : Option Addr} {c Dp base nt z1 z2 : Nat} {df : List Deferred} {w0 : World} {ops : Array Oper} {Q : Exit → Act → World → Prop}
/-- what the region keeps; behind the store: what it leaves -/
def Ir (D : List Kd) (C0 : Cu) (b : Nat) (A : Option Addr) (c base nt z1 z2 : Nat) (df : List Deferred) (w0 : World) (L : Array Bool) (a : Act) (w : World) : Prop :=
  (∃ p C bs zs ts, St D C0 b A c base nt z1 z2 df w0 L a w p C bs zs ts) ∨
  (L.size = D.length ∧ (∀ j, j < D.length → L.getD j false = true) ∧ a.defers = df ∧ a.tmps.size = nt ∧ a.eval (.tmp 1) = .pointer (some ⟨z1, 0, none⟩) ∧ a.eval (.tmp 2) = .pointer (some ⟨z2, 0, none⟩) ∧ ∃ T zs x, D[D.length - 1]? = some (.store x) ∧ EK b A c no (· = b) w0 (cuA D C0 D.length) [(z2, .cells (ncc T) 30 (0, 0))] zs [T] w ∧ [pl T] = nvl D C0 x)

set_option maxHeartbeats 2000000 in
theorem ir_step (hb2 : 2 < base) (hn : base + D.length ≤ nt + 1) (h200 : C0.d ≤ 200) (hDp : Dp ≤ C0.d) (hF : ∀ (i : Nat) (o : Oper) (k : Kd), ops[i]? = some o → D[i]? = some k → Fit1 D b A c Dp base i o k) (hsz : ops.size = D.length)
    {L : Array Bool} {a : Act} {w : World} {i : Nat} (hI : Ir D C0 b A c base nt z1 z2 df w0 L a w) (hi : i ∈ Region.ready .any ops L) : wpOp Tryz.prog ops Q i (fun a' w' => Ir D C0 b A c base nt z1 z2 df w0 (L.setIfInBounds i true) a' w') a w := by
  obtain ⟨hu, o, ho, hall⟩ := mem_ready.1 hi
  have hio : i < ops.size := (Array.getElem?_eq_some_iff.1 ho).1
  rcases hI with ⟨p, C, bs, zs, ts, h⟩ | ⟨-, hAll, -⟩
  case inr =>
    have := hAll i (by omega)
    rw [unl hu] at this
    cases this
  obtain ⟨k, hk⟩ : ∃ k, D[i]? = some k := ⟨_, List.getElem?_eq_getElem (by omega)⟩
  obtain ⟨hg, hf, haf, -, hst, hwf, hcon⟩ := hF i o k ho hk
  have hdep : ∀ x ∈ depsAt D i k, L.getD x false = true := fun x hx => by
    have h1 := List.all_eq_true.1 haf x hx
    obtain ⟨e, he, h2⟩ := Array.any_eq_true'.1 h1
    rw [Bool.and_eq_true] at h2
    have h3 : e.on = x := by simpa using h2.2
    rw [← h3]
    exact hall e he h2.1
  have hcall : ∀ q, k.isCall = true → pc D i = some q → L.getD q false = true := fun q hc hq => hdep q (by unfold depsAt; rw [if_pos hc, hq]; simp)
  have hda : ∀ x ∈ k.deps i, L.getD x false = true := fun x hx => hdep x (by unfold depsAt; exact List.mem_append_left _ hx)
  have hat : isCallAt D i = k.isCall := by unfold isCallAt; rw [hk]; rfl
  refine step_wp ho hg ?_
  have hEb : ∀ (s : k.isStore = false), i + 1 < D.length := fun s => by
    rw [s] at hst
    have : ¬ (i + 1 = D.length) := by simpa using hst
    omega
  have h2C : C.d ≤ 200 := by rw [h.d]; exact h200
  have hDC : Dp ≤ C.d := by rw [h.d]; exact hDp
  cases k with
  | load =>
    obtain ⟨h1, h2⟩ := hf
    have hl := hEb rfl
    refine wp_val (run_load h1 h.e1 (h.ek.box h.m1)) ?_
    rw [h2]
    have hnt : base + i < a.tmps.size := by rw [h.nt]; omega
    exact .inl ⟨p, C, bs, zs, ts, h.put hb2 hl (by omega) hk _ h.ek (fun _ h => h) (fun _ h => h) (fun _ h => h) h.cu h.d (h.other hat) (eval_put hnt)⟩
  | fa =>
    obtain ⟨h1, h2⟩ := hf
    have hl := hEb rfl
    refine wp_val (run_fa h1 h.e1) ?_
    rw [h2]
    have hnt : base + i < a.tmps.size := by rw [h.nt]; omega
    exact .inl ⟨p, C, bs, zs, ts, h.put hb2 hl (by omega) hk _ h.ek (fun _ h => h) (fun _ h => h) (fun _ h => h) h.cu h.d (h.other hat) ⟨z1, eval_put hnt, h.m1⟩⟩
  | ptr x =>
    obtain ⟨h1, h2⟩ := hf
    have hl := hEb rfl
    obtain ⟨z, hx, hz⟩ := h.hd x _ hwf (hda x (by simp [Kd.deps]))
    refine wp_val (run_ptr h1 hx (h.ek.box hz)) ?_
    rw [h2]
    have hnt : base + i < a.tmps.size := by rw [h.nt]; omega
    exact .inl ⟨p, C, bs, zs, ts, h.put hb2 hl (by omega) hk _ h.ek (fun _ h => h) (fun _ h => h) (fun _ h => h) h.cu h.d (h.other hat) (eval_put hnt)⟩
  | row l =>
    obtain ⟨⟨ps, h1, h3⟩, h4, h2⟩ := hf
    have hl := hEb rfl
    have hlen : (l.map Value.string).length = l.length := List.length_map ..
    have hr := run_flat (P := Tryz.prog) (a := a) (w := w) (o := o) 117 9 ps (l.map Value.string) (by rw [hlen]; exact h1) (by kernel_rfl) (by kernel_rfl) (by kernel_rfl) (by rw [hlen]; exact h4) (by rw [hlen]; have h5 : l.length ≤ 9 := hwf; omega) (by intro v hv; obtain ⟨s, -, rfl⟩ := List.mem_map.1 hv; rfl) (by
      rw [Array.toList_map, h3, List.zipIdx_map, List.map_map, List.map_map]
      rfl)
    rw [hlen] at hr
    refine wp_val hr ?_
    rw [h2]
    have hnt : base + i < a.tmps.size := by rw [h.nt]; omega
    have hgb : w.heap.size ≠ b := by have := h.ek.cu.lt; omega
    exact .inl ⟨p, C, _, _, ts, h.put hb2 hl (by omega) hk _ (h.ek.alloc (rowO l)) (fun _ h => List.mem_cons_of_mem _ h) (fun _ h => List.mem_cons_of_mem _ h) (fun _ h => h) h.cu h.d (h.other hat) ⟨w.heap.size, eval_put hnt, by simp, hgb⟩⟩
  | tree F f x =>
    obtain ⟨⟨ty, h1⟩, h2⟩ := hf
    obtain ⟨he, hP, hG⟩ := hcon
    have hl := hEb rfl
    have hx : a.eval (.tmp (base + x)) = rcv b := h.hd x _ hwf (hda x (by simp [Kd.deps]))
    have hrun := run_call1 (a := a) (w := w) he h1
    rw [hx] at hrun
    have hGG := hG C h.ek.ok h2C hDC
    obtain ⟨hci, hpf⟩ := h.chain hat hu (fun q hq => hcall q rfl hq)
    have hnt : base + i < a.tmps.size := by rw [h.nt]; omega
    refine wp_calls hrun (hP w C h.ek.cu h.ek.ok h2C hDC) ?_
    rintro e w' ⟨T, rfl, hp, hT, hm, hof⟩
    refine ⟨_, rfl, ?_⟩
    rw [h2]
    exact .inl ⟨i + 1, (f C).1, bs, zs, T :: ts, h.put hb2 hl (by omega) hk _ (h.ek.got hT hm ⟨hGG.ok, hGG.L⟩ hof) (fun _ h => h) (fun _ h => h) (fun _ h => List.mem_cons_of_mem _ h) (by rw [cuA_at hk, hci]; rfl) (by rw [hGG.d]; exact h.d) hpf ⟨T, eval_put hnt, by simp, by unfold tv; rw [hk]; show [pl T] = [(f (cuA D C0 i)).2]; rw [hci, hp]⟩⟩
  | treep F f x =>
    obtain ⟨⟨ty, h1⟩, h2⟩ := hf
    obtain ⟨he, hP, hG⟩ := hcon
    have hl := hEb rfl
    obtain ⟨y, hwf⟩ := hwf
    have hx : a.eval (.tmp (base + x)) = .pointer (some ⟨b, 0, none⟩) := h.hd x _ hwf (hda x (by simp [Kd.deps]))
    have hrun := run_call1 (a := a) (w := w) he h1
    rw [hx] at hrun
    have hGG := hG C h.ek.ok h2C hDC
    obtain ⟨hci, hpf⟩ := h.chain hat hu (fun q hq => hcall q rfl hq)
    have hnt : base + i < a.tmps.size := by rw [h.nt]; omega
    refine wp_calls hrun (hP w C h.ek.cu h.ek.ok h2C hDC) ?_
    rintro e w' ⟨T, rfl, hp, hT, hm, hof⟩
    refine ⟨_, rfl, ?_⟩
    rw [h2]
    exact .inl ⟨i + 1, (f C).1, bs, zs, T :: ts, h.put hb2 hl (by omega) hk _ (h.ek.got hT hm ⟨hGG.ok, hGG.L⟩ hof) (fun _ h => h) (fun _ h => h) (fun _ h => List.mem_cons_of_mem _ h) (by rw [cuA_at hk, hci]; rfl) (by rw [hGG.d]; exact h.d) hpf ⟨T, eval_put hnt, by simp, by unfold tv; rw [hk]; show [pl T] = [(f (cuA D C0 i)).2]; rw [hci, hp]⟩⟩
  | one x =>
    obtain ⟨⟨ty, h1⟩, h2⟩ := hf
    obtain ⟨F, f, y, hxk⟩ := hwf
    have hl := hEb rfl
    have hT9 : ∃ T, a.eval (.tmp (base + x)) = nv T ∧ T ∈ ts ∧ [pl T] = tv D C0 x := by
      rcases hxk with hxk | hxk
      · exact h.hd x _ hxk (hda x (by simp [Kd.deps]))
      · exact h.hd x _ hxk (hda x (by simp [Kd.deps]))
    obtain ⟨T, hx, hTt, hTv⟩ := hT9
    have hrun := run_call1 (a := a) (w := w) ent_one h1
    rw [hx] at hrun
    obtain ⟨hci, hpf⟩ := h.chain hat hu (fun q hq => hcall q rfl hq)
    have hnt : base + i < a.tmps.size := by rw [h.nt]; omega
    refine wp_calls hrun (one_any T w) ?_
    rintro e w' ⟨rfl, rfl⟩
    refine ⟨_, rfl, ?_⟩
    rw [h2]
    exact .inl ⟨i + 1, C, bs, zs, _, h.put hb2 hl (by omega) hk _ (h.ek.oned hTt) (fun _ h => h) (fun _ h => h) (fun _ h => List.mem_cons_of_mem _ h) (by rw [cuA_at hk, hci]; rfl) h.d hpf ⟨⟨some ⟨w.heap.size + 1, 0, none⟩, 1, [T]⟩, eval_put hnt, by simp, by simp, by unfold pv; rw [hk]; exact hTv, Nat.le_refl _⟩⟩
  | list F f n x =>
    obtain ⟨⟨ty, h1⟩, h2⟩ := hf
    obtain ⟨he, hP, hG, hmx⟩ := hcon
    have hl := hEb rfl
    have hx : a.eval (.tmp (base + x)) = rcv b := h.hd x _ hwf (hda x (by simp [Kd.deps]))
    have hrun := run_call1 (a := a) (w := w) he h1
    rw [hx] at hrun
    have hGG := hG C h.ek.ok h2C hDC
    obtain ⟨hci, hpf⟩ := h.chain hat hu (fun q hq => hcall q rfl hq)
    have hnt : base + i < a.tmps.size := by rw [h.nt]; omega
    refine wp_calls hrun (hP w C h.ek.cu h.ek.ok h2C hDC) ?_
    rintro e w' ⟨Al, cl, m, rfl, hp, hnil, hTk, hT, h9, hm, hof⟩
    refine ⟨_, rfl, ?_⟩
    rw [h2]
    have hml : m.length ≤ n := by
      rcases hmx with e | e
      · omega
      · rw [show m.length = (f C).2.length from by rw [← hp, List.length_map]]; exact e C h.ek.ok
    exact .inl ⟨i + 1, (f C).1, bs, zs, _, h.put hb2 hl (by omega) hk _ (h.ek.gotl (cl := cl) hTk hT hm ⟨hGG.ok, hGG.L⟩ hof) (fun _ h => h) (fun _ h => h) (fun _ h => List.mem_cons_of_mem _ h) (by rw [cuA_at hk, hci]; rfl) (by rw [hGG.d]; exact h.d) hpf ⟨⟨Al, cl, m⟩, eval_put hnt, by simp, hnil, by unfold pv; rw [hk]; show m.map pl = (f (cuA D C0 i)).2; rw [hci, hp], hml⟩⟩
  | listp F f n x =>
    obtain ⟨⟨ty, h1⟩, h2⟩ := hf
    obtain ⟨he, hP, hG, hmx⟩ := hcon
    have hl := hEb rfl
    obtain ⟨y, hwf⟩ := hwf
    have hx : a.eval (.tmp (base + x)) = .pointer (some ⟨b, 0, none⟩) := h.hd x _ hwf (hda x (by simp [Kd.deps]))
    have hrun := run_call1 (a := a) (w := w) he h1
    rw [hx] at hrun
    have hGG := hG C h.ek.ok h2C hDC
    obtain ⟨hci, hpf⟩ := h.chain hat hu (fun q hq => hcall q rfl hq)
    have hnt : base + i < a.tmps.size := by rw [h.nt]; omega
    refine wp_calls hrun (hP w C h.ek.cu h.ek.ok h2C hDC) ?_
    rintro e w' ⟨Al, cl, m, rfl, hp, hnil, hTk, hT, h9, hm, hof⟩
    refine ⟨_, rfl, ?_⟩
    rw [h2]
    have hml : m.length ≤ n := by
      rcases hmx with e | e
      · omega
      · rw [show m.length = (f C).2.length from by rw [← hp, List.length_map]]; exact e C h.ek.ok
    exact .inl ⟨i + 1, (f C).1, bs, zs, _, h.put hb2 hl (by omega) hk _ (h.ek.gotl (cl := cl) hTk hT hm ⟨hGG.ok, hGG.L⟩ hof) (fun _ h => h) (fun _ h => h) (fun _ h => List.mem_cons_of_mem _ h) (by rw [cuA_at hk, hci]; rfl) (by rw [hGG.d]; exact h.d) hpf ⟨⟨Al, cl, m⟩, eval_put hnt, by simp, hnil, by unfold pv; rw [hk]; show m.map pl = (f (cuA D C0 i)).2; rw [hci, hp], hml⟩⟩
  | toks l x r =>
    obtain ⟨⟨ty, h1⟩, h2⟩ := hf
    obtain ⟨hxk, hrk, hl4⟩ := hwf
    have hl := hEb rfl
    have hx : a.eval (.tmp (base + x)) = rcv b := h.hd x _ hxk (hda x (by simp [Kd.deps]))
    obtain ⟨g, hr, hgs, hgb⟩ := h.hd r _ hrk (hda r (by simp [Kd.deps]))
    have hrun := run_call2 (a := a) (w := w) ent_toks h1
    rw [hx, hr] at hrun
    have hGG := Got.tkq l Dp C h.ek.ok h2C hDC
    obtain ⟨hci, hpf⟩ := h.chain hat hu (fun q hq => hcall q rfl hq)
    have hnt : base + i < a.tmps.size := by rw [h.nt]; omega
    refine wp_calls hrun (tokens_any l l.length rfl hl4 g 0 (rowO l) w C hgb (h.ek.box hgs) (fun W' h' => ss_row W' g l 9 _ rfl h') h.ek.cu h.ek.ok) ?_
    rintro e w' ⟨Al, cl, m, rfl, hp, hnil, hTk, hT, h9, hm, hof⟩
    refine ⟨_, rfl, ?_⟩
    rw [h2]
    have hml : m.length ≤ l.length := by rw [show m.length = (tkq l C).2.length from by rw [← hp, List.length_map], tkq_len]; exact Nat.le_refl _
    exact .inl ⟨i + 1, (tkq l C).1, bs, zs, _, h.put hb2 hl (by omega) hk _ (h.ek.gotl (cl := cl) hTk hT hm ⟨hGG.ok, hGG.L⟩ hof) (fun _ h => h) (fun _ h => h) (fun _ h => List.mem_cons_of_mem _ h) (by rw [cuA_at hk, hci]; rfl) (by rw [hGG.d]; exact h.d) hpf ⟨⟨Al, cl, m⟩, eval_put hnt, by simp, hnil, by unfold pv; rw [hk]; show m.map pl = (tkq l (cuA D C0 i)).2; rw [hci, hp], hml⟩⟩
  | bund xs =>
    obtain ⟨⟨ps, h1, h3⟩, h4, h2⟩ := hf
    obtain ⟨h6, hpt, hsum⟩ := hwf
    have hl := hEb rfl
    obtain ⟨qs, g1, g2, g3, g4, g5, g6⟩ := h.parts xs hpt fun x hx => hda x (by simpa [Kd.deps] using hx)
    have hlen : (qs.map Pp.v).length = xs.length := by rw [List.length_map, g1]
    have hr := run_flat (P := Tryz.prog) (a := a) (w := w) (o := o) 100 23 ps (qs.map Pp.v) (by rw [hlen]; exact h1) (by kernel_rfl) (by kernel_rfl) (by kernel_rfl) (by rw [hlen]; exact h4) (by rw [hlen]; omega) (by intro v hv; obtain ⟨s, -, rfl⟩ := List.mem_map.1 hv; rfl) (by
      rw [Array.toList_map, h3, ← g2, List.zipIdx_map, List.map_map, List.map_map]
      rfl)
    rw [hlen] at hr
    refine wp_val hr ?_
    rw [h2]
    have hnt : base + i < a.tmps.size := by rw [h.nt]; omega
    exact .inl ⟨p, C, _, _, ts, h.put hb2 hl (by omega) hk _ (h.ek.alloc (ppO qs)) (fun _ h => List.mem_cons_of_mem _ h) (fun _ h => List.mem_cons_of_mem _ h) (fun _ h => h) h.cu h.d (h.other hat) ⟨w.heap.size, qs, eval_put hnt, by simp, g1, g3, g4, by unfold bv; rw [hk]; exact g5, Nat.le_trans g6 hsum⟩⟩
  | node kk r =>
    obtain ⟨⟨ty, h1⟩, h2⟩ := hf
    obtain ⟨xs, hrk⟩ := hwf
    have hl := hEb rfl
    obtain ⟨g, qs, hr, hgs, q1, q2, q3, q4, q5⟩ := h.hd r _ hrk (hda r (by simp [Kd.deps]))
    have h6 : xs.length ≤ 12 := (hF r _ _ (Array.getElem?_eq_getElem (by have := (List.getElem?_eq_some_iff.1 hrk).1; omega)) hrk).2.2.2.2.2.1.1
    have hrun := run_call2 (a := a) (w := w) ent_node h1
    rw [hr] at hrun
    obtain ⟨hci, hpf⟩ := h.chain hat hu (fun q hq => hcall q rfl hq)
    have hnt : base + i < a.tmps.size := by rw [h.nt]; omega
    refine wp_calls hrun (EK.noded2 h.ek kk qs xs.length q1 h6 q2 q3 q5 g hgs) ?_
    rintro e w' ⟨A', c', rfl, ek'⟩
    refine ⟨_, rfl, ?_⟩
    rw [h2]
    exact .inl ⟨i + 1, C, bs, zs, _, h.put hb2 hl (by omega) hk _ ek' (fun _ h => h) (fun _ h => h) (fun _ h => List.mem_cons_of_mem _ h) (by rw [cuA_at hk, hci]; rfl) h.d hpf ⟨_, eval_put hnt, by simp, by unfold nvl; rw [hk]; show [pl _] = [nod kk (bv D C0 r)]; rw [pl_nod, q4]⟩⟩
  | store x =>
    obtain ⟨h1, h2⟩ := hf
    obtain ⟨kk, r, hxk⟩ := hwf
    have hlast : i + 1 = D.length := by simpa [Kd.isStore] using hst
    have hxi : x < i := by
      have h3 := (List.getElem?_eq_some_iff.1 hxk).1
      rcases Nat.lt_or_ge x i with h4 | h4
      · exact h4
      · rw [show x = i from by omega, hk] at hxk
        cases hxk
    have hAll : ∀ j, j < i → L.getD j false = true := fun j hj => hda j (by simpa [Kd.deps] using hj)
    obtain ⟨T, hx, hTt, hTv⟩ := h.hd x _ hxk (hAll x hxi)
    have hbx := h.ek.box h.m2
    refine wp_store_node 30 (.tmp 2) (.tmp (base + x)) h1 size_tnode z2 T _ _ _ _ _ _ h.e2 hx hbx ?_
    rw [h2]
    have hC : cuA D C0 D.length = C := by
      rw [h.cu]
      have hpD : p ≤ D.length ∨ D.length < p := by omega
      have hno : ∀ j, p ≤ j → j < D.length → isCallAt D j = false := fun j e1 e2 => by
        cases hq : isCallAt D j with
        | false => rfl
        | true =>
          have hji : j ≠ i := fun e => by rw [e, hat] at hq; cases hq
          have := (h.pf j hq).1 (hAll j (by omega))
          omega
      rcases hpD with e | e
      · exact cuA_skip e hno
      · refine (cuA_skip (Nat.le_of_lt e) fun j e1 e2 => ?_).symm
        unfold isCallAt
        rw [List.getElem?_eq_none e1]
        rfl
    have hLs : i < L.size := by rw [h.sz]; omega
    refine .inr ⟨by simpa using h.sz, fun j hj => ?_, h.df, h.nt, h.e1, h.e2, T, zs, x, ?_, ?_, hTv⟩
    · rw [getD_set hLs]
      by_cases e : j = i
      · rw [if_pos e]
      · rw [if_neg e]; exact hAll j (by omega)
    · rw [show D.length - 1 = i from by omega]; exact hk
    · rw [hC]
      exact (h.ek.store (bs' := [(z2, .cells (ncc T) 30 (0, 0))]) T h.m3 hbx (fun q hq => .inl (by simpa using hq))).sub (fun _ h => h) (by simpa using hTt)
theorem region_any {id : Nat} {a : Act} {w : World} {bs : List (Nat × Obj)} {zs : List Nat} {ts : List Tr} (D : List Kd) (base nt Dp z1 z2 : Nat) (hb2 : 2 < base) (hn : base + D.length ≤ nt + 1) (h200 : C0.d ≤ 200) (hDp : Dp ≤ C0.d) (hFL : FitL D b A c Dp base 0 ops.toList D) (hpos : 0 < D.length)
    (hnt : a.tmps.size = nt) (e1 : a.eval (.tmp 1) = .pointer (some ⟨z1, 0, none⟩)) (e2 : a.eval (.tmp 2) = .pointer (some ⟨z2, 0, none⟩)) (E : EK b A c no (· = b) w0 C0 bs zs ts w) (m1 : (z1, sdb b) ∈ bs) (m2 : (z2, zb5) ∈ bs) (m3 : z2 ∈ zs)
    (hQ : ∀ (a' : Act) (W' : World) (T : Tr) (zs' : List Nat) (x : Nat), a'.defers = a.defers → a'.tmps.size = nt → a'.eval (.tmp 1) = .pointer (some ⟨z1, 0, none⟩) → a'.eval (.tmp 2) = .pointer (some ⟨z2, 0, none⟩) → D[D.length - 1]? = some (.store x) → EK b A c no (· = b) w0 (cuA D C0 D.length) [(z2, .cells (ncc T) 30 (0, 0))] zs' [T] W' → [pl T] = nvl D C0 x → Q .normal a' W') :
    (Code.region id ops true).wp Tryz.prog Q a w := by
  obtain ⟨hlen, hat⟩ := fitL_at hFL
  have hsz : ops.size = D.length := by simpa using hlen
  have hF : ∀ (i : Nat) (o : Oper) (k : Kd), ops[i]? = some o → D[i]? = some k → Fit1 D b A c Dp base i o k := fun i o k ho hk => by
    have := hat i o k (by rw [Array.getElem?_toList]; exact ho) hk
    rwa [Nat.zero_add] at this
  refine wp_region_any (by kernel_rfl) (wpAny_inv (Ir D C0 b A c base nt z1 z2 a.defers w0) ?_ (fun L a' w' i hI hi => ir_step hb2 hn h200 hDp hF hsz hI hi) _ _ _ _ ?_ ?_)
  · intro L a' w' hI hr
    have hsL : L.size = ops.size := by
      rcases hI with ⟨_, _, _, _, _, h⟩ | h
      · exact h.sz.trans hsz.symm
      · exact h.1.trans hsz.symm
    have hAl := all_listed hsL (fun j o ho e he _ => by
      obtain ⟨k, hk⟩ : ∃ k, D[j]? = some k := ⟨_, List.getElem?_eq_getElem (by have := (Array.getElem?_eq_some_iff.1 ho).1; omega)⟩
      have := Array.all_eq_true'.1 (hF j o k ho hk).2.2.2.1 e he
      simpa using this) hr
    rcases hI with ⟨_, _, _, _, _, h⟩ | ⟨-, -, h1, h2, h3, h4, T, zs', x, h5, h6, h7⟩
    · have := h.un
      rw [hAl _ (by omega)] at this
      cases this
    · exact hQ a' w' T zs' x h1 h2 h3 h4 h5 h6 h7
  · rw [Array.toList_replicate]
    exact Nat.le_trans (List.count_le_length ..) (by simp)
  · refine .inl ⟨0, C0, bs, zs, ts, by simpa using hsz, rfl, hnt, e1, e2, getD_rep, rfl, rfl, E.drew, m1, m2, m3, fun j _ => ?_, fun j k _ hj => ?_⟩
    · rw [getD_rep]
      simp
    · rw [getD_rep] at hj
      cases hj
end
end Dc
end Go.Proofs.YtfmlcddakfbleaaGreatDoor
