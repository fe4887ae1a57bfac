/- The parser of expressions, plainly: what each of its functions reads from a cursor. -/
import Derived.Test.YtfmlcddakfbleaaGreatDoorCurAllMath
import Derived.Test.YtfmlcddakfbleaaGreatDoorTextStore
namespace Go.Proofs.YtfmlcddakfbleaaGreatDoor
open Go.RowKit SignMath TreeMath

/-- a node of kids, wherever it lies -/
def nod (k : Int) (l : List Tr) : Tr := ⟨k, ⟨#[]⟩, ⟨#[]⟩, 0, none, 0, l⟩
def wnt (s : ByteArray) (C : Cu) : Cu × Tr := C.take (C.isb 0 s)
def anyk (k : Int) (C : Cu) : Cu × Tr := C.take (C.anyb k)

def sAnd : ByteArray := ⟨#[38, 38]⟩
def sLess : ByteArray := ⟨#[60]⟩
def sPlus : ByteArray := ⟨#[43]⟩
def sMinus : ByteArray := ⟨#[45]⟩
def sTimes : ByteArray := ⟨#[42]⟩
def sNot : ByteArray := ⟨#[33]⟩
def sSq : ByteArray := ⟨#[91]⟩
def sSq2 : ByteArray := ⟨#[93]⟩
def sRo : ByteArray := ⟨#[40]⟩
def sRo2 : ByteArray := ⟨#[41]⟩
def sDot : ByteArray := ⟨#[46]⟩
def sComma : ByteArray := ⟨#[44]⟩
def sNew : ByteArray := ⟨#[110, 101, 119]⟩
def sInt : ByteArray := ⟨#[105, 110, 116]⟩
def sLen : ByteArray := ⟨#[108, 101, 110, 103, 116, 104]⟩
def sTrue : ByteArray := ⟨#[116, 114, 117, 101]⟩
def sFalse : ByteArray := ⟨#[102, 97, 108, 115, 101]⟩
def sThis : ByteArray := ⟨#[116, 104, 105, 115]⟩

/-- the kind of an operand of one token -/
def sgl (k : Int) (t : ByteArray) : Int :=
  if k = 5 then 25 else if k = 4 then 28 else if t = sTrue then 26 else if t = sFalse then 27 else if t = sThis then 29 else 0

/-- the joint whose sign comes next -/
def nxj (C : Cu) : List (ByteArray × Int) → Option (ByteArray × Int)
  | [] => none
  | j :: js => if C.isb 0 j.1 then some j else nxj C js
def jnl (part : Cu → Cu × Tr) (js : List (ByteArray × Int)) : Nat → Cu × Tr → Cu × Tr
  | 0, x => x
  | q + 1, x => match nxj x.1 js with
    | none => x
    | some j => jnl part js q ((part (wnt j.1 x.1).1).1, nod j.2 [x.2, (wnt j.1 x.1).2, (part (wnt j.1 x.1).1).2])
def jnd (part : Cu → Cu × Tr) (js : List (ByteArray × Int)) (C : Cu) : Cu × Tr := jnl part js (part C).1.left (part C)

/-- what stands in brackets -/
def win (k : Int) (o s : ByteArray) (what : Cu → Cu × List Tr) (ahead : List Tr) (C : Cu) : Cu × Tr :=
  if C.isb 0 o then
    if C.down.2 then
      ((wnt s (what (wnt o C.down.1).1).1).1.up, nod k (ahead ++ [(wnt o C.down.1).2] ++ (what (wnt o C.down.1).1).2 ++ [(wnt s (what (wnt o C.down.1).1).1).2]))
    else (C.down.1, zn1)
  else wnt o C
def ins (ex : Cu → Cu × Tr) (C : Cu) : Cu × List Tr := ((ex C).1, [(ex C).2])
def agl (ex : Cu → Cu × Tr) : Nat → Cu × List Tr → Cu × List Tr
  | 0, x => x
  | q + 1, x => if x.1.isb 0 sComma then agl ex q ((ex (wnt sComma x.1).1).1, x.2 ++ [(wnt sComma x.1).2, (ex (wnt sComma x.1).1).2]) else x
def arg (ex : Cu → Cu × Tr) (C : Cu) : Cu × List Tr := if C.isb 0 sRo2 then (C, []) else agl ex (ex C).1.left ((ex C).1, [(ex C).2])

def dot (ex : Cu → Cu × Tr) (n : Tr) (C : Cu) : Cu × Tr :=
  if (wnt sDot C).1.isb 0 sLen then ((wnt sLen (wnt sDot C).1).1, nod 23 [n, (wnt sDot C).2, (wnt sLen (wnt sDot C).1).2])
  else win 24 sRo sRo2 (arg ex) [n, (wnt sDot C).2, (anyk 4 (wnt sDot C).1).2] (anyk 4 (wnt sDot C).1).1
def mad (ex : Cu → Cu × Tr) (C : Cu) : Cu × Tr :=
  if (wnt sNew C).1.isb 0 sInt then win 30 sSq sSq2 (ins ex) [(wnt sNew C).2, (wnt sInt (wnt sNew C).1).2] (wnt sInt (wnt sNew C).1).1
  else ((wnt sRo2 (wnt sRo (anyk 4 (wnt sNew C).1).1).1).1, nod 31 [(wnt sNew C).2, (anyk 4 (wnt sNew C).1).2, (wnt sRo (anyk 4 (wnt sNew C).1).1).2, (wnt sRo2 (wnt sRo (anyk 4 (wnt sNew C).1).1).1).2])
def opd (ex : Cu → Cu × Tr) (C : Cu) : Cu × Tr :=
  if sgl (C.pk 0).1 (C.pk 0).2 = 0 then
    if C.isb 0 sNew then mad ex C else win 32 sRo sRo2 (ins ex) [] C
  else ((anyk (C.pk 0).1 C).1, nod (sgl (C.pk 0).1 (C.pk 0).2) [(anyk (C.pk 0).1 C).2])
def ntt (fc : Cu → Cu × Tr) (C : Cu) : Cu × Tr :=
  if C.down.2 then ((fc (wnt sNot C.down.1).1).1.up, nod 21 [(wnt sNot C.down.1).2, (fc (wnt sNot C.down.1).1).2])
  else (C.down.1, zn1)
def fl (ex : Cu → Cu × Tr) : Nat → Cu × Tr → Cu × Tr
  | 0, x => x
  | q + 1, x => if x.1.isb 0 sSq then fl ex q (win 22 sSq sSq2 (ins ex) [x.2] x.1)
    else if x.1.isb 0 sDot then fl ex q (dot ex x.2 x.1) else x
def fac (ex fc : Cu → Cu × Tr) (C : Cu) : Cu × Tr := if C.isb 0 sNot then ntt fc C else fl ex (opd ex C).1.left (opd ex C)
def jTimes : List (ByteArray × Int) := [(sTimes, 20)]
def jSum : List (ByteArray × Int) := [(sPlus, 18), (sMinus, 19)]
def jLess : List (ByteArray × Int) := [(sLess, 17)]
def jAnd : List (ByteArray × Int) := [(sAnd, 16)]
def prd (fc : Cu → Cu × Tr) : Cu → Cu × Tr := jnd fc jTimes
def sme (fc : Cu → Cu × Tr) : Cu → Cu × Tr := jnd (prd fc) jSum
def cmp (fc : Cu → Cu × Tr) : Cu → Cu × Tr := jnd (sme fc) jLess
def xpr (fc : Cu → Cu × Tr) : Cu → Cu × Tr := jnd (cmp fc) jAnd
/-- a factor, so many constructs left -/
def fcN : Nat → Cu → Cu × Tr
  | 0 => fun C => (C, zn1)
  | k + 1 => fac (xpr (fcN k)) (fcN k)
/-- a factor, an expression, at any depth -/
def fcX : Cu → Cu × Tr := fcN 201
def exX : Cu → Cu × Tr := xpr fcX

/-- what a reading comes to: from C to C' the trees l were read, with room for q nodes more -/
structure Got (C C' : Cu) (l : List Tr) (q : Nat) : Prop where
  ok : C'.Ok
  s : C'.s = C.s
  L : C'.L = C.L
  n : C.n ≤ C'.n
  d : C'.d = C.d
  f : C.f ≠ 0 → C'.f ≠ 0
  lv : C'.f = 0 → lvl C.s 0 (C.L.take C'.n) = lvl C.s 0 (C.L.take C.n) ++ l.flatMap lf
  rg : C'.f = 0 → ∀ x ∈ l, rgt x = true
  cn : C'.f = 0 → (l.map cn).sum + q ≤ 2 * (l.flatMap TreeMath.lf).length
theorem Got.left {C C' : Cu} {l : List Tr} {q : Nat} (h : Got C C' l q) : C'.left ≤ C.left := by
  have h1 := h.n
  have h2 := h.f
  unfold Cu.left
  rw [h.L]
  by_cases hc : C.f = 0
  · rw [if_pos hc]; split <;> omega
  · rw [if_neg hc, if_neg (h2 hc)]; omega
theorem Got.refl {C : Cu} (h : C.Ok) : Got C C [] 0 := ⟨h, rfl, rfl, Nat.le_refl _, rfl, fun h => h, fun _ => by simp, fun _ _ h => (by cases h), fun _ => by simp⟩
theorem Got.trans {C C1 C2 : Cu} {l m : List Tr} {p q : Nat} (h : Got C C1 l p) (g : Got C1 C2 m q) : Got C C2 (l ++ m) (p + q) := by
  have hf : C2.f = 0 → C1.f = 0 := fun h2 => by
    by_cases h1 : C1.f = 0
    · exact h1
    · exact absurd h2 (g.f h1)
  refine ⟨g.ok, g.s.trans h.s, g.L.trans h.L, Nat.le_trans h.n g.n, g.d.trans h.d, fun h1 => g.f (h.f h1), fun h2 => ?_, fun h2 x hx => ?_, fun h2 => ?_⟩
  · have e1 := g.lv h2
    rw [h.s, h.L, h.lv (hf h2)] at e1
    rw [e1, List.flatMap_append, List.append_assoc]
  · rcases List.mem_append.1 hx with hx | hx
    · exact h.rg (hf h2) x hx
    · exact g.rg h2 x hx
  · have e1 := h.cn (hf h2)
    have e2 := g.cn h2
    rw [List.map_append, List.sum_append_nat, List.flatMap_append, List.length_append]
    omega
/-- where it fails, nothing is told of the trees -/
theorem Got.bad {C C' : Cu} (l : List Tr) (q : Nat) (ok : C'.Ok) (s : C'.s = C.s) (L : C'.L = C.L) (n : C.n ≤ C'.n) (d : C'.d = C.d) (f : C'.f ≠ 0) : Got C C' l q :=
  ⟨ok, s, L, n, d, fun _ => f, fun h => absurd h f, fun h => absurd h f, fun h => absurd h f⟩
theorem Got.junk {C C' : Cu} {l : List Tr} {q : Nat} (h : Got C C' l q) (f : C'.f ≠ 0) (m : List Tr) (p : Nat) : Got C C' m p := .bad m p h.ok h.s h.L h.n h.d f
theorem Cu.fail_f (C : Cu) (e : Int) : (C.fail e).f ≠ 0 := by
  unfold Cu.fail
  split
  · simp only; split <;> omega
  · assumption
theorem Cu.fail_same (C : Cu) (e : Int) : (C.fail e).s = C.s ∧ (C.fail e).n = C.n ∧ (C.fail e).d = C.d := by
  unfold Cu.fail
  split <;> exact ⟨rfl, rfl, rfl⟩
theorem Got.fail {C : Cu} (h : C.Ok) (e : Int) (l : List Tr) (q : Nat) : Got C (C.fail e) l q :=
  .bad l q (h.fail e) (C.fail_same e).1 (C.fail_L e) (Nat.le_of_eq (C.fail_same e).2.1.symm) (C.fail_same e).2.2 (C.fail_f e)
theorem Cu.beh_lz (C : Cu) (hk : C.n ≤ C.L.length) : C.beh = lz 0 (C.L.take C.n) := by
  unfold Cu.beh
  cases h : C.n with
  | zero => rw [if_pos rfl]; rfl
  | succ j =>
    rw [if_neg (by omega), Nat.add_sub_cancel]
    obtain ⟨t, ht⟩ : ∃ t, C.L[j]? = some t := ⟨_, List.getElem?_eq_getElem (by omega)⟩
    rw [ht, List.take_add_one, ht]
    simp only [Option.toList_some]
    rw [lz_snoc]
theorem leaf_facts {C : Cu} (h : C.Ok) {t : Tk} (ht : t ∈ C.L) : TreeMath.lf (C.leaf t) = [C.leaf t] ∧ rgt (C.leaf t) = true ∧ TreeMath.cn (C.leaf t) = 1 := by
  have hn : ns (C.leaf t) = [C.leaf t] := by rw [ns_eq]; rfl
  obtain ⟨h1, h2⟩ := h.tok t ht
  refine ⟨?_, ?_, ?_⟩
  · unfold TreeMath.lf; rw [hn]; rfl
  · unfold rgt
    rw [hn, List.all_cons, List.all_nil, Bool.and_true]
    unfold snd
    rw [if_pos (show (C.leaf t).k = 1 from rfl)]
    have : (C.leaf t).t.size = t.z - t.a := by show (C.s.extract t.a t.z).size = _; rw [ByteArray.size_extract]; omega
    simp only [Bool.and_eq_true, decide_eq_true_eq]
    exact ⟨⟨by omega, by show (0 : Int) ≤ (t.a : Nat); omega⟩, rfl⟩
  · unfold TreeMath.cn; rw [hn]; rfl
theorem Got.take {C : Cu} (h : C.Ok) (a : Bool) : Got C (C.take a).1 [(C.take a).2] 1 := by
  have hok := h.take a
  revert hok
  unfold Cu.take
  split
  · rename_i t ht
    obtain ⟨hf, h2⟩ := Cu.nxt_some ht
    rw [Nat.add_zero] at h2
    obtain ⟨e1, e2, e3⟩ := leaf_facts h (List.mem_of_getElem? h2)
    intro hok
    refine ⟨hok, rfl, rfl, by show C.n ≤ C.n + 1; omega, rfl, fun h => absurd hf h, fun _ => ?_, fun _ x hx => ?_, fun _ => ?_⟩
    · show lvl C.s 0 (C.L.take (C.n + 1)) = _
      rw [List.take_add_one, h2]
      simp only [Option.toList_some, List.flatMap_cons, List.flatMap_nil, List.append_nil, e1]
      rw [lvl_snoc, ← C.beh_lz h.n]
      rfl
    · rw [List.mem_singleton.1 hx]; exact e2
    · simp [e1, e3]
  · intro _
    exact .fail h 2 _ _
theorem Got.wnt {C : Cu} (h : C.Ok) (s : ByteArray) : Got C (wnt s C).1 [(wnt s C).2] 1 := .take h _
theorem Got.any {C : Cu} (h : C.Ok) (k : Int) : Got C (anyk k C).1 [(anyk k C).2] 1 := .take h _
theorem Got.less {C C' : Cu} {l : List Tr} {p q : Nat} (h : Got C C' l p) (hq : q ≤ p) : Got C C' l q :=
  ⟨h.ok, h.s, h.L, h.n, h.d, h.f, h.lv, h.rg, fun h2 => by have := h.cn h2; omega⟩
/-- trees become the kids of one -/
theorem Got.nod {C C' : Cu} {l : List Tr} {q : Nat} (h : Got C C' l (q + 1)) {k : Int} (hk : 1 < k ∧ k ≤ 32) : Got C C' [nod k l] q := by
  have e1 : TreeMath.lf (Go.Proofs.YtfmlcddakfbleaaGreatDoor.nod k l) = l.flatMap TreeMath.lf := by
    rw [lf_eq, if_neg (show ¬ (Go.Proofs.YtfmlcddakfbleaaGreatDoor.nod k l).k = 1 from by show ¬ k = 1; omega), List.nil_append]
    rfl
  have e2 : TreeMath.cn (Go.Proofs.YtfmlcddakfbleaaGreatDoor.nod k l) = 1 + (l.map TreeMath.cn).sum := cn_eq _
  refine ⟨h.ok, h.s, h.L, h.n, h.d, h.f, fun h2 => ?_, fun h2 x hx => ?_, fun h2 => ?_⟩
  · rw [h.lv h2, List.flatMap_cons, List.flatMap_nil, List.append_nil, e1]
  · rw [List.mem_singleton.1 hx, rgt_eq, Bool.and_eq_true]
    refine ⟨?_, List.all_eq_true.2 (h.rg h2)⟩
    unfold snd
    rw [if_neg (show ¬ (Go.Proofs.YtfmlcddakfbleaaGreatDoor.nod k l).k = 1 from by show ¬ k = 1; omega)]
    simp only [Bool.and_eq_true, decide_eq_true_eq]
    exact ⟨⟨⟨⟨hk.1, hk.2⟩, rfl⟩, rfl⟩, rfl⟩
  · have := h.cn h2
    simp only [List.map_cons, List.map_nil, List.sum_cons, List.sum_nil, List.flatMap_cons, List.flatMap_nil, List.append_nil, e1, e2]
    omega
theorem Cu.down_true {C : Cu} (h : C.down.2 = true) : C.f = 0 ∧ C.d < 200 ∧ C.down.1 = { C with d := C.d + 1 } := by
  unfold Cu.down at h ⊢
  split at h
  · rename_i hf
    split at h
    · cases h
    · rw [if_pos hf, if_neg (by assumption)]
      exact ⟨hf, by omega, rfl⟩
  · cases h
theorem Got.down {C : Cu} (h : C.Ok) (hd : C.down.2 = false) (l : List Tr) (q : Nat) : Got C C.down.1 l q := by
  unfold Cu.down at hd ⊢
  split at hd
  · split at hd
    · rw [if_pos (by assumption), if_pos (by assumption)]; exact .fail h 3 _ _
    · cases hd
  · rw [if_neg (by assumption)]
    exact .bad l q h rfl rfl (Nat.le_refl _) rfl (by assumption)
theorem Got.up {C C' : Cu} {l : List Tr} {q : Nat} (hd : C.down.2 = true) (h : Got C.down.1 C' l q) : Got C C'.up l q := by
  obtain ⟨h1, h2, h3⟩ := Cu.down_true hd
  rw [h3] at h
  exact ⟨h.ok.up, h.s, h.L, h.n, by show C'.d - 1 = C.d; rw [h.d]; rfl, fun hf => absurd h1 hf, h.lv, h.rg, h.cn⟩

theorem Cu.down_f {C : Cu} (h : C.down.2 = false) : C.down.1.f ≠ 0 := by
  unfold Cu.down at h ⊢
  split at h
  · split at h
    · rw [if_pos (by assumption), if_pos (by assumption)]; exact Cu.fail_f _ _
    · cases h
  · rw [if_neg (by assumption)]; assumption

/-- a function that reads one tree, one that reads some -/
def GX (f : Cu → Cu × Tr) (D : Nat) : Prop := ∀ C : Cu, C.Ok → C.d ≤ 200 → D ≤ C.d → Got C (f C).1 [(f C).2] 0
def GXs (f : Cu → Cu × List Tr) (D : Nat) : Prop := ∀ C : Cu, C.Ok → C.d ≤ 200 → D ≤ C.d → Got C (f C).1 (f C).2 0
theorem nxj_some {C : Cu} {j : ByteArray × Int} : ∀ {js : List (ByteArray × Int)}, nxj C js = some j → j ∈ js ∧ C.isb 0 j.1 = true
  | [], h => by cases h
  | i :: js, h => by
    unfold nxj at h
    split at h
    · injection h with h; subst h; exact ⟨List.mem_cons_self, by assumption⟩
    · obtain ⟨h1, h2⟩ := nxj_some h
      exact ⟨List.mem_cons_of_mem _ h1, h2⟩
section
variable {ex fc part : Cu → Cu × Tr} {D : Nat} {js : List (ByteArray × Int)}
theorem Got.jnl (hp : GX part D) (hj : ∀ j ∈ js, 1 < j.2 ∧ j.2 ≤ 32) : ∀ (q : Nat) (C : Cu) (x : Cu × Tr), C.d ≤ 200 → D ≤ C.d → Got C x.1 [x.2] 0 → Got C (jnl part js q x).1 [(jnl part js q x).2] 0
  | 0, _, _, _, _, h => h
  | q + 1, C, x, h2, h1, h => by
    unfold Go.Proofs.YtfmlcddakfbleaaGreatDoor.jnl
    split
    · exact h
    · rename_i j hx
      obtain ⟨hm, -⟩ := nxj_some hx
      have g1 := h.trans (Got.wnt h.ok j.1)
      have g2 := g1.trans (hp _ g1.ok (by rw [g1.d]; exact h2) (by rw [g1.d]; exact h1))
      exact Got.jnl hp hj q C _ h2 h1 (Got.nod (q := 0) g2 (hj j hm))
theorem Got.jnd (hp : GX part D) (hj : ∀ j ∈ js, 1 < j.2 ∧ j.2 ≤ 32) : GX (jnd part js) D := fun C hk h2 h1 => Got.jnl hp hj _ C _ h2 h1 (hp C hk h2 h1)
theorem Got.win {k : Int} {o s : ByteArray} {what : Cu → Cu × List Tr} {ahead : List Tr} {C0 C : Cu} (hk : 1 < k ∧ k ≤ 32) (hw : GXs what (D + 1)) (hd : C.d ≤ 200) (hD : D ≤ C.d) {q : Nat} (h : Got C0 C ahead q) :
    Got C0 (win k o s what ahead C).1 [(win k o s what ahead C).2] 0 := by
  unfold Go.Proofs.YtfmlcddakfbleaaGreatDoor.win
  split
  · split
    · rename_i hdn
      obtain ⟨h1, h2, h3⟩ := Cu.down_true hdn
      have hok := h.ok.down
      have g1 : Got C.down.1 _ _ _ := Got.wnt hok o
      have hdd : C.down.1.d = C.d + 1 := by rw [h3]
      have g2 := g1.trans (hw _ g1.ok (by rw [g1.d, hdd]; omega) (by rw [g1.d, hdd]; omega))
      have g3 := g2.trans (Got.wnt g2.ok s)
      have g4 := h.trans (Got.up hdn g3)
      rw [← List.append_assoc, ← List.append_assoc] at g4
      exact Got.nod (q := 0) (g4.less (by omega)) hk
    · rename_i hdn
      have hdn' : C.down.2 = false := by simpa using hdn
      have g := h.trans (Got.down h.ok hdn' [] 0)
      exact g.junk (Cu.down_f hdn') _ _
  · rename_i hb
    have hb' : C.isb 0 o = false := by simpa using hb
    have g := h.trans (Got.wnt h.ok o)
    refine g.junk ?_ _ _
    unfold Go.Proofs.YtfmlcddakfbleaaGreatDoor.wnt
    rw [hb', Cu.take_false]
    exact Cu.fail_f _ _
theorem Got.ins (hx : GX ex D) : GXs (ins ex) D := hx
theorem Got.agl (hx : GX ex D) : ∀ (q : Nat) (C : Cu) (x : Cu × List Tr), C.d ≤ 200 → D ≤ C.d → Got C x.1 x.2 0 → Got C (agl ex q x).1 (agl ex q x).2 0
  | 0, _, _, _, _, h => h
  | q + 1, C, x, h2, h1, h => by
    unfold Go.Proofs.YtfmlcddakfbleaaGreatDoor.agl
    split
    · have g1 := h.trans (Got.wnt h.ok sComma)
      have g2 := g1.trans (hx _ g1.ok (by rw [g1.d]; exact h2) (by rw [g1.d]; exact h1))
      rw [List.append_assoc] at g2
      exact Got.agl hx q C _ h2 h1 (g2.less (by omega))
    · exact h
theorem Got.arg (hx : GX ex D) : GXs (arg ex) D := fun C hk h2 h1 => by
  unfold Go.Proofs.YtfmlcddakfbleaaGreatDoor.arg
  split
  · exact Got.refl hk
  · exact Got.agl hx _ C _ h2 h1 (hx C hk h2 h1)
theorem Got.dot (hx : GX ex (D + 1)) {C0 C : Cu} {n : Tr} (h2 : C.d ≤ 200) (h1 : D ≤ C.d) (h : Got C0 C [n] 0) : Got C0 (dot ex n C).1 [(dot ex n C).2] 0 := by
  unfold Go.Proofs.YtfmlcddakfbleaaGreatDoor.dot
  have g1 := h.trans (Got.wnt h.ok sDot)
  have hd1 := (Got.wnt h.ok sDot).d
  split
  · have g2 := g1.trans (Got.wnt g1.ok sLen)
    exact Got.nod (q := 0) (g2.less (by omega)) ⟨by omega, by omega⟩
  · have g2 := g1.trans (Got.any g1.ok 4)
    have hd2 := (Got.any g1.ok 4).d
    exact Got.win ⟨by omega, by omega⟩ (Got.arg hx) (by rw [hd2, hd1]; exact h2) (by rw [hd2, hd1]; exact h1) g2
theorem Got.mad (hx : GX ex (D + 1)) : GX (mad ex) D := fun C hk h2 h1 => by
  unfold Go.Proofs.YtfmlcddakfbleaaGreatDoor.mad
  have g1 := Got.wnt hk sNew
  split
  · have g2 := g1.trans (Got.wnt g1.ok sInt)
    exact Got.win ⟨by omega, by omega⟩ (Got.ins hx) (by rw [g2.d]; exact h2) (by rw [g2.d]; exact h1) g2
  · have g2 := g1.trans (Got.any g1.ok 4)
    have g3 := g2.trans (Got.wnt g2.ok sRo)
    have g4 := g3.trans (Got.wnt g3.ok sRo2)
    exact Got.nod (q := 0) (g4.less (by omega)) ⟨by omega, by omega⟩
theorem sgl_kind {k : Int} {t : ByteArray} (h : sgl k t ≠ 0) : 1 < sgl k t ∧ sgl k t ≤ 32 := by
  unfold sgl at h ⊢
  split
  · omega
  · split
    · omega
    · split
      · omega
      · split
        · omega
        · split
          · omega
          · rename_i h1 h2 h3 h4 h5
            rw [if_neg h1, if_neg h2, if_neg h3, if_neg h4, if_neg h5] at h
            exact absurd rfl h
theorem Got.opd (hx : GX ex (D + 1)) : GX (opd ex) D := fun C hk h2 h1 => by
  unfold Go.Proofs.YtfmlcddakfbleaaGreatDoor.opd
  split
  · split
    · exact Got.mad hx C hk h2 h1
    · exact Got.win ⟨by omega, by omega⟩ (Got.ins hx) h2 h1 (Got.refl hk)
  · exact Got.nod (q := 0) (Got.any hk _) (sgl_kind (by assumption))
theorem Got.ntt (hf : GX fc (D + 1)) : GX (ntt fc) D := fun C hk h2 h1 => by
  unfold Go.Proofs.YtfmlcddakfbleaaGreatDoor.ntt
  split
  · rename_i hdn
    obtain ⟨e1, e2, e3⟩ := Cu.down_true hdn
    have hdd : C.down.1.d = C.d + 1 := by rw [e3]
    have g1 := Got.wnt hk.down sNot
    have g2 := g1.trans (hf _ g1.ok (by rw [g1.d, hdd]; omega) (by rw [g1.d, hdd]; omega))
    exact Got.nod (q := 0) (Got.up hdn g2) ⟨by omega, by omega⟩
  · rename_i hdn
    exact Got.down hk (by simpa using hdn) _ _
theorem Got.fl (hx : GX ex (D + 1)) : ∀ (q : Nat) (C : Cu) (x : Cu × Tr), C.d ≤ 200 → D ≤ C.d → Got C x.1 [x.2] 0 → Got C (fl ex q x).1 [(fl ex q x).2] 0
  | 0, _, _, _, _, h => h
  | q + 1, C, x, h2, h1, h => by
    unfold Go.Proofs.YtfmlcddakfbleaaGreatDoor.fl
    split
    · exact Got.fl hx q C _ h2 h1 (Got.win ⟨by omega, by omega⟩ (Got.ins hx) (by rw [h.d]; exact h2) (by rw [h.d]; exact h1) h)
    · split
      · exact Got.fl hx q C _ h2 h1 (Got.dot hx (by rw [h.d]; exact h2) (by rw [h.d]; exact h1) h)
      · exact h
theorem Got.fac (hx : GX ex (D + 1)) (hf : GX fc (D + 1)) : GX (fac ex fc) D := fun C hk h2 h1 => by
  unfold Go.Proofs.YtfmlcddakfbleaaGreatDoor.fac
  split
  · exact Got.ntt hf C hk h2 h1
  · exact Got.fl hx _ C _ h2 h1 (Got.opd hx C hk h2 h1)
theorem Got.prd (hf : GX fc D) : GX (prd fc) D := Got.jnd hf (by simp [jTimes])
theorem Got.sme (hf : GX fc D) : GX (sme fc) D := Got.jnd (Got.prd hf) (by simp [jSum])
theorem Got.cmp (hf : GX fc D) : GX (cmp fc) D := Got.jnd (Got.sme hf) (by simp [jLess])
theorem Got.xpr (hf : GX fc D) : GX (xpr fc) D := Got.jnd (Got.cmp hf) (by simp [jAnd])
end
theorem Got.fcN : ∀ k, k ≤ 201 → GX (fcN k) (201 - k)
  | 0, _ => fun C _ h2 h1 => absurd h1 (by omega)
  | k + 1, h => by
    have ih := Got.fcN k (by omega)
    rw [show 201 - k = (201 - (k + 1)) + 1 from by omega] at ih
    exact Got.fac (Got.xpr ih) ih
theorem Got.fcX : GX fcX 0 := Got.fcN 201 (Nat.le_refl _)
theorem Got.exX : GX exX 0 := Got.xpr Got.fcX

/-- what a right tree weighs -/
theorem wt_le {T : Tr} (h : rgt T = true) : 50 * wt T ≤ 50 * TreeMath.cn T + (tx (TreeMath.lf T)).size := by
  have hall : ∀ x ∈ ns T, TreeMath.snd x = true := fun x hx => rgt_node h hx
  unfold wt TreeMath.cn TreeMath.lf
  rw [tx_size]
  generalize ns T = l at hall
  induction l with
  | nil => simp
  | cons x xs ih =>
    have ih' := ih fun y hy => hall y (List.mem_cons_of_mem _ hy)
    have hx := hall x List.mem_cons_self
    rw [List.filter_cons]
    simp only [List.map_cons, List.sum_cons, List.length_cons]
    by_cases hk : x.k = 1
    · rw [if_pos (by simp [lfb, hk])]
      simp only [List.map_cons, List.sum_cons]
      unfold w1 at ih' ⊢
      omega
    · rw [if_neg (by simp [lfb, hk])]
      obtain ⟨-, -, h3, h4, -⟩ := snd_other hx hk
      have e1 : w1 x = 1 := by unfold w1; rw [h3, h4]
      rw [e1]
      omega
end Go.Proofs.YtfmlcddakfbleaaGreatDoor

namespace Go.Proofs.YtfmlcddakfbleaaGreatDoor
open Go.RowKit SignMath TreeMath

theorem stay_store {ops : Array Oper} {rest : List Oper} {o : Oper} {a : Act} {w : World} {Q : Exit → Act → World → Prop} (t : TypeId) (x y : Operand) (_ho : o.op = .store t x y) (h : Stay (wpList Tryz.prog ops Q (o :: rest) a w)) : wpList Tryz.prog ops Q (o :: rest) a w := h
/-- a reader -/
abbrev rcv (b : Nat) : Value := .agg #[.pointer (some ⟨b, 0, none⟩)]
abbrev rdb (b : Nat) : Obj := .cells #[.pointer (some ⟨b, 0, none⟩)] 138 (0, 0)

/-- a reading of one tree -/
def TrV (b : Nat) (A : Option Addr) (c : Nat) (r : Cu × Tr) (w : World) (e : Ending) (W' : World) : Prop :=
  ∃ T, e = .returned (nv T) ∧ pl T = r.2 ∧ Tn (nw w.heap.size W') W' T ∧ CuM b A c r.1 W' ∧ Of b w W'

/-- trees without kids lie nowhere -/
theorem tn_leaf {S : Nat → Prop} {w : World} {T : Tr} (hk : T.kids = []) (hr : rng T.a) : Tn S w T :=
  tn_iff.2 ⟨hr, fun h => by rw [hk] at h; simp at h, fun x hx => by rw [hk] at hx; cases hx⟩
theorem pl_leaf {k : Int} {g t : ByteArray} {a : Int} : pl (⟨k, g, t, a, none, 0, []⟩ : Tr) = ⟨k, g, t, a, none, 0, []⟩ := pl_eq _
theorem take_tr {C : Cu} (h : C.Ok) (q : Bool) : (C.take q).2.kids = [] ∧ rng (C.take q).2.a ∧ pl (C.take q).2 = (C.take q).2 := by
  unfold Cu.take
  split
  · rename_i t ht
    obtain ⟨-, h2⟩ := Cu.nxt_some ht
    have h3 := h.tok t (List.mem_of_getElem? h2)
    have h4 := h.sz
    exact ⟨rfl, ⟨by show -9223372036854775808 ≤ ((t.a : Nat) : Int); omega, by show ((t.a : Nat) : Int) ≤ 9223372036854775807; omega⟩, pl_leaf⟩
  · exact ⟨rfl, ⟨by show (-9223372036854775808 : Int) ≤ 0; omega, by show (0 : Int) ≤ 9223372036854775807; omega⟩, pl_leaf⟩
theorem cuv_tr {b : Nat} {A : Option Addr} {c : Nat} {C : Cu} (h : C.Ok) (q : Bool) {w W' : World} {e : Ending} (hv : CuV b A c (C.take q).1 w (fun e => e = .returned (nv (C.take q).2)) e W') : TrV b A c (C.take q) w e W' := by
  obtain ⟨h1, h2, h3⟩ := take_tr h q
  obtain ⟨g1, g2, g3⟩ := hv
  exact ⟨_, g1, h3, tn_leaf h1 h2, g2, g3⟩

section
variable {b : Nat} {A : Option Addr} {c : Nat} {C : Cu} {W : World}
theorem wnt_any (s : ByteArray) (h : CuM b A c C W) (hk : C.Ok) : Calls Tryz.prog 106 #[.pointer (some ⟨b, 0, none⟩), .string s] W (TrV b A c (wnt s C) W) :=
  (want_any s h hk).mono fun _ _ hv => cuv_tr hk _ hv
theorem anyk_any (k : Int) (h : CuM b A c C W) (hk : C.Ok) : Calls Tryz.prog 108 #[.pointer (some ⟨b, 0, none⟩), .int .i64 k] W (TrV b A c (anyk k C) W) :=
  (any_any k h hk).mono fun _ _ hv => cuv_tr hk _ hv
end

/-- since w: the cursor is C; the boxes bs hold what they hold; the trees ts lie in the blocks S or in new ones, beside the boxes zs; X: what else may be changed -/
structure EK (b : Nat) (A : Option Addr) (c : Nat) (S X : Nat → Prop) (w : World) (C : Cu) (bs : List (Nat × Obj)) (zs : List Nat) (ts : List Tr) (W : World) : Prop where
  cu : CuM b A c C W
  ok : C.Ok
  off : Off X w W
  rl : 0 < (tcells C.L).length → ∀ a, A = some a → a.block < w.heap.size ∧ ¬ X a.block
  bX : X b
  hX : ∀ k, X k → k < w.heap.size
  hS : ∀ k, S k → k < w.heap.size ∧ ¬ X k
  has : ∀ q ∈ bs, ¬ X q.1 ∧ W.heap[q.1]? = some q.2
  zn : ∀ z ∈ zs, w.heap.size ≤ z ∧ z < W.heap.size
  tn : ∀ T ∈ ts, Tn (fun k => (S k ∨ w.heap.size ≤ k ∧ k < W.heap.size) ∧ k ∉ zs) W T

section
variable {b : Nat} {A : Option Addr} {c : Nat} {S X : Nat → Prop} {w W W' : World} {C C' : Cu} {bs bs' : List (Nat × Obj)} {zs zs' : List Nat} {ts ts' : List Tr} {r : Cu × Tr}
theorem EK.size (h : EK b A c S X w C bs zs ts W) : w.heap.size ≤ W.heap.size := h.off.size
theorem EK.lt (h : EK b A c S X w C bs zs ts W) {z : Nat} {o : Obj} (hb : (z, o) ∈ bs) : z < W.heap.size := (Array.getElem?_eq_some_iff.1 (h.has _ hb).2).1
theorem EK.box (h : EK b A c S X w C bs zs ts W) {z : Nat} {o : Obj} (hb : (z, o) ∈ bs) : W.heap[z]? = some o := (h.has _ hb).2
theorem EK.begin (h : CuM b A c C w) (hk : C.Ok) : EK b A c no (· = b) w C [] [] [] w := ⟨h, hk, Off.refl _ _, fun hn a ha => by
  have h1 := h.ne hn a ha
  obtain ⟨g, off, e, hg, -⟩ := h.row hn
  rw [ha] at e; injection e with e
  exact ⟨by rw [e]; exact hg, h1⟩, rfl, fun k e => by rw [e]; exact h.lt, fun _ h => h.elim, by simp, by simp, by simp⟩
theorem EK.sub (h : EK b A c S X w C bs zs ts W) (hb : ∀ q ∈ bs', q ∈ bs) (ht : ∀ T ∈ ts', T ∈ ts) : EK b A c S X w C bs' zs ts' W :=
  ⟨h.cu, h.ok, h.off, h.rl, h.bX, h.hX, h.hS, fun q hq => h.has q (hb q hq), h.zn, fun T hT => h.tn T (ht T hT)⟩
theorem EK.lessz (h : EK b A c S X w C bs zs ts W) (hz : ∀ z ∈ zs', z ∈ zs) : EK b A c S X w C bs zs' ts W :=
  ⟨h.cu, h.ok, h.off, h.rl, h.bX, h.hX, h.hS, h.has, fun z hh => h.zn z (hz z hh), fun T hT => (h.tn T hT).keep (fun _ _ _ => rfl) fun _ hk => ⟨hk.1, fun hh => hk.2 (hz _ hh)⟩⟩
theorem EK.has_ (h : EK b A c S X w C bs zs ts W) {z : Nat} {o : Obj} (hX : ¬ X z) (hb : W.heap[z]? = some o) : EK b A c S X w C ((z, o) :: bs) zs ts W :=
  ⟨h.cu, h.ok, h.off, h.rl, h.bX, h.hX, h.hS, fun q hq => by
    rcases List.mem_cons.1 hq with rfl | hq
    · exact ⟨hX, hb⟩
    · exact h.has q hq, h.zn, h.tn⟩
/-- a tree without kids -/
theorem EK.leaf (h : EK b A c S X w C bs zs ts W) {T : Tr} (hk : T.kids = []) (hr : rng T.a) : EK b A c S X w C bs zs (T :: ts) W :=
  ⟨h.cu, h.ok, h.off, h.rl, h.bX, h.hX, h.hS, h.has, h.zn, fun Y hY => by
    rcases List.mem_cons.1 hY with rfl | hY
    · exact tn_leaf hk hr
    · exact h.tn Y hY⟩
theorem EK.inS (h : EK b A c S X w C bs zs ts W) {k : Nat} (hk : S k ∨ w.heap.size ≤ k ∧ k < W.heap.size) : k < W.heap.size ∧ k ≠ b := by
  rcases hk with hk | hk
  · obtain ⟨h1, h2⟩ := h.hS k hk
    exact ⟨Nat.lt_of_lt_of_le h1 h.size, fun e => h2 (by rw [e]; exact h.bX)⟩
  · have := h.hX b h.bX
    exact ⟨hk.2, by omega⟩
/-- a call that changes the cursor alone -/
theorem EK.call (h : EK b A c S X w C bs zs ts W) (hm : CuM b A c C' W') (hk : C'.Ok ∧ C'.L = C.L) (ho : Of b W W') : EK b A c S X w C' bs zs ts W' := by
  refine ⟨hm, hk.1, h.off.trans (ho.mono fun k e => by have e' : k = b := e; rw [e']; exact h.bX), by rw [hk.2]; exact h.rl, h.bX, h.hX, h.hS, fun q hq => ⟨(h.has q hq).1, ?_⟩, fun z hz => ⟨(h.zn z hz).1, Nat.lt_of_lt_of_le (h.zn z hz).2 ho.size⟩,
    fun T hT => (h.tn T hT).keep (fun k _ hp => cell_of (ho.block _ (h.inS hp.1).1 (h.inS hp.1).2)) fun k hp => ⟨hp.1.imp id fun hh => ⟨hh.1, Nat.lt_of_lt_of_le hh.2 ho.size⟩, hp.2⟩⟩
  exact (ho.block _ (h.lt (o := q.2) hq) (fun e => (h.has q hq).1 (by have e' : q.1 = b := e; rw [e']; exact h.bX))).trans (h.has q hq).2
theorem EK.below (h : EK b A c S X w C bs zs ts W) (hb : Below W.heap.size W W') : EK b A c S X w C bs zs ts W' := h.call (h.cu.below hb) ⟨h.ok, rfl⟩ (of_below hb)
theorem EK.drew (h : EK b A c S X w C bs zs ts W) : EK b A c S X w C bs zs ts W.drew := h.below ⟨rfl, rfl, rfl, Nat.le_refl _, fun _ _ => rfl⟩
/-- a call that read a tree -/
theorem EK.got (h : EK b A c S X w C bs zs ts W) {T : Tr} (hT : Tn (nw W.heap.size W') W' T) (hm : CuM b A c C' W') (hk : C'.Ok ∧ C'.L = C.L) (ho : Of b W W') : EK b A c S X w C' bs zs (T :: ts) W' := by
  have h' := h.call hm hk ho
  refine ⟨h'.cu, h'.ok, h'.off, h'.rl, h'.bX, h'.hX, h'.hS, h'.has, h'.zn, fun Y hY => ?_⟩
  rcases List.mem_cons.1 hY with rfl | hY
  · exact hT.keep (fun _ _ _ => rfl) fun k hk => ⟨.inr ⟨Nat.le_trans h.size hk.1, hk.2⟩, fun hz => by have := (h.zn k hz).2; have := hk.1; omega⟩
  · exact h'.tn Y hY
/-- a box that is laid -/
theorem EK.alloc (h : EK b A c S X w C bs zs ts W) (o : Obj) : EK b A c S X w C ((W.heap.size, o) :: bs) (W.heap.size :: zs) ts (W.alloc o) := by
  have h' := h.below (below1 W o)
  refine ⟨h'.cu, h'.ok, h'.off, h'.rl, h'.bX, h'.hX, h'.hS, fun q hq => ?_, fun z hz => ?_, fun T hT => (h.tn T hT).keep (fun _ _ hp => cell_of (Below.heap_alloc W _ _ (h.inS hp.1).1)) fun k hp => ⟨hp.1.imp id fun hh => ⟨hh.1, by have := hh.2; simp; omega⟩, fun hz => ?_⟩⟩
  · rcases List.mem_cons.1 hq with rfl | hq
    · exact ⟨fun hx => by have := h.hX _ hx; have := h.size; omega, heap_alloc_new W o⟩
    · exact h'.has q hq
  · rcases List.mem_cons.1 hz with rfl | hz
    · exact ⟨h.size, by simp⟩
    · exact h'.zn z hz
  · rcases List.mem_cons.1 hz with rfl | hz
    · have := (h.inS hp.1).1; omega
    · exact hp.2 hz
/-- a row of nodes that is laid, and a node over it -/
theorem EK.row (h : EK b A c S X w C bs zs ts W) {l : List Tr} {k : Int} (hl : ∀ x ∈ l, x ∈ ts) (o : Obj) (ho : ∀ (j : Nat) (u : Value), (ncells l)[j]? = some u → (W.alloc o).cell? ⟨W.heap.size, 0 + j, none⟩ = some u) :
    EK b A c S X w C bs zs ((⟨k, ⟨#[]⟩, ⟨#[]⟩, 0, some ⟨W.heap.size, 0, none⟩, l.length, l⟩ : Tr) :: ts) (W.alloc o) := by
  have h' := h.below (below1 W o)
  refine ⟨h'.cu, h'.ok, h'.off, h'.rl, h'.bX, h'.hX, h'.hS, h'.has, h'.zn, fun Y hY => ?_⟩
  rcases List.mem_cons.1 hY with rfl | hY
  · refine tn_iff.2 ⟨⟨by show (-9223372036854775808 : Int) ≤ 0; omega, by show (0 : Int) ≤ 9223372036854775807; omega⟩, fun _ => ⟨W.heap.size, 0, rfl, ⟨.inr ⟨h.size, by simp⟩, fun hz => by have := (h.zn _ hz).2; omega⟩, fun i x hx => at5_of ho hx⟩, fun x hx => h'.tn x (hl x hx)⟩
  · exact h'.tn Y hY
/-- a box that is stored into -/
theorem EK.store (h : EK b A c S X w C bs zs ts W) {z : Nat} {t : TypeId} {u0 u1 u2 u3 u4 : Value} (T : Tr) (hz : z ∈ zs) (hb : W.heap[z]? = some (.cells #[u0, u1, u2, u3, u4] t (0, 0))) (hbs : ∀ q ∈ bs', q = (z, .cells (ncc T) t (0, 0)) ∨ q ∈ bs ∧ q.1 ≠ z) : EK b A c S X w C bs' zs ts (set5 W z T) := by
  obtain ⟨h1, h2⟩ := h.zn z hz
  have hbz : b ≠ z := by have := h.hX b h.bX; omega
  have hXz : ¬ X z := fun hx => by have := h.hX z hx; omega
  have hoz : Off (fun k => k = z) W (set5 W z T) := by
    have h0 := off_set5o (X := fun k => k = z) (b := z) rfl W 0 T
    simpa [set5o] using h0
  refine ⟨?_, h.ok, ⟨hoz.os.trans h.off.os, hoz.tape.trans h.off.tape, hoz.output.trans h.off.output, Nat.le_trans h.off.size hoz.size, fun k hk hn => (set5_other (by omega) T).trans (h.off.block k hk hn)⟩, h.rl, h.bX, h.hX, h.hS, fun q hq => ?_, fun y hy => ⟨(h.zn y hy).1, by rw [set5_size]; exact (h.zn y hy).2⟩, fun Y hY => (h.tn Y hY).keep (fun k _ hk => cell_of (set5_other (fun e => hk.2 (by rw [e]; exact hz)) T)) fun k hk => by rw [set5_size]; exact hk⟩
  · refine ⟨(set5_other hbz T).trans h.cu.box, ?_, h.cu.ne⟩
    intro hn
    obtain ⟨g, off, rfl, hg, hc⟩ := h.cu.row hn
    have hgn := (h.rl hn _ rfl).1
    have hgz : g ≠ z := by have : g < w.heap.size := hgn; omega
    exact ⟨g, off, rfl, by rw [set5_size]; exact hg, fun j u hu => (cell_of (set5_other hgz T)).trans (hc j u hu)⟩
  · rcases hbs q hq with rfl | ⟨hq, hne⟩
    · exact ⟨hXz, set5_self hb T⟩
    · exact ⟨(h.has q hq).1, (set5_other hne T).trans (h.has q hq).2⟩
/-- a local node: its box is laid, and stored into -/
theorem EK.local_ (h : EK b A c S X w C bs zs ts W) (T : Tr) : EK b A c S X w C ((W.heap.size, .cells (ncc T) 30 (0, 0)) :: bs) (W.heap.size :: zs) ts (set5 (W.alloc zb5) W.heap.size T) := by
  have h' := h.alloc zb5
  refine h'.store (t := 30) T (by simp) (heap_alloc_new W zb5) fun q hq => ?_
  rcases List.mem_cons.1 hq with rfl | hq
  · exact .inl rfl
  · exact .inr ⟨List.mem_cons_of_mem _ hq, fun e => by have := h.lt (z := q.1) (o := q.2) hq; omega⟩
theorem EK.fin (h : EK b A c no (· = b) w C bs zs ts W) {T : Tr} (hT : T ∈ ts) (h1 : r.1 = C) (h2 : pl T = r.2) : TrV b A c r w (.returned (nv T)) W :=
  ⟨T, rfl, h2, (h.tn T hT).keep (fun _ _ _ => rfl) fun _ hk => hk.1.resolve_left fun h => h, by rw [h1]; exact h.cu, h.off⟩
/-- the result is stored -/
theorem EK.result (h : EK b A c no (· = b) w C bs zs ts W) {T : Tr} {z : Nat} {t : TypeId} {u0 u1 u2 u3 u4 : Value} (hT : T ∈ ts) (hz : z ∈ zs) (hb : W.heap[z]? = some (.cells #[u0, u1, u2, u3, u4] t (0, 0))) (h1 : r.1 = C) (h2 : pl T = r.2) :
    (set5 W z T).heap[z]? = some (.cells (ncc T) t (0, 0)) ∧ TrV b A c r w (.returned (nv T)) (set5 W z T) :=
  ⟨set5_self hb T, (h.store (bs' := []) T hz hb (by simp)).fin hT h1 h2⟩
theorem EK.start (h : CuM b A c C w) (hk : C.Ok) : EK b A c no (· = b) w C [(w.heap.size + 1, zb5), (w.heap.size, rdb b)] [w.heap.size + 1, w.heap.size] [] ((w.alloc (rdb b)).alloc zb5) := by
  have := ((EK.begin h hk).alloc (rdb b)).alloc zb5
  rwa [World.size_alloc] at this
theorem row_at (W : World) (l : List Tr) (t : TypeId) (j : Nat) (u : Value) (h : (ncells l)[j]? = some u) : (W.alloc (.cells (ncells l).toArray t (0, 0))).cell? ⟨W.heap.size, 0 + j, none⟩ = some u := by
  rw [cell_heap (heap_alloc_new W (.cells (ncells l).toArray t (0, 0))), List.getElem?_toArray, Nat.zero_add]
  exact h
/-- a row of nodes that is laid, and a node over it -/
theorem EK.rowOf (h : EK b A c S X w C bs zs ts W) {l : List Tr} (k : Int) (m : Nat) (hm : l.length = m) (hl : ∀ x ∈ l, x ∈ ts) (o : Obj) (t : TypeId) (ho : o = .cells (ncells l).toArray t (0, 0)) :
    EK b A c S X w C bs zs ((⟨k, ⟨#[]⟩, ⟨#[]⟩, 0, some ⟨W.heap.size, 0, none⟩, m, l⟩ : Tr) :: ts) (W.alloc o) := by
  subst ho
  subst hm
  exact h.row hl _ (row_at W l t)
theorem pl_nod (k : Int) (A : Option Addr) (c : Nat) (l : List Tr) : pl ⟨k, ⟨#[]⟩, ⟨#[]⟩, 0, A, c, l⟩ = nod k (l.map pl) := pl_eq _
end
end Go.Proofs.YtfmlcddakfbleaaGreatDoor

namespace Go.Proofs.YtfmlcddakfbleaaGreatDoor
open Go.RowKit SignMath TreeMath

theorem strd {n b : ByteArray} {l : List UInt8} (hl : b.data.toList = l) : (n.toList == l) = decide (n = b) := by
  rw [← hl, ← Lib.toList_data, Bool.eq_iff_iff]
  simp only [beq_iff_eq, decide_eq_true_eq]
  refine ⟨fun h => ?_, fun h => by rw [h]⟩
  have h2 := congrArg List.toArray h
  rw [ByteArray.toList_eq, ByteArray.toList_eq] at h2
  exact ByteArray.ext (by simpa using h2)

set_option maxRecDepth 100000 in
set_option maxHeartbeats 1000000 in
theorem node_any (k : Int) (A : Option Addr) (c : Nat) (l : List Tr) (w : World) : Calls Tryz.prog 144 #[.int .i64 k, .slice A l.length c] w fun e w' => e = .returned (nv ⟨k, ⟨#[]⟩, ⟨#[]⟩, 0, A, c, l⟩) ∧ Below w.heap.size w w' := by
  have HB := Lib.hid (below1 w (.cells (ncc ⟨k, ⟨#[]⟩, ⟨#[]⟩, 0, A, c, l⟩) 30))
  go_enter Tryz.func144, Tryz.ntmps144
  go_wp2
  refine bodyPost_ret (v := nv ⟨k, ⟨#[]⟩, ⟨#[]⟩, 0, A, c, l⟩) (by simp [results, Tryz.results144, go_sem]) rfl ⟨rfl, HB.out⟩

set_option maxRecDepth 100000 in
set_option maxHeartbeats 2000000 in
theorem single_any (k : Int) (t : ByteArray) (w : World) : Calls Tryz.prog 179 #[.int .i64 k, .string t] w fun e w' => e = .returned (.int .i64 (sgl k t)) ∧ Below w.heap.size w w' := by
  have h1 : (t.toList == [116, 114, 117, 101]) = decide (t = sTrue) := strd rfl
  have h2 : (t.toList == [102, 97, 108, 115, 101]) = decide (t = sFalse) := strd rfl
  have h3 : (t.toList == [116, 104, 105, 115]) = decide (t = sThis) := strd rfl
  unfold sgl
  by_cases k5 : k = 5
  · have hb : (k == 5) = true := by simp [k5]
    rw [if_pos k5]
    clear k5 h1 h2 h3
    go_enter Tryz.func179, Tryz.ntmps179
    go_wp2
    go_ret
    exact ⟨rfl, Below.refl _ _⟩
  · have hb : (k == 5) = false := by simp [k5]
    rw [if_neg k5]
    clear k5
    by_cases k4 : k = 4
    · have hb4 : (k == 4) = true := by simp [k4]
      rw [if_pos k4]
      clear k4 h1 h2 h3
      go_enter Tryz.func179, Tryz.ntmps179
      go_wp2
      go_ret
      exact ⟨rfl, Below.refl _ _⟩
    · have hb4 : (k == 4) = false := by simp [k4]
      rw [if_neg k4]
      clear k4
      by_cases t1 : t = sTrue
      · rw [if_pos t1]
        rw [decide_eq_true t1] at h1
        clear t1 h2 h3
        go_enter Tryz.func179, Tryz.ntmps179
        go_wp2
        go_ret
        exact ⟨rfl, Below.refl _ _⟩
      · rw [if_neg t1]
        rw [decide_eq_false t1] at h1
        clear t1
        by_cases t2 : t = sFalse
        · rw [if_pos t2]
          rw [decide_eq_true t2] at h2
          clear t2 h3
          go_enter Tryz.func179, Tryz.ntmps179
          go_wp2
          go_ret
          exact ⟨rfl, Below.refl _ _⟩
        · rw [if_neg t2]
          rw [decide_eq_false t2] at h2
          clear t2
          by_cases t3 : t = sThis
          · rw [if_pos t3]
            rw [decide_eq_true t3] at h3
            clear t3
            go_enter Tryz.func179, Tryz.ntmps179
            go_wp2
            go_ret
            exact ⟨rfl, Below.refl _ _⟩
          · rw [if_neg t3]
            rw [decide_eq_false t3] at h3
            clear t3
            go_enter Tryz.func179, Tryz.ntmps179
            go_wp2
            go_ret
            exact ⟨rfl, Below.refl _ _⟩

/-- a joint stored into a box -/
abbrev jbx (j : ByteArray × Int) : Obj := .cells #[.string j.1, .int .i64 j.2] 144 (0, 0)
abbrev jv (j : ByteArray × Int) : Value := .agg #[.string j.1, .int .i64 j.2]
abbrev set2 (W : World) (b : Nat) (j : ByteArray × Int) : World := (W.setCell ⟨b, 0, none⟩ (.string j.1)).setCell ⟨b, 1, none⟩ (.int .i64 j.2)
theorem set2_size (W : World) (b : Nat) (j : ByteArray × Int) : (set2 W b j).heap.size = W.heap.size := by simp [World.setCell]
theorem set2_self {W : World} {b : Nat} {u0 u1 : Value} {t : TypeId} (h : W.heap[b]? = some (.cells #[u0, u1] t (0, 0))) (j : ByteArray × Int) : (set2 W b j).heap[b]? = some (.cells #[.string j.1, .int .i64 j.2] t (0, 0)) := by
  have := heap_set (heap_set h (i := 0) (.string j.1)) (i := 1) (.int .i64 j.2)
  simpa using this
theorem set2_other {W : World} {b k : Nat} (h : k ≠ b) (j : ByteArray × Int) : (set2 W b j).heap[k]? = W.heap[k]? := by
  rw [set2, Below.heap_setCell _ _ _ _ h, Below.heap_setCell _ _ _ _ h]
theorem below_set2 {B : Nat} {w W : World} (h : Below B w W) {b : Nat} (hb : B ≤ b) (j : ByteArray × Int) : Below B w (set2 W b j) :=
  (h.setCell (p := ⟨b, 0, none⟩) hb _).setCell (p := ⟨b, 1, none⟩) hb _
set_option maxRecDepth 100000 in
theorem size_joint : ∀ w : World, (sizeOf 144).run Tryz.prog w = .ok 2 w := fun _ => rfl
theorem wp_store_joint {o : Oper} {a : Act} {w : World} {K : Act → World → Prop} {Q : Exit → Act → World → Prop} (t : TypeId) (x y : Operand) (ho : o.op = .store t x y) (hsz : ∀ w : World, (sizeOf t).run Tryz.prog w = .ok 2 w) (b : Nat) (j : ByteArray × Int) (u0 u1 : Value) (t' : TypeId)
    (hx : a.eval x = .pointer (some ⟨b, 0, none⟩)) (hy : a.eval y = jv j) (hc : w.heap[b]? = some (.cells #[u0, u1] t' (0, 0))) (hK : K (a.put o.dst undef) (set2 w b j)) : o.wp Tryz.prog a w K Q := by
  have h1 := heap_set hc (i := 0) (.string j.1)
  have c0 := cell_heap hc (i := 0)
  have c1 := cell_heap h1 (i := 1)
  have f0 := frozen_heap hc (i := 0)
  have f1 := frozen_heap h1 (i := 1)
  simp only [List.setIfInBounds_toArray, List.set_cons_zero, List.getElem?_toArray, List.getElem?_cons_zero, List.getElem?_cons_succ] at c0 c1
  unfold Oper.wp
  simp only [execOp, ho, hx, hy]
  simp [go_sem, hsz, c0, c1, f0, f1]
  exact hK
theorem wpList_store_joint {ops : Array Oper} {rest : List Oper} {o : Oper} {a : Act} {w : World} {Q : Exit → Act → World → Prop} (hg : o.guard = none) (t : TypeId) (x y : Operand) (ho : o.op = .store t x y) (hsz : ∀ w : World, (sizeOf t).run Tryz.prog w = .ok 2 w) (b : Nat) (j : ByteArray × Int) {u0 u1 : Value} {t' : TypeId}
    (hx : a.eval x = .pointer (some ⟨b, 0, none⟩)) (hy : a.eval y = jv j) (hc : w.heap[b]? = some (.cells #[u0, u1] t' (0, 0))) (h : wpList Tryz.prog ops Q rest (a.put o.dst undef) (set2 w b j)) : wpList Tryz.prog ops Q (o :: rest) a w :=
  wpList_plain hg fun _ hK => wp_store_joint t x y ho hsz b j u0 u1 t' hx hy hc (hK _ _ h)
/-- joints lie in block g -/
def JsM (W : World) (g off : Nat) (js : List (ByteArray × Int)) : Prop := ∀ (i : Nat) (j : ByteArray × Int), js[i]? = some j → W.cell? ⟨g, off + i * 2, none⟩ = some (.string j.1) ∧ W.cell? ⟨g, off + i * 2 + 1, none⟩ = some (.int .i64 j.2)
theorem JsM.keep {W W' : World} {g off : Nat} {js : List (ByteArray × Int)} (h : JsM W g off js) (hg : W'.heap[g]? = W.heap[g]?) : JsM W' g off js := fun i j hi => ⟨(cell_of hg).trans (h i j hi).1, (cell_of hg).trans (h i j hi).2⟩
abbrev zj : ByteArray × Int := (⟨#[]⟩, 0)
abbrev jz : Obj := .cells #[.string ⟨#[]⟩, .int .i64 0] 144 (0, 0)
def nxv : Option (ByteArray × Int) → Value
  | some j => .tuple #[jv j, .bool true]
  | none => .tuple #[jv zj, .bool false]

/-- a joint stored into a box of its own -/
theorem EK.storej {b : Nat} {A : Option Addr} {c : Nat} {S X : Nat → Prop} {w W : World} {C : Cu} {bs bs' : List (Nat × Obj)} {zs : List Nat} {ts : List Tr} (h : EK b A c S X w C bs zs ts W) {z : Nat} {t : TypeId} {u0 u1 : Value} (j : ByteArray × Int) (hz : z ∈ zs) (hb : W.heap[z]? = some (.cells #[u0, u1] t (0, 0)))
    (hbs : ∀ q ∈ bs', q = (z, .cells #[.string j.1, .int .i64 j.2] t (0, 0)) ∨ q ∈ bs ∧ q.1 ≠ z) : EK b A c S X w C bs' zs ts (set2 W z j) := by
  obtain ⟨h1, h2⟩ := h.zn z hz
  have hbz : b ≠ z := by have := h.hX b h.bX; omega
  have hXz : ¬ X z := fun hx => by have := h.hX z hx; omega
  have hoz : Off (fun k => k = z) W (set2 W z j) := (Off.setCell (X := fun k => k = z) (p := ⟨z, 0, none⟩) rfl W _).trans (Off.setCell (X := fun k => k = z) (p := ⟨z, 1, none⟩) rfl _ _)
  refine ⟨?_, h.ok, ⟨hoz.os.trans h.off.os, hoz.tape.trans h.off.tape, hoz.output.trans h.off.output, Nat.le_trans h.off.size hoz.size, fun k hk hn => (set2_other (by omega) j).trans (h.off.block k hk hn)⟩, h.rl, h.bX, h.hX, h.hS, fun q hq => ?_, fun y hy => ⟨(h.zn y hy).1, by rw [set2_size]; exact (h.zn y hy).2⟩, fun Y hY => (h.tn Y hY).keep (fun k _ hk => cell_of (set2_other (fun e => hk.2 (by rw [e]; exact hz)) j)) fun k hk => by rw [set2_size]; exact hk⟩
  · refine ⟨(set2_other hbz j).trans h.cu.box, ?_, h.cu.ne⟩
    intro hn
    obtain ⟨g, off, rfl, hg, hc⟩ := h.cu.row hn
    have hgn := (h.rl hn _ rfl).1
    have hgz : g ≠ z := by have : g < w.heap.size := hgn; omega
    exact ⟨g, off, rfl, by rw [set2_size]; exact hg, fun i u hu => (cell_of (set2_other hgz j)).trans (hc i u hu)⟩
  · rcases hbs q hq with rfl | ⟨hq, hne⟩
    · exact ⟨hXz, set2_self hb j⟩
    · exact ⟨(h.has q hq).1, (set2_other hne j).trans (h.has q hq).2⟩
theorem EK.localj {b : Nat} {A : Option Addr} {c : Nat} {S X : Nat → Prop} {w W : World} {C : Cu} {bs : List (Nat × Obj)} {zs : List Nat} {ts : List Tr} (h : EK b A c S X w C bs zs ts W) (j : ByteArray × Int) : EK b A c S X w C ((W.heap.size, jbx j) :: bs) (W.heap.size :: zs) ts (set2 (W.alloc jz) W.heap.size j) := by
  have h' := h.alloc jz
  refine h'.storej (t := 144) j (by simp) (heap_alloc_new W jz) fun q hq => ?_
  rcases List.mem_cons.1 hq with rfl | hq
  · exact .inl rfl
  · exact .inr ⟨List.mem_cons_of_mem _ hq, fun e => by have := h.lt (z := q.1) (o := q.2) hq; omega⟩

section
variable {b : Nat} {A : Option Addr} {c : Nat} {C : Cu} {W : World}
set_option maxRecDepth 100000 in
set_option maxHeartbeats 4000000 in
theorem next_any (js : List (ByteArray × Int)) (hjl : js.length ≤ 2) (g off : Nat) (hg : g < W.heap.size) (hJ : JsM W g off js) (h : CuM b A c C W) (hk : C.Ok) :
    Calls Tryz.prog 143 #[rcv b, .slice (some ⟨g, off, none⟩) js.length js.length] W (Rd W (nxv (nxj C js))) := by
  have HM := Lib.hid h
  have HJ := Lib.hid hJ
  have HK := Lib.hid hk
  obtain ⟨n, hn⟩ : ∃ n, js.length = n := ⟨_, rfl⟩
  have HN := Lib.hid hn
  rw [hn]
  rw [hn] at hjl
  unfold Rd
  have hB0 : Below W.heap.size W ((W.alloc (rdb b)).alloc (jz)) := (below1 W (rdb b)).alloc (by simp) _
  have hr0 : ((W.alloc (rdb b)).alloc (jz)).heap[W.heap.size]? = some (rdb b) := (Below.heap_alloc _ _ _ (by simp)).trans (heap_alloc_new W (rdb b))
  have hz0 : ((W.alloc (rdb b)).alloc (jz)).heap[W.heap.size + 1]? = some (jz) := by have := heap_alloc_new (W.alloc (rdb b)) (jz); rwa [World.size_alloc] at this
  have HH0 := Lib.hid (And.intro hB0 (And.intro hr0 hz0))
  clear h hJ hk hn hB0 hr0 hz0
  go_enter Tryz.func143, Tryz.ntmps143
  go_wp2
  go_loopw [10] (fun i wr => ∃ k : Nat, i = .int .i64 k ∧ k ≤ n ∧ Hid (nxj C js = nxj C (js.drop k)) ∧ Below W.heap.size W wr ∧ wr.heap[W.heap.size]? = some (rdb b) ∧ wr.heap[W.heap.size + 1]? = some (jz)) (fun i _ => n - (intOf i).toNat)
  case atStart => exact ⟨0, rfl, Nat.zero_le _, Lib.hid rfl, HH0.out⟩
  case round =>
    obtain ⟨k, rfl, hkn, HQ, hB, hr, hz⟩ := hrel
    by_cases hlt : k < n
    · obtain ⟨j, hj⟩ : ∃ j, js[k]? = some j := ⟨_, List.getElem?_eq_getElem (by have := HN.out; omega)⟩
      obtain ⟨c0, c1⟩ := (HJ.out.keep (hB.block g hg)) k j hj
      have hdr : nxj C js = if C.isb 0 j.1 then some j else nxj C (js.drop (k + 1)) := by
        rw [HQ.out, List.drop_eq_getElem_cons (by have := HN.out; omega), show js[k]'(by have := HN.out; omega) = j from (List.getElem?_eq_some_iff.1 hj).2]
        rfl
      have HD := Lib.hid hdr
      have HI := Lib.hid (fun (w1 : World) (hb : Below W.heap.size W w1) => is_any (b := b) 0 j.1 ⟨by omega, by omega⟩ (HM.out.below hb) HK.out)
      unfold Rd at HI
      have hz1 := heap_alloc_new wr (jz)
      have hB1 := hB.trans ((below1 wr (jz)).mono hB.size)
      have hr1 : (wr.alloc (jz)).heap[W.heap.size]? = some (rdb b) := (Below.heap_alloc _ _ _ (Array.getElem?_eq_some_iff.1 hr).1).trans hr
      have hz2 : (wr.alloc (jz)).heap[W.heap.size + 1]? = some (jz) := (Below.heap_alloc _ _ _ (Array.getElem?_eq_some_iff.1 hz).1).trans hz
      have hw0 : W.heap.size + 1 < wr.heap.size := (Array.getElem?_eq_some_iff.1 hz).1
      have z1 : (0 : Int) ≤ (k : Nat) := by omega
      have z2 : ((k : Nat) : Int) < n := by omega
      have z3 : ((k : Nat) : Int) ≤ 2 := by omega
      obtain ⟨j1, j2⟩ := j
      simp only at c0 c1 HI HD
      clear hj hdr HQ HH0 HJ hr hz hkn
      go_wp2_with (with_reducible refine stay_store 144 (.tmp 7) (.tmp 13) (by rfl) ?_)
      refine Stay.mk ?_
      refine wpList_store_joint (by rfl) 144 (.tmp 7) (.tmp 13) (by rfl) size_joint wr.heap.size (j1, j2) (by rfl) (by rfl) hz1 ?_
      have hb2 := below_set2 (below1 wr (jz)) (Nat.le_refl _) (j1, j2)
      have hs2 := set2_self hz1 (j1, j2)
      have hr2 := (set2_other (j := (j1, j2)) (b := wr.heap.size) (k := W.heap.size) (by omega)).trans hr1
      have hz3 := (set2_other (j := (j1, j2)) (b := wr.heap.size) (k := W.heap.size + 1) (by omega)).trans hz2
      generalize set2 (wr.alloc (jz)) wr.heap.size (j1, j2) = w2 at hb2 hs2 hr2 hz3 ⊢
      have hB2 := hB.trans (hb2.mono hB.size)
      have p0 := cell_heap hr2 (i := 0)
      have p1 := cell_heap hs2 (i := 0)
      simp only [List.getElem?_toArray, List.getElem?_cons_zero] at p0 p1
      have HC := Lib.hid (HI.out w2 hB2)
      have HF := Lib.hid (And.intro hB2 (And.intro hs2 (And.intro hr2 hz3)))
      clear hb2 hs2 hr2 hz3 hB2 hB hB1 hr1 hz2 hz1 HI c0 c1
      cases hq : C.isb 0 j1 with
      | false =>
        rw [hq] at HC HD
        clear hq
        go_wp2_with fail
        refine HC.out.mono ?_
        rintro e w3 ⟨rfl, hb3⟩
        have hB3 := HF.out.1.trans (hb3.mono HF.out.1.size)
        have hr3 := (hb3.block _ (Array.getElem?_eq_some_iff.1 HF.out.2.2.1).1).trans HF.out.2.2.1
        have hz3 := (hb3.block _ (Array.getElem?_eq_some_iff.1 HF.out.2.2.2).1).trans HF.out.2.2.2
        have HG := Lib.hid (And.intro hB3 (And.intro hr3 hz3))
        clear hb3 hB3 hr3 hz3 p0 p1
        go_wp2
        go_roundw
        case rel => exact ⟨k + 1, by go_num, by omega, Lib.hid HD.out, HG.out⟩
        case measure => simp [intOf]; omega
      | true =>
        rw [hq] at HC HD
        clear hq
        go_wp2_with fail
        refine HC.out.mono ?_
        rintro e w3 ⟨rfl, hb3⟩
        have hB3 := HF.out.1.trans (hb3.mono HF.out.1.size)
        have hs3 := (hb3.block _ (Array.getElem?_eq_some_iff.1 HF.out.2.1).1).trans HF.out.2.1
        have hz3 := (hb3.block _ (Array.getElem?_eq_some_iff.1 HF.out.2.2.2).1).trans HF.out.2.2.2
        have q0 := cell_heap hs3 (i := 0)
        have q1 := cell_heap hs3 (i := 1)
        simp only [List.getElem?_toArray, List.getElem?_cons_zero, List.getElem?_cons_succ] at q0 q1
        have HE := Lib.hid (below_set2 hB3 (by omega : W.heap.size ≤ W.heap.size + 1) (j1, j2))
        have hs4 := set2_self hz3 (j1, j2)
        clear hb3 hB3 hs3 p0 p1
        go_wp2_with (with_reducible refine stay_store 144 (.tmp 4) (.tmp 19) (by rfl) ?_)
        refine Stay.mk ?_
        refine wpList_store_joint (by rfl) 144 (.tmp 4) (.tmp 19) (by rfl) size_joint (W.heap.size + 1) (j1, j2) (by rfl) (by rfl) hz3 ?_
        generalize set2 w3 (W.heap.size + 1) (j1, j2) = w4 at hs4 HE ⊢
        go_wp2
        have g0 := cell_heap hs4 (i := 0)
        have g1 := cell_heap hs4 (i := 1)
        simp only [List.getElem?_toArray, List.getElem?_cons_zero, List.getElem?_cons_succ] at g0 g1
        refine bodyPost_ret (v := .tuple #[jv (j1, j2), .bool true]) (by simp [results, Tryz.results143, go_sem, g0, g1]) rfl ⟨by rw [HD.out]; rfl, HE.out⟩
    · obtain rfl : k = n := by omega
      have hN : nxj C js = none := by rw [HQ.out, List.drop_eq_nil_of_le (by rw [HN.out]; exact Nat.le_refl _)]; rfl
      have HE := Lib.hid (below_set2 hB (by omega : W.heap.size ≤ W.heap.size + 1) zj)
      have hs4 := set2_self hz zj
      have HNN := Lib.hid hN
      clear hN HQ HH0 HJ hr hB
      go_wp2_with (with_reducible refine stay_store 144 (.tmp 4) (.tmp 21) (by rfl) ?_)
      refine Stay.mk ?_
      refine wpList_store_joint (by rfl) 144 (.tmp 4) (.tmp 21) (by rfl) size_joint (W.heap.size + 1) zj (by rfl) (by rfl) hz ?_
      generalize set2 wr (W.heap.size + 1) zj = w4 at hs4 HE ⊢
      go_wp2
      have g0 := cell_heap hs4 (i := 0)
      have g1 := cell_heap hs4 (i := 1)
      simp only [List.getElem?_toArray, List.getElem?_cons_zero, List.getElem?_cons_succ] at g0 g1
      refine bodyPost_ret (v := .tuple #[jv zj, .bool false]) (by simp [results, Tryz.results143, go_sem, g0, g1]) rfl ⟨by rw [HNN.out]; rfl, HE.out⟩
end
end Go.Proofs.YtfmlcddakfbleaaGreatDoor

namespace Go.Proofs.YtfmlcddakfbleaaGreatDoor
open Go.RowKit SignMath TreeMath

/-- a function value that reads one tree from the cursor in block b -/
def PartF (gf b : Nat) (A : Option Addr) (c : Nat) (part : Cu → Cu × Tr) (D : Nat) : Prop := ∀ (W : World) (C : Cu), CuM b A c C W → C.Ok → C.d ≤ 200 → D ≤ C.d → Calls Tryz.prog gf #[rcv b] W (TrV b A c (part C) W)
theorem nxv_eq (x : Option (ByteArray × Int)) : nxv x = .tuple #[jv (x.getD zj), .bool x.isSome] := by cases x <;> rfl
theorem Cu.isb_left {C : Cu} {s : ByteArray} (h : C.isb 0 s = true) : 0 < C.left ∧ (wnt s C).1.left = C.left - 1 ∧ (wnt s C).1.n = C.n + 1 := by
  obtain ⟨t, ht⟩ := Cu.isb_some h
  have h1 := Cu.nxt_left ht
  obtain ⟨hf, h2⟩ := Cu.nxt_some ht
  have e : wnt s C = ({ C with n := C.n + 1 }, C.leaf t) := by unfold wnt; rw [h, Cu.take_true ht]
  rw [e]
  refine ⟨h1, ?_, rfl⟩
  unfold Cu.left
  rw [if_pos hf, if_pos hf]
  show C.L.length - (C.n + 1) = C.L.length - C.n - 1
  omega
/-- how many tokens are left, in memory -/
def lft (b m : Nat) (W : World) : Nat := m - (match W.cell? ⟨b, 2, none⟩ with | some v => (intOf v).toNat | none => 0)
theorem lft_eq {b : Nat} {A : Option Addr} {c m : Nat} {C : Cu} {W : World} (h : CuM b A c C W) : lft b m W = m - C.n := by
  unfold lft
  rw [h.cells.2.2.1]
  simp [intOf]

/-- ahead of each round of joined -/
structure JoI (b : Nat) (A : Option Addr) (c g : Nat) (o : Obj) (w : World) (part : Cu → Cu × Tr) (js : List (ByteArray × Int)) (C : Cu) (res : Cu × Tr) (x : Nat) (q z : Nat) (C' : Cu) (T : Tr) (jj : ByteArray × Int) (W : World) : Prop where
  ek : EK b A c no (· = b) w C' [(z, jbx jj), (x, .cells (ncc T) 30 (0, 0)), (w.heap.size + 1, zb5), (w.heap.size, rdb b), (g, o)] [x, w.heap.size + 1, w.heap.size] [T] W
  j : jj = (nxj C' js).getD zj
  lf : C'.left ≤ q
  res : jnl part js q (C', pl T) = res
  d : C'.d = C.d
  L : C'.L = C.L

set_option maxRecDepth 100000 in
set_option maxHeartbeats 8000000 in
theorem joined_any (gf : Nat) (eg : ∀ args w, (callFunc gf args).run Tryz.prog w = .ok (.enter gf args) w) (part : Cu → Cu × Tr) (D : Nat) (js : List (ByteArray × Int)) (hjl : js.length ≤ 2) (b : Nat) (A : Option Addr) (c : Nat) (HP : PartF gf b A c part D) (HG : GX part D)
    (g off : Nat) (o : Obj) (w : World) (C : Cu) (hgb : g ≠ b) (hgo : w.heap[g]? = some o) (hjm : ∀ W' : World, W'.heap[g]? = some o → JsM W' g off js) (h : CuM b A c C w) (hk : C.Ok) (hd : C.d ≤ 200) (hD : D ≤ C.d) :
    Calls Tryz.prog 136 #[rcv b, .func (.func gf) #[rcv b] #[], .slice (some ⟨g, off, none⟩) js.length js.length] w (TrV b A c (jnd part js C) w) := by
  have ek2 := (((EK.begin h hk).has_ hgb hgo).alloc (rdb b)).alloc zb5
  rw [World.size_alloc] at ek2
  have HP2 := Lib.hid (HP _ C ek2.cu hk hd hD)
  have hG := HG C hk hd hD
  have HPP := Lib.hid HP
  have HGW2 : Hid (g < w.heap.size) := Lib.hid (Array.getElem?_eq_some_iff.1 hgo).1
  have HGG := Lib.hid HG
  have HJM := Lib.hid hjm
  have HRES : Hid (jnl part js (part C).1.left (part C) = jnd part js C) := Lib.hid rfl
  have HG0 := Lib.hid hG
  have HK0 := Lib.hid (And.intro hk (And.intro hd hD))
  obtain ⟨nj, hnj⟩ : ∃ n, js.length = n := ⟨_, rfl⟩
  have HNX : Hid (∀ (W : World) (C' : Cu), CuM b A c C' W → C'.Ok → W.heap[g]? = some o → Calls Tryz.prog 143 #[rcv b, .slice (some ⟨g, off, none⟩) nj nj] W (Rd W (.tuple #[jv ((nxj C' js).getD zj), .bool (nxj C' js).isSome]))) := Lib.hid fun W C' hm hk hg => by
    have := next_any js hjl g off (Array.getElem?_eq_some_iff.1 hg).1 (hjm W hg) hm hk
    rwa [nxv_eq, hnj] at this
  rw [hnj]
  have E2 := Lib.hid ek2
  generalize hr0 : jnd part js C = res at HRES ⊢
  clear HP HG hjm hG h hk hd hD hgo hjl ek2 hr0 hnj
  go_enter Tryz.func136, Tryz.ntmps136
  go_wp2_with (go_at_fn gf; refine Stay.out ?_)
  refine Stay.mk ?_
  refine HP2.out.mono ?_
  rintro e w3 ⟨T, rfl, hp, hT, hm, ho⟩
  have ek3 := E2.out.got hT hm ⟨HG0.out.ok, HG0.out.L⟩ ho
  have ek4 := ek3.local_ T
  have hz3 := heap_alloc_new w3 zb5
  have hwx : w.heap.size + 1 < w3.heap.size := ek3.lt (z := w.heap.size + 1) (o := zb5) (by simp)
  clear hT hm ho ek3 HP2
  go_wp2_with (with_reducible refine stay_store 30 (.tmp 7) (.tmp 12) (by rfl) ?_)
  refine Stay.mk ?_
  refine wpList_store_node (by rfl) 30 (.tmp 7) (.tmp 12) (by rfl) size_tnode (w3.heap.size) T (by rfl) (by rfl) hz3 ?_
  generalize set5 (w3.alloc zb5) w3.heap.size T = w4 at ek4 ⊢
  generalize w3.heap.size = x at ek4 hwx ⊢
  clear hz3 w3
  have p0 := cell_heap (ek4.box (z := w.heap.size) (o := rdb b) (by simp)) (i := 0)
  simp only [List.getElem?_toArray, List.getElem?_cons_zero] at p0
  have HN4 := Lib.hid (HNX.out w4 (part C).1 ek4.cu ek4.ok (ek4.box (by simp)))
  unfold Rd at HN4
  have E4 := Lib.hid ek4
  clear ek4 E2
  go_wp2_with fail
  refine HN4.out.mono ?_
  rintro e w5 ⟨rfl, hb5⟩
  have ek5 := E4.out.below hb5
  have ek6 := ek5.localj ((nxj (part C).1 js).getD zj)
  have hz5 := heap_alloc_new w5 jz
  clear hb5 ek5 p0 HN4 E4
  go_wp2_with (with_reducible refine stay_store 144 (.tmp 8) (.tmp 17) (by rfl) ?_)
  refine Stay.mk ?_
  refine wpList_store_joint (by rfl) 144 (.tmp 8) (.tmp 17) (by rfl) size_joint (w5.heap.size) ((nxj (part C).1 js).getD zj) (by rfl) (by rfl) hz5 ?_
  generalize set2 (w5.alloc jz) w5.heap.size ((nxj (part C).1 js).getD zj) = w6 at ek6 ⊢
  generalize w5.heap.size = z0 at ek6 ⊢
  clear hz5 w5
  have HI0 : Hid (JoI b A c g o w part js C res x (part C).1.left z0 (part C).1 T ((nxj (part C).1 js).getD zj) w6) := Lib.hid ⟨(ek6.sub (by simp) (by simp)).lessz (by simp), rfl, Nat.le_refl _, by rw [hp]; exact HRES.out, HG0.out.d, HG0.out.L⟩
  clear ek6 hp HRES
  generalize hi0 : (nxj (part C).1 js).isSome = ok0
  have HIS := Lib.hid hi0
  clear hi0
  go_wp2
  go_loopw [8, 9] (fun vz vo wr => ∃ (q z : Nat) (C' : Cu) (T' : Tr) (j1 : ByteArray) (j2 : Int) (ok : Bool), vz = .pointer (some ⟨z, 0, none⟩) ∧ vo = .bool ok ∧ Hid ((nxj C' js).isSome = ok) ∧ Hid (JoI b A c g o w part js C res x q z C' T' (j1, j2) wr)) (fun _ _ wr => lft b C.L.length wr)
  case atStart => exact ⟨_, z0, (part C).1, T, _, _, ok0, rfl, rfl, HIS, HI0⟩
  case round =>
    obtain ⟨q, z, C', T', j1, j2, ok, rfl, rfl, HOK, HD⟩ := hrel
    clear HI0 HIS
    cases ok with
    | false =>
      have hno : nxj C' js = none := by have := HOK.out; simpa using this
      have hres : (C', pl T') = res := by
        rw [← HD.out.res]
        cases q with
        | zero => rfl
        | succ q => unfold jnl; simp only; rw [hno]
      have ek := HD.out.ek
      have t5 := heap5 (ek.box (z := x) (o := .cells (ncc T') 30 (0, 0)) (by simp))
      obtain ⟨t0, t1, t2, t3, t4⟩ := t5
      have hz := ek.box (z := w.heap.size + 1) (o := zb5) (by simp)
      have hfin := ek.result (r := res) (T := T') (z := w.heap.size + 1) (by simp) (by simp) hz (by rw [← hres]) (by rw [← hres])
      clear ek hno hres HD HOK HG0
      go_wp2_with (with_reducible refine stay_store 30 (.tmp 6) (.tmp 40) (by rfl) ?_)
      refine Stay.mk ?_
      refine wpList_store_node (by rfl) 30 (.tmp 6) (.tmp 40) (by rfl) size_tnode (w.heap.size + 1) T' (by rfl) (by rfl) hz ?_
      clear hz t0 t1 t2 t3 t4
      generalize set5 wr (w.heap.size + 1) T' = w9 at hfin ⊢
      obtain ⟨hs, hv⟩ := hfin
      have HV := Lib.hid hv
      clear hv
      go_wp2
      have g0 := cell_heap hs (i := 0)
      have g1 := cell_heap hs (i := 1)
      have g2 := cell_heap hs (i := 2)
      have g3 := cell_heap hs (i := 3)
      have g4 := cell_heap hs (i := 4)
      simp only [List.getElem?_toArray, List.getElem?_cons_zero, List.getElem?_cons_succ] at g0 g1 g2 g3 g4
      refine bodyPost_ret (v := nv T') (by simp [results, Tryz.results136, go_sem, g0, g1, g2, g3, g4]) rfl HV.out
    | true =>
      obtain ⟨hx1, hx2⟩ : nxj C' js = some (j1, j2) ∧ C'.isb 0 j1 = true := by
        have h1 := HOK.out
        have h2 := HD.out.j
        cases hx : nxj C' js with
        | none => rw [hx] at h1; cases h1
        | some j =>
          rw [hx] at h2
          have h3 : (j1, j2) = j := h2
          exact ⟨by rw [h3], by have := (nxj_some hx).2; rw [← h3] at this; exact this⟩
      obtain ⟨hl1, hl2, hl3⟩ := Cu.isb_left hx2
      have ek := HD.out.ek
      have HKD := Lib.hid (And.intro HD.out.d HD.out.L)
      obtain ⟨q, rfl⟩ : ∃ q', q = q' + 1 := ⟨q - 1, by have := HD.out.lf; omega⟩
      have hres := HD.out.res
      unfold jnl at hres
      simp only [hx1] at hres
      have hlf := HD.out.lf
      have HLF : Hid ((wnt j1 C').1.left ≤ q) := Lib.hid (by omega)
      have HRES := Lib.hid hres
      have hGW := Got.wnt ek.ok j1
      have hdd : (wnt j1 C').1.d = C.d := hGW.d.trans HKD.out.1
      have hGP := HGG.out (wnt j1 C').1 hGW.ok (by rw [hdd]; exact HK0.out.2.1) (by rw [hdd]; exact HK0.out.2.2)
      have HGW := Lib.hid hGW
      have HGP := Lib.hid hGP
      have HN2 : Hid (C'.n < C.L.length ∧ C'.n + 1 ≤ (part (wnt j1 C').1).1.n) := Lib.hid ⟨by
        have : 0 < C'.left := hl1
        unfold Cu.left at this
        rw [HKD.out.2] at this
        split at this <;> omega, by have := hGP.n; omega⟩
      have HCU := Lib.hid ek.cu
      have HW := Lib.hid (wnt_any j1 ek.cu ek.ok)
      have hzx : z ≠ x := fun e => by
        have b1 := ek.box (z := z) (o := jbx (j1, j2)) (by simp)
        have b2 := ek.box (z := x) (o := .cells (ncc T') 30 (0, 0)) (by simp)
        rw [e, b2] at b1
        simp at b1
      have hxw : x < wr.heap.size := ek.lt (z := x) (o := .cells (ncc T') 30 (0, 0)) (by simp)
      have p0 := cell_heap (ek.box (z := w.heap.size) (o := rdb b) (by simp)) (i := 0)
      have p1 := cell_heap (ek.box (z := z) (o := jbx (j1, j2)) (by simp)) (i := 0)
      simp only [List.getElem?_toArray, List.getElem?_cons_zero] at p0 p1
      have E0 := Lib.hid ek
      clear ek HD HOK hx1 hx2 hl1 hl2 hl3 hres hlf hGW hGP hdd HG0
      go_wp2_with fail
      refine HW.out.mono ?_
      rintro e w3 ⟨SG, rfl, hp1, hT1, hm1, ho1⟩
      have ek1 := E0.out.got hT1 hm1 ⟨HGW.out.ok, HGW.out.L⟩ ho1
      have ek2 := ek1.local_ SG
      have hz1 := heap_alloc_new w3 zb5
      have hxw3 : x < w3.heap.size := Nat.lt_of_lt_of_le hxw ho1.size
      clear ek1 hT1 hm1 ho1 p0 p1 HW E0 hxw
      go_wp2_with (with_reducible refine stay_store 30 (.tmp 10) (.tmp 30) (by rfl) ?_)
      refine Stay.mk ?_
      refine wpList_store_node (by rfl) 30 (.tmp 10) (.tmp 30) (by rfl) size_tnode (w3.heap.size) SG (by rfl) (by rfl) hz1 ?_
      generalize set5 (w3.alloc zb5) w3.heap.size SG = w4 at ek2 ⊢
      generalize w3.heap.size = x10 at ek2 hxw3 ⊢
      clear hz1 w3
      have ek4 := ek2.drew
      have HC := Lib.hid (HPP.out w4.drew (wnt j1 C').1 ek4.cu ek4.ok (by rw [HGW.out.d, HKD.out.1]; exact HK0.out.2.1) (by rw [HGW.out.d, HKD.out.1]; exact HK0.out.2.2))
      have E4 := Lib.hid ek4
      clear ek2 ek4
      go_wp2
      rename_i K0 hK0
      refine wp_region_noPanic (wp_region_held (S := fun W' : World => W'.heap[z]? = some (jbx (j1, j2)) ∧ W'.heap[x10]? = some (.cells (ncc SG) 30 (0, 0))) (by kernel_rfl) ?_)
      show wpAnyH _ _ _ _ _ _ _ _ w4.drew
      generalize w4.drew = w5 at HC E4 ⊢
      have hS5 : w5.heap[z]? = some (jbx (j1, j2)) ∧ w5.heap[x10]? = some (.cells (ncc SG) 30 (0, 0)) := ⟨E4.out.box (by simp), E4.out.box (by simp)⟩
      refine wpAnyH_take_d (i := 0) (v := .pointer (some ⟨z, 1, none⟩)) 31 rfl rfl (by kernel_rfl) (by kernel_rfl) (by kernel_rfl) (fun _ _ _ h => h) (Or.inl ⟨by kernel_rfl, fun w' hS' => ?y0⟩) hS5 ?_
      case y0 => (skip; clear hS'; go_simp)
      simp only [Act.put, List.setIfInBounds_toArray, List.set_cons_zero, List.set_cons_succ]
      refine wpAnyH_take_d (i := 1) (v := .int .i64 j2) 32 rfl rfl (by kernel_rfl) (by kernel_rfl) (by kernel_rfl) (fun _ _ _ h => h) (Or.inl ⟨by kernel_rfl, fun w' hS' => ?y1⟩) hS5 ?_
      case y1 => (have s1 := cell_heap hS'.1 (i := 1); simp only [List.getElem?_toArray, List.getElem?_cons_zero, List.getElem?_cons_succ] at s1; clear hS'; go_simp)
      simp only [Act.put, List.setIfInBounds_toArray, List.set_cons_zero, List.set_cons_succ]
      refine wpAnyH_take_d (i := 3) (v := nv SG) 34 rfl rfl (by kernel_rfl) (by kernel_rfl) (by kernel_rfl) (fun _ _ _ h => h) (Or.inl ⟨by kernel_rfl, fun w' hS' => ?y3⟩) hS5 ?_
      case y3 => (obtain ⟨s0, s1, s2, s3, s4⟩ := heap5 hS'.2; clear hS'; go_simp)
      simp only [Act.put, List.setIfInBounds_toArray, List.set_cons_zero, List.set_cons_succ]
      refine wpAnyH_take_d (i := 4) (v := .func (.func gf) #[rcv b] #[]) 35 rfl rfl (by kernel_rfl) (by kernel_rfl) (by kernel_rfl) (fun _ _ _ h => h) (Or.inl ⟨by kernel_rfl, fun w' hS' => ?y4⟩) hS5 ?_
      case y4 => (skip; clear hS'; go_simp)
      simp only [Act.put, List.setIfInBounds_toArray, List.set_cons_zero, List.set_cons_succ]
      refine wpAnyH_ready (rs := [2, 5]) (by kernel_rfl) (by simp) ?_
      refine AllReadyH.cons rfl (fun K hK => ?_) (AllReadyH.cons rfl (fun K hK => ?_) AllReadyH.nil)
      · obtain ⟨t0, t1, t2, t3, t4⟩ := heap5 (E4.out.box (z := x) (o := .cells (ncc T') 30 (0, 0)) (by simp))
        go_simp
        clear t0 t1 t2 t3 t4
        refine hK.out _ _ hS5 (fun _ => ?_)
        clear hK K
        try simp only [Act.put, List.setIfInBounds_toArray, List.set_cons_zero, List.set_cons_succ]
        refine wpAnyH_ready (rs := [5]) (by kernel_rfl) (by simp) ?_
        refine AllReadyH.cons rfl (fun K hK => ?_) AllReadyH.nil
        go_simp
        go_at_fn gf
        refine HC.out.mono ?_
        rintro e w6 ⟨U, rfl, hp2, hT2, hm2, ho2⟩
        have ek6 := E4.out.got hT2 hm2 ⟨HGP.out.ok, HGP.out.L⟩ ho2
        have hS6 : w6.heap[z]? = some (jbx (j1, j2)) ∧ w6.heap[x10]? = some (.cells (ncc SG) 30 (0, 0)) := ⟨ek6.box (by simp), ek6.box (by simp)⟩
        have E6 := Lib.hid ek6
        clear ek6 hT2 hm2 ho2
        refine hK.out _ _ hS6 (fun _ => ?_)
        clear hK K
        try simp only [Act.put, List.setIfInBounds_toArray, List.set_cons_zero, List.set_cons_succ]
        refine wpAnyH_ready (rs := [6]) (by kernel_rfl) (by simp) ?_
        refine AllReadyH.cons rfl (fun K hK => ?_) AllReadyH.nil
        have ek7 := E6.out.rowOf j2 3 (l := [T', SG, U]) rfl (by simp) (.cells #[.int .i64 T'.k, .string T'.g, .string T'.t, .int .i64 T'.a, .slice T'.A T'.kids.length T'.c, .int .i64 SG.k, .string SG.g, .string SG.t, .int .i64 SG.a, .slice SG.A SG.kids.length SG.c, .int .i64 U.k, .string U.g, .string U.t, .int .i64 U.a, .slice U.A U.kids.length U.c] 30 (0, 0)) 30 rfl
        go_simp
        generalize w6.alloc (.cells #[.int .i64 T'.k, .string T'.g, .string T'.t, .int .i64 T'.a, .slice T'.A T'.kids.length T'.c, .int .i64 SG.k, .string SG.g, .string SG.t, .int .i64 SG.a, .slice SG.A SG.kids.length SG.c, .int .i64 U.k, .string U.g, .string U.t, .int .i64 U.a, .slice U.A U.kids.length U.c] 30 (0, 0)) = w7 at ek7 ⊢
        generalize w6.heap.size = y at ek7 ⊢
        have hS7 : w7.heap[z]? = some (jbx (j1, j2)) ∧ w7.heap[x10]? = some (.cells (ncc SG) 30 (0, 0)) := ⟨ek7.box (by simp), ek7.box (by simp)⟩
        have E7 := Lib.hid ek7
        clear ek7 E6
        refine hK.out _ _ hS7 (fun _ => ?_)
        clear hK K
        try simp only [Act.put, List.setIfInBounds_toArray, List.set_cons_zero, List.set_cons_succ]
        refine wpAnyH_ready (rs := [7]) (by kernel_rfl) (by simp) ?_
        refine AllReadyH.cons rfl (fun K hK => ?_) AllReadyH.nil
        go_simp
        refine (node_any j2 (some ⟨y, 0, none⟩) 3 [T', SG, U] w7).mono ?_
        rintro e w8 ⟨rfl, hb8⟩
        have ek8 := E7.out.below hb8
        have hS8 : w8.heap[z]? = some (jbx (j1, j2)) ∧ w8.heap[x10]? = some (.cells (ncc SG) 30 (0, 0)) := ⟨ek8.box (by simp), ek8.box (by simp)⟩
        have E8 := Lib.hid ek8
        clear ek8 E7 hb8
        refine hK.out _ _ hS8 (fun _ => ?_)
        clear hK K
        try simp only [Act.put, List.setIfInBounds_toArray, List.set_cons_zero, List.set_cons_succ]
        refine wpAnyH_ready (rs := [8]) (by kernel_rfl) (by simp) ?_
        refine AllReadyH.cons rfl (fun K hK => ?_) AllReadyH.nil
        refine step_store_node (by rfl) 30 (.tmp 7) (.tmp 38) (by rfl) size_tnode x ⟨j2, ⟨#[]⟩, ⟨#[]⟩, 0, some ⟨y, 0, none⟩, 3, [T', SG, U]⟩ (by rfl) (by rfl) (E8.out.box (z := x) (o := .cells (ncc T') 30 (0, 0)) (by simp)) ?_
        have ek9 := E8.out.store (bs' := [(x, .cells (ncc ⟨j2, ⟨#[]⟩, ⟨#[]⟩, 0, some ⟨y, 0, none⟩, 3, [T', SG, U]⟩) 30 (0, 0)), (x10, .cells (ncc SG) 30 (0, 0)), (z, jbx (j1, j2)), (w.heap.size + 1, zb5), (w.heap.size, rdb b), (g, o)]) ⟨j2, ⟨#[]⟩, ⟨#[]⟩, 0, some ⟨y, 0, none⟩, 3, [T', SG, U]⟩ (z := x) (by simp) (E8.out.box (z := x) (o := .cells (ncc T') 30 (0, 0)) (by simp)) (by
          have hgw : g < w.heap.size := HGW2.out
          intro q hq
          simp only [List.mem_cons, List.not_mem_nil, or_false] at hq
          rcases hq with rfl | rfl | rfl | rfl | rfl | rfl
          · exact .inl rfl
          all_goals exact .inr ⟨by simp, by dsimp only; first | omega | exact hzx⟩)
        generalize set5 w8 x ⟨j2, ⟨#[]⟩, ⟨#[]⟩, 0, some ⟨y, 0, none⟩, 3, [T', SG, U]⟩ = w9 at ek9 ⊢
        have hS9 : w9.heap[z]? = some (jbx (j1, j2)) ∧ w9.heap[x10]? = some (.cells (ncc SG) 30 (0, 0)) := ⟨ek9.box (by simp), ek9.box (by simp)⟩
        have hpl : pl ⟨j2, ⟨#[]⟩, ⟨#[]⟩, 0, some ⟨y, 0, none⟩, 3, [T', SG, U]⟩ = nod j2 [pl T', (wnt j1 C').2, (part (wnt j1 C').1).2] := by rw [pl_nod, ← hp1, ← hp2]; rfl
        generalize (⟨j2, ⟨#[]⟩, ⟨#[]⟩, 0, some ⟨y, 0, none⟩, 3, [T', SG, U]⟩ : Tr) = N at ek9 hpl ⊢
        have ek10 := ((ek9.sub (bs' := [(z, jbx (j1, j2)), (x, .cells (ncc N) 30 (0, 0)), (w.heap.size + 1, zb5), (w.heap.size, rdb b), (g, o)]) (ts' := [N]) (by simp only [List.mem_cons, List.not_mem_nil, or_false]; rintro q (h | h | h | h | h) <;> simp [h]) (by simp)).lessz (zs' := [x, w.heap.size + 1, w.heap.size]) (by simp only [List.mem_cons, List.not_mem_nil, or_false]; rintro q (h | h | h) <;> simp [h]))
        clear ek9 E8
        refine hK.out _ _ hS9 (fun _ => ?_)
        clear hK K
        try simp only [Act.put, List.setIfInBounds_toArray]
        refine wpAnyH_done (by kernel_rfl) ?_ _
        refine hK0 _ _ ?_
        clear hS5 hS6 hS7 hS8 hS9 HC E4 hK0
        have q0 := cell_heap (ek10.box (z := z) (o := jbx (j1, j2)) (by simp)) (i := 0)
        have q1 := cell_heap (ek10.box (z := z) (o := jbx (j1, j2)) (by simp)) (i := 1)
        simp only [List.getElem?_toArray, List.getElem?_cons_zero, List.getElem?_cons_succ] at q0 q1
        have ek11 := ek10.localj (j1, j2)
        have hxz1 : x < w9.heap.size := ek10.lt (z := x) (o := .cells (ncc N) 30 (0, 0)) (by simp)
        have hz9 := heap_alloc_new w9 jz
        clear ek10
        go_wp2_with (with_reducible refine stay_store 144 (.tmp 8) (.tmp 39) (by rfl) ?_)
        refine Stay.mk ?_
        refine wpList_store_joint (by rfl) 144 (.tmp 8) (.tmp 39) (by rfl) size_joint (w9.heap.size) (j1, j2) (by rfl) (by rfl) hz9 ?_
        generalize set2 (w9.alloc jz) w9.heap.size (j1, j2) = w10 at ek11 ⊢
        generalize w9.heap.size = z1 at ek11 hxz1 ⊢
        have HZ1 := Lib.hid hxz1
        clear hz9 q0 q1 hxz1
        have p0 := cell_heap (ek11.box (z := w.heap.size) (o := rdb b) (by simp)) (i := 0)
        simp only [List.getElem?_toArray, List.getElem?_cons_zero] at p0
        have HN := Lib.hid (HNX.out w10 (part (wnt j1 C').1).1 ek11.cu ek11.ok (ek11.box (by simp)))
        unfold Rd at HN
        obtain ⟨⟨k1, k2⟩, hkk⟩ : ∃ jj, (nxj (part (wnt j1 C').1).1 js).getD zj = jj := ⟨_, rfl⟩
        obtain ⟨ok1, hok1⟩ : ∃ ok1, (nxj (part (wnt j1 C').1).1 js).isSome = ok1 := ⟨_, rfl⟩
        rw [hkk, hok1] at HN
        have HKK := Lib.hid hkk
        have HOK1 := Lib.hid hok1
        have E11 := Lib.hid ek11
        clear ek11 hkk hok1
        go_wp2_with fail
        refine HN.out.mono ?_
        rintro e w12 ⟨rfl, hb12⟩
        have ek12 := E11.out.below hb12
        have hz12 : w12.heap[z1]? = some (jbx (j1, j2)) := ek12.box (by simp)
        have hz1x : x < z1 := HZ1.out
        clear hb12 p0 HN E11
        go_wp2_with (with_reducible refine stay_store 144 (.tmp 8) (.tmp 24) (by rfl) ?_)
        refine Stay.mk ?_
        refine wpList_store_joint (by rfl) 144 (.tmp 8) (.tmp 24) (by rfl) size_joint (z1) (k1, k2) (by rfl) (by rfl) hz12 ?_
        have ek13 := ek12.storej (bs' := [(z1, jbx (k1, k2)), (x, .cells (ncc N) 30 (0, 0)), (w.heap.size + 1, zb5), (w.heap.size, rdb b), (g, o)]) (k1, k2) (z := z1) (by simp) hz12 (by
          have hgw : g < w.heap.size := HGW2.out
          intro q hq
          simp only [List.mem_cons, List.not_mem_nil, or_false] at hq
          rcases hq with rfl | rfl | rfl | rfl | rfl
          · exact .inl rfl
          all_goals exact .inr ⟨by simp, by dsimp only; omega⟩)
        have ek14 := ek13.lessz (zs' := [x, w.heap.size + 1, w.heap.size]) (by simp only [List.mem_cons, List.not_mem_nil, or_false]; rintro q (h | h | h) <;> simp [h])
        generalize set2 w12 z1 (k1, k2) = w13 at ek14 ⊢
        have E14 := Lib.hid ek14
        clear ek12 ek13 ek14 hz12
        go_wp2
        go_roundw
        case rel => exact ⟨q, z1, (part (wnt j1 C').1).1, N, k1, k2, ok1, rfl, rfl, HOK1, Lib.hid ⟨E14.out, HKK.out.symm, Nat.le_trans HGP.out.left HLF.out, by rw [hpl]; exact HRES.out, HGP.out.d.trans (HGW.out.d.trans HKD.out.1), HGP.out.L.trans (HGW.out.L.trans HKD.out.2)⟩⟩
        case measure =>
          show lft b _ _ < lft b _ _
          rw [lft_eq E14.out.cu, lft_eq HCU.out]
          have := HN2.out
          omega
      · go_simp
        go_at_fn gf
        refine HC.out.mono ?_
        rintro e w6 ⟨U, rfl, hp2, hT2, hm2, ho2⟩
        have ek6 := E4.out.got hT2 hm2 ⟨HGP.out.ok, HGP.out.L⟩ ho2
        have hS6 : w6.heap[z]? = some (jbx (j1, j2)) ∧ w6.heap[x10]? = some (.cells (ncc SG) 30 (0, 0)) := ⟨ek6.box (by simp), ek6.box (by simp)⟩
        have E6 := Lib.hid ek6
        clear ek6 hT2 hm2 ho2
        refine hK.out _ _ hS6 (fun _ => ?_)
        clear hK K
        try simp only [Act.put, List.setIfInBounds_toArray, List.set_cons_zero, List.set_cons_succ]
        refine wpAnyH_ready (rs := [2]) (by kernel_rfl) (by simp) ?_
        refine AllReadyH.cons rfl (fun K hK => ?_) AllReadyH.nil
        obtain ⟨t0, t1, t2, t3, t4⟩ := heap5 (E6.out.box (z := x) (o := .cells (ncc T') 30 (0, 0)) (by simp))
        go_simp
        clear t0 t1 t2 t3 t4
        refine hK.out _ _ hS6 (fun _ => ?_)
        clear hK K
        try simp only [Act.put, List.setIfInBounds_toArray, List.set_cons_zero, List.set_cons_succ]
        refine wpAnyH_ready (rs := [6]) (by kernel_rfl) (by simp) ?_
        refine AllReadyH.cons rfl (fun K hK => ?_) AllReadyH.nil
        have ek7 := E6.out.rowOf j2 3 (l := [T', SG, U]) rfl (by simp) (.cells #[.int .i64 T'.k, .string T'.g, .string T'.t, .int .i64 T'.a, .slice T'.A T'.kids.length T'.c, .int .i64 SG.k, .string SG.g, .string SG.t, .int .i64 SG.a, .slice SG.A SG.kids.length SG.c, .int .i64 U.k, .string U.g, .string U.t, .int .i64 U.a, .slice U.A U.kids.length U.c] 30 (0, 0)) 30 rfl
        go_simp
        generalize w6.alloc (.cells #[.int .i64 T'.k, .string T'.g, .string T'.t, .int .i64 T'.a, .slice T'.A T'.kids.length T'.c, .int .i64 SG.k, .string SG.g, .string SG.t, .int .i64 SG.a, .slice SG.A SG.kids.length SG.c, .int .i64 U.k, .string U.g, .string U.t, .int .i64 U.a, .slice U.A U.kids.length U.c] 30 (0, 0)) = w7 at ek7 ⊢
        generalize w6.heap.size = y at ek7 ⊢
        have hS7 : w7.heap[z]? = some (jbx (j1, j2)) ∧ w7.heap[x10]? = some (.cells (ncc SG) 30 (0, 0)) := ⟨ek7.box (by simp), ek7.box (by simp)⟩
        have E7 := Lib.hid ek7
        clear ek7 E6
        refine hK.out _ _ hS7 (fun _ => ?_)
        clear hK K
        try simp only [Act.put, List.setIfInBounds_toArray, List.set_cons_zero, List.set_cons_succ]
        refine wpAnyH_ready (rs := [7]) (by kernel_rfl) (by simp) ?_
        refine AllReadyH.cons rfl (fun K hK => ?_) AllReadyH.nil
        go_simp
        refine (node_any j2 (some ⟨y, 0, none⟩) 3 [T', SG, U] w7).mono ?_
        rintro e w8 ⟨rfl, hb8⟩
        have ek8 := E7.out.below hb8
        have hS8 : w8.heap[z]? = some (jbx (j1, j2)) ∧ w8.heap[x10]? = some (.cells (ncc SG) 30 (0, 0)) := ⟨ek8.box (by simp), ek8.box (by simp)⟩
        have E8 := Lib.hid ek8
        clear ek8 E7 hb8
        refine hK.out _ _ hS8 (fun _ => ?_)
        clear hK K
        try simp only [Act.put, List.setIfInBounds_toArray, List.set_cons_zero, List.set_cons_succ]
        refine wpAnyH_ready (rs := [8]) (by kernel_rfl) (by simp) ?_
        refine AllReadyH.cons rfl (fun K hK => ?_) AllReadyH.nil
        refine step_store_node (by rfl) 30 (.tmp 7) (.tmp 38) (by rfl) size_tnode x ⟨j2, ⟨#[]⟩, ⟨#[]⟩, 0, some ⟨y, 0, none⟩, 3, [T', SG, U]⟩ (by rfl) (by rfl) (E8.out.box (z := x) (o := .cells (ncc T') 30 (0, 0)) (by simp)) ?_
        have ek9 := E8.out.store (bs' := [(x, .cells (ncc ⟨j2, ⟨#[]⟩, ⟨#[]⟩, 0, some ⟨y, 0, none⟩, 3, [T', SG, U]⟩) 30 (0, 0)), (x10, .cells (ncc SG) 30 (0, 0)), (z, jbx (j1, j2)), (w.heap.size + 1, zb5), (w.heap.size, rdb b), (g, o)]) ⟨j2, ⟨#[]⟩, ⟨#[]⟩, 0, some ⟨y, 0, none⟩, 3, [T', SG, U]⟩ (z := x) (by simp) (E8.out.box (z := x) (o := .cells (ncc T') 30 (0, 0)) (by simp)) (by
          have hgw : g < w.heap.size := HGW2.out
          intro q hq
          simp only [List.mem_cons, List.not_mem_nil, or_false] at hq
          rcases hq with rfl | rfl | rfl | rfl | rfl | rfl
          · exact .inl rfl
          all_goals exact .inr ⟨by simp, by dsimp only; first | omega | exact hzx⟩)
        generalize set5 w8 x ⟨j2, ⟨#[]⟩, ⟨#[]⟩, 0, some ⟨y, 0, none⟩, 3, [T', SG, U]⟩ = w9 at ek9 ⊢
        have hS9 : w9.heap[z]? = some (jbx (j1, j2)) ∧ w9.heap[x10]? = some (.cells (ncc SG) 30 (0, 0)) := ⟨ek9.box (by simp), ek9.box (by simp)⟩
        have hpl : pl ⟨j2, ⟨#[]⟩, ⟨#[]⟩, 0, some ⟨y, 0, none⟩, 3, [T', SG, U]⟩ = nod j2 [pl T', (wnt j1 C').2, (part (wnt j1 C').1).2] := by rw [pl_nod, ← hp1, ← hp2]; rfl
        generalize (⟨j2, ⟨#[]⟩, ⟨#[]⟩, 0, some ⟨y, 0, none⟩, 3, [T', SG, U]⟩ : Tr) = N at ek9 hpl ⊢
        have ek10 := ((ek9.sub (bs' := [(z, jbx (j1, j2)), (x, .cells (ncc N) 30 (0, 0)), (w.heap.size + 1, zb5), (w.heap.size, rdb b), (g, o)]) (ts' := [N]) (by simp only [List.mem_cons, List.not_mem_nil, or_false]; rintro q (h | h | h | h | h) <;> simp [h]) (by simp)).lessz (zs' := [x, w.heap.size + 1, w.heap.size]) (by simp only [List.mem_cons, List.not_mem_nil, or_false]; rintro q (h | h | h) <;> simp [h]))
        clear ek9 E8
        refine hK.out _ _ hS9 (fun _ => ?_)
        clear hK K
        try simp only [Act.put, List.setIfInBounds_toArray]
        refine wpAnyH_done (by kernel_rfl) ?_ _
        refine hK0 _ _ ?_
        clear hS5 hS6 hS7 hS8 hS9 HC E4 hK0
        have q0 := cell_heap (ek10.box (z := z) (o := jbx (j1, j2)) (by simp)) (i := 0)
        have q1 := cell_heap (ek10.box (z := z) (o := jbx (j1, j2)) (by simp)) (i := 1)
        simp only [List.getElem?_toArray, List.getElem?_cons_zero, List.getElem?_cons_succ] at q0 q1
        have ek11 := ek10.localj (j1, j2)
        have hxz1 : x < w9.heap.size := ek10.lt (z := x) (o := .cells (ncc N) 30 (0, 0)) (by simp)
        have hz9 := heap_alloc_new w9 jz
        clear ek10
        go_wp2_with (with_reducible refine stay_store 144 (.tmp 8) (.tmp 39) (by rfl) ?_)
        refine Stay.mk ?_
        refine wpList_store_joint (by rfl) 144 (.tmp 8) (.tmp 39) (by rfl) size_joint (w9.heap.size) (j1, j2) (by rfl) (by rfl) hz9 ?_
        generalize set2 (w9.alloc jz) w9.heap.size (j1, j2) = w10 at ek11 ⊢
        generalize w9.heap.size = z1 at ek11 hxz1 ⊢
        have HZ1 := Lib.hid hxz1
        clear hz9 q0 q1 hxz1
        have p0 := cell_heap (ek11.box (z := w.heap.size) (o := rdb b) (by simp)) (i := 0)
        simp only [List.getElem?_toArray, List.getElem?_cons_zero] at p0
        have HN := Lib.hid (HNX.out w10 (part (wnt j1 C').1).1 ek11.cu ek11.ok (ek11.box (by simp)))
        unfold Rd at HN
        obtain ⟨⟨k1, k2⟩, hkk⟩ : ∃ jj, (nxj (part (wnt j1 C').1).1 js).getD zj = jj := ⟨_, rfl⟩
        obtain ⟨ok1, hok1⟩ : ∃ ok1, (nxj (part (wnt j1 C').1).1 js).isSome = ok1 := ⟨_, rfl⟩
        rw [hkk, hok1] at HN
        have HKK := Lib.hid hkk
        have HOK1 := Lib.hid hok1
        have E11 := Lib.hid ek11
        clear ek11 hkk hok1
        go_wp2_with fail
        refine HN.out.mono ?_
        rintro e w12 ⟨rfl, hb12⟩
        have ek12 := E11.out.below hb12
        have hz12 : w12.heap[z1]? = some (jbx (j1, j2)) := ek12.box (by simp)
        have hz1x : x < z1 := HZ1.out
        clear hb12 p0 HN E11
        go_wp2_with (with_reducible refine stay_store 144 (.tmp 8) (.tmp 24) (by rfl) ?_)
        refine Stay.mk ?_
        refine wpList_store_joint (by rfl) 144 (.tmp 8) (.tmp 24) (by rfl) size_joint (z1) (k1, k2) (by rfl) (by rfl) hz12 ?_
        have ek13 := ek12.storej (bs' := [(z1, jbx (k1, k2)), (x, .cells (ncc N) 30 (0, 0)), (w.heap.size + 1, zb5), (w.heap.size, rdb b), (g, o)]) (k1, k2) (z := z1) (by simp) hz12 (by
          have hgw : g < w.heap.size := HGW2.out
          intro q hq
          simp only [List.mem_cons, List.not_mem_nil, or_false] at hq
          rcases hq with rfl | rfl | rfl | rfl | rfl
          · exact .inl rfl
          all_goals exact .inr ⟨by simp, by dsimp only; omega⟩)
        have ek14 := ek13.lessz (zs' := [x, w.heap.size + 1, w.heap.size]) (by simp only [List.mem_cons, List.not_mem_nil, or_false]; rintro q (h | h | h) <;> simp [h])
        generalize set2 w12 z1 (k1, k2) = w13 at ek14 ⊢
        have E14 := Lib.hid ek14
        clear ek12 ek13 ek14 hz12
        go_wp2
        go_roundw
        case rel => exact ⟨q, z1, (part (wnt j1 C').1).1, N, k1, k2, ok1, rfl, rfl, HOK1, Lib.hid ⟨E14.out, HKK.out.symm, Nat.le_trans HGP.out.left HLF.out, by rw [hpl]; exact HRES.out, HGP.out.d.trans (HGW.out.d.trans HKD.out.1), HGP.out.L.trans (HGW.out.L.trans HKD.out.2)⟩⟩
        case measure =>
          show lft b _ _ < lft b _ _
          rw [lft_eq E14.out.cu, lft_eq HCU.out]
          have := HN2.out
          omega
end Go.Proofs.YtfmlcddakfbleaaGreatDoor

namespace Go.Proofs.YtfmlcddakfbleaaGreatDoor
open Go.RowKit SignMath TreeMath

theorem eg_factor : ∀ args w, (callFunc 164 args).run Tryz.prog w = .ok (.enter 164 args) w := by
  intro args w; simp [go_sem]
abbrev jo_product : Obj := .cells #[.string ⟨#[42]⟩, .int .i64 20] 144 (0, 0)
theorem jm_product (W : World) (g : Nat) (h : W.heap[g]? = some jo_product) : JsM W g 0 jTimes := fun i j hi => by
  have c := fun k => cell_heap h (i := k)
  match i, hi with
  | 0, hi => injection hi with hi; subst hi; exact ⟨c 0, c 1⟩
  | _ + 1, hi => cases hi

set_option maxRecDepth 100000 in
set_option maxHeartbeats 4000000 in
theorem product_any {fc : Cu → Cu × Tr} {D b : Nat} {A : Option Addr} {c : Nat} (hF : PartF 164 b A c fc D) (hG : GX fc D) : PartF 155 b A c (prd fc) D := by
  intro w C h hk hd hD
  have ek2 := EK.start h hk
  have hbx : ((w.alloc (rdb b)).alloc zb5).heap.size = w.heap.size + 1 + 1 := by simp
  have ek3 := ek2.alloc jo_product
  rw [hbx] at ek3
  have hg : (((w.alloc (rdb b)).alloc zb5).alloc jo_product).heap[w.heap.size + 1 + 1]? = some jo_product := ek3.box (by simp)
  have HJ := Lib.hid (joined_any 164 eg_factor fc D jTimes (by decide) b A c hF hG (w.heap.size + 1 + 1) 0 jo_product _ C (by have := h.lt; omega) hg (fun W' h' => jm_product W' _ h') ek3.cu hk hd hD)
  have p0 := cell_heap (ek2.box (z := w.heap.size) (o := rdb b) (by simp)) (i := 0)
  simp only [List.getElem?_toArray, List.getElem?_cons_zero] at p0
  have hGG := Got.prd hG C hk hd hD
  have HG := Lib.hid hGG
  have E3 := Lib.hid ek3
  clear ek2 hbx ek3 hg hGG hF hG h hk
  go_enter Tryz.func155, Tryz.ntmps155
  go_wp2_with fail
  refine HJ.out.mono ?_
  rintro e w4 ⟨T, rfl, hp, hT, hm, ho⟩
  have ek4 := E3.out.got hT hm ⟨HG.out.ok, HG.out.L⟩ ho
  have hz := ek4.box (z := w.heap.size + 1) (o := zb5) (by simp)
  have hfin := ek4.result (r := prd fc C) (T := T) (z := w.heap.size + 1) (by simp) (by simp) hz rfl hp
  clear ek4 hT hm ho HJ E3
  go_wp2_with (with_reducible refine stay_store 30 (.tmp 2) (.tmp 8) (by rfl) ?_)
  refine Stay.mk ?_
  refine wpList_store_node (by rfl) 30 (.tmp 2) (.tmp 8) (by rfl) size_tnode (w.heap.size + 1) T (by rfl) (by rfl) hz ?_
  generalize set5 w4 (w.heap.size + 1) T = w9 at hfin ⊢
  clear hz
  obtain ⟨hs, hv⟩ := hfin
  have HV := Lib.hid hv
  clear hv hp
  go_wp2
  have g0 := cell_heap hs (i := 0)
  have g1 := cell_heap hs (i := 1)
  have g2 := cell_heap hs (i := 2)
  have g3 := cell_heap hs (i := 3)
  have g4 := cell_heap hs (i := 4)
  simp only [List.getElem?_toArray, List.getElem?_cons_zero, List.getElem?_cons_succ] at g0 g1 g2 g3 g4
  refine bodyPost_ret (v := nv T) (by simp [results, Tryz.results155, go_sem, g0, g1, g2, g3, g4]) rfl HV.out

theorem eg_product : ∀ args w, (callFunc 155 args).run Tryz.prog w = .ok (.enter 155 args) w := by
  intro args w; simp [go_sem]
abbrev jo_sum : Obj := .cells #[.string ⟨#[43]⟩, .int .i64 18, .string ⟨#[45]⟩, .int .i64 19] 144 (0, 0)
theorem jm_sum (W : World) (g : Nat) (h : W.heap[g]? = some jo_sum) : JsM W g 0 jSum := fun i j hi => by
  have c := fun k => cell_heap h (i := k)
  match i, hi with
  | 0, hi => injection hi with hi; subst hi; exact ⟨c 0, c 1⟩
  | 1, hi => injection hi with hi; subst hi; exact ⟨c 2, c 3⟩
  | _ + 2, hi => cases hi

set_option maxRecDepth 100000 in
set_option maxHeartbeats 4000000 in
theorem sum_any {fc : Cu → Cu × Tr} {D b : Nat} {A : Option Addr} {c : Nat} (hF : PartF 155 b A c (prd fc) D) (hG : GX fc D) : PartF 145 b A c (sme fc) D := by
  intro w C h hk hd hD
  have ek2 := EK.start h hk
  have hbx : ((w.alloc (rdb b)).alloc zb5).heap.size = w.heap.size + 1 + 1 := by simp
  have ek3 := ek2.alloc jo_sum
  rw [hbx] at ek3
  have hg : (((w.alloc (rdb b)).alloc zb5).alloc jo_sum).heap[w.heap.size + 1 + 1]? = some jo_sum := ek3.box (by simp)
  have HJ := Lib.hid (joined_any 155 eg_product (prd fc) D jSum (by decide) b A c hF (Got.prd hG) (w.heap.size + 1 + 1) 0 jo_sum _ C (by have := h.lt; omega) hg (fun W' h' => jm_sum W' _ h') ek3.cu hk hd hD)
  have p0 := cell_heap (ek2.box (z := w.heap.size) (o := rdb b) (by simp)) (i := 0)
  simp only [List.getElem?_toArray, List.getElem?_cons_zero] at p0
  have hGG := Got.sme hG C hk hd hD
  have HG := Lib.hid hGG
  have E3 := Lib.hid ek3
  clear ek2 hbx ek3 hg hGG hF hG h hk
  go_enter Tryz.func145, Tryz.ntmps145
  go_wp2_with fail
  refine HJ.out.mono ?_
  rintro e w4 ⟨T, rfl, hp, hT, hm, ho⟩
  have ek4 := E3.out.got hT hm ⟨HG.out.ok, HG.out.L⟩ ho
  have hz := ek4.box (z := w.heap.size + 1) (o := zb5) (by simp)
  have hfin := ek4.result (r := sme fc C) (T := T) (z := w.heap.size + 1) (by simp) (by simp) hz rfl hp
  clear ek4 hT hm ho HJ E3
  go_wp2_with (with_reducible refine stay_store 30 (.tmp 2) (.tmp 9) (by rfl) ?_)
  refine Stay.mk ?_
  refine wpList_store_node (by rfl) 30 (.tmp 2) (.tmp 9) (by rfl) size_tnode (w.heap.size + 1) T (by rfl) (by rfl) hz ?_
  generalize set5 w4 (w.heap.size + 1) T = w9 at hfin ⊢
  clear hz
  obtain ⟨hs, hv⟩ := hfin
  have HV := Lib.hid hv
  clear hv hp
  go_wp2
  have g0 := cell_heap hs (i := 0)
  have g1 := cell_heap hs (i := 1)
  have g2 := cell_heap hs (i := 2)
  have g3 := cell_heap hs (i := 3)
  have g4 := cell_heap hs (i := 4)
  simp only [List.getElem?_toArray, List.getElem?_cons_zero, List.getElem?_cons_succ] at g0 g1 g2 g3 g4
  refine bodyPost_ret (v := nv T) (by simp [results, Tryz.results145, go_sem, g0, g1, g2, g3, g4]) rfl HV.out

theorem eg_sum : ∀ args w, (callFunc 145 args).run Tryz.prog w = .ok (.enter 145 args) w := by
  intro args w; simp [go_sem]
abbrev jo_comparison : Obj := .cells #[.string ⟨#[60]⟩, .int .i64 17] 144 (0, 0)
theorem jm_comparison (W : World) (g : Nat) (h : W.heap[g]? = some jo_comparison) : JsM W g 0 jLess := fun i j hi => by
  have c := fun k => cell_heap h (i := k)
  match i, hi with
  | 0, hi => injection hi with hi; subst hi; exact ⟨c 0, c 1⟩
  | _ + 1, hi => cases hi

set_option maxRecDepth 100000 in
set_option maxHeartbeats 4000000 in
theorem comparison_any {fc : Cu → Cu × Tr} {D b : Nat} {A : Option Addr} {c : Nat} (hF : PartF 145 b A c (sme fc) D) (hG : GX fc D) : PartF 137 b A c (cmp fc) D := by
  intro w C h hk hd hD
  have ek2 := EK.start h hk
  have hbx : ((w.alloc (rdb b)).alloc zb5).heap.size = w.heap.size + 1 + 1 := by simp
  have ek3 := ek2.alloc jo_comparison
  rw [hbx] at ek3
  have hg : (((w.alloc (rdb b)).alloc zb5).alloc jo_comparison).heap[w.heap.size + 1 + 1]? = some jo_comparison := ek3.box (by simp)
  have HJ := Lib.hid (joined_any 145 eg_sum (sme fc) D jLess (by decide) b A c hF (Got.sme hG) (w.heap.size + 1 + 1) 0 jo_comparison _ C (by have := h.lt; omega) hg (fun W' h' => jm_comparison W' _ h') ek3.cu hk hd hD)
  have p0 := cell_heap (ek2.box (z := w.heap.size) (o := rdb b) (by simp)) (i := 0)
  simp only [List.getElem?_toArray, List.getElem?_cons_zero] at p0
  have hGG := Got.cmp hG C hk hd hD
  have HG := Lib.hid hGG
  have E3 := Lib.hid ek3
  clear ek2 hbx ek3 hg hGG hF hG h hk
  go_enter Tryz.func137, Tryz.ntmps137
  go_wp2_with fail
  refine HJ.out.mono ?_
  rintro e w4 ⟨T, rfl, hp, hT, hm, ho⟩
  have ek4 := E3.out.got hT hm ⟨HG.out.ok, HG.out.L⟩ ho
  have hz := ek4.box (z := w.heap.size + 1) (o := zb5) (by simp)
  have hfin := ek4.result (r := cmp fc C) (T := T) (z := w.heap.size + 1) (by simp) (by simp) hz rfl hp
  clear ek4 hT hm ho HJ E3
  go_wp2_with (with_reducible refine stay_store 30 (.tmp 2) (.tmp 8) (by rfl) ?_)
  refine Stay.mk ?_
  refine wpList_store_node (by rfl) 30 (.tmp 2) (.tmp 8) (by rfl) size_tnode (w.heap.size + 1) T (by rfl) (by rfl) hz ?_
  generalize set5 w4 (w.heap.size + 1) T = w9 at hfin ⊢
  clear hz
  obtain ⟨hs, hv⟩ := hfin
  have HV := Lib.hid hv
  clear hv hp
  go_wp2
  have g0 := cell_heap hs (i := 0)
  have g1 := cell_heap hs (i := 1)
  have g2 := cell_heap hs (i := 2)
  have g3 := cell_heap hs (i := 3)
  have g4 := cell_heap hs (i := 4)
  simp only [List.getElem?_toArray, List.getElem?_cons_zero, List.getElem?_cons_succ] at g0 g1 g2 g3 g4
  refine bodyPost_ret (v := nv T) (by simp [results, Tryz.results137, go_sem, g0, g1, g2, g3, g4]) rfl HV.out

theorem eg_comparison : ∀ args w, (callFunc 137 args).run Tryz.prog w = .ok (.enter 137 args) w := by
  intro args w; simp [go_sem]
abbrev jo_expression : Obj := .cells #[.string ⟨#[38, 38]⟩, .int .i64 16] 144 (0, 0)
theorem jm_expression (W : World) (g : Nat) (h : W.heap[g]? = some jo_expression) : JsM W g 0 jAnd := fun i j hi => by
  have c := fun k => cell_heap h (i := k)
  match i, hi with
  | 0, hi => injection hi with hi; subst hi; exact ⟨c 0, c 1⟩
  | _ + 1, hi => cases hi

set_option maxRecDepth 100000 in
set_option maxHeartbeats 4000000 in
theorem expression_any {fc : Cu → Cu × Tr} {D b : Nat} {A : Option Addr} {c : Nat} (hF : PartF 137 b A c (cmp fc) D) (hG : GX fc D) : PartF 128 b A c (xpr fc) D := by
  intro w C h hk hd hD
  have ek2 := EK.start h hk
  have hbx : ((w.alloc (rdb b)).alloc zb5).heap.size = w.heap.size + 1 + 1 := by simp
  have ek3 := ek2.alloc jo_expression
  rw [hbx] at ek3
  have hg : (((w.alloc (rdb b)).alloc zb5).alloc jo_expression).heap[w.heap.size + 1 + 1]? = some jo_expression := ek3.box (by simp)
  have HJ := Lib.hid (joined_any 137 eg_comparison (cmp fc) D jAnd (by decide) b A c hF (Got.cmp hG) (w.heap.size + 1 + 1) 0 jo_expression _ C (by have := h.lt; omega) hg (fun W' h' => jm_expression W' _ h') ek3.cu hk hd hD)
  have p0 := cell_heap (ek2.box (z := w.heap.size) (o := rdb b) (by simp)) (i := 0)
  simp only [List.getElem?_toArray, List.getElem?_cons_zero] at p0
  have hGG := Got.xpr hG C hk hd hD
  have HG := Lib.hid hGG
  have E3 := Lib.hid ek3
  clear ek2 hbx ek3 hg hGG hF hG h hk
  go_enter Tryz.func128, Tryz.ntmps128
  go_wp2_with fail
  refine HJ.out.mono ?_
  rintro e w4 ⟨T, rfl, hp, hT, hm, ho⟩
  have ek4 := E3.out.got hT hm ⟨HG.out.ok, HG.out.L⟩ ho
  have hz := ek4.box (z := w.heap.size + 1) (o := zb5) (by simp)
  have hfin := ek4.result (r := xpr fc C) (T := T) (z := w.heap.size + 1) (by simp) (by simp) hz rfl hp
  clear ek4 hT hm ho HJ E3
  go_wp2_with (with_reducible refine stay_store 30 (.tmp 2) (.tmp 8) (by rfl) ?_)
  refine Stay.mk ?_
  refine wpList_store_node (by rfl) 30 (.tmp 2) (.tmp 8) (by rfl) size_tnode (w.heap.size + 1) T (by rfl) (by rfl) hz ?_
  generalize set5 w4 (w.heap.size + 1) T = w9 at hfin ⊢
  clear hz
  obtain ⟨hs, hv⟩ := hfin
  have HV := Lib.hid hv
  clear hv hp
  go_wp2
  have g0 := cell_heap hs (i := 0)
  have g1 := cell_heap hs (i := 1)
  have g2 := cell_heap hs (i := 2)
  have g3 := cell_heap hs (i := 3)
  have g4 := cell_heap hs (i := 4)
  simp only [List.getElem?_toArray, List.getElem?_cons_zero, List.getElem?_cons_succ] at g0 g1 g2 g3 g4
  refine bodyPost_ret (v := nv T) (by simp [results, Tryz.results128, go_sem, g0, g1, g2, g3, g4]) rfl HV.out

end Go.Proofs.YtfmlcddakfbleaaGreatDoor

namespace Go.Proofs.YtfmlcddakfbleaaGreatDoor
open Go.RowKit SignMath TreeMath

theorem ncells_split : ∀ (l : List Tr) (j : Nat) (u : Value), (ncells l)[j]? = some u → ∃ (i r : Nat) (x : Tr), j = i * 5 + r ∧ r < 5 ∧ l[i]? = some x ∧ (ncs x)[r]? = some u := by
  intro l
  induction l with
  | nil => intro j u h; simp [ncells] at h
  | cons q ps ih =>
    intro j u h
    have he : ncells (q :: ps) = ncs q ++ ncells ps := by simp [ncells, List.flatMap_cons]
    have hl : (ncs q).length = 5 := rfl
    rw [he] at h
    by_cases hj : j < 5
    · rw [List.getElem?_append_left (by omega)] at h
      exact ⟨0, j, q, by omega, hj, rfl, h⟩
    · rw [List.getElem?_append_right (by omega), hl] at h
      obtain ⟨i, r, x, h1, h2, h3, h4⟩ := ih _ _ h
      exact ⟨i + 1, r, x, by omega, h2, by simpa using h3, h4⟩
theorem ncells_at5 {w : World} {b off : Nat} {l : List Tr} (h : ∀ (i : Nat) (e : Tr), l[i]? = some e → At5 w b (off + i * 5) e) (j : Nat) (u : Value) (hu : (ncells l)[j]? = some u) : w.cell? ((⟨b, off, none⟩ : Addr).add j) = some u := by
  obtain ⟨i, r, x, rfl, hr, hx, hc⟩ := ncells_split l j u hu
  obtain ⟨c0, c1, c2, c3, c4⟩ := h i x hx
  have hadd : (⟨b, off, none⟩ : Addr).add (i * 5 + r) = ⟨b, off + i * 5 + r, none⟩ := by rw [Addr.add_lit, Nat.add_assoc]
  rw [hadd]
  match r, hr with
  | 0, _ => rw [Nat.add_zero, c0]; exact hc
  | 1, _ => rw [c1]; exact hc
  | 2, _ => rw [c2]; exact hc
  | 3, _ => rw [c3]; exact hc
  | 4, _ => rw [c4]; exact hc

/-- a row of nodes of the call's own, wherever its trees lie -/
abbrev RowN (V : World) (v : Value) (m : List Tr) : Prop := V.ownsRow 0 30 5 v m.length (ncells m)
theorem RowN.form {V : World} {v : Value} {m : List Tr} (h : RowN V v m) : ∃ A c, v = .slice A m.length c ∧ (A = none → c = 0) := by
  rcases h.2 with ⟨hv, hn⟩ | ⟨g, cap, cur, hv, _⟩
  · exact ⟨none, 0, by rw [hv, hn], fun _ => rfl⟩
  · exact ⟨_, _, hv, fun e => by cases e⟩
theorem RowN.lt {V : World} {v : Value} {m : List Tr} (h : RowN V v m) : ∀ k, v.ownBlock = some k → k < V.heap.size := fun k hk => (World.ownsRow.lt h k hk).2
theorem RowN.keep {V V' : World} {v : Value} {m : List Tr} (h : RowN V v m) (hk : ∀ k, v.ownBlock = some k → V'.heap[k]? = V.heap[k]?) : RowN V' v m := by
  refine ⟨h.1, ?_⟩
  rcases h.2 with h2 | ⟨g, cap, cur, hv, hb, hg, r⟩
  · exact .inl h2
  · exact .inr ⟨g, cap, cur, hv, hb, (hk g (by rw [hv]; rfl)).trans hg, r⟩
theorem RowN.below {V V' : World} {v : Value} {m : List Tr} (h : RowN V v m) (hb : Below V.heap.size V V') : RowN V' v m := h.keep fun k hk => hb.block k (h.lt k hk)
theorem RowN.of {b : Nat} {V V' : World} {v : Value} {m : List Tr} (h : RowN V v m) (ho : Of b V V') (hb : v.ownBlock ≠ some b) : RowN V' v m := h.keep fun k hk => ho.block k (h.lt k hk) (fun e => hb (by have e' : k = b := e; rw [hk, e']))
theorem RowN.tks {V : World} {A : Option Addr} {c : Nat} {m : List Tr} (h : RowN V (.slice A m.length c) m) : Tks (fun k => (Value.slice A m.length c).ownBlock = some k) V A m := fun hn => by
  rcases h.2 with ⟨hv, h0⟩ | ⟨g, cap, cur, hv, hb, hg, _⟩
  · omega
  · injection hv with hA hm hc
    subst hA
    have hc := World.ownsRow.cells h (g := g) rfl
    refine ⟨g, 0, rfl, rfl, fun i x hx => at5_of (fun j u hu => ?_) hx⟩
    have := hc j u hu
    rwa [Addr.add_lit] at this
theorem RowN.nil (V : World) : RowN V (.slice none 0 0) [] := World.ownsRow_nil _ _ _ _
/-- a literal row is a row of the call's own -/
theorem RowN.lit {W : World} {l : List Tr} (m : Nat) (hm : l.length = m) (h2 : m ≤ 20000) (o : Obj) (ho : o = .cells (ncells l).toArray 30 (0, 0)) : RowN (W.alloc o) (.slice (some ⟨W.heap.size, 0, none⟩) m m) l := by
  subst ho
  subst hm
  exact ⟨ncells_length l, .inr ⟨W.heap.size, l.length, (ncells l).toArray, rfl, Nat.zero_le _, heap_alloc_new W _, Nat.le_refl _, by unfold maxLen; omega, by simp [ncells_length], by rw [← ncells_length]; simp⟩⟩
theorem ncells_app (m l : List Tr) : ncells m ++ ncells l = ncells (m ++ l) := by simp [ncells]

set_option maxRecDepth 100000 in
/-- nodes appended, in a plain region -/
theorem wpList_append_n {ops : Array Oper} {rest : List Oper} {o : Oper} {a : Act} {Q : Exit → Act → World → Prop} (hgd : o.guard = none) (s x : Operand)
    (ho : o.op = .call { callee := .builtin .append, args := #[s, x], argTypes := #[23, 23] })
    (V : World) (v : Value) (m l : List Tr) (A2 : Option Addr) (n2 c2 : Nat) (S : Nat → Prop) (hn2 : l.length = n2)
    (hs : a.eval s = v) (hx : a.eval x = .slice A2 n2 c2) (hlies : Tks S V A2 l) (hnil : A2 = none → c2 = 0) (hrow : RowN V v m) (hn : m.length + l.length ≤ 20000)
    (h : ∀ A' c' w', RowN w' (.slice A' (m ++ l).length c') (m ++ l) → V.grownBy w' v.ownBlock → ((Value.slice A' (m ++ l).length c').ownBlock = v.ownBlock ∨ (Value.slice A' (m ++ l).length c').ownBlock = some V.heap.size) → wpList Tryz.prog ops Q rest (a.put o.dst (.slice A' (m ++ l).length c')) w') :
    wpList Tryz.prog ops Q (o :: rest) a V := by
  subst hn2
  obtain ⟨i0, hi, hz0, hz1, hz2⟩ := info_parts info_tnode
  by_cases h0 : A2 = none
  · subst h0
    have hl : l = [] := by
      cases l with
      | nil => rfl
      | cons e l => obtain ⟨b, off, hA, _⟩ := hlies (by simp); cases hA
    subst hl
    have hc := hnil rfl
    subst hc
    obtain ⟨A', c', rfl, -⟩ := hrow.form
    refine wpList_append_own_none hgd s x 23 ho 0 30 i0 5 Tryz.underlying23 hi _ _ _ hs hrow hx ?_
    have := h A' c' V (by rw [List.append_nil]; exact hrow) (World.grownBy.refl _ _) (.inl (by rw [List.append_nil]))
    rwa [List.append_nil] at this
  · obtain ⟨ad, had⟩ : ∃ ad, A2 = some ad := by
      cases A2 with
      | none => exact absurd rfl h0
      | some ad => exact ⟨ad, rfl⟩
    subst had
    refine wpList_append_own_at V hgd s x 23 ho 0 30 i0 _ 5 72 Tryz.underlying23 hi hz0 hz1 hz2 rfl (by decide) _ _ _ hs hrow ad l.length c2 (ncells l) hx (ncells_length l) (fun j u hu => ?_) (ncells_one l) (by unfold maxLen; omega) (by omega) (Nat.zero_le _) ?_
    · have hpos : 0 < l.length := by
        cases l with
        | nil => simp [ncells] at hu
        | cons _ _ => simp
      obtain ⟨b, off, hA, -, hc⟩ := hlies hpos
      injection hA with hA
      subst hA
      exact ncells_at5 hc j u hu
    · intro v' w' hown hg _ hat
      have hr : RowN w' v' (m ++ l) := by rw [ncells_app, ← List.length_append] at hown; exact hown
      obtain ⟨A', c', rfl, -⟩ := hr.form
      exact h A' c' w' hr hg hat

set_option maxRecDepth 100000 in
/-- the same, at a step of a region that draws its order -/
theorem step_append_n {ops : Array Oper} {o : Oper} {a : Act} {K : Act → World → Prop} {Q : Exit → Act → World → Prop} {F : Prop} (hgd : o.guard = none) (s x : Operand)
    (ho : o.op = .call { callee := .builtin .append, args := #[s, x], argTypes := #[23, 23] })
    (V : World) (v : Value) (m l : List Tr) (k X off c2 : Nat) (hk : l.length = k)
    (hs : a.eval s = v) (hx : a.eval x = .slice (some ⟨X, off, none⟩) k c2) (hlies : ∀ (i : Nat) (e : Tr), l[i]? = some e → At5 V X (off + i * 5) e) (hrow : RowN V v m) (hn : m.length + l.length ≤ 20000)
    (h : ∀ A' c' w', RowN w' (.slice A' (m ++ l).length c') (m ++ l) → V.grownBy w' v.ownBlock → ((Value.slice A' (m ++ l).length c').ownBlock = v.ownBlock ∨ (Value.slice A' (m ++ l).length c').ownBlock = some V.heap.size) → K (a.put o.dst (.slice A' (m ++ l).length c')) w') :
    if Region.wanted o (yielded ops a.tmps) = true then Oper.wp Tryz.prog o a V K Q else F := by
  have hw : Region.wanted o (yielded ops a.tmps) = true := by simp [Region.wanted, hgd]
  rw [if_pos hw]
  subst hk
  obtain ⟨i0, hi, hz0, hz1, hz2⟩ := info_parts info_tnode
  obtain ⟨v', w', hr, hown, hg, _, hat⟩ := run_append_own_at (P := Tryz.prog) V 0 23 o.type 30 i0 _ 5 72 Tryz.underlying23 hi hz0 hz1 hz2 rfl (by decide) _ _ _ hrow ⟨X, off, none⟩ l.length c2 (ncells l) (ncells_length l)
    (fun j u hu => ncells_at5 hlies j u hu) (ncells_one l) (by unfold maxLen; omega) (by omega) (Nat.zero_le _)
  have hr2 : RowN w' v' (m ++ l) := by rw [ncells_app, ← List.length_append] at hown; exact hown
  obtain ⟨A', c', rfl, -⟩ := hr2.form
  unfold Oper.wp execOp
  simp only [ho, resolve, invoke, builtin, Sem.run_bind, Sem.run_pure, Result.andThen_ok, List.map_toArray, List.map_cons, List.map_nil, hs, hx, hr]
  exact h A' c' w' hr2 hg hat

/-- a reading of some trees -/
def TlV (b : Nat) (A : Option Addr) (c : Nat) (r : Cu × List Tr) (w : World) (e : Ending) (W' : World) : Prop :=
  ∃ (Al : Option Addr) (cl : Nat) (m : List Tr), e = .returned (.slice Al m.length cl) ∧ m.map pl = r.2 ∧ (Al = none → cl = 0) ∧ Tks (nw w.heap.size W') W' Al m ∧ (∀ x ∈ m, Tn (nw w.heap.size W') W' x) ∧ m.length ≤ 9000 ∧ CuM b A c r.1 W' ∧ Of b w W'
/-- a function value that reads some trees from the cursor in block b -/
def WhatF (gf b : Nat) (A : Option Addr) (c : Nat) (what : Cu → Cu × List Tr) (D : Nat) : Prop := ∀ (W : World) (C : Cu), CuM b A c C W → C.Ok → C.d ≤ 200 → D ≤ C.d → Calls Tryz.prog gf #[rcv b] W (TlV b A c (what C) W)

section
variable {b : Nat} {A : Option Addr} {c : Nat} {S X : Nat → Prop} {w W W' : World} {C C' : Cu} {bs bs' : List (Nat × Obj)} {zs zs' : List Nat} {ts ts' : List Tr}
/-- behind an append to a row of the call's own -/
theorem EK.grown (h : EK b A c S X w C bs zs ts W) {own : Option Nat} (hg : W.grownBy W' own) (hown : ∀ k, own = some k → k ∈ zs ∨ X k ∧ k ≠ b) (hne : ∀ q ∈ bs, own ≠ some q.1) {zs' : List Nat} (hz' : zs' = zs ∨ zs' = W.heap.size :: zs ∧ W.heap.size < W'.heap.size) : EK b A c S X w C bs zs' ts W' := by
  have hsz := hg.size
  have hb : own ≠ some b := fun e => by
    rcases hown b e with hz | hz
    · have := (h.zn b hz).1; have := h.hX b h.bX; omega
    · exact hz.2 rfl
  have hlo : ∀ k, k < w.heap.size → ¬ X k → some k ≠ own := fun k hk hx e => by
    rcases hown k e.symm with hz | hz
    · have := (h.zn k hz).1; omega
    · exact hx hz.1
  refine ⟨?_, h.ok, ?_, h.rl, h.bX, h.hX, h.hS, fun q hq => ⟨(h.has q hq).1, (hg.block q.1 (h.lt (o := q.2) hq) (fun e => hne q hq e.symm)).trans (h.has q hq).2⟩, fun z hz => ?_, fun T hT => (h.tn T hT).keep (fun k _ hk => cell_of (hg.block k (h.inS hk.1).1 fun e => ?_)) fun k hk => ⟨hk.1.imp id fun hh => ⟨hh.1, by omega⟩, fun hz => ?_⟩⟩
  · refine ⟨(hg.block b h.cu.lt (fun e => hb e.symm)).trans h.cu.box, ?_, h.cu.ne⟩
    intro hn
    obtain ⟨g, off, rfl, hgl, hc⟩ := h.cu.row hn
    obtain ⟨h1, h2⟩ := h.rl hn _ rfl
    exact ⟨g, off, rfl, by omega, fun j u hu => (cell_of (hg.block g hgl (hlo g h1 h2))).trans (hc j u hu)⟩
  · exact ⟨hg.os.trans h.off.os, hg.tape.trans h.off.tape, hg.output.trans h.off.output, Nat.le_trans h.off.size hg.size, fun k hk hn => (hg.block k (Nat.lt_of_lt_of_le hk h.size) (hlo k hk hn)).trans (h.off.block k hk hn)⟩
  · rcases hz' with rfl | ⟨rfl, hs⟩
    · exact ⟨(h.zn z hz).1, by have := (h.zn z hz).2; omega⟩
    · rcases List.mem_cons.1 hz with rfl | hz
      · exact ⟨h.size, hs⟩
      · exact ⟨(h.zn z hz).1, by have := (h.zn z hz).2; omega⟩
  · rcases hown k e.symm with hz | hz
    · exact hk.2 hz
    · rcases hk.1 with hs | hs
      · exact (h.hS k hs).2 hz.1
      · have := h.hX k hz.1; omega
  · rcases hz' with rfl | ⟨rfl, hs⟩
    · exact hk.2 hz
    · rcases List.mem_cons.1 hz with rfl | hz
      · have := (h.inS hk.1).1; omega
      · exact hk.2 hz
theorem EK.grows (h : EK b A c S X w C bs zs ts W) {own own' : Option Nat} (hg : W.grownBy W' own) (hown : ∀ k, own = some k → k ∈ zs ∨ X k ∧ k ≠ b) (hne : ∀ q ∈ bs, own ≠ some q.1) (hat : own' = own ∨ own' = some W.heap.size) (hlt : ∀ k, own' = some k → k < W'.heap.size) :
    ∃ zs', EK b A c S X w C bs zs' ts W' ∧ (∀ z ∈ zs, z ∈ zs') ∧ (∀ k, own' = some k → k ∈ zs' ∨ X k ∧ k ≠ b) ∧ (∀ q ∈ bs, own' ≠ some q.1) := by
  by_cases hs : W.heap.size < W'.heap.size
  · refine ⟨_, h.grown hg hown hne (.inr ⟨rfl, hs⟩), fun z hz => List.mem_cons_of_mem _ hz, fun k hk => ?_, fun q hq e => ?_⟩
    · rcases hat with e | e
      · exact (hown k (e ▸ hk)).imp (fun hz => List.mem_cons_of_mem _ hz) id
      · rw [e] at hk; injection hk with hk; exact .inl (by rw [← hk]; exact List.mem_cons_self)
    · rcases hat with e' | e'
      · exact hne q hq (e' ▸ e)
      · rw [e'] at e; injection e with e; have := h.lt (z := q.1) (o := q.2) hq; omega
  · have e' : own' = own := by
      rcases hat with e | e
      · exact e
      · have := hlt _ e; omega
    subst e'
    exact ⟨zs, h.grown hg hown hne (.inl rfl), fun z hz => hz, hown, hne⟩
/-- what was gathered is answered -/
theorem EK.list (h : EK b A c no (· = b) w C bs zs ts W) {m : List Tr} {Al : Option Addr} {cl : Nat} {r : Cu × List Tr} (hrow : RowN W (.slice Al m.length cl) m) (hlo : ∀ k, (Value.slice Al m.length cl).ownBlock = some k → w.heap.size ≤ k) (hm : ∀ x ∈ m, x ∈ ts) (hl : m.length ≤ 9000) (h1 : r.1 = C) (h2 : m.map pl = r.2) :
    TlV b A c r w (.returned (.slice Al m.length cl)) W := by
  refine ⟨Al, cl, m, rfl, h2, ?_, ?_, fun x hx => (h.tn x (hm x hx)).keep (fun _ _ _ => rfl) fun _ hk => hk.1.resolve_left fun h => h, hl, by rw [h1]; exact h.cu, h.off⟩
  · obtain ⟨A', c', e, hn⟩ := hrow.form
    injection e with e1 e2 e3
    subst e1 e3
    exact hn
  · exact hrow.tks.keep (fun _ _ _ => rfl) fun k hk => ⟨hlo k hk, hrow.lt k hk⟩
end
end Go.Proofs.YtfmlcddakfbleaaGreatDoor
