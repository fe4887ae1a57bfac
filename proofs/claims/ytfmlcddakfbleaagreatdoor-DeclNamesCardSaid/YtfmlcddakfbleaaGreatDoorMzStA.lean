/- The parser of statements, plainly. -/
import Derived.Test.YtfmlcddakfbleaaGreatDoorMzExC
import Derived.Lib.AppendZeros
import Derived.Orders
import Derived.Great.BuildSlice
namespace Go.Proofs.YtfmlcddakfbleaaGreatDoor
open Go.RowKit SignMath TreeMath

def sBool : ByteArray := ⟨#[98, 111, 111, 108, 101, 97, 110]⟩
def sSemi : ByteArray := ⟨#[59]⟩
def sBrO : ByteArray := ⟨#[123]⟩
def sBrC : ByteArray := ⟨#[125]⟩
def sIf : ByteArray := ⟨#[105, 102]⟩
def sWhile : ByteArray := ⟨#[119, 104, 105, 108, 101]⟩
def sPrint : ByteArray := ⟨#[83, 121, 115, 116, 101, 109, 46, 111, 117, 116, 46, 112, 114, 105, 110, 116, 108, 110]⟩
def sElse : ByteArray := ⟨#[101, 108, 115, 101]⟩
def sEq : ByteArray := ⟨#[61]⟩

abbrev Part := Cu → Cu × List Tr
/-- tokens of these texts -/
def tkq : List ByteArray → Part
  | [], C => (C, [])
  | s :: l, C => ((tkq l (wnt s C).1).1, (wnt s C).2 :: (tkq l (wnt s C).1).2)
def nam : Part := fun C => ((anyk 4 C).1, [(anyk 4 C).2])
def on1 (f : Cu → Cu × Tr) : Part := fun C => ((f C).1, [(f C).2])
def exq : Part := on1 prs
/-- parts, one behind the other -/
def sq : List Part → Part
  | [], C => (C, [])
  | f :: fs, C => ((sq fs (f C).1).1, (f C).2 ++ (sq fs (f C).1).2)
def ndq (k : Int) (fs : List Part) (C : Cu) : Cu × Tr := ((sq fs C).1, nod k (sq fs C).2)
/-- does one of these texts come next? is a token ahead a name? -/
def cms (l : List ByteArray) (C : Cu) : Bool := l.any fun s => C.isb 0 s
def nmd (i : Int) (C : Cu) : Bool := decide ((C.pk i).1 = 4)

def typ (C : Cu) : Cu × Tr :=
  if (C.isb 0 sInt && C.isb 1 sSq) = true then ndq 9 [tkq [sInt, sSq, sSq2]] C
  else if C.isb 0 sInt = true then ndq 9 [tkq [sInt]] C
  else if C.isb 0 sBool = true then ndq 9 [tkq [sBool]] C
  else ndq 9 [nam] C
def vrb : Cu → Cu × Tr := ndq 8 [on1 typ, nam, tkq [sSemi]]
def vbg (C : Cu) : Bool := cms [sInt, sBool] C || (nmd 0 C && nmd 1 C)
/-- as many as begin -/
def lst (bg : Cu → Bool) (f : Cu → Cu × Tr) : Nat → Cu × List Tr → Cu × List Tr
  | 0, x => x
  | q + 1, x => if bg x.1 = true then lst bg f q ((f x.1).1, x.2 ++ [(f x.1).2]) else x
def vbs : Part := fun C => lst vbg vrb C.left (C, [])
def sbg (C : Cu) : Bool := cms [sBrO, sIf, sWhile, sPrint] C || nmd 0 C
def sts (st : Cu → Cu × Tr) : Part := fun C => lst sbg st C.left (C, [])
def bdy (st : Cu → Cu × Tr) (C : Cu) : Cu × Tr :=
  if C.isb 0 sBrO = true then ndq 10 [tkq [sBrO], sts st, tkq [sBrC]] C
  else if C.isb 0 sIf = true then ndq 11 [tkq [sIf, sRo], exq, tkq [sRo2], on1 st, tkq [sElse], on1 st] C
  else if C.isb 0 sWhile = true then ndq 12 [tkq [sWhile, sRo], exq, tkq [sRo2], on1 st] C
  else if C.isb 0 sPrint = true then ndq 13 [tkq [sPrint, sRo], exq, tkq [sRo2, sSemi]] C
  else if C.isb 1 sSq = true then ndq 15 [nam, tkq [sSq], exq, tkq [sSq2, sEq], exq, tkq [sSemi]] C
  else ndq 14 [nam, tkq [sEq], exq, tkq [sSemi]] C
def stt (st : Cu → Cu × Tr) (C : Cu) : Cu × Tr := if C.down.2 = true then ((bdy st C.down.1).1.up, (bdy st C.down.1).2) else (C.down.1, zn1)
/-- a statement, so many constructs left -/
def stN : Nat → Cu → Cu × Tr
  | 0 => fun C => (C, zn1)
  | k + 1 => stt (stN k)
def stX : Cu → Cu × Tr := stN 201

/-- a part that reads with room for q nodes more -/
def GP (f : Part) (D q : Nat) : Prop := ∀ C : Cu, C.Ok → C.d ≤ 200 → D ≤ C.d → Got C (f C).1 (f C).2 q
theorem Got.tkq : ∀ (l : List ByteArray) (D : Nat), GP (tkq l) D l.length
  | [], _ => fun _ hk _ _ => Got.refl hk
  | s :: l, D => fun C hk h2 h1 => by
    have g := Got.wnt hk s
    have g2 := g.trans (Got.tkq l D _ g.ok (by rw [g.d]; exact h2) (by rw [g.d]; exact h1))
    exact g2.less (by simp; omega)
theorem Got.nam (D : Nat) : GP nam D 1 := fun _ hk _ _ => Got.any hk 4
theorem Got.prs : GX prs 0 := fun C hk h2 h1 => by
  have g := Got.exX C hk h2 h1
  unfold Go.Proofs.YtfmlcddakfbleaaGreatDoor.prs
  by_cases hf : (Go.Proofs.YtfmlcddakfbleaaGreatDoor.exX C).1.f = 0
  · rw [if_pos hf]; exact g
  · rw [if_neg hf]; exact g.junk hf _ _
theorem Got.on1 {f : Cu → Cu × Tr} {D : Nat} (h : GX f D) : GP (on1 f) D 0 := h
theorem Got.exq (D : Nat) : GP exq D 0 := fun C hk h2 _ => Got.prs C hk h2 (Nat.zero_le _)
theorem GP.zero {f : Part} {D q : Nat} (h : GP f D q) : GP f D 0 := fun C hk h2 h1 => (h C hk h2 h1).less (Nat.zero_le _)
theorem GP.more {f : Part} {D E q : Nat} (h : GP f D q) (hD : D ≤ E) : GP f E q := fun C hk h2 h1 => h C hk h2 (Nat.le_trans hD h1)
theorem Got.sqn (D : Nat) : GP (sq []) D 0 := fun _ hk _ _ => Got.refl hk
theorem Got.sqc {f : Part} {fs : List Part} {D p q : Nat} (h : GP f D p) (hs : GP (sq fs) D q) : GP (sq (f :: fs)) D (p + q) := fun C hk h2 h1 => by
  have g := h C hk h2 h1
  exact g.trans (hs _ g.ok (by rw [g.d]; exact h2) (by rw [g.d]; exact h1))
theorem Got.ndq {k : Int} {fs : List Part} {D r : Nat} (hk : 1 < k ∧ k ≤ 32) (h : GP (sq fs) D r) (hr : 0 < r) : GX (ndq k fs) D := fun C ho h2 h1 => Got.nod (q := 0) ((h C ho h2 h1).less hr) hk
/-- what takes a token leaves fewer -/
theorem sq_left {f : Part} {fs : List Part} {D q : Nat} {C : Cu} (hs : GP (sq fs) D q) (hf : GP f D 0) (hk : C.Ok) (h2 : C.d ≤ 200) (h1 : D ≤ C.d) (hl : (f C).1.left < C.left) : (sq (f :: fs) C).1.left < C.left := by
  have g := hf C hk h2 h1
  have := (hs _ g.ok (by rw [g.d]; exact h2) (by rw [g.d]; exact h1)).left
  show (sq fs (f C).1).1.left < C.left
  omega
theorem tks_left {s : ByteArray} {l : List ByteArray} {C : Cu} (hk : C.Ok) (h2 : C.d ≤ 200) (h : C.isb 0 s = true) : (tkq (s :: l) C).1.left < C.left := by
  obtain ⟨h0, h1, -⟩ := Cu.isb_left h
  have g := Got.wnt hk s
  have := (Got.tkq l 0 _ g.ok (by rw [g.d]; exact h2) (Nat.zero_le _)).left
  show (tkq l (wnt s C).1).1.left < C.left
  omega
theorem nam_left {C : Cu} (h : nmd 0 C = true) : (nam C).1.left < C.left := by
  unfold nmd at h
  rw [decide_eq_true_eq] at h
  cases hx : C.nxt 0 with
  | none =>
    unfold Cu.pk at h
    rw [if_neg (by omega)] at h
    simp [hx] at h
  | some t =>
    have hl := Cu.nxt_left hx
    obtain ⟨hf, -⟩ := Cu.nxt_some hx
    unfold Cu.pk at h
    rw [if_neg (by omega)] at h
    simp only [Int.toNat_zero, hx] at h
    have ha : C.anyb 4 = true := by unfold Cu.anyb; rw [hx]; exact decide_eq_true h
    have e : anyk 4 C = ({ C with n := C.n + 1 }, C.leaf t) := by unfold anyk; rw [ha, Cu.take_true hx]
    show (anyk 4 C).1.left < C.left
    rw [e]
    unfold Cu.left at hl ⊢
    rw [if_pos hf] at hl ⊢
    show C.L.length - (C.n + 1) < if C.f = 0 then C.L.length - C.n else 0
    rw [if_pos hf]
    omega
theorem Got.typ (D : Nat) : GX typ D := fun C hk h2 h1 => by
  unfold Go.Proofs.YtfmlcddakfbleaaGreatDoor.typ
  split
  · exact Got.ndq ⟨by omega, by omega⟩ (Got.sqc (Got.tkq _ D) (Got.sqn D)) (by simp) C hk h2 h1
  · split
    · exact Got.ndq ⟨by omega, by omega⟩ (Got.sqc (Got.tkq _ D) (Got.sqn D)) (by simp) C hk h2 h1
    · split
      · exact Got.ndq ⟨by omega, by omega⟩ (Got.sqc (Got.tkq _ D) (Got.sqn D)) (by simp) C hk h2 h1
      · exact Got.ndq ⟨by omega, by omega⟩ (Got.sqc (Got.nam D) (Got.sqn D)) (by simp) C hk h2 h1
theorem Got.vrb (D : Nat) : GX vrb D := Got.ndq ⟨by omega, by omega⟩ (Got.sqc (Got.on1 (Got.typ D)) (Got.sqc (Got.nam D) (Got.sqc (Got.tkq _ D) (Got.sqn D)))) (by simp)
theorem typ_left {C : Cu} (hk : C.Ok) (h2 : C.d ≤ 200) (h : vbg C = true) : (typ C).1.left < C.left := by
  unfold typ
  split
  · rename_i hb
    rw [Bool.and_eq_true] at hb
    exact sq_left (Got.sqn 0) (Got.tkq _ 0).zero hk h2 (Nat.zero_le _) (tks_left hk h2 hb.1)
  · split
    · exact sq_left (Got.sqn 0) (Got.tkq _ 0).zero hk h2 (Nat.zero_le _) (tks_left hk h2 (by assumption))
    · split
      · exact sq_left (Got.sqn 0) (Got.tkq _ 0).zero hk h2 (Nat.zero_le _) (tks_left hk h2 (by assumption))
      · rename_i h3 h4 h5
        unfold vbg cms at h
        simp only [List.any_cons, List.any_nil, Bool.or_false] at h
        rw [Bool.or_eq_true, Bool.or_eq_true, Bool.and_eq_true] at h
        rcases h with (h | h) | h
        · exact absurd h h4
        · exact absurd h h5
        · exact sq_left (Got.sqn 0) (Got.nam 0).zero hk h2 (Nat.zero_le _) (nam_left h.1)
theorem vrb_left {C : Cu} (hk : C.Ok) (h2 : C.d ≤ 200) (h : vbg C = true) : (vrb C).1.left < C.left :=
  sq_left (Got.sqc (Got.nam 0) (Got.sqc (Got.tkq _ 0) (Got.sqn 0))) (Got.on1 (Got.typ 0)) hk h2 (Nat.zero_le _) (typ_left hk h2 h)
theorem Got.lst {bg : Cu → Bool} {f : Cu → Cu × Tr} {D : Nat} (hf : GX f D) : ∀ (q : Nat) (C : Cu) (x : Cu × List Tr), C.d ≤ 200 → D ≤ C.d → Got C x.1 x.2 0 → Got C (lst bg f q x).1 (lst bg f q x).2 0
  | 0, _, _, _, _, h => h
  | q + 1, C, x, h2, h1, h => by
    unfold Go.Proofs.YtfmlcddakfbleaaGreatDoor.lst
    split
    · have g := h.trans (hf _ h.ok (by rw [h.d]; exact h2) (by rw [h.d]; exact h1))
      exact Got.lst hf q C _ h2 h1 g
    · exact h
theorem Got.vbs (D : Nat) : GP vbs D 0 := fun C hk h2 h1 => Got.lst (Got.vrb D) _ C _ h2 h1 (Got.refl hk)
theorem Got.sts {st : Cu → Cu × Tr} {D : Nat} (hs : GX st D) : GP (sts st) D 0 := fun C hk h2 h1 => Got.lst hs _ C _ h2 h1 (Got.refl hk)
section
variable {st : Cu → Cu × Tr} {D : Nat}
theorem sbg_cases {C : Cu} (h : sbg C = true) : C.isb 0 sBrO = true ∨ C.isb 0 sIf = true ∨ C.isb 0 sWhile = true ∨ C.isb 0 sPrint = true ∨ nmd 0 C = true := by
  unfold sbg at h
  rcases Bool.or_eq_true _ _ |>.mp h with h | h
  · unfold cms at h
    obtain ⟨x, hx, hb⟩ := List.any_eq_true.1 h
    simp only [List.mem_cons, List.not_mem_nil, or_false] at hx
    rcases hx with rfl | rfl | rfl | rfl
    · exact .inl hb
    · exact .inr (.inl hb)
    · exact .inr (.inr (.inl hb))
    · exact .inr (.inr (.inr (.inl hb)))
  · exact .inr (.inr (.inr (.inr h)))
theorem Got.bdy (hs : GX st D) : GX (bdy st) D := fun C hk h2 h1 => by
  unfold Go.Proofs.YtfmlcddakfbleaaGreatDoor.bdy
  split
  · exact Got.ndq ⟨by omega, by omega⟩ (Got.sqc (Got.tkq _ D) (Got.sqc (Got.sts hs) (Got.sqc (Got.tkq _ D) (Got.sqn D)))) (by simp) C hk h2 h1
  · split
    · exact Got.ndq ⟨by omega, by omega⟩ (Got.sqc (Got.tkq _ D) (Got.sqc (Got.exq D) (Got.sqc (Got.tkq _ D) (Got.sqc (Got.on1 hs) (Got.sqc (Got.tkq _ D) (Got.sqc (Got.on1 hs) (Got.sqn D))))))) (by simp) C hk h2 h1
    · split
      · exact Got.ndq ⟨by omega, by omega⟩ (Got.sqc (Got.tkq _ D) (Got.sqc (Got.exq D) (Got.sqc (Got.tkq _ D) (Got.sqc (Got.on1 hs) (Got.sqn D))))) (by simp) C hk h2 h1
      · split
        · exact Got.ndq ⟨by omega, by omega⟩ (Got.sqc (Got.tkq _ D) (Got.sqc (Got.exq D) (Got.sqc (Got.tkq _ D) (Got.sqn D)))) (by simp) C hk h2 h1
        · split
          · exact Got.ndq ⟨by omega, by omega⟩ (Got.sqc (Got.nam D) (Got.sqc (Got.tkq _ D) (Got.sqc (Got.exq D) (Got.sqc (Got.tkq _ D) (Got.sqc (Got.exq D) (Got.sqc (Got.tkq _ D) (Got.sqn D))))))) (by simp) C hk h2 h1
          · exact Got.ndq ⟨by omega, by omega⟩ (Got.sqc (Got.nam D) (Got.sqc (Got.tkq _ D) (Got.sqc (Got.exq D) (Got.sqc (Got.tkq _ D) (Got.sqn D))))) (by simp) C hk h2 h1
theorem Got.stt (hs : GX st (D + 1)) : GX (stt st) D := fun C hk h2 h1 => by
  unfold Go.Proofs.YtfmlcddakfbleaaGreatDoor.stt
  split
  · rename_i hdn
    obtain ⟨e1, e2, e3⟩ := Cu.down_true hdn
    have hdd : C.down.1.d = C.d + 1 := by rw [e3]
    exact Got.up hdn (Got.bdy hs _ hk.down (by rw [hdd]; omega) (by rw [hdd]; omega))
  · rename_i hdn
    exact Got.down hk (by simpa using hdn) _ _
set_option maxHeartbeats 2000000 in
theorem bdy_left (hs : GX st D) {C : Cu} (hk : C.Ok) (h2 : C.d ≤ 200) (h1 : D ≤ C.d) (h : sbg C = true) : (bdy st C).1.left < C.left := by
  unfold bdy
  split
  · exact sq_left (Got.sqc (Got.sts hs) (Got.sqc (Got.tkq _ D) (Got.sqn D))) (Got.tkq _ D).zero hk h2 h1 (tks_left hk h2 (by assumption))
  · split
    · exact sq_left (Got.sqc (Got.exq D) (Got.sqc (Got.tkq _ D) (Got.sqc (Got.on1 hs) (Got.sqc (Got.tkq _ D) (Got.sqc (Got.on1 hs) (Got.sqn D)))))) (Got.tkq _ D).zero hk h2 h1 (tks_left hk h2 (by assumption))
    · split
      · exact sq_left (Got.sqc (Got.exq D) (Got.sqc (Got.tkq _ D) (Got.sqc (Got.on1 hs) (Got.sqn D)))) (Got.tkq _ D).zero hk h2 h1 (tks_left hk h2 (by assumption))
      · split
        · exact sq_left (Got.sqc (Got.exq D) (Got.sqc (Got.tkq _ D) (Got.sqn D))) (Got.tkq _ D).zero hk h2 h1 (tks_left hk h2 (by assumption))
        · rename_i b1 b2 b3 b4
          have hn : nmd 0 C = true := by
            rcases sbg_cases h with h | h | h | h | h
            · exact absurd h b1
            · exact absurd h b2
            · exact absurd h b3
            · exact absurd h b4
            · exact h
          split
          · exact sq_left (Got.sqc (Got.tkq _ D) (Got.sqc (Got.exq D) (Got.sqc (Got.tkq _ D) (Got.sqc (Got.exq D) (Got.sqc (Got.tkq _ D) (Got.sqn D)))))) (Got.nam D).zero hk h2 h1 (nam_left hn)
          · exact sq_left (Got.sqc (Got.tkq _ D) (Got.sqc (Got.exq D) (Got.sqc (Got.tkq _ D) (Got.sqn D)))) (Got.nam D).zero hk h2 h1 (nam_left hn)
theorem stt_left (hs : GX st (D + 1)) {C : Cu} (hk : C.Ok) (h2 : C.d ≤ 200) (h1 : D ≤ C.d) (h : sbg C = true) (h0 : 0 < C.left) : (stt st C).1.left < C.left := by
  unfold stt
  split
  · rename_i hdn
    obtain ⟨e1, e2, e3⟩ := Cu.down_true hdn
    have hdd : C.down.1.d = C.d + 1 := by rw [e3]
    have hb : sbg C.down.1 = true := by rw [e3]; exact h
    have := bdy_left hs hk.down (by rw [hdd]; omega) (by rw [hdd]; omega) hb
    have hl : C.down.1.left = C.left := by rw [e3]; rfl
    show (bdy st C.down.1).1.up.left < C.left
    have : (bdy st C.down.1).1.up.left = (bdy st C.down.1).1.left := rfl
    omega
  · rename_i hdn
    have := Cu.down_f (C := C) (by simpa using hdn)
    show C.down.1.left < C.left
    have e : C.down.1.left = 0 := by unfold Cu.left; rw [if_neg this]
    omega
end
theorem Got.stN : ∀ k, k ≤ 201 → GX (stN k) (201 - k)
  | 0, _ => fun C _ h2 h1 => absurd h1 (by omega)
  | k + 1, h => by
    have ih := Got.stN k (by omega)
    rw [show 201 - k = (201 - (k + 1)) + 1 from by omega] at ih
    exact Got.stt ih
theorem Got.stX : GX stX 0 := Got.stN 201 (Nat.le_refl _)
/-- where one begins, a token is left -/
theorem pk_left {C : Cu} (_hk : C.Ok) (h : (C.pk 0).1 ≠ 0) : 0 < C.left := by
  cases hx : C.nxt 0 with
  | some t => exact Cu.nxt_left hx
  | none =>
    unfold Cu.pk at h
    rw [if_neg (by omega)] at h
    simp [hx] at h
theorem isb_pk {C : Cu} {s : ByteArray} (h : C.isb 0 s = true) : (C.pk 0).1 ≠ 0 := by
  unfold Cu.isb at h
  simp only [Bool.and_eq_true, Bool.or_eq_true, decide_eq_true_eq] at h
  omega
theorem sbg_left {C : Cu} (hk : C.Ok) (h : sbg C = true) : 0 < C.left := by
  refine pk_left hk ?_
  rcases sbg_cases h with h | h | h | h | h
  · exact isb_pk h
  · exact isb_pk h
  · exact isb_pk h
  · exact isb_pk h
  · unfold nmd at h; rw [decide_eq_true_eq] at h; omega
end Go.Proofs.YtfmlcddakfbleaaGreatDoor

namespace Go.Proofs.YtfmlcddakfbleaaGreatDoor
open Go.RowKit SignMath TreeMath

abbrev sdb (b : Nat) : Obj := .cells #[.pointer (some ⟨b, 0, none⟩)] 86 (0, 0)
/-- a list, as the kids of a node -/
abbrev bnd (A : Option Addr) (c : Nat) (m : List Tr) : Tr := ⟨0, ⟨#[]⟩, ⟨#[]⟩, 0, A, c, m⟩
theorem rng0 : rng 0 := ⟨by show (-9223372036854775808 : Int) ≤ 0; omega, by show (0 : Int) ≤ 9223372036854775807; omega⟩
section
variable {b : Nat} {A : Option Addr} {c : Nat} {S X : Nat → Prop} {w W W' : World} {C C' : Cu} {bs : List (Nat × Obj)} {zs : List Nat} {ts : List Tr}
theorem EK.starts (h : CuM b A c C w) (hk : C.Ok) : EK b A c no (· = b) w C [(w.heap.size + 1, zb5), (w.heap.size, sdb b)] [w.heap.size + 1, w.heap.size] [] ((w.alloc (sdb b)).alloc zb5) := by
  have := ((EK.begin h hk).alloc (sdb b)).alloc zb5
  rwa [World.size_alloc] at this
/-- a call that read some trees -/
theorem EK.gotl (h : EK b A c S X w C bs zs ts W) {Al : Option Addr} {cl : Nat} {m : List Tr} (ht : Tks (nw W.heap.size W') W' Al m) (hT : ∀ x ∈ m, Tn (nw W.heap.size W') W' x) (hm : CuM b A c C' W') (hk : C'.Ok ∧ C'.L = C.L) (ho : Of b W W') : EK b A c S X w C' bs zs (bnd Al cl m :: ts) W' :=
  h.got (tn_iff.2 ⟨rng0, ht, hT⟩) hm hk ho
theorem EK.bkid (h : EK b A c S X w C bs zs ts W) {Al : Option Addr} {cl : Nat} {m : List Tr} (hb : bnd Al cl m ∈ ts) : EK b A c S X w C bs zs (m ++ ts) W :=
  ⟨h.cu, h.ok, h.off, h.rl, h.bX, h.hX, h.hS, h.has, h.zn, fun T hT => by
    rcases List.mem_append.1 hT with hT | hT
    · exact (h.tn _ hb).kid hT
    · exact h.tn T hT⟩
theorem EK.oned (h : EK b A c S X w C bs zs ts W) {T : Tr} (hT : T ∈ ts) : EK b A c S X w C bs zs (bnd (some ⟨W.heap.size + 1, 0, none⟩) 1 [T] :: ts) ((W.alloc (.cells (ncc T) 30 (0, 0))).alloc (.cells (ncc T) 30 (0, 0))) := by
  have h1 := h.below (below1 W (.cells (ncc T) 30 (0, 0)))
  have h2 := h1.rowOf 0 1 (l := [T]) rfl (by simpa using hT) (.cells (ncc T) 30 (0, 0)) 30 rfl
  rwa [World.size_alloc] at h2
end

set_option maxRecDepth 100000 in
set_option maxHeartbeats 1000000 in
theorem one_any (T : Tr) (w : World) : Calls Tryz.prog 97 #[nv T] w fun e w' => e = .returned (.slice (some ⟨w.heap.size + 1, 0, none⟩) 1 1) ∧ w' = (w.alloc (.cells (ncc T) 30 (0, 0))).alloc (.cells (ncc T) 30 (0, 0)) := by
  go_enter Tryz.func97, Tryz.ntmps97
  go_wp2
  refine bodyPost_ret (v := .slice (some ⟨w.heap.size + 1, 0, none⟩) 1 1) (by simp [results, Tryz.results97, go_sem]) rfl ⟨rfl, rfl⟩

section
variable {b : Nat} {A : Option Addr} {c : Nat}
/-- a list of one tree is answered -/
theorem EK.listb {w W : World} {C : Cu} {bs : List (Nat × Obj)} {zs : List Nat} {ts : List Tr} (h : EK b A c no (· = b) w C bs zs ts W) {m : List Tr} {Al : Option Addr} {cl : Nat} {r : Cu × List Tr} (hb : bnd Al cl m ∈ ts) (hn : Al = none → cl = 0) (hl : m.length ≤ 9000) (h1 : r.1 = C) (h2 : m.map pl = r.2) : TlV b A c r w (.returned (.slice Al m.length cl)) W := by
  obtain ⟨-, ht, hk⟩ := tn_iff.1 (h.tn _ hb)
  exact ⟨Al, cl, m, rfl, h2, hn, ht.keep (fun _ _ _ => rfl) (fun _ hh => hh.1.resolve_left fun h => h), fun x hx => (hk x hx).keep (fun _ _ _ => rfl) fun _ hh => hh.1.resolve_left fun h => h, hl, by rw [h1]; exact h.cu, h.off⟩
set_option maxRecDepth 100000 in
set_option maxHeartbeats 4000000 in
theorem sname_any : WhatF 99 b A c nam 0 := by
  intro w C h hk hd _
  have ek1 := (EK.begin h hk).alloc (sdb b)
  have HC := Lib.hid (anyk_any 4 ek1.cu ek1.ok)
  have hG := Got.any hk 4
  have p0 := cell_heap (ek1.box (z := w.heap.size) (o := sdb b) (by simp)) (i := 0)
  simp only [List.getElem?_toArray, List.getElem?_cons_zero] at p0
  have E1 := Lib.hid ek1
  have HG := Lib.hid hG
  clear ek1 hG h hk hd
  go_enter Tryz.func99, Tryz.ntmps99
  go_wp2_with fail
  refine HC.out.mono ?_
  rintro e w2 ⟨T, rfl, hp, hT, hm, ho⟩
  have ek2 := E1.out.got hT hm ⟨HG.out.ok, HG.out.L⟩ ho
  have E2 := Lib.hid ek2
  clear ek2 hT hm ho HC E1 p0
  go_wp2_with fail
  refine (one_any T w2).mono ?_
  rintro e w3 ⟨rfl, rfl⟩
  have HV := Lib.hid ((E2.out.oned (T := T) (by simp)).listb (r := nam C) (Al := some ⟨w2.heap.size + 1, 0, none⟩) (cl := 1) (m := [T]) (by simp) (by simp) (by simp) rfl (by show [pl T] = _; rw [hp]; rfl))
  clear E2 hp
  go_wp2
  refine bodyPost_ret (v := .slice (some ⟨w2.heap.size + 1, 0, none⟩) 1 1) (by simp [results, Tryz.results99, go_sem]) rfl HV.out

set_option maxRecDepth 100000 in
set_option maxHeartbeats 4000000 in
theorem sexpression_any : WhatF 103 b A c exq 0 := by
  intro w C h hk hd _
  have ek1 := (EK.begin h hk).alloc (sdb b)
  have HC := Lib.hid (parse_any ek1.cu ek1.ok hd)
  have hG := Got.prs C hk hd (Nat.zero_le _)
  have p0 := cell_heap (ek1.box (z := w.heap.size) (o := sdb b) (by simp)) (i := 0)
  simp only [List.getElem?_toArray, List.getElem?_cons_zero] at p0
  have E1 := Lib.hid ek1
  have HG := Lib.hid hG
  clear ek1 hG h hk hd
  go_enter Tryz.func103, Tryz.ntmps103
  go_wp2_with fail
  refine HC.out.mono ?_
  rintro e w2 ⟨T, rfl, hp, hT, hm, ho⟩
  have ek2 := E1.out.got hT hm ⟨HG.out.ok, HG.out.L⟩ ho
  have E2 := Lib.hid ek2
  clear ek2 hT hm ho HC E1 p0
  go_wp2_with fail
  refine (one_any T w2).mono ?_
  rintro e w3 ⟨rfl, rfl⟩
  have HV := Lib.hid ((E2.out.oned (T := T) (by simp)).listb (r := exq C) (Al := some ⟨w2.heap.size + 1, 0, none⟩) (cl := 1) (m := [T]) (by simp) (by simp) (by simp) rfl (by show [pl T] = _; rw [hp]; rfl))
  clear E2 hp
  go_wp2
  refine bodyPost_ret (v := .slice (some ⟨w2.heap.size + 1, 0, none⟩) 1 1) (by simp [results, Tryz.results103, go_sem]) rfl HV.out

set_option maxRecDepth 100000 in
set_option maxHeartbeats 4000000 in
theorem named_any {w : World} {C : Cu} (i : Int) (hi : rng i) (h : CuM b A c C w) (hk : C.Ok) : Calls Tryz.prog 71 #[rcv b, .int .i64 i] w (Rd w (.bool (nmd i C))) := by
  have hb0 := below1 w (sdb b)
  have HP := Lib.hid (peek_any i hi (h.below hb0) hk)
  have p0 := cell_heap (heap_alloc_new w (sdb b)) (i := 0)
  simp only [List.getElem?_toArray, List.getElem?_cons_zero] at p0
  have HB := Lib.hid hb0
  unfold nmd
  unfold Rd at HP ⊢
  generalize C.pk i = q at HP ⊢
  obtain ⟨k, t⟩ := q
  simp only at HP ⊢
  have hk4 : (k == 4) = decide (k = 4) := by rw [Bool.eq_iff_iff]; simp
  generalize decide (k = 4) = r at hk4 ⊢
  clear h hk hi hb0
  go_enter Tryz.func71, Tryz.ntmps71
  go_wp2_with fail
  refine HP.out.mono ?_
  rintro e w1 ⟨rfl, hb⟩
  have HB1 := Lib.hid (HB.out.trans (hb.mono (by simp)))
  clear hb
  go_wp2
  go_ret
  exact ⟨rfl, HB1.out⟩

/-- texts lie in block g -/
def SsM (W : World) (g off : Nat) (l : List ByteArray) : Prop := ∀ (i : Nat) (s : ByteArray), l[i]? = some s → W.cell? ⟨g, off + i, none⟩ = some (.string s)
theorem ss_row (W : World) (g : Nat) (l : List ByteArray) (t : TypeId) (o : Obj) (ho : o = .cells (l.map Value.string).toArray t (0, 0)) (h : W.heap[g]? = some o) : SsM W g 0 l := fun i s hi => by
  subst ho
  rw [cell_heap h, List.getElem?_toArray, Nat.zero_add, List.getElem?_map, hi]
  rfl
/-- ahead of each round of tokens -/
structure TkI (b : Nat) (A : Option Addr) (c g : Nat) (o : Obj) (w : World) (l : List ByteArray) (C : Cu) (res : Cu × List Tr) (k : Nat) (C' : Cu) (m : List Tr) (Al : Option Addr) (cl : Nat) (zs : List Nat) (W : World) : Prop where
  ek : EK b A c no (· = b) w C' [(w.heap.size, sdb b), (g, o)] zs m W
  row : RowN W (.slice Al k cl) m
  own : ∀ q, (Value.slice Al k cl).ownBlock = some q → q ∈ zs
  ne : ∀ q ∈ [(w.heap.size, sdb b), (g, o)], (Value.slice Al k cl).ownBlock ≠ some q.1
  hn : m.length = k
  r1 : (tkq (l.drop k) C').1 = res.1
  r2 : m.map pl ++ (tkq (l.drop k) C').2 = res.2
set_option maxRecDepth 100000 in
set_option maxHeartbeats 8000000 in
theorem tokens_any (l : List ByteArray) (n : Nat) (hl : l.length = n) (hn4 : n ≤ 9) (g off : Nat) (o : Obj) (w : World) (C : Cu) (hgb : g ≠ b) (hgo : w.heap[g]? = some o) (hsm : ∀ W' : World, W'.heap[g]? = some o → SsM W' g off l) (h : CuM b A c C w) (hk : C.Ok) :
    Calls Tryz.prog 100 #[rcv b, .slice (some ⟨g, off, none⟩) n n] w (TlV b A c (tkq l C) w) := by
  have ek1 := ((EK.begin h hk).has_ hgb hgo).alloc (sdb b)
  have hgw : g < w.heap.size := (Array.getElem?_eq_some_iff.1 hgo).1
  generalize hres : tkq l C = res
  have HI0 : Hid (TkI b A c g o w l C res 0 C [] none 0 [w.heap.size] (w.alloc (sdb b))) := Lib.hid ⟨ek1.sub (by simp) (by simp), RowN.nil _, fun q hq => (by cases hq), fun q _ e => (by cases e), rfl, by rw [List.drop_zero, hres], by rw [List.drop_zero, hres]; rfl⟩
  have HSM := Lib.hid hsm
  have HLN := Lib.hid hl
  clear ek1 h hk hgo hsm hres hl
  go_enter Tryz.func100, Tryz.ntmps100
  go_wp2
  go_loopw [5, 10] (fun v i wr => ∃ (k : Nat) (C' : Cu) (m : List Tr) (Al : Option Addr) (cl : Nat) (zs : List Nat), i = .int .i64 k ∧ k ≤ n ∧ v = .slice Al k cl ∧ Hid (TkI b A c g o w l C res k C' m Al cl zs wr)) (fun _ i _ => n - (intOf i).toNat)
  case atStart => exact ⟨0, C, [], none, 0, _, rfl, Nat.zero_le _, rfl, HI0⟩
  case round =>
    obtain ⟨k, C', m, Al, cl, zs, rfl, hkn, rfl, HD⟩ := hrel
    clear HI0
    have ek := HD.out.ek
    by_cases hlt : k < n
    · obtain ⟨s, hs⟩ : ∃ s, l[k]? = some s := ⟨_, List.getElem?_eq_getElem (by have := HLN.out; omega)⟩
      have c0 := HSM.out wr (ek.box (z := g) (o := o) (by simp)) k s hs
      have hdr : l.drop k = s :: l.drop (k + 1) := by
        rw [List.drop_eq_getElem_cons (by have := HLN.out; omega), show l[k]'(by have := HLN.out; omega) = s from (List.getElem?_eq_some_iff.1 hs).2]
      have r1 := HD.out.r1
      have r2 := HD.out.r2
      rw [hdr] at r1 r2
      have R1 : Hid ((tkq (l.drop (k + 1)) (wnt s C').1).1 = res.1) := Lib.hid r1
      have R2 : Hid (m.map pl ++ ((wnt s C').2 :: (tkq (l.drop (k + 1)) (wnt s C').1).2) = res.2) := Lib.hid r2
      have HW := Lib.hid (wnt_any s ek.cu ek.ok)
      have HGW := Lib.hid (Got.wnt ek.ok s)
      have p0 := cell_heap (ek.box (z := w.heap.size) (o := sdb b) (by simp)) (i := 0)
      simp only [List.getElem?_toArray, List.getElem?_cons_zero] at p0
      have E1 := Lib.hid ek
      have HR1 := Lib.hid HD.out.row
      have HO := Lib.hid (And.intro HD.out.own (And.intro HD.out.ne HD.out.hn))
      have z1 : (0 : Int) ≤ (k : Nat) := by omega
      have z2 : ((k : Nat) : Int) < n := by omega
      have z3 : ((k : Nat) : Int) ≤ 9 := by omega
      clear ek hs hdr r1 r2 HD
      go_wp2_with fail
      refine HW.out.mono ?_
      rintro e w2 ⟨SG, rfl, hp1, hT1, hm1, ho1⟩
      have hob : (Value.slice Al k cl).ownBlock ≠ some b := fun e => by
        have := (E1.out.zn b (HO.out.1 b e)).1
        have := E1.out.hX b rfl
        omega
      have ek2 := E1.out.got hT1 hm1 ⟨HGW.out.ok, HGW.out.L⟩ ho1
      have hrow2 := HR1.out.of ho1 hob
      have ek3 := ek2.rowOf 0 1 (l := [SG]) rfl (by simp) (.cells #[.int .i64 SG.k, .string SG.g, .string SG.t, .int .i64 SG.a, .slice SG.A SG.kids.length SG.c] 30 (0, 0)) 30 rfl
      have hrow3 := hrow2.below (below1 w2 (.cells #[.int .i64 SG.k, .string SG.g, .string SG.t, .int .i64 SG.a, .slice SG.A SG.kids.length SG.c] 30 (0, 0)))
      have hlies := (tn_iff.1 (ek3.tn ⟨0, ⟨#[]⟩, ⟨#[]⟩, 0, some ⟨w2.heap.size, 0, none⟩, 1, [SG]⟩ (by simp))).2.1
      have E3 := Lib.hid (ek3.sub (bs' := [(w.heap.size, sdb b), (g, o)]) (ts' := SG :: m) (by simp) (by simp only [List.mem_cons]; rintro T (h | h) <;> simp [h]))
      have HR3 := Lib.hid hrow3
      have HLI := Lib.hid hlies
      clear ek2 hrow2 ek3 hrow3 hlies hT1 hm1 ho1 p0 HW E1 HR1 hob c0
      go_wp2_with (at_builtin; refine Stay.out ?_)
      refine Stay.mk ?_
      refine wpList_append_n (by rfl) (.tmp 14) (.tmp 19) (by rfl) (w2.alloc (.cells #[.int .i64 SG.k, .string SG.g, .string SG.t, .int .i64 SG.a, .slice SG.A SG.kids.length SG.c] 30 (0, 0))) (.slice Al k cl) m [SG] (some ⟨w2.heap.size, 0, none⟩) 1 1 _ rfl (by rfl) (by rfl) HLI.out (by simp) HR3.out (by have := HO.out.2.2; simp; omega) ?_
      intro A1 c1 w4 hrow4 hg4 hat4
      obtain ⟨zs4, ek4, hz4, ho4, hn4'⟩ := E3.out.grows hg4 (own' := (Value.slice A1 (m ++ [SG]).length c1).ownBlock) (fun q hq => .inl (HO.out.1 q hq)) HO.out.2.1 hat4 hrow4.lt
      have hlen : (m ++ [SG]).length = k + 1 := by rw [List.length_append, HO.out.2.2]; rfl
      have hmap : (m ++ [SG]).map pl ++ (tkq (l.drop (k + 1)) (wnt s C').1).2 = res.2 := by
        rw [List.map_append, List.map_cons, List.map_nil, hp1, List.append_assoc]
        exact R2.out
      have ek5 := ek4.sub (bs' := [(w.heap.size, sdb b), (g, o)]) (ts' := m ++ [SG]) (by simp) (by simp only [List.mem_append, List.mem_cons, List.not_mem_nil, or_false]; rintro T (h | h) <;> simp [h])
      rw [hlen] at hrow4 ho4 hn4'
      rw [hlen]
      have HI : Hid (TkI b A c g o w l C res (k + 1) (wnt s C').1 (m ++ [SG]) A1 c1 zs4 w4) := Lib.hid ⟨ek5, hrow4, fun q hq => (ho4 q hq).resolve_right (fun hh => hh.2 hh.1), hn4', hlen, R1.out, hmap⟩
      clear ek4 ek5 hrow4 hg4 hat4 hz4 ho4 hn4' hlen hmap E3 HR3 HLI R1 R2 hp1
      go_wp2
      go_roundw
      case rel => exact ⟨k + 1, (wnt s C').1, m ++ [SG], A1, c1, zs4, by go_num, by omega, rfl, HI⟩
      case measure => simp [intOf]; omega
    · obtain rfl : k = n := by omega
      have hnl : l.drop k = [] := List.drop_eq_nil_of_le (by rw [HLN.out]; exact Nat.le_refl _)
      have r1 := HD.out.r1
      have r2 := HD.out.r2
      rw [hnl] at r1 r2
      have hres : res = (C', m.map pl) := by
        have e1 : C' = res.1 := r1
        have e2 : m.map pl ++ [] = res.2 := r2
        rw [List.append_nil] at e2
        exact Prod.ext e1.symm e2.symm
      have hlo : ∀ q, (Value.slice Al k cl).ownBlock = some q → w.heap.size ≤ q := fun q hq => (ek.zn q (HD.out.own q hq)).1
      have hmk := HD.out.hn
      have hrow := HD.out.row
      subst hmk
      have HV := Lib.hid (ek.list (r := res) (m := m) hrow hlo (fun x hx => hx) (by omega) (by rw [hres]) (by rw [hres]))
      clear ek r1 r2 hnl hlo hrow HD hres
      go_wp2
      refine bodyPost_ret (v := .slice Al m.length cl) (by simp [results, Tryz.results100, go_sem]) rfl HV.out
end
end Go.Proofs.YtfmlcddakfbleaaGreatDoor

namespace Go.Proofs.YtfmlcddakfbleaaGreatDoor
open Go.RowKit SignMath TreeMath

theorem under_int : Tryz.prog.underlying 3 = some (.int .i64) := by kernel_rfl
set_option maxRecDepth 100000 in
set_option maxHeartbeats 4000000 in
theorem grow_any (n : Nat) (hn : n ≤ 20000) (w : World) : Calls Tryz.prog 90 #[.slice none 0 0, .int .i64 n] w fun e w' => ∃ A c, e = .returned (.slice A 0 c) ∧ RowN w' (.slice A 0 c) [] ∧ (∀ k, (Value.slice A 0 c).ownBlock = some k → w.heap.size ≤ k) ∧ Below w.heap.size w w' := by
  have z1 : ¬ ((n : Int) < 0) := by omega
  have z2 : wrap64 ((n : Int) - 0) = n := by unfold wrap64; omega
  have z3 : (n : Int) ≤ 20000 := by omega
  by_cases h0 : n = 0
  · subst h0
    clear z1 z2 z3 hn
    go_enter Tryz.func90, Tryz.ntmps90
    go_wp2
    refine bodyPost_ret (v := .slice none 0 0) (by simp [results, Tryz.results90, go_sem]) rfl ⟨none, 0, rfl, RowN.nil _, fun k hk => (by cases hk), Below.refl _ _⟩
  · obtain ⟨i0, hi, hz0, hz1, hz2⟩ := info_parts info_tnode
    have hr := Lib.run_append_nil_zeros (P := Tryz.prog) w 23 3 23 30 i0 _ .i64 .i64 Tryz.underlying23 under_int hi hz0 n (by omega) (by rw [hz1]; omega) (by omega) (by rw [hz2]; omega)
    have hge := grownCap_ge w n 0 30
    have hcm : grownCap w n 0 30 ≤ maxLen := grownCap_le_maxLen w n 0 30 (by unfold maxLen; omega)
    generalize grownCap w n 0 30 = cap at hr hge hcm
    have hzs : (Builtin.zeroCells (Value.cells (.agg #[.int .i64 0, .string ⟨#[]⟩, .string ⟨#[]⟩, .int .i64 0, .slice none 0 0])) n ++ Builtin.zeroCells (Value.cells (.agg #[.int .i64 0, .string ⟨#[]⟩, .string ⟨#[]⟩, .int .i64 0, .slice none 0 0])) (cap - n)).size = cap * 5 := by
      rw [Array.size_append, size_zeroCells, size_zeroCells]
      have : (Value.cells (.agg #[.int .i64 0, .string ⟨#[]⟩, .string ⟨#[]⟩, .int .i64 0, .slice none 0 0])).size = 5 := by decide
      rw [this]
      omega
    generalize Builtin.zeroCells (Value.cells (.agg #[.int .i64 0, .string ⟨#[]⟩, .string ⟨#[]⟩, .int .i64 0, .slice none 0 0])) n ++ Builtin.zeroCells (Value.cells (.agg #[.int .i64 0, .string ⟨#[]⟩, .string ⟨#[]⟩, .int .i64 0, .slice none 0 0])) (cap - n) = Z at hr hzs
    have hd : Below w.heap.size w w.drew := ⟨rfl, rfl, rfl, Nat.le_refl _, fun _ _ => rfl⟩
    have hB : Below w.heap.size w (w.drew.alloc (.cells Z 30)) := hd.trans (below1 w.drew _)
    have hrow : RowN (w.drew.alloc (.cells Z 30)) (.slice (some ⟨w.heap.size, 0, none⟩) 0 cap) [] := ⟨rfl, .inr ⟨w.heap.size, cap, Z, rfl, Nat.zero_le _, heap_alloc_new w.drew _, Nat.zero_le _, hcm, hzs, rfl⟩⟩
    have HF := Lib.hid (And.intro hrow hB)
    have z4 : (0 : Int) < n := by omega
    have z5 : (0 : Int) ≤ cap := by omega
    have z6 : (cap : Int) ≤ 9223372036854775807 := by unfold maxLen at hcm; omega
    have HR := Lib.hid hr
    clear hr hge hcm hzs hd hB hrow h0 hi hz0 hz1 hz2
    go_enter Tryz.func90, Tryz.ntmps90
    go_wp2_with (at_builtin; refine Lib.wpList_append_run _ rfl _ _ _ _ rfl _ _ rfl rfl _ _ HR.out ?_)
    refine bodyPost_ret (v := .slice (some ⟨w.heap.size, 0, none⟩) 0 cap) (by simp [results, Tryz.results90, go_sem]) rfl ⟨some ⟨w.heap.size, 0, none⟩, cap, rfl, HF.out.1, fun k hk => by have hk : some w.heap.size = some k := hk; injection hk with hk; omega, HF.out.2⟩

/-- a part of a node: a slice of nodes -/
structure Pp where
  A : Option Addr
  c : Nat
  m : List Tr
abbrev Pp.v (p : Pp) : Value := .slice p.A p.m.length p.c
def PpM (W : World) (g off : Nat) (ps : List Pp) : Prop := ∀ (i : Nat) (p : Pp), ps[i]? = some p → W.cell? ⟨g, off + i, none⟩ = some p.v
theorem pp_row (W : World) (g : Nat) (ps : List Pp) (t : TypeId) (o : Obj) (ho : o = .cells (ps.map Pp.v).toArray t (0, 0)) (h : W.heap[g]? = some o) : PpM W g 0 ps := fun i p hi => by
  subst ho
  rw [cell_heap h, List.getElem?_toArray, Nat.zero_add, List.getElem?_map, hi]
  rfl
def sz_ (ps : List Pp) : Nat := (ps.flatMap Pp.m).length
theorem sz_take {ps : List Pp} {k : Nat} {p : Pp} (h : ps[k]? = some p) : (ps.take (k + 1)).flatMap Pp.m = (ps.take k).flatMap Pp.m ++ p.m ∧ sz_ (ps.take (k + 1)) = sz_ (ps.take k) + p.m.length := by
  have e : (ps.take (k + 1)).flatMap Pp.m = (ps.take k).flatMap Pp.m ++ p.m := by
    rw [List.take_add_one, h]
    simp
  exact ⟨e, by unfold sz_; rw [e, List.length_append]⟩
theorem sz_le (ps : List Pp) (k : Nat) : sz_ (ps.take k) ≤ sz_ ps := by
  have e : ps.flatMap Pp.m = (ps.take k).flatMap Pp.m ++ (ps.drop k).flatMap Pp.m := by
    rw [← List.flatMap_append, List.take_append_drop]
  unfold sz_
  rw [e, List.length_append]
  omega

set_option maxRecDepth 100000 in
set_option maxHeartbeats 8000000 in
theorem concat_any (ps : List Pp) (n : Nat) (hn : ps.length = n) (hn6 : n ≤ 12) (g off : Nat) (o : Obj) (w : World) (hgo : w.heap[g]? = some o) (hpm : ∀ W' : World, W'.heap[g]? = some o → PpM W' g off ps) (hlies : ∀ p ∈ ps, Tks (lo w.heap.size) w p.A p.m) (hnil : ∀ p ∈ ps, p.A = none → p.c = 0) (hlen : sz_ ps ≤ 20000) :
    Calls Tryz.prog 65 #[.slice (some ⟨g, off, none⟩) n n] w fun e w' => ∃ A' c', e = .returned (.slice A' (ps.flatMap Pp.m).length c') ∧ RowN w' (.slice A' (ps.flatMap Pp.m).length c') (ps.flatMap Pp.m) ∧ (∀ k, (Value.slice A' (ps.flatMap Pp.m).length c').ownBlock = some k → w.heap.size ≤ k) ∧ Below w.heap.size w w' := by
  have HG := Lib.hid (And.intro hgo (And.intro hpm (And.intro hlies hnil)))
  have HN := Lib.hid hn
  have HL := Lib.hid hlen
  have hgw : g < w.heap.size := (Array.getElem?_eq_some_iff.1 hgo).1
  clear hgo hpm hlies hnil hn hlen
  go_enter Tryz.func65, Tryz.ntmps65
  go_wp2
  go_loopw [3, 11] (fun v i wr => ∃ (k : Nat), i = .int .i64 k ∧ k ≤ n ∧ v = .int .i64 (sz_ (ps.take k) : Nat) ∧ wr = w) (fun _ i _ => n - (intOf i).toNat)
  case atStart => exact ⟨0, rfl, Nat.zero_le _, by rfl, rfl⟩
  case round =>
    obtain ⟨k, rfl, hkn, rfl, hww⟩ := hrel
    rw [hww]
    clear hww
    by_cases hlt : k < n
    · obtain ⟨p, hp⟩ : ∃ p, ps[k]? = some p := ⟨_, List.getElem?_eq_getElem (by have := HN.out; omega)⟩
      have c0 : w.cell? ⟨g, off + k, none⟩ = some (.slice p.A p.m.length p.c) := HG.out.2.1 w HG.out.1 k p hp
      have h1 := (sz_take hp).2
      have h2 := sz_le ps (k + 1)
      have h3 := HL.out
      obtain ⟨q, hq⟩ : ∃ q, sz_ (ps.take k) = q := ⟨_, rfl⟩
      rw [hq] at h1
      have H1 := Lib.hid h1
      obtain ⟨pA, pc, pm⟩ := p
      simp only at h1 c0
      obtain ⟨r, hr⟩ : ∃ r, pm.length = r := ⟨_, rfl⟩
      have HR := Lib.hid hr
      rw [hr] at h1 c0
      have hqr : q + r ≤ 20000 := by rw [← h1]; exact Nat.le_trans h2 h3
      rw [hq]
      clear hp h1 h2 h3 hq hr
      obtain ⟨s, hs⟩ : ∃ s : Nat, s = q + r := ⟨_, rfl⟩
      have w2 : ((q : Int) + (r : Int)) = (s : Int) := by omega
      have w1 : wrap64 (s : Int) = (s : Int) := by unfold wrap64; omega
      have w3 : ¬ ((s : Int) < 0) := by omega
      have w4 : (s : Int) ≤ 20000 := by omega
      have z1 : (0 : Int) ≤ (k : Nat) := by omega
      have z2 : ((k : Nat) : Int) < n := by omega
      have z3 : ((k : Nat) : Int) ≤ 12 := by omega
      clear hqr
      have HS := Lib.hid hs
      clear hs
      go_wp2
      go_roundw
      case rel => exact ⟨k + 1, by go_num, by omega, by rw [H1.out, HR.out, HS.out], by first | rfl | trivial⟩
      case measure => simp [intOf]; omega
    · obtain rfl : k = n := by omega
      have hk : ps.take k = ps := List.take_of_length_le (by rw [HN.out]; exact Nat.le_refl _)
      rw [hk]
      have HC := Lib.hid (grow_any (sz_ ps) HL.out w)
      clear hk
      go_wp2_with fail
      refine HC.out.mono ?_
      rintro e w1 ⟨A0, c0, rfl, hrow, hown, hB⟩
      have HI0 := Lib.hid (And.intro hrow (And.intro hown hB))
      clear hrow hown hB HC
      go_wp2
      go_loopw [6, 27] (fun v i wr2 => ∃ (j : Nat) (A' : Option Addr) (c' : Nat), i = .int .i64 j ∧ j ≤ k ∧ v = .slice A' (sz_ (ps.take j)) c' ∧ Hid (RowN wr2 (.slice A' (sz_ (ps.take j)) c') ((ps.take j).flatMap Pp.m) ∧ (∀ q, (Value.slice A' (sz_ (ps.take j)) c').ownBlock = some q → w.heap.size ≤ q) ∧ Below w.heap.size w wr2)) (fun _ i _ => k - (intOf i).toNat)
      case atStart => exact ⟨0, A0, c0, rfl, Nat.zero_le _, rfl, HI0⟩
      case round =>
        obtain ⟨j, A', c', rfl, hjn, rfl, HD⟩ := hrel
        clear HI0
        by_cases hlt : j < k
        · obtain ⟨p, hp⟩ : ∃ p, ps[j]? = some p := ⟨_, List.getElem?_eq_getElem (by have := HN.out; omega)⟩
          have hg2 := (HD.out.2.2.block g hgw).trans HG.out.1
          have d0 : wr.cell? ⟨g, off + j, none⟩ = some (.slice p.A p.m.length p.c) := HG.out.2.1 wr hg2 j p hp
          have hpm := List.mem_of_getElem? hp
          have hli : Tks (lo w.heap.size) wr p.A p.m := (HG.out.2.2.1 p hpm).keep (fun q i hq => cell_of (HD.out.2.2.block q hq)) fun _ h => h
          have hni := HG.out.2.2.2 p hpm
          obtain ⟨e1, e2⟩ := sz_take hp
          have h2 := sz_le ps (j + 1)
          have h3 := HL.out
          have hsz : ((ps.take j).flatMap Pp.m).length = sz_ (ps.take j) := rfl
          have HLI := Lib.hid (And.intro hli hni)
          have HE := Lib.hid (And.intro e1 e2)
          have HSM : Hid (((ps.take j).flatMap Pp.m).length + p.m.length ≤ 20000) := Lib.hid (by rw [hsz, ← e2]; exact Nat.le_trans h2 h3)
          have z1 : (0 : Int) ≤ (j : Nat) := by omega
          have z2 : ((j : Nat) : Int) < k := by omega
          have z3 : ((j : Nat) : Int) ≤ 12 := by omega
          clear hp hpm hli hni e1 e2 h2 h3 hg2 hsz
          obtain ⟨pA, pc, pm⟩ := p
          simp only at d0 HLI HE HSM
          obtain ⟨r, hr⟩ : ∃ r, pm.length = r := ⟨_, rfl⟩
          have HR := Lib.hid hr
          rw [hr] at d0
          clear hr
          go_wp2_with (at_builtin; refine Stay.out ?_)
          refine Stay.mk ?_
          refine wpList_append_n (by rfl) (.tmp 31) (.tmp 32) (by rfl) wr (.slice A' (sz_ (ps.take j)) c') ((ps.take j).flatMap Pp.m) pm pA r pc _ HR.out (by rfl) (by rfl) HLI.out.1 HLI.out.2 HD.out.1 HSM.out ?_
          intro A3 c3 w3 hrow3 hg3 hat3
          have hB3 : Below w.heap.size w w3 := HD.out.2.2.grown hg3 HD.out.2.2.size (fun q e => HD.out.2.1 q e)
          have hown3 : ∀ q, (Value.slice A3 ((ps.take j).flatMap Pp.m ++ pm).length c3).ownBlock = some q → w.heap.size ≤ q := fun q hq => by
            rcases hat3 with e | e
            · exact HD.out.2.1 q (e ▸ hq)
            · rw [e] at hq; injection hq with hq; have := HD.out.2.2.size; omega
          have hl3 : ((ps.take j).flatMap Pp.m ++ pm).length = sz_ (ps.take (j + 1)) := by rw [HE.out.2, List.length_append]; rfl
          rw [hl3] at hrow3 hown3
          rw [hl3]
          rw [← HE.out.1] at hrow3
          have HF := Lib.hid (And.intro hrow3 (And.intro hown3 hB3))
          clear hrow3 hown3 hB3 hg3 hat3 hl3 HLI HSM HD
          go_wp2
          go_roundw
          case rel => exact ⟨j + 1, A3, c3, by go_num, by omega, rfl, HF⟩
          case measure => simp [intOf]; omega
        · obtain rfl : j = k := by omega
          have hk : ps.take j = ps := List.take_of_length_le (by rw [HN.out]; exact Nat.le_refl _)
          rw [hk] at HD ⊢
          clear hk
          go_wp2
          refine bodyPost_ret (v := .slice A' (sz_ ps) c') (by simp [results, Tryz.results65, go_sem]) rfl ⟨A', c', rfl, HD.out.1, HD.out.2.1, HD.out.2.2⟩

set_option maxRecDepth 100000 in
set_option maxHeartbeats 4000000 in
theorem snode_any (k : Int) (ps : List Pp) (n : Nat) (hn : ps.length = n) (hn6 : n ≤ 12) (g off : Nat) (o : Obj) (w : World) (hgo : w.heap[g]? = some o) (hpm : ∀ W' : World, W'.heap[g]? = some o → PpM W' g off ps) (hlies : ∀ p ∈ ps, Tks (lo w.heap.size) w p.A p.m) (hnil : ∀ p ∈ ps, p.A = none → p.c = 0) (hlen : sz_ ps ≤ 20000) :
    Calls Tryz.prog 96 #[.int .i64 k, .slice (some ⟨g, off, none⟩) n n] w fun e w' => ∃ A' c', e = .returned (nv ⟨k, ⟨#[]⟩, ⟨#[]⟩, 0, A', c', ps.flatMap Pp.m⟩) ∧ RowN w' (.slice A' (ps.flatMap Pp.m).length c') (ps.flatMap Pp.m) ∧ (∀ q, (Value.slice A' (ps.flatMap Pp.m).length c').ownBlock = some q → w.heap.size < q) ∧ Below w.heap.size w w' := by
  have hgw : g < w.heap.size := (Array.getElem?_eq_some_iff.1 hgo).1
  have hb0 := below1 w zb5
  have HC := Lib.hid (concat_any ps n hn hn6 g off o (w.alloc zb5) ((hb0.block g hgw).trans hgo) hpm (fun p hp => (hlies p hp).keep (fun q i hq => cell_of (hb0.block q hq)) fun q hq => by have : q < w.heap.size := hq; show q < (w.alloc zb5).heap.size; simp; omega) hnil hlen)
  have HB := Lib.hid hb0
  clear hgo hpm hlies hnil hlen hb0 hn
  generalize ps.flatMap Pp.m = M at HC ⊢
  go_enter Tryz.func96, Tryz.ntmps96
  go_wp2_with fail
  refine HC.out.mono ?_
  rintro e w2 ⟨A', c', rfl, hrow, hown, hb2⟩
  have hz := (hb2.block w.heap.size (by simp)).trans (heap_alloc_new w zb5)
  have hs := set5_self hz ⟨k, ⟨#[]⟩, ⟨#[]⟩, 0, A', c', M⟩
  have hB := below_set5 (HB.out.trans (hb2.mono (by simp))) (Nat.le_refl _) ⟨k, ⟨#[]⟩, ⟨#[]⟩, 0, A', c', M⟩
  have hown2 : ∀ q, (Value.slice A' M.length c').ownBlock = some q → w.heap.size < q := fun q hq => by have := hown q hq; rw [World.size_alloc] at this; omega
  have hrow2 : RowN (set5 w2 w.heap.size ⟨k, ⟨#[]⟩, ⟨#[]⟩, 0, A', c', M⟩) (.slice A' M.length c') M := hrow.keep fun q hq => set5_other (by have := hown2 q hq; omega) _
  have HF := Lib.hid (And.intro hrow2 (And.intro hown2 hB))
  clear hrow hown hb2 hB hown2 hrow2 HC
  go_wp2_with (with_reducible refine stay_store 30 (.tmp 4) (.tmp 8) (by rfl) ?_)
  refine Stay.mk ?_
  refine wpList_store_node (by rfl) 30 (.tmp 4) (.tmp 8) (by rfl) size_tnode w.heap.size ⟨k, ⟨#[]⟩, ⟨#[]⟩, 0, A', c', M⟩ (by rfl) (by rfl) hz ?_
  generalize set5 w2 w.heap.size ⟨k, ⟨#[]⟩, ⟨#[]⟩, 0, A', c', M⟩ = w9 at hs HF ⊢
  clear hz
  go_wp2
  have g0 := cell_heap hs (i := 0)
  have g1 := cell_heap hs (i := 1)
  have g2 := cell_heap hs (i := 2)
  have g3 := cell_heap hs (i := 3)
  have g4 := cell_heap hs (i := 4)
  simp only [List.getElem?_toArray, List.getElem?_cons_zero, List.getElem?_cons_succ] at g0 g1 g2 g3 g4
  refine bodyPost_ret (v := nv ⟨k, ⟨#[]⟩, ⟨#[]⟩, 0, A', c', M⟩) (by simp [results, Tryz.results96, go_sem, g0, g1, g2, g3, g4]) rfl ⟨A', c', rfl, HF.out.1, HF.out.2.1, HF.out.2.2⟩

/-- a node of parts that are there -/
theorem EK.noded {b : Nat} {A : Option Addr} {c : Nat} {S X : Nat → Prop} {w W : World} {C : Cu} {bs : List (Nat × Obj)} {zs : List Nat} {ts : List Tr} (h : EK b A c S X w C bs zs ts W) (k : Int) (ps : List Pp) (n : Nat) (hn : ps.length = n) (hn6 : n ≤ 12) (hps : ∀ p ∈ ps, bnd p.A p.c p.m ∈ ts) (hnil : ∀ p ∈ ps, p.A = none → p.c = 0) (hlen : sz_ ps ≤ 20000) (o : Obj) (t : TypeId) (ho : o = .cells (ps.map Pp.v).toArray t (0, 0)) :
    Calls Tryz.prog 96 #[.int .i64 k, .slice (some ⟨W.heap.size, 0, none⟩) n n] (W.alloc o) fun e W' => ∃ A' c', e = .returned (nv ⟨k, ⟨#[]⟩, ⟨#[]⟩, 0, A', c', ps.flatMap Pp.m⟩) ∧ EK b A c S X w C bs zs ((⟨k, ⟨#[]⟩, ⟨#[]⟩, 0, A', c', ps.flatMap Pp.m⟩ : Tr) :: ts) W' := by
  have h1 := h.below (below1 W o)
  have hlt : ∀ q, (S q ∨ w.heap.size ≤ q ∧ q < (W.alloc o).heap.size) ∧ q ∉ zs → q < (W.alloc o).heap.size := fun q hq => (h1.inS hq.1).1
  refine (snode_any k ps n hn hn6 W.heap.size 0 o (W.alloc o) (heap_alloc_new W o) (fun W' h' => pp_row W' _ ps t o ho h') (fun p hp => ((tn_iff.1 (h1.tn _ (hps p hp))).2.1).keep (fun _ _ _ => rfl) hlt) hnil hlen).mono ?_
  rintro e W' ⟨A', c', rfl, hrow, hown, hb⟩
  have h2 := h1.below hb
  refine ⟨A', c', rfl, h2.cu, h2.ok, h2.off, h2.rl, h2.bX, h2.hX, h2.hS, h2.has, h2.zn, fun Y hY => ?_⟩
  rcases List.mem_cons.1 hY with rfl | hY
  · refine tn_iff.2 ⟨rng0, hrow.tks.keep (fun _ _ _ => rfl) fun q hq => ?_, fun x hx => ?_⟩
    · have := hown q hq
      have hl := hrow.lt q hq
      have hs := h1.size
      exact ⟨.inr ⟨by omega, hl⟩, fun hz => by have := (h1.zn q hz).2; omega⟩
    · obtain ⟨p, hp, hx⟩ := List.mem_flatMap.1 hx
      exact (h2.tn _ (hps p hp)).kid hx
  · exact h2.tn Y hY
end Go.Proofs.YtfmlcddakfbleaaGreatDoor

namespace Go.Proofs.YtfmlcddakfbleaaGreatDoor
open Go.RowKit SignMath TreeMath

theorem count_list {L : Array Bool} {i : Nat} (h : L.getD i true = false) : (L.setIfInBounds i true).toList.count false < L.toList.count false := by
  have hi : i < L.size := by
    rcases Nat.lt_or_ge i L.size with h' | h'
    · exact h'
    · simp [Array.getD, Nat.not_lt.2 h'] at h
  have hi' : i < L.toList.length := by simpa using hi
  have he : L.toList[i] = false := by
    have : L[i] = false := by simpa [Array.getD, hi] using h
    simpa using this
  have hc : 0 < L.toList.count false := List.count_pos_iff.2 (by rw [← he]; exact List.getElem_mem hi')
  have hn : ∀ n : Nat, 0 < n → n - (if ((false : Bool) == false) = true then 1 else 0) + (if ((true : Bool) == false) = true then 1 else 0) < n := fun n h => by simp; omega
  rw [Array.toList_setIfInBounds, List.count_set hi', he]
  exact hn _ hc
/-- an invariant that every operation keeps, in whatever order they come -/
theorem wpAny_inv {P : Program} {md : Region.Mode} {ops : Array Oper} {Q : Exit → Act → World → Prop} (I : Array Bool → Act → World → Prop) (hdone : ∀ L a w, I L a w → Region.ready md ops L = [] → Q .normal a w) (hstep : ∀ L a w i, I L a w → i ∈ Region.ready md ops L → wpOp P ops Q i (fun a' w' => I (L.setIfInBounds i true) a' w') a w) :
    ∀ (fuel : Nat) (L : Array Bool) (a : Act) (w : World), L.toList.count false ≤ fuel → I L a w → wpAny P md ops Q fuel L a w
  | 0, L, a, w, hc, h => by
    have hr : Region.ready md ops L = [] := by
      cases hx : Region.ready md ops L with
      | nil => rfl
      | cons i t =>
        have := (mem_ready.1 (show i ∈ Region.ready md ops L by rw [hx]; simp)).1
        have := count_list this
        omega
    exact ⟨hr, hdone L a w h hr⟩
  | fuel + 1, L, a, w, hc, h => ⟨hdone L a w h, fun i hi => wpOp_mono (fun a' w' h' => wpAny_inv I hdone hstep fuel _ a' w' (by have := count_list (mem_ready.1 hi).1; omega) h') (hstep L a w i h hi)⟩
theorem listed_of {L : Array Bool} {j : Nat} (hj : j < L.size) : L.getD j true = L.getD j false := by simp [Array.getD, hj]
theorem all_listed {md : Region.Mode} {ops : Array Oper} {L : Array Bool} (hs : L.size = ops.size) (hb : ∀ j o, ops[j]? = some o → ∀ e ∈ o.after, Region.binds md e = true → e.on < j) (hr : Region.ready md ops L = []) : ∀ j, j < ops.size → L.getD j false = true := by
  intro j
  induction j using Nat.strongRecOn with
  | ind j ih =>
    intro hj
    cases hx : L.getD j false with
    | true => rfl
    | false =>
      have : j ∈ Region.ready md ops L := mem_ready.2 ⟨(listed_of (by omega)).trans hx, ops[j], Array.getElem?_eq_getElem hj, fun e he hbe => ih e.on (hb j _ (Array.getElem?_eq_getElem hj) e he hbe) (by have := hb j _ (Array.getElem?_eq_getElem hj) e he hbe; omega)⟩
      rw [hr] at this
      cases this
theorem step_wp {P : Program} {ops : Array Oper} {Q : Exit → Act → World → Prop} {i : Nat} {K : Act → World → Prop} {a : Act} {w : World} {o : Oper} (ho : ops[i]? = some o) (hg : o.guard = none) (h : o.wp P a w K Q) : wpOp P ops Q i K a w := by
  unfold wpOp
  rw [ho]
  show if Region.wanted o (yielded ops a.tmps) = true then _ else _
  rw [if_pos (by simp [Region.wanted, hg])]
  exact .inl h
theorem wp_val {P : Program} {Q : Exit → Act → World → Prop} {K : Act → World → Prop} {a : Act} {w w' : World} {o : Oper} {v : Value} (h : (execOp a.eval o).run P w = .ok (.value v) w') (hK : K (a.put o.dst v) w') : o.wp P a w K Q := by
  unfold Oper.wp
  rw [h]
  exact hK
theorem wp_calls {P : Program} {Q : Exit → Act → World → Prop} {K : Act → World → Prop} {a : Act} {w : World} {o : Oper} {f : FuncId} {args : Array Value} {R : Ending → World → Prop} (h : (execOp a.eval o).run P w = .ok (.enter f args) w) (hc : Calls P f args w R) (hK : ∀ e w', R e w' → ∃ v, e = .returned v ∧ K (a.put o.dst v) w') : o.wp P a w K Q := by
  unfold Oper.wp
  rw [h]
  refine Calls.mono hc fun e w' hp => ?_
  obtain ⟨v, rfl, hk⟩ := hK e w' hp
  exact hk
theorem eval_put {a : Act} {d : Tmp} {v : Value} (h : d < a.tmps.size) : (a.put (some d) v).eval (.tmp d) = v := by
  show (a.tmps.setIfInBounds d v).getD d undef = v
  simp [Array.getD, h]
theorem eval_put_ne {a : Act} {d e : Tmp} {v : Value} (h : e ≠ d) : (a.put (some d) v).eval (.tmp e) = a.eval (.tmp e) := by
  show (a.tmps.setIfInBounds d v).getD e undef = a.tmps.getD e undef
  rw [Array.getD_eq_getD_getElem?, Array.getD_eq_getD_getElem?, Array.getElem?_setIfInBounds_ne (Ne.symm h)]
/-- a row of values of one cell each -/
theorem run_flat {P : Program} {a : Act} {w : World} {o : Oper} (t e : TypeId) (parts : Array (Nat × Operand)) (vs : List Value) (ho : o.op = .buildSlice t vs.length parts) (hu : P.underlying t = some (.slice e)) (hsz : (P.info? e).map (·.size) = some 1) (hz : ((P.info? e).bind (·.zero)).isSome = true) (hpos : 0 < vs.length) (hsmall : vs.length ≤ 2 ^ 24) (hone : ∀ v ∈ vs, v.cells = #[v])
    (hparts : (parts.map fun (i, x) => (i, a.eval x)).toList = (vs.zipIdx 0).map fun x => (x.2, x.1)) : (execOp a.eval o).run P w = .ok (.value (.slice (some ⟨w.heap.size, 0, none⟩) vs.length vs.length)) (w.alloc (.cells vs.toArray e)) := by
  cases hie : P.info? e with
  | none => simp [hie] at hsz
  | some ie =>
    simp only [hie, Option.map_some, Option.some.injEq, Option.bind_some] at hsz hz
    obtain ⟨z, hzz⟩ := Option.isSome_iff_exists.1 hz
    have hf : Instr.fill (fun i => some (i * ie.size, ie.size)) ((Array.range (vs.length * ie.size)).map (z.cells[· % z.cells.size]!)) (parts.map fun (i, x) => (i, a.eval x)).toList = some vs.toArray := by
      rw [hparts, hsz]
      exact Great.fill_flat _ _ hone (by simp)
    unfold execOp
    simp only [ho, Sem.run_bind, run_buildSlice w t e vs.length _ vs.toArray ie z hu hie hzz (by rw [hsz]; omega) (by rw [hsz]; omega) hf, Result.andThen_ok]
    rfl
end Go.Proofs.YtfmlcddakfbleaaGreatDoor

namespace Go.Proofs.YtfmlcddakfbleaaGreatDoor
open Go.RowKit SignMath TreeMath

abbrev rowO (l : List ByteArray) : Obj := .cells (l.map Value.string).toArray 9 (0, 0)
abbrev ppO (ps : List Pp) : Obj := .cells (ps.map Pp.v).toArray 23 (0, 0)
/-- what an operation does: the reader loaded; texts in a row; a tree read; one node's list; a list read; tokens; the parts in a row; a node of them; the result stored -/
inductive Kd
  | load
  | row (l : List ByteArray)
  | tree (F : Nat) (f : Cu → Cu × Tr) (x : Nat)
  | one (x : Nat)
  | list (F : Nat) (f : Part) (n x : Nat)
  | toks (l : List ByteArray) (x r : Nat)
  | bund (xs : List Nat)
  | node (k : Int) (r : Nat)
  | store (x : Nat)
def Kd.isCall : Kd → Bool
  | .tree .. | .one .. | .list .. | .toks .. | .node .. => true
  | _ => false
def Kd.isPart : Kd → Bool
  | .one .. | .list .. | .toks .. => true
  | _ => false
def Kd.deps (j : Nat) : Kd → List Nat
  | .tree _ _ x => [x]
  | .one x => [x]
  | .list _ _ _ x => [x]
  | .toks _ x r => [x, r]
  | .bund xs => xs
  | .node _ r => [r]
  | .store _ => List.range j
  | _ => []
def Kd.mx : Kd → Nat
  | .one _ => 1
  | .list _ _ n _ => n
  | .toks l _ _ => l.length
  | _ => 0
def Kd.go : Kd → Cu → Cu
  | .tree _ f _, C => (f C).1
  | .list _ f _ _, C => (f C).1
  | .toks l _ _, C => (tkq l C).1
  | _, C => C
section
variable (D : List Kd)
/-- the cursor ahead of an operation; what an operation comes to -/
def cuA (C : Cu) : Nat → Cu
  | 0 => C
  | j + 1 => match D[j]? with
    | some k => k.go (cuA C j)
    | none => cuA C j
def tv (C : Cu) (j : Nat) : List Tr := match D[j]? with
  | some (.tree _ f _) => [(f (cuA D C j)).2]
  | _ => []
def pv (C : Cu) (j : Nat) : List Tr := match D[j]? with
  | some (.one x) => tv D C x
  | some (.list _ f _ _) => (f (cuA D C j)).2
  | some (.toks l _ _) => (tkq l (cuA D C j)).2
  | _ => []
def bv (C : Cu) (j : Nat) : List Tr := match D[j]? with
  | some (.bund xs) => xs.flatMap (pv D C)
  | _ => []
def nvl (C : Cu) (j : Nat) : List Tr := match D[j]? with
  | some (.node k r) => [nod k (bv D C r)]
  | _ => []
def isCallAt (j : Nat) : Bool := ((D[j]?).map Kd.isCall).getD false
/-- the call ahead -/
def pc : Nat → Option Nat
  | 0 => none
  | i + 1 => if isCallAt D i = true then some i else pc i
def depsAt (j : Nat) (k : Kd) : List Nat := k.deps j ++ if k.isCall = true then (pc D j).toList else []
def WFk : Kd → Prop
  | .row l => l.length ≤ 9
  | .tree _ _ x => D[x]? = some .load
  | .one x => ∃ F f y, D[x]? = some (.tree F f y)
  | .list _ _ _ x => D[x]? = some .load
  | .toks l x r => D[x]? = some .load ∧ D[r]? = some (.row l) ∧ l.length ≤ 9
  | .bund xs => xs.length ≤ 12 ∧ (xs.all fun x => ((D[x]?).map Kd.isPart).getD false) = true ∧ (xs.map fun x => ((D[x]?).map Kd.mx).getD 0).sum ≤ 20000
  | .node _ r => ∃ xs, D[r]? = some (.bund xs)
  | .store x => ∃ k r, D[x]? = some (.node k r)
  | _ => True
end
/-- a function that is entered -/
def Ent (F : Nat) : Prop := ∀ (args : Array Value) (w : World), (callFunc F args).run Tryz.prog w = .ok (.enter F args) w
theorem ent_of {F : FuncId} {fn : Func} (hf : Tryz.prog.funcs[F]? = some fn) (hname : (fn.name == "runtime.NumGoroutine") = false) (hb : fn.body.isSome = true) : Ent F := fun args w => by
  obtain ⟨c, hc⟩ := Option.isSome_iff_exists.1 hb
  have h1 : fn.name ≠ "runtime.NumGoroutine" := by simpa using hname
  simp [callFunc, hf, h1, hc]
section
variable (b : Nat) (A : Option Addr) (c Dp : Nat)
/-- the contracts -/
def Con : Kd → Prop
  | .tree F f _ => Ent F ∧ PartF F b A c f Dp ∧ GX f Dp
  | .list F f n _ => Ent F ∧ WhatF F b A c f Dp ∧ GP f Dp 0 ∧ (9000 ≤ n ∨ ∀ C : Cu, C.Ok → (f C).2.length ≤ n)
  | _ => True
end
def Fits (base j : Nat) (o : Oper) : Kd → Prop
  | .load => o.op = .load 86 (.tmp 1) ∧ o.dst = some (base + j)
  | .row l => (∃ ps, o.op = .buildSlice 117 l.length ps ∧ ps.toList = (l.zipIdx 0).map fun p => (p.2, .const (.string p.1))) ∧ 0 < l.length ∧ o.dst = some (base + j)
  | .tree F _ x => (∃ ty, o.op = .call { callee := .value (.func F), args := #[.tmp (base + x)], argTypes := ty }) ∧ o.dst = some (base + j)
  | .one x => (∃ ty, o.op = .call { callee := .value (.func 97), args := #[.tmp (base + x)], argTypes := ty }) ∧ o.dst = some (base + j)
  | .list F _ _ x => (∃ ty, o.op = .call { callee := .value (.func F), args := #[.tmp (base + x)], argTypes := ty }) ∧ o.dst = some (base + j)
  | .toks _ x r => (∃ ty, o.op = .call { callee := .value (.func 100), args := #[.tmp (base + x), .tmp (base + r)], argTypes := ty }) ∧ o.dst = some (base + j)
  | .bund xs => (∃ ps, o.op = .buildSlice 100 xs.length ps ∧ ps.toList = (xs.zipIdx 0).map fun p => (p.2, .tmp (base + p.1))) ∧ 0 < xs.length ∧ o.dst = some (base + j)
  | .node k r => (∃ ty, o.op = .call { callee := .value (.func 96), args := #[.const (.int .i64 k), .tmp (base + r)], argTypes := ty }) ∧ o.dst = some (base + j)
  | .store x => o.op = .store 30 (.tmp 2) (.tmp (base + x)) ∧ o.dst = none
def afterOk (o : Oper) (ds : List Nat) : Bool := ds.all fun x => o.after.any fun e => Region.binds .any e && e.on == x
def afterLt (o : Oper) (j : Nat) : Bool := o.after.all fun e => decide (e.on < j)

section
variable {D : List Kd} {C C0 : Cu}
theorem Kd.go_id {k : Kd} (h : k.isCall = false) : k.go C = C := by cases k <;> first | rfl | cases h
theorem cuA_skip {p : Nat} : ∀ {i : Nat}, p ≤ i → (∀ j, p ≤ j → j < i → isCallAt D j = false) → cuA D C i = cuA D C p
  | 0, h, _ => by rw [Nat.le_zero.1 h]
  | i + 1, h, hn => by
    rcases Nat.lt_or_ge p (i + 1) with hlt | hge
    · have ih := cuA_skip (p := p) (i := i) (by omega) fun j h1 h2 => hn j h1 (by omega)
      have hi := hn i (by omega) (by omega)
      show (match D[i]? with | some k => k.go (cuA D C i) | none => cuA D C i) = _
      unfold isCallAt at hi
      cases hx : D[i]? with
      | none => exact ih
      | some k =>
        rw [hx] at hi
        exact (Kd.go_id hi).trans ih
    · rw [show p = i + 1 from by omega]
theorem cuA_at {i : Nat} {k : Kd} (h : D[i]? = some k) : cuA D C (i + 1) = k.go (cuA D C i) := by
  show (match D[i]? with | some k => k.go (cuA D C i) | none => cuA D C i) = _
  rw [h]
theorem pc_some : ∀ {i q : Nat}, pc D i = some q → q < i ∧ isCallAt D q = true ∧ ∀ j, q < j → j < i → isCallAt D j = false
  | 0, _, h => by cases h
  | i + 1, q, h => by
    unfold pc at h
    split at h
    · rename_i hc
      injection h with h
      subst h
      exact ⟨Nat.lt_succ_self _, hc, fun j h1 h2 => by omega⟩
    · rename_i hc
      obtain ⟨h1, h2, h3⟩ := pc_some h
      exact ⟨by omega, h2, fun j h4 h5 => by
        rcases Nat.lt_or_ge j i with h6 | h6
        · exact h3 j h4 h6
        · rw [show j = i from by omega]; simpa using hc⟩
theorem pc_none : ∀ {i : Nat}, pc D i = none → ∀ j, j < i → isCallAt D j = false
  | 0, _, j, hj => absurd hj (Nat.not_lt_zero _)
  | i + 1, h, j, hj => by
    unfold pc at h
    split at h
    · cases h
    · rename_i hc
      rcases Nat.lt_or_ge j i with h6 | h6
      · exact pc_none h j h6
      · rw [show j = i from by omega]; simpa using hc
end

/-- what an operation that is done has left -/
def Hold (D : List Kd) (C0 : Cu) (b base : Nat) (a : Act) (bs : List (Nat × Obj)) (ts : List Tr) (j : Nat) : Kd → Prop
  | .load => a.eval (.tmp (base + j)) = rcv b
  | .row l => ∃ g, a.eval (.tmp (base + j)) = .slice (some ⟨g, 0, none⟩) l.length l.length ∧ (g, rowO l) ∈ bs ∧ g ≠ b
  | .tree _ _ _ => ∃ T, a.eval (.tmp (base + j)) = nv T ∧ T ∈ ts ∧ [pl T] = tv D C0 j
  | .bund xs => ∃ (g : Nat) (ps : List Pp), a.eval (.tmp (base + j)) = .slice (some ⟨g, 0, none⟩) xs.length xs.length ∧ (g, ppO ps) ∈ bs ∧ ps.length = xs.length ∧ (∀ p ∈ ps, bnd p.A p.c p.m ∈ ts) ∧ (∀ p ∈ ps, p.A = none → p.c = 0) ∧ (ps.flatMap Pp.m).map pl = bv D C0 j ∧ sz_ ps ≤ 20000
  | .node _ _ => ∃ T, a.eval (.tmp (base + j)) = nv T ∧ T ∈ ts ∧ [pl T] = nvl D C0 j
  | .store _ => True
  | k => ∃ p : Pp, a.eval (.tmp (base + j)) = p.v ∧ bnd p.A p.c p.m ∈ ts ∧ (p.A = none → p.c = 0) ∧ p.m.map pl = pv D C0 j ∧ p.m.length ≤ k.mx
theorem Hold.mono {D : List Kd} {C0 : Cu} {b base : Nat} {a a' : Act} {bs bs' : List (Nat × Obj)} {ts ts' : List Tr} {j : Nat} {k : Kd} (h : Hold D C0 b base a bs ts j k) (ha : a'.eval (.tmp (base + j)) = a.eval (.tmp (base + j))) (hb : ∀ q ∈ bs, q ∈ bs') (ht : ∀ T ∈ ts, T ∈ ts') : Hold D C0 b base a' bs' ts' j k := by
  cases k <;> simp only [Hold, ha] at h ⊢
  · exact h
  · obtain ⟨g, h1, h2, h3⟩ := h; exact ⟨g, h1, hb _ h2, h3⟩
  · obtain ⟨T, h1, h2, h3⟩ := h; exact ⟨T, h1, ht _ h2, h3⟩
  · obtain ⟨p, h1, h2, h3⟩ := h; exact ⟨p, h1, ht _ h2, h3⟩
  · obtain ⟨p, h1, h2, h3⟩ := h; exact ⟨p, h1, ht _ h2, h3⟩
  · obtain ⟨p, h1, h2, h3⟩ := h; exact ⟨p, h1, ht _ h2, h3⟩
  · obtain ⟨g, ps, h1, h2, h3, h4, h5⟩ := h; exact ⟨g, ps, h1, hb _ h2, h3, fun p hp => ht _ (h4 p hp), h5⟩
  · obtain ⟨T, h1, h2, h3⟩ := h; exact ⟨T, h1, ht _ h2, h3⟩

/-- while the region goes -/
structure St (D : List Kd) (C0 : Cu) (b : Nat) (A : Option Addr) (c base nt z1 z2 : Nat) (df : List Deferred) (w0 : World) (L : Array Bool) (a : Act) (w : World) (p : Nat) (C : Cu) (bs : List (Nat × Obj)) (zs : List Nat) (ts : List Tr) : Prop where
  sz : L.size = D.length
  df : a.defers = df
  nt : a.tmps.size = nt
  e1 : a.eval (.tmp 1) = .pointer (some ⟨z1, 0, none⟩)
  e2 : a.eval (.tmp 2) = .pointer (some ⟨z2, 0, none⟩)
  un : L.getD (D.length - 1) false = false
  cu : C = cuA D C0 p
  d : C.d = C0.d
  ek : EK b A c no (· = b) w0 C bs zs ts w
  m1 : (z1, sdb b) ∈ bs
  m2 : (z2, zb5) ∈ bs
  m3 : z2 ∈ zs
  pf : ∀ j, isCallAt D j = true → (L.getD j false = true ↔ j < p)
  hd : ∀ j k, D[j]? = some k → L.getD j false = true → Hold D C0 b base a bs ts j k

section
variable {D : List Kd} {C0 : Cu} {b : Nat} {A : Option Addr} {c base nt z1 z2 : Nat} {df : List Deferred} {w0 : World} {L : Array Bool} {a : Act} {w : World} {p : Nat} {C : Cu} {bs : List (Nat × Obj)} {zs : List Nat} {ts : List Tr}
theorem getD_set {L : Array Bool} {i j : Nat} (hi : i < L.size) : (L.setIfInBounds i true).getD j false = if j = i then true else L.getD j false := by
  rw [Array.getD_eq_getD_getElem?, Array.getD_eq_getD_getElem?]
  by_cases h : j = i
  · subst h
    rw [if_pos rfl, Array.getElem?_setIfInBounds_self_of_lt hi]
    rfl
  · rw [if_neg h, Array.getElem?_setIfInBounds_ne (Ne.symm h)]
theorem St.put (h : St D C0 b A c base nt z1 z2 df w0 L a w p C bs zs ts) (hb : 2 < base) {i : Nat} (hi : i + 1 < D.length) (hnt : base + i < nt) {k : Kd} (hk : D[i]? = some k) (v : Value) {w' : World} {p' : Nat} {C' : Cu} {bs' : List (Nat × Obj)} {zs' : List Nat} {ts' : List Tr} (ek : EK b A c no (· = b) w0 C' bs' zs' ts' w')
    (hbs : ∀ q ∈ bs, q ∈ bs') (hzs : ∀ z ∈ zs, z ∈ zs') (hts : ∀ T ∈ ts, T ∈ ts') (cu : C' = cuA D C0 p') (d : C'.d = C0.d) (pf : ∀ j, isCallAt D j = true → ((j = i ∨ L.getD j false = true) ↔ j < p')) (hold : Hold D C0 b base (a.put (some (base + i)) v) bs' ts' i k) :
    St D C0 b A c base nt z1 z2 df w0 (L.setIfInBounds i true) (a.put (some (base + i)) v) w' p' C' bs' zs' ts' := by
  have hiL : i < L.size := by rw [h.sz]; omega
  have n1 : (1 : Nat) ≠ base + i := by omega
  have n2 : (2 : Nat) ≠ base + i := by omega
  refine ⟨by simpa using h.sz, h.df, by show (a.tmps.setIfInBounds _ _).size = nt; simpa using h.nt, (eval_put_ne n1).trans h.e1, (eval_put_ne n2).trans h.e2, by rw [getD_set hiL, if_neg (by omega)]; exact h.un, cu, d, ek, hbs _ h.m1, hbs _ h.m2, hzs _ h.m3, fun j hj => ?_, fun j kj hkj hj => ?_⟩
  · rw [getD_set hiL, ← pf j hj]
    by_cases e : j = i <;> simp [e]
  · rw [getD_set hiL] at hj
    by_cases e : j = i
    · subst e
      rw [hk] at hkj
      injection hkj with hkj
      rw [← hkj]
      exact hold
    · rw [if_neg e] at hj
      have n3 : base + j ≠ base + i := by omega
      exact (h.hd j kj hkj hj).mono (eval_put_ne n3) hbs hts
end
end Go.Proofs.YtfmlcddakfbleaaGreatDoor

namespace Go.Proofs.YtfmlcddakfbleaaGreatDoor
open Go.RowKit SignMath TreeMath

theorem unl {L : Array Bool} {i : Nat} (h : L.getD i true = false) : L.getD i false = false := by
  rcases Nat.lt_or_ge i L.size with h' | h'
  · rw [← listed_of h']; exact h
  · simp [Array.getD, Nat.not_lt.2 h'] at h
theorem run_call1 {o : Oper} {a : Act} {w : World} {F : Nat} {x : Operand} {ty : Array TypeId} (he : Ent F) (ho : o.op = .call { callee := .value (.func F), args := #[x], argTypes := ty }) : (execOp a.eval o).run Tryz.prog w = .ok (.enter F #[a.eval x]) w := by
  have : execOp a.eval o = callFunc F (#[] ++ #[x].map a.eval ++ #[]) := by
    unfold execOp
    rw [ho]
    rfl
  rw [this, he]
  simp
theorem run_call2 {o : Oper} {a : Act} {w : World} {F : Nat} {x y : Operand} {ty : Array TypeId} (he : Ent F) (ho : o.op = .call { callee := .value (.func F), args := #[x, y], argTypes := ty }) : (execOp a.eval o).run Tryz.prog w = .ok (.enter F #[a.eval x, a.eval y]) w := by
  have : execOp a.eval o = callFunc F (#[] ++ #[x, y].map a.eval ++ #[]) := by
    unfold execOp
    rw [ho]
    rfl
  rw [this, he]
  simp
theorem ent_one : Ent 97 := ent_of Tryz.func97 (by kernel_rfl) (by kernel_rfl)
theorem ent_toks : Ent 100 := ent_of Tryz.func100 (by kernel_rfl) (by kernel_rfl)
theorem ent_node : Ent 96 := ent_of Tryz.func96 (by kernel_rfl) (by kernel_rfl)
set_option maxRecDepth 100000 in
theorem size_reader : ∀ w : World, (sizeOf 86).run Tryz.prog w = .ok 1 w := fun _ => rfl
theorem run_load {o : Oper} {a : Act} {w : World} {x : Operand} {z b : Nat} (ho : o.op = .load 86 x) (hx : a.eval x = .pointer (some ⟨z, 0, none⟩)) (hz : w.heap[z]? = some (sdb b)) : (execOp a.eval o).run Tryz.prog w = .ok (.value (rcv b)) w := by
  have s0 := cell_heap hz (i := 0)
  simp only [List.getElem?_toArray, List.getElem?_cons_zero] at s0
  simp only [execOp, ho, hx]
  go_simp
theorem tkq_len : ∀ (l : List ByteArray) (C : Cu), (tkq l C).2.length = l.length
  | [], _ => rfl
  | s :: l, C => by
    show (((wnt s C).2 :: (tkq l (wnt s C).1).2)).length = _
    rw [List.length_cons, tkq_len l, List.length_cons]

section
variable {D : List Kd} {C0 : Cu} {b : Nat} {A : Option Addr} {c base nt z1 z2 : Nat} {df : List Deferred} {w0 : World} {L : Array Bool} {a : Act} {w : World} {p : Nat} {C : Cu} {bs : List (Nat × Obj)} {zs : List Nat} {ts : List Tr}
theorem St.chain (h : St D C0 b A c base nt z1 z2 df w0 L a w p C bs zs ts) {i : Nat} (hc : isCallAt D i = true) (hu : L.getD i true = false) (hpc : ∀ q, pc D i = some q → L.getD q false = true) : cuA D C0 i = C ∧ ∀ j, isCallAt D j = true → ((j = i ∨ L.getD j false = true) ↔ j < i + 1) := by
  have hpi : p ≤ i := by
    rcases Nat.lt_or_ge i p with h1 | h1
    · have := (h.pf i hc).2 h1
      rw [unl hu] at this
      cases this
    · exact h1
  have hno : ∀ j, p ≤ j → j < i → isCallAt D j = false := fun j h1 h2 => by
    cases hq : pc D i with
    | none => exact pc_none hq j h2
    | some q =>
      obtain ⟨h3, h4, h5⟩ := pc_some hq
      have := (h.pf q h4).1 (hpc q hq)
      exact h5 j (by omega) h2
  refine ⟨(cuA_skip hpi hno).trans h.cu.symm, fun j hj => ?_⟩
  rw [h.pf j hj]
  constructor
  · rintro (e | e) <;> omega
  · intro e
    rcases Nat.lt_or_ge j p with h1 | h1
    · exact .inr h1
    · by_cases e2 : j = i
      · exact .inl e2
      · have := hno j h1 (by omega)
        rw [hj] at this
        cases this
theorem St.other (h : St D C0 b A c base nt z1 z2 df w0 L a w p C bs zs ts) {i : Nat} (hc : isCallAt D i = false) : ∀ j, isCallAt D j = true → ((j = i ∨ L.getD j false = true) ↔ j < p) := fun j hj => by
  rw [← h.pf j hj]
  refine ⟨fun e => e.resolve_left fun e => ?_, .inr⟩
  rw [e, hc] at hj
  cases hj
/-- the parts that are there -/
theorem St.parts (h : St D C0 b A c base nt z1 z2 df w0 L a w p C bs zs ts) : ∀ (xs : List Nat), (xs.all fun x => ((D[x]?).map Kd.isPart).getD false) = true → (∀ x ∈ xs, L.getD x false = true) →
    ∃ ps : List Pp, ps.length = xs.length ∧ (xs.map fun x => a.eval (.tmp (base + x))) = ps.map Pp.v ∧ (∀ q ∈ ps, bnd q.A q.c q.m ∈ ts) ∧ (∀ q ∈ ps, q.A = none → q.c = 0) ∧ (ps.flatMap Pp.m).map pl = xs.flatMap (pv D C0) ∧ (ps.flatMap Pp.m).length ≤ (xs.map fun x => ((D[x]?).map Kd.mx).getD 0).sum
  | [], _, _ => ⟨[], rfl, rfl, by simp, by simp, rfl, Nat.le_refl _⟩
  | x :: xs, hp, hl => by
    rw [List.all_cons, Bool.and_eq_true] at hp
    obtain ⟨ps, g1, g2, g3, g4, g5, g6⟩ := h.parts xs hp.2 fun y hy => hl y (List.mem_cons_of_mem _ hy)
    have h1 := hp.1
    cases hx : D[x]? with
    | none => rw [hx] at h1; cases h1
    | some k =>
      rw [hx] at h1
      have hh := h.hd x k hx (hl x (by simp))
      have hP : ∃ q : Pp, a.eval (.tmp (base + x)) = q.v ∧ bnd q.A q.c q.m ∈ ts ∧ (q.A = none → q.c = 0) ∧ q.m.map pl = pv D C0 x ∧ q.m.length ≤ k.mx := by
        cases k <;> first | exact hh | cases h1
      obtain ⟨q, q1, q2, q3, q4, q5⟩ := hP
      refine ⟨q :: ps, by simp [g1], by rw [List.map_cons, List.map_cons, q1, g2], ?_, ?_, ?_, ?_⟩
      · intro y hy
        rcases List.mem_cons.1 hy with rfl | hy
        · exact q2
        · exact g3 y hy
      · intro y hy
        rcases List.mem_cons.1 hy with rfl | hy
        · exact q3
        · exact g4 y hy
      · rw [List.flatMap_cons, List.map_append, q4, g5, List.flatMap_cons]
      · rw [List.flatMap_cons, List.length_append, List.map_cons, List.sum_cons, hx]
        exact Nat.add_le_add q5 g6
theorem EK.noded2 {S X : Nat → Prop} {w W : World} (h : EK b A c S X w C bs zs ts W) (k : Int) (ps : List Pp) (n : Nat) (hn : ps.length = n) (hn6 : n ≤ 12) (hps : ∀ p ∈ ps, bnd p.A p.c p.m ∈ ts) (hnil : ∀ p ∈ ps, p.A = none → p.c = 0) (hlen : sz_ ps ≤ 20000) (g : Nat) (hg : (g, ppO ps) ∈ bs) :
    Calls Tryz.prog 96 #[.int .i64 k, .slice (some ⟨g, 0, none⟩) n n] W fun e W' => ∃ A' c', e = .returned (nv ⟨k, ⟨#[]⟩, ⟨#[]⟩, 0, A', c', ps.flatMap Pp.m⟩) ∧ EK b A c S X w C bs zs ((⟨k, ⟨#[]⟩, ⟨#[]⟩, 0, A', c', ps.flatMap Pp.m⟩ : Tr) :: ts) W' := by
  have hlt : ∀ q, (S q ∨ w.heap.size ≤ q ∧ q < W.heap.size) ∧ q ∉ zs → q < W.heap.size := fun q hq => (h.inS hq.1).1
  refine (snode_any k ps n hn hn6 g 0 (ppO ps) W (h.box hg) (fun W' h' => pp_row W' _ ps 23 _ rfl h') (fun p hp => ((tn_iff.1 (h.tn _ (hps p hp))).2.1).keep (fun _ _ _ => rfl) hlt) hnil hlen).mono ?_
  rintro e W' ⟨A', c', rfl, hrow, hown, hb⟩
  have h2 := h.below hb
  refine ⟨A', c', rfl, h2.cu, h2.ok, h2.off, h2.rl, h2.bX, h2.hX, h2.hS, h2.has, h2.zn, fun Y hY => ?_⟩
  rcases List.mem_cons.1 hY with rfl | hY
  · refine tn_iff.2 ⟨rng0, hrow.tks.keep (fun _ _ _ => rfl) fun q hq => ?_, fun x hx => ?_⟩
    · have := hown q hq
      have hl := hrow.lt q hq
      have hs := h.size
      exact ⟨.inr ⟨by omega, hl⟩, fun hz => by have := (h.zn q hz).2; omega⟩
    · obtain ⟨p, hp, hx⟩ := List.mem_flatMap.1 hx
      exact (h2.tn _ (hps p hp)).kid hx
  · exact h2.tn Y hY
end
end Go.Proofs.YtfmlcddakfbleaaGreatDoor

namespace Go.Proofs.YtfmlcddakfbleaaGreatDoor
open Go.RowKit SignMath TreeMath

def Kd.isStore : Kd → Bool
  | .store _ => true
  | _ => false
/-- an operation is what it should be -/
def Fit1 (D : List Kd) (b : Nat) (A : Option Addr) (c Dp base j : Nat) (o : Oper) (k : Kd) : Prop :=
  o.guard = none ∧ Fits base j o k ∧ afterOk o (depsAt D j k) = true ∧ afterLt o j = true ∧ (k.isStore == decide (j + 1 = D.length)) = true ∧ WFk D k ∧ Con b A c Dp k
def FitL (D : List Kd) (b : Nat) (A : Option Addr) (c Dp base : Nat) : Nat → List Oper → List Kd → Prop
  | j, o :: os, k :: ks => Fit1 D b A c Dp base j o k ∧ FitL D b A c Dp base (j + 1) os ks
  | _, [], [] => True
  | _, _, _ => False
theorem fitL_at {D : List Kd} {b : Nat} {A : Option Addr} {c Dp base : Nat} : ∀ {j : Nat} {os : List Oper} {ks : List Kd}, FitL D b A c Dp base j os ks → os.length = ks.length ∧ ∀ (i : Nat) (o : Oper) (k : Kd), os[i]? = some o → ks[i]? = some k → Fit1 D b A c Dp base (j + i) o k
  | _, [], [], _ => ⟨rfl, fun i o k h => by simp at h⟩
  | _, [], _ :: _, h => h.elim
  | _, _ :: _, [], h => h.elim
  | j, o :: os, k :: ks, h => by
    obtain ⟨h1, h2⟩ := fitL_at h.2
    refine ⟨by rw [List.length_cons, List.length_cons, h1], fun i o' k' ho hk => ?_⟩
    cases i with
    | zero =>
      rw [List.getElem?_cons_zero] at ho hk
      injection ho with ho
      injection hk with hk
      rw [← ho, ← hk]
      exact h.1
    | succ i =>
      rw [List.getElem?_cons_succ] at ho hk
      have := h2 i o' k' ho hk
      rwa [show j + 1 + i = j + (i + 1) from by omega] at this

section
variable {D : List Kd} {C0 : Cu} {b : Nat} {A : Option Addr} {c Dp base nt z1 z2 : Nat} {df : List Deferred} {w0 : World} {ops : Array Oper} {Q : Exit → Act → World → Prop}
/-- what the region keeps; behind the store: what it leaves -/
def Ir (D : List Kd) (C0 : Cu) (b : Nat) (A : Option Addr) (c base nt z1 z2 : Nat) (df : List Deferred) (w0 : World) (L : Array Bool) (a : Act) (w : World) : Prop :=
  (∃ p C bs zs ts, St D C0 b A c base nt z1 z2 df w0 L a w p C bs zs ts) ∨
  (L.size = D.length ∧ (∀ j, j < D.length → L.getD j false = true) ∧ a.defers = df ∧ a.tmps.size = nt ∧ a.eval (.tmp 1) = .pointer (some ⟨z1, 0, none⟩) ∧ a.eval (.tmp 2) = .pointer (some ⟨z2, 0, none⟩) ∧ ∃ T zs x, D[D.length - 1]? = some (.store x) ∧ EK b A c no (· = b) w0 (cuA D C0 D.length) [(z2, .cells (ncc T) 30 (0, 0))] zs [T] w ∧ [pl T] = nvl D C0 x)

set_option maxHeartbeats 2000000 in
theorem ir_step (hb2 : 2 < base) (hn : base + D.length ≤ nt + 1) (h200 : C0.d ≤ 200) (hDp : Dp ≤ C0.d) (hF : ∀ (i : Nat) (o : Oper) (k : Kd), ops[i]? = some o → D[i]? = some k → Fit1 D b A c Dp base i o k) (hsz : ops.size = D.length)
    {L : Array Bool} {a : Act} {w : World} {i : Nat} (hI : Ir D C0 b A c base nt z1 z2 df w0 L a w) (hi : i ∈ Region.ready .any ops L) : wpOp Tryz.prog ops Q i (fun a' w' => Ir D C0 b A c base nt z1 z2 df w0 (L.setIfInBounds i true) a' w') a w := by
  obtain ⟨hu, o, ho, hall⟩ := mem_ready.1 hi
  have hio : i < ops.size := (Array.getElem?_eq_some_iff.1 ho).1
  rcases hI with ⟨p, C, bs, zs, ts, h⟩ | ⟨-, hAll, -⟩
  case inr =>
    have := hAll i (by omega)
    rw [unl hu] at this
    cases this
  obtain ⟨k, hk⟩ : ∃ k, D[i]? = some k := ⟨_, List.getElem?_eq_getElem (by omega)⟩
  obtain ⟨hg, hf, haf, -, hst, hwf, hcon⟩ := hF i o k ho hk
  have hdep : ∀ x ∈ depsAt D i k, L.getD x false = true := fun x hx => by
    have h1 := List.all_eq_true.1 haf x hx
    obtain ⟨e, he, h2⟩ := Array.any_eq_true'.1 h1
    rw [Bool.and_eq_true] at h2
    have h3 : e.on = x := by simpa using h2.2
    rw [← h3]
    exact hall e he h2.1
  have hcall : ∀ q, k.isCall = true → pc D i = some q → L.getD q false = true := fun q hc hq => hdep q (by unfold depsAt; rw [if_pos hc, hq]; simp)
  have hda : ∀ x ∈ k.deps i, L.getD x false = true := fun x hx => hdep x (by unfold depsAt; exact List.mem_append_left _ hx)
  have hat : isCallAt D i = k.isCall := by unfold isCallAt; rw [hk]; rfl
  refine step_wp ho hg ?_
  have hEb : ∀ (s : k.isStore = false), i + 1 < D.length := fun s => by
    rw [s] at hst
    have : ¬ (i + 1 = D.length) := by simpa using hst
    omega
  have h2C : C.d ≤ 200 := by rw [h.d]; exact h200
  have hDC : Dp ≤ C.d := by rw [h.d]; exact hDp
  cases k with
  | load =>
    obtain ⟨h1, h2⟩ := hf
    have hl := hEb rfl
    refine wp_val (run_load h1 h.e1 (h.ek.box h.m1)) ?_
    rw [h2]
    have hnt : base + i < a.tmps.size := by rw [h.nt]; omega
    exact .inl ⟨p, C, bs, zs, ts, h.put hb2 hl (by omega) hk _ h.ek (fun _ h => h) (fun _ h => h) (fun _ h => h) h.cu h.d (h.other hat) (eval_put hnt)⟩
  | row l =>
    obtain ⟨⟨ps, h1, h3⟩, h4, h2⟩ := hf
    have hl := hEb rfl
    have hlen : (l.map Value.string).length = l.length := List.length_map ..
    have hr := run_flat (P := Tryz.prog) (a := a) (w := w) (o := o) 117 9 ps (l.map Value.string) (by rw [hlen]; exact h1) (by kernel_rfl) (by kernel_rfl) (by kernel_rfl) (by rw [hlen]; exact h4) (by rw [hlen]; have h5 : l.length ≤ 9 := hwf; omega) (by intro v hv; obtain ⟨s, -, rfl⟩ := List.mem_map.1 hv; rfl) (by
      rw [Array.toList_map, h3, List.zipIdx_map, List.map_map, List.map_map]
      rfl)
    rw [hlen] at hr
    refine wp_val hr ?_
    rw [h2]
    have hnt : base + i < a.tmps.size := by rw [h.nt]; omega
    have hgb : w.heap.size ≠ b := by have := h.ek.cu.lt; omega
    exact .inl ⟨p, C, _, _, ts, h.put hb2 hl (by omega) hk _ (h.ek.alloc (rowO l)) (fun _ h => List.mem_cons_of_mem _ h) (fun _ h => List.mem_cons_of_mem _ h) (fun _ h => h) h.cu h.d (h.other hat) ⟨w.heap.size, eval_put hnt, by simp, hgb⟩⟩
  | tree F f x =>
    obtain ⟨⟨ty, h1⟩, h2⟩ := hf
    obtain ⟨he, hP, hG⟩ := hcon
    have hl := hEb rfl
    have hx : a.eval (.tmp (base + x)) = rcv b := h.hd x _ hwf (hda x (by simp [Kd.deps]))
    have hrun := run_call1 (a := a) (w := w) he h1
    rw [hx] at hrun
    have hGG := hG C h.ek.ok h2C hDC
    obtain ⟨hci, hpf⟩ := h.chain hat hu (fun q hq => hcall q rfl hq)
    have hnt : base + i < a.tmps.size := by rw [h.nt]; omega
    refine wp_calls hrun (hP w C h.ek.cu h.ek.ok h2C hDC) ?_
    rintro e w' ⟨T, rfl, hp, hT, hm, hof⟩
    refine ⟨_, rfl, ?_⟩
    rw [h2]
    exact .inl ⟨i + 1, (f C).1, bs, zs, T :: ts, h.put hb2 hl (by omega) hk _ (h.ek.got hT hm ⟨hGG.ok, hGG.L⟩ hof) (fun _ h => h) (fun _ h => h) (fun _ h => List.mem_cons_of_mem _ h) (by rw [cuA_at hk, hci]; rfl) (by rw [hGG.d]; exact h.d) hpf ⟨T, eval_put hnt, by simp, by unfold tv; rw [hk]; show [pl T] = [(f (cuA D C0 i)).2]; rw [hci, hp]⟩⟩
  | one x =>
    obtain ⟨⟨ty, h1⟩, h2⟩ := hf
    obtain ⟨F, f, y, hxk⟩ := hwf
    have hl := hEb rfl
    obtain ⟨T, hx, hTt, hTv⟩ := h.hd x _ hxk (hda x (by simp [Kd.deps]))
    have hrun := run_call1 (a := a) (w := w) ent_one h1
    rw [hx] at hrun
    obtain ⟨hci, hpf⟩ := h.chain hat hu (fun q hq => hcall q rfl hq)
    have hnt : base + i < a.tmps.size := by rw [h.nt]; omega
    refine wp_calls hrun (one_any T w) ?_
    rintro e w' ⟨rfl, rfl⟩
    refine ⟨_, rfl, ?_⟩
    rw [h2]
    exact .inl ⟨i + 1, C, bs, zs, _, h.put hb2 hl (by omega) hk _ (h.ek.oned hTt) (fun _ h => h) (fun _ h => h) (fun _ h => List.mem_cons_of_mem _ h) (by rw [cuA_at hk, hci]; rfl) h.d hpf ⟨⟨some ⟨w.heap.size + 1, 0, none⟩, 1, [T]⟩, eval_put hnt, by simp, by simp, by unfold pv; rw [hk]; exact hTv, Nat.le_refl _⟩⟩
  | list F f n x =>
    obtain ⟨⟨ty, h1⟩, h2⟩ := hf
    obtain ⟨he, hP, hG, hmx⟩ := hcon
    have hl := hEb rfl
    have hx : a.eval (.tmp (base + x)) = rcv b := h.hd x _ hwf (hda x (by simp [Kd.deps]))
    have hrun := run_call1 (a := a) (w := w) he h1
    rw [hx] at hrun
    have hGG := hG C h.ek.ok h2C hDC
    obtain ⟨hci, hpf⟩ := h.chain hat hu (fun q hq => hcall q rfl hq)
    have hnt : base + i < a.tmps.size := by rw [h.nt]; omega
    refine wp_calls hrun (hP w C h.ek.cu h.ek.ok h2C hDC) ?_
    rintro e w' ⟨Al, cl, m, rfl, hp, hnil, hTk, hT, h9, hm, hof⟩
    refine ⟨_, rfl, ?_⟩
    rw [h2]
    have hml : m.length ≤ n := by
      rcases hmx with e | e
      · omega
      · rw [show m.length = (f C).2.length from by rw [← hp, List.length_map]]; exact e C h.ek.ok
    exact .inl ⟨i + 1, (f C).1, bs, zs, _, h.put hb2 hl (by omega) hk _ (h.ek.gotl (cl := cl) hTk hT hm ⟨hGG.ok, hGG.L⟩ hof) (fun _ h => h) (fun _ h => h) (fun _ h => List.mem_cons_of_mem _ h) (by rw [cuA_at hk, hci]; rfl) (by rw [hGG.d]; exact h.d) hpf ⟨⟨Al, cl, m⟩, eval_put hnt, by simp, hnil, by unfold pv; rw [hk]; show m.map pl = (f (cuA D C0 i)).2; rw [hci, hp], hml⟩⟩
  | toks l x r =>
    obtain ⟨⟨ty, h1⟩, h2⟩ := hf
    obtain ⟨hxk, hrk, hl4⟩ := hwf
    have hl := hEb rfl
    have hx : a.eval (.tmp (base + x)) = rcv b := h.hd x _ hxk (hda x (by simp [Kd.deps]))
    obtain ⟨g, hr, hgs, hgb⟩ := h.hd r _ hrk (hda r (by simp [Kd.deps]))
    have hrun := run_call2 (a := a) (w := w) ent_toks h1
    rw [hx, hr] at hrun
    have hGG := Got.tkq l Dp C h.ek.ok h2C hDC
    obtain ⟨hci, hpf⟩ := h.chain hat hu (fun q hq => hcall q rfl hq)
    have hnt : base + i < a.tmps.size := by rw [h.nt]; omega
    refine wp_calls hrun (tokens_any l l.length rfl hl4 g 0 (rowO l) w C hgb (h.ek.box hgs) (fun W' h' => ss_row W' g l 9 _ rfl h') h.ek.cu h.ek.ok) ?_
    rintro e w' ⟨Al, cl, m, rfl, hp, hnil, hTk, hT, h9, hm, hof⟩
    refine ⟨_, rfl, ?_⟩
    rw [h2]
    have hml : m.length ≤ l.length := by rw [show m.length = (tkq l C).2.length from by rw [← hp, List.length_map], tkq_len]; exact Nat.le_refl _
    exact .inl ⟨i + 1, (tkq l C).1, bs, zs, _, h.put hb2 hl (by omega) hk _ (h.ek.gotl (cl := cl) hTk hT hm ⟨hGG.ok, hGG.L⟩ hof) (fun _ h => h) (fun _ h => h) (fun _ h => List.mem_cons_of_mem _ h) (by rw [cuA_at hk, hci]; rfl) (by rw [hGG.d]; exact h.d) hpf ⟨⟨Al, cl, m⟩, eval_put hnt, by simp, hnil, by unfold pv; rw [hk]; show m.map pl = (tkq l (cuA D C0 i)).2; rw [hci, hp], hml⟩⟩
  | bund xs =>
    obtain ⟨⟨ps, h1, h3⟩, h4, h2⟩ := hf
    obtain ⟨h6, hpt, hsum⟩ := hwf
    have hl := hEb rfl
    obtain ⟨qs, g1, g2, g3, g4, g5, g6⟩ := h.parts xs hpt fun x hx => hda x (by simpa [Kd.deps] using hx)
    have hlen : (qs.map Pp.v).length = xs.length := by rw [List.length_map, g1]
    have hr := run_flat (P := Tryz.prog) (a := a) (w := w) (o := o) 100 23 ps (qs.map Pp.v) (by rw [hlen]; exact h1) (by kernel_rfl) (by kernel_rfl) (by kernel_rfl) (by rw [hlen]; exact h4) (by rw [hlen]; omega) (by intro v hv; obtain ⟨s, -, rfl⟩ := List.mem_map.1 hv; rfl) (by
      rw [Array.toList_map, h3, ← g2, List.zipIdx_map, List.map_map, List.map_map]
      rfl)
    rw [hlen] at hr
    refine wp_val hr ?_
    rw [h2]
    have hnt : base + i < a.tmps.size := by rw [h.nt]; omega
    exact .inl ⟨p, C, _, _, ts, h.put hb2 hl (by omega) hk _ (h.ek.alloc (ppO qs)) (fun _ h => List.mem_cons_of_mem _ h) (fun _ h => List.mem_cons_of_mem _ h) (fun _ h => h) h.cu h.d (h.other hat) ⟨w.heap.size, qs, eval_put hnt, by simp, g1, g3, g4, by unfold bv; rw [hk]; exact g5, Nat.le_trans g6 hsum⟩⟩
  | node kk r =>
    obtain ⟨⟨ty, h1⟩, h2⟩ := hf
    obtain ⟨xs, hrk⟩ := hwf
    have hl := hEb rfl
    obtain ⟨g, qs, hr, hgs, q1, q2, q3, q4, q5⟩ := h.hd r _ hrk (hda r (by simp [Kd.deps]))
    have h6 : xs.length ≤ 12 := (hF r _ _ (Array.getElem?_eq_getElem (by have := (List.getElem?_eq_some_iff.1 hrk).1; omega)) hrk).2.2.2.2.2.1.1
    have hrun := run_call2 (a := a) (w := w) ent_node h1
    rw [hr] at hrun
    obtain ⟨hci, hpf⟩ := h.chain hat hu (fun q hq => hcall q rfl hq)
    have hnt : base + i < a.tmps.size := by rw [h.nt]; omega
    refine wp_calls hrun (h.ek.noded2 kk qs xs.length q1 h6 q2 q3 q5 g hgs) ?_
    rintro e w' ⟨A', c', rfl, ek'⟩
    refine ⟨_, rfl, ?_⟩
    rw [h2]
    exact .inl ⟨i + 1, C, bs, zs, _, h.put hb2 hl (by omega) hk _ ek' (fun _ h => h) (fun _ h => h) (fun _ h => List.mem_cons_of_mem _ h) (by rw [cuA_at hk, hci]; rfl) h.d hpf ⟨_, eval_put hnt, by simp, by unfold nvl; rw [hk]; show [pl _] = [nod kk (bv D C0 r)]; rw [pl_nod, q4]⟩⟩
  | store x =>
    obtain ⟨h1, h2⟩ := hf
    obtain ⟨kk, r, hxk⟩ := hwf
    have hlast : i + 1 = D.length := by simpa [Kd.isStore] using hst
    have hxi : x < i := by
      have h3 := (List.getElem?_eq_some_iff.1 hxk).1
      rcases Nat.lt_or_ge x i with h4 | h4
      · exact h4
      · rw [show x = i from by omega, hk] at hxk
        cases hxk
    have hAll : ∀ j, j < i → L.getD j false = true := fun j hj => hda j (by simpa [Kd.deps] using hj)
    obtain ⟨T, hx, hTt, hTv⟩ := h.hd x _ hxk (hAll x hxi)
    have hbx := h.ek.box h.m2
    refine wp_store_node 30 (.tmp 2) (.tmp (base + x)) h1 size_tnode z2 T _ _ _ _ _ _ h.e2 hx hbx ?_
    rw [h2]
    have hC : cuA D C0 D.length = C := by
      rw [h.cu]
      have hpD : p ≤ D.length ∨ D.length < p := by omega
      have hno : ∀ j, p ≤ j → j < D.length → isCallAt D j = false := fun j e1 e2 => by
        cases hq : isCallAt D j with
        | false => rfl
        | true =>
          have hji : j ≠ i := fun e => by rw [e, hat] at hq; cases hq
          have := (h.pf j hq).1 (hAll j (by omega))
          omega
      rcases hpD with e | e
      · exact cuA_skip e hno
      · refine (cuA_skip (Nat.le_of_lt e) fun j e1 e2 => ?_).symm
        unfold isCallAt
        rw [List.getElem?_eq_none e1]
        rfl
    have hLs : i < L.size := by rw [h.sz]; omega
    refine .inr ⟨by simpa using h.sz, fun j hj => ?_, h.df, h.nt, h.e1, h.e2, T, zs, x, ?_, ?_, hTv⟩
    · rw [getD_set hLs]
      by_cases e : j = i
      · rw [if_pos e]
      · rw [if_neg e]; exact hAll j (by omega)
    · rw [show D.length - 1 = i from by omega]; exact hk
    · rw [hC]
      exact (h.ek.store (bs' := [(z2, .cells (ncc T) 30 (0, 0))]) T h.m3 hbx (fun q hq => .inl (by simpa using hq))).sub (fun _ h => h) (by simpa using hTt)
theorem getD_rep {n i : Nat} : (Array.replicate n false).getD i false = false := by
  rw [Array.getD_eq_getD_getElem?, Array.getElem?_replicate]
  split <;> rfl
theorem region_any {id : Nat} {a : Act} {w : World} {bs : List (Nat × Obj)} {zs : List Nat} {ts : List Tr} (D : List Kd) (base nt Dp z1 z2 : Nat) (hb2 : 2 < base) (hn : base + D.length ≤ nt + 1) (h200 : C0.d ≤ 200) (hDp : Dp ≤ C0.d) (hFL : FitL D b A c Dp base 0 ops.toList D) (hpos : 0 < D.length)
    (hnt : a.tmps.size = nt) (e1 : a.eval (.tmp 1) = .pointer (some ⟨z1, 0, none⟩)) (e2 : a.eval (.tmp 2) = .pointer (some ⟨z2, 0, none⟩)) (E : EK b A c no (· = b) w0 C0 bs zs ts w) (m1 : (z1, sdb b) ∈ bs) (m2 : (z2, zb5) ∈ bs) (m3 : z2 ∈ zs)
    (hQ : ∀ (a' : Act) (W' : World) (T : Tr) (zs' : List Nat) (x : Nat), a'.defers = a.defers → a'.tmps.size = nt → a'.eval (.tmp 1) = .pointer (some ⟨z1, 0, none⟩) → a'.eval (.tmp 2) = .pointer (some ⟨z2, 0, none⟩) → D[D.length - 1]? = some (.store x) → EK b A c no (· = b) w0 (cuA D C0 D.length) [(z2, .cells (ncc T) 30 (0, 0))] zs' [T] W' → [pl T] = nvl D C0 x → Q .normal a' W') :
    (Code.region id ops true).wp Tryz.prog Q a w := by
  obtain ⟨hlen, hat⟩ := fitL_at hFL
  have hsz : ops.size = D.length := by simpa using hlen
  have hF : ∀ (i : Nat) (o : Oper) (k : Kd), ops[i]? = some o → D[i]? = some k → Fit1 D b A c Dp base i o k := fun i o k ho hk => by
    have := hat i o k (by rw [Array.getElem?_toList]; exact ho) hk
    rwa [Nat.zero_add] at this
  refine wp_region_any (by kernel_rfl) (wpAny_inv (Ir D C0 b A c base nt z1 z2 a.defers w0) ?_ (fun L a' w' i hI hi => ir_step hb2 hn h200 hDp hF hsz hI hi) _ _ _ _ ?_ ?_)
  · intro L a' w' hI hr
    have hsL : L.size = ops.size := by
      rcases hI with ⟨_, _, _, _, _, h⟩ | h
      · exact h.sz.trans hsz.symm
      · exact h.1.trans hsz.symm
    have hAl := all_listed hsL (fun j o ho e he _ => by
      obtain ⟨k, hk⟩ : ∃ k, D[j]? = some k := ⟨_, List.getElem?_eq_getElem (by have := (Array.getElem?_eq_some_iff.1 ho).1; omega)⟩
      have := Array.all_eq_true'.1 (hF j o k ho hk).2.2.2.1 e he
      simpa using this) hr
    rcases hI with ⟨_, _, _, _, _, h⟩ | ⟨-, -, h1, h2, h3, h4, T, zs', x, h5, h6, h7⟩
    · have := h.un
      rw [hAl _ (by omega)] at this
      cases this
    · exact hQ a' w' T zs' x h1 h2 h3 h4 h5 h6 h7
  · rw [Array.toList_replicate]
    exact Nat.le_trans (List.count_le_length ..) (by simp)
  · refine .inl ⟨0, C0, bs, zs, ts, by simpa using hsz, rfl, hnt, e1, e2, getD_rep, rfl, rfl, E.drew, m1, m2, m3, fun j _ => ?_, fun j k _ hj => ?_⟩
    · rw [getD_rep]
      simp
    · rw [getD_rep] at hj
      cases hj
end
end Go.Proofs.YtfmlcddakfbleaaGreatDoor
