/- strings.Builder within frames: WriteString, String. tree.Text. -/
import Derived.Test.YtfmlcddakfbleaaGreatDoorTreeStands
import Derived.Test.YtfmlcddakfbleaaGreatDoorLexBuild
namespace Go.Proofs.YtfmlcddakfbleaaGreatDoor
open Go.RowKit Go.Shelf TreeMath

attribute [local go_sem] Oper.semAt_some

abbrev bdc (p v : Value) : Obj := .cells #[p, v] 70 (0, 0)
/-- a builder of mine that holds l -/
def Bd (B b : Nat) (l : List UInt8) : As := fun X W => ¬ X b ∧ ∃ p v, (p = .pointer none ∨ p = .pointer (some ⟨b, 0, none⟩)) ∧ B ≤ b ∧ W.heap[b]? = some (bdc p v) ∧ W.ownsRowF B 5 1 v (Lib.byteCells l).length (Lib.byteCells l) ∧ v.ownBlock ≠ some b ∧ ∀ k, v.ownBlock = some k → ¬ X k

theorem Bd.isF {B b : Nat} {l : List UInt8} {X : Nat → Prop} {W : World} (h : Bd B b l X W) : Lib.IsBuilderF 70 5 B b (Lib.byteCells l) W := by
  obtain ⟨_, p, v, (rfl | rfl), hB, hb, ho, hn, _⟩ := h
  · exact .inl ⟨hB, v, hb, ho, hn⟩
  · exact .inr ⟨hB, v, hb, ho, hn⟩
theorem Bd.of {B b : Nat} {l : List UInt8} {X : Nat → Prop} {W : World} (h : Lib.IsBuilderF 70 5 B b (Lib.byteCells l) W) (hX : ¬ X b) (hXb : XOk X W) : Bd B b l X W := by
  obtain ⟨p, hp, hB, v, hb, ho, hn⟩ : ∃ p, (p = .pointer none ∨ p = .pointer (some ⟨b, 0, none⟩)) ∧ Lib.BuilderAtF 70 5 B b p (Lib.byteCells l) W := by
    rcases h with h | h
    · exact ⟨_, .inl rfl, h⟩
    · exact ⟨_, .inr rfl, h⟩
  refine ⟨hX, p, v, hp, hB, hb, ho, hn, fun k hk hXk => ?_⟩
  obtain ⟨o, h1, h2⟩ := hXb k hXk
  rcases ho.2 with ⟨rfl, _⟩ | ⟨g, cap, cur, fz, rfl, _, hg, _⟩
  · simp [Value.ownBlock] at hk
  · simp [Value.ownBlock] at hk
    subst hk
    rw [hg] at h1
    injection h1 with h1
    subst h1
    simp [byteRow] at h2
theorem Bd.frames (B b : Nat) (l : List UInt8) : Frames (Bd B b l) := fun X X' W W' h ho hx => by
  obtain ⟨hX, p, v, hp, hB, hb, ⟨hl, h2⟩, hn, hk⟩ := h
  have hlt := (World.ownsRowF.lt ⟨hl, h2⟩ : ∀ k, v.ownBlock = some k → B ≤ k ∧ k < W.heap.size)
  have hbl := (Array.getElem?_eq_some_iff.1 hb).1
  refine ⟨fun h => (hx b h).elim hX (fun hle => by omega), p, v, hp, hB, (ho.block b hbl hX).trans hb, ⟨hl, ?_⟩, hn, fun k hk1 hk' => (hx k hk').elim (hk k hk1) (fun hle => by have := (hlt k hk1).2; omega)⟩
  rcases h2 with h2 | ⟨g, cap, cur, fz, hv, hb2, hg, r⟩
  · exact .inl h2
  · exact .inr ⟨g, cap, cur, fz, hv, hb2, (ho.block g (Array.getElem?_eq_some_iff.1 hg).1 (hk g (by rw [hv]; rfl))).trans hg, r⟩
theorem Bd.new {B : Nat} {X : Nat → Prop} {W : World} {b : Nat} (hX : ¬ X b) (hb : b = W.heap.size) (hB : B ≤ b) : Bd B b [] X (W.alloc (bdc (.pointer none) (.slice none 0 0))) :=
  ⟨hX, _, _, .inl rfl, hB, by rw [hb]; exact World.alloc_heap_new W _, World.ownsRowF_nil _ _ _ _, by simp [Value.ownBlock], fun k hk => by simp [Value.ownBlock] at hk⟩
theorem Bd.lt {B b : Nat} {l : List UInt8} {X : Nat → Prop} {W : World} (h : Bd B b l X W) : b < W.heap.size := by
  obtain ⟨_, p, v, _, _, hb, _⟩ := h
  exact (Array.getElem?_eq_some_iff.1 hb).1

/-- all but the builder's block and rows of bytes are kept -/
structure Oth (B b : Nat) (W W' : World) : Prop where
  low : Below B W W'
  oth : Lib.OthersKept 5 (some b) W W'
theorem Oth.kept {B b : Nat} {W W' : World} {X : Nat → Prop} (h : Oth B b W W') (hX : ¬ X b) (hXb : XOk X W) : Kept X W W' := fun k hk _ => by
  obtain ⟨o, h1, h2⟩ := hXb k hk
  rw [h1]
  refine h.oth k o h1 (fun e => hX (by injection e with e; rwa [← e])) (fun c fz e => ?_)
  subst e
  simp [byteRow] at h2
theorem Oth.has {B b b' : Nat} {W W' : World} {X : Nat → Prop} {o : Obj} (h : Oth B b W W') (hh : Has b' o X W) (hne : b' ≠ b) (ho : byteRow o = false := by rfl) : Has b' o X W' :=
  ⟨hh.1, h.oth b' o hh.2 (fun e => hne (by injection e)) (fun c fz e => by subst e; simp [byteRow] at ho)⟩
theorem Oth.lows {b n : Nat} {w W W' : World} {X : Nat → Prop} (h : Oth n b W W') (hl : Low n w X W) : Low n w X W' := ⟨hl.1.trans h.low, Nat.le_trans hl.2.1 h.low.size, hl.2.2⟩
theorem Oth.xok {B b : Nat} {W W' : World} {X : Nat → Prop} (h : Oth B b W W') (hX : ¬ X b) (hXb : XOk X W) : XOk X W' := hXb.kept (h.kept hX hXb)

theorem bdWrite {B b : Nat} {l : List UInt8} {X : Nat → Prop} {W : World} (s : ByteArray) (h : Bd B b l X W) (hXb : XOk X W) (hlen : l.length + s.size ≤ 140737488355328) (hBw : B ≤ W.heap.size) :
    Calls Tryz.prog 32 #[.pointer (some ⟨b, 0, none⟩), .string s] W fun e W' => e = .returned (.tuple #[.int .i64 s.size, .nilIface]) ∧ Bd B b (l ++ s.data.toList) X W' ∧ Oth B b W W' := by
  refine (bWrite B b (Lib.byteCells l) s W h.isF (by rw [Lib.byteCells_length]; omega) hBw).mono ?_
  rintro e W' ⟨rfl, h1, h2, h3⟩
  have ho : Oth B b W W' := ⟨h2, h3⟩
  refine ⟨rfl, Bd.of (.inr ?_) h.1 (ho.xok h.1 hXb), ho⟩
  rwa [show Lib.byteCells (l ++ s.data.toList) = Lib.byteCells l ++ Lib.strCells s from by simp [Lib.byteCells, Lib.strCells]]

theorem bdString {B b : Nat} {l : List UInt8} {X : Nat → Prop} {W : World} (h : Bd B b l X W) (hXb : XOk X W) (hBw : B ≤ W.heap.size) :
    Calls Tryz.prog 33 #[.pointer (some ⟨b, 0, none⟩)] W fun e W' => e = .returned (.string ⟨l.toArray⟩) ∧ Bd B b l X W' ∧ Oth B b W W' := by
  refine (bString B b l W h.isF hBw).mono ?_
  rintro e W' ⟨rfl, h1, h2, h3⟩
  have ho : Oth B b W W' := ⟨h2, h3⟩
  exact ⟨rfl, Bd.of h1 h.1 (ho.xok h.1 hXb), ho⟩


theorem tx_data (l : List Tr) (x : Tr) : (tx (l ++ [x])).data.toList = ((tx l).data.toList ++ x.g.data.toList) ++ x.t.data.toList := by
  rw [tx_snoc]; simp

def TxI (w : World) (T : Tr) (b : Nat) (pre : List Tr) : As := fun X W => Low w.heap.size w X W ∧ Bd w.heap.size b (tx pre).data.toList X W ∧ Has (b + 1) (nbx T) X W
theorem TxI.frames (w : World) (T : Tr) (b : Nat) (pre : List Tr) : Frames (TxI w T b pre) := (Low.frames _ _).and ((Bd.frames _ _ _).and (Has.frames _ _))
abbrev txFrm (y b bp : Nat) (T x : Tr) : Act :=
  { tmps := #[nv T, .pointer (some ⟨y, 0, none⟩), .string ⟨#[]⟩, .pointer (some ⟨b, 0, none⟩), .pointer (some ⟨bp, 0, none⟩), nv T, .bool true, .bool false, nv T, .func (.func 56) #[] #[.pointer (some ⟨b + 1, 0, none⟩)], nv (tok x), undef, undef, undef, undef, undef, undef, undef], defers := [] }

set_option maxRecDepth 100000 in
set_option maxHeartbeats 2000000 in
theorem text_any (T : Tr) (w : World) (hT : Tn (lo w.heap.size) w T) (hw : wt T ≤ 9000) :
    Calls Tryz.prog 10 #[nv T] w fun e w' => e = .returned (.string (if rgt T = true then tx (lf T) else ⟨#[]⟩)) ∧ Below w.heap.size w w' := by
  have HR := Lib.hid (right_any T (w.alloc (nbx T)) ((hT.below (below1 w _)).more (by simp)) hw)
  have HITS := Lib.hid (fun b => leaves_iter T w b hT hw)
  have HSZ : Hid ((tx (lf T)).size ≤ 450000) := Lib.hid (by have := tx_le T; omega)
  clear hT hw
  refine (callsIn_wide (n := 8)).1 ?_
  cases hr : rgt T with
  | false =>
    rw [hr] at HR
    clear hr
    refine callsIn_of_wp_marks Tryz.func10 rfl trivial ?_ rfl
    simp only [Tryz.ntmps10, List.size_toArray, List.length_cons, List.length_nil, Nat.reduceAdd, Nat.reduceSub, Array.replicate_succ, Array.replicate_zero, List.push_toArray, List.append_toArray, List.nil_append, List.cons_append]
    gi_wp2_with (refine ⟨trivial, ?_⟩; gi_at_call 30; refine (callsIn_wide.2 HR.out).mono ?_; rintro e w1 ⟨rfl, hb1⟩)
    exact ⟨.string ⟨#[]⟩, by simp [results, Tryz.results10, go_sem], by simp, (below1 w _).trans (hb1.mono (by simp))⟩
  | true =>
    rw [hr] at HR
    clear hr
    refine callsIn_of_wp_marks Tryz.func10 rfl trivial ?_ rfl
    simp only [Tryz.ntmps10, List.size_toArray, List.length_cons, List.length_nil, Nat.reduceAdd, Nat.reduceSub, Array.replicate_succ, Array.replicate_zero, List.push_toArray, List.append_toArray, List.nil_append, List.cons_append]
    gi_wp2_with (first | (refine ⟨trivial, ?_⟩; gi_at_call 30; refine (callsIn_wide.2 HR.out).mono ?_; rintro e w1 ⟨rfl, hb1⟩; have hc1 := cell_new5 hb1; have hz : w.heap.size < w1.heap.size := (by have := hb1.size; simp at this; omega)) | (refine ⟨trivial, ?_⟩; gi_at_call 31; refine (callsIn_wide.2 (leaves_any T _)).mono ?_; rintro e w' ⟨rfl, rfl⟩))
    have hbB : Below w.heap.size w w1 := (below1 w _).trans (hb1.mono (by simp))
    refine range_out (HITS.out (w1.heap.size + 1)) rfl eg_leaves (fun _ => rfl) (TxI w T w1.heap.size) (fun _ _ _ _ => False) (fun pre x a' X W => ∃ bp, TxI w T w1.heap.size pre X W ∧ Has bp (tbx x) X W ∧ bp ≠ w1.heap.size ∧ a' = txFrm w.heap.size w1.heap.size bp T x) ?fI ?fX ?fA ?hC ?h0 ?assign ?body ?done ?stop
    case fI => exact fun pre => TxI.frames _ _ _ _
    case fX => exact fun c pre => Frames.pure _
    case fA => exact fun pre q a' => Frames.ex fun bp => (TxI.frames _ _ _ _).and ((Has.frames _ _).and ((Frames.pure _).and (Frames.pure _)))
    case hC => exact fun pre X W1 h => ⟨h.1, h.2.2⟩
    case h0 =>
      refine ⟨Low.begin w (hbB.trans ((below2 w1 _ _).mono hbB.size)), ?_, ?_⟩
      · exact (Bd.frames _ _ _).off (Bd.new (fun h => h) rfl hbB.size) (Off.alloc _ _ _)
      · exact Has.newAt (fun h => h) (by simp) _
    case assign =>
      rintro lq X pre x W1 K hX hXb hi hp hK
      have hne : W1.heap.size ≠ w1.heap.size := by have := hi.2.1.lt; omega
      gi_wp2
      exact hK _ _ (by simp) (Kept.alloc _ _ _) ⟨W1.heap.size, (TxI.frames _ _ _ _).off hi (Off.alloc _ _ _), Has.new hXb _, hne, rfl⟩
    case body =>
      rintro lq X pre x a' W1 hX hXb hr2 ⟨bp, ⟨hlow, hbd, hn⟩, hbp, hne, rfl⟩ hp
      have hsz : (tx pre).size + x.g.size + x.t.size ≤ 450000 := by
        have h1 := tx_pre hp
        rw [tx_snoc] at h1
        simp at h1
        have := HSZ.out
        omega
      have HNE := Lib.hid hne
      have HTD := Lib.hid (tx_data pre x)
      have hl : (tx pre).data.toList.length = (tx pre).size := rfl
      have HL := Lib.hid hl
      clear hp hne hl
      have p1 := hbp.cell (i := 1)
      simp only [List.getElem?_toArray, List.getElem?_cons_zero, List.getElem?_cons_succ, tok] at p1
      gi_wp2_with fail
      refine ⟨trivial, ?_⟩
      gi_at_call 32
      refine (CallsIn.inRound lq (callsIn_wide.2 (bdWrite x.g hbd hXb (by rw [HL.out]; omega) hlow.2.1))).mono ?_
      rintro r W2 ⟨rfl, hbd2, ho2⟩
      have hXb2 := ho2.xok hbd.1 hXb
      have hbp2 := ho2.has hbp HNE.out
      have hn2 := ho2.has hn (by omega)
      have hlow2 := ho2.lows hlow
      have hk2 := ho2.kept hbd.1 hXb
      have p2 := hbp2.cell (i := 2)
      simp only [List.getElem?_toArray, List.getElem?_cons_zero, List.getElem?_cons_succ, tok] at p2
      gi_wp2_with fail
      refine ⟨trivial, ?_⟩
      gi_at_call 32
      refine (CallsIn.inRound lq (callsIn_wide.2 (bdWrite x.t hbd2 hXb2 (by rw [List.length_append, HL.out]; have : x.g.data.toList.length = x.g.size := rfl; omega) hlow2.2.1))).mono ?_
      rintro r W3 ⟨rfl, hbd3, ho3⟩
      gi_wp2
      refine ⟨Nat.le_trans ho2.low.size ho3.low.size, Kept.trans ho2.low.size hk2 (ho3.kept hbd2.1 hXb2), ho3.lows hlow2, ?_, ho3.has hn2 (by omega)⟩
      rw [HTD.out]
      exact hbd3
    case done =>
      rintro D W1 ⟨hlow, hbd, hn⟩ hD
      have hXD : XOk (· = D) W1 := fun k hk => by subst hk; exact ⟨_, hD, rfl⟩
      gi_wp2_with fail
      refine ⟨trivial, ?_⟩
      gi_at_call 33
      refine (callsIn_wide.2 (bdString hbd hXD hlow.2.1)).mono ?_
      rintro r W2 ⟨rfl, hbd2, ho2⟩
      have hD2 := (ho2.kept hbd.1 hXD D rfl (Array.getElem?_eq_some_iff.1 hD).1).trans hD
      have hlow2 := ho2.lows hlow
      gi_wp2
      refine ⟨by simp, .inl ⟨_, _, rfl, run_takeDeferred hD2, ?_⟩⟩
      exact ⟨.string ⟨(tx (lf T)).data.toList.toArray⟩, by simp [results, Tryz.results10, go_sem], by simp, ((Low.frames _ _).off hlow2 (Off.putObj (X := (· = D)) rfl _ _)).1⟩
    case stop =>
      rintro D c pre W1 hp h hD
      exact h.elim
end Go.Proofs.YtfmlcddakfbleaaGreatDoor
