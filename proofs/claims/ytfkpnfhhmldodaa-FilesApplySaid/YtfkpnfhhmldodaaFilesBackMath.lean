/- The difference makes the one text into the other one; the merged list makes the same text, plainly. -/
import Derived.Test.YtfkpnfhhmldodaaFilesInvMath
import Derived.Test.YtfkpnfhhmldodaaFilesDiffMath
namespace Go.Proofs.Ytfkpnfhhmldodaa.EditMath

theorem cen_drop_eq (a b : List UInt8) : a.drop (a.length - cen a b) = b.drop (b.length - cen a b) := by
  have h := cst_take a.reverse b.reverse
  rw [List.take_reverse, List.take_reverse] at h
  exact List.reverse_inj.1 h

theorem ap_diff (a b : ByteArray) : ap a.data.toList 0 [dfE a b] = b.data.toList := by
  obtain ⟨f1, f2⟩ := dfF_le a b
  obtain ⟨m1, m2⟩ := dfM_le a b
  have la : a.data.toList.length = a.size := rfl
  have lb : b.data.toList.length = b.size := rfl
  have h1 : a.data.toList.take (dfF a b) = b.data.toList.take (dfF a b) := cst_take _ _
  have h2 := cen_drop_eq (a.data.toList.drop (dfF a b)) (b.data.toList.drop (dfF a b))
  rw [show cen (a.data.toList.drop (dfF a b)) (b.data.toList.drop (dfF a b)) = dfM a b from rfl] at h2
  rw [List.length_drop, List.length_drop, List.drop_drop, List.drop_drop, la, lb, show dfF a b + (a.size - dfF a b - dfM a b) = a.size - dfM a b by omega, show dfF a b + (b.size - dfF a b - dfM a b) = b.size - dfM a b by omega] at h2
  show (List.drop 0 a.data.toList).take ((dfF a b : Int).toNat - 0) ++ ((b.extract (dfF a b) (b.size - dfM a b)).data.toList ++ a.data.toList.drop ((a.size : Int) - dfM a b).toNat) = _
  rw [List.drop_zero, Int.toNat_natCast, Nat.sub_zero, h1, cut_list, show ((a.size : Int) - dfM a b).toNat = a.size - dfM a b by omega, h2]
  have := three_parts b.data.toList (a := 0) (f := dfF a b) (t := b.size - dfM a b) (by omega) (by omega)
  simpa using this

theorem ap_idle {S : List UInt8} {cur : Ed} {a : Nat} (l : List Ed) (hi : idl cur = true) (h0 : 0 ≤ cur.f) (ha : (a : Int) ≤ cur.f) (hl : ∀ b, l[0]? = some b → cur.t ≤ b.f) : ap S a (cur :: l) = ap S a l := by
  simp only [idl, Bool.and_eq_true, decide_eq_true_eq] at hi
  obtain ⟨hft, hs⟩ := hi
  have hs' : cur.s.data.toList = [] := List.eq_nil_of_length_eq_zero hs
  show (S.drop a).take (cur.f.toNat - a) ++ (cur.s.data.toList ++ ap S cur.t.toNat l) = _
  rw [hs', List.nil_append, ← hft]
  cases l with
  | nil =>
    show _ ++ S.drop cur.f.toNat = S.drop a
    have := List.take_append_drop (cur.f.toNat - a) (S.drop a)
    rwa [List.drop_drop, show a + (cur.f.toNat - a) = cur.f.toNat by omega] at this
  | cons b l =>
    have hb := hl b rfl
    show (S.drop a).take (cur.f.toNat - a) ++ ((S.drop cur.f.toNat).take (b.f.toNat - cur.f.toNat) ++ (b.s.data.toList ++ ap S b.t.toNat l)) = (S.drop a).take (b.f.toNat - a) ++ (b.s.data.toList ++ ap S b.t.toNat l)
    rw [← List.append_assoc]
    congr 1
    have h1 : S.drop cur.f.toNat = (S.drop a).drop (cur.f.toNat - a) := by rw [List.drop_drop, show a + (cur.f.toNat - a) = cur.f.toNat by omega]
    rw [h1, ← List.take_add, show cur.f.toNat - a + (b.f.toNat - cur.f.toNat) = b.f.toNat - a by omega]

/-- the merged list makes the same text -/
theorem ap_mgo (S : List UInt8) (size : Int) : ∀ (l : List Ed) (cur : Ed) (a : Nat), rt (cur :: l) size = true → (a : Int) ≤ cur.f → ap S a (mgo cur l) = ap S a (cur :: l) := by
  intro l
  induction l with
  | nil =>
    intro cur a h ha
    obtain ⟨_, hw, _⟩ := rt_parts h
    obtain ⟨w0, _, _⟩ := hw 0 cur rfl
    unfold mgo keepE
    split
    · rename_i hi
      exact (ap_idle [] hi w0 ha (fun b hb => by simp at hb)).symm
    · rfl
  | cons b l ih =>
    intro cur a h ha
    obtain ⟨hz, hw, hn⟩ := rt_parts h
    obtain ⟨w0, w1, w2⟩ := hw 0 cur rfl
    obtain ⟨v0, v1, v2⟩ := hw 1 b rfl
    obtain ⟨n1, n2⟩ := hn 0 cur b rfl rfl
    have hrt : rt (b :: l) size = true := by have := rt_drop h 1; simpa using this
    unfold mgo
    split
    · rename_i ht
      have hj : rt (joinE cur b :: l) size = true := by
        obtain ⟨_, hw2, hn2⟩ := rt_parts hrt
        simp only [rt, Bool.and_eq_true, decide_eq_true_eq] at hrt ⊢
        refine ⟨hz, ?_, ?_⟩
        · have := hrt.2.1
          simp only [List.all_cons, Bool.and_eq_true] at this ⊢
          exact ⟨wi_iff.2 ⟨w0, by simp only [joinE]; omega, v2⟩, this.2⟩
        · refine each_mk fun i x y hx hy => nx_iff.2 ?_
          cases i with
          | zero =>
            simp at hx hy
            subst hx
            obtain ⟨k1, k2⟩ := hn2 0 b y rfl (by simpa using hy)
            exact ⟨k1, by simp only [joinE]; omega⟩
          | succ i => exact hn2 (i + 1) x y (by simpa using hx) (by simpa using hy)
      rw [ih (joinE cur b) a hj ha]
      show (S.drop a).take (cur.f.toNat - a) ++ ((cur.s ++ b.s).data.toList ++ ap S b.t.toNat l) = (S.drop a).take (cur.f.toNat - a) ++ (cur.s.data.toList ++ ((S.drop cur.t.toNat).take (b.f.toNat - cur.t.toNat) ++ (b.s.data.toList ++ ap S b.t.toNat l)))
      rw [joined_bytes, show b.f.toNat - cur.t.toNat = 0 by omega, List.take_zero, List.nil_append, List.append_assoc]
    · unfold keepE
      split
      · rename_i hi
        rw [List.nil_append, ih b a hrt (by omega)]
        exact (ap_idle (b :: l) hi w0 ha (fun x hx => by simp at hx; subst hx; exact n1)).symm
      · show (S.drop a).take (cur.f.toNat - a) ++ (cur.s.data.toList ++ ap S cur.t.toNat (mgo b l)) = _
        rw [ih b cur.t.toNat hrt (by omega)]
        rfl
theorem ap_mg (S : List UInt8) {size : Int} {l : List Ed} (h : rt l size = true) : ap S 0 (mg l) = ap S 0 l := by
  cases l with
  | nil => rfl
  | cons e l => exact ap_mgo S size l e 0 h (by have := ((rt_parts h).2.1 0 e rfl).1; simpa using this)

/-- the merged list's texts are no more -/
theorem tx_mgo : ∀ (l : List Ed) (cur : Ed), tx (mgo cur l) ≤ tx (cur :: l) := by
  intro l
  induction l with
  | nil =>
    intro cur
    unfold mgo keepE
    split
    · show (0 : Int) ≤ (cur.s.size : Int) + 0; omega
    · exact Int.le_refl _
  | cons b l ih =>
    intro cur
    unfold mgo
    split
    · refine Int.le_trans (ih _) ?_
      show ((cur.s ++ b.s).size : Int) + tx l ≤ cur.s.size + (b.s.size + tx l)
      rw [ByteArray.size_append]; omega
    · have h1 := ih b
      rw [tx_append]
      have h2 : tx (keepE cur) ≤ cur.s.size := by
        unfold keepE; split
        · show (0 : Int) ≤ (cur.s.size : Int); omega
        · show (cur.s.size : Int) + 0 ≤ cur.s.size; omega
      show tx (keepE cur) + tx (mgo b l) ≤ cur.s.size + tx (b :: l)
      omega
theorem tx_mg (l : List Ed) : tx (mg l) ≤ tx l := by
  cases l with
  | nil => exact Int.le_refl _
  | cons e l => exact tx_mgo l e

theorem rt_first {l : List Ed} {size : Int} (h : rt l size = true) : ∀ e, l[0]? = some e → ((0 : Nat) : Int) ≤ e.f := fun e he => by
  have := ((rt_parts h).2.1 0 e he).1; simpa using this
theorem rt_mg {l : List Ed} {size : Int} (h : rt l size = true) : rt (mg l) size = true := by
  have := mg_plain h
  simp only [pl, Bool.and_eq_true] at this
  exact this.1
theorem gr_mg (s : ByteArray) {l : List Ed} (h : rt l (s.size : Int) = true) : gr (mg l) = gr l := by
  have hl : (s.size : Int) = s.data.toList.length := rfl
  have h1 := ap_length s.data.toList l 0 s.size h hl (Nat.zero_le _) (rt_first h)
  have h2 := ap_length s.data.toList (mg l) 0 s.size (rt_mg h) hl (Nat.zero_le _) (rt_first (rt_mg h))
  rw [ap_mg s.data.toList h] at h2
  omega

/-- what is taken away is no more than there is -/
theorem tx_iv (s : ByteArray) : ∀ (l : List Ed) (g : Int) (a : Nat), rt l (s.size : Int) = true → a ≤ s.size → (∀ e, l[0]? = some e → (a : Int) ≤ e.f) → tx (iv s g l) ≤ s.size - a := by
  intro l
  induction l with
  | nil => intro g a _ ha _; show (0 : Int) ≤ _; omega
  | cons e l ih =>
    intro g a h ha h0
    obtain ⟨_, hw, hn⟩ := rt_parts h
    obtain ⟨w0, w1, w2⟩ := hw 0 e rfl
    have hae := h0 e rfl
    have hrt : rt l (s.size : Int) = true := by have := rt_drop h 1; simpa using this
    have ih' := ih (g + gr1 e) e.t.toNat hrt (by omega) (fun d hd => by have := hn 0 e d rfl (by simpa using hd); omega)
    show ((s.extract e.f.toNat e.t.toNat).size : Int) + tx (iv s (g + gr1 e) l) ≤ _
    rw [ByteArray.size_extract]
    omega

/-- the plain way back -/
def bkL (s : ByteArray) (l : List Ed) : List Ed := iv s 0 (mg l)
theorem bkL_length (s : ByteArray) (l : List Ed) : (bkL s l).length ≤ l.length := by unfold bkL; rw [iv_length]; exact mg_length l
theorem tx_bkL (s : ByteArray) {l : List Ed} (h : rt l (s.size : Int) = true) : tx (bkL s l) ≤ s.size := by
  have := tx_iv s (mg l) 0 0 (rt_mg h) (Nat.zero_le _) (rt_first (rt_mg h))
  unfold bkL; omega
theorem bkL_right (s : ByteArray) {l : List Ed} (h : rt l (s.size : Int) = true) : rt (bkL s l) ((s.size : Int) + gr l) = true := by
  have h1 := iv_right s (rt_mg h)
  rw [nodup_plain s (mg_plain h), gr_mg s h] at h1
  exact h1
/-- it leads back -/
theorem bkL_back (s : ByteArray) {l : List Ed} (h : rt l (s.size : Int) = true) : ap (ap s.data.toList 0 l) 0 (bkL s l) = s.data.toList := by
  have := ap_back s (rt_mg h)
  rw [ap_mg s.data.toList h] at this
  exact this
theorem ap_size (s : ByteArray) {l : List Ed} (h : rt l (s.size : Int) = true) : ((ap s.data.toList 0 l).length : Int) = s.size + gr l := by
  have := ap_length s.data.toList l 0 s.size h rfl (Nat.zero_le _) (rt_first h)
  have h2 : (s.size : Int) = s.data.toList.length := rfl
  omega
end Go.Proofs.Ytfkpnfhhmldodaa.EditMath
