/- The way back of a plain list has no two edits at one place, plainly; so the way back of a merged list is never refused for that. -/
import Derived.Test.YtfkpnfhhmldodaaEditMerge
namespace Go.Proofs.Ytfkpnfhhmldodaa.EditMath

theorem nodup_plain (s : ByteArray) {l : List Ed} {size : Int} (h : pl l size = true) : nodup (iv s 0 l) = true := by
  have hp := h
  simp only [pl, Bool.and_eq_true] at hp
  refine each_mk fun i a b ha hb => ?_
  obtain ⟨d, hd, rfl⟩ := iv_back s ha
  obtain ⟨e, he, rfl⟩ := iv_back s hb
  have hr := (rt_parts hp.1).2.2 i d e hd he
  have ht := each_at hp.2.2 hd he
  have hg := gr_snoc hd
  simp only [Bool.not_eq_true', tch, decide_eq_false_iff_not] at ht
  simp only [Bool.not_eq_true', decide_eq_false_iff_not, iv1, Int.zero_add]
  rw [hg]
  unfold gr1
  have : (0 : Int) ≤ d.s.size := by omega
  omega

theorem cut_list (s : ByteArray) (a e : Nat) : (s.extract a e).data.toList = (s.data.toList.take e).drop a := by
  rw [ByteArray.data_extract]
  simp [Array.toList_extract, List.extract_eq_take_drop, List.drop_take]
theorem three_parts (S : List UInt8) {a f t : Nat} (h1 : a ≤ f) (h2 : f ≤ t) : (S.drop a).take (f - a) ++ ((S.take t).drop f ++ S.drop t) = S.drop a := by
  have e1 : (S.take t).drop f ++ S.drop t = S.drop f := by
    have := List.take_append_drop (t - f) (S.drop f)
    rw [List.drop_drop, show f + (t - f) = t by omega] at this
    rw [← this]
    congr 1
    rw [List.drop_take]
  rw [e1]
  have := List.take_append_drop (f - a) (S.drop a)
  rw [List.drop_drop, show a + (f - a) = f by omega] at this
  exact this

/-- the way back leads back, from a place on -/
theorem ap_iv (s : ByteArray) : ∀ (l : List Ed) (a : Nat) (g : Int) (pre : List UInt8), rt l (s.size : Int) = true → a ≤ s.size → (∀ e, l[0]? = some e → (a : Int) ≤ e.f) → (pre.length : Int) = a + g →
    ap (pre ++ ap s.data.toList a l) pre.length (iv s g l) = s.data.toList.drop a := by
  intro l
  induction l with
  | nil => intro a g pre _ _ _ _; simp [iv, ap]
  | cons e l ih =>
    intro a g pre h ha h0 hp
    obtain ⟨_, hw, hn⟩ := rt_parts h
    obtain ⟨w0, w1, w2⟩ := hw 0 e rfl
    have hae := h0 e rfl
    have hrt : rt l (s.size : Int) = true := by have := rt_drop h 1; simpa using this
    have hlen : s.data.toList.length = s.size := rfl
    show (List.drop pre.length (pre ++ ap s.data.toList a (e :: l))).take ((e.f + g).toNat - pre.length) ++ ((s.extract e.f.toNat e.t.toNat).data.toList ++ ap (pre ++ ap s.data.toList a (e :: l)) (e.f + g + e.s.size).toNat (iv s (g + gr1 e) l)) = _
    have hX : pre ++ ap s.data.toList a (e :: l) = (pre ++ ((s.data.toList.drop a).take (e.f.toNat - a) ++ e.s.data.toList)) ++ ap s.data.toList e.t.toNat l := by simp [ap]
    have hl1 : ((s.data.toList.drop a).take (e.f.toNat - a)).length = e.f.toNat - a := by rw [List.length_take, List.length_drop, hlen]; omega
    have hes : e.s.data.toList.length = e.s.size := rfl
    have hpl : (pre ++ ((s.data.toList.drop a).take (e.f.toNat - a) ++ e.s.data.toList)).length = (e.f + g + e.s.size).toNat := by
      rw [List.length_append, List.length_append, hl1, hes]
      omega
    have ih' := ih e.t.toNat (g + gr1 e) (pre ++ ((s.data.toList.drop a).take (e.f.toNat - a) ++ e.s.data.toList)) hrt (by omega) (fun d hd => by
      have := hn 0 e d rfl (by simpa using hd)
      omega) (by rw [List.length_append, List.length_append, hl1, hes]; unfold gr1; omega)
    rw [← hX, hpl] at ih'
    rw [ih', List.drop_left, cut_list]
    have hf : (e.f + g).toNat - pre.length = e.f.toNat - a := by omega
    rw [hf]
    have ht : (ap s.data.toList a (e :: l)).take (e.f.toNat - a) = (s.data.toList.drop a).take (e.f.toNat - a) := by
      show List.take (e.f.toNat - a) (List.take (e.f.toNat - a) (s.data.toList.drop a) ++ (e.s.data.toList ++ ap s.data.toList e.t.toNat l)) = _
      rw [List.take_append_of_le_length (by rw [hl1]; exact Nat.le_refl _), List.take_take, Nat.min_self]
    rw [ht]
    exact three_parts s.data.toList (by omega) (by omega)

/-- the way back leads back -/
theorem ap_back (s : ByteArray) {l : List Ed} (h : rt l (s.size : Int) = true) : ap (ap s.data.toList 0 l) 0 (iv s 0 l) = s.data.toList := by
  have := ap_iv s l 0 0 [] h (Nat.zero_le _) (fun e he => by have := ((rt_parts h).2.1 0 e he).1; simpa using this) (by simp)
  simpa using this
end Go.Proofs.Ytfkpnfhhmldodaa.EditMath
