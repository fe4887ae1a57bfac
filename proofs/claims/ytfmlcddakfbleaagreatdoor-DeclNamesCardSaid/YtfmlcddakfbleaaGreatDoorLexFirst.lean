/- lex.first: the first token of a text, by the program. -/
import Derived.Test.YtfmlcddakfbleaaGreatDoorLexMath
import Derived.Test.YtfmlcddakfbleaaGreatDoorSignNumber
import Derived.Shelf.Lays
import Derived.Shelf.Strings.Prefix
import Derived.Shelf.Strings.Search3
namespace Go.Proofs.YtfmlcddakfbleaaGreatDoor
open Go.Shelf Go.RowKit SignMath

/-- what the program's text has laid, and a number in the library's MaxLen -/
structure LaidX (w : World) : Prop where
  laid : Laid w
  mx : ∃ m, w.cell? ⟨1, 0, none⟩ = some (.int .i64 m)
theorem LaidX.below {w w' : World} (h : LaidX w) (hb : Below w.heap.size w w') : LaidX w' := by
  obtain ⟨h1, m, h2⟩ := h
  exact ⟨h1.below hb, m, (hb.cell (p := ⟨_, 0, none⟩) (lt_of_cell h2)).trans h2⟩

def shP_ren : Go.Shelf.Ren := ⟨fun | 99 => 122 | 206 => 131 | n => n, fun | 9 => 9 | 3 => 3 | 4 => 4 | n => n, fun | n => n⟩
theorem shP : Go.Proofs.Lays.n99 Tryz.prog shP_ren := {
  mixed := by kernel_rfl
  f99 := Tryz.func122.trans (congrArg some (by kernel_rfl))
  f206 := Tryz.func131.trans (congrArg some (by kernel_rfl))
  t3 := Tryz.underlying3
  a3 := Tryz.isAgg3
  z3 := Tryz.sizeOf3
  v3 := Tryz.zeroValue3
  t4 := Tryz.underlying4
  a4 := Tryz.isAgg4
  z4 := Tryz.sizeOf4
  v4 := Tryz.zeroValue4
  t9 := Tryz.underlying9
  a9 := Tryz.isAgg9
  z9 := Tryz.sizeOf9
  v9 := Tryz.zeroValue9 }

def shX_ren : Go.Shelf.Ren := ⟨fun | 143 => 132 | 217 => 135 | 219 => 138 | 224 => 147 | 225 => 146 | 266 => 142 | 267 => 148 | 314 => 156 | n => n, fun | 9 => 9 | 3 => 3 | 4 => 4 | 5 => 5 | 46 => 42 | 51 => 157 | 146 => 158 | n => n, fun | 1 => 1 | n => n⟩
theorem shX : Go.Proofs.Lays.n143 Tryz.prog shX_ren := {
  mixed := by kernel_rfl
  f143 := Tryz.func132.trans (congrArg some (by kernel_rfl))
  f217 := Tryz.func135.trans (congrArg some (by kernel_rfl))
  f219 := Tryz.func138.trans (congrArg some (by kernel_rfl))
  f224 := Tryz.func147.trans (congrArg some (by kernel_rfl))
  f225 := Tryz.func146.trans (congrArg some (by kernel_rfl))
  f266 := Tryz.func142.trans (congrArg some (by kernel_rfl))
  f267 := Tryz.func148.trans (congrArg some (by kernel_rfl))
  f314 := Tryz.func156.trans (congrArg some (by kernel_rfl))
  t3 := Tryz.underlying3
  a3 := Tryz.isAgg3
  z3 := Tryz.sizeOf3
  v3 := Tryz.zeroValue3
  t4 := Tryz.underlying4
  a4 := Tryz.isAgg4
  z4 := Tryz.sizeOf4
  v4 := Tryz.zeroValue4
  t5 := Tryz.underlying5
  a5 := Tryz.isAgg5
  z5 := Tryz.sizeOf5
  v5 := Tryz.zeroValue5
  t9 := Tryz.underlying9
  a9 := Tryz.isAgg9
  z9 := Tryz.sizeOf9
  v9 := Tryz.zeroValue9
  t46 := Tryz.underlying42
  a46 := Tryz.isAgg42
  z46 := Tryz.sizeOf42
  v46 := Tryz.zeroValue42
  t51 := Tryz.underlying157
  a51 := Tryz.isAgg157
  z51 := Tryz.sizeOf157
  v51 := Tryz.zeroValue157
  t146 := Tryz.underlying158
  a146 := Tryz.isAgg158
  z146 := Tryz.sizeOf158
  v146 := Tryz.zeroValue158
  g1 := by kernel_rfl }

theorem hp_at (s p : ByteArray) (b : Bool) (h : p.data.toList.isPrefixOf (bs s) = b) (w : World) :
    Calls Tryz.prog 122 #[.string s, .string p] w fun e w' => e = .returned (.bool b) ∧ w = w' :=
  (Any.strings_HasPrefix shP s p w).mono fun _ _ ⟨he, hw⟩ => ⟨he.trans (sret_bool h), hw.symm⟩

theorem ix_at (s p : ByteArray) (hs : s.size ≤ 10000) (w : World) (hL : LaidX w) :
    Calls Tryz.prog 132 #[.string s, .string p] w fun e w' => e = .returned (.int .i64 (Lib.index (bs s) p.data.toList)) ∧ w = w' := by
  obtain ⟨m, hm⟩ := hL.mx
  exact (Any.strings_Index shX s p m w (by omega) hm).mono fun _ _ ⟨he, hw⟩ => ⟨he, hw.symm⟩

theorem run_ixb (s : ByteArray) (c : Int) (w : World) : (callFunc 142 #[.string s, .int .u8 c]).run Tryz.prog w = .ok (.value (.int .i64 (Lib.indexByte s.data.toList c.toNat.toUInt8))) w := by
  rw [run_callFunc_extern Tryz.func142 (by kernel_rfl) (by kernel_rfl) (by kernel_rfl) (e := Extern.BytealgIndexByte.indexByte) (by kernel_rfl), Lib.run_indexByteString]
  rfl

set_option maxRecDepth 100000 in
set_option maxHeartbeats 400000 in
theorem lixb_any (s : ByteArray) (c : Int) (w : World) :
    Calls Tryz.prog 135 #[.string s, .int .u8 c] w fun e w' => e = .returned (.int .i64 (Lib.indexByte s.data.toList c.toNat.toUInt8)) ∧ w = w' := by
  have hr := run_ixb s c
  go_enter Tryz.func135, Tryz.ntmps135
  go_wp2
  go_ret
  exact ⟨rfl, rfl⟩

set_option maxHeartbeats 400000 in
theorem ixb_any (s : ByteArray) (c : Int) (w : World) :
    Calls Tryz.prog 127 #[.string s, .int .u8 c] w fun e w' => e = .returned (.int .i64 (Lib.indexByte s.data.toList c.toNat.toUInt8)) ∧ w = w' := by
  go_enter Tryz.func127, Tryz.ntmps127
  go_wp2_with (go_at_call 135; refine (lixb_any _ _ _).mono ?_; rintro e w' ⟨rfl, rfl⟩)
  go_ret
  exact ⟨rfl, rfl⟩

theorem ixb_ge (l : List UInt8) (c : UInt8) : -1 ≤ Lib.indexByte l c := by
  induction l with
  | nil => exact Int.le_refl _
  | cons b l ih =>
    unfold Lib.indexByte
    split
    · decide
    · split
      · exact Int.le_refl _
      · omega
theorem ixb_has (l : List UInt8) (c : UInt8) : decide (0 ≤ Lib.indexByte l c) = l.contains c := by
  induction l with
  | nil => rfl
  | cons b l ih =>
    rw [List.contains_cons, ← ih, show Lib.indexByte (b :: l) c = if b == c then 0 else if Lib.indexByte l c == -1 then -1 else Lib.indexByte l c + 1 from rfl]
    cases hb : b == c with
    | true =>
      have : (c == b) = true := by rw [beq_iff_eq] at hb ⊢; exact hb.symm
      rw [this]; rfl
    | false =>
      have : (c == b) = false := by
        rw [beq_eq_false_iff_ne] at hb ⊢; exact fun e => hb e.symm
      rw [this, Bool.false_or, if_neg (by decide)]
      by_cases h1 : Lib.indexByte l c = -1
      · rw [h1]; rfl
      · rw [if_neg (by simpa using h1), decide_eq_decide]
        have h2 : -1 ≤ Lib.indexByte l c := ixb_ge l c
        omega

set_option maxHeartbeats 400000 in
theorem nl_any : Asks 123 nl := by
  intro n w
  have hbe := beqd n 10
  cases a : decide (n = 10)
  all_goals
    rw [a] at hbe
    go_enter Tryz.func123, Tryz.ntmps123
    go_wp2
    go_ret
    exact ⟨sret_bool (by unfold nl; rw [bne, hbe]; simp only [decide_eq_true_eq, decide_eq_false_iff_not] at a; simp [a]), rfl⟩

theorem iw_any : Asks 125 lf := by
  intro n w
  cases a : lt n
  all_goals
    have HA := Lib.hid a
    clear a
    go_enter Tryz.func125, Tryz.ntmps125
    go_wp2_with (first | (go_at_call 80; refine (letter_any _ _).mono ?_; rw [HA.out]; rintro e w' ⟨rfl, rfl⟩) | (go_at_call 105; refine (figure_any _ _).mono ?_; rintro e w' ⟨rfl, rfl⟩))
    go_ret
    exact ⟨sret_bool (by unfold lf; rw [HA.out]; rfl), rfl⟩

theorem eg_nl : ∀ args w, (callFunc 123 args).run Tryz.prog w = .ok (.enter 123 args) w := by
  intro args w; simp [go_sem]
theorem eg_iw : ∀ args w, (callFunc 125 args).run Tryz.prog w = .ok (.enter 125 args) w := by
  intro args w; simp [go_sem]
theorem eg_bk : ∀ args w, (callFunc 111 args).run Tryz.prog w = .ok (.enter 111 args) w := by
  intro args w; simp [go_sem]

/-- a kind and a size, as they are answered -/
def tk2 (x : Nat × Nat) : Value := .tuple #[.int .i64 (x.1 : Nat), .int .i64 (x.2 : Nat)]

theorem bs_cut (s : ByteArray) (a b : Nat) : bs (s.extract a b) = ((bs s).drop a).take (b - a) := by
  have := Lib.extract_toList s a b
  rw [Lib.toList_data] at this
  exact this
theorem bs_end (s : ByteArray) (a : Nat) : bs (s.extract a s.size) = (bs s).drop a := by
  rw [bs_cut, List.take_of_length_le]
  simp
theorem bs_to (s : ByteArray) (b : Nat) : bs (s.extract 0 b) = (bs s).take b := by
  rw [bs_cut]; rfl

set_option maxRecDepth 100000 in
set_option maxHeartbeats 1000000 in
theorem star_any (s : ByteArray) (hs : s.size ≤ 10000) (w : World) (hL : LaidX w) (hp : [47, 42].isPrefixOf (bs s) = true) :
    Calls Tryz.prog 124 #[.string s] w fun e w' => e = .returned (tk2 (sl (bs s))) ∧ w = w' := by
  have h2 : 2 ≤ s.size := by have := pre_len hp; rw [bs_size] at this; exact this
  have hz : (s.extract 2 s.size).size ≤ 10000 := by rw [← bs_size, bs_end, List.length_drop, bs_size]; omega
  have HX := Lib.hid (ix_at (s.extract 2 s.size) ⟨#[42, 47]⟩ hz w hL)
  have he : Lib.index (bs (s.extract 2 s.size)) (⟨#[42, 47]⟩ : ByteArray).data.toList = Lib.index ((bs s).drop 2) [42, 47] := by rw [bs_end]
  rw [he] at HX
  clear hz he
  by_cases hi : Lib.index ((bs s).drop 2) [42, 47] < 0
  · have H0 := Lib.hid (sl_open hp hi)
    have HZ := Lib.hid (bs_size s)
    clear hp
    generalize Lib.index ((bs s).drop 2) [42, 47] = v at HX hi
    go_enter Tryz.func124, Tryz.ntmps124
    go_wp2_with (go_at_call 132; refine HX.out.mono ?_; rintro e w' ⟨rfl, rfl⟩)
    go_ret2
    exact ⟨by rw [H0.out, HZ.out]; rfl, rfl⟩
  · have H0 := Lib.hid (sl_star hp (by omega))
    have hlt := index_lt (s := (bs s).drop 2) (by omega)
    rw [List.length_drop, bs_size] at hlt
    clear hp
    generalize Lib.index ((bs s).drop 2) [42, 47] = v at HX hi H0 hlt
    obtain ⟨n, rfl⟩ : ∃ n : Nat, v = n := ⟨v.toNat, by omega⟩
    rw [Int.toNat_natCast] at hlt H0
    clear hi
    go_enter Tryz.func124, Tryz.ntmps124
    go_wp2_with (go_at_call 132; refine HX.out.mono ?_; rintro e w' ⟨rfl, rfl⟩)
    go_ret2
    refine ⟨?_, rfl⟩
    rw [H0.out]
    have e : ((n + 4 : Nat) : Int) = 2 + (n : Int) + 2 := by omega
    simp only [tk2, e]
    go_num

set_option maxRecDepth 100000 in
set_option maxHeartbeats 1000000 in
theorem slash_any (s : ByteArray) (hs : s.size ≤ 10000) (w : World) (hL : LaidX w) :
    Calls Tryz.prog 112 #[.string s] w fun e w' => e = .returned (tk2 (sl (bs s))) ∧ w = w' := by
  have hc0 : cl 0 s.size = 0 := by unfold cl; omega
  cases ha : [47, 47].isPrefixOf (bs s) with
  | true =>
    have H0 := Lib.hid (sl_line ha)
    have HP := Lib.hid (hp_at s ⟨#[47, 47]⟩ true ha w)
    have HR := Lib.hid (run_any _ nl nl_any eg_nl s hs 0 w)
    rw [hc0] at HR
    clear ha hc0
    go_enter Tryz.func112, Tryz.ntmps112
    go_wp2_with (first | (go_at_call 122; refine HP.out.mono ?_; rintro e w' ⟨rfl, rfl⟩) | (go_at_call 81; refine HR.out.mono ?_; rintro e w' ⟨rfl, rfl⟩))
    go_ret2
    exact ⟨by rw [H0.out]; rfl, rfl⟩
  | false =>
    have HP := Lib.hid (hp_at s ⟨#[47, 47]⟩ false ha w)
    clear hc0
    cases hb : [47, 42].isPrefixOf (bs s) with
    | true =>
      have HQ := Lib.hid (hp_at s ⟨#[47, 42]⟩ true hb w)
      have HS := Lib.hid (star_any s hs w hL hb)
      clear ha hb
      generalize sl (bs s) = x at HS
      go_enter Tryz.func112, Tryz.ntmps112
      go_wp2_with (first | (go_at_call 122; first | (refine HP.out.mono ?_; rintro e w' ⟨rfl, rfl⟩) | (refine HQ.out.mono ?_; rintro e w' ⟨rfl, rfl⟩)) | (go_at_call 124; refine HS.out.mono ?_; rintro e w' ⟨rfl, rfl⟩; unfold tk2))
      go_ret2
      exact ⟨rfl, rfl⟩
    | false =>
      have HQ := Lib.hid (hp_at s ⟨#[47, 42]⟩ false hb w)
      have H0 := Lib.hid (sl_bad ha hb)
      clear ha hb
      go_enter Tryz.func112, Tryz.ntmps112
      go_wp2_with (go_at_call 122; first | (refine HP.out.mono ?_; rintro e w' ⟨rfl, rfl⟩) | (refine HQ.out.mono ?_; rintro e w' ⟨rfl, rfl⟩))
      go_ret2
      exact ⟨by rw [H0.out]; rfl, rfl⟩

theorem hd_of (s : ByteArray) (hp : 0 < s.size) : ∃ r, bs s = s[0] :: r := by
  cases hb : bs s with
  | nil => have := bs_size s; rw [hb] at this; simp at this; omega
  | cons c r =>
    refine ⟨r, ?_⟩
    have h1 : (bs s)[0]? = some c := by rw [hb]; rfl
    have h2 : (bs s)[0]? = some s[0] := by rw [List.getElem?_eq_getElem (by rw [bs_size]; exact hp)]; rfl
    rw [h2] at h1; injection h1 with h1; rw [h1]

theorem u8_back (c : UInt8) : ((c.toNat : Int).toNat).toUInt8 = c := by
  rw [Int.toNat_natCast]; exact UInt8.toNat.inj (by simp)

set_option maxRecDepth 100000 in
set_option maxHeartbeats 1000000 in
theorem mark_any (s : ByteArray) (hp : 0 < s.size) (w : World) :
    Calls Tryz.prog 115 #[.string s] w fun e w' => e = .returned (tk2 (mk (bs s))) ∧ w = w' := by
  obtain ⟨r, hr⟩ := hd_of s hp
  have hh : (bs s).headD 0 = s[0] := by rw [hr]; rfl
  cases ha : [38, 38].isPrefixOf (bs s) with
  | true =>
    have H0 : Hid (mk (bs s) = (6, 2)) := Lib.hid (by unfold mk; rw [if_pos ha])
    have HP := Lib.hid (hp_at s ⟨#[38, 38]⟩ true ha w)
    clear ha hh hr
    go_enter Tryz.func115, Tryz.ntmps115
    go_wp2_with (go_at_call 122; refine HP.out.mono ?_; rintro e w' ⟨rfl, rfl⟩)
    go_ret2
    exact ⟨by rw [H0.out]; rfl, rfl⟩
  | false =>
    have HP := Lib.hid (hp_at s ⟨#[38, 38]⟩ false ha w)
    have HX := Lib.hid (ixb_any ⟨#[123, 125, 40, 41, 91, 93, 59, 44, 46, 61, 60, 43, 45, 42, 33]⟩ (s[0].toNat : Int) w)
    rw [u8_back] at HX
    have HV := Lib.hid (ixb_has sg s[0])
    have H0 : Hid (mk (bs s) = if sg.contains s[0] = true then (6, 1) else (7, 1)) := Lib.hid (by unfold mk; rw [ha, hh]; rfl)
    rw [← HV.out] at H0
    rw [show (⟨#[123, 125, 40, 41, 91, 93, 59, 44, 46, 61, 60, 43, 45, 42, 33]⟩ : ByteArray).data.toList = sg from rfl] at HX
    clear HV ha hh hr
    generalize Lib.indexByte sg s[0] = v at HX H0
    by_cases hv : 0 ≤ v
    · rw [decide_eq_true hv, if_pos rfl] at H0
      go_enter Tryz.func115, Tryz.ntmps115
      go_wp2_with (first | (go_at_call 122; refine HP.out.mono ?_; rintro e w' ⟨rfl, rfl⟩) | (go_at_call 127; refine HX.out.mono ?_; rintro e w' ⟨rfl, rfl⟩))
      go_ret2
      exact ⟨by rw [H0.out]; rfl, rfl⟩
    · rw [decide_eq_false hv, if_neg (by decide)] at H0
      go_enter Tryz.func115, Tryz.ntmps115
      go_wp2_with (first | (go_at_call 122; refine HP.out.mono ?_; rintro e w' ⟨rfl, rfl⟩) | (go_at_call 127; refine HX.out.mono ?_; rintro e w' ⟨rfl, rfl⟩))
      go_ret2
      exact ⟨by rw [H0.out]; rfl, rfl⟩

/-- a number's answer: none, and an error -/
theorem numV_none {s : ByteArray} (h : num (bs s) = none) : ∃ t p, numV s = .tuple #[.int .i64 0, .iface t p] := by
  unfold numV; rw [h]; exact ⟨_, _, rfl⟩
theorem numV_some {s : ByteArray} {n : Nat} (h : num (bs s) = some n) : numV s = .tuple #[.int .i64 (n : Nat), .nilIface] := by
  unfold numV; rw [h]

theorem pr_head {c : UInt8} {r : List UInt8} (h : pr.isPrefixOf (c :: r) = true) : c = 83 := by
  unfold pr at h; simp [List.isPrefixOf] at h; exact h.1.symm

/-- a run that begins with a byte of its kind has a first byte -/
theorem run_fst {c : UInt8} {r : List UInt8} (h : lf (nb c) = true) : ∃ q, (c :: r).take (rn lf (c :: r) 0) = c :: q := by
  rw [rn_cons h, Nat.add_comm]; exact ⟨_, rfl⟩

set_option maxRecDepth 100000 in
set_option maxHeartbeats 1000000 in
theorem lexNumber_any (s : ByteArray) (hs : s.size ≤ 10000) (hp : 0 < s.size) (hf : fg (nb s[0]) = true) (w : World) (hL : LaidX w) :
    Calls Tryz.prog 114 #[.string s] w fun e w' => e = .returned (tk2 (wo (bs s))) ∧ Below w.heap.size w w' := by
  obtain ⟨r, hr⟩ := hd_of s hp
  have hc0 : cl 0 s.size = 0 := by unfold cl; omega
  have HR := Lib.hid (run_any _ lf iw_any eg_iw s hs 0 w)
  rw [hc0] at HR
  have hle := (rn_le lf (bs s) 0 (Nat.zero_le _)).2
  rw [bs_size] at hle
  have H0 : Hid (wo (bs s) = (if (num ((bs s).take (rn lf (bs s) 0))).isSome = true then 5 else 7, rn lf (bs s) 0)) := Lib.hid (by
    have hlf : lf (nb s[0]) = true := by unfold lf; rw [hf]; simp
    unfold wo
    rw [hr, if_neg (by
      rintro ⟨hq, _⟩
      have := pr_head hq
      rw [this] at hf
      revert hf; decide)]
    obtain ⟨q, hq⟩ := run_fst (r := r) hlf
    rw [hq, wk_fg hf])
  have HB := Lib.hid (bs_to s (rn lf (bs s) 0))
  rw [← HB.out] at H0
  change Hid (Calls _ _ _ _ fun e w' => e = .returned (.int .i64 (rn lf (bs s) 0 : Nat)) ∧ w = w') at HR
  clear hc0 hr hf HB
  generalize rn lf (bs s) 0 = m at HR H0 hle
  have hz : (s.extract 0 m).size ≤ 10000 := by rw [← bs_size, bs_to, List.length_take, bs_size]; omega
  have HN := Lib.hid (number_any (s.extract 0 m) hz w hL.laid)
  cases hn : num (bs (s.extract 0 m)) with
  | none =>
    obtain ⟨t, p, hv⟩ := numV_none hn
    rw [hv] at HN
    rw [hn] at H0
    clear hn hv hz
    go_enter Tryz.func114, Tryz.ntmps114
    go_wp2_with (first | (go_at_call 81; refine HR.out.mono ?_; rintro e w' ⟨rfl, rfl⟩) | (go_at_call 126; refine HN.out.mono ?_; rintro e w' ⟨rfl, hb⟩))
    go_ret2
    exact ⟨by rw [H0.out]; rfl, hb⟩
  | some n =>
    rw [numV_some hn] at HN
    rw [hn] at H0
    clear hn hz
    go_enter Tryz.func114, Tryz.ntmps114
    go_wp2_with (first | (go_at_call 81; refine HR.out.mono ?_; rintro e w' ⟨rfl, rfl⟩) | (go_at_call 126; refine HN.out.mono ?_; rintro e w' ⟨rfl, hb⟩))
    go_ret2
    exact ⟨by rw [H0.out]; rfl, hb⟩

/-- no letter and no figure behind the printer: the run from there on ends there -/
theorem lfAt_run (l : List UInt8) (h : 18 ≤ l.length) : decide (rn lf l 18 = 18) = !lfAt l 18 := by
  unfold lfAt
  by_cases h1 : 18 < l.length
  · rw [List.getElem?_eq_getElem h1]
    cases hq : lf (nb l[18]) with
    | true =>
      have h2 : rn lf l 18 = rn lf l 19 := rn_step lf l 18 h1 hq
      have h3 := (rn_le lf l 19 (by omega)).1
      simp only [hq]
      rw [decide_eq_false_iff_not.2 (by omega)]; rfl
    | false =>
      have h2 := rn_stop lf l 18 h1 hq
      simp only [hq]
      rw [h2]; rfl
  · have h2 := rn_end lf l 18 (by omega)
    rw [List.getElem?_eq_none (by omega), h2]; rfl

set_option maxRecDepth 100000 in
set_option maxHeartbeats 2000000 in
theorem lexWord_any (s : ByteArray) (hs : s.size ≤ 10000) (hp : 0 < s.size) (hf : lt (nb s[0]) = true) (w : World) (hL : LaidX w) :
    Calls Tryz.prog 113 #[.string s] w fun e w' => e = .returned (tk2 (wo (bs s))) ∧ w = w' := by
  obtain ⟨r, hr⟩ := hd_of s hp
  have hc0 : cl 0 s.size = 0 := by unfold cl; omega
  have HR := Lib.hid (run_any _ lf iw_any eg_iw s hs 0 w)
  rw [hc0] at HR
  change Hid (Calls _ _ _ _ fun e w' => e = .returned (.int .i64 (rn lf (bs s) 0 : Nat)) ∧ w = w') at HR
  have hle := (rn_le lf (bs s) 0 (Nat.zero_le _)).2
  rw [bs_size] at hle
  have HW : Hid (wk ((bs s).take (rn lf (bs s) 0)) = if kwl ((bs s).take (rn lf (bs s) 0)) = true then 3 else if wd ((bs s).take (rn lf (bs s) 0)) = true then 4 else 7) := Lib.hid (by
    have hlf : lf (nb s[0]) = true := lf_of_lt hf
    rw [hr]
    obtain ⟨q, hq⟩ := run_fst (r := r) hlf
    rw [hq, wk_lt hf])
  have HO : Hid (¬ (pr.isPrefixOf (bs s) = true ∧ lfAt (bs s) 18 = false) → wo (bs s) = (wk ((bs s).take (rn lf (bs s) 0)), rn lf (bs s) 0)) := Lib.hid (fun h => by unfold wo; rw [if_neg h])
  have HO' : Hid (pr.isPrefixOf (bs s) = true ∧ lfAt (bs s) 18 = false → wo (bs s) = (3, 18)) := Lib.hid (fun h => by unfold wo; rw [if_pos h])
  rw [HW.out, ← bs_to, kwl_bs] at HO
  clear hc0 hr hf HW
  generalize rn lf (bs s) 0 = m at HR HO hle
  have hz : (s.extract 0 m).size ≤ 10000 := by rw [← bs_size, bs_to, List.length_take, bs_size]; omega
  have HK := Lib.hid (keyword_any (s.extract 0 m) hz w hL.laid)
  have HD := Lib.hid (word_any (s.extract 0 m) hz w)
  clear hz
  cases ha : pr.isPrefixOf (bs s) with
  | true =>
    have h18 : 18 ≤ s.size := by have := pre_len ha; rw [bs_size] at this; exact this
    have HP := Lib.hid (hp_at s ⟨#[83, 121, 115, 116, 101, 109, 46, 111, 117, 116, 46, 112, 114, 105, 110, 116, 108, 110]⟩ true ha w)
    have hc8 : cl 18 s.size = 18 := by unfold cl; omega
    have HS := Lib.hid (run_any _ lf iw_any eg_iw s hs 18 w)
    rw [hc8] at HS
    change Hid (Calls _ _ _ _ fun e w' => e = .returned (.int .i64 (rn lf (bs s) 18 : Nat)) ∧ w = w') at HS
    have hl := lfAt_run (bs s) (by rw [bs_size]; exact h18)
    rw [ha] at HO HO'
    clear hc8 ha
    generalize rn lf (bs s) 18 = k at HS hl
    have hbe := beqd k 18
    cases hq : lfAt (bs s) 18 with
    | false =>
      rw [hq] at hl HO'
      have hk : k = 18 := by simpa using hl
      subst hk
      have H0 := Lib.hid (HO'.out ⟨rfl, rfl⟩)
      clear HO HO' hl hq hbe
      go_enter Tryz.func113, Tryz.ntmps113
      go_wp2_with (first | (go_at_call 122; refine HP.out.mono ?_; rintro e w' ⟨rfl, rfl⟩) | (go_at_call 81; refine HS.out.mono ?_; rintro e w' ⟨rfl, rfl⟩))
      go_ret2
      exact ⟨by rw [H0.out]; rfl, rfl⟩
    | true =>
      rw [hq] at hl HO
      have hk : k ≠ 18 := by simpa using hl
      have hk' : ((k : Int) == 18) = false := by rw [beqd, decide_eq_false_iff_not]; omega
      have H0 := Lib.hid (HO.out (fun h => by cases h.2))
      clear HO HO' hl hq hbe
      cases hkw : kw (s.extract 0 m) <;> cases hwd : wd (bs (s.extract 0 m))
      all_goals
        rw [hkw] at HK H0
        rw [hwd] at HD H0
        clear hkw hwd
        go_enter Tryz.func113, Tryz.ntmps113
        go_wp2_with (first | (go_at_call 122; refine HP.out.mono ?_; rintro e w' ⟨rfl, rfl⟩) | (go_at_call 81; first | (with_reducible refine HS.out.mono ?_; rintro e w' ⟨rfl, rfl⟩) | (with_reducible refine HR.out.mono ?_; rintro e w' ⟨rfl, rfl⟩)) | (go_at_call 63; refine HK.out.mono ?_; rintro e w' ⟨rfl, rfl⟩) | (go_at_call 62; refine HD.out.mono ?_; rintro e w' ⟨rfl, rfl⟩))
        go_ret2
        exact ⟨by rw [H0.out]; rfl, rfl⟩
  | false =>
    have HP := Lib.hid (hp_at s ⟨#[83, 121, 115, 116, 101, 109, 46, 111, 117, 116, 46, 112, 114, 105, 110, 116, 108, 110]⟩ false ha w)
    have H0 := Lib.hid (HO.out (fun h => by rw [ha] at h; cases h.1))
    clear HO HO' ha
    cases hkw : kw (s.extract 0 m) <;> cases hwd : wd (bs (s.extract 0 m))
    all_goals
      rw [hkw] at HK H0
      rw [hwd] at HD H0
      clear hkw hwd
      go_enter Tryz.func113, Tryz.ntmps113
      go_wp2_with (first | (go_at_call 122; refine HP.out.mono ?_; rintro e w' ⟨rfl, rfl⟩) | (go_at_call 81; (refine HR.out.mono ?_; rintro e w' ⟨rfl, rfl⟩)) | (go_at_call 63; refine HK.out.mono ?_; rintro e w' ⟨rfl, rfl⟩) | (go_at_call 62; refine HD.out.mono ?_; rintro e w' ⟨rfl, rfl⟩))
      go_ret2
      exact ⟨by rw [H0.out]; rfl, rfl⟩

set_option maxRecDepth 100000 in
set_option maxHeartbeats 1000000 in
theorem first_any (s : ByteArray) (hs : s.size ≤ 10000) (hp : 0 < s.size) (w : World) (hL : LaidX w) :
    Calls Tryz.prog 92 #[.string s] w fun e w' => e = .returned (tk2 (ft (bs s))) ∧ Below w.heap.size w w' := by
  obtain ⟨r, hr⟩ := hd_of s hp
  have hh : (bs s).headD 0 = s[0] := by rw [hr]; rfl
  have hc0 : cl 0 s.size = 0 := by unfold cl; omega
  have hbe := beqd (s[0].toNat : Int) 47
  have h47 : s[0] = 47 ↔ (s[0].toNat : Int) = 47 := by
    constructor
    · intro h; rw [h]; rfl
    · intro h; exact UInt8.toNat.inj (by simpa using (by omega : s[0].toNat = 47))
  cases hb : bk (nb s[0]) with
  | true =>
    have H0 : Hid (ft (bs s) = (1, rn bk (bs s) 0)) := Lib.hid (by unfold ft; rw [hh, if_pos hb])
    have HR := Lib.hid (run_any _ bk blank_any eg_bk s hs 0 w)
    rw [hc0] at HR
    have HB := Lib.hid hb
    clear hb hh hr hc0 hbe h47
    go_enter Tryz.func92, Tryz.ntmps92
    go_wp2_with (first | (go_at_call 111; refine (blank_any _ _).mono ?_; rw [show bk (s[0].toNat : Int) = true from HB.out]; rintro e w' ⟨rfl, rfl⟩) | (go_at_call 81; refine HR.out.mono ?_; rintro e w' ⟨rfl, rfl⟩))
    go_ret2
    exact ⟨by rw [H0.out]; rfl, Below.refl _ _⟩
  | false =>
    have HB := Lib.hid hb
    by_cases h1 : s[0] = 47
    · have H0 : Hid (ft (bs s) = sl (bs s)) := Lib.hid (by unfold ft; rw [hh, hb, if_neg (by decide), if_pos h1])
      have HS := Lib.hid (slash_any s hs w hL)
      rw [decide_eq_true (h47.1 h1)] at hbe
      rw [← H0.out] at HS
      clear hb hh hr hc0 h47 h1
      generalize ft (bs s) = x at HS
      go_enter Tryz.func92, Tryz.ntmps92
      go_wp2_with (first | (go_at_call 111; refine (blank_any _ _).mono ?_; rw [show bk (s[0].toNat : Int) = false from HB.out]; rintro e w' ⟨rfl, rfl⟩) | (go_at_call 112; refine HS.out.mono ?_; rintro e w' ⟨rfl, rfl⟩; unfold tk2))
      go_ret2
      exact ⟨rfl, Below.refl _ _⟩
    · rw [decide_eq_false (fun h => h1 (h47.2 h))] at hbe
      cases hl : lt (nb s[0]) with
      | true =>
        have HS := Lib.hid (lexWord_any s hs hp hl w hL)
        have H0 : Hid (ft (bs s) = wo (bs s)) := Lib.hid (by unfold ft; rw [hh, hb, if_neg (by decide), if_neg h1, if_pos (lf_of_lt hl)])
        rw [← H0.out] at HS
        have HA := Lib.hid hl
        clear hb hh hr hc0 h47 h1 hl
        generalize ft (bs s) = x at HS
        go_enter Tryz.func92, Tryz.ntmps92
        go_wp2_with (first | (go_at_call 111; refine (blank_any _ _).mono ?_; rw [show bk (s[0].toNat : Int) = false from HB.out]; rintro e w' ⟨rfl, rfl⟩) | (go_at_call 80; refine (letter_any _ _).mono ?_; rw [show lt (s[0].toNat : Int) = true from HA.out]; rintro e w' ⟨rfl, rfl⟩) | (go_at_call 113; refine HS.out.mono ?_; rintro e w' ⟨rfl, rfl⟩; unfold tk2))
        go_ret2
        exact ⟨rfl, Below.refl _ _⟩
      | false =>
        have HA := Lib.hid hl
        cases hf : fg (nb s[0]) with
        | true =>
          have HS := Lib.hid (lexNumber_any s hs hp hf w hL)
          have H0 : Hid (ft (bs s) = wo (bs s)) := Lib.hid (by unfold ft; rw [hh, hb, if_neg (by decide), if_neg h1, if_pos (by unfold lf; rw [hf]; simp)])
          rw [← H0.out] at HS
          have HF := Lib.hid hf
          clear hb hh hr hc0 h47 h1 hl hf
          generalize ft (bs s) = x at HS
          go_enter Tryz.func92, Tryz.ntmps92
          go_wp2_with (first | (go_at_call 111; refine (blank_any _ _).mono ?_; rw [show bk (s[0].toNat : Int) = false from HB.out]; rintro e w' ⟨rfl, rfl⟩) | (go_at_call 80; refine (letter_any _ _).mono ?_; rw [show lt (s[0].toNat : Int) = false from HA.out]; rintro e w' ⟨rfl, rfl⟩) | (go_at_call 105; refine (figure_any _ _).mono ?_; rw [show fg (s[0].toNat : Int) = true from HF.out]; rintro e w' ⟨rfl, rfl⟩) | (go_at_call 114; refine HS.out.mono ?_; rintro e w' ⟨rfl, hb⟩; unfold tk2))
          go_ret2
          exact ⟨rfl, hb⟩
        | false =>
          have HS := Lib.hid (mark_any s hp w)
          have H0 : Hid (ft (bs s) = mk (bs s)) := Lib.hid (by unfold ft; rw [hh, hb, if_neg (by decide), if_neg h1, if_neg (by unfold lf; rw [hf, hl]; decide)])
          rw [← H0.out] at HS
          have HF := Lib.hid hf
          clear hb hh hr hc0 h47 h1 hl hf
          generalize ft (bs s) = x at HS
          go_enter Tryz.func92, Tryz.ntmps92
          go_wp2_with (first | (go_at_call 111; refine (blank_any _ _).mono ?_; rw [show bk (s[0].toNat : Int) = false from HB.out]; rintro e w' ⟨rfl, rfl⟩) | (go_at_call 80; refine (letter_any _ _).mono ?_; rw [show lt (s[0].toNat : Int) = false from HA.out]; rintro e w' ⟨rfl, rfl⟩) | (go_at_call 105; refine (figure_any _ _).mono ?_; rw [show fg (s[0].toNat : Int) = false from HF.out]; rintro e w' ⟨rfl, rfl⟩) | (go_at_call 115; refine HS.out.mono ?_; rintro e w' ⟨rfl, rfl⟩; unfold tk2))
          go_ret2
          exact ⟨rfl, Below.refl _ _⟩
end Go.Proofs.YtfmlcddakfbleaaGreatDoor
