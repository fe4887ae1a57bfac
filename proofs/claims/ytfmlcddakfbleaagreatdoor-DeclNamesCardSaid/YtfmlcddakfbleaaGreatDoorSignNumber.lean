/- strconv.Atoi and strconv.Itoa at this program: the shelf's contracts, by two tables of numbers; sign.Number and the document's. -/
import Derived.Shelf.LaysM
import Derived.Shelf.LaysC
import Derived.Shelf.Strconv.Itoa3
import Derived.Shelf.Strconv.AtoiAll
import Derived.Test.YtfmlcddakfbleaaGreatDoorSignWords
namespace Go.Proofs.YtfmlcddakfbleaaGreatDoor
open Go.Shelf Go.RowKit SignMath

def shI_ren : Go.Shelf.Ren := ⟨fun | 171 => 134 | 243 => 141 | 246 => 154 | 283 => 160 | 284 => 161 | 285 => 162 | 286 => 163 | 129 => 168 | 317 => 167 | 318 => 169 | 319 => 170 | 320 => 171 | 337 => 177 | 338 => 178 | n => n, fun | 3 => 3 | 9 => 9 | 2 => 2 | 4 => 4 | 171 => 165 | 0 => 0 | 53 => 160 | 37 => 68 | 5 => 5 | 173 => 168 | 212 => 175 | 51 => 157 | 20 => 20 | 213 => 176 | 46 => 42 | 232 => 181 | 233 => 182 | n => n, fun | 17 => 4 | 18 => 5 | 19 => 6 | n => n⟩
theorem shI : Go.Proofs.LaysM.n171 Tryz.prog shI_ren := {
  mixed := by kernel_rfl
  f129 := Tryz.func168.trans (congrArg some (by kernel_rfl))
  f171 := Tryz.func134.trans (congrArg some (by kernel_rfl))
  f243 := Tryz.func141.trans (congrArg some (by kernel_rfl))
  f246 := Tryz.func154.trans (congrArg some (by kernel_rfl))
  f283 := Tryz.func160.trans (congrArg some (by kernel_rfl))
  f284 := Tryz.func161.trans (congrArg some (by kernel_rfl))
  f285 := Tryz.func162.trans (congrArg some (by kernel_rfl))
  f286 := Tryz.func163.trans (congrArg some (by kernel_rfl))
  f317 := Tryz.func167.trans (congrArg some (by kernel_rfl))
  f318 := Tryz.func169.trans (congrArg some (by kernel_rfl))
  f319 := Tryz.func170.trans (congrArg some (by kernel_rfl))
  f320 := Tryz.func171.trans (congrArg some (by kernel_rfl))
  f337 := Tryz.func177.trans (congrArg some (by kernel_rfl))
  f338 := Tryz.func178.trans (congrArg some (by kernel_rfl))
  t0 := Tryz.underlying0
  a0 := Tryz.isAgg0
  z0 := Tryz.sizeOf0
  v0 := Tryz.zeroValue0
  t2 := Tryz.underlying2
  a2 := Tryz.isAgg2
  z2 := Tryz.sizeOf2
  v2 := Tryz.zeroValue2
  t3 := Tryz.underlying3
  a3 := Tryz.isAgg3
  z3 := Tryz.sizeOf3
  v3 := Tryz.zeroValue3
  t4 := Tryz.underlying4
  a4 := Tryz.isAgg4
  z4 := Tryz.sizeOf4
  v4 := Tryz.zeroValue4
  t5 := Tryz.underlying5
  a5 := Tryz.isAgg5
  z5 := Tryz.sizeOf5
  v5 := Tryz.zeroValue5
  t9 := Tryz.underlying9
  a9 := Tryz.isAgg9
  z9 := Tryz.sizeOf9
  v9 := Tryz.zeroValue9
  t20 := Tryz.underlying20
  a20 := Tryz.isAgg20
  z20 := Tryz.sizeOf20
  v20 := Tryz.zeroValue20
  t37 := Tryz.underlying68
  a37 := Tryz.isAgg68
  z37 := Tryz.sizeOf68
  v37 := Tryz.zeroValue68
  t46 := Tryz.underlying42
  a46 := Tryz.isAgg42
  z46 := Tryz.sizeOf42
  v46 := Tryz.zeroValue42
  t51 := Tryz.underlying157
  a51 := Tryz.isAgg157
  z51 := Tryz.sizeOf157
  v51 := Tryz.zeroValue157
  t53 := Tryz.underlying160
  a53 := Tryz.isAgg160
  z53 := Tryz.sizeOf160
  v53 := Tryz.zeroValue160
  t171 := Tryz.underlying165
  a171 := Tryz.isAgg165
  z171 := Tryz.sizeOf165
  v171 := Tryz.zeroValue165
  t173 := Tryz.underlying168
  a173 := Tryz.isAgg168
  z173 := Tryz.sizeOf168
  v173 := Tryz.zeroValue168
  t212 := Tryz.underlying175
  a212 := Tryz.isAgg175
  z212 := Tryz.sizeOf175
  v212 := Tryz.zeroValue175
  t213 := Tryz.underlying176
  a213 := Tryz.isAgg176
  z213 := Tryz.sizeOf176
  t232 := Tryz.underlying181
  a232 := Tryz.isAgg181
  z232 := Tryz.sizeOf181
  v232 := Tryz.zeroValue181
  t233 := Tryz.underlying182
  a233 := Tryz.isAgg182
  z233 := Tryz.sizeOf182
  v233 := Tryz.zeroValue182
  g17 := by kernel_rfl
  g18 := by kernel_rfl
  g19 := by kernel_rfl
  i0 := by kernel_rfl
  i2 := by kernel_rfl
  i3 := by kernel_rfl
  i4 := by kernel_rfl
  i5 := by kernel_rfl
  i9 := by kernel_rfl
  i20 := by kernel_rfl
  i37 := by kernel_rfl
  i46 := by kernel_rfl
  i51 := by kernel_rfl
  i53 := by kernel_rfl
  i171 := by kernel_rfl
  i173 := by kernel_rfl
  i212 := by kernel_rfl
  i232 := by kernel_rfl
  i233 := by kernel_rfl
  m17 := by kernel_rfl
  m18 := by kernel_rfl
  m19 := by kernel_rfl }

def shA_ren : Go.Shelf.Ren := ⟨fun | 172 => 133 | 244 => 139 | 245 => 140 | 247 => 149 | 279 => 150 | 280 => 151 | 281 => 152 | 282 => 153 | 287 => 157 | 316 => 158 | 171 => 134 | 205 => 159 | 321 => 165 | 322 => 166 | 243 => 141 | 246 => 154 | 283 => 160 | 284 => 161 | 285 => 162 | 286 => 163 | 129 => 168 | 317 => 167 | 318 => 169 | 319 => 170 | 320 => 171 | 337 => 177 | 338 => 178 | n => n, fun | 9 => 9 | 3 => 3 | 75 => 25 | 76 => 63 | 4 => 4 | 5 => 5 | 167 => 150 | 37 => 68 | 0 => 0 | 85 => 151 | 2 => 2 | 168 => 153 | 53 => 160 | 175 => 161 | 46 => 42 | 210 => 164 | 127 => 93 | 145 => 173 | 143 => 171 | 21 => 21 | 171 => 165 | 173 => 168 | 212 => 175 | 51 => 157 | 20 => 20 | 213 => 176 | 232 => 181 | 233 => 182 | 80 => 65 | n => n, fun | 15 => 2 | 16 => 3 | 17 => 4 | 18 => 5 | 19 => 6 | n => n⟩
theorem shA : Go.Proofs.LaysC.n172 Tryz.prog shA_ren := {
  mixed := by kernel_rfl
  f129 := Tryz.func168.trans (congrArg some (by kernel_rfl))
  f171 := Tryz.func134.trans (congrArg some (by kernel_rfl))
  f172 := Tryz.func133.trans (congrArg some (by kernel_rfl))
  f205 := Tryz.func159.trans (congrArg some (by kernel_rfl))
  f243 := Tryz.func141.trans (congrArg some (by kernel_rfl))
  f244 := Tryz.func139.trans (congrArg some (by kernel_rfl))
  f245 := Tryz.func140.trans (congrArg some (by kernel_rfl))
  f246 := Tryz.func154.trans (congrArg some (by kernel_rfl))
  f247 := Tryz.func149.trans (congrArg some (by kernel_rfl))
  f279 := Tryz.func150.trans (congrArg some (by kernel_rfl))
  f280 := Tryz.func151.trans (congrArg some (by kernel_rfl))
  f281 := Tryz.func152.trans (congrArg some (by kernel_rfl))
  f282 := Tryz.func153.trans (congrArg some (by kernel_rfl))
  f283 := Tryz.func160.trans (congrArg some (by kernel_rfl))
  f284 := Tryz.func161.trans (congrArg some (by kernel_rfl))
  f285 := Tryz.func162.trans (congrArg some (by kernel_rfl))
  f286 := Tryz.func163.trans (congrArg some (by kernel_rfl))
  f287 := Tryz.func157.trans (congrArg some (by kernel_rfl))
  f316 := Tryz.func158.trans (congrArg some (by kernel_rfl))
  f317 := Tryz.func167.trans (congrArg some (by kernel_rfl))
  f318 := Tryz.func169.trans (congrArg some (by kernel_rfl))
  f319 := Tryz.func170.trans (congrArg some (by kernel_rfl))
  f320 := Tryz.func171.trans (congrArg some (by kernel_rfl))
  f321 := Tryz.func165.trans (congrArg some (by kernel_rfl))
  f322 := Tryz.func166.trans (congrArg some (by kernel_rfl))
  f337 := Tryz.func177.trans (congrArg some (by kernel_rfl))
  f338 := Tryz.func178.trans (congrArg some (by kernel_rfl))
  t0 := Tryz.underlying0
  a0 := Tryz.isAgg0
  z0 := Tryz.sizeOf0
  v0 := Tryz.zeroValue0
  t2 := Tryz.underlying2
  a2 := Tryz.isAgg2
  z2 := Tryz.sizeOf2
  v2 := Tryz.zeroValue2
  t3 := Tryz.underlying3
  a3 := Tryz.isAgg3
  z3 := Tryz.sizeOf3
  v3 := Tryz.zeroValue3
  t4 := Tryz.underlying4
  a4 := Tryz.isAgg4
  z4 := Tryz.sizeOf4
  v4 := Tryz.zeroValue4
  t5 := Tryz.underlying5
  a5 := Tryz.isAgg5
  z5 := Tryz.sizeOf5
  v5 := Tryz.zeroValue5
  t9 := Tryz.underlying9
  a9 := Tryz.isAgg9
  z9 := Tryz.sizeOf9
  v9 := Tryz.zeroValue9
  t20 := Tryz.underlying20
  a20 := Tryz.isAgg20
  z20 := Tryz.sizeOf20
  v20 := Tryz.zeroValue20
  t21 := Tryz.underlying21
  a21 := Tryz.isAgg21
  z21 := Tryz.sizeOf21
  v21 := Tryz.zeroValue21
  t37 := Tryz.underlying68
  a37 := Tryz.isAgg68
  z37 := Tryz.sizeOf68
  v37 := Tryz.zeroValue68
  t46 := Tryz.underlying42
  a46 := Tryz.isAgg42
  z46 := Tryz.sizeOf42
  v46 := Tryz.zeroValue42
  t51 := Tryz.underlying157
  a51 := Tryz.isAgg157
  z51 := Tryz.sizeOf157
  v51 := Tryz.zeroValue157
  t53 := Tryz.underlying160
  a53 := Tryz.isAgg160
  z53 := Tryz.sizeOf160
  v53 := Tryz.zeroValue160
  t75 := Tryz.underlying25
  a75 := Tryz.isAgg25
  z75 := Tryz.sizeOf25
  v75 := Tryz.zeroValue25
  t76 := Tryz.underlying63
  a76 := Tryz.isAgg63
  z76 := Tryz.sizeOf63
  v76 := Tryz.zeroValue63
  t85 := Tryz.underlying151
  a85 := Tryz.isAgg151
  z85 := Tryz.sizeOf151
  v85 := Tryz.zeroValue151
  t127 := Tryz.underlying93
  a127 := Tryz.isAgg93
  z127 := Tryz.sizeOf93
  v127 := Tryz.zeroValue93
  t143 := Tryz.underlying171
  a143 := Tryz.isAgg171
  z143 := Tryz.sizeOf171
  v143 := Tryz.zeroValue171
  t145 := Tryz.underlying173
  a145 := Tryz.isAgg173
  z145 := Tryz.sizeOf173
  v145 := Tryz.zeroValue173
  t167 := Tryz.underlying150
  a167 := Tryz.isAgg150
  z167 := Tryz.sizeOf150
  v167 := Tryz.zeroValue150
  t168 := Tryz.underlying153
  a168 := Tryz.isAgg153
  z168 := Tryz.sizeOf153
  v168 := Tryz.zeroValue153
  t171 := Tryz.underlying165
  a171 := Tryz.isAgg165
  z171 := Tryz.sizeOf165
  v171 := Tryz.zeroValue165
  t173 := Tryz.underlying168
  a173 := Tryz.isAgg168
  z173 := Tryz.sizeOf168
  v173 := Tryz.zeroValue168
  t175 := Tryz.underlying161
  a175 := Tryz.isAgg161
  z175 := Tryz.sizeOf161
  v175 := Tryz.zeroValue161
  t210 := Tryz.underlying164
  a210 := Tryz.isAgg164
  z210 := Tryz.sizeOf164
  v210 := Tryz.zeroValue164
  t212 := Tryz.underlying175
  a212 := Tryz.isAgg175
  z212 := Tryz.sizeOf175
  v212 := Tryz.zeroValue175
  t213 := Tryz.underlying176
  a213 := Tryz.isAgg176
  z213 := Tryz.sizeOf176
  t232 := Tryz.underlying181
  a232 := Tryz.isAgg181
  z232 := Tryz.sizeOf181
  v232 := Tryz.zeroValue181
  t233 := Tryz.underlying182
  a233 := Tryz.isAgg182
  z233 := Tryz.sizeOf182
  v233 := Tryz.zeroValue182
  g15 := by kernel_rfl
  g16 := by kernel_rfl
  g17 := by kernel_rfl
  g18 := by kernel_rfl
  g19 := by kernel_rfl
  t80 := Tryz.underlying65
  a80 := Tryz.isAgg65
  z80 := Tryz.sizeOf65
  v80 := Tryz.zeroValue65
  i0 := by kernel_rfl
  i2 := by kernel_rfl
  i3 := by kernel_rfl
  i4 := by kernel_rfl
  i5 := by kernel_rfl
  i9 := by kernel_rfl
  i20 := by kernel_rfl
  i21 := by kernel_rfl
  i37 := by kernel_rfl
  i46 := by kernel_rfl
  i51 := by kernel_rfl
  i53 := by kernel_rfl
  i75 := by kernel_rfl
  i76 := by kernel_rfl
  i80 := by kernel_rfl
  i85 := by kernel_rfl
  i127 := by kernel_rfl
  i143 := by kernel_rfl
  i145 := by kernel_rfl
  i167 := by kernel_rfl
  i168 := by kernel_rfl
  i171 := by kernel_rfl
  i173 := by kernel_rfl
  i175 := by kernel_rfl
  i210 := by kernel_rfl
  i212 := by kernel_rfl
  i232 := by kernel_rfl
  i233 := by kernel_rfl
  m15 := by kernel_rfl
  m16 := by kernel_rfl
  m17 := by kernel_rfl
  m18 := by kernel_rfl
  m19 := by kernel_rfl
  c0 := by kernel_rfl
  c2 := by kernel_rfl
  c3 := by kernel_rfl
  c4 := by kernel_rfl
  c5 := by kernel_rfl
  c9 := by kernel_rfl
  c20 := by kernel_rfl
  c21 := by kernel_rfl
  c37 := by kernel_rfl
  c46 := by kernel_rfl
  c51 := by kernel_rfl
  c53 := by kernel_rfl
  c75 := by kernel_rfl
  c76 := by kernel_rfl
  c80 := by kernel_rfl
  c85 := by kernel_rfl
  c127 := by kernel_rfl
  c143 := by kernel_rfl
  c145 := by kernel_rfl
  c167 := by kernel_rfl
  c168 := by kernel_rfl
  c171 := by kernel_rfl
  c173 := by kernel_rfl
  c175 := by kernel_rfl
  c210 := by kernel_rfl
  c212 := by kernel_rfl
  c213 := by kernel_rfl
  c232 := by kernel_rfl
  c233 := by kernel_rfl }

theorem grow_below (w : World) (k : Nat) (os : Array Obj) : Below w.heap.size w (Sort.grow (w.drewN k) os) :=
  ⟨rfl, rfl, rfl, by simp [Sort.grow, World.drewN], fun i hi => by simp [Sort.grow, World.drewN, Array.getElem?_append_left hi]⟩

/-- strconv.Atoi, of a text that is an int -/
theorem atoi_ok (s : ByteArray) (hs : s.size ≤ 10000) (v : Int) (h : Lib.atoiAll (bs s) = .ok v) (w : World) :
    Calls Tryz.prog 133 #[.string s] w fun e w' => e = .returned (.tuple #[.int .i64 v, .nilIface]) ∧ Below w.heap.size w w' := by
  refine (Any.strconv_Atoi_ok shA s (by omega) v h w).mono ?_
  rintro e w' ⟨rfl, hw⟩
  refine ⟨rfl, ?_⟩
  rcases hw with rfl | ⟨t, rfl⟩
  · exact Below.refl _ _
  · exact Lib.bytesWorld_below _ _ _

/-- strconv.Atoi, of a text that is none -/
theorem atoi_bad (s : ByteArray) (hs : s.size ≤ 10000) (hn : ∀ u, Lib.atoiAll (bs s) ≠ .ok u) (w : World) (hL : Laid w) :
    Calls Tryz.prog 133 #[.string s] w fun e w' => (∃ (v : Int) (t : TypeId) (p : Value), e = .returned (.tuple #[.int .i64 v, .iface t p])) ∧ Below w.heap.size w w' := by
  cases h : Lib.atoiAll (bs s)
  case ok v => exact absurd h (hn v)
  case range =>
    obtain ⟨t, p, hv⟩ := hL.rang
    refine (Any.strconv_Atoi_range shA s (by omega) h _ w hv (.inr ⟨_, _, rfl⟩)).mono ?_
    rintro e w' ⟨N, rfl, _, _, hb⟩
    exact ⟨⟨_, _, _, rfl⟩, hb⟩
  · obtain ⟨t, p, hv⟩ := hL.synt
    refine (Any.strconv_Atoi_syntax shA s (by omega) h _ w hv (.inr ⟨_, _, rfl⟩)).mono ?_
    rintro e w' ⟨N, rfl, _, _, hb⟩
    exact ⟨⟨_, _, _, rfl⟩, hb⟩

theorem itoa_any (n : Int) (h0 : 0 ≤ n) (h1 : n ≤ 2147483647) (w : World) (hL : Laid w) :
    Calls Tryz.prog 134 #[.int .i64 n] w fun e w' => e = .returned (.string ⟨(Lib.itoa n).toArray⟩) ∧ Below w.heap.size w w' := by
  refine (Any.strconv_Itoa shI n (by omega) (by omega) w hL.tab).mono ?_
  rintro e w' ⟨rfl, k, os, rfl⟩
  exact ⟨rfl, grow_below _ _ _⟩

/-- what Number answers -/
def numV (s : ByteArray) : Value := match num (bs s) with
  | some n => .tuple #[.int .i64 (n : Nat), .nilIface]
  | none => .tuple #[.int .i64 0, errn 2]

theorem bytes_of_bs {s : ByteArray} {l : List UInt8} (h : l = bs s) : (⟨l.toArray⟩ : ByteArray) = s := by
  subst h; obtain ⟨⟨d⟩⟩ := s; rfl

set_option maxRecDepth 100000 in
set_option maxHeartbeats 1000000 in
theorem number_any (s : ByteArray) (hs : s.size ≤ 10000) (w : World) (hL : Laid w) :
    Calls Tryz.prog 126 #[.string s] w fun e w' => e = .returned (numV s) ∧ Below w.heap.size w w' := by
  cases hn : num (bs s) with
  | some n =>
    have HV : Hid (numV s = .tuple #[.int .i64 (n : Nat), .nilIface]) := Lib.hid (by simp [numV, hn])
    obtain ⟨h1, h2, h3⟩ := num_some hn
    have HA := Lib.hid (atoi_ok s hs n h1 w)
    have HI : Hid ((⟨(Lib.itoa (n : Int)).toArray⟩ : ByteArray) = s) := Lib.hid (bytes_of_bs h3)
    clear h1 h3 hn
    rw [HV.out]
    go_enter Tryz.func126, Tryz.ntmps126
    go_wp2_with (first | (go_at_call 133; refine HA.out.mono ?_; rintro e w1 ⟨rfl, hb1⟩) | (go_at_call 134; refine (itoa_any (n : Int) (by omega) (by omega) _ (hL.below hb1)).mono ?_; rw [HI.out]; rintro e w2 ⟨rfl, hb2⟩))
    go_ret2
    exact ⟨rfl, hb1.trans (hb2.mono hb1.size)⟩
  | none =>
    have HV : Hid (numV s = .tuple #[.int .i64 0, errn 2]) := Lib.hid (by simp [numV, hn])
    rw [HV.out]
    by_cases hok : ∃ v, Lib.atoiAll (bs s) = .ok v
    · obtain ⟨v, hv⟩ := hok
      have HA := Lib.hid (atoi_ok s hs v hv w)
      clear hv
      by_cases h0 : v < 0
      · go_enter Tryz.func126, Tryz.ntmps126
        go_wp2_with (go_at_call 133; refine HA.out.mono ?_; rintro e w1 ⟨rfl, hb1⟩)
        go_ret2
        exact ⟨rfl, hb1⟩
      · by_cases h1 : 2147483647 < v
        · go_enter Tryz.func126, Tryz.ntmps126
          go_wp2_with (go_at_call 133; refine HA.out.mono ?_; rintro e w1 ⟨rfl, hb1⟩)
          go_ret2
          exact ⟨rfl, hb1⟩
        · have hne : (⟨(Lib.itoa v).toArray⟩ : ByteArray) ≠ s := fun e => by
            have := num_of (l := bs s) (by omega) (by omega) (by rw [← e] : Lib.itoa v = bs s)
            rw [hn] at this; cases this
          obtain ⟨x, hx⟩ : ∃ x : ByteArray, x = ⟨(Lib.itoa v).toArray⟩ := ⟨_, rfl⟩
          have HI : Hid (∀ W, Laid W → Calls Tryz.prog 134 #[.int .i64 v] W fun e w' => e = .returned (.string x) ∧ Below W.heap.size W w') := Lib.hid (fun W hW => by rw [hx]; exact itoa_any v (by omega) (by omega) W hW)
          rw [← hx] at hne
          have hsb := str_beq x s
          rw [decide_eq_false hne] at hsb
          clear hx hne hn
          go_enter Tryz.func126, Tryz.ntmps126
          go_wp2_with (first | (go_at_call 133; refine HA.out.mono ?_; rintro e w1 ⟨rfl, hb1⟩) | (go_at_call 134; refine (HI.out _ (hL.below hb1)).mono ?_; rintro e w2 ⟨rfl, hb2⟩))
          go_ret2
          exact ⟨rfl, hb1.trans (hb2.mono hb1.size)⟩
    · have hno : ∀ u, Lib.atoiAll (bs s) ≠ .ok u := fun u e => hok ⟨u, e⟩
      have HA := Lib.hid (atoi_bad s hs hno w hL)
      clear hok hno hn
      go_enter Tryz.func126, Tryz.ntmps126
      go_wp2_with (go_at_call 133; refine HA.out.mono ?_; rintro e w1 ⟨⟨v, t, p, rfl⟩, hb1⟩)
      go_ret2
      exact ⟨rfl, hb1⟩

/-- what the document's Number answers -/
def refNumV (s : ByteArray) : Value := match num (bs s) with
  | some n => .tuple #[.int .i64 (n : Nat), .bool true]
  | none => .tuple #[.int .i64 0, .bool false]

theorem take_snoc (s : ByteArray) (k : Nat) (h : k < s.size) : (bs s).take (k + 1) = (bs s).take k ++ [s[k]] := by
  rw [List.take_succ_eq_append_getElem (by rw [bs_size]; exact h)]; rfl

theorem head_of (s : ByteArray) (h : 0 < s.size) : (bs s).head? = some s[0] := by
  rw [List.head?_eq_getElem?, List.getElem?_eq_getElem (by rw [bs_size]; exact h)]; rfl

theorem nought_of {s : ByteArray} (h : 0 < s.size) (h10 : s.size ≤ 10) (h1 : 1 < s.size → ¬ (s[0].toNat : Int) = 48) : nought (bs s) = false := by
  unfold nought
  rw [bs_size, decide_eq_false (by omega), decide_eq_false (by omega), head_of s h]
  simp only [Bool.false_or, Bool.and_eq_false_iff, decide_eq_false_iff_not]
  by_cases hh : 1 < s.size
  · right; intro e; injection e with e; exact h1 hh (by rw [e]; rfl)
  · exact .inl hh

theorem pow_le_ten {k : Nat} (h : k ≤ 10) : 10 ^ k ≤ 10000000000 := by
  have := Nat.pow_le_pow_right (n := 10) (by decide) h
  simpa using this

/-- the figures so far -/
def Figs (s : ByteArray) (k : Nat) (n : Int) : Prop := n = (vl ((bs s).take k) : Nat) ∧ fgs ((bs s).take k) = true

theorem Figs.bound {s : ByteArray} {k : Nat} {n : Int} (h : Figs s k n) (hk : k ≤ 10) : 0 ≤ n ∧ n ≤ 10000000000 := by
  have h1 := vl_lt _ h.2
  have h2 : ((bs s).take k).length ≤ k := List.length_take_le _ _
  have h3 := pow_le_ten (Nat.le_trans h2 hk)
  rw [h.1]; omega

theorem Figs.next {s : ByteArray} {k : Nat} {n : Int} (h : Figs s k n) (hk : k < s.size) (hf : fg (s[k].toNat : Int) = true) : Figs s (k + 1) (10 * n + (s[k].toNat : Int) - 48) := by
  have h2 : fg (nb s[k]) = true := hf
  have h3 := (fg_iff _).1 h2
  refine ⟨?_, by rw [take_snoc s k hk, fgs_snoc, h.2, h2]; rfl⟩
  rw [take_snoc s k hk, vl_snoc, h.1]
  omega

theorem Figs.stop {s : ByteArray} {k : Nat} (hk : k < s.size) (hf : fg (s[k].toNat : Int) = false) : num (bs s) = none := by
  unfold num
  rw [if_neg]
  rintro ⟨_, h, _⟩
  have := List.all_eq_true.1 h ((bs s)[k]'(by rw [bs_size]; exact hk)) (List.getElem_mem _)
  have h2 : fg (nb ((bs s)[k]'(by rw [bs_size]; exact hk))) = false := hf
  rw [h2] at this; cases this

theorem Figs.whole {s : ByteArray} {n : Int} (h : Figs s s.size n) (hn : nought (bs s) = false) : num (bs s) = if n ≤ 2147483647 then some n.toNat else none := by
  obtain ⟨h1, h2⟩ := h
  have e : (bs s).take s.size = bs s := by rw [← bs_size]; exact List.take_length
  rw [e] at h1 h2
  unfold num
  by_cases hh : vl (bs s) ≤ 2147483647
  · rw [if_pos ⟨hn, h2, hh⟩, if_pos (by omega), h1]; rfl
  · rw [if_neg (fun h => hh h.2.2), if_neg (by omega)]

theorem refNumV_none {s : ByteArray} (h : num (bs s) = none) : refNumV s = .tuple #[.int .i64 0, .bool false] := by simp [refNumV, h]
theorem refNumV_some {s : ByteArray} {n : Nat} (h : num (bs s) = some n) : refNumV s = .tuple #[.int .i64 (n : Nat), .bool true] := by simp [refNumV, h]
theorem num_nought {s : ByteArray} (h : nought (bs s) = true) : num (bs s) = none := by simp [num, h]




















































































end Go.Proofs.YtfmlcddakfbleaaGreatDoor
