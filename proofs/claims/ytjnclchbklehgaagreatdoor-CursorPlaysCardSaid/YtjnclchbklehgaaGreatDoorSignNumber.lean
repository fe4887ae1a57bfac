/- strconv.Atoi and strconv.Itoa at this program: the shelf's contracts, by two tables of numbers; sign.Number and the document's. -/
import Derived.Shelf.LaysM
import Derived.Shelf.LaysC
import Derived.Shelf.Strconv.Itoa3
import Derived.Shelf.Strconv.AtoiAll
import Derived.Test.YtjnclchbklehgaaGreatDoorSignWords
namespace Go.Proofs.YtjnclchbklehgaaGreatDoor
open Go.Shelf Go.RowKit SignMath

def shI_ren : Go.Shelf.Ren := ⟨fun | 171 => 136 | 243 => 146 | 246 => 158 | 283 => 163 | 284 => 164 | 285 => 165 | 286 => 166 | 129 => 170 | 317 => 169 | 318 => 171 | 319 => 172 | 320 => 173 | 337 => 174 | 338 => 175 | n => n, fun | 3 => 3 | 9 => 9 | 2 => 2 | 4 => 4 | 171 => 186 | 0 => 0 | 53 => 180 | 37 => 117 | 5 => 5 | 173 => 189 | 212 => 196 | 51 => 177 | 20 => 20 | 213 => 197 | 46 => 64 | 232 => 201 | 233 => 202 | n => n, fun | 17 => 4 | 18 => 5 | 19 => 6 | n => n⟩
theorem shI : Go.Proofs.LaysM.n171 Tryz.prog shI_ren := {
  mixed := by kernel_rfl
  f129 := Tryz.func170.trans (congrArg some (by kernel_rfl))
  f171 := Tryz.func136.trans (congrArg some (by kernel_rfl))
  f243 := Tryz.func146.trans (congrArg some (by kernel_rfl))
  f246 := Tryz.func158.trans (congrArg some (by kernel_rfl))
  f283 := Tryz.func163.trans (congrArg some (by kernel_rfl))
  f284 := Tryz.func164.trans (congrArg some (by kernel_rfl))
  f285 := Tryz.func165.trans (congrArg some (by kernel_rfl))
  f286 := Tryz.func166.trans (congrArg some (by kernel_rfl))
  f317 := Tryz.func169.trans (congrArg some (by kernel_rfl))
  f318 := Tryz.func171.trans (congrArg some (by kernel_rfl))
  f319 := Tryz.func172.trans (congrArg some (by kernel_rfl))
  f320 := Tryz.func173.trans (congrArg some (by kernel_rfl))
  f337 := Tryz.func174.trans (congrArg some (by kernel_rfl))
  f338 := Tryz.func175.trans (congrArg some (by kernel_rfl))
  t0 := Tryz.underlying0
  a0 := Tryz.isAgg0
  z0 := Tryz.sizeOf0
  v0 := Tryz.zeroValue0
  t2 := Tryz.underlying2
  a2 := Tryz.isAgg2
  z2 := Tryz.sizeOf2
  v2 := Tryz.zeroValue2
  t3 := Tryz.underlying3
  a3 := Tryz.isAgg3
  z3 := Tryz.sizeOf3
  v3 := Tryz.zeroValue3
  t4 := Tryz.underlying4
  a4 := Tryz.isAgg4
  z4 := Tryz.sizeOf4
  v4 := Tryz.zeroValue4
  t5 := Tryz.underlying5
  a5 := Tryz.isAgg5
  z5 := Tryz.sizeOf5
  v5 := Tryz.zeroValue5
  t9 := Tryz.underlying9
  a9 := Tryz.isAgg9
  z9 := Tryz.sizeOf9
  v9 := Tryz.zeroValue9
  t20 := Tryz.underlying20
  a20 := Tryz.isAgg20
  z20 := Tryz.sizeOf20
  v20 := Tryz.zeroValue20
  t37 := Tryz.underlying117
  a37 := Tryz.isAgg117
  z37 := Tryz.sizeOf117
  v37 := Tryz.zeroValue117
  t46 := Tryz.underlying64
  a46 := Tryz.isAgg64
  z46 := Tryz.sizeOf64
  v46 := Tryz.zeroValue64
  t51 := Tryz.underlying177
  a51 := Tryz.isAgg177
  z51 := Tryz.sizeOf177
  v51 := Tryz.zeroValue177
  t53 := Tryz.underlying180
  a53 := Tryz.isAgg180
  z53 := Tryz.sizeOf180
  v53 := Tryz.zeroValue180
  t171 := Tryz.underlying186
  a171 := Tryz.isAgg186
  z171 := Tryz.sizeOf186
  v171 := Tryz.zeroValue186
  t173 := Tryz.underlying189
  a173 := Tryz.isAgg189
  z173 := Tryz.sizeOf189
  v173 := Tryz.zeroValue189
  t212 := Tryz.underlying196
  a212 := Tryz.isAgg196
  z212 := Tryz.sizeOf196
  v212 := Tryz.zeroValue196
  t213 := Tryz.underlying197
  a213 := Tryz.isAgg197
  z213 := Tryz.sizeOf197
  t232 := Tryz.underlying201
  a232 := Tryz.isAgg201
  z232 := Tryz.sizeOf201
  v232 := Tryz.zeroValue201
  t233 := Tryz.underlying202
  a233 := Tryz.isAgg202
  z233 := Tryz.sizeOf202
  v233 := Tryz.zeroValue202
  g17 := by kernel_rfl
  g18 := by kernel_rfl
  g19 := by kernel_rfl
  i0 := by kernel_rfl
  i2 := by kernel_rfl
  i3 := by kernel_rfl
  i4 := by kernel_rfl
  i5 := by kernel_rfl
  i9 := by kernel_rfl
  i20 := by kernel_rfl
  i37 := by kernel_rfl
  i46 := by kernel_rfl
  i51 := by kernel_rfl
  i53 := by kernel_rfl
  i171 := by kernel_rfl
  i173 := by kernel_rfl
  i212 := by kernel_rfl
  i232 := by kernel_rfl
  i233 := by kernel_rfl
  m17 := by kernel_rfl
  m18 := by kernel_rfl
  m19 := by kernel_rfl }

def shA_ren : Go.Shelf.Ren := ⟨fun | 172 => 135 | 244 => 144 | 245 => 145 | 247 => 153 | 279 => 154 | 280 => 155 | 281 => 156 | 282 => 157 | 287 => 160 | 316 => 161 | 171 => 136 | 205 => 162 | 321 => 167 | 322 => 168 | 243 => 146 | 246 => 158 | 283 => 163 | 284 => 164 | 285 => 165 | 286 => 166 | 129 => 170 | 317 => 169 | 318 => 171 | 319 => 172 | 320 => 173 | 337 => 174 | 338 => 175 | n => n, fun | 9 => 9 | 3 => 3 | 75 => 26 | 76 => 76 | 4 => 4 | 5 => 5 | 167 => 170 | 37 => 117 | 0 => 0 | 85 => 171 | 2 => 2 | 168 => 173 | 53 => 180 | 175 => 181 | 46 => 64 | 210 => 184 | 127 => 135 | 145 => 194 | 143 => 192 | 21 => 21 | 171 => 186 | 173 => 189 | 212 => 196 | 51 => 177 | 20 => 20 | 213 => 197 | 232 => 201 | 233 => 202 | 80 => 102 | n => n, fun | 15 => 2 | 16 => 3 | 17 => 4 | 18 => 5 | 19 => 6 | n => n⟩
theorem shA : Go.Proofs.LaysC.n172 Tryz.prog shA_ren := {
  mixed := by kernel_rfl
  f129 := Tryz.func170.trans (congrArg some (by kernel_rfl))
  f171 := Tryz.func136.trans (congrArg some (by kernel_rfl))
  f172 := Tryz.func135.trans (congrArg some (by kernel_rfl))
  f205 := Tryz.func162.trans (congrArg some (by kernel_rfl))
  f243 := Tryz.func146.trans (congrArg some (by kernel_rfl))
  f244 := Tryz.func144.trans (congrArg some (by kernel_rfl))
  f245 := Tryz.func145.trans (congrArg some (by kernel_rfl))
  f246 := Tryz.func158.trans (congrArg some (by kernel_rfl))
  f247 := Tryz.func153.trans (congrArg some (by kernel_rfl))
  f279 := Tryz.func154.trans (congrArg some (by kernel_rfl))
  f280 := Tryz.func155.trans (congrArg some (by kernel_rfl))
  f281 := Tryz.func156.trans (congrArg some (by kernel_rfl))
  f282 := Tryz.func157.trans (congrArg some (by kernel_rfl))
  f283 := Tryz.func163.trans (congrArg some (by kernel_rfl))
  f284 := Tryz.func164.trans (congrArg some (by kernel_rfl))
  f285 := Tryz.func165.trans (congrArg some (by kernel_rfl))
  f286 := Tryz.func166.trans (congrArg some (by kernel_rfl))
  f287 := Tryz.func160.trans (congrArg some (by kernel_rfl))
  f316 := Tryz.func161.trans (congrArg some (by kernel_rfl))
  f317 := Tryz.func169.trans (congrArg some (by kernel_rfl))
  f318 := Tryz.func171.trans (congrArg some (by kernel_rfl))
  f319 := Tryz.func172.trans (congrArg some (by kernel_rfl))
  f320 := Tryz.func173.trans (congrArg some (by kernel_rfl))
  f321 := Tryz.func167.trans (congrArg some (by kernel_rfl))
  f322 := Tryz.func168.trans (congrArg some (by kernel_rfl))
  f337 := Tryz.func174.trans (congrArg some (by kernel_rfl))
  f338 := Tryz.func175.trans (congrArg some (by kernel_rfl))
  t0 := Tryz.underlying0
  a0 := Tryz.isAgg0
  z0 := Tryz.sizeOf0
  v0 := Tryz.zeroValue0
  t2 := Tryz.underlying2
  a2 := Tryz.isAgg2
  z2 := Tryz.sizeOf2
  v2 := Tryz.zeroValue2
  t3 := Tryz.underlying3
  a3 := Tryz.isAgg3
  z3 := Tryz.sizeOf3
  v3 := Tryz.zeroValue3
  t4 := Tryz.underlying4
  a4 := Tryz.isAgg4
  z4 := Tryz.sizeOf4
  v4 := Tryz.zeroValue4
  t5 := Tryz.underlying5
  a5 := Tryz.isAgg5
  z5 := Tryz.sizeOf5
  v5 := Tryz.zeroValue5
  t9 := Tryz.underlying9
  a9 := Tryz.isAgg9
  z9 := Tryz.sizeOf9
  v9 := Tryz.zeroValue9
  t20 := Tryz.underlying20
  a20 := Tryz.isAgg20
  z20 := Tryz.sizeOf20
  v20 := Tryz.zeroValue20
  t21 := Tryz.underlying21
  a21 := Tryz.isAgg21
  z21 := Tryz.sizeOf21
  v21 := Tryz.zeroValue21
  t37 := Tryz.underlying117
  a37 := Tryz.isAgg117
  z37 := Tryz.sizeOf117
  v37 := Tryz.zeroValue117
  t46 := Tryz.underlying64
  a46 := Tryz.isAgg64
  z46 := Tryz.sizeOf64
  v46 := Tryz.zeroValue64
  t51 := Tryz.underlying177
  a51 := Tryz.isAgg177
  z51 := Tryz.sizeOf177
  v51 := Tryz.zeroValue177
  t53 := Tryz.underlying180
  a53 := Tryz.isAgg180
  z53 := Tryz.sizeOf180
  v53 := Tryz.zeroValue180
  t75 := Tryz.underlying26
  a75 := Tryz.isAgg26
  z75 := Tryz.sizeOf26
  v75 := Tryz.zeroValue26
  t76 := Tryz.underlying76
  a76 := Tryz.isAgg76
  z76 := Tryz.sizeOf76
  v76 := Tryz.zeroValue76
  t85 := Tryz.underlying171
  a85 := Tryz.isAgg171
  z85 := Tryz.sizeOf171
  v85 := Tryz.zeroValue171
  t127 := Tryz.underlying135
  a127 := Tryz.isAgg135
  z127 := Tryz.sizeOf135
  v127 := Tryz.zeroValue135
  t143 := Tryz.underlying192
  a143 := Tryz.isAgg192
  z143 := Tryz.sizeOf192
  v143 := Tryz.zeroValue192
  t145 := Tryz.underlying194
  a145 := Tryz.isAgg194
  z145 := Tryz.sizeOf194
  v145 := Tryz.zeroValue194
  t167 := Tryz.underlying170
  a167 := Tryz.isAgg170
  z167 := Tryz.sizeOf170
  v167 := Tryz.zeroValue170
  t168 := Tryz.underlying173
  a168 := Tryz.isAgg173
  z168 := Tryz.sizeOf173
  v168 := Tryz.zeroValue173
  t171 := Tryz.underlying186
  a171 := Tryz.isAgg186
  z171 := Tryz.sizeOf186
  v171 := Tryz.zeroValue186
  t173 := Tryz.underlying189
  a173 := Tryz.isAgg189
  z173 := Tryz.sizeOf189
  v173 := Tryz.zeroValue189
  t175 := Tryz.underlying181
  a175 := Tryz.isAgg181
  z175 := Tryz.sizeOf181
  v175 := Tryz.zeroValue181
  t210 := Tryz.underlying184
  a210 := Tryz.isAgg184
  z210 := Tryz.sizeOf184
  v210 := Tryz.zeroValue184
  t212 := Tryz.underlying196
  a212 := Tryz.isAgg196
  z212 := Tryz.sizeOf196
  v212 := Tryz.zeroValue196
  t213 := Tryz.underlying197
  a213 := Tryz.isAgg197
  z213 := Tryz.sizeOf197
  t232 := Tryz.underlying201
  a232 := Tryz.isAgg201
  z232 := Tryz.sizeOf201
  v232 := Tryz.zeroValue201
  t233 := Tryz.underlying202
  a233 := Tryz.isAgg202
  z233 := Tryz.sizeOf202
  v233 := Tryz.zeroValue202
  g15 := by kernel_rfl
  g16 := by kernel_rfl
  g17 := by kernel_rfl
  g18 := by kernel_rfl
  g19 := by kernel_rfl
  t80 := Tryz.underlying102
  a80 := Tryz.isAgg102
  z80 := Tryz.sizeOf102
  v80 := Tryz.zeroValue102
  i0 := by kernel_rfl
  i2 := by kernel_rfl
  i3 := by kernel_rfl
  i4 := by kernel_rfl
  i5 := by kernel_rfl
  i9 := by kernel_rfl
  i20 := by kernel_rfl
  i21 := by kernel_rfl
  i37 := by kernel_rfl
  i46 := by kernel_rfl
  i51 := by kernel_rfl
  i53 := by kernel_rfl
  i75 := by kernel_rfl
  i76 := by kernel_rfl
  i80 := by kernel_rfl
  i85 := by kernel_rfl
  i127 := by kernel_rfl
  i143 := by kernel_rfl
  i145 := by kernel_rfl
  i167 := by kernel_rfl
  i168 := by kernel_rfl
  i171 := by kernel_rfl
  i173 := by kernel_rfl
  i175 := by kernel_rfl
  i210 := by kernel_rfl
  i212 := by kernel_rfl
  i232 := by kernel_rfl
  i233 := by kernel_rfl
  m15 := by kernel_rfl
  m16 := by kernel_rfl
  m17 := by kernel_rfl
  m18 := by kernel_rfl
  m19 := by kernel_rfl
  c0 := by kernel_rfl
  c2 := by kernel_rfl
  c3 := by kernel_rfl
  c4 := by kernel_rfl
  c5 := by kernel_rfl
  c9 := by kernel_rfl
  c20 := by kernel_rfl
  c21 := by kernel_rfl
  c37 := by kernel_rfl
  c46 := by kernel_rfl
  c51 := by kernel_rfl
  c53 := by kernel_rfl
  c75 := by kernel_rfl
  c76 := by kernel_rfl
  c80 := by kernel_rfl
  c85 := by kernel_rfl
  c127 := by kernel_rfl
  c143 := by kernel_rfl
  c145 := by kernel_rfl
  c167 := by kernel_rfl
  c168 := by kernel_rfl
  c171 := by kernel_rfl
  c173 := by kernel_rfl
  c175 := by kernel_rfl
  c210 := by kernel_rfl
  c212 := by kernel_rfl
  c213 := by kernel_rfl
  c232 := by kernel_rfl
  c233 := by kernel_rfl }

theorem grow_below (w : World) (k : Nat) (os : Array Obj) : Below w.heap.size w (Sort.grow (w.drewN k) os) :=
  ⟨rfl, rfl, rfl, by simp [Sort.grow, World.drewN], fun i hi => by simp [Sort.grow, World.drewN, Array.getElem?_append_left hi]⟩

/-- strconv.Atoi, of a text that is an int -/
theorem atoi_ok (s : ByteArray) (hs : s.size ≤ 10000) (v : Int) (h : Lib.atoiAll (bs s) = .ok v) (w : World) :
    Calls Tryz.prog 135 #[.string s] w fun e w' => e = .returned (.tuple #[.int .i64 v, .nilIface]) ∧ Below w.heap.size w w' := by
  refine (Any.strconv_Atoi_ok shA s (by omega) v h w).mono ?_
  rintro e w' ⟨rfl, hw⟩
  refine ⟨rfl, ?_⟩
  rcases hw with rfl | ⟨t, rfl⟩
  · exact Below.refl _ _
  · exact Lib.bytesWorld_below _ _ _

/-- strconv.Atoi, of a text that is none -/
theorem atoi_bad (s : ByteArray) (hs : s.size ≤ 10000) (hn : ∀ u, Lib.atoiAll (bs s) ≠ .ok u) (w : World) (hL : Laid w) :
    Calls Tryz.prog 135 #[.string s] w fun e w' => (∃ (v : Int) (t : TypeId) (p : Value), e = .returned (.tuple #[.int .i64 v, .iface t p])) ∧ Below w.heap.size w w' := by
  cases h : Lib.atoiAll (bs s)
  case ok v => exact absurd h (hn v)
  case range =>
    obtain ⟨t, p, hv⟩ := hL.rang
    refine (Any.strconv_Atoi_range shA s (by omega) h _ w hv (.inr ⟨_, _, rfl⟩)).mono ?_
    rintro e w' ⟨N, rfl, _, _, hb⟩
    exact ⟨⟨_, _, _, rfl⟩, hb⟩
  · obtain ⟨t, p, hv⟩ := hL.synt
    refine (Any.strconv_Atoi_syntax shA s (by omega) h _ w hv (.inr ⟨_, _, rfl⟩)).mono ?_
    rintro e w' ⟨N, rfl, _, _, hb⟩
    exact ⟨⟨_, _, _, rfl⟩, hb⟩

theorem itoa_any (n : Int) (h0 : 0 ≤ n) (h1 : n ≤ 2147483647) (w : World) (hL : Laid w) :
    Calls Tryz.prog 136 #[.int .i64 n] w fun e w' => e = .returned (.string ⟨(Lib.itoa n).toArray⟩) ∧ Below w.heap.size w w' := by
  refine (Any.strconv_Itoa shI n (by omega) (by omega) w hL.tab).mono ?_
  rintro e w' ⟨rfl, k, os, rfl⟩
  exact ⟨rfl, grow_below _ _ _⟩

/-- what Number answers -/
def numV (s : ByteArray) : Value := match num (bs s) with
  | some n => .tuple #[.int .i64 (n : Nat), .nilIface]
  | none => .tuple #[.int .i64 0, errn 2]

theorem bytes_of_bs {s : ByteArray} {l : List UInt8} (h : l = bs s) : (⟨l.toArray⟩ : ByteArray) = s := by
  subst h; obtain ⟨⟨d⟩⟩ := s; rfl

set_option maxRecDepth 100000 in
set_option maxHeartbeats 1000000 in
theorem number_any (s : ByteArray) (hs : s.size ≤ 10000) (w : World) (hL : Laid w) :
    Calls Tryz.prog 118 #[.string s] w fun e w' => e = .returned (numV s) ∧ Below w.heap.size w w' := by
  cases hn : num (bs s) with
  | some n =>
    have HV : Hid (numV s = .tuple #[.int .i64 (n : Nat), .nilIface]) := Lib.hid (by simp [numV, hn])
    obtain ⟨h1, h2, h3⟩ := num_some hn
    have HA := Lib.hid (atoi_ok s hs n h1 w)
    have HI : Hid ((⟨(Lib.itoa (n : Int)).toArray⟩ : ByteArray) = s) := Lib.hid (bytes_of_bs h3)
    clear h1 h3 hn
    rw [HV.out]
    go_enter Tryz.func118, Tryz.ntmps118
    go_wp2_with (first | (go_at_call 135; refine HA.out.mono ?_; rintro e w1 ⟨rfl, hb1⟩) | (go_at_call 136; refine (itoa_any (n : Int) (by omega) (by omega) _ (hL.below hb1)).mono ?_; rw [HI.out]; rintro e w2 ⟨rfl, hb2⟩))
    go_ret2
    exact ⟨rfl, hb1.trans (hb2.mono hb1.size)⟩
  | none =>
    have HV : Hid (numV s = .tuple #[.int .i64 0, errn 2]) := Lib.hid (by simp [numV, hn])
    rw [HV.out]
    by_cases hok : ∃ v, Lib.atoiAll (bs s) = .ok v
    · obtain ⟨v, hv⟩ := hok
      have HA := Lib.hid (atoi_ok s hs v hv w)
      clear hv
      by_cases h0 : v < 0
      · go_enter Tryz.func118, Tryz.ntmps118
        go_wp2_with (go_at_call 135; refine HA.out.mono ?_; rintro e w1 ⟨rfl, hb1⟩)
        go_ret2
        exact ⟨rfl, hb1⟩
      · by_cases h1 : 2147483647 < v
        · go_enter Tryz.func118, Tryz.ntmps118
          go_wp2_with (go_at_call 135; refine HA.out.mono ?_; rintro e w1 ⟨rfl, hb1⟩)
          go_ret2
          exact ⟨rfl, hb1⟩
        · have hne : (⟨(Lib.itoa v).toArray⟩ : ByteArray) ≠ s := fun e => by
            have := num_of (l := bs s) (by omega) (by omega) (by rw [← e] : Lib.itoa v = bs s)
            rw [hn] at this; cases this
          obtain ⟨x, hx⟩ : ∃ x : ByteArray, x = ⟨(Lib.itoa v).toArray⟩ := ⟨_, rfl⟩
          have HI : Hid (∀ W, Laid W → Calls Tryz.prog 136 #[.int .i64 v] W fun e w' => e = .returned (.string x) ∧ Below W.heap.size W w') := Lib.hid (fun W hW => by rw [hx]; exact itoa_any v (by omega) (by omega) W hW)
          rw [← hx] at hne
          have hsb := str_beq x s
          rw [decide_eq_false hne] at hsb
          clear hx hne hn
          go_enter Tryz.func118, Tryz.ntmps118
          go_wp2_with (first | (go_at_call 135; refine HA.out.mono ?_; rintro e w1 ⟨rfl, hb1⟩) | (go_at_call 136; refine (HI.out _ (hL.below hb1)).mono ?_; rintro e w2 ⟨rfl, hb2⟩))
          go_ret2
          exact ⟨rfl, hb1.trans (hb2.mono hb1.size)⟩
    · have hno : ∀ u, Lib.atoiAll (bs s) ≠ .ok u := fun u e => hok ⟨u, e⟩
      have HA := Lib.hid (atoi_bad s hs hno w hL)
      clear hok hno hn
      go_enter Tryz.func118, Tryz.ntmps118
      go_wp2_with (go_at_call 135; refine HA.out.mono ?_; rintro e w1 ⟨⟨v, t, p, rfl⟩, hb1⟩)
      go_ret2
      exact ⟨rfl, hb1⟩

/-- what the document's Number answers -/
def refNumV (s : ByteArray) : Value := match num (bs s) with
  | some n => .tuple #[.int .i64 (n : Nat), .bool true]
  | none => .tuple #[.int .i64 0, .bool false]

theorem take_snoc (s : ByteArray) (k : Nat) (h : k < s.size) : (bs s).take (k + 1) = (bs s).take k ++ [s[k]] := by
  rw [List.take_succ_eq_append_getElem (by rw [bs_size]; exact h)]; rfl

theorem head_of (s : ByteArray) (h : 0 < s.size) : (bs s).head? = some s[0] := by
  rw [List.head?_eq_getElem?, List.getElem?_eq_getElem (by rw [bs_size]; exact h)]; rfl

theorem nought_of {s : ByteArray} (h : 0 < s.size) (h10 : s.size ≤ 10) (h1 : 1 < s.size → ¬ (s[0].toNat : Int) = 48) : nought (bs s) = false := by
  unfold nought
  rw [bs_size, decide_eq_false (by omega), decide_eq_false (by omega), head_of s h]
  simp only [Bool.false_or, Bool.and_eq_false_iff, decide_eq_false_iff_not]
  by_cases hh : 1 < s.size
  · right; intro e; injection e with e; exact h1 hh (by rw [e]; rfl)
  · exact .inl hh

theorem pow_le_ten {k : Nat} (h : k ≤ 10) : 10 ^ k ≤ 10000000000 := by
  have := Nat.pow_le_pow_right (n := 10) (by decide) h
  simpa using this

/-- the figures so far -/
def Figs (s : ByteArray) (k : Nat) (n : Int) : Prop := n = (vl ((bs s).take k) : Nat) ∧ fgs ((bs s).take k) = true

theorem Figs.bound {s : ByteArray} {k : Nat} {n : Int} (h : Figs s k n) (hk : k ≤ 10) : 0 ≤ n ∧ n ≤ 10000000000 := by
  have h1 := vl_lt _ h.2
  have h2 : ((bs s).take k).length ≤ k := List.length_take_le _ _
  have h3 := pow_le_ten (Nat.le_trans h2 hk)
  rw [h.1]; omega

theorem Figs.next {s : ByteArray} {k : Nat} {n : Int} (h : Figs s k n) (hk : k < s.size) (hf : fg (s[k].toNat : Int) = true) : Figs s (k + 1) (10 * n + (s[k].toNat : Int) - 48) := by
  have h2 : fg (nb s[k]) = true := hf
  have h3 := (fg_iff _).1 h2
  refine ⟨?_, by rw [take_snoc s k hk, fgs_snoc, h.2, h2]; rfl⟩
  rw [take_snoc s k hk, vl_snoc, h.1]
  omega

theorem Figs.stop {s : ByteArray} {k : Nat} (hk : k < s.size) (hf : fg (s[k].toNat : Int) = false) : num (bs s) = none := by
  unfold num
  rw [if_neg]
  rintro ⟨_, h, _⟩
  have := List.all_eq_true.1 h ((bs s)[k]'(by rw [bs_size]; exact hk)) (List.getElem_mem _)
  have h2 : fg (nb ((bs s)[k]'(by rw [bs_size]; exact hk))) = false := hf
  rw [h2] at this; cases this

theorem Figs.whole {s : ByteArray} {n : Int} (h : Figs s s.size n) (hn : nought (bs s) = false) : num (bs s) = if n ≤ 2147483647 then some n.toNat else none := by
  obtain ⟨h1, h2⟩ := h
  have e : (bs s).take s.size = bs s := by rw [← bs_size]; exact List.take_length
  rw [e] at h1 h2
  unfold num
  by_cases hh : vl (bs s) ≤ 2147483647
  · rw [if_pos ⟨hn, h2, hh⟩, if_pos (by omega), h1]; rfl
  · rw [if_neg (fun h => hh h.2.2), if_neg (by omega)]

theorem refNumV_none {s : ByteArray} (h : num (bs s) = none) : refNumV s = .tuple #[.int .i64 0, .bool false] := by simp [refNumV, h]
theorem refNumV_some {s : ByteArray} {n : Nat} (h : num (bs s) = some n) : refNumV s = .tuple #[.int .i64 (n : Nat), .bool true] := by simp [refNumV, h]
theorem num_nought {s : ByteArray} (h : nought (bs s) = true) : num (bs s) = none := by simp [num, h]

set_option maxRecDepth 100000 in
set_option maxHeartbeats 1000000 in
theorem refNumber_any (s : ByteArray) (hs : s.size ≤ 10000) (w : World) :
    Calls Tryz.prog 106 #[.string s] w fun e w' => e = .returned (refNumV s) ∧ w = w' := by
  have hb0 := beqd s.size 0
  by_cases h0 : s.size = 0
  · have HV := Lib.hid (refNumV_none (num_nought (s := s) (by unfold nought; rw [bs_size, h0]; rfl)))
    rw [decide_eq_true (by omega)] at hb0
    clear h0
    go_enter Tryz.func106, Tryz.ntmps106
    go_wp2
    go_ret2
    exact ⟨by rw [HV.out]; rfl, rfl⟩
  rw [decide_eq_false (by omega)] at hb0
  have hp : 0 < s.size := by omega
  clear h0
  by_cases h10 : 10 < s.size
  · have HV := Lib.hid (refNumV_none (num_nought (s := s) (by unfold nought; rw [bs_size, decide_eq_true h10]; simp)))
    go_enter Tryz.func106, Tryz.ntmps106
    go_wp2
    go_ret2
    exact ⟨by rw [HV.out]; rfl, rfl⟩
  have hb := beqd (s[0].toNat : Int) 48
  by_cases h48 : 1 < s.size ∧ (s[0].toNat : Int) = 48
  · obtain ⟨h1, h2⟩ := h48
    have HV := Lib.hid (refNumV_none (num_nought (s := s) (by
      unfold nought
      rw [bs_size, decide_eq_true h1, head_of s hp]
      have : s[0] = 48 := UInt8.toNat_inj.1 (by have : (48 : UInt8).toNat = 48 := rfl; omega)
      rw [this]; simp)))
    rw [decide_eq_true h2] at hb
    clear h2
    go_enter Tryz.func106, Tryz.ntmps106
    go_wp2
    go_ret2
    exact ⟨by rw [HV.out]; rfl, rfl⟩
  have HN := Lib.hid (nought_of hp (by omega) (fun h1 h2 => h48 ⟨h1, h2⟩))
  have hcase : (¬ 1 < s.size) ∨ (1 < s.size ∧ ((s[0].toNat : Int) == 48) = false) := by
    by_cases h1 : 1 < s.size
    · exact .inr ⟨h1, by rw [hb, decide_eq_false (fun h => h48 ⟨h1, h⟩)]⟩
    · exact .inl h1
  clear hb h48
  rcases hcase with h1 | ⟨h1, hb⟩
  all_goals
    go_enter Tryz.func106, Tryz.ntmps106
    go_wp2
    go_loop [4, 5] (fun n i => ∃ (k : Nat) (x : Int), k ≤ s.size ∧ i = .int .i64 (k : Int) ∧ n = .int .i64 x ∧ Hid (Figs s k x)) (fun _ i => s.size - (intOf i).toNat)
    case atStart => exact ⟨0, 0, by omega, rfl, rfl, Lib.hid ⟨rfl, rfl⟩⟩
    case round =>
      obtain ⟨k, x, hk, rfl, rfl, HF⟩ := hrel
      obtain ⟨hx0, hx1⟩ := HF.out.bound (by omega)
      by_cases hlt : k < s.size
      · cases hf : fg (s[k].toNat : Int) with
        | true =>
          have HX := Lib.hid (HF.out.next hlt hf)
          have h3 := (fg_iff s[k]).1 hf
          have HG := Lib.hid hf
          clear hf
          go_wp2_with (go_at_call 121; refine (refFigure_any _ _).mono ?_; rw [HG.out]; rintro e w' ⟨rfl, rfl⟩)
          go_round
          case rel => exact ⟨k + 1, _, by omega, by go_num, by go_num, HX⟩
          case measure => simp [intOf]; omega
        | false =>
          have HV := Lib.hid (refNumV_none (Figs.stop hlt hf))
          have HG := Lib.hid hf
          clear hf
          go_wp2_with (go_at_call 121; refine (refFigure_any _ _).mono ?_; rw [HG.out]; rintro e w' ⟨rfl, rfl⟩)
          go_ret2
          exact ⟨by rw [HV.out]; rfl, rfl⟩
      · obtain rfl : k = s.size := by omega
        have HW := Lib.hid (HF.out.whole HN.out)
        by_cases hbig : x ≤ 2147483647
        · rw [if_pos hbig] at HW
          obtain ⟨m, rfl⟩ := Int.eq_ofNat_of_zero_le hx0
          have HV := Lib.hid (refNumV_some HW.out)
          go_wp2
          go_ret2
          exact ⟨by rw [HV.out]; rfl, rfl⟩
        · rw [if_neg hbig] at HW
          have HV := Lib.hid (refNumV_none HW.out)
          go_wp2
          go_ret2
          exact ⟨by rw [HV.out]; rfl, rfl⟩
end Go.Proofs.YtjnclchbklehgaaGreatDoor
