/- strconv.Atoi and strconv.Itoa at this program: the shelf's contracts, by two tables of numbers; sign.Number and the document's. -/
import Derived.Shelf.LaysM
import Derived.Shelf.LaysC
import Derived.Shelf.Strconv.Itoa3
import Derived.Shelf.Strconv.AtoiAll
import Derived.Test.YtkjfheondlpnfaaDoorSignWords
namespace Go.Proofs.YtkjfheondlpnfaaDoor
open Go.Shelf Go.RowKit SignMath

def shI_ren : Go.Shelf.Ren := ⟨fun | 171 => 67 | 243 => 72 | 246 => 82 | 283 => 87 | 284 => 88 | 285 => 89 | 286 => 90 | 129 => 94 | 317 => 93 | 318 => 95 | 319 => 96 | 320 => 97 | 337 => 98 | 338 => 99 | n => n, fun | 3 => 3 | 9 => 9 | 2 => 2 | 4 => 4 | 171 => 113 | 0 => 0 | 53 => 107 | 37 => 66 | 5 => 5 | 173 => 116 | 212 => 123 | 51 => 104 | 20 => 20 | 213 => 124 | 46 => 44 | 232 => 128 | 233 => 129 | n => n, fun | 17 => 4 | 18 => 5 | 19 => 6 | n => n⟩
theorem shI : Go.Proofs.LaysM.n171 Tryd.prog shI_ren := {
  mixed := by kernel_rfl
  f129 := Tryd.func94.trans (congrArg some (by kernel_rfl))
  f171 := Tryd.func67.trans (congrArg some (by kernel_rfl))
  f243 := Tryd.func72.trans (congrArg some (by kernel_rfl))
  f246 := Tryd.func82.trans (congrArg some (by kernel_rfl))
  f283 := Tryd.func87.trans (congrArg some (by kernel_rfl))
  f284 := Tryd.func88.trans (congrArg some (by kernel_rfl))
  f285 := Tryd.func89.trans (congrArg some (by kernel_rfl))
  f286 := Tryd.func90.trans (congrArg some (by kernel_rfl))
  f317 := Tryd.func93.trans (congrArg some (by kernel_rfl))
  f318 := Tryd.func95.trans (congrArg some (by kernel_rfl))
  f319 := Tryd.func96.trans (congrArg some (by kernel_rfl))
  f320 := Tryd.func97.trans (congrArg some (by kernel_rfl))
  f337 := Tryd.func98.trans (congrArg some (by kernel_rfl))
  f338 := Tryd.func99.trans (congrArg some (by kernel_rfl))
  t0 := Tryd.underlying0
  a0 := Tryd.isAgg0
  z0 := Tryd.sizeOf0
  v0 := Tryd.zeroValue0
  t2 := Tryd.underlying2
  a2 := Tryd.isAgg2
  z2 := Tryd.sizeOf2
  v2 := Tryd.zeroValue2
  t3 := Tryd.underlying3
  a3 := Tryd.isAgg3
  z3 := Tryd.sizeOf3
  v3 := Tryd.zeroValue3
  t4 := Tryd.underlying4
  a4 := Tryd.isAgg4
  z4 := Tryd.sizeOf4
  v4 := Tryd.zeroValue4
  t5 := Tryd.underlying5
  a5 := Tryd.isAgg5
  z5 := Tryd.sizeOf5
  v5 := Tryd.zeroValue5
  t9 := Tryd.underlying9
  a9 := Tryd.isAgg9
  z9 := Tryd.sizeOf9
  v9 := Tryd.zeroValue9
  t20 := Tryd.underlying20
  a20 := Tryd.isAgg20
  z20 := Tryd.sizeOf20
  v20 := Tryd.zeroValue20
  t37 := Tryd.underlying66
  a37 := Tryd.isAgg66
  z37 := Tryd.sizeOf66
  v37 := Tryd.zeroValue66
  t46 := Tryd.underlying44
  a46 := Tryd.isAgg44
  z46 := Tryd.sizeOf44
  v46 := Tryd.zeroValue44
  t51 := Tryd.underlying104
  a51 := Tryd.isAgg104
  z51 := Tryd.sizeOf104
  v51 := Tryd.zeroValue104
  t53 := Tryd.underlying107
  a53 := Tryd.isAgg107
  z53 := Tryd.sizeOf107
  v53 := Tryd.zeroValue107
  t171 := Tryd.underlying113
  a171 := Tryd.isAgg113
  z171 := Tryd.sizeOf113
  v171 := Tryd.zeroValue113
  t173 := Tryd.underlying116
  a173 := Tryd.isAgg116
  z173 := Tryd.sizeOf116
  v173 := Tryd.zeroValue116
  t212 := Tryd.underlying123
  a212 := Tryd.isAgg123
  z212 := Tryd.sizeOf123
  v212 := Tryd.zeroValue123
  t213 := Tryd.underlying124
  a213 := Tryd.isAgg124
  z213 := Tryd.sizeOf124
  t232 := Tryd.underlying128
  a232 := Tryd.isAgg128
  z232 := Tryd.sizeOf128
  v232 := Tryd.zeroValue128
  t233 := Tryd.underlying129
  a233 := Tryd.isAgg129
  z233 := Tryd.sizeOf129
  v233 := Tryd.zeroValue129
  g17 := by kernel_rfl
  g18 := by kernel_rfl
  g19 := by kernel_rfl
  i0 := by kernel_rfl
  i2 := by kernel_rfl
  i3 := by kernel_rfl
  i4 := by kernel_rfl
  i5 := by kernel_rfl
  i9 := by kernel_rfl
  i20 := by kernel_rfl
  i37 := by kernel_rfl
  i46 := by kernel_rfl
  i51 := by kernel_rfl
  i53 := by kernel_rfl
  i171 := by kernel_rfl
  i173 := by kernel_rfl
  i212 := by kernel_rfl
  i232 := by kernel_rfl
  i233 := by kernel_rfl
  m17 := by kernel_rfl
  m18 := by kernel_rfl
  m19 := by kernel_rfl }

def shA_ren : Go.Shelf.Ren := ⟨fun | 172 => 66 | 244 => 70 | 245 => 71 | 247 => 77 | 279 => 78 | 280 => 79 | 281 => 80 | 282 => 81 | 287 => 84 | 316 => 85 | 171 => 67 | 205 => 86 | 321 => 91 | 322 => 92 | 243 => 72 | 246 => 82 | 283 => 87 | 284 => 88 | 285 => 89 | 286 => 90 | 129 => 94 | 317 => 93 | 318 => 95 | 319 => 96 | 320 => 97 | 337 => 98 | 338 => 99 | n => n, fun | 9 => 9 | 3 => 3 | 75 => 25 | 76 => 38 | 4 => 4 | 5 => 5 | 167 => 97 | 37 => 66 | 0 => 0 | 85 => 98 | 2 => 2 | 168 => 100 | 53 => 107 | 175 => 108 | 46 => 44 | 210 => 111 | 127 => 79 | 145 => 121 | 143 => 119 | 21 => 21 | 171 => 113 | 173 => 116 | 212 => 123 | 51 => 104 | 20 => 20 | 213 => 124 | 232 => 128 | 233 => 129 | 80 => 42 | n => n, fun | 15 => 2 | 16 => 3 | 17 => 4 | 18 => 5 | 19 => 6 | n => n⟩
theorem shA : Go.Proofs.LaysC.n172 Tryd.prog shA_ren := {
  mixed := by kernel_rfl
  f129 := Tryd.func94.trans (congrArg some (by kernel_rfl))
  f171 := Tryd.func67.trans (congrArg some (by kernel_rfl))
  f172 := Tryd.func66.trans (congrArg some (by kernel_rfl))
  f205 := Tryd.func86.trans (congrArg some (by kernel_rfl))
  f243 := Tryd.func72.trans (congrArg some (by kernel_rfl))
  f244 := Tryd.func70.trans (congrArg some (by kernel_rfl))
  f245 := Tryd.func71.trans (congrArg some (by kernel_rfl))
  f246 := Tryd.func82.trans (congrArg some (by kernel_rfl))
  f247 := Tryd.func77.trans (congrArg some (by kernel_rfl))
  f279 := Tryd.func78.trans (congrArg some (by kernel_rfl))
  f280 := Tryd.func79.trans (congrArg some (by kernel_rfl))
  f281 := Tryd.func80.trans (congrArg some (by kernel_rfl))
  f282 := Tryd.func81.trans (congrArg some (by kernel_rfl))
  f283 := Tryd.func87.trans (congrArg some (by kernel_rfl))
  f284 := Tryd.func88.trans (congrArg some (by kernel_rfl))
  f285 := Tryd.func89.trans (congrArg some (by kernel_rfl))
  f286 := Tryd.func90.trans (congrArg some (by kernel_rfl))
  f287 := Tryd.func84.trans (congrArg some (by kernel_rfl))
  f316 := Tryd.func85.trans (congrArg some (by kernel_rfl))
  f317 := Tryd.func93.trans (congrArg some (by kernel_rfl))
  f318 := Tryd.func95.trans (congrArg some (by kernel_rfl))
  f319 := Tryd.func96.trans (congrArg some (by kernel_rfl))
  f320 := Tryd.func97.trans (congrArg some (by kernel_rfl))
  f321 := Tryd.func91.trans (congrArg some (by kernel_rfl))
  f322 := Tryd.func92.trans (congrArg some (by kernel_rfl))
  f337 := Tryd.func98.trans (congrArg some (by kernel_rfl))
  f338 := Tryd.func99.trans (congrArg some (by kernel_rfl))
  t0 := Tryd.underlying0
  a0 := Tryd.isAgg0
  z0 := Tryd.sizeOf0
  v0 := Tryd.zeroValue0
  t2 := Tryd.underlying2
  a2 := Tryd.isAgg2
  z2 := Tryd.sizeOf2
  v2 := Tryd.zeroValue2
  t3 := Tryd.underlying3
  a3 := Tryd.isAgg3
  z3 := Tryd.sizeOf3
  v3 := Tryd.zeroValue3
  t4 := Tryd.underlying4
  a4 := Tryd.isAgg4
  z4 := Tryd.sizeOf4
  v4 := Tryd.zeroValue4
  t5 := Tryd.underlying5
  a5 := Tryd.isAgg5
  z5 := Tryd.sizeOf5
  v5 := Tryd.zeroValue5
  t9 := Tryd.underlying9
  a9 := Tryd.isAgg9
  z9 := Tryd.sizeOf9
  v9 := Tryd.zeroValue9
  t20 := Tryd.underlying20
  a20 := Tryd.isAgg20
  z20 := Tryd.sizeOf20
  v20 := Tryd.zeroValue20
  t21 := Tryd.underlying21
  a21 := Tryd.isAgg21
  z21 := Tryd.sizeOf21
  v21 := Tryd.zeroValue21
  t37 := Tryd.underlying66
  a37 := Tryd.isAgg66
  z37 := Tryd.sizeOf66
  v37 := Tryd.zeroValue66
  t46 := Tryd.underlying44
  a46 := Tryd.isAgg44
  z46 := Tryd.sizeOf44
  v46 := Tryd.zeroValue44
  t51 := Tryd.underlying104
  a51 := Tryd.isAgg104
  z51 := Tryd.sizeOf104
  v51 := Tryd.zeroValue104
  t53 := Tryd.underlying107
  a53 := Tryd.isAgg107
  z53 := Tryd.sizeOf107
  v53 := Tryd.zeroValue107
  t75 := Tryd.underlying25
  a75 := Tryd.isAgg25
  z75 := Tryd.sizeOf25
  v75 := Tryd.zeroValue25
  t76 := Tryd.underlying38
  a76 := Tryd.isAgg38
  z76 := Tryd.sizeOf38
  v76 := Tryd.zeroValue38
  t85 := Tryd.underlying98
  a85 := Tryd.isAgg98
  z85 := Tryd.sizeOf98
  v85 := Tryd.zeroValue98
  t127 := Tryd.underlying79
  a127 := Tryd.isAgg79
  z127 := Tryd.sizeOf79
  v127 := Tryd.zeroValue79
  t143 := Tryd.underlying119
  a143 := Tryd.isAgg119
  z143 := Tryd.sizeOf119
  v143 := Tryd.zeroValue119
  t145 := Tryd.underlying121
  a145 := Tryd.isAgg121
  z145 := Tryd.sizeOf121
  v145 := Tryd.zeroValue121
  t167 := Tryd.underlying97
  a167 := Tryd.isAgg97
  z167 := Tryd.sizeOf97
  v167 := Tryd.zeroValue97
  t168 := Tryd.underlying100
  a168 := Tryd.isAgg100
  z168 := Tryd.sizeOf100
  v168 := Tryd.zeroValue100
  t171 := Tryd.underlying113
  a171 := Tryd.isAgg113
  z171 := Tryd.sizeOf113
  v171 := Tryd.zeroValue113
  t173 := Tryd.underlying116
  a173 := Tryd.isAgg116
  z173 := Tryd.sizeOf116
  v173 := Tryd.zeroValue116
  t175 := Tryd.underlying108
  a175 := Tryd.isAgg108
  z175 := Tryd.sizeOf108
  v175 := Tryd.zeroValue108
  t210 := Tryd.underlying111
  a210 := Tryd.isAgg111
  z210 := Tryd.sizeOf111
  v210 := Tryd.zeroValue111
  t212 := Tryd.underlying123
  a212 := Tryd.isAgg123
  z212 := Tryd.sizeOf123
  v212 := Tryd.zeroValue123
  t213 := Tryd.underlying124
  a213 := Tryd.isAgg124
  z213 := Tryd.sizeOf124
  t232 := Tryd.underlying128
  a232 := Tryd.isAgg128
  z232 := Tryd.sizeOf128
  v232 := Tryd.zeroValue128
  t233 := Tryd.underlying129
  a233 := Tryd.isAgg129
  z233 := Tryd.sizeOf129
  v233 := Tryd.zeroValue129
  g15 := by kernel_rfl
  g16 := by kernel_rfl
  g17 := by kernel_rfl
  g18 := by kernel_rfl
  g19 := by kernel_rfl
  t80 := Tryd.underlying42
  a80 := Tryd.isAgg42
  z80 := Tryd.sizeOf42
  v80 := Tryd.zeroValue42
  i0 := by kernel_rfl
  i2 := by kernel_rfl
  i3 := by kernel_rfl
  i4 := by kernel_rfl
  i5 := by kernel_rfl
  i9 := by kernel_rfl
  i20 := by kernel_rfl
  i21 := by kernel_rfl
  i37 := by kernel_rfl
  i46 := by kernel_rfl
  i51 := by kernel_rfl
  i53 := by kernel_rfl
  i75 := by kernel_rfl
  i76 := by kernel_rfl
  i80 := by kernel_rfl
  i85 := by kernel_rfl
  i127 := by kernel_rfl
  i143 := by kernel_rfl
  i145 := by kernel_rfl
  i167 := by kernel_rfl
  i168 := by kernel_rfl
  i171 := by kernel_rfl
  i173 := by kernel_rfl
  i175 := by kernel_rfl
  i210 := by kernel_rfl
  i212 := by kernel_rfl
  i232 := by kernel_rfl
  i233 := by kernel_rfl
  m15 := by kernel_rfl
  m16 := by kernel_rfl
  m17 := by kernel_rfl
  m18 := by kernel_rfl
  m19 := by kernel_rfl
  c0 := by kernel_rfl
  c2 := by kernel_rfl
  c3 := by kernel_rfl
  c4 := by kernel_rfl
  c5 := by kernel_rfl
  c9 := by kernel_rfl
  c20 := by kernel_rfl
  c21 := by kernel_rfl
  c37 := by kernel_rfl
  c46 := by kernel_rfl
  c51 := by kernel_rfl
  c53 := by kernel_rfl
  c75 := by kernel_rfl
  c76 := by kernel_rfl
  c80 := by kernel_rfl
  c85 := by kernel_rfl
  c127 := by kernel_rfl
  c143 := by kernel_rfl
  c145 := by kernel_rfl
  c167 := by kernel_rfl
  c168 := by kernel_rfl
  c171 := by kernel_rfl
  c173 := by kernel_rfl
  c175 := by kernel_rfl
  c210 := by kernel_rfl
  c212 := by kernel_rfl
  c213 := by kernel_rfl
  c232 := by kernel_rfl
  c233 := by kernel_rfl }

theorem grow_below (w : World) (k : Nat) (os : Array Obj) : Below w.heap.size w (Sort.grow (w.drewN k) os) :=
  ⟨rfl, rfl, rfl, by simp [Sort.grow, World.drewN], fun i hi => by simp [Sort.grow, World.drewN, Array.getElem?_append_left hi]⟩

/-- strconv.Atoi, of a text that is an int -/
theorem atoi_ok (s : ByteArray) (hs : s.size ≤ 10000) (v : Int) (h : Lib.atoiAll (bs s) = .ok v) (w : World) :
    Calls Tryd.prog 66 #[.string s] w fun e w' => e = .returned (.tuple #[.int .i64 v, .nilIface]) ∧ Below w.heap.size w w' := by
  refine (Any.strconv_Atoi_ok shA s (by omega) v h w).mono ?_
  rintro e w' ⟨rfl, hw⟩
  refine ⟨rfl, ?_⟩
  rcases hw with rfl | ⟨t, rfl⟩
  · exact Below.refl _ _
  · exact Lib.bytesWorld_below _ _ _

/-- strconv.Atoi, of a text that is none -/
theorem atoi_bad (s : ByteArray) (hs : s.size ≤ 10000) (hn : ∀ u, Lib.atoiAll (bs s) ≠ .ok u) (w : World) (hL : Laid w) :
    Calls Tryd.prog 66 #[.string s] w fun e w' => (∃ (v : Int) (t : TypeId) (p : Value), e = .returned (.tuple #[.int .i64 v, .iface t p])) ∧ Below w.heap.size w w' := by
  cases h : Lib.atoiAll (bs s)
  case ok v => exact absurd h (hn v)
  case range =>
    obtain ⟨t, p, hv⟩ := hL.rang
    refine (Any.strconv_Atoi_range shA s (by omega) h _ w hv (.inr ⟨_, _, rfl⟩)).mono ?_
    rintro e w' ⟨N, rfl, _, _, hb⟩
    exact ⟨⟨_, _, _, rfl⟩, hb⟩
  · obtain ⟨t, p, hv⟩ := hL.synt
    refine (Any.strconv_Atoi_syntax shA s (by omega) h _ w hv (.inr ⟨_, _, rfl⟩)).mono ?_
    rintro e w' ⟨N, rfl, _, _, hb⟩
    exact ⟨⟨_, _, _, rfl⟩, hb⟩

theorem itoa_any (n : Int) (h0 : 0 ≤ n) (h1 : n ≤ 2147483647) (w : World) (hL : Laid w) :
    Calls Tryd.prog 67 #[.int .i64 n] w fun e w' => e = .returned (.string ⟨(Lib.itoa n).toArray⟩) ∧ Below w.heap.size w w' := by
  refine (Any.strconv_Itoa shI n (by omega) (by omega) w hL.tab).mono ?_
  rintro e w' ⟨rfl, k, os, rfl⟩
  exact ⟨rfl, grow_below _ _ _⟩

/-- what Number answers -/
def numV (s : ByteArray) : Value := match num (bs s) with
  | some n => .tuple #[.int .i64 (n : Nat), .nilIface]
  | none => .tuple #[.int .i64 0, errn 2]

theorem bytes_of_bs {s : ByteArray} {l : List UInt8} (h : l = bs s) : (⟨l.toArray⟩ : ByteArray) = s := by
  subst h; obtain ⟨⟨d⟩⟩ := s; rfl

set_option maxRecDepth 100000 in
set_option maxHeartbeats 1000000 in
theorem number_any (s : ByteArray) (hs : s.size ≤ 10000) (w : World) (hL : Laid w) :
    Calls Tryd.prog 61 #[.string s] w fun e w' => e = .returned (numV s) ∧ Below w.heap.size w w' := by
  cases hn : num (bs s) with
  | some n =>
    have HV : Hid (numV s = .tuple #[.int .i64 (n : Nat), .nilIface]) := Lib.hid (by simp [numV, hn])
    obtain ⟨h1, h2, h3⟩ := num_some hn
    have HA := Lib.hid (atoi_ok s hs n h1 w)
    have HI : Hid ((⟨(Lib.itoa (n : Int)).toArray⟩ : ByteArray) = s) := Lib.hid (bytes_of_bs h3)
    clear h1 h3 hn
    rw [HV.out]
    go_enter Tryd.func61, Tryd.ntmps61
    go_wp2_with (first | (go_at_call 66; refine HA.out.mono ?_; rintro e w1 ⟨rfl, hb1⟩) | (go_at_call 67; refine (itoa_any (n : Int) (by omega) (by omega) _ (hL.below hb1)).mono ?_; rw [HI.out]; rintro e w2 ⟨rfl, hb2⟩))
    go_ret2
    exact ⟨rfl, hb1.trans (hb2.mono hb1.size)⟩
  | none =>
    have HV : Hid (numV s = .tuple #[.int .i64 0, errn 2]) := Lib.hid (by simp [numV, hn])
    rw [HV.out]
    by_cases hok : ∃ v, Lib.atoiAll (bs s) = .ok v
    · obtain ⟨v, hv⟩ := hok
      have HA := Lib.hid (atoi_ok s hs v hv w)
      clear hv
      by_cases h0 : v < 0
      · go_enter Tryd.func61, Tryd.ntmps61
        go_wp2_with (go_at_call 66; refine HA.out.mono ?_; rintro e w1 ⟨rfl, hb1⟩)
        go_ret2
        exact ⟨rfl, hb1⟩
      · by_cases h1 : 2147483647 < v
        · go_enter Tryd.func61, Tryd.ntmps61
          go_wp2_with (go_at_call 66; refine HA.out.mono ?_; rintro e w1 ⟨rfl, hb1⟩)
          go_ret2
          exact ⟨rfl, hb1⟩
        · have hne : (⟨(Lib.itoa v).toArray⟩ : ByteArray) ≠ s := fun e => by
            have := num_of (l := bs s) (by omega) (by omega) (by rw [← e] : Lib.itoa v = bs s)
            rw [hn] at this; cases this
          obtain ⟨x, hx⟩ : ∃ x : ByteArray, x = ⟨(Lib.itoa v).toArray⟩ := ⟨_, rfl⟩
          have HI : Hid (∀ W, Laid W → Calls Tryd.prog 67 #[.int .i64 v] W fun e w' => e = .returned (.string x) ∧ Below W.heap.size W w') := Lib.hid (fun W hW => by rw [hx]; exact itoa_any v (by omega) (by omega) W hW)
          rw [← hx] at hne
          have hsb := str_beq x s
          rw [decide_eq_false hne] at hsb
          clear hx hne hn
          go_enter Tryd.func61, Tryd.ntmps61
          go_wp2_with (first | (go_at_call 66; refine HA.out.mono ?_; rintro e w1 ⟨rfl, hb1⟩) | (go_at_call 67; refine (HI.out _ (hL.below hb1)).mono ?_; rintro e w2 ⟨rfl, hb2⟩))
          go_ret2
          exact ⟨rfl, hb1.trans (hb2.mono hb1.size)⟩
    · have hno : ∀ u, Lib.atoiAll (bs s) ≠ .ok u := fun u e => hok ⟨u, e⟩
      have HA := Lib.hid (atoi_bad s hs hno w hL)
      clear hok hno hn
      go_enter Tryd.func61, Tryd.ntmps61
      go_wp2_with (go_at_call 66; refine HA.out.mono ?_; rintro e w1 ⟨⟨v, t, p, rfl⟩, hb1⟩)
      go_ret2
      exact ⟨rfl, hb1⟩

/-- what the document's Number answers -/
def refNumV (s : ByteArray) : Value := match num (bs s) with
  | some n => .tuple #[.int .i64 (n : Nat), .bool true]
  | none => .tuple #[.int .i64 0, .bool false]

theorem take_snoc (s : ByteArray) (k : Nat) (h : k < s.size) : (bs s).take (k + 1) = (bs s).take k ++ [s[k]] := by
  rw [List.take_succ_eq_append_getElem (by rw [bs_size]; exact h)]; rfl

theorem head_of (s : ByteArray) (h : 0 < s.size) : (bs s).head? = some s[0] := by
  rw [List.head?_eq_getElem?, List.getElem?_eq_getElem (by rw [bs_size]; exact h)]; rfl

theorem nought_of {s : ByteArray} (h : 0 < s.size) (h10 : s.size ≤ 10) (h1 : 1 < s.size → ¬ (s[0].toNat : Int) = 48) : nought (bs s) = false := by
  unfold nought
  rw [bs_size, decide_eq_false (by omega), decide_eq_false (by omega), head_of s h]
  simp only [Bool.false_or, Bool.and_eq_false_iff, decide_eq_false_iff_not]
  by_cases hh : 1 < s.size
  · right; intro e; injection e with e; exact h1 hh (by rw [e]; rfl)
  · exact .inl hh

theorem pow_le_ten {k : Nat} (h : k ≤ 10) : 10 ^ k ≤ 10000000000 := by
  have := Nat.pow_le_pow_right (n := 10) (by decide) h
  simpa using this

/-- the figures so far -/
def Figs (s : ByteArray) (k : Nat) (n : Int) : Prop := n = (vl ((bs s).take k) : Nat) ∧ fgs ((bs s).take k) = true

theorem Figs.bound {s : ByteArray} {k : Nat} {n : Int} (h : Figs s k n) (hk : k ≤ 10) : 0 ≤ n ∧ n ≤ 10000000000 := by
  have h1 := vl_lt _ h.2
  have h2 : ((bs s).take k).length ≤ k := List.length_take_le _ _
  have h3 := pow_le_ten (Nat.le_trans h2 hk)
  rw [h.1]; omega

theorem Figs.next {s : ByteArray} {k : Nat} {n : Int} (h : Figs s k n) (hk : k < s.size) (hf : fg (s[k].toNat : Int) = true) : Figs s (k + 1) (10 * n + (s[k].toNat : Int) - 48) := by
  have h2 : fg (nb s[k]) = true := hf
  have h3 := (fg_iff _).1 h2
  refine ⟨?_, by rw [take_snoc s k hk, fgs_snoc, h.2, h2]; rfl⟩
  rw [take_snoc s k hk, vl_snoc, h.1]
  omega

theorem Figs.stop {s : ByteArray} {k : Nat} (hk : k < s.size) (hf : fg (s[k].toNat : Int) = false) : num (bs s) = none := by
  unfold num
  rw [if_neg]
  rintro ⟨_, h, _⟩
  have := List.all_eq_true.1 h ((bs s)[k]'(by rw [bs_size]; exact hk)) (List.getElem_mem _)
  have h2 : fg (nb ((bs s)[k]'(by rw [bs_size]; exact hk))) = false := hf
  rw [h2] at this; cases this

theorem Figs.whole {s : ByteArray} {n : Int} (h : Figs s s.size n) (hn : nought (bs s) = false) : num (bs s) = if n ≤ 2147483647 then some n.toNat else none := by
  obtain ⟨h1, h2⟩ := h
  have e : (bs s).take s.size = bs s := by rw [← bs_size]; exact List.take_length
  rw [e] at h1 h2
  unfold num
  by_cases hh : vl (bs s) ≤ 2147483647
  · rw [if_pos ⟨hn, h2, hh⟩, if_pos (by omega), h1]; rfl
  · rw [if_neg (fun h => hh h.2.2), if_neg (by omega)]

theorem refNumV_none {s : ByteArray} (h : num (bs s) = none) : refNumV s = .tuple #[.int .i64 0, .bool false] := by simp [refNumV, h]
theorem refNumV_some {s : ByteArray} {n : Nat} (h : num (bs s) = some n) : refNumV s = .tuple #[.int .i64 (n : Nat), .bool true] := by simp [refNumV, h]
theorem num_nought {s : ByteArray} (h : nought (bs s) = true) : num (bs s) = none := by simp [num, h]




















































































end Go.Proofs.YtkjfheondlpnfaaDoor
