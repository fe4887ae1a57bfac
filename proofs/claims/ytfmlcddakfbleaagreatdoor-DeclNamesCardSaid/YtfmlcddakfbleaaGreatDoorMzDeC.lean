/- decl's methods and main classes. -/
import Derived.Test.YtfmlcddakfbleaaGreatDoorMzDeB
import Derived.Test.YtfmlcddakfbleaaGreatDoorMzStB
namespace Go.Proofs.YtfmlcddakfbleaaGreatDoor
namespace Dc
open Go.RowKit SignMath TreeMath

theorem ent_params : Ent 121 := ent_of Tryz.func121 (by kernel_rfl) (by kernel_rfl)
theorem ent_vars : Ent 23 := ent_of Tryz.func23 (by kernel_rfl) (by kernel_rfl)
theorem ent_stmts : Ent 24 := ent_of Tryz.func24 (by kernel_rfl) (by kernel_rfl)
theorem ent_parse : Ent 118 := ent_of Tryz.func118 (by kernel_rfl) (by kernel_rfl)
section
variable {b : Nat} {A : Option Addr} {c : Nat}
theorem con_params (x : Nat) : Con b A c 0 (.list 121 prms 9000 x) := ⟨ent_params, params_any, Got.prms 0, .inl (Nat.le_refl _)⟩
theorem con_vars (x : Nat) : Con b A c 0 (.listp 23 (unf vbs) 4000 x) := ⟨ent_vars, fun _ _ h hk h2 _ => (vars_any h hk h2).mono fun _ _ h => h.v, Got.uvb, .inr fun _ hk => vbs_len hk⟩
theorem con_stmts (x : Nat) : Con b A c 0 (.listp 24 (unf stl) 4000 x) := ⟨ent_stmts, fun _ _ h hk h2 _ => (stmts_any h hk h2).mono fun _ _ h => h.v, Got.ust, .inr fun _ hk => stl_len hk⟩
theorem con_parse (x : Nat) : Con b A c 0 (.treep 118 prs x) := ⟨ent_parse, fun _ _ h hk h2 _ => parse_any h hk h2, Got.prs⟩
theorem mth_cu (C : Cu) (y0 : Part) (y1 : Part) (y2 : Part) (y3 : Part) (y4 : Part) (y5 : Cu → Cu × Tr) : cuA [.load, .row [sPub], .toks [sPub] 0 1, .load, .list 109 y0 1 3, .load, .list 86 y1 1 5, .load, .row [sRo], .toks [sRo] 7 8, .load, .list 121 y2 9000 10, .load, .row [sRo2, sBrO], .toks [sRo2, sBrO] 12 13, .fa, .ptr 15, .listp 23 y3 4000 16, .fa, .ptr 18, .listp 24 y4 4000 19, .load, .row [sRet], .toks [sRet] 21 22, .fa, .ptr 24, .treep 118 y5 25, .one 26, .load, .row [sSemi, sBrC], .toks [sSemi, sBrC] 28 29, .bund [2, 4, 6, 9, 11, 14, 17, 20, 23, 27, 30], .node 6 31, .store 32] C 34 = (sq [tkq [sPub], y0, y1, tkq [sRo], y2, tkq [sRo2, sBrO], y3, y4, tkq [sRet], on1 y5, tkq [sSemi, sBrC]] C).1 := by kernel_rfl
theorem mth_nv (C : Cu) (y0 : Part) (y1 : Part) (y2 : Part) (y3 : Part) (y4 : Part) (y5 : Cu → Cu × Tr) : nvl [.load, .row [sPub], .toks [sPub] 0 1, .load, .list 109 y0 1 3, .load, .list 86 y1 1 5, .load, .row [sRo], .toks [sRo] 7 8, .load, .list 121 y2 9000 10, .load, .row [sRo2, sBrO], .toks [sRo2, sBrO] 12 13, .fa, .ptr 15, .listp 23 y3 4000 16, .fa, .ptr 18, .listp 24 y4 4000 19, .load, .row [sRet], .toks [sRet] 21 22, .fa, .ptr 24, .treep 118 y5 25, .one 26, .load, .row [sSemi, sBrC], .toks [sSemi, sBrC] 28 29, .bund [2, 4, 6, 9, 11, 14, 17, 20, 23, 27, 30], .node 6 31, .store 32] C 32 = [nod 6 (sq [tkq [sPub], y0, y1, tkq [sRo], y2, tkq [sRo2, sBrO], y3, y4, tkq [sRet], on1 y5, tkq [sSemi, sBrC]] C).2] := by kernel_rfl
set_option maxRecDepth 100000 in
set_option maxHeartbeats 16000000 in
theorem method_any : PartF 110 b A c mth 0 := by
  intro w C h hk hd _
  have E2 := Lib.hid (EK.starts h hk)
  clear h hk
  go_enter Tryz.func110, Tryz.ntmps110
  go_wp2
  rename_i K0 hK0
  refine region_any (D := [.load, .row [sPub], .toks [sPub] 0 1, .load, .list 109 tyq 1 3, .load, .list 86 nam 1 5, .load, .row [sRo], .toks [sRo] 7 8, .load, .list 121 prms 9000 10, .load, .row [sRo2, sBrO], .toks [sRo2, sBrO] 12 13, .fa, .ptr 15, .listp 23 (unf vbs) 4000 16, .fa, .ptr 18, .listp 24 (unf stl) 4000 19, .load, .row [sRet], .toks [sRet] 21 22, .fa, .ptr 24, .treep 118 prs 25, .one 26, .load, .row [sSemi, sBrC], .toks [sSemi, sBrC] 28 29, .bund [2, 4, 6, 9, 11, 14, 17, 20, 23, 27, 30], .node 6 31, .store 32]) (base := 3) (nt := 36) (Dp := 0) (z1 := w.heap.size) (z2 := w.heap.size + 1) (by omega) (Nat.le_of_ble_eq_true rfl) hd (Nat.zero_le _)
    ⟨⟨rfl, ⟨rfl, rfl⟩, by kernel_rfl, by kernel_rfl, by kernel_rfl, trivial, trivial⟩, ⟨rfl, ⟨⟨_, rfl, rfl⟩, by decide, rfl⟩, by kernel_rfl, by kernel_rfl, by kernel_rfl, (by show _ ≤ 9; decide), trivial⟩, ⟨rfl, ⟨⟨_, rfl⟩, rfl⟩, by kernel_rfl, by kernel_rfl, by kernel_rfl, ⟨rfl, rfl, by decide⟩, trivial⟩, ⟨rfl, ⟨rfl, rfl⟩, by kernel_rfl, by kernel_rfl, by kernel_rfl, trivial, trivial⟩, ⟨rfl, ⟨⟨_, rfl⟩, rfl⟩, by kernel_rfl, by kernel_rfl, by kernel_rfl, rfl, (con_typed 3)⟩, ⟨rfl, ⟨rfl, rfl⟩, by kernel_rfl, by kernel_rfl, by kernel_rfl, trivial, trivial⟩, ⟨rfl, ⟨⟨_, rfl⟩, rfl⟩, by kernel_rfl, by kernel_rfl, by kernel_rfl, rfl, (con_name 5)⟩, ⟨rfl, ⟨rfl, rfl⟩, by kernel_rfl, by kernel_rfl, by kernel_rfl, trivial, trivial⟩, ⟨rfl, ⟨⟨_, rfl, rfl⟩, by decide, rfl⟩, by kernel_rfl, by kernel_rfl, by kernel_rfl, (by show _ ≤ 9; decide), trivial⟩, ⟨rfl, ⟨⟨_, rfl⟩, rfl⟩, by kernel_rfl, by kernel_rfl, by kernel_rfl, ⟨rfl, rfl, by decide⟩, trivial⟩, ⟨rfl, ⟨rfl, rfl⟩, by kernel_rfl, by kernel_rfl, by kernel_rfl, trivial, trivial⟩, ⟨rfl, ⟨⟨_, rfl⟩, rfl⟩, by kernel_rfl, by kernel_rfl, by kernel_rfl, rfl, (con_params 10)⟩, ⟨rfl, ⟨rfl, rfl⟩, by kernel_rfl, by kernel_rfl, by kernel_rfl, trivial, trivial⟩, ⟨rfl, ⟨⟨_, rfl, rfl⟩, by decide, rfl⟩, by kernel_rfl, by kernel_rfl, by kernel_rfl, (by show _ ≤ 9; decide), trivial⟩, ⟨rfl, ⟨⟨_, rfl⟩, rfl⟩, by kernel_rfl, by kernel_rfl, by kernel_rfl, ⟨rfl, rfl, by decide⟩, trivial⟩, ⟨rfl, ⟨rfl, rfl⟩, by kernel_rfl, by kernel_rfl, by kernel_rfl, trivial, trivial⟩, ⟨rfl, ⟨rfl, rfl⟩, by kernel_rfl, by kernel_rfl, by kernel_rfl, rfl, trivial⟩, ⟨rfl, ⟨⟨_, rfl⟩, rfl⟩, by kernel_rfl, by kernel_rfl, by kernel_rfl, ⟨_, rfl⟩, (con_vars 16)⟩, ⟨rfl, ⟨rfl, rfl⟩, by kernel_rfl, by kernel_rfl, by kernel_rfl, trivial, trivial⟩, ⟨rfl, ⟨rfl, rfl⟩, by kernel_rfl, by kernel_rfl, by kernel_rfl, rfl, trivial⟩, ⟨rfl, ⟨⟨_, rfl⟩, rfl⟩, by kernel_rfl, by kernel_rfl, by kernel_rfl, ⟨_, rfl⟩, (con_stmts 19)⟩, ⟨rfl, ⟨rfl, rfl⟩, by kernel_rfl, by kernel_rfl, by kernel_rfl, trivial, trivial⟩, ⟨rfl, ⟨⟨_, rfl, rfl⟩, by decide, rfl⟩, by kernel_rfl, by kernel_rfl, by kernel_rfl, (by show _ ≤ 9; decide), trivial⟩, ⟨rfl, ⟨⟨_, rfl⟩, rfl⟩, by kernel_rfl, by kernel_rfl, by kernel_rfl, ⟨rfl, rfl, by decide⟩, trivial⟩, ⟨rfl, ⟨rfl, rfl⟩, by kernel_rfl, by kernel_rfl, by kernel_rfl, trivial, trivial⟩, ⟨rfl, ⟨rfl, rfl⟩, by kernel_rfl, by kernel_rfl, by kernel_rfl, rfl, trivial⟩, ⟨rfl, ⟨⟨_, rfl⟩, rfl⟩, by kernel_rfl, by kernel_rfl, by kernel_rfl, ⟨_, rfl⟩, (con_parse 25)⟩, ⟨rfl, ⟨⟨_, rfl⟩, rfl⟩, by kernel_rfl, by kernel_rfl, by kernel_rfl, ⟨_, _, _, .inr rfl⟩, trivial⟩, ⟨rfl, ⟨rfl, rfl⟩, by kernel_rfl, by kernel_rfl, by kernel_rfl, trivial, trivial⟩, ⟨rfl, ⟨⟨_, rfl, rfl⟩, by decide, rfl⟩, by kernel_rfl, by kernel_rfl, by kernel_rfl, (by show _ ≤ 9; decide), trivial⟩, ⟨rfl, ⟨⟨_, rfl⟩, rfl⟩, by kernel_rfl, by kernel_rfl, by kernel_rfl, ⟨rfl, rfl, by decide⟩, trivial⟩, ⟨rfl, ⟨⟨_, rfl, rfl⟩, by decide, rfl⟩, by kernel_rfl, by kernel_rfl, by kernel_rfl, ⟨by decide, by kernel_rfl, Nat.le_of_ble_eq_true (by kernel_rfl)⟩, trivial⟩, ⟨rfl, ⟨⟨_, rfl⟩, rfl⟩, by kernel_rfl, by kernel_rfl, by kernel_rfl, ⟨_, rfl⟩, trivial⟩, ⟨rfl, ⟨rfl, rfl⟩, by kernel_rfl, by kernel_rfl, by kernel_rfl, ⟨_, _, rfl⟩, trivial⟩, trivial⟩ (Nat.succ_pos _) rfl rfl rfl E2.out (by simp) (by simp) (by simp) ?_
  intro a' W' T zs' x g1 g2 g3 g4 g5 ek hp
  have g5 : some (Kd.store 32) = some (Kd.store x) := g5
  injection g5 with g5
  injection g5 with g5
  subst g5
  have hp := hp.trans (mth_nv C tyq nam prms (unf vbs) (unf stl) prs)
  injection hp with hp
  have hp : pl T = (mth C).2 := hp
  have hc := mth_cu C tyq nam prms (unf vbs) (unf stl) prs
  have ek : EK b A c no (· = b) w (cuA [.load, .row [sPub], .toks [sPub] 0 1, .load, .list 109 tyq 1 3, .load, .list 86 nam 1 5, .load, .row [sRo], .toks [sRo] 7 8, .load, .list 121 prms 9000 10, .load, .row [sRo2, sBrO], .toks [sRo2, sBrO] 12 13, .fa, .ptr 15, .listp 23 (unf vbs) 4000 16, .fa, .ptr 18, .listp 24 (unf stl) 4000 19, .load, .row [sRet], .toks [sRet] 21 22, .fa, .ptr 24, .treep 118 prs 25, .one 26, .load, .row [sSemi, sBrC], .toks [sSemi, sBrC] 28 29, .bund [2, 4, 6, 9, 11, 14, 17, 20, 23, 27, 30], .node 6 31, .store 32] C 34) [(w.heap.size + 1, .cells (ncc T) 30 (0, 0))] zs' [T] W' := ek
  rw [hc] at ek
  clear hc
  have hs := ek.box (z := w.heap.size + 1) (o := .cells (ncc T) 30 (0, 0)) (by simp)
  have HV := Lib.hid (ek.fin (r := mth C) (T := T) (by simp) rfl hp)
  clear ek hp
  show K0 a' W'
  refine hK0 _ _ ?_
  go_wp2
  refine bodyPost_ret (v := nv T) (results_cell rfl g4 hs) g1 HV.out
theorem mcl_cu (C : Cu) (y0 : Part) (y1 : Part) : cuA [.load, .row [sClass], .toks [sClass] 0 1, .load, .list 86 y0 1 3, .load, .row [sBrO, sPub, sStat, sVoid, sMain, sRo, sStr, sSq, sSq2], .toks [sBrO, sPub, sStat, sVoid, sMain, sRo, sStr, sSq, sSq2] 5 6, .load, .list 86 y0 1 8, .load, .row [sRo2, sBrO], .toks [sRo2, sBrO] 10 11, .fa, .ptr 13, .listp 24 y1 4000 14, .load, .row [sBrC, sBrC], .toks [sBrC, sBrC] 16 17, .bund [2, 4, 7, 9, 12, 15, 18], .node 3 19, .store 20] C 22 = (sq [tkq [sClass], y0, tkq [sBrO, sPub, sStat, sVoid, sMain, sRo, sStr, sSq, sSq2], y0, tkq [sRo2, sBrO], y1, tkq [sBrC, sBrC]] C).1 := by kernel_rfl
theorem mcl_nv (C : Cu) (y0 : Part) (y1 : Part) : nvl [.load, .row [sClass], .toks [sClass] 0 1, .load, .list 86 y0 1 3, .load, .row [sBrO, sPub, sStat, sVoid, sMain, sRo, sStr, sSq, sSq2], .toks [sBrO, sPub, sStat, sVoid, sMain, sRo, sStr, sSq, sSq2] 5 6, .load, .list 86 y0 1 8, .load, .row [sRo2, sBrO], .toks [sRo2, sBrO] 10 11, .fa, .ptr 13, .listp 24 y1 4000 14, .load, .row [sBrC, sBrC], .toks [sBrC, sBrC] 16 17, .bund [2, 4, 7, 9, 12, 15, 18], .node 3 19, .store 20] C 20 = [nod 3 (sq [tkq [sClass], y0, tkq [sBrO, sPub, sStat, sVoid, sMain, sRo, sStr, sSq, sSq2], y0, tkq [sRo2, sBrO], y1, tkq [sBrC, sBrC]] C).2] := by kernel_rfl
set_option maxRecDepth 100000 in
set_option maxHeartbeats 16000000 in
theorem main_any : PartF 84 b A c mcl 0 := by
  intro w C h hk hd _
  have E2 := Lib.hid (EK.starts h hk)
  clear h hk
  go_enter Tryz.func84, Tryz.ntmps84
  go_wp2
  rename_i K0 hK0
  refine region_any (D := [.load, .row [sClass], .toks [sClass] 0 1, .load, .list 86 nam 1 3, .load, .row [sBrO, sPub, sStat, sVoid, sMain, sRo, sStr, sSq, sSq2], .toks [sBrO, sPub, sStat, sVoid, sMain, sRo, sStr, sSq, sSq2] 5 6, .load, .list 86 nam 1 8, .load, .row [sRo2, sBrO], .toks [sRo2, sBrO] 10 11, .fa, .ptr 13, .listp 24 (unf stl) 4000 14, .load, .row [sBrC, sBrC], .toks [sBrC, sBrC] 16 17, .bund [2, 4, 7, 9, 12, 15, 18], .node 3 19, .store 20]) (base := 3) (nt := 24) (Dp := 0) (z1 := w.heap.size) (z2 := w.heap.size + 1) (by omega) (Nat.le_of_ble_eq_true rfl) hd (Nat.zero_le _)
    ⟨⟨rfl, ⟨rfl, rfl⟩, by kernel_rfl, by kernel_rfl, by kernel_rfl, trivial, trivial⟩, ⟨rfl, ⟨⟨_, rfl, rfl⟩, by decide, rfl⟩, by kernel_rfl, by kernel_rfl, by kernel_rfl, (by show _ ≤ 9; decide), trivial⟩, ⟨rfl, ⟨⟨_, rfl⟩, rfl⟩, by kernel_rfl, by kernel_rfl, by kernel_rfl, ⟨rfl, rfl, by decide⟩, trivial⟩, ⟨rfl, ⟨rfl, rfl⟩, by kernel_rfl, by kernel_rfl, by kernel_rfl, trivial, trivial⟩, ⟨rfl, ⟨⟨_, rfl⟩, rfl⟩, by kernel_rfl, by kernel_rfl, by kernel_rfl, rfl, (con_name 3)⟩, ⟨rfl, ⟨rfl, rfl⟩, by kernel_rfl, by kernel_rfl, by kernel_rfl, trivial, trivial⟩, ⟨rfl, ⟨⟨_, rfl, rfl⟩, by decide, rfl⟩, by kernel_rfl, by kernel_rfl, by kernel_rfl, (by show _ ≤ 9; decide), trivial⟩, ⟨rfl, ⟨⟨_, rfl⟩, rfl⟩, by kernel_rfl, by kernel_rfl, by kernel_rfl, ⟨rfl, rfl, by decide⟩, trivial⟩, ⟨rfl, ⟨rfl, rfl⟩, by kernel_rfl, by kernel_rfl, by kernel_rfl, trivial, trivial⟩, ⟨rfl, ⟨⟨_, rfl⟩, rfl⟩, by kernel_rfl, by kernel_rfl, by kernel_rfl, rfl, (con_name 8)⟩, ⟨rfl, ⟨rfl, rfl⟩, by kernel_rfl, by kernel_rfl, by kernel_rfl, trivial, trivial⟩, ⟨rfl, ⟨⟨_, rfl, rfl⟩, by decide, rfl⟩, by kernel_rfl, by kernel_rfl, by kernel_rfl, (by show _ ≤ 9; decide), trivial⟩, ⟨rfl, ⟨⟨_, rfl⟩, rfl⟩, by kernel_rfl, by kernel_rfl, by kernel_rfl, ⟨rfl, rfl, by decide⟩, trivial⟩, ⟨rfl, ⟨rfl, rfl⟩, by kernel_rfl, by kernel_rfl, by kernel_rfl, trivial, trivial⟩, ⟨rfl, ⟨rfl, rfl⟩, by kernel_rfl, by kernel_rfl, by kernel_rfl, rfl, trivial⟩, ⟨rfl, ⟨⟨_, rfl⟩, rfl⟩, by kernel_rfl, by kernel_rfl, by kernel_rfl, ⟨_, rfl⟩, (con_stmts 14)⟩, ⟨rfl, ⟨rfl, rfl⟩, by kernel_rfl, by kernel_rfl, by kernel_rfl, trivial, trivial⟩, ⟨rfl, ⟨⟨_, rfl, rfl⟩, by decide, rfl⟩, by kernel_rfl, by kernel_rfl, by kernel_rfl, (by show _ ≤ 9; decide), trivial⟩, ⟨rfl, ⟨⟨_, rfl⟩, rfl⟩, by kernel_rfl, by kernel_rfl, by kernel_rfl, ⟨rfl, rfl, by decide⟩, trivial⟩, ⟨rfl, ⟨⟨_, rfl, rfl⟩, by decide, rfl⟩, by kernel_rfl, by kernel_rfl, by kernel_rfl, ⟨by decide, by kernel_rfl, Nat.le_of_ble_eq_true (by kernel_rfl)⟩, trivial⟩, ⟨rfl, ⟨⟨_, rfl⟩, rfl⟩, by kernel_rfl, by kernel_rfl, by kernel_rfl, ⟨_, rfl⟩, trivial⟩, ⟨rfl, ⟨rfl, rfl⟩, by kernel_rfl, by kernel_rfl, by kernel_rfl, ⟨_, _, rfl⟩, trivial⟩, trivial⟩ (Nat.succ_pos _) rfl rfl rfl E2.out (by simp) (by simp) (by simp) ?_
  intro a' W' T zs' x g1 g2 g3 g4 g5 ek hp
  have g5 : some (Kd.store 20) = some (Kd.store x) := g5
  injection g5 with g5
  injection g5 with g5
  subst g5
  have hp := hp.trans (mcl_nv C nam (unf stl))
  injection hp with hp
  have hp : pl T = (mcl C).2 := hp
  have hc := mcl_cu C nam (unf stl)
  have ek : EK b A c no (· = b) w (cuA [.load, .row [sClass], .toks [sClass] 0 1, .load, .list 86 nam 1 3, .load, .row [sBrO, sPub, sStat, sVoid, sMain, sRo, sStr, sSq, sSq2], .toks [sBrO, sPub, sStat, sVoid, sMain, sRo, sStr, sSq, sSq2] 5 6, .load, .list 86 nam 1 8, .load, .row [sRo2, sBrO], .toks [sRo2, sBrO] 10 11, .fa, .ptr 13, .listp 24 (unf stl) 4000 14, .load, .row [sBrC, sBrC], .toks [sBrC, sBrC] 16 17, .bund [2, 4, 7, 9, 12, 15, 18], .node 3 19, .store 20] C 22) [(w.heap.size + 1, .cells (ncc T) 30 (0, 0))] zs' [T] W' := ek
  rw [hc] at ek
  clear hc
  have hs := ek.box (z := w.heap.size + 1) (o := .cells (ncc T) 30 (0, 0)) (by simp)
  have HV := Lib.hid (ek.fin (r := mcl C) (T := T) (by simp) rfl hp)
  clear ek hp
  show K0 a' W'
  refine hK0 _ _ ?_
  go_wp2
  refine bodyPost_ret (v := nv T) (results_cell rfl g4 hs) g1 HV.out
end
end Dc
end Go.Proofs.YtfmlcddakfbleaaGreatDoor

namespace Go.Proofs.YtfmlcddakfbleaaGreatDoor
namespace Dc
open Go.RowKit SignMath TreeMath

section
variable {b : Nat} {A : Option Addr} {c : Nat}
set_option maxRecDepth 100000 in
set_option maxHeartbeats 16000000 in
theorem methods_any : WhatF 89 b A c mths 0 := by
  intro w C h hk hd hD
  have ek1 := (EK.begin h hk).alloc (sdb b)
  have hll := left_len hk
  generalize hres : mths C = res
  have HI0 : Hid (LsI b A c w mbg mth C res C.left C [] 0 none 0 [w.heap.size] (w.alloc (sdb b))) := Lib.hid ⟨ek1.sub (by simp) (by simp), RowN.nil _, fun q hq => (by cases hq), fun q _ e => (by cases e), rfl, Nat.le_refl _, hres, by omega, rfl⟩
  have HK := Lib.hid (And.intro hd hD)
  clear ek1 h hk hd hD hll hres
  go_enter Tryz.func89, Tryz.ntmps89
  go_wp2
  go_loopw [3] (fun v wr => ∃ (q : Nat) (C' : Cu) (m : List Tr) (n : Nat) (Al : Option Addr) (cl : Nat) (zs : List Nat), v = .slice Al n cl ∧ Hid (LsI b A c w mbg mth C res q C' m n Al cl zs wr)) (fun v _ => 4001 - vlen v)
  case atStart => exact ⟨_, _, _, _, _, _, _, rfl, HI0⟩
  case round =>
    obtain ⟨q, C', m, n, Al, cl, zs, rfl, HD⟩ := hrel
    clear HI0
    have E := Lib.hid HD.out.ek
    have HR := Lib.hid HD.out.row
    cases h1 : C'.isb 0 sPub with
    | false =>
      have hbg : mbg C' = false := h1
      have hres := HD.out.res
      rw [lst_no (by exact hbg)] at hres
      have HRES := Lib.hid hres
      clear hbg hres
      have p0 := cell_heap (E.out.box (z := w.heap.size) (o := sdb b) (by simp)) (i := 0)
      simp only [List.getElem?_toArray, List.getElem?_cons_zero] at p0
      have HC := Lib.hid (is_any 0 sPub ⟨by omega, by omega⟩ E.out.cu E.out.ok)
      rw [h1] at HC
      unfold Rd at HC
      go_wp2_with fail
      refine HC.out.mono ?_
      rintro e v1 ⟨rfl, hb⟩
      have E1 := Lib.hid (E.out.below hb)
      have HR1 := Lib.hid (HR.out.below hb)
      clear hb HC E HR p0
      clear h1
      have hmn := HD.out.hn
      subst hmn
      have HV := Lib.hid (E1.out.listw (r := res) (m := m) HR1.out HD.out.own (fun x hx => hx) (by have := HD.out.len; omega) (by rw [← HRES.out]) (by rw [← HRES.out]))
      clear E1 HR1 HD HRES
      go_wp2
      refine bodyPost_ret (v := .slice Al m.length cl) (by simp [results, Tryz.results89, go_sem]) rfl HV.out.v
    | true =>
      have hbg : mbg C' = true := h1
      have hko := HD.out.ek.ok
      have hd2 : C'.d ≤ 200 := by rw [HD.out.d]; exact HK.out.1
      have hlt := mth_left hko hd2 hbg
      have HGG := Lib.hid (Got.mth C' hko hd2 (Nat.zero_le _))
      obtain ⟨q, rfl⟩ : ∃ q', q = q' + 1 := ⟨q - 1, by have := HD.out.lf; omega⟩
      have hres := HD.out.res
      rw [lst_go (by exact hbg)] at hres
      have HRES := Lib.hid hres
      have hq := HD.out.lf
      have hl := HD.out.len
      have HNM : Hid ((mth C').1.left ≤ q ∧ n + 1 + (mth C').1.left ≤ 4000 ∧ n ≤ 3999) := Lib.hid ⟨by omega, by omega, by omega⟩
      have HO := Lib.hid (And.intro HD.out.own (And.intro HD.out.ne (And.intro HD.out.hn HD.out.d)))
      have HP := Lib.hid (fun (W : World) (hm : CuM b A c C' W) => method_any W C' hm hko hd2 (Nat.zero_le _))
      clear hbg hko hd2 hlt hres hq hl HD
      generalize mth C' = RM at HGG HRES HNM HP
      have p0 := cell_heap (E.out.box (z := w.heap.size) (o := sdb b) (by simp)) (i := 0)
      simp only [List.getElem?_toArray, List.getElem?_cons_zero] at p0
      have HC := Lib.hid (is_any 0 sPub ⟨by omega, by omega⟩ E.out.cu E.out.ok)
      rw [h1] at HC
      unfold Rd at HC
      go_wp2_with fail
      refine HC.out.mono ?_
      rintro e v1 ⟨rfl, hb⟩
      have E1 := Lib.hid (E.out.below hb)
      have HR1 := Lib.hid (HR.out.below hb)
      clear hb HC E HR p0
      have p0 := cell_heap (E1.out.box (z := w.heap.size) (o := sdb b) (by simp)) (i := 0)
      simp only [List.getElem?_toArray, List.getElem?_cons_zero] at p0
      clear h1
      have HC := Lib.hid (HP.out v1 E1.out.cu)
      go_wp2_with fail
      refine HC.out.mono ?_
      rintro e w2 ⟨SG, rfl, hp1, hT1, hm1, ho1⟩
      have hob : (Value.slice Al n cl).ownBlock ≠ some b := fun e => by
        have := (E1.out.zn b (HO.out.1 b e)).1
        have := E1.out.hX b rfl
        omega
      have ek2 := E1.out.got hT1 hm1 ⟨HGG.out.ok, HGG.out.L⟩ ho1
      have hrow2 := HR1.out.of ho1 hob
      have ek3 := ek2.rowOf 0 1 (l := [SG]) rfl (by simp) (.cells #[.int .i64 SG.k, .string SG.g, .string SG.t, .int .i64 SG.a, .slice SG.A SG.kids.length SG.c] 30 (0, 0)) 30 rfl
      have hrow3 := hrow2.below (below1 w2 (.cells #[.int .i64 SG.k, .string SG.g, .string SG.t, .int .i64 SG.a, .slice SG.A SG.kids.length SG.c] 30 (0, 0)))
      have hlies := (tn_iff.1 (ek3.tn ⟨0, ⟨#[]⟩, ⟨#[]⟩, 0, some ⟨w2.heap.size, 0, none⟩, 1, [SG]⟩ (by simp))).2.1
      have E3 := Lib.hid (ek3.sub (bs' := [(w.heap.size, sdb b)]) (ts' := SG :: m) (by simp) (by simp only [List.mem_cons]; rintro T (h | h) <;> simp [h]))
      have HR3 := Lib.hid hrow3
      have HLI := Lib.hid hlies
      clear ek2 hrow2 ek3 hrow3 hlies hT1 hm1 ho1 p0 HC E1 HR1 hob HP
      go_wp2_with (at_builtin; refine Stay.out ?_)
      refine Stay.mk ?_
      refine wpList_append_n (by rfl) (.tmp 7) (.tmp 10) (by rfl) (w2.alloc (.cells #[.int .i64 SG.k, .string SG.g, .string SG.t, .int .i64 SG.a, .slice SG.A SG.kids.length SG.c] 30 (0, 0))) (.slice Al n cl) m [SG] (some ⟨w2.heap.size, 0, none⟩) 1 1 _ rfl (by rfl) (by rfl) HLI.out (by simp) HR3.out (by have := HO.out.2.2.1; have := HNM.out.2.2; simp; omega) ?_
      intro A1 c1 w4 hrow4 hg4 hat4
      obtain ⟨zs4, ek4, hz4, ho4, hn4'⟩ := E3.out.grows hg4 (own' := (Value.slice A1 (m ++ [SG]).length c1).ownBlock) (fun q hq => .inl (HO.out.1 q hq)) HO.out.2.1 hat4 hrow4.lt
      have hlen : (m ++ [SG]).length = n + 1 := by rw [List.length_append, HO.out.2.2.1]; rfl
      have hmap : lst mbg mth q (RM.1, (m ++ [SG]).map pl) = res := by rw [List.map_append, List.map_cons, List.map_nil, hp1]; exact HRES.out
      have ek5 := ek4.sub (bs' := [(w.heap.size, sdb b)]) (ts' := m ++ [SG]) (by simp) (by simp only [List.mem_append, List.mem_cons, List.not_mem_nil, or_false]; rintro T (h | h) <;> simp [h])
      rw [hlen] at hrow4 ho4 hn4'
      rw [hlen]
      have HI : Hid (LsI b A c w mbg mth C res q RM.1 (m ++ [SG]) (n + 1) A1 c1 zs4 w4) := Lib.hid ⟨ek5, hrow4, fun q hq => (ho4 q hq).resolve_right (fun hh => hh.2 hh.1), hn4', hlen, HNM.out.1, hmap, HNM.out.2.1, HGG.out.d.trans HO.out.2.2.2⟩
      have hn9 := HNM.out.2.2
      clear ek4 ek5 hrow4 hg4 hat4 hz4 ho4 hn4' hlen hmap E3 HR3 HLI HRES hp1
      go_wp2
      go_roundw
      case rel => exact ⟨q, RM.1, m ++ [SG], n + 1, A1, c1, zs4, rfl, HI⟩
      case measure => simp [vlen]; omega
end
end Dc
end Go.Proofs.YtfmlcddakfbleaaGreatDoor

namespace Go.Proofs.YtfmlcddakfbleaaGreatDoor
namespace Dc
open Go.RowKit SignMath TreeMath

theorem ent_super : Ent 87 := ent_of Tryz.func87 (by kernel_rfl) (by kernel_rfl)
theorem ent_fields : Ent 88 := ent_of Tryz.func88 (by kernel_rfl) (by kernel_rfl)
theorem ent_methods : Ent 89 := ent_of Tryz.func89 (by kernel_rfl) (by kernel_rfl)
section
variable {b : Nat} {A : Option Addr} {c : Nat}
theorem con_super (x : Nat) : Con b A c 0 (.list 87 sup 2 x) := ⟨ent_super, super_any, Got.sup 0, .inr fun C _ => sup_len C⟩
theorem con_fields (x : Nat) : Con b A c 0 (.list 88 flds 9000 x) := ⟨ent_fields, fields_any, Got.flds 0, .inl (Nat.le_refl _)⟩
theorem con_methods (x : Nat) : Con b A c 0 (.list 89 mths 9000 x) := ⟨ent_methods, methods_any, Got.mths, .inl (Nat.le_refl _)⟩
theorem ocl_cu (C : Cu) (y0 : Part) (y1 : Part) (y2 : Part) (y3 : Part) : cuA [.load, .row [sClass], .toks [sClass] 0 1, .load, .list 86 y0 1 3, .load, .list 87 y1 2 5, .load, .row [sBrO], .toks [sBrO] 7 8, .load, .list 88 y2 9000 10, .load, .list 89 y3 9000 12, .load, .row [sBrC], .toks [sBrC] 14 15, .bund [2, 4, 6, 9, 11, 13, 16], .node 4 17, .store 18] C 20 = (sq [tkq [sClass], y0, y1, tkq [sBrO], y2, y3, tkq [sBrC]] C).1 := by kernel_rfl
theorem ocl_nv (C : Cu) (y0 : Part) (y1 : Part) (y2 : Part) (y3 : Part) : nvl [.load, .row [sClass], .toks [sClass] 0 1, .load, .list 86 y0 1 3, .load, .list 87 y1 2 5, .load, .row [sBrO], .toks [sBrO] 7 8, .load, .list 88 y2 9000 10, .load, .list 89 y3 9000 12, .load, .row [sBrC], .toks [sBrC] 14 15, .bund [2, 4, 6, 9, 11, 13, 16], .node 4 17, .store 18] C 18 = [nod 4 (sq [tkq [sClass], y0, y1, tkq [sBrO], y2, y3, tkq [sBrC]] C).2] := by kernel_rfl
set_option maxRecDepth 100000 in
set_option maxHeartbeats 16000000 in
theorem class_any : PartF 64 b A c cls 0 := by
  intro w C h hk hd _
  have E2 := Lib.hid (EK.starts h hk)
  have HGM := Lib.hid (Got.mcl C hk hd (Nat.zero_le _))
  have HMA := Lib.hid (fun (W : World) (hm : CuM b A c C W) => main_any W C hm hk hd (Nat.zero_le _))
  clear h hk
  cases h1 : C.isb 2 sBrO with
  | false =>
    have HT : cls C = ocl C := by unfold cls mnb; simp [h1]
    rw [HT]
    go_enter Tryz.func64, Tryz.ntmps64
    have p0 := cell_heap (E2.out.box (z := w.heap.size) (o := sdb b) (by simp)) (i := 0)
    simp only [List.getElem?_toArray, List.getElem?_cons_zero] at p0
    have HC := Lib.hid (E2.out.isq 2 sBrO ⟨by omega, by omega⟩)
    rw [h1] at HC
    go_wp2_with fail
    refine HC.out.mono ?_
    rintro e v1 ⟨rfl, ek_⟩
    have E3 := Lib.hid ek_
    clear ek_ HC E2 p0
    clear HT h1
    go_wp2
    rename_i K0 hK0
    refine region_any (D := [.load, .row [sClass], .toks [sClass] 0 1, .load, .list 86 nam 1 3, .load, .list 87 sup 2 5, .load, .row [sBrO], .toks [sBrO] 7 8, .load, .list 88 flds 9000 10, .load, .list 89 mths 9000 12, .load, .row [sBrC], .toks [sBrC] 14 15, .bund [2, 4, 6, 9, 11, 13, 16], .node 4 17, .store 18]) (base := 18) (nt := 37) (Dp := 0) (z1 := w.heap.size) (z2 := w.heap.size + 1) (by omega) (Nat.le_of_ble_eq_true rfl) hd (Nat.zero_le _)
      ⟨⟨rfl, ⟨rfl, rfl⟩, by kernel_rfl, by kernel_rfl, by kernel_rfl, trivial, trivial⟩, ⟨rfl, ⟨⟨_, rfl, rfl⟩, by decide, rfl⟩, by kernel_rfl, by kernel_rfl, by kernel_rfl, (by show _ ≤ 9; decide), trivial⟩, ⟨rfl, ⟨⟨_, rfl⟩, rfl⟩, by kernel_rfl, by kernel_rfl, by kernel_rfl, ⟨rfl, rfl, by decide⟩, trivial⟩, ⟨rfl, ⟨rfl, rfl⟩, by kernel_rfl, by kernel_rfl, by kernel_rfl, trivial, trivial⟩, ⟨rfl, ⟨⟨_, rfl⟩, rfl⟩, by kernel_rfl, by kernel_rfl, by kernel_rfl, rfl, (con_name 3)⟩, ⟨rfl, ⟨rfl, rfl⟩, by kernel_rfl, by kernel_rfl, by kernel_rfl, trivial, trivial⟩, ⟨rfl, ⟨⟨_, rfl⟩, rfl⟩, by kernel_rfl, by kernel_rfl, by kernel_rfl, rfl, (con_super 5)⟩, ⟨rfl, ⟨rfl, rfl⟩, by kernel_rfl, by kernel_rfl, by kernel_rfl, trivial, trivial⟩, ⟨rfl, ⟨⟨_, rfl, rfl⟩, by decide, rfl⟩, by kernel_rfl, by kernel_rfl, by kernel_rfl, (by show _ ≤ 9; decide), trivial⟩, ⟨rfl, ⟨⟨_, rfl⟩, rfl⟩, by kernel_rfl, by kernel_rfl, by kernel_rfl, ⟨rfl, rfl, by decide⟩, trivial⟩, ⟨rfl, ⟨rfl, rfl⟩, by kernel_rfl, by kernel_rfl, by kernel_rfl, trivial, trivial⟩, ⟨rfl, ⟨⟨_, rfl⟩, rfl⟩, by kernel_rfl, by kernel_rfl, by kernel_rfl, rfl, (con_fields 10)⟩, ⟨rfl, ⟨rfl, rfl⟩, by kernel_rfl, by kernel_rfl, by kernel_rfl, trivial, trivial⟩, ⟨rfl, ⟨⟨_, rfl⟩, rfl⟩, by kernel_rfl, by kernel_rfl, by kernel_rfl, rfl, (con_methods 12)⟩, ⟨rfl, ⟨rfl, rfl⟩, by kernel_rfl, by kernel_rfl, by kernel_rfl, trivial, trivial⟩, ⟨rfl, ⟨⟨_, rfl, rfl⟩, by decide, rfl⟩, by kernel_rfl, by kernel_rfl, by kernel_rfl, (by show _ ≤ 9; decide), trivial⟩, ⟨rfl, ⟨⟨_, rfl⟩, rfl⟩, by kernel_rfl, by kernel_rfl, by kernel_rfl, ⟨rfl, rfl, by decide⟩, trivial⟩, ⟨rfl, ⟨⟨_, rfl, rfl⟩, by decide, rfl⟩, by kernel_rfl, by kernel_rfl, by kernel_rfl, ⟨by decide, by kernel_rfl, Nat.le_of_ble_eq_true (by kernel_rfl)⟩, trivial⟩, ⟨rfl, ⟨⟨_, rfl⟩, rfl⟩, by kernel_rfl, by kernel_rfl, by kernel_rfl, ⟨_, rfl⟩, trivial⟩, ⟨rfl, ⟨rfl, rfl⟩, by kernel_rfl, by kernel_rfl, by kernel_rfl, ⟨_, _, rfl⟩, trivial⟩, trivial⟩ (Nat.succ_pos _) rfl rfl rfl E3.out (by simp) (by simp) (by simp) ?_
    intro a' W' T zs' x g1 g2 g3 g4 g5 ek hp
    have g5 : some (Kd.store 18) = some (Kd.store x) := g5
    injection g5 with g5
    injection g5 with g5
    subst g5
    have hp := hp.trans (ocl_nv C nam sup flds mths)
    injection hp with hp
    have hp : pl T = (ocl C).2 := hp
    have hc := ocl_cu C nam sup flds mths
    have ek : EK b A c no (· = b) w (cuA [.load, .row [sClass], .toks [sClass] 0 1, .load, .list 86 nam 1 3, .load, .list 87 sup 2 5, .load, .row [sBrO], .toks [sBrO] 7 8, .load, .list 88 flds 9000 10, .load, .list 89 mths 9000 12, .load, .row [sBrC], .toks [sBrC] 14 15, .bund [2, 4, 6, 9, 11, 13, 16], .node 4 17, .store 18] C 20) [(w.heap.size + 1, .cells (ncc T) 30 (0, 0))] zs' [T] W' := ek
    rw [hc] at ek
    clear hc
    have hs := ek.box (z := w.heap.size + 1) (o := .cells (ncc T) 30 (0, 0)) (by simp)
    have HV := Lib.hid (ek.fin (r := ocl C) (T := T) (by simp) rfl hp)
    clear ek hp
    show K0 a' W'
    refine hK0 _ _ ?_
    go_wp2
    refine bodyPost_ret (v := nv T) (results_cell rfl g4 hs) g1 HV.out
  | true =>
    cases h2 : C.isb 3 sPub with
    | false =>
      have HT : cls C = ocl C := by unfold cls mnb; simp [h1, h2]
      rw [HT]
      go_enter Tryz.func64, Tryz.ntmps64
      have p0 := cell_heap (E2.out.box (z := w.heap.size) (o := sdb b) (by simp)) (i := 0)
      simp only [List.getElem?_toArray, List.getElem?_cons_zero] at p0
      have HC := Lib.hid (E2.out.isq 2 sBrO ⟨by omega, by omega⟩)
      rw [h1] at HC
      go_wp2_with fail
      refine HC.out.mono ?_
      rintro e v1 ⟨rfl, ek_⟩
      have E3 := Lib.hid ek_
      clear ek_ HC E2 p0
      have p0 := cell_heap (E3.out.box (z := w.heap.size) (o := sdb b) (by simp)) (i := 0)
      simp only [List.getElem?_toArray, List.getElem?_cons_zero] at p0
      have HC := Lib.hid (E3.out.isq 3 sPub ⟨by omega, by omega⟩)
      rw [h2] at HC
      go_wp2_with fail
      refine HC.out.mono ?_
      rintro e v2 ⟨rfl, ek_⟩
      have E4 := Lib.hid ek_
      clear ek_ HC E3 p0
      clear HT h1 h2
      go_wp2
      rename_i K0 hK0
      refine region_any (D := [.load, .row [sClass], .toks [sClass] 0 1, .load, .list 86 nam 1 3, .load, .list 87 sup 2 5, .load, .row [sBrO], .toks [sBrO] 7 8, .load, .list 88 flds 9000 10, .load, .list 89 mths 9000 12, .load, .row [sBrC], .toks [sBrC] 14 15, .bund [2, 4, 6, 9, 11, 13, 16], .node 4 17, .store 18]) (base := 18) (nt := 37) (Dp := 0) (z1 := w.heap.size) (z2 := w.heap.size + 1) (by omega) (Nat.le_of_ble_eq_true rfl) hd (Nat.zero_le _)
        ⟨⟨rfl, ⟨rfl, rfl⟩, by kernel_rfl, by kernel_rfl, by kernel_rfl, trivial, trivial⟩, ⟨rfl, ⟨⟨_, rfl, rfl⟩, by decide, rfl⟩, by kernel_rfl, by kernel_rfl, by kernel_rfl, (by show _ ≤ 9; decide), trivial⟩, ⟨rfl, ⟨⟨_, rfl⟩, rfl⟩, by kernel_rfl, by kernel_rfl, by kernel_rfl, ⟨rfl, rfl, by decide⟩, trivial⟩, ⟨rfl, ⟨rfl, rfl⟩, by kernel_rfl, by kernel_rfl, by kernel_rfl, trivial, trivial⟩, ⟨rfl, ⟨⟨_, rfl⟩, rfl⟩, by kernel_rfl, by kernel_rfl, by kernel_rfl, rfl, (con_name 3)⟩, ⟨rfl, ⟨rfl, rfl⟩, by kernel_rfl, by kernel_rfl, by kernel_rfl, trivial, trivial⟩, ⟨rfl, ⟨⟨_, rfl⟩, rfl⟩, by kernel_rfl, by kernel_rfl, by kernel_rfl, rfl, (con_super 5)⟩, ⟨rfl, ⟨rfl, rfl⟩, by kernel_rfl, by kernel_rfl, by kernel_rfl, trivial, trivial⟩, ⟨rfl, ⟨⟨_, rfl, rfl⟩, by decide, rfl⟩, by kernel_rfl, by kernel_rfl, by kernel_rfl, (by show _ ≤ 9; decide), trivial⟩, ⟨rfl, ⟨⟨_, rfl⟩, rfl⟩, by kernel_rfl, by kernel_rfl, by kernel_rfl, ⟨rfl, rfl, by decide⟩, trivial⟩, ⟨rfl, ⟨rfl, rfl⟩, by kernel_rfl, by kernel_rfl, by kernel_rfl, trivial, trivial⟩, ⟨rfl, ⟨⟨_, rfl⟩, rfl⟩, by kernel_rfl, by kernel_rfl, by kernel_rfl, rfl, (con_fields 10)⟩, ⟨rfl, ⟨rfl, rfl⟩, by kernel_rfl, by kernel_rfl, by kernel_rfl, trivial, trivial⟩, ⟨rfl, ⟨⟨_, rfl⟩, rfl⟩, by kernel_rfl, by kernel_rfl, by kernel_rfl, rfl, (con_methods 12)⟩, ⟨rfl, ⟨rfl, rfl⟩, by kernel_rfl, by kernel_rfl, by kernel_rfl, trivial, trivial⟩, ⟨rfl, ⟨⟨_, rfl, rfl⟩, by decide, rfl⟩, by kernel_rfl, by kernel_rfl, by kernel_rfl, (by show _ ≤ 9; decide), trivial⟩, ⟨rfl, ⟨⟨_, rfl⟩, rfl⟩, by kernel_rfl, by kernel_rfl, by kernel_rfl, ⟨rfl, rfl, by decide⟩, trivial⟩, ⟨rfl, ⟨⟨_, rfl, rfl⟩, by decide, rfl⟩, by kernel_rfl, by kernel_rfl, by kernel_rfl, ⟨by decide, by kernel_rfl, Nat.le_of_ble_eq_true (by kernel_rfl)⟩, trivial⟩, ⟨rfl, ⟨⟨_, rfl⟩, rfl⟩, by kernel_rfl, by kernel_rfl, by kernel_rfl, ⟨_, rfl⟩, trivial⟩, ⟨rfl, ⟨rfl, rfl⟩, by kernel_rfl, by kernel_rfl, by kernel_rfl, ⟨_, _, rfl⟩, trivial⟩, trivial⟩ (Nat.succ_pos _) rfl rfl rfl E4.out (by simp) (by simp) (by simp) ?_
      intro a' W' T zs' x g1 g2 g3 g4 g5 ek hp
      have g5 : some (Kd.store 18) = some (Kd.store x) := g5
      injection g5 with g5
      injection g5 with g5
      subst g5
      have hp := hp.trans (ocl_nv C nam sup flds mths)
      injection hp with hp
      have hp : pl T = (ocl C).2 := hp
      have hc := ocl_cu C nam sup flds mths
      have ek : EK b A c no (· = b) w (cuA [.load, .row [sClass], .toks [sClass] 0 1, .load, .list 86 nam 1 3, .load, .list 87 sup 2 5, .load, .row [sBrO], .toks [sBrO] 7 8, .load, .list 88 flds 9000 10, .load, .list 89 mths 9000 12, .load, .row [sBrC], .toks [sBrC] 14 15, .bund [2, 4, 6, 9, 11, 13, 16], .node 4 17, .store 18] C 20) [(w.heap.size + 1, .cells (ncc T) 30 (0, 0))] zs' [T] W' := ek
      rw [hc] at ek
      clear hc
      have hs := ek.box (z := w.heap.size + 1) (o := .cells (ncc T) 30 (0, 0)) (by simp)
      have HV := Lib.hid (ek.fin (r := ocl C) (T := T) (by simp) rfl hp)
      clear ek hp
      show K0 a' W'
      refine hK0 _ _ ?_
      go_wp2
      refine bodyPost_ret (v := nv T) (results_cell rfl g4 hs) g1 HV.out
    | true =>
      cases h3 : C.isb 4 sStat with
      | false =>
        have HT : cls C = ocl C := by unfold cls mnb; simp [h1, h2, h3]
        rw [HT]
        go_enter Tryz.func64, Tryz.ntmps64
        have p0 := cell_heap (E2.out.box (z := w.heap.size) (o := sdb b) (by simp)) (i := 0)
        simp only [List.getElem?_toArray, List.getElem?_cons_zero] at p0
        have HC := Lib.hid (E2.out.isq 2 sBrO ⟨by omega, by omega⟩)
        rw [h1] at HC
        go_wp2_with fail
        refine HC.out.mono ?_
        rintro e v1 ⟨rfl, ek_⟩
        have E3 := Lib.hid ek_
        clear ek_ HC E2 p0
        have p0 := cell_heap (E3.out.box (z := w.heap.size) (o := sdb b) (by simp)) (i := 0)
        simp only [List.getElem?_toArray, List.getElem?_cons_zero] at p0
        have HC := Lib.hid (E3.out.isq 3 sPub ⟨by omega, by omega⟩)
        rw [h2] at HC
        go_wp2_with fail
        refine HC.out.mono ?_
        rintro e v2 ⟨rfl, ek_⟩
        have E4 := Lib.hid ek_
        clear ek_ HC E3 p0
        have p0 := cell_heap (E4.out.box (z := w.heap.size) (o := sdb b) (by simp)) (i := 0)
        simp only [List.getElem?_toArray, List.getElem?_cons_zero] at p0
        have HC := Lib.hid (E4.out.isq 4 sStat ⟨by omega, by omega⟩)
        rw [h3] at HC
        go_wp2_with fail
        refine HC.out.mono ?_
        rintro e v3 ⟨rfl, ek_⟩
        have E5 := Lib.hid ek_
        clear ek_ HC E4 p0
        clear HT h1 h2 h3
        go_wp2
        rename_i K0 hK0
        refine region_any (D := [.load, .row [sClass], .toks [sClass] 0 1, .load, .list 86 nam 1 3, .load, .list 87 sup 2 5, .load, .row [sBrO], .toks [sBrO] 7 8, .load, .list 88 flds 9000 10, .load, .list 89 mths 9000 12, .load, .row [sBrC], .toks [sBrC] 14 15, .bund [2, 4, 6, 9, 11, 13, 16], .node 4 17, .store 18]) (base := 18) (nt := 37) (Dp := 0) (z1 := w.heap.size) (z2 := w.heap.size + 1) (by omega) (Nat.le_of_ble_eq_true rfl) hd (Nat.zero_le _)
          ⟨⟨rfl, ⟨rfl, rfl⟩, by kernel_rfl, by kernel_rfl, by kernel_rfl, trivial, trivial⟩, ⟨rfl, ⟨⟨_, rfl, rfl⟩, by decide, rfl⟩, by kernel_rfl, by kernel_rfl, by kernel_rfl, (by show _ ≤ 9; decide), trivial⟩, ⟨rfl, ⟨⟨_, rfl⟩, rfl⟩, by kernel_rfl, by kernel_rfl, by kernel_rfl, ⟨rfl, rfl, by decide⟩, trivial⟩, ⟨rfl, ⟨rfl, rfl⟩, by kernel_rfl, by kernel_rfl, by kernel_rfl, trivial, trivial⟩, ⟨rfl, ⟨⟨_, rfl⟩, rfl⟩, by kernel_rfl, by kernel_rfl, by kernel_rfl, rfl, (con_name 3)⟩, ⟨rfl, ⟨rfl, rfl⟩, by kernel_rfl, by kernel_rfl, by kernel_rfl, trivial, trivial⟩, ⟨rfl, ⟨⟨_, rfl⟩, rfl⟩, by kernel_rfl, by kernel_rfl, by kernel_rfl, rfl, (con_super 5)⟩, ⟨rfl, ⟨rfl, rfl⟩, by kernel_rfl, by kernel_rfl, by kernel_rfl, trivial, trivial⟩, ⟨rfl, ⟨⟨_, rfl, rfl⟩, by decide, rfl⟩, by kernel_rfl, by kernel_rfl, by kernel_rfl, (by show _ ≤ 9; decide), trivial⟩, ⟨rfl, ⟨⟨_, rfl⟩, rfl⟩, by kernel_rfl, by kernel_rfl, by kernel_rfl, ⟨rfl, rfl, by decide⟩, trivial⟩, ⟨rfl, ⟨rfl, rfl⟩, by kernel_rfl, by kernel_rfl, by kernel_rfl, trivial, trivial⟩, ⟨rfl, ⟨⟨_, rfl⟩, rfl⟩, by kernel_rfl, by kernel_rfl, by kernel_rfl, rfl, (con_fields 10)⟩, ⟨rfl, ⟨rfl, rfl⟩, by kernel_rfl, by kernel_rfl, by kernel_rfl, trivial, trivial⟩, ⟨rfl, ⟨⟨_, rfl⟩, rfl⟩, by kernel_rfl, by kernel_rfl, by kernel_rfl, rfl, (con_methods 12)⟩, ⟨rfl, ⟨rfl, rfl⟩, by kernel_rfl, by kernel_rfl, by kernel_rfl, trivial, trivial⟩, ⟨rfl, ⟨⟨_, rfl, rfl⟩, by decide, rfl⟩, by kernel_rfl, by kernel_rfl, by kernel_rfl, (by show _ ≤ 9; decide), trivial⟩, ⟨rfl, ⟨⟨_, rfl⟩, rfl⟩, by kernel_rfl, by kernel_rfl, by kernel_rfl, ⟨rfl, rfl, by decide⟩, trivial⟩, ⟨rfl, ⟨⟨_, rfl, rfl⟩, by decide, rfl⟩, by kernel_rfl, by kernel_rfl, by kernel_rfl, ⟨by decide, by kernel_rfl, Nat.le_of_ble_eq_true (by kernel_rfl)⟩, trivial⟩, ⟨rfl, ⟨⟨_, rfl⟩, rfl⟩, by kernel_rfl, by kernel_rfl, by kernel_rfl, ⟨_, rfl⟩, trivial⟩, ⟨rfl, ⟨rfl, rfl⟩, by kernel_rfl, by kernel_rfl, by kernel_rfl, ⟨_, _, rfl⟩, trivial⟩, trivial⟩ (Nat.succ_pos _) rfl rfl rfl E5.out (by simp) (by simp) (by simp) ?_
        intro a' W' T zs' x g1 g2 g3 g4 g5 ek hp
        have g5 : some (Kd.store 18) = some (Kd.store x) := g5
        injection g5 with g5
        injection g5 with g5
        subst g5
        have hp := hp.trans (ocl_nv C nam sup flds mths)
        injection hp with hp
        have hp : pl T = (ocl C).2 := hp
        have hc := ocl_cu C nam sup flds mths
        have ek : EK b A c no (· = b) w (cuA [.load, .row [sClass], .toks [sClass] 0 1, .load, .list 86 nam 1 3, .load, .list 87 sup 2 5, .load, .row [sBrO], .toks [sBrO] 7 8, .load, .list 88 flds 9000 10, .load, .list 89 mths 9000 12, .load, .row [sBrC], .toks [sBrC] 14 15, .bund [2, 4, 6, 9, 11, 13, 16], .node 4 17, .store 18] C 20) [(w.heap.size + 1, .cells (ncc T) 30 (0, 0))] zs' [T] W' := ek
        rw [hc] at ek
        clear hc
        have hs := ek.box (z := w.heap.size + 1) (o := .cells (ncc T) 30 (0, 0)) (by simp)
        have HV := Lib.hid (ek.fin (r := ocl C) (T := T) (by simp) rfl hp)
        clear ek hp
        show K0 a' W'
        refine hK0 _ _ ?_
        go_wp2
        refine bodyPost_ret (v := nv T) (results_cell rfl g4 hs) g1 HV.out
      | true =>
        have HT : cls C = mcl C := by unfold cls mnb; simp [h1, h2, h3]
        rw [HT]
        generalize mcl C = RM at HGM HMA
        go_enter Tryz.func64, Tryz.ntmps64
        have p0 := cell_heap (E2.out.box (z := w.heap.size) (o := sdb b) (by simp)) (i := 0)
        simp only [List.getElem?_toArray, List.getElem?_cons_zero] at p0
        have HC := Lib.hid (E2.out.isq 2 sBrO ⟨by omega, by omega⟩)
        rw [h1] at HC
        go_wp2_with fail
        refine HC.out.mono ?_
        rintro e v1 ⟨rfl, ek_⟩
        have E3 := Lib.hid ek_
        clear ek_ HC E2 p0
        have p0 := cell_heap (E3.out.box (z := w.heap.size) (o := sdb b) (by simp)) (i := 0)
        simp only [List.getElem?_toArray, List.getElem?_cons_zero] at p0
        have HC := Lib.hid (E3.out.isq 3 sPub ⟨by omega, by omega⟩)
        rw [h2] at HC
        go_wp2_with fail
        refine HC.out.mono ?_
        rintro e v2 ⟨rfl, ek_⟩
        have E4 := Lib.hid ek_
        clear ek_ HC E3 p0
        have p0 := cell_heap (E4.out.box (z := w.heap.size) (o := sdb b) (by simp)) (i := 0)
        simp only [List.getElem?_toArray, List.getElem?_cons_zero] at p0
        have HC := Lib.hid (E4.out.isq 4 sStat ⟨by omega, by omega⟩)
        rw [h3] at HC
        go_wp2_with fail
        refine HC.out.mono ?_
        rintro e v3 ⟨rfl, ek_⟩
        have E5 := Lib.hid ek_
        clear ek_ HC E4 p0
        have p0 := cell_heap (E5.out.box (z := w.heap.size) (o := sdb b) (by simp)) (i := 0)
        simp only [List.getElem?_toArray, List.getElem?_cons_zero] at p0
        clear HT h1 h2 h3
        have HC := Lib.hid (HMA.out _ E5.out.cu)
        go_wp2_with fail
        refine HC.out.mono ?_
        rintro e w6 ⟨T, rfl, hp, hT, hm, ho⟩
        have ek6 := E5.out.got hT hm ⟨HGM.out.ok, HGM.out.L⟩ ho
        have hz := ek6.box (z := w.heap.size + 1) (o := zb5) (by simp)
        have hfin := ek6.result (r := RM) (T := T) (z := w.heap.size + 1) (by simp) (by simp) hz rfl hp
        clear ek6 hT hm ho HC E5 p0 hp HMA
        go_wp2_with (with_reducible refine stay_store 30 (.tmp 2) (.tmp 17) (by rfl) ?_)
        refine Stay.mk ?_
        refine wpList_store_node (by rfl) 30 (.tmp 2) (.tmp 17) (by rfl) size_tnode (w.heap.size + 1) T (by rfl) (by rfl) hz ?_
        generalize set5 w6 (w.heap.size + 1) T = w9 at hfin ⊢
        clear hz
        obtain ⟨hs, hv⟩ := hfin
        have HV := Lib.hid hv
        clear hv
        go_wp2
        have g0 := cell_heap hs (i := 0)
        have g1 := cell_heap hs (i := 1)
        have g2 := cell_heap hs (i := 2)
        have g3 := cell_heap hs (i := 3)
        have g4 := cell_heap hs (i := 4)
        simp only [List.getElem?_toArray, List.getElem?_cons_zero, List.getElem?_cons_succ] at g0 g1 g2 g3 g4
        refine bodyPost_ret (v := nv T) (by simp [results, Tryz.results64, go_sem, g0, g1, g2, g3, g4]) rfl HV.out
set_option maxRecDepth 100000 in
set_option maxHeartbeats 8000000 in
theorem clz_any {w : World} {C : Cu} (h : CuM b A c C w) (hk : C.Ok) (hd : C.d ≤ 200) : Calls Tryz.prog 40 #[.pointer (some ⟨b, 0, none⟩)] w (TrV b A c (clz C) w) := by
  have ek2 := ((EK.begin h hk).alloc zb5).alloc (sdb b)
  rw [World.size_alloc] at ek2
  have HE := Lib.hid (class_any _ C ek2.cu hk hd (Nat.zero_le _))
  have hG := Got.cls C hk hd (Nat.zero_le _)
  have HG := Lib.hid hG
  have E2 := Lib.hid ek2
  clear ek2 hG h hk hd
  generalize hres : clz C = res
  have HRES := Lib.hid hres
  clear hres
  go_enter Tryz.func40, Tryz.ntmps40
  go_wp2_with fail
  refine HE.out.mono ?_
  rintro e w3 ⟨T, rfl, hp, hT, hm, ho⟩
  have ek3 := E2.out.got hT hm ⟨HG.out.ok, HG.out.L⟩ ho
  have ek4 := ek3.local_ T
  have hz3 := heap_alloc_new w3 zb5
  have hwx : w.heap.size + 1 < w3.heap.size := ek3.lt (z := w.heap.size + 1) (o := sdb b) (by simp)
  clear ek3 hT hm ho HE E2
  go_wp2_with (with_reducible refine stay_store 30 (.tmp 4) (.tmp 10) (by rfl) ?_)
  refine Stay.mk ?_
  refine wpList_store_node (by rfl) 30 (.tmp 4) (.tmp 10) (by rfl) size_tnode (w3.heap.size) T (by rfl) (by rfl) hz3 ?_
  generalize set5 (w3.alloc zb5) w3.heap.size T = w4 at ek4 ⊢
  generalize w3.heap.size = x at ek4 hwx ⊢
  clear hz3 w3
  have HF := Lib.hid (failed_any ek4.cu)
  have p0 := cell_heap (ek4.box (z := w.heap.size + 1) (o := sdb b) (by simp)) (i := 0)
  simp only [List.getElem?_toArray, List.getElem?_cons_zero] at p0
  unfold Rd Cu.fl at HF
  have E4 := Lib.hid ek4
  clear ek4
  by_cases hf : (cls C).1.f = 0
  · rw [if_pos hf] at HF
    have hr : ((cls C).1, (cls C).2) = res := by rw [← HRES.out]; unfold clz unt; rw [if_pos hf]
    have HR := Lib.hid hr
    clear hf hr
    go_wp2_with fail
    refine HF.out.mono ?_
    rintro e w5 ⟨rfl, hb5⟩
    have ek5 := E4.out.below hb5
    obtain ⟨t0, t1, t2, t3, t4⟩ := heap5 (ek5.box (z := x) (o := .cells (ncc T) 30 (0, 0)) (by simp))
    have hz := ek5.box (z := w.heap.size) (o := zb5) (by simp)
    have hfin := ek5.result (r := res) (T := T) (z := w.heap.size) (by simp) (by simp) hz (by rw [← HR.out]) (by rw [← HR.out, hp])
    clear ek5 hb5 hp p0 HF E4
    go_wp2_with (with_reducible refine stay_store 30 (.tmp 2) (.tmp 20) (by rfl) ?_)
    refine Stay.mk ?_
    refine wpList_store_node (by rfl) 30 (.tmp 2) (.tmp 20) (by rfl) size_tnode (w.heap.size) T (by rfl) (by rfl) hz ?_
    generalize set5 w5 w.heap.size T = w9 at hfin ⊢
    clear hz t0 t1 t2 t3 t4
    obtain ⟨hs, hv⟩ := hfin
    have HV := Lib.hid hv
    clear hv
    go_wp2
    have g0 := cell_heap hs (i := 0)
    have g1 := cell_heap hs (i := 1)
    have g2 := cell_heap hs (i := 2)
    have g3 := cell_heap hs (i := 3)
    have g4 := cell_heap hs (i := 4)
    simp only [List.getElem?_toArray, List.getElem?_cons_zero, List.getElem?_cons_succ] at g0 g1 g2 g3 g4
    refine bodyPost_ret (v := nv T) (by simp [results, Tryz.results40, go_sem, g0, g1, g2, g3, g4]) rfl HV.out
  · rw [if_neg hf] at HF
    have hr : ((cls C).1, zn1) = res := by rw [← HRES.out]; unfold clz unt; rw [if_neg hf]
    have HR := Lib.hid hr
    clear hf hr
    go_wp2_with fail
    refine HF.out.mono ?_
    rintro e w5 ⟨rfl, hb5⟩
    have ek5 := (E4.out.below hb5).leaf (T := zn1) rfl ⟨by show (-9223372036854775808 : Int) ≤ 0; omega, by show (0 : Int) ≤ 9223372036854775807; omega⟩
    have hz := ek5.box (z := w.heap.size) (o := zb5) (by simp)
    have hfin := ek5.result (r := res) (T := zn1) (z := w.heap.size) (by simp) (by simp) hz (by rw [← HR.out]) (by rw [← HR.out]; exact pl_leaf)
    clear ek5 hb5 hp p0 HF E4
    go_wp2_with (with_reducible refine stay_store 30 (.tmp 2) (.tmp 19) (by rfl) ?_)
    refine Stay.mk ?_
    refine wpList_store_node (by rfl) 30 (.tmp 2) (.tmp 19) (by rfl) size_tnode (w.heap.size) zn1 (by rfl) (by rfl) hz ?_
    generalize set5 w5 w.heap.size zn1 = w9 at hfin ⊢
    clear hz
    obtain ⟨hs, hv⟩ := hfin
    have HV := Lib.hid hv
    clear hv
    go_wp2
    have g0 := cell_heap hs (i := 0)
    have g1 := cell_heap hs (i := 1)
    have g2 := cell_heap hs (i := 2)
    have g3 := cell_heap hs (i := 3)
    have g4 := cell_heap hs (i := 4)
    simp only [List.getElem?_toArray, List.getElem?_cons_zero, List.getElem?_cons_succ] at g0 g1 g2 g3 g4
    refine bodyPost_ret (v := nv zn1) (by simp [results, Tryz.results40, go_sem, g0, g1, g2, g3, g4]) rfl HV.out
end
end Dc
end Go.Proofs.YtfmlcddakfbleaaGreatDoor

namespace Go.Proofs.YtfmlcddakfbleaaGreatDoor
open Go.RowKit SignMath TreeMath

/-- a file's tree, and what stands behind, as a value, and in a box -/
abbrev pvl (T : Tr) (tl : ByteArray) : Value := .agg #[.int .i64 T.k, .string T.g, .string T.t, .int .i64 T.a, .slice T.A T.kids.length T.c, .string tl]
abbrev pcc (T : Tr) (tl : ByteArray) : Array Value := #[.int .i64 T.k, .string T.g, .string T.t, .int .i64 T.a, .slice T.A T.kids.length T.c, .string tl]
abbrev pbx (T : Tr) (tl : ByteArray) : Obj := .cells (pcc T tl) 47 (0, 0)
abbrev zb6 : Obj := .cells #[.int .i64 0, .string ⟨#[]⟩, .string ⟨#[]⟩, .int .i64 0, .slice none 0 0, .string ⟨#[]⟩] 47 (0, 0)
abbrev set6p (W : World) (b : Nat) (T : Tr) (tl : ByteArray) : World := (((((W.setCell ⟨b, 0, none⟩ (.int .i64 T.k)).setCell ⟨b, 1, none⟩ (.string T.g)).setCell ⟨b, 2, none⟩ (.string T.t)).setCell ⟨b, 3, none⟩ (.int .i64 T.a)).setCell ⟨b, 4, none⟩ (.slice T.A T.kids.length T.c)).setCell ⟨b, 5, none⟩ (.string tl)
section
variable {W : World} {b k : Nat}
theorem set6p_size (T : Tr) (tl : ByteArray) : (set6p W b T tl).heap.size = W.heap.size := by simp [World.setCell]
theorem set6p_self {t : TypeId} {u0 u1 u2 u3 u4 u5 : Value} (h : W.heap[b]? = some (.cells #[u0, u1, u2, u3, u4, u5] t (0, 0))) (T : Tr) (tl : ByteArray) : (set6p W b T tl).heap[b]? = some (.cells (pcc T tl) t (0, 0)) := by
  have := heap_set (heap_set (heap_set (heap_set (heap_set (heap_set h (i := 0) (.int .i64 T.k)) (i := 1) (.string T.g)) (i := 2) (.string T.t)) (i := 3) (.int .i64 T.a)) (i := 4) (.slice T.A T.kids.length T.c)) (i := 5) (.string tl)
  simpa using this
theorem set6p_other (h : k ≠ b) (T : Tr) (tl : ByteArray) : (set6p W b T tl).heap[k]? = W.heap[k]? := by
  rw [set6p, Below.heap_setCell _ _ _ _ h, Below.heap_setCell _ _ _ _ h, Below.heap_setCell _ _ _ _ h, Below.heap_setCell _ _ _ _ h, Below.heap_setCell _ _ _ _ h, Below.heap_setCell _ _ _ _ h]
theorem below_set6p {B : Nat} {w : World} (h : Below B w W) (hb : B ≤ b) (T : Tr) (tl : ByteArray) : Below B w (set6p W b T tl) :=
  (((((h.setCell (p := ⟨b, 0, none⟩) hb _).setCell (p := ⟨b, 1, none⟩) hb _).setCell (p := ⟨b, 2, none⟩) hb _).setCell (p := ⟨b, 3, none⟩) hb _).setCell (p := ⟨b, 4, none⟩) hb _).setCell (p := ⟨b, 5, none⟩) hb _
end
set_option maxRecDepth 100000 in
theorem size_parsed : ∀ w : World, (sizeOf 47).run Tryz.prog w = .ok 6 w := fun _ => rfl
theorem wp_store_parsed {o : Oper} {a : Act} {w : World} {K : Act → World → Prop} {Q : Exit → Act → World → Prop} (t : TypeId) (x y : Operand) (ho : o.op = .store t x y) (hsz : ∀ w : World, (sizeOf t).run Tryz.prog w = .ok 6 w) (b : Nat) (T : Tr) (tl : ByteArray) (u0 u1 u2 u3 u4 u5 : Value) (t' : TypeId)
    (hx : a.eval x = .pointer (some ⟨b, 0, none⟩)) (hy : a.eval y = pvl T tl) (hc : w.heap[b]? = some (.cells #[u0, u1, u2, u3, u4, u5] t' (0, 0))) (hK : K (a.put o.dst undef) (set6p w b T tl)) : o.wp Tryz.prog a w K Q := by
  have h1 := heap_set hc (i := 0) (.int .i64 T.k)
  have h2 := heap_set h1 (i := 1) (.string T.g)
  have h3 := heap_set h2 (i := 2) (.string T.t)
  have h4 := heap_set h3 (i := 3) (.int .i64 T.a)
  have h5 := heap_set h4 (i := 4) (.slice T.A T.kids.length T.c)
  have c0 := cell_heap hc (i := 0)
  have c1 := cell_heap h1 (i := 1)
  have c2 := cell_heap h2 (i := 2)
  have c3 := cell_heap h3 (i := 3)
  have c4 := cell_heap h4 (i := 4)
  have c5 := cell_heap h5 (i := 5)
  have f0 := frozen_heap hc (i := 0)
  have f1 := frozen_heap h1 (i := 1)
  have f2 := frozen_heap h2 (i := 2)
  have f3 := frozen_heap h3 (i := 3)
  have f4 := frozen_heap h4 (i := 4)
  have f5 := frozen_heap h5 (i := 5)
  simp only [List.setIfInBounds_toArray, List.set_cons_zero, List.set_cons_succ, List.getElem?_toArray, List.getElem?_cons_zero, List.getElem?_cons_succ] at c0 c1 c2 c3 c4 c5
  unfold Oper.wp
  simp only [execOp, ho, hx, hy]
  simp [go_sem, hsz, c0, c1, c2, c3, c4, c5, f0, f1, f2, f3, f4, f5]
  exact hK
theorem wpList_store_parsed {ops : Array Oper} {rest : List Oper} {o : Oper} {a : Act} {w : World} {Q : Exit → Act → World → Prop} (hg : o.guard = none) (t : TypeId) (x y : Operand) (ho : o.op = .store t x y) (hsz : ∀ w : World, (sizeOf t).run Tryz.prog w = .ok 6 w) (b : Nat) (T : Tr) (tl : ByteArray) {u0 u1 u2 u3 u4 u5 : Value} {t' : TypeId}
    (hx : a.eval x = .pointer (some ⟨b, 0, none⟩)) (hy : a.eval y = pvl T tl) (hc : w.heap[b]? = some (.cells #[u0, u1, u2, u3, u4, u5] t' (0, 0))) (h : wpList Tryz.prog ops Q rest (a.put o.dst undef) (set6p w b T tl)) : wpList Tryz.prog ops Q (o :: rest) a w :=
  wpList_plain hg fun _ hK => wp_store_parsed t x y ho hsz b T tl u0 u1 u2 u3 u4 u5 t' hx hy hc (hK _ _ h)
theorem heap6p {W : World} {b : Nat} {T : Tr} {tl : ByteArray} {t : TypeId} (h : W.heap[b]? = some (.cells (pcc T tl) t (0, 0))) : W.cell? ⟨b, 0, none⟩ = some (.int .i64 T.k) ∧ W.cell? ⟨b, 1, none⟩ = some (.string T.g) ∧ W.cell? ⟨b, 2, none⟩ = some (.string T.t) ∧ W.cell? ⟨b, 3, none⟩ = some (.int .i64 T.a) ∧ W.cell? ⟨b, 4, none⟩ = some (.slice T.A T.kids.length T.c) ∧ W.cell? ⟨b, 5, none⟩ = some (.string tl) :=
  ⟨cell_heap h, cell_heap h, cell_heap h, cell_heap h, cell_heap h, cell_heap h⟩
/-- a row of the call's own, as the kids of a node -/
theorem EK.bndl {b : Nat} {A : Option Addr} {c : Nat} {S X : Nat → Prop} {w W : World} {C : Cu} {bs : List (Nat × Obj)} {zs : List Nat} {ts m : List Tr} {Al : Option Addr} {cl : Nat} (h : EK b A c S X w C bs zs ts W) (hrow : RowN W (.slice Al m.length cl) m) (hown : ∀ k, (Value.slice Al m.length cl).ownBlock = some k → k ∈ zs) (hm : ∀ x ∈ m, x ∈ ts) : EK b A c S X w C bs [] (bnd Al cl m :: ts) W := by
  have h2 := h.lessz (zs' := []) (by simp)
  refine ⟨h2.cu, h2.ok, h2.off, h2.rl, h2.bX, h2.hX, h2.hS, h2.has, h2.zn, fun T hT => ?_⟩
  rcases List.mem_cons.1 hT with rfl | hT
  · exact tn_iff.2 ⟨rng0, hrow.tks.keep (fun _ _ _ => rfl) fun k hk => ⟨.inr ⟨(h.zn k (hown k hk)).1, hrow.lt k hk⟩, by simp⟩, fun x hx => h2.tn x (hm x hx)⟩
  · exact h2.tn T hT
end Go.Proofs.YtfmlcddakfbleaaGreatDoor

namespace Go.Proofs.YtfmlcddakfbleaaGreatDoor
namespace Dc
open Go.RowKit SignMath TreeMath

theorem lst_done {bg : Cu → Bool} {f : Cu → Cu × Tr} (hf : GX f 0) (hl : ∀ C : Cu, C.Ok → C.d ≤ 200 → bg C = true → (f C).1.left < C.left) (h0 : ∀ C : Cu, bg C = true → 0 < C.left) : ∀ (q : Nat) (x : Cu × List Tr), x.1.Ok → x.1.d ≤ 200 → x.1.left ≤ q → bg (lst bg f q x).1 = false
  | 0, x, _, _, hq => by
    show bg x.1 = false
    cases hb : bg x.1 with
    | false => rfl
    | true => have := h0 _ hb; omega
  | q + 1, x, hk, h2, hq => by
    unfold lst
    split
    · rename_i hb
      have g := hf x.1 hk h2 (Nat.zero_le _)
      have := hl x.1 hk h2 hb
      exact lst_done hf hl h0 q _ g.ok (by rw [g.d]; exact h2) (by show (f x.1).1.left ≤ q; omega)
    · rename_i hb
      simpa using hb
theorem cbg_left {C : Cu} (h : cbg C = true) : 0 < C.left := of_decide_eq_true h
theorem fil_left {C : Cu} (hk : C.Ok) (h2 : C.d ≤ 200) : (fil C).1.left = 0 := by
  have h : cbg (fil C).1 = false := lst_done Got.clz (fun C hk h2 h => clz_left hk h2 h) (fun _ => cbg_left) C.left (C, []) hk h2 (Nat.le_refl _)
  have := of_decide_eq_false h
  omega
/-- can the whole text be read? its tree; what stands behind -/
def fok (s : ByteArray) : Bool := decide (s.size ≤ 4000) && (bad (tk (bs s) 0)).isNone && decide ((fil (cu0 s)).1.f = 0)
def ftr (s : ByteArray) : Tr := nod 2 (fil (cu0 s)).2
def ftl (s : ByteArray) : ByteArray := (fil (cu0 s)).1.en
theorem fok_facts {s : ByteArray} (h : fok s = true) : s.size ≤ 4000 ∧ rgt (ftr s) = true ∧ TreeMath.lf (ftr s) = lvl s 0 (cu0 s).L ∧ wt (ftr s) ≤ 9000 ∧ tx (TreeMath.lf (ftr s)) ++ ftl s = s := by
  unfold fok at h
  simp only [Bool.and_eq_true, decide_eq_true_eq] at h
  obtain ⟨⟨hs, hb⟩, hf⟩ := h
  have hk := cu0_ok s hs
  exact ⟨hs, got_facts hs (Got.fil (cu0 s) hk (Nat.zero_le _) (Nat.zero_le _)) hf (fil_left hk (Nat.zero_le _)) ⟨by omega, by omega⟩⟩
/-- what Read answers -/
def FrdV (ok : Bool) (P : Tr) (tl : ByteArray) (w : World) (e : Ending) (w' : World) : Prop :=
  Below w.heap.size w w' ∧ match ok with
    | true => ∃ T, e = .returned (.tuple #[pvl T tl, .int .i64 0, .nilIface]) ∧ pl T = P ∧ Tn (nw w.heap.size w') w' T
    | false => ∃ (p k : Int), e = .returned (.tuple #[pvl zn1 ⟨#[]⟩, .int .i64 p, errn k])
theorem FrdV.good {P : Tr} {tl : ByteArray} {w w' : World} {e : Ending} (hB : Below w.heap.size w w') (T : Tr) (he : e = .returned (.tuple #[pvl T tl, .int .i64 0, .nilIface])) (hp : pl T = P) (hT : Tn (nw w.heap.size w') w' T) : FrdV true P tl w e w' := ⟨hB, T, he, hp, hT⟩
theorem FrdV.err {P : Tr} {tl : ByteArray} {w w' : World} {e : Ending} (hB : Below w.heap.size w w') (p k : Int) (he : e = .returned (.tuple #[pvl zn1 ⟨#[]⟩, .int .i64 p, errn k])) : FrdV false P tl w e w' := ⟨hB, p, k, he⟩
/-- ahead of each class -/
structure FlI (b : Nat) (A : Option Addr) (c z : Nat) (w : World) (C : Cu) (res : Cu × List Tr) (q : Nat) (C' : Cu) (m : List Tr) (n : Nat) (Al : Option Addr) (cl : Nat) (zs : List Nat) (W : World) : Prop where
  ek : EK b A c no (· = b) w C' [(z, zb6)] zs m W
  row : RowN W (.slice Al n cl) m
  own : ∀ k, (Value.slice Al n cl).ownBlock = some k → k ∈ zs
  ne : ∀ k ∈ [(z, zb6)], (Value.slice Al n cl).ownBlock ≠ some k.1
  hn : m.length = n
  lf : C'.left ≤ q
  res : lst cbg clz q (C', m.map pl) = res
  len : n + C'.left ≤ 4000
  d : C'.d = C.d
set_option maxRecDepth 100000 in
set_option maxHeartbeats 8000000 in
theorem fread_bad (s : ByteArray) (w : World) (hN : Calls Tryz.prog 22 #[.string s] (w.alloc zb6) fun e w' => ∃ a n : Int, e = .returned (.tuple #[.pointer none, .int .i64 a, errn n]) ∧ Below (w.alloc zb6).heap.size (w.alloc zb6) w') (P : Tr) (tl : ByteArray) :
    Calls Tryz.prog 18 #[.string s] w (FrdV false P tl w) := by
  have HN := Lib.hid hN
  clear hN
  go_enter Tryz.func18, Tryz.ntmps18
  go_wp2_with fail
  refine HN.out.mono ?_
  rintro e w2 ⟨a, n, rfl, hb2⟩
  have hz := (hb2.block w.heap.size (by simp)).trans (heap_alloc_new w zb6)
  have hB := below_set6p ((below1 w zb6).trans (hb2.mono (by simp))) (Nat.le_refl _) zn1 ⟨#[]⟩
  have hs := set6p_self hz zn1 ⟨#[]⟩
  have HB := Lib.hid hB
  clear hb2 hB HN
  unfold errn
  go_wp2_with (with_reducible refine stay_store 47 (.tmp 2) (.tmp 19) (by rfl) ?_)
  refine Stay.mk ?_
  refine wpList_store_parsed (by rfl) 47 (.tmp 2) (.tmp 19) (by rfl) size_parsed (w.heap.size) zn1 ⟨#[]⟩ (by rfl) (by rfl) hz ?_
  generalize set6p w2 w.heap.size zn1 ⟨#[]⟩ = w9 at hs HB ⊢
  clear hz
  go_wp2
  have g0 := cell_heap hs (i := 0)
  have g1 := cell_heap hs (i := 1)
  have g2 := cell_heap hs (i := 2)
  have g3 := cell_heap hs (i := 3)
  have g4 := cell_heap hs (i := 4)
  have g5 := cell_heap hs (i := 5)
  simp only [List.getElem?_toArray, List.getElem?_cons_zero, List.getElem?_cons_succ] at g0 g1 g2 g3 g4 g5
  refine bodyPost_ret (v := .tuple #[pvl zn1 ⟨#[]⟩, .int .i64 a, errn n]) (by simp [results, Tryz.results18, go_sem, errn, g0, g1, g2, g3, g4, g5]) rfl (FrdV.err HB.out a n rfl)

set_option maxRecDepth 100000 in
set_option maxHeartbeats 8000000 in
theorem fread_good (s : ByteArray) (hs : s.size ≤ 4000) (w : World) (R : Cu × List Tr) (hR : fil (cu0 s) = R)
    (hN : Calls Tryz.prog 22 #[.string s] (w.alloc zb6) fun e w' => ∃ b A c, e = .returned (.tuple #[.pointer (some ⟨b, 0, none⟩), .int .i64 0, .nilIface]) ∧ (w.alloc zb6).heap.size ≤ b ∧ CuM b A c (cu0 s) w' ∧ Below (w.alloc zb6).heap.size (w.alloc zb6) w') :
    Calls Tryz.prog 18 #[.string s] w (FrdV (decide (R.1.f = 0)) (nod 2 R.2) R.1.en w) := by
  have HN := Lib.hid hN
  have hk := cu0_ok s hs
  have hll := left_len hk
  have hd0 : (cu0 s).d ≤ 200 := Nat.zero_le _
  have hres : lst cbg clz (cu0 s).left (cu0 s, []) = R := hR
  obtain ⟨ok, hok⟩ : ∃ ok, decide (R.1.f = 0) = ok := ⟨_, rfl⟩
  obtain ⟨tl, htl⟩ : ∃ tl, R.1.en = tl := ⟨_, rfl⟩
  rw [hok, htl]
  have HOK := Lib.hid hok
  have HTL := Lib.hid htl
  have HK := Lib.hid (And.intro hk (And.intro hd0 (And.intro hll hres)))
  clear hN hk hll hd0 hres hR hs hok htl
  generalize cu0 s = C0 at HN HK
  go_enter Tryz.func18, Tryz.ntmps18
  go_wp2_with fail
  refine HN.out.mono ?_
  rintro e w2 ⟨b, A, c, rfl, hwb, hm2, hb2⟩
  have hz2 := (hb2.block w.heap.size (by simp)).trans (heap_alloc_new w zb6)
  rw [World.size_alloc] at hwb
  have hB2 := (below1 w zb6).trans (hb2.mono (by simp))
  have ek2 := (EK.begin hm2 HK.out.1).has_ (z := w.heap.size) (o := zb6) (by show ¬ w.heap.size = b; omega) hz2
  have HWB := Lib.hid (And.intro hwb hB2)
  have HWL : Hid (w.heap.size < w2.heap.size) := Lib.hid (Array.getElem?_eq_some_iff.1 hz2).1
  have HI0 : Hid (FlI b A c w.heap.size w2 C0 R C0.left C0 [] 0 none 0 [] w2) := Lib.hid ⟨ek2, RowN.nil _, fun q hq => (by cases hq), fun q _ e => (by cases e), rfl, Nat.le_refl _, HK.out.2.2.2, by have := HK.out.2.2.1; omega, rfl⟩
  clear hm2 hb2 hz2 hB2 ek2 hwb HN
  go_wp2
  go_loopw [8] (fun v wr => ∃ (q : Nat) (C' : Cu) (m : List Tr) (n : Nat) (Al : Option Addr) (cl : Nat) (zs : List Nat), v = .slice Al n cl ∧ Hid (FlI b A c w.heap.size w2 C0 R q C' m n Al cl zs wr)) (fun v _ => 4001 - vlen v)
  case atStart => exact ⟨_, _, _, _, _, _, _, rfl, HI0⟩
  case round =>
    obtain ⟨q, C', m, n, Al, cl, zs, rfl, HD⟩ := hrel
    clear HI0
    have E := Lib.hid HD.out.ek
    have HR := Lib.hid HD.out.row
    have HL := Lib.hid (left_any E.out.cu E.out.ok)
    unfold Rd at HL
    have hlc := left_len HD.out.ek.ok
    by_cases hlf : C'.left = 0
    · rw [hlf] at HL
      have hbg : cbg C' = false := by unfold cbg; rw [hlf]; rfl
      have hres := HD.out.res
      rw [lst_no (by exact hbg)] at hres
      have HRES := Lib.hid hres
      clear hbg hres hlf hlc
      go_wp2_with fail
      refine HL.out.mono ?_
      rintro e v1 ⟨rfl, hb⟩
      have E1 := Lib.hid (E.out.below hb)
      have HR1 := Lib.hid (HR.out.below hb)
      have HF := Lib.hid (failed_any E1.out.cu)
      unfold Rd Cu.fl at HF
      clear hb HL E HR
      have hRf : R.1.f = C'.f := by rw [← HRES.out]
      have hRe : tl = C'.en := by rw [← HTL.out, ← HRES.out]
      have hRl : R.2 = m.map pl := by rw [← HRES.out]
      have HRR := Lib.hid (And.intro hRf (And.intro hRe hRl))
      clear hRf hRe hRl HRES
      by_cases hf : C'.f = 0
      · rw [if_pos hf] at HF
        have hokv : ok = true := by rw [← HOK.out, HRR.out.1]; exact decide_eq_true hf
        have HOV := Lib.hid hokv
        clear hokv hf
        go_wp2_with fail
        refine HF.out.mono ?_
        rintro e v2 ⟨rfl, hb⟩
        have hmn := HD.out.hn
        subst hmn
        have hrow2 := HR1.out.below hb
        have ek2 := (E1.out.below hb).bndl hrow2 HD.out.own (fun x hx => hx)
        have hml : m.length ≤ 4000 := by have := HD.out.len; omega
        have HN := Lib.hid (EK.nodedB ek2 2 [⟨Al, cl, m⟩] 1 rfl (by omega) (by simp) (by
          intro p hp
          simp only [List.mem_cons, List.not_mem_nil, or_false] at hp
          subst hp
          obtain ⟨A', c', e, hn⟩ := hrow2.form
          injection e with e1 e2 e3
          subst e1 e3
          exact hn) (by show (([⟨Al, cl, m⟩] : List Pp).flatMap Pp.m).length ≤ 20000; simp; omega) (ppO [⟨Al, cl, m⟩]) 23 rfl)
        have hMM : (([⟨Al, cl, m⟩] : List Pp).flatMap Pp.m).map pl = R.2 := by rw [HRR.out.2.2]; simp only [List.flatMap_cons, List.flatMap_nil, List.append_nil]
        have HMM := Lib.hid hMM
        clear hrow2 ek2 hml hMM hb HF E1 HR1
        go_wp2_with fail
        refine HN.out.mono ?_
        rintro e v3 ⟨A', c', rfl, ek3, hb3⟩
        have hMM := HMM.out
        generalize ([⟨Al, cl, m⟩] : List Pp).flatMap Pp.m = M at ek3 hMM ⊢
        have HEN := Lib.hid (end_any ek3.cu ek3.ok)
        unfold Rd at HEN
        have E3 := Lib.hid ek3
        have HMM := Lib.hid hMM
        clear ek3 hb3 hMM HN
        rw [← HRR.out.2.1] at HEN
        go_wp2_with fail
        refine HEN.out.mono ?_
        rintro e v4 ⟨rfl, hb4⟩
        have ek4 := E3.out.below hb4
        have hz := ek4.box (z := w.heap.size) (o := zb6) (by simp)
        have hs := set6p_self hz (⟨2, ⟨#[]⟩, ⟨#[]⟩, 0, A', c', M⟩ : Tr) tl
        have hsz := HWB.out.2.size
        have hB9 := below_set6p (HWB.out.2.trans (of_low2 ek4.off (by have := HWB.out.1; omega) hsz)) (Nat.le_refl _) (⟨2, ⟨#[]⟩, ⟨#[]⟩, 0, A', c', M⟩ : Tr) tl
        have hwl := HWL.out
        have hT9 : Tn (nw w.heap.size (set6p v4 w.heap.size (⟨2, ⟨#[]⟩, ⟨#[]⟩, 0, A', c', M⟩ : Tr) tl)) (set6p v4 w.heap.size (⟨2, ⟨#[]⟩, ⟨#[]⟩, 0, A', c', M⟩ : Tr) tl) (⟨2, ⟨#[]⟩, ⟨#[]⟩, 0, A', c', M⟩ : Tr) := (ek4.tn (⟨2, ⟨#[]⟩, ⟨#[]⟩, 0, A', c', M⟩ : Tr) (by simp)).keep (fun k _ hk => cell_of (set6p_other (by have := hk.1.resolve_left (fun h => h); omega) _ _)) (fun k hk => by have := hk.1.resolve_left (fun h => h); exact ⟨by omega, by rw [set6p_size]; exact this.2⟩)
        have hv : FrdV true (nod 2 R.2) tl w (.returned (.tuple #[pvl (⟨2, ⟨#[]⟩, ⟨#[]⟩, 0, A', c', M⟩ : Tr) tl, .int .i64 0, .nilIface])) (set6p v4 w.heap.size (⟨2, ⟨#[]⟩, ⟨#[]⟩, 0, A', c', M⟩ : Tr) tl) := FrdV.good hB9 _ rfl (by rw [pl_nod, HMM.out]) hT9
        rw [← HOV.out] at hv
        clear ek4 hsz hB9 hT9 hwl hb4 HEN E3 HMM
        go_wp2_with (with_reducible refine stay_store 47 (.tmp 2) (.tmp 45) (by rfl) ?_)
        refine Stay.mk ?_
        refine wpList_store_parsed (by rfl) 47 (.tmp 2) (.tmp 45) (by rfl) size_parsed (w.heap.size) (⟨2, ⟨#[]⟩, ⟨#[]⟩, 0, A', c', M⟩ : Tr) tl (by rfl) (by rfl) hz ?_
        generalize set6p v4 w.heap.size (⟨2, ⟨#[]⟩, ⟨#[]⟩, 0, A', c', M⟩ : Tr) tl = w9 at hs hv ⊢
        have HV := Lib.hid hv
        clear hz hv
        go_wp2
        have g0 := cell_heap hs (i := 0)
        have g1 := cell_heap hs (i := 1)
        have g2 := cell_heap hs (i := 2)
        have g3 := cell_heap hs (i := 3)
        have g4 := cell_heap hs (i := 4)
        have g5 := cell_heap hs (i := 5)
        simp only [List.getElem?_toArray, List.getElem?_cons_zero, List.getElem?_cons_succ] at g0 g1 g2 g3 g4 g5
        refine bodyPost_ret (v := .tuple #[pvl (⟨2, ⟨#[]⟩, ⟨#[]⟩, 0, A', c', M⟩ : Tr) tl, .int .i64 0, .nilIface]) (by simp [results, Tryz.results18, go_sem, g0, g1, g2, g3, g4, g5]) rfl HV.out
      · rw [if_neg hf] at HF
        have hokv : ok = false := by rw [← HOK.out, HRR.out.1]; exact decide_eq_false hf
        have HOV := Lib.hid hokv
        clear hokv hf
        generalize C'.p = pp at HF
        generalize C'.f = ff at HF
        unfold errn at HF
        go_wp2_with fail
        refine HF.out.mono ?_
        rintro e v2 ⟨rfl, hb⟩
        have ek2 := E1.out.below hb
        have hz := ek2.box (z := w.heap.size) (o := zb6) (by simp)
        have hs := set6p_self hz zn1 ⟨#[]⟩
        have hB := below_set6p (HWB.out.2.trans (of_low2 ek2.off (by have := HWB.out.1; omega) HWB.out.2.size)) (Nat.le_refl _) zn1 ⟨#[]⟩
        have HB := Lib.hid hB
        clear ek2 hB hb HF E1 HR1
        go_wp2_with (with_reducible refine stay_store 47 (.tmp 2) (.tmp 37) (by rfl) ?_)
        refine Stay.mk ?_
        refine wpList_store_parsed (by rfl) 47 (.tmp 2) (.tmp 37) (by rfl) size_parsed (w.heap.size) zn1 ⟨#[]⟩ (by rfl) (by rfl) hz ?_
        generalize set6p v2 w.heap.size zn1 ⟨#[]⟩ = w9 at hs HB ⊢
        clear hz
        go_wp2
        have g0 := cell_heap hs (i := 0)
        have g1 := cell_heap hs (i := 1)
        have g2 := cell_heap hs (i := 2)
        have g3 := cell_heap hs (i := 3)
        have g4 := cell_heap hs (i := 4)
        have g5 := cell_heap hs (i := 5)
        simp only [List.getElem?_toArray, List.getElem?_cons_zero, List.getElem?_cons_succ] at g0 g1 g2 g3 g4 g5
        refine bodyPost_ret (v := .tuple #[pvl zn1 ⟨#[]⟩, .int .i64 pp, errn ff]) (by simp [results, Tryz.results18, go_sem, errn, g0, g1, g2, g3, g4, g5]) rfl (by rw [HOV.out]; exact FrdV.err HB.out pp ff rfl)
    · have z1 : (0 : Int) < (C'.left : Nat) := by omega
      have z2 : ((C'.left : Nat) : Int) ≤ 4000 := by omega
      have hbg : cbg C' = true := by unfold cbg; exact decide_eq_true (by omega)
      have hko := HD.out.ek.ok
      have hd2 : C'.d ≤ 200 := by rw [HD.out.d]; exact HK.out.2.1
      have hlt := clz_left hko hd2 hbg
      have HGG := Lib.hid (Got.clz C' hko hd2 (Nat.zero_le _))
      obtain ⟨q, rfl⟩ : ∃ q', q = q' + 1 := ⟨q - 1, by have := HD.out.lf; omega⟩
      have hres := HD.out.res
      rw [lst_go (by exact hbg)] at hres
      have HRES := Lib.hid hres
      have hq := HD.out.lf
      have hl := HD.out.len
      have HNM : Hid ((clz C').1.left ≤ q ∧ n + 1 + (clz C').1.left ≤ 4000 ∧ n ≤ 3999) := Lib.hid ⟨by omega, by omega, by omega⟩
      have HO := Lib.hid (And.intro HD.out.own (And.intro HD.out.ne (And.intro HD.out.hn HD.out.d)))
      have HP := Lib.hid (fun (W : World) (hm : CuM b A c C' W) => clz_any hm hko hd2)
      generalize C'.left = lf at HL z1 z2
      clear hbg hko hd2 hlt hres hq hl HD hlf hlc
      generalize clz C' = RM at HGG HRES HNM HP
      go_wp2_with fail
      refine HL.out.mono ?_
      rintro e v1 ⟨rfl, hb⟩
      have E1 := Lib.hid (E.out.below hb)
      have HR1 := Lib.hid (HR.out.below hb)
      have HC := Lib.hid (HP.out v1 E1.out.cu)
      clear hb HL E HR
      go_wp2_with fail
      refine HC.out.mono ?_
      rintro e w5 ⟨SG, rfl, hp1, hT1, hm1, ho1⟩
      have hob : (Value.slice Al n cl).ownBlock ≠ some b := fun e => by
        have := (E1.out.zn b (HO.out.1 b e)).1
        have := E1.out.hX b rfl
        omega
      have ek2 := E1.out.got hT1 hm1 ⟨HGG.out.ok, HGG.out.L⟩ ho1
      have hrow2 := HR1.out.of ho1 hob
      have ek3 := ek2.rowOf 0 1 (l := [SG]) rfl (by simp) (.cells #[.int .i64 SG.k, .string SG.g, .string SG.t, .int .i64 SG.a, .slice SG.A SG.kids.length SG.c] 30 (0, 0)) 30 rfl
      have hrow3 := hrow2.below (below1 w5 (.cells #[.int .i64 SG.k, .string SG.g, .string SG.t, .int .i64 SG.a, .slice SG.A SG.kids.length SG.c] 30 (0, 0)))
      have hlies := (tn_iff.1 (ek3.tn ⟨0, ⟨#[]⟩, ⟨#[]⟩, 0, some ⟨w5.heap.size, 0, none⟩, 1, [SG]⟩ (by simp))).2.1
      have E3 := Lib.hid (ek3.sub (bs' := [(w.heap.size, zb6)]) (ts' := SG :: m) (by simp) (by simp only [List.mem_cons]; rintro T (h | h) <;> simp [h]))
      have HR3 := Lib.hid hrow3
      have HLI := Lib.hid hlies
      clear ek2 hrow2 ek3 hrow3 hlies hT1 hm1 ho1 HC E1 HR1 hob HP z1 z2
      go_wp2_with (at_builtin; refine Stay.out ?_)
      refine Stay.mk ?_
      refine wpList_append_n (by rfl) (.tmp 25) (.tmp 28) (by rfl) (w5.alloc (.cells #[.int .i64 SG.k, .string SG.g, .string SG.t, .int .i64 SG.a, .slice SG.A SG.kids.length SG.c] 30 (0, 0))) (.slice Al n cl) m [SG] (some ⟨w5.heap.size, 0, none⟩) 1 1 _ rfl (by rfl) (by rfl) HLI.out (by simp) HR3.out (by have := HO.out.2.2.1; have := HNM.out.2.2; simp; omega) ?_
      intro A1 c1 w4 hrow4 hg4 hat4
      obtain ⟨zs4, ek4, hz4, ho4, hn4'⟩ := E3.out.grows hg4 (own' := (Value.slice A1 (m ++ [SG]).length c1).ownBlock) (fun q hq => .inl (HO.out.1 q hq)) HO.out.2.1 hat4 hrow4.lt
      have hlen : (m ++ [SG]).length = n + 1 := by rw [List.length_append, HO.out.2.2.1]; rfl
      have hmap : lst cbg clz q (RM.1, (m ++ [SG]).map pl) = R := by rw [List.map_append, List.map_cons, List.map_nil, hp1]; exact HRES.out
      have ek5 := ek4.sub (bs' := [(w.heap.size, zb6)]) (ts' := m ++ [SG]) (by simp) (by simp only [List.mem_append, List.mem_cons, List.not_mem_nil, or_false]; rintro T (h | h) <;> simp [h])
      rw [hlen] at hrow4 ho4 hn4'
      rw [hlen]
      have HI : Hid (FlI b A c w.heap.size w2 C0 R q RM.1 (m ++ [SG]) (n + 1) A1 c1 zs4 w4) := Lib.hid ⟨ek5, hrow4, fun q hq => (ho4 q hq).resolve_right (fun hh => hh.2 hh.1), hn4', hlen, HNM.out.1, hmap, HNM.out.2.1, HGG.out.d.trans HO.out.2.2.2⟩
      have hn9 := HNM.out.2.2
      clear ek4 ek5 hrow4 hg4 hat4 hz4 ho4 hn4' hlen hmap E3 HR3 HLI HRES hp1
      go_wp2
      go_roundw
      case rel => exact ⟨q, RM.1, m ++ [SG], n + 1, A1, c1, zs4, rfl, HI⟩
      case measure => simp [vlen]; omega

theorem fread_any (s : ByteArray) (w : World) (hL : LaidX w) : Calls Tryz.prog 18 #[.string s] w (FrdV (fok s) (ftr s) (ftl s) w) := by
  have h := new_any s (w.alloc zb6) (hL.below (below1 w zb6))
  unfold NewV at h
  unfold fok
  by_cases hs : 4000 < s.size
  · simp only [if_pos hs] at h
    rw [decide_eq_false (show ¬ s.size ≤ 4000 by omega)]
    simp only [Bool.false_and]
    exact fread_bad s w (h.mono fun e w' ⟨h1, h2⟩ => ⟨_, _, h1, h2⟩) _ _
  · simp only [if_neg hs] at h
    rw [decide_eq_true (show s.size ≤ 4000 by omega), Bool.true_and]
    cases hb : bad (tk (bs s) 0) with
    | some t =>
      simp only [hb] at h
      simp only [Option.isNone_some, Bool.false_and]
      exact fread_bad s w (h.mono fun e w' ⟨h1, h2⟩ => ⟨_, _, h1, h2⟩) _ _
    | none =>
      simp only [hb] at h
      simp only [Option.isNone_none, Bool.true_and]
      exact fread_good s (by omega) w _ rfl h
end Dc
end Go.Proofs.YtfmlcddakfbleaaGreatDoor
