/- The variables that the program's text lays: the keywords, the library's two errors and its table of powers; what is made of them in a walk. sign.Keyword and the document's. -/
import Derived.Test.YtfmlcddakfbleaaGreatDoorSignRun
import Derived.Lib.LaidTab
import Derived.Lib.ItoaMem
import Derived.Laws.Rows
namespace Go.Proofs.YtfmlcddakfbleaaGreatDoor
open Go.RowKit SignMath

/-- the keywords -/
def kws : List ByteArray := [⟨#[99, 108, 97, 115, 115]⟩, ⟨#[101, 120, 116, 101, 110, 100, 115]⟩, ⟨#[112, 117, 98, 108, 105, 99]⟩, ⟨#[115, 116, 97, 116, 105, 99]⟩, ⟨#[118, 111, 105, 100]⟩, ⟨#[109, 97, 105, 110]⟩, ⟨#[83, 116, 114, 105, 110, 103]⟩, ⟨#[105, 110, 116]⟩, ⟨#[98, 111, 111, 108, 101, 97, 110]⟩, ⟨#[114, 101, 116, 117, 114, 110]⟩, ⟨#[105, 102]⟩, ⟨#[101, 108, 115, 101]⟩, ⟨#[119, 104, 105, 108, 101]⟩, ⟨#[116, 114, 117, 101]⟩, ⟨#[102, 97, 108, 115, 101]⟩, ⟨#[116, 104, 105, 115]⟩, ⟨#[110, 101, 119]⟩, ⟨#[108, 101, 110, 103, 116, 104]⟩]
def kwc : List Value := kws.map Value.string
theorem kws_length : kws.length = 18 := rfl
theorem kwc_length : kwc.length = 18 := rfl

/-- is a text a keyword? -/
def kw (s : ByteArray) : Bool := kws.any fun k => decide (k = s)

theorem kw_hit {s x : ByteArray} {k : Nat} (h : kws[k]? = some x) (e : x = s) : kw s = true := by
  unfold kw; rw [List.any_eq_true]; exact ⟨x, List.mem_of_getElem? h, decide_eq_true e⟩
theorem kw_miss {s : ByteArray} (h : ∀ (j : Nat) (x : ByteArray), kws[j]? = some x → x ≠ s) : kw s = false := by
  unfold kw; rw [List.any_eq_false]; intro x hx
  obtain ⟨j, hj⟩ := List.getElem?_of_mem hx
  simpa using h j x hj

/-- what the program's text has laid -/
structure Laid (w : World) : Prop where
  words : ∃ t fr, w.heap[0]? = some (.cells kwc.toArray t fr)
  synt : ∃ t p, w.cell? ⟨2, 0, none⟩ = some (.iface t p)
  rang : ∃ t p, w.cell? ⟨3, 0, none⟩ = some (.iface t p)
  tab : Lib.TabIs Tryz.prog w "internal/strconv.uint64pow10" .u64 Lib.pow10Tab

theorem lt_of_heap {w : World} {k : Nat} {o : Obj} (h : w.heap[k]? = some o) : k < w.heap.size := (Array.getElem?_eq_some_iff.1 h).1
theorem lt_of_cell {w : World} {b o : Nat} {v : Value} (h : w.cell? ⟨b, o, none⟩ = some v) : b < w.heap.size := by
  unfold World.cell? at h
  cases hb : w.heap[b]? with
  | none => simp [hb] at h
  | some x => exact lt_of_heap hb

theorem tabG : Tryz.prog.globalNamed "internal/strconv.uint64pow10" = some 4 := by kernel_rfl

theorem Laid.below {w w' : World} (h : Laid w) (hb : Below w.heap.size w w') : Laid w' := by
  obtain ⟨⟨t, fr, h1⟩, ⟨t2, p2, h2⟩, ⟨t3, p3, h3⟩, h4⟩ := h
  refine ⟨⟨t, fr, (hb.block _ (lt_of_heap h1)).trans h1⟩, ⟨t2, p2, (hb.cell (p := ⟨_, 0, none⟩) (lt_of_cell h2)).trans h2⟩, ⟨t3, p3, (hb.cell (p := ⟨_, 0, none⟩) (lt_of_cell h3)).trans h3⟩, ?_⟩
  unfold Lib.TabIs at h4 ⊢
  rw [← h4]
  simp only [World.var?, tabG, Option.bind_some] at h4 ⊢
  cases hc : w.heap[4]? with
  | none => rw [hc] at h4; simp at h4
  | some o => rw [hb.block _ (lt_of_heap hc), hc]

theorem str_beq (a b : ByteArray) : (a.toList == b.toList) = decide (a = b) := by
  rw [Bool.eq_iff_iff, decide_eq_true_eq, beq_iff_eq, ByteArray.toList_eq, ByteArray.toList_eq]
  exact ⟨fun h => WideShapes.bytes_inj h, fun h => by rw [h]⟩

theorem index_words {k : Nat} {x : ByteArray} (h : kws[k]? = some x) (w : World) : (Instr.index 120 (.agg kwc.toArray) (.int .i64 (k : Int))).run Tryz.prog w = .ok (.string x) w := by
  have hk : k < 18 := by have := (List.getElem?_eq_some_iff.1 h).1; rwa [kws_length] at this
  have hc : kwc[k]? = some (.string x) := by unfold kwc; rw [List.getElem?_map, h]; rfl
  have hu := run_underlying Tryz.underlying120
  have h1 : 0 ≤ (k : Int) ∧ (k : Int) < 18 := by omega
  simp [Instr.index, hu, asIntOf, h1, go_sem, hc]
  intro h2; omega

set_option maxRecDepth 100000 in
set_option maxHeartbeats 1000000 in
theorem keyword_big (s : ByteArray) (w : World) (hL : Laid w) :
    Calls Tryz.prog 63 #[.string s] w fun e w' => e = .returned (.bool (kw s)) ∧ w = w' := by
  obtain ⟨t, fr, hg⟩ := hL.words
  have HG := Lib.hid hg
  clear hg
  go_enter Tryz.func63, Tryz.ntmps63
  go_wp2_with (with_reducible refine wpList_load_row rfl 120 (.global 0) rfl 0 rfl t kwc.toArray fr _ HG.out Tryz.underlying120 rfl (by kernel_rfl) ?_)
  go_loop [4, 6] (fun _ i => ∃ k : Nat, k ≤ 18 ∧ i = .int .i64 (k : Int) ∧ Hid (∀ (j : Nat) (x : ByteArray), j < k → kws[j]? = some x → x ≠ s)) (fun _ i => 18 - (intOf i).toNat)
  case atStart => exact ⟨0, by omega, rfl, Lib.hid (fun j x hj _ => absurd hj (Nat.not_lt_zero _))⟩
  case round =>
    obtain ⟨k, hk, rfl, HN⟩ := hrel
    by_cases hlt : k < 18
    · have hx : kws[k]? = some kws[k] := List.getElem?_eq_getElem hlt
      generalize kws[k] = x at hx
      have HX := Lib.hid hx
      have hs := str_beq x s
      have hi := index_words HX.out w
      clear hx
      by_cases hq : x = s
      · rw [decide_eq_true hq] at hs
        have HQ := Lib.hid hq
        clear hq
        go_wp2
        go_ret
        exact ⟨sret_bool (kw_hit HX.out HQ.out).symm, rfl⟩
      · rw [decide_eq_false hq] at hs
        have HQ := Lib.hid hq
        clear hq
        go_wp2
        go_round
        case rel =>
          refine ⟨k + 1, by omega, by go_num, Lib.hid (fun j y hj hy => ?_)⟩
          by_cases e : j = k
          · subst e; rw [HX.out] at hy; injection hy with hy; subst hy; exact HQ.out
          · exact HN.out j y (by omega) hy
        case measure => simp [intOf]; omega
    · obtain rfl : k = 18 := by omega
      go_wp2
      go_ret
      exact ⟨sret_bool (kw_miss fun j y hy => HN.out j y (by have := (List.getElem?_eq_some_iff.1 hy).1; rwa [kws_length] at this) hy).symm, rfl⟩
theorem keyword_any (s : ByteArray) (_hs : s.size ≤ 10000) (w : World) (hL : Laid w) :
    Calls Tryz.prog 63 #[.string s] w fun e w' => e = .returned (.bool (kw s)) ∧ w = w' := keyword_big s w hL

end Go.Proofs.YtfmlcddakfbleaaGreatDoor
