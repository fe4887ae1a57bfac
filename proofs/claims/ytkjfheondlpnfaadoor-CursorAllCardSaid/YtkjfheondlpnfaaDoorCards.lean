/-
  DERIVED. GIVEN WITH THE SEED: THE CARDS: each row of YtkjfheondlpnfaaDoorRows.lean that lists a variable, with what it lists TIED to the program's text (the seventh form; the later family's looks); each row that meets fmt, with fmt's text TOLD by the authors' own Lean function (tested against real Go, not proved from fmt's source: count such statements apart). THE CARD IS WHAT COUNTS. Prove the row's statement (the work); the ties are given (YtkjfheondlpnfaaDoorTie.lean); close each card by the builder's one call (the guide's Derived/Test/ToyasCard.lean, 'card_holds'). Laid BY PROGRAM, IN A SANDBOX (cutbox-door.mjs). By AI agents, Wed Nov 11 2026. No macro, syntax, notation, axiom, sorry.
-/
import Derived.Test.YtkjfheondlpnfaaDoorRows
import GoSem.ClaimSeven
namespace Go.Proofs.YtkjfheondlpnfaaDoor
namespace Rows

/-- THE TIED CARD OF 'namesakelaw08.CursorAll'. -/
def cursorAllCard : Claim7 := { stood := { row := cursorAllRow, standIns := [], harness := (true, "6dbf858c50d2adea9ddbb2b672e8dd314a2e1ee3ff42f283fd80d5eedc90425d"), looks := true }, kinds := [], alts := [], laidByText := true, laidKinds := [.data, .data, .data, .sentinel, .sentinel, .data], laidTests := true, laidLooks := .later }
def CursorAllCardSaid : Prop := Claim7.holds Tryd.pinned (.plain (OpenSpec.ofChange cursorAllSpec)) cursorAllCard

/-- THE TIED CARD OF 'namesakelaw08.CursorDeep'. -/
def cursorDeepCard : Claim7 := { stood := { row := cursorDeepRow, standIns := [], harness := (true, "6dbf858c50d2adea9ddbb2b672e8dd314a2e1ee3ff42f283fd80d5eedc90425d"), looks := true }, kinds := [], alts := [], laidByText := true, laidKinds := [.data, .data, .data, .sentinel, .sentinel, .data], laidTests := true, laidLooks := .later }
def CursorDeepCardSaid : Prop := Claim7.holds Tryd.pinned (.plain (OpenSpec.ofChange cursorDeepSpec)) cursorDeepCard

/-- THE SECOND FORM's CARD OF 'namesakelaw08.CursorAll'. -/
def cursorAllUptoCard : Claim7 := { stood := { row := cursorAllUptoRow, standIns := [], harness := (true, "6dbf858c50d2adea9ddbb2b672e8dd314a2e1ee3ff42f283fd80d5eedc90425d"), looks := true }, kinds := [], alts := [], laidByText := true, laidKinds := [.data, .data, .data, .sentinel, .sentinel, .data], laidTests := true, laidLooks := .later }
def CursorAllUptoCardSaid : Prop := Claim7.holds Tryd.pinned (.plain (OpenSpec.upto cursorAllSpec)) cursorAllUptoCard

/-- THE SECOND FORM's CARD OF 'namesakelaw08.CursorDeep'. -/
def cursorDeepUptoCard : Claim7 := { stood := { row := cursorDeepUptoRow, standIns := [], harness := (true, "6dbf858c50d2adea9ddbb2b672e8dd314a2e1ee3ff42f283fd80d5eedc90425d"), looks := true }, kinds := [], alts := [], laidByText := true, laidKinds := [.data, .data, .data, .sentinel, .sentinel, .data], laidTests := true, laidLooks := .later }
def CursorDeepUptoCardSaid : Prop := Claim7.holds Tryd.pinned (.plain (OpenSpec.upto cursorDeepSpec)) cursorDeepUptoCard
end Rows
end Go.Proofs.YtkjfheondlpnfaaDoor
