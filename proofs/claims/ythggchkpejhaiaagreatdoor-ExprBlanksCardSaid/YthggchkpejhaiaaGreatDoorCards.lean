/-
  DERIVED. GIVEN WITH THE SEED: THE CARDS: each row of YthggchkpejhaiaaGreatDoorRows.lean that lists a variable, with what it lists TIED to the program's text (the seventh form; the later family's looks); each row that meets fmt, with fmt's text TOLD by the authors' own Lean function (tested against real Go, not proved from fmt's source: count such statements apart). THE CARD IS WHAT COUNTS. Prove the row's statement (the work); the ties are given (YthggchkpejhaiaaGreatDoorTie.lean); close each card by the builder's one call (the guide's Derived/Test/ToyasCard.lean, 'card_holds'). Laid BY PROGRAM, IN A SANDBOX (cutbox-door.mjs). By AI agents, Wed Nov 11 2026. No macro, syntax, notation, axiom, sorry.
-/
import Derived.Test.YthggchkpejhaiaaGreatDoorRows
import GoSem.ClaimSeven
namespace Go.Proofs.YthggchkpejhaiaaGreatDoor
namespace Rows

/-- THE TIED CARD OF 'namesakelaw09.ExprKeeps'. -/
def exprKeepsCard : Claim7 := { stood := { row := exprKeepsRow, standIns := [], harness := (true, "a3fb5057d22c88b671c69ef4859e6cb428630fc3f96c015145693f78e2f2fde3"), looks := true }, kinds := [], alts := [], laidByText := true, laidKinds := [.data, .data, .data, .sentinel, .sentinel, .data], laidTests := true, laidLooks := .later }
def ExprKeepsCardSaid : Prop := Claim7.holds Tryz.pinned (.plain (OpenSpec.ofChange exprKeepsSpec)) exprKeepsCard

/-- THE TIED CARD OF 'namesakelaw09.ExprBlanks'. -/
def exprBlanksCard : Claim7 := { stood := { row := exprBlanksRow, standIns := [], harness := (true, "a3fb5057d22c88b671c69ef4859e6cb428630fc3f96c015145693f78e2f2fde3"), looks := true }, kinds := [], alts := [], laidByText := true, laidKinds := [.data, .data, .data, .sentinel, .sentinel, .data], laidTests := true, laidLooks := .later }
def ExprBlanksCardSaid : Prop := Claim7.holds Tryz.pinned (.plain (OpenSpec.ofChange exprBlanksSpec)) exprBlanksCard

/-- THE TIED CARD OF 'namesakelaw10.StmtKeeps'. -/
def stmtKeepsCard : Claim7 := { stood := { row := stmtKeepsRow, standIns := [], harness := (true, "a3fb5057d22c88b671c69ef4859e6cb428630fc3f96c015145693f78e2f2fde3"), looks := true }, kinds := [], alts := [], laidByText := true, laidKinds := [.data, .data, .data, .sentinel, .sentinel, .data], laidTests := true, laidLooks := .later }
def StmtKeepsCardSaid : Prop := Claim7.holds Tryz.pinned (.plain (OpenSpec.ofChange stmtKeepsSpec)) stmtKeepsCard

/-- THE SECOND FORM's CARD OF 'namesakelaw09.ExprKeeps'. -/
def exprKeepsUptoCard : Claim7 := { stood := { row := exprKeepsUptoRow, standIns := [], harness := (true, "a3fb5057d22c88b671c69ef4859e6cb428630fc3f96c015145693f78e2f2fde3"), looks := true }, kinds := [], alts := [], laidByText := true, laidKinds := [.data, .data, .data, .sentinel, .sentinel, .data], laidTests := true, laidLooks := .later }
def ExprKeepsUptoCardSaid : Prop := Claim7.holds Tryz.pinned (.plain (OpenSpec.upto exprKeepsSpec)) exprKeepsUptoCard

/-- THE SECOND FORM's CARD OF 'namesakelaw09.ExprBlanks'. -/
def exprBlanksUptoCard : Claim7 := { stood := { row := exprBlanksUptoRow, standIns := [], harness := (true, "a3fb5057d22c88b671c69ef4859e6cb428630fc3f96c015145693f78e2f2fde3"), looks := true }, kinds := [], alts := [], laidByText := true, laidKinds := [.data, .data, .data, .sentinel, .sentinel, .data], laidTests := true, laidLooks := .later }
def ExprBlanksUptoCardSaid : Prop := Claim7.holds Tryz.pinned (.plain (OpenSpec.upto exprBlanksSpec)) exprBlanksUptoCard

/-- THE SECOND FORM's CARD OF 'namesakelaw10.StmtKeeps'. -/
def stmtKeepsUptoCard : Claim7 := { stood := { row := stmtKeepsUptoRow, standIns := [], harness := (true, "a3fb5057d22c88b671c69ef4859e6cb428630fc3f96c015145693f78e2f2fde3"), looks := true }, kinds := [], alts := [], laidByText := true, laidKinds := [.data, .data, .data, .sentinel, .sentinel, .data], laidTests := true, laidLooks := .later }
def StmtKeepsUptoCardSaid : Prop := Claim7.holds Tryz.pinned (.plain (OpenSpec.upto stmtKeepsSpec)) stmtKeepsUptoCard
end Rows
end Go.Proofs.YthggchkpejhaiaaGreatDoor
