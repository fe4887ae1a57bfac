/-
  DERIVED. GIVEN WITH THE SEED: THE CARDS: each row of YtfmlcddakfbleaaGreatDoorRows.lean that lists a variable, with what it lists TIED to the program's text (the seventh form; the later family's looks); each row that meets fmt, with fmt's text TOLD by the authors' own Lean function (tested against real Go, not proved from fmt's source: count such statements apart). THE CARD IS WHAT COUNTS. Prove the row's statement (the work); the ties are given (YtfmlcddakfbleaaGreatDoorTie.lean); close each card by the builder's one call (the guide's Derived/Test/ToyasCard.lean, 'card_holds'). Laid BY PROGRAM, IN A SANDBOX (cutbox-door.mjs). By AI agents, Wed Nov 11 2026. No macro, syntax, notation, axiom, sorry.
-/
import Derived.Test.YtfmlcddakfbleaaGreatDoorRows
import GoSem.ClaimSeven
namespace Go.Proofs.YtfmlcddakfbleaaGreatDoor
namespace Rows

/-- THE TIED CARD OF 'namesakelaw10.StmtKeeps'. -/
def stmtKeepsCard : Claim7 := { stood := { row := stmtKeepsRow, standIns := [], harness := (true, "34ae01b3a00dafeefa1183aa311c4bc4e7c6708efd6de99123f82215f520d0c6"), looks := true }, kinds := [], alts := [], laidByText := true, laidKinds := [.data, .data, .data, .sentinel, .sentinel, .data], laidTests := true, laidLooks := .later }
def StmtKeepsCardSaid : Prop := Claim7.holds Tryz.pinned (.plain (OpenSpec.ofChange stmtKeepsSpec)) stmtKeepsCard

/-- THE TIED CARD OF 'namesakelaw11.DeclNames'. -/
def declNamesCard : Claim7 := { stood := { row := declNamesRow, standIns := [], harness := (true, "34ae01b3a00dafeefa1183aa311c4bc4e7c6708efd6de99123f82215f520d0c6"), looks := true }, kinds := [], alts := [], laidByText := true, laidKinds := [.data, .data, .data, .sentinel, .sentinel, .data], laidTests := true, laidLooks := .later }
def DeclNamesCardSaid : Prop := Claim7.holds Tryz.pinned (.plain (OpenSpec.ofChange declNamesSpec)) declNamesCard

/-- THE TIED CARD OF 'namesakelaw11.DeclKeeps'. -/
def declKeepsCard : Claim7 := { stood := { row := declKeepsRow, standIns := [], harness := (true, "34ae01b3a00dafeefa1183aa311c4bc4e7c6708efd6de99123f82215f520d0c6"), looks := true }, kinds := [], alts := [], laidByText := true, laidKinds := [.data, .data, .data, .sentinel, .sentinel, .data], laidTests := true, laidLooks := .later }
def DeclKeepsCardSaid : Prop := Claim7.holds Tryz.pinned (.plain (OpenSpec.ofChange declKeepsSpec)) declKeepsCard

/-- THE SECOND FORM's CARD OF 'namesakelaw10.StmtKeeps'. -/
def stmtKeepsUptoCard : Claim7 := { stood := { row := stmtKeepsUptoRow, standIns := [], harness := (true, "34ae01b3a00dafeefa1183aa311c4bc4e7c6708efd6de99123f82215f520d0c6"), looks := true }, kinds := [], alts := [], laidByText := true, laidKinds := [.data, .data, .data, .sentinel, .sentinel, .data], laidTests := true, laidLooks := .later }
def StmtKeepsUptoCardSaid : Prop := Claim7.holds Tryz.pinned (.plain (OpenSpec.upto stmtKeepsSpec)) stmtKeepsUptoCard

/-- THE SECOND FORM's CARD OF 'namesakelaw11.DeclNames'. -/
def declNamesUptoCard : Claim7 := { stood := { row := declNamesUptoRow, standIns := [], harness := (true, "34ae01b3a00dafeefa1183aa311c4bc4e7c6708efd6de99123f82215f520d0c6"), looks := true }, kinds := [], alts := [], laidByText := true, laidKinds := [.data, .data, .data, .sentinel, .sentinel, .data], laidTests := true, laidLooks := .later }
def DeclNamesUptoCardSaid : Prop := Claim7.holds Tryz.pinned (.plain (OpenSpec.upto declNamesSpec)) declNamesUptoCard

/-- THE SECOND FORM's CARD OF 'namesakelaw11.DeclKeeps'. -/
def declKeepsUptoCard : Claim7 := { stood := { row := declKeepsUptoRow, standIns := [], harness := (true, "34ae01b3a00dafeefa1183aa311c4bc4e7c6708efd6de99123f82215f520d0c6"), looks := true }, kinds := [], alts := [], laidByText := true, laidKinds := [.data, .data, .data, .sentinel, .sentinel, .data], laidTests := true, laidLooks := .later }
def DeclKeepsUptoCardSaid : Prop := Claim7.holds Tryz.pinned (.plain (OpenSpec.upto declKeepsSpec)) declKeepsUptoCard
end Rows
end Go.Proofs.YtfmlcddakfbleaaGreatDoor
