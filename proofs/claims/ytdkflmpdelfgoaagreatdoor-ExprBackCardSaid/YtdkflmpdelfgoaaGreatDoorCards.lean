/-
  DERIVED. GIVEN WITH THE SEED: THE CARDS: each row of YtdkflmpdelfgoaaGreatDoorRows.lean that lists a variable, with what it lists TIED to the program's text (the seventh form; the later family's looks); each row that meets fmt, with fmt's text TOLD by the authors' own Lean function (tested against real Go, not proved from fmt's source: count such statements apart). THE CARD IS WHAT COUNTS. Prove the row's statement (the work); the ties are given (YtdkflmpdelfgoaaGreatDoorTie.lean); close each card by the builder's one call (the guide's Derived/Test/ToyasCard.lean, 'card_holds'). Laid BY PROGRAM, IN A SANDBOX (cutbox-door.mjs). By AI agents, Wed Nov 11 2026. No macro, syntax, notation, axiom, sorry.
-/
import Derived.Test.YtdkflmpdelfgoaaGreatDoorRows
import GoSem.ClaimSeven
namespace Go.Proofs.YtdkflmpdelfgoaaGreatDoor
namespace Rows

/-- THE TIED CARD OF 'cooperlaw09.ExprBack'. -/
def exprBackCard : Claim7 := { stood := { row := exprBackRow, standIns := [], harness := (true, "ece28ecff4de8bbd4102100c8aaacf19a6c3820aaec4f70496cc9fa8950b78de"), looks := true }, kinds := [], alts := [], laidByText := true, laidKinds := [.data, .data, .data, .sentinel, .sentinel, .data], laidTests := true, laidLooks := .later }
def ExprBackCardSaid : Prop := Claim7.holds Tryz.pinned (.plain (OpenSpec.ofChange exprBackSpec)) exprBackCard

/-- THE TIED CARD OF 'cooperlaw09.ExprSaid'. -/
def exprSaidCard : Claim7 := { stood := { row := exprSaidRow, standIns := [], harness := (true, "ece28ecff4de8bbd4102100c8aaacf19a6c3820aaec4f70496cc9fa8950b78de"), looks := true }, kinds := [], alts := [], laidByText := true, laidKinds := [.data, .data, .data, .sentinel, .sentinel, .data], laidTests := true, laidLooks := .later }
def ExprSaidCardSaid : Prop := Claim7.holds Tryz.pinned (.plain (OpenSpec.ofChange exprSaidSpec)) exprSaidCard

/-- THE SECOND FORM's CARD OF 'cooperlaw09.ExprBack'. -/
def exprBackUptoCard : Claim7 := { stood := { row := exprBackUptoRow, standIns := [], harness := (true, "ece28ecff4de8bbd4102100c8aaacf19a6c3820aaec4f70496cc9fa8950b78de"), looks := true }, kinds := [], alts := [], laidByText := true, laidKinds := [.data, .data, .data, .sentinel, .sentinel, .data], laidTests := true, laidLooks := .later }
def ExprBackUptoCardSaid : Prop := Claim7.holds Tryz.pinned (.plain (OpenSpec.upto exprBackSpec)) exprBackUptoCard

/-- THE SECOND FORM's CARD OF 'cooperlaw09.ExprSaid'. -/
def exprSaidUptoCard : Claim7 := { stood := { row := exprSaidUptoRow, standIns := [], harness := (true, "ece28ecff4de8bbd4102100c8aaacf19a6c3820aaec4f70496cc9fa8950b78de"), looks := true }, kinds := [], alts := [], laidByText := true, laidKinds := [.data, .data, .data, .sentinel, .sentinel, .data], laidTests := true, laidLooks := .later }
def ExprSaidUptoCardSaid : Prop := Claim7.holds Tryz.pinned (.plain (OpenSpec.upto exprSaidSpec)) exprSaidUptoCard
end Rows
end Go.Proofs.YtdkflmpdelfgoaaGreatDoor
