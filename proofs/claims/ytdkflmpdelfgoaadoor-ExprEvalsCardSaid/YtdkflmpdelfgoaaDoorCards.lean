/-
  DERIVED. GIVEN WITH THE SEED: THE CARDS: each row of YtdkflmpdelfgoaaDoorRows.lean that lists a variable, with what it lists TIED to the program's text (the seventh form; the later family's looks); each row that meets fmt, with fmt's text TOLD by the authors' own Lean function (tested against real Go, not proved from fmt's source: count such statements apart). THE CARD IS WHAT COUNTS. Prove the row's statement (the work); the ties are given (YtdkflmpdelfgoaaDoorTie.lean); close each card by the builder's one call (the guide's Derived/Test/ToyasCard.lean, 'card_holds'). Laid BY PROGRAM, IN A SANDBOX (cutbox-door.mjs). By AI agents, Wed Nov 11 2026. No macro, syntax, notation, axiom, sorry.
-/
import Derived.Test.YtdkflmpdelfgoaaDoorRows
import GoSem.ClaimSeven
namespace Go.Proofs.YtdkflmpdelfgoaaDoor
namespace Rows

/-- THE TIED CARD OF 'cooperlaw09.ExprEvals'. -/
def exprEvalsCard : Claim7 := { stood := { row := exprEvalsRow, standIns := [], harness := (true, "cb94e07b5c52d2b3135535d7f728d50dc291ac5f2da0a0e2d629d62e1dae9a08"), looks := true }, kinds := [], alts := [], laidByText := true, laidKinds := [.data, .data, .data, .data], laidTests := true, laidLooks := .later }
def ExprEvalsCardSaid : Prop := Claim7.holds Tryd.pinned (.plain (OpenSpec.ofChange exprEvalsSpec)) exprEvalsCard

/-- THE TIED CARD OF 'cooperlaw09.ExprValues'. -/
def exprValuesCard : Claim7 := { stood := { row := exprValuesRow, standIns := [], harness := (true, "cb94e07b5c52d2b3135535d7f728d50dc291ac5f2da0a0e2d629d62e1dae9a08"), looks := true }, kinds := [], alts := [], laidByText := true, laidKinds := [.data, .data, .data, .data], laidTests := true, laidLooks := .later }
def ExprValuesCardSaid : Prop := Claim7.holds Tryd.pinned (.plain (OpenSpec.ofChange exprValuesSpec)) exprValuesCard

/-- THE TIED CARD OF 'cooperlaw09.ExprNumbers'. -/
def exprNumbersCard : Claim7 := { stood := { row := exprNumbersRow, standIns := [], harness := (true, "cb94e07b5c52d2b3135535d7f728d50dc291ac5f2da0a0e2d629d62e1dae9a08"), looks := true }, kinds := [], alts := [], laidByText := true, laidKinds := [.data, .data, .data, .data], laidTests := true, laidLooks := .later }
def ExprNumbersCardSaid : Prop := Claim7.holds Tryd.pinned (.plain (OpenSpec.ofChange exprNumbersSpec)) exprNumbersCard

/-- THE TIED CARD OF 'cooperlaw09.ExprWithin'. -/
def exprWithinCard : Claim7 := { stood := { row := exprWithinRow, standIns := [], harness := (true, "cb94e07b5c52d2b3135535d7f728d50dc291ac5f2da0a0e2d629d62e1dae9a08"), looks := true }, kinds := [], alts := [], laidByText := true, laidKinds := [.data, .data, .data, .data], laidTests := true, laidLooks := .later }
def ExprWithinCardSaid : Prop := Claim7.holds Tryd.pinned (.plain (OpenSpec.ofChange exprWithinSpec)) exprWithinCard

/-- THE SECOND FORM's CARD OF 'cooperlaw09.ExprEvals'. -/
def exprEvalsUptoCard : Claim7 := { stood := { row := exprEvalsUptoRow, standIns := [], harness := (true, "cb94e07b5c52d2b3135535d7f728d50dc291ac5f2da0a0e2d629d62e1dae9a08"), looks := true }, kinds := [], alts := [], laidByText := true, laidKinds := [.data, .data, .data, .data], laidTests := true, laidLooks := .later }
def ExprEvalsUptoCardSaid : Prop := Claim7.holds Tryd.pinned (.plain (OpenSpec.upto exprEvalsSpec)) exprEvalsUptoCard

/-- THE SECOND FORM's CARD OF 'cooperlaw09.ExprValues'. -/
def exprValuesUptoCard : Claim7 := { stood := { row := exprValuesUptoRow, standIns := [], harness := (true, "cb94e07b5c52d2b3135535d7f728d50dc291ac5f2da0a0e2d629d62e1dae9a08"), looks := true }, kinds := [], alts := [], laidByText := true, laidKinds := [.data, .data, .data, .data], laidTests := true, laidLooks := .later }
def ExprValuesUptoCardSaid : Prop := Claim7.holds Tryd.pinned (.plain (OpenSpec.upto exprValuesSpec)) exprValuesUptoCard

/-- THE SECOND FORM's CARD OF 'cooperlaw09.ExprNumbers'. -/
def exprNumbersUptoCard : Claim7 := { stood := { row := exprNumbersUptoRow, standIns := [], harness := (true, "cb94e07b5c52d2b3135535d7f728d50dc291ac5f2da0a0e2d629d62e1dae9a08"), looks := true }, kinds := [], alts := [], laidByText := true, laidKinds := [.data, .data, .data, .data], laidTests := true, laidLooks := .later }
def ExprNumbersUptoCardSaid : Prop := Claim7.holds Tryd.pinned (.plain (OpenSpec.upto exprNumbersSpec)) exprNumbersUptoCard

/-- THE SECOND FORM's CARD OF 'cooperlaw09.ExprWithin'. -/
def exprWithinUptoCard : Claim7 := { stood := { row := exprWithinUptoRow, standIns := [], harness := (true, "cb94e07b5c52d2b3135535d7f728d50dc291ac5f2da0a0e2d629d62e1dae9a08"), looks := true }, kinds := [], alts := [], laidByText := true, laidKinds := [.data, .data, .data, .data], laidTests := true, laidLooks := .later }
def ExprWithinUptoCardSaid : Prop := Claim7.holds Tryd.pinned (.plain (OpenSpec.upto exprWithinSpec)) exprWithinUptoCard
end Rows
end Go.Proofs.YtdkflmpdelfgoaaDoor
