/-
  DERIVED. GIVEN WITH THE SEED: THE CARDS: each row of YtmkeopglgfddjaaDoorRows.lean that lists a variable, with what it lists TIED to the program's text (the seventh form; the later family's looks); each row that meets fmt, with fmt's text TOLD by the authors' own Lean function (tested against real Go, not proved from fmt's source: count such statements apart). THE CARD IS WHAT COUNTS. Prove the row's statement (the work); the ties are given (YtmkeopglgfddjaaDoorTie.lean); close each card by the builder's one call (the guide's Derived/Test/ToyasCard.lean, 'card_holds'). Laid BY PROGRAM, IN A SANDBOX (cutbox-door.mjs). By AI agents, Wed Nov 11 2026. No macro, syntax, notation, axiom, sorry.
-/
import Derived.Test.YtmkeopglgfddjaaDoorRows
import GoSem.ClaimSeven
namespace Go.Proofs.YtmkeopglgfddjaaDoor
namespace Rows

/-- THE TIED CARD OF 'cooperlaw02.LogimmDecodes'. -/
def logimmDecodesCard : Claim7 := { stood := { row := logimmDecodesRow, standIns := [], harness := (true, "1710e428d98e2f2aae7cfdc6f48eb6bf3c29e586721ca67a7612e70795cc61d4"), looks := false }, kinds := [], alts := [], laidByText := true, laidKinds := [.data], laidTests := true, laidLooks := .later }
def LogimmDecodesCardSaid : Prop := Claim7.holds Tryd.pinned (.plain (OpenSpec.ofChange logimmDecodesSpec)) logimmDecodesCard

/-- THE TIED CARD OF 'cooperlaw02.LogimmEncodes'. -/
def logimmEncodesCard : Claim7 := { stood := { row := logimmEncodesRow, standIns := [], harness := (true, "1710e428d98e2f2aae7cfdc6f48eb6bf3c29e586721ca67a7612e70795cc61d4"), looks := false }, kinds := [], alts := [], laidByText := true, laidKinds := [.data], laidTests := true, laidLooks := .later }
def LogimmEncodesCardSaid : Prop := Claim7.holds Tryd.pinned (.plain (OpenSpec.ofChange logimmEncodesSpec)) logimmEncodesCard

/-- THE TIED CARD OF 'cooperlaw02.LogimmAll'. -/
def logimmAllCard : Claim7 := { stood := { row := logimmAllRow, standIns := [], harness := (true, "1710e428d98e2f2aae7cfdc6f48eb6bf3c29e586721ca67a7612e70795cc61d4"), looks := false }, kinds := [], alts := [], laidByText := true, laidKinds := [.data], laidTests := true, laidLooks := .later }
def LogimmAllCardSaid : Prop := Claim7.holds Tryd.pinned (.plain (OpenSpec.ofChange logimmAllSpec)) logimmAllCard

/-- THE TIED CARD OF 'cooperlaw02.LogimmBack'. -/
def logimmBackCard : Claim7 := { stood := { row := logimmBackRow, standIns := [], harness := (true, "1710e428d98e2f2aae7cfdc6f48eb6bf3c29e586721ca67a7612e70795cc61d4"), looks := false }, kinds := [], alts := [], laidByText := true, laidKinds := [.data], laidTests := true, laidLooks := .later }
def LogimmBackCardSaid : Prop := Claim7.holds Tryd.pinned (.plain (OpenSpec.ofChange logimmBackSpec)) logimmBackCard

/-- THE TIED CARD OF 'cooperlaw02.LogimmOver'. -/
def logimmOverCard : Claim7 := { stood := { row := logimmOverRow, standIns := [], harness := (true, "1710e428d98e2f2aae7cfdc6f48eb6bf3c29e586721ca67a7612e70795cc61d4"), looks := false }, kinds := [], alts := [], laidByText := true, laidKinds := [.data], laidTests := true, laidLooks := .later }
def LogimmOverCardSaid : Prop := Claim7.holds Tryd.pinned (.plain (OpenSpec.ofChange logimmOverSpec)) logimmOverCard

/-- THE SECOND FORM's CARD OF 'cooperlaw02.LogimmDecodes'. -/
def logimmDecodesUptoCard : Claim7 := { stood := { row := logimmDecodesUptoRow, standIns := [], harness := (true, "1710e428d98e2f2aae7cfdc6f48eb6bf3c29e586721ca67a7612e70795cc61d4"), looks := false }, kinds := [], alts := [], laidByText := true, laidKinds := [.data], laidTests := true, laidLooks := .later }
def LogimmDecodesUptoCardSaid : Prop := Claim7.holds Tryd.pinned (.plain (OpenSpec.upto logimmDecodesSpec)) logimmDecodesUptoCard

/-- THE SECOND FORM's CARD OF 'cooperlaw02.LogimmEncodes'. -/
def logimmEncodesUptoCard : Claim7 := { stood := { row := logimmEncodesUptoRow, standIns := [], harness := (true, "1710e428d98e2f2aae7cfdc6f48eb6bf3c29e586721ca67a7612e70795cc61d4"), looks := false }, kinds := [], alts := [], laidByText := true, laidKinds := [.data], laidTests := true, laidLooks := .later }
def LogimmEncodesUptoCardSaid : Prop := Claim7.holds Tryd.pinned (.plain (OpenSpec.upto logimmEncodesSpec)) logimmEncodesUptoCard

/-- THE SECOND FORM's CARD OF 'cooperlaw02.LogimmAll'. -/
def logimmAllUptoCard : Claim7 := { stood := { row := logimmAllUptoRow, standIns := [], harness := (true, "1710e428d98e2f2aae7cfdc6f48eb6bf3c29e586721ca67a7612e70795cc61d4"), looks := false }, kinds := [], alts := [], laidByText := true, laidKinds := [.data], laidTests := true, laidLooks := .later }
def LogimmAllUptoCardSaid : Prop := Claim7.holds Tryd.pinned (.plain (OpenSpec.upto logimmAllSpec)) logimmAllUptoCard

/-- THE SECOND FORM's CARD OF 'cooperlaw02.LogimmBack'. -/
def logimmBackUptoCard : Claim7 := { stood := { row := logimmBackUptoRow, standIns := [], harness := (true, "1710e428d98e2f2aae7cfdc6f48eb6bf3c29e586721ca67a7612e70795cc61d4"), looks := false }, kinds := [], alts := [], laidByText := true, laidKinds := [.data], laidTests := true, laidLooks := .later }
def LogimmBackUptoCardSaid : Prop := Claim7.holds Tryd.pinned (.plain (OpenSpec.upto logimmBackSpec)) logimmBackUptoCard

/-- THE SECOND FORM's CARD OF 'cooperlaw02.LogimmOver'. -/
def logimmOverUptoCard : Claim7 := { stood := { row := logimmOverUptoRow, standIns := [], harness := (true, "1710e428d98e2f2aae7cfdc6f48eb6bf3c29e586721ca67a7612e70795cc61d4"), looks := false }, kinds := [], alts := [], laidByText := true, laidKinds := [.data], laidTests := true, laidLooks := .later }
def LogimmOverUptoCardSaid : Prop := Claim7.holds Tryd.pinned (.plain (OpenSpec.upto logimmOverSpec)) logimmOverUptoCard
end Rows
end Go.Proofs.YtmkeopglgfddjaaDoor
