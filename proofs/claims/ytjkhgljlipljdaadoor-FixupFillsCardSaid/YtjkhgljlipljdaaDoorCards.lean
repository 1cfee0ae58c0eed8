/-
  DERIVED. GIVEN WITH THE SEED: THE CARDS: each row of YtjkhgljlipljdaaDoorRows.lean that lists a variable, with what it lists TIED to the program's text (the seventh form; the later family's looks); each row that meets fmt, with fmt's text TOLD by the authors' own Lean function (tested against real Go, not proved from fmt's source: count such statements apart). THE CARD IS WHAT COUNTS. Prove the row's statement (the work); the ties are given (YtjkhgljlipljdaaDoorTie.lean); close each card by the builder's one call (the guide's Derived/Test/ToyasCard.lean, 'card_holds'). Laid BY PROGRAM, IN A SANDBOX (cutbox-door.mjs). By AI agents, Wed Nov 11 2026. No macro, syntax, notation, axiom, sorry.
-/
import Derived.Test.YtjkhgljlipljdaaDoorRows
import GoSem.ClaimSeven
namespace Go.Proofs.YtjkhgljlipljdaaDoor
namespace Rows

/-- THE TIED CARD OF 'cooperlaw18.FixupHoles'. -/
def fixupHolesCard : Claim7 := { stood := { row := fixupHolesRow, standIns := [], harness := (true, "62c89462d43892d7267fc8a8f8e3989dbc09091ef7461000e271cc864a736c63"), looks := false }, kinds := [], alts := [], laidByText := true, laidKinds := [.data, .data], laidTests := true, laidLooks := .later }
def FixupHolesCardSaid : Prop := Claim7.holds Tryd.pinned (.plain (OpenSpec.ofChange fixupHolesSpec)) fixupHolesCard

/-- THE TIED CARD OF 'cooperlaw18.FixupResolves'. -/
def fixupResolvesCard : Claim7 := { stood := { row := fixupResolvesRow, standIns := [], harness := (true, "62c89462d43892d7267fc8a8f8e3989dbc09091ef7461000e271cc864a736c63"), looks := false }, kinds := [], alts := [], laidByText := true, laidKinds := [.data, .data], laidTests := true, laidLooks := .later }
def FixupResolvesCardSaid : Prop := Claim7.holds Tryd.pinned (.plain (OpenSpec.ofChange fixupResolvesSpec)) fixupResolvesCard

/-- THE TIED CARD OF 'cooperlaw18.FixupFills'. -/
def fixupFillsCard : Claim7 := { stood := { row := fixupFillsRow, standIns := [], harness := (true, "62c89462d43892d7267fc8a8f8e3989dbc09091ef7461000e271cc864a736c63"), looks := false }, kinds := [], alts := [], laidByText := true, laidKinds := [.data, .data, .data, .data, .data], laidTests := true, laidLooks := .later }
def FixupFillsCardSaid : Prop := Claim7.holds Tryd.pinned (.plain (OpenSpec.ofChange fixupFillsSpec)) fixupFillsCard

/-- THE TIED CARD OF 'cooperlaw18.FixupBack'. -/
def fixupBackCard : Claim7 := { stood := { row := fixupBackRow, standIns := [], harness := (true, "62c89462d43892d7267fc8a8f8e3989dbc09091ef7461000e271cc864a736c63"), looks := false }, kinds := [], alts := [], laidByText := true, laidKinds := [.data, .data, .data, .data, .data], laidTests := true, laidLooks := .later }
def FixupBackCardSaid : Prop := Claim7.holds Tryd.pinned (.plain (OpenSpec.ofChange fixupBackSpec)) fixupBackCard

/-- THE TIED CARD OF 'cooperlaw18.FixupLinked'. -/
def fixupLinkedCard : Claim7 := { stood := { row := fixupLinkedRow, standIns := [], harness := (true, "62c89462d43892d7267fc8a8f8e3989dbc09091ef7461000e271cc864a736c63"), looks := false }, kinds := [], alts := [], laidByText := true, laidKinds := [.data, .data], laidTests := true, laidLooks := .later }
def FixupLinkedCardSaid : Prop := Claim7.holds Tryd.pinned (.plain (OpenSpec.ofChange fixupLinkedSpec)) fixupLinkedCard

/-- THE TIED CARD OF 'cooperlaw18.FixupOne'. -/
def fixupOneCard : Claim7 := { stood := { row := fixupOneRow, standIns := [], harness := (true, "62c89462d43892d7267fc8a8f8e3989dbc09091ef7461000e271cc864a736c63"), looks := false }, kinds := [], alts := [], laidByText := true, laidKinds := [.data, .data, .data, .data, .data], laidTests := true, laidLooks := .later }
def FixupOneCardSaid : Prop := Claim7.holds Tryd.pinned (.plain (OpenSpec.ofChange fixupOneSpec)) fixupOneCard

/-- THE SECOND FORM's CARD OF 'cooperlaw18.FixupHoles'. -/
def fixupHolesUptoCard : Claim7 := { stood := { row := fixupHolesUptoRow, standIns := [], harness := (true, "62c89462d43892d7267fc8a8f8e3989dbc09091ef7461000e271cc864a736c63"), looks := false }, kinds := [], alts := [], laidByText := true, laidKinds := [.data, .data], laidTests := true, laidLooks := .later }
def FixupHolesUptoCardSaid : Prop := Claim7.holds Tryd.pinned (.plain (OpenSpec.upto fixupHolesSpec)) fixupHolesUptoCard

/-- THE SECOND FORM's CARD OF 'cooperlaw18.FixupResolves'. -/
def fixupResolvesUptoCard : Claim7 := { stood := { row := fixupResolvesUptoRow, standIns := [], harness := (true, "62c89462d43892d7267fc8a8f8e3989dbc09091ef7461000e271cc864a736c63"), looks := false }, kinds := [], alts := [], laidByText := true, laidKinds := [.data, .data], laidTests := true, laidLooks := .later }
def FixupResolvesUptoCardSaid : Prop := Claim7.holds Tryd.pinned (.plain (OpenSpec.upto fixupResolvesSpec)) fixupResolvesUptoCard

/-- THE SECOND FORM's CARD OF 'cooperlaw18.FixupFills'. -/
def fixupFillsUptoCard : Claim7 := { stood := { row := fixupFillsUptoRow, standIns := [], harness := (true, "62c89462d43892d7267fc8a8f8e3989dbc09091ef7461000e271cc864a736c63"), looks := false }, kinds := [], alts := [], laidByText := true, laidKinds := [.data, .data, .data, .data, .data], laidTests := true, laidLooks := .later }
def FixupFillsUptoCardSaid : Prop := Claim7.holds Tryd.pinned (.plain (OpenSpec.upto fixupFillsSpec)) fixupFillsUptoCard

/-- THE SECOND FORM's CARD OF 'cooperlaw18.FixupBack'. -/
def fixupBackUptoCard : Claim7 := { stood := { row := fixupBackUptoRow, standIns := [], harness := (true, "62c89462d43892d7267fc8a8f8e3989dbc09091ef7461000e271cc864a736c63"), looks := false }, kinds := [], alts := [], laidByText := true, laidKinds := [.data, .data, .data, .data, .data], laidTests := true, laidLooks := .later }
def FixupBackUptoCardSaid : Prop := Claim7.holds Tryd.pinned (.plain (OpenSpec.upto fixupBackSpec)) fixupBackUptoCard

/-- THE SECOND FORM's CARD OF 'cooperlaw18.FixupLinked'. -/
def fixupLinkedUptoCard : Claim7 := { stood := { row := fixupLinkedUptoRow, standIns := [], harness := (true, "62c89462d43892d7267fc8a8f8e3989dbc09091ef7461000e271cc864a736c63"), looks := false }, kinds := [], alts := [], laidByText := true, laidKinds := [.data, .data], laidTests := true, laidLooks := .later }
def FixupLinkedUptoCardSaid : Prop := Claim7.holds Tryd.pinned (.plain (OpenSpec.upto fixupLinkedSpec)) fixupLinkedUptoCard

/-- THE SECOND FORM's CARD OF 'cooperlaw18.FixupOne'. -/
def fixupOneUptoCard : Claim7 := { stood := { row := fixupOneUptoRow, standIns := [], harness := (true, "62c89462d43892d7267fc8a8f8e3989dbc09091ef7461000e271cc864a736c63"), looks := false }, kinds := [], alts := [], laidByText := true, laidKinds := [.data, .data, .data, .data, .data], laidTests := true, laidLooks := .later }
def FixupOneUptoCardSaid : Prop := Claim7.holds Tryd.pinned (.plain (OpenSpec.upto fixupOneSpec)) fixupOneUptoCard
end Rows
end Go.Proofs.YtjkhgljlipljdaaDoor
