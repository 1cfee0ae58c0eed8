/-
  NARROWER THAN 'FOR EVERY INPUT', by the rows' own cells (each row's printed sentence says how): FixupHoles: laid · FixupResolves: laid · FixupFills: laid · FixupBack: laid · FixupLinked: laid · FixupOne: laid.
  DERIVED. THE GIVEN ROWS OF THIS SEAT. 6 by the template 'for every input the law returns true; each argument reads behind the call as it read before'; 0 by the template 'total and deterministic' (their statements: YtjkhgljlipljdaaDoorTotals.lean).
  GIVEN WITH THE SEED: the statements are not yours to turn. If you find one false, say at which input.
  Laid BY PROGRAM, IN A SANDBOX (cutbox-rows.mjs): the forced cells as the released guide's own fill.sh prints them over the translation 9e200edcb8c5a7c7… (all of the seat's roots in one cut). By AI agents, Wed Nov 11 2026. No macro, syntax, notation, axiom, sorry.
-/
import Derived.Test.YtjkhgljlipljdaaDoorChecked
import GoSem.Claim
import GoSem.ClaimJoined
import GoSem.ClaimMapViews
import Derived.JoinedTies
import Derived.KernelRfl
namespace Go.Proofs.YtjkhgljlipljdaaDoor
/- THE CELL 'sum', in the pinned program and in every row, IS THE sha256 OF THE DUMP (.gsa) THAT YtjkhgljlipljdaaDoorProg.lean LOADS. Nothing in Lean hashes anything: it is a label: what it is worth is what the hold of that sum in a sandbox is worth. -/
noncomputable def Tryd.pinned : Pinned := { name := "ytjkhgljlipljdaadoor", sum := "9e200edcb8c5a7c763ddd2e91b5ff2832015cc24bb2ae9dc90392f8a62f03f7c", checked := Tryd.checked }
namespace Rows
def none {H : Type} : Left H := { results := [], args := [] }

/- WHAT THE LISTED PACKAGE-LEVEL VARIABLES READ AS WHEN THE CALL BEGINS. Each datum BY PROGRAM (the guide's laid-datum.mjs) off the statement by which the dump's own 'gosem.cut.vars' lays the variable. In a bare row this is a premise. The card (YtjkhgljlipljdaaDoorCards.lean) ties it to the program's text. -/
def laid_cooper_fixup_shapes {H : Type} : DataW H := .agg [.agg [.lit (.int .i64 0), .lit (.int .i64 0), .lit (.int .i64 0), .lit (.int .i64 0), .lit (.int .i64 0), .lit (.int .i64 0), .lit (.int .i64 0)], .agg [.lit (.int .i64 4), .lit (.int .i64 282), .lit (.int .i64 0), .lit (.int .i64 8), .lit (.int .i64 (-134217728)), .lit (.int .i64 134217724), .lit (.int .i64 4)], .agg [.lit (.int .i64 4), .lit (.int .i64 283), .lit (.int .i64 0), .lit (.int .i64 8), .lit (.int .i64 (-134217728)), .lit (.int .i64 134217724), .lit (.int .i64 4)], .agg [.lit (.int .i64 4), .lit (.int .i64 280), .lit (.int .i64 0), .lit (.int .i64 7), .lit (.int .i64 (-1048576)), .lit (.int .i64 1048572), .lit (.int .i64 4)], .agg [.lit (.int .i64 4), .lit (.int .i64 279), .lit (.int .i64 0), .lit (.int .i64 10), .lit (.int .i64 (-32768)), .lit (.int .i64 32764), .lit (.int .i64 4)], .agg [.lit (.int .i64 4), .lit (.int .i64 273), .lit (.int .i64 0), .lit (.int .i64 18), .lit (.int .i64 (-1048576)), .lit (.int .i64 1048572), .lit (.int .i64 4)], .agg [.lit (.int .i64 4), .lit (.int .i64 274), .lit (.int .i64 0), .lit (.int .i64 1), .lit (.int .i64 (-1048576)), .lit (.int .i64 1048575), .lit (.int .i64 1)], .agg [.lit (.int .i64 4), .lit (.int .i64 275), .lit (.int .i64 0), .lit (.int .i64 0), .lit (.int .i64 0), .lit (.int .i64 0), .lit (.int .i64 0)], .agg [.lit (.int .i64 4), .lit (.int .i64 277), .lit (.int .i64 0), .lit (.int .i64 0), .lit (.int .i64 0), .lit (.int .i64 0), .lit (.int .i64 0)], .agg [.lit (.int .i64 4), .lit (.int .i64 0), .lit (.int .i64 0), .lit (.int .i64 0), .lit (.int .i64 0), .lit (.int .i64 0), .lit (.int .i64 0)], .agg [.lit (.int .i64 1), .lit (.int .i64 0), .lit (.int .i64 0), .lit (.int .i64 0), .lit (.int .i64 (-128)), .lit (.int .i64 255), .lit (.int .i64 1)], .agg [.lit (.int .i64 4), .lit (.int .i64 258), .lit (.int .i64 261), .lit (.int .i64 0), .lit (.int .i64 (-2147483648)), .lit (.int .i64 4294967295), .lit (.int .i64 1)], .agg [.lit (.int .i64 8), .lit (.int .i64 257), .lit (.int .i64 260), .lit (.int .i64 0), .lit (.int .i64 (-9223372036854775808)), .lit (.int .i64 9223372036854775807), .lit (.int .i64 1)]]
def laid_cooper_fixup_loads {H : Type} : DataW H := .agg [.lit (.int .i64 278), .lit (.int .i64 284), .lit (.int .i64 285), .lit (.int .i64 286)]
def laid_math_bits_deBruijn64tab {H : Type} : DataW H := .agg [.lit (.int .u8 0), .lit (.int .u8 1), .lit (.int .u8 56), .lit (.int .u8 2), .lit (.int .u8 57), .lit (.int .u8 49), .lit (.int .u8 28), .lit (.int .u8 3), .lit (.int .u8 61), .lit (.int .u8 58), .lit (.int .u8 42), .lit (.int .u8 50), .lit (.int .u8 38), .lit (.int .u8 29), .lit (.int .u8 17), .lit (.int .u8 4), .lit (.int .u8 62), .lit (.int .u8 47), .lit (.int .u8 59), .lit (.int .u8 36), .lit (.int .u8 45), .lit (.int .u8 43), .lit (.int .u8 51), .lit (.int .u8 22), .lit (.int .u8 53), .lit (.int .u8 39), .lit (.int .u8 33), .lit (.int .u8 30), .lit (.int .u8 24), .lit (.int .u8 18), .lit (.int .u8 12), .lit (.int .u8 5), .lit (.int .u8 63), .lit (.int .u8 55), .lit (.int .u8 48), .lit (.int .u8 27), .lit (.int .u8 60), .lit (.int .u8 41), .lit (.int .u8 37), .lit (.int .u8 16), .lit (.int .u8 46), .lit (.int .u8 35), .lit (.int .u8 44), .lit (.int .u8 21), .lit (.int .u8 52), .lit (.int .u8 32), .lit (.int .u8 23), .lit (.int .u8 11), .lit (.int .u8 54), .lit (.int .u8 26), .lit (.int .u8 40), .lit (.int .u8 15), .lit (.int .u8 34), .lit (.int .u8 20), .lit (.int .u8 31), .lit (.int .u8 10), .lit (.int .u8 25), .lit (.int .u8 14), .lit (.int .u8 19), .lit (.int .u8 9), .lit (.int .u8 13), .lit (.int .u8 8), .lit (.int .u8 7), .lit (.int .u8 6)]
def laid_cooper_inst_one {H : Type} : DataW H := .agg [.lit (.int .i64 0), .lit (.int .i64 1)]
def laid_cooper_inst_reg {H : Type} : DataW H := .agg [.lit (.int .i64 0), .lit (.int .i64 31)]

/-- 'cooperlaw18.FixupHoles': WHATEVER THE INPUT: true; the input reads as it did. -/
def fixupHolesSpec : ChangeSpec := { name := "fixupHoles", fn := fun _ => fun
  | [d1, d2] => { results := [.lit (.bool true)], args := [d1, d2] }
  | _ => none }
def fixupHolesRow : OpenClaim := { program := "ytjkhgljlipljdaadoor", sum := "9e200edcb8c5a7c763ddd2e91b5ff2832015cc24bb2ae9dc90392f8a62f03f7c", func := "cooper/cooperlaw18.FixupHoles", spec := "fixupHoles", unfollowed := true, recurses := true, named := ["cooper/fixup.shapes", "cooper/fixup.loads"], apart := false, laid := [("cooper/fixup.shapes", laid_cooper_fixup_shapes), ("cooper/fixup.loads", laid_cooper_fixup_loads)] }
def FixupHolesSaid : Prop := fixupHolesRow.holds Tryd.pinned (OpenSpec.ofChange fixupHolesSpec)

/-- ITS FALSE NEIGHBOUR: 'it returns false'. Refute it at one input. -/
def fixupHolesWrong : ChangeSpec := { name := "fixupHoles", fn := fun _ => fun
  | [d1, d2] => { results := [.lit (.bool false)], args := [d1, d2] }
  | _ => none }
def FixupHolesWrongFalsely : Prop := fixupHolesRow.holds Tryd.pinned (OpenSpec.ofChange fixupHolesWrong)

/-- 'cooperlaw18.FixupResolves': WHATEVER THE INPUT: true; the input reads as it did. -/
def fixupResolvesSpec : ChangeSpec := { name := "fixupResolves", fn := fun _ => fun
  | [d] => { results := [.lit (.bool true)], args := [d] }
  | _ => none }
def fixupResolvesRow : OpenClaim := { program := "ytjkhgljlipljdaadoor", sum := "9e200edcb8c5a7c763ddd2e91b5ff2832015cc24bb2ae9dc90392f8a62f03f7c", func := "cooper/cooperlaw18.FixupResolves", spec := "fixupResolves", unfollowed := true, recurses := true, named := ["cooper/fixup.shapes", "cooper/fixup.loads"], apart := false, laid := [("cooper/fixup.shapes", laid_cooper_fixup_shapes), ("cooper/fixup.loads", laid_cooper_fixup_loads)] }
def FixupResolvesSaid : Prop := fixupResolvesRow.holds Tryd.pinned (OpenSpec.ofChange fixupResolvesSpec)

/-- ITS FALSE NEIGHBOUR: 'it returns false'. Refute it at one input. -/
def fixupResolvesWrong : ChangeSpec := { name := "fixupResolves", fn := fun _ => fun
  | [d] => { results := [.lit (.bool false)], args := [d] }
  | _ => none }
def FixupResolvesWrongFalsely : Prop := fixupResolvesRow.holds Tryd.pinned (OpenSpec.ofChange fixupResolvesWrong)

/-- 'cooperlaw18.FixupFills': WHATEVER THE INPUT: true; the input reads as it did. -/
def fixupFillsSpec : ChangeSpec := { name := "fixupFills", fn := fun _ => fun
  | [d1, d2, d3] => { results := [.lit (.bool true)], args := [d1, d2, d3] }
  | _ => none }
def fixupFillsRow : OpenClaim := { program := "ytjkhgljlipljdaadoor", sum := "9e200edcb8c5a7c763ddd2e91b5ff2832015cc24bb2ae9dc90392f8a62f03f7c", func := "cooper/cooperlaw18.FixupFills", spec := "fixupFills", unfollowed := true, recurses := true, named := ["cooper/fixup.shapes", "cooper/fixup.loads", "cooper/inst.one", "cooper/inst.reg", "math/bits.deBruijn64tab"], apart := false, laid := [("math/bits.deBruijn64tab", laid_math_bits_deBruijn64tab), ("cooper/inst.one", laid_cooper_inst_one), ("cooper/inst.reg", laid_cooper_inst_reg), ("cooper/fixup.shapes", laid_cooper_fixup_shapes), ("cooper/fixup.loads", laid_cooper_fixup_loads)] }
def FixupFillsSaid : Prop := fixupFillsRow.holds Tryd.pinned (OpenSpec.ofChange fixupFillsSpec)

/-- ITS FALSE NEIGHBOUR: 'it returns false'. Refute it at one input. -/
def fixupFillsWrong : ChangeSpec := { name := "fixupFills", fn := fun _ => fun
  | [d1, d2, d3] => { results := [.lit (.bool false)], args := [d1, d2, d3] }
  | _ => none }
def FixupFillsWrongFalsely : Prop := fixupFillsRow.holds Tryd.pinned (OpenSpec.ofChange fixupFillsWrong)

/-- 'cooperlaw18.FixupBack': WHATEVER THE INPUT: true; the input reads as it did. -/
def fixupBackSpec : ChangeSpec := { name := "fixupBack", fn := fun _ => fun
  | [d1, d2, d3] => { results := [.lit (.bool true)], args := [d1, d2, d3] }
  | _ => none }
def fixupBackRow : OpenClaim := { program := "ytjkhgljlipljdaadoor", sum := "9e200edcb8c5a7c763ddd2e91b5ff2832015cc24bb2ae9dc90392f8a62f03f7c", func := "cooper/cooperlaw18.FixupBack", spec := "fixupBack", unfollowed := true, recurses := true, named := ["cooper/fixup.shapes", "cooper/fixup.loads", "cooper/inst.one", "cooper/inst.reg", "math/bits.deBruijn64tab"], apart := false, laid := [("math/bits.deBruijn64tab", laid_math_bits_deBruijn64tab), ("cooper/inst.one", laid_cooper_inst_one), ("cooper/inst.reg", laid_cooper_inst_reg), ("cooper/fixup.shapes", laid_cooper_fixup_shapes), ("cooper/fixup.loads", laid_cooper_fixup_loads)] }
def FixupBackSaid : Prop := fixupBackRow.holds Tryd.pinned (OpenSpec.ofChange fixupBackSpec)

/-- ITS FALSE NEIGHBOUR: 'it returns false'. Refute it at one input. -/
def fixupBackWrong : ChangeSpec := { name := "fixupBack", fn := fun _ => fun
  | [d1, d2, d3] => { results := [.lit (.bool false)], args := [d1, d2, d3] }
  | _ => none }
def FixupBackWrongFalsely : Prop := fixupBackRow.holds Tryd.pinned (OpenSpec.ofChange fixupBackWrong)

/-- 'cooperlaw18.FixupLinked': WHATEVER THE INPUT: true; the input reads as it did. -/
def fixupLinkedSpec : ChangeSpec := { name := "fixupLinked", fn := fun _ => fun
  | [d1, d2, d3] => { results := [.lit (.bool true)], args := [d1, d2, d3] }
  | _ => none }
def fixupLinkedRow : OpenClaim := { program := "ytjkhgljlipljdaadoor", sum := "9e200edcb8c5a7c763ddd2e91b5ff2832015cc24bb2ae9dc90392f8a62f03f7c", func := "cooper/cooperlaw18.FixupLinked", spec := "fixupLinked", unfollowed := true, recurses := true, named := ["cooper/fixup.shapes", "cooper/fixup.loads"], apart := false, laid := [("cooper/fixup.shapes", laid_cooper_fixup_shapes), ("cooper/fixup.loads", laid_cooper_fixup_loads)] }
def FixupLinkedSaid : Prop := fixupLinkedRow.holds Tryd.pinned (OpenSpec.ofChange fixupLinkedSpec)

/-- ITS FALSE NEIGHBOUR: 'it returns false'. Refute it at one input. -/
def fixupLinkedWrong : ChangeSpec := { name := "fixupLinked", fn := fun _ => fun
  | [d1, d2, d3] => { results := [.lit (.bool false)], args := [d1, d2, d3] }
  | _ => none }
def FixupLinkedWrongFalsely : Prop := fixupLinkedRow.holds Tryd.pinned (OpenSpec.ofChange fixupLinkedWrong)

/-- 'cooperlaw18.FixupOne': WHATEVER THE INPUT: true; the input reads as it did. -/
def fixupOneSpec : ChangeSpec := { name := "fixupOne", fn := fun _ => fun
  | [d1, d2] => { results := [.lit (.bool true)], args := [d1, d2] }
  | _ => none }
def fixupOneRow : OpenClaim := { program := "ytjkhgljlipljdaadoor", sum := "9e200edcb8c5a7c763ddd2e91b5ff2832015cc24bb2ae9dc90392f8a62f03f7c", func := "cooper/cooperlaw18.FixupOne", spec := "fixupOne", unfollowed := true, recurses := true, named := ["cooper/fixup.shapes", "cooper/fixup.loads", "cooper/inst.one", "cooper/inst.reg", "math/bits.deBruijn64tab"], apart := false, laid := [("math/bits.deBruijn64tab", laid_math_bits_deBruijn64tab), ("cooper/inst.one", laid_cooper_inst_one), ("cooper/inst.reg", laid_cooper_inst_reg), ("cooper/fixup.shapes", laid_cooper_fixup_shapes), ("cooper/fixup.loads", laid_cooper_fixup_loads)] }
def FixupOneSaid : Prop := fixupOneRow.holds Tryd.pinned (OpenSpec.ofChange fixupOneSpec)

/-- ITS FALSE NEIGHBOUR: 'it returns false'. Refute it at one input. -/
def fixupOneWrong : ChangeSpec := { name := "fixupOne", fn := fun _ => fun
  | [d1, d2] => { results := [.lit (.bool false)], args := [d1, d2] }
  | _ => none }
def FixupOneWrongFalsely : Prop := fixupOneRow.holds Tryd.pinned (OpenSpec.ofChange fixupOneWrong)

/- THE SECOND FORM. 'bulk': how many values and letters a reading holds, each counted each time it is reached (what is shared counts as often as it is met; a slice's spare places count too). A statement '..UptoSaid' is the law's where the arguments, and the package variables that the reading takes, are together of bulk at most 1048576: NARROWER than '..Said'. Prove '..Said' where nothing that the law and all that it calls make is longer than what came in: it says more and counts as full. Else prove '..UptoSaid'. A law counts once. -/
mutual
def uptoBulk {H : Type} : DataW H → Nat
  | .lit (.string bytes) => bytes.length + 1
  | .lit _ => 1
  | .nil => 1
  | .ptr d => uptoBulk d + 1
  | .slice elems spare => uptoBulkAll elems + uptoBulkAll spare + 1
  | .agg parts => uptoBulkAll parts + 1
  | .iface _ d => uptoBulk d + 1
  | .map entries => uptoBulkEntries entries + 1
  | .held _ => 1
def uptoBulkAll {H : Type} : List (DataW H) → Nat
  | [] => 0
  | d :: r => uptoBulk d + uptoBulkAll r
def uptoBulkEntries {H : Type} : List (Lit × DataW H) → Nat
  | [] => 0
  | x :: r => uptoBulkEntry x + uptoBulkEntries r
def uptoBulkEntry {H : Type} : Lit × DataW H → Nat
  | (.string bytes, d) => bytes.length + uptoBulk d + 1
  | (_, d) => uptoBulk d + 1
 end
def uptoSmall : (H : Type) → List (DataW H) → Bool := fun _ ds => decide (uptoBulkAll ds ≤ 1048576)
def OpenSpec.upto (s : _root_.Go.ChangeSpec) : _root_.Go.OpenSpec := { _root_.Go.OpenSpec.ofChange s with cond := some uptoSmall }

/-- 'cooperlaw18.FixupHoles', WHERE WHAT IT READS IS OF BULK AT MOST 1048576: true; the input reads as it did. -/
def fixupHolesUptoRow : OpenClaim := { program := "ytjkhgljlipljdaadoor", sum := "9e200edcb8c5a7c763ddd2e91b5ff2832015cc24bb2ae9dc90392f8a62f03f7c", func := "cooper/cooperlaw18.FixupHoles", spec := "fixupHoles", unfollowed := true, recurses := true, named := ["cooper/fixup.shapes", "cooper/fixup.loads"], apart := false, laid := [("cooper/fixup.shapes", laid_cooper_fixup_shapes), ("cooper/fixup.loads", laid_cooper_fixup_loads)], narrowed := true }
def FixupHolesUptoSaid : Prop := fixupHolesUptoRow.holds Tryd.pinned (OpenSpec.upto fixupHolesSpec)

/-- 'cooperlaw18.FixupResolves', WHERE WHAT IT READS IS OF BULK AT MOST 1048576: true; the input reads as it did. -/
def fixupResolvesUptoRow : OpenClaim := { program := "ytjkhgljlipljdaadoor", sum := "9e200edcb8c5a7c763ddd2e91b5ff2832015cc24bb2ae9dc90392f8a62f03f7c", func := "cooper/cooperlaw18.FixupResolves", spec := "fixupResolves", unfollowed := true, recurses := true, named := ["cooper/fixup.shapes", "cooper/fixup.loads"], apart := false, laid := [("cooper/fixup.shapes", laid_cooper_fixup_shapes), ("cooper/fixup.loads", laid_cooper_fixup_loads)], narrowed := true }
def FixupResolvesUptoSaid : Prop := fixupResolvesUptoRow.holds Tryd.pinned (OpenSpec.upto fixupResolvesSpec)

/-- 'cooperlaw18.FixupFills', WHERE WHAT IT READS IS OF BULK AT MOST 1048576: true; the input reads as it did. -/
def fixupFillsUptoRow : OpenClaim := { program := "ytjkhgljlipljdaadoor", sum := "9e200edcb8c5a7c763ddd2e91b5ff2832015cc24bb2ae9dc90392f8a62f03f7c", func := "cooper/cooperlaw18.FixupFills", spec := "fixupFills", unfollowed := true, recurses := true, named := ["cooper/fixup.shapes", "cooper/fixup.loads", "cooper/inst.one", "cooper/inst.reg", "math/bits.deBruijn64tab"], apart := false, laid := [("math/bits.deBruijn64tab", laid_math_bits_deBruijn64tab), ("cooper/inst.one", laid_cooper_inst_one), ("cooper/inst.reg", laid_cooper_inst_reg), ("cooper/fixup.shapes", laid_cooper_fixup_shapes), ("cooper/fixup.loads", laid_cooper_fixup_loads)], narrowed := true }
def FixupFillsUptoSaid : Prop := fixupFillsUptoRow.holds Tryd.pinned (OpenSpec.upto fixupFillsSpec)

/-- 'cooperlaw18.FixupBack', WHERE WHAT IT READS IS OF BULK AT MOST 1048576: true; the input reads as it did. -/
def fixupBackUptoRow : OpenClaim := { program := "ytjkhgljlipljdaadoor", sum := "9e200edcb8c5a7c763ddd2e91b5ff2832015cc24bb2ae9dc90392f8a62f03f7c", func := "cooper/cooperlaw18.FixupBack", spec := "fixupBack", unfollowed := true, recurses := true, named := ["cooper/fixup.shapes", "cooper/fixup.loads", "cooper/inst.one", "cooper/inst.reg", "math/bits.deBruijn64tab"], apart := false, laid := [("math/bits.deBruijn64tab", laid_math_bits_deBruijn64tab), ("cooper/inst.one", laid_cooper_inst_one), ("cooper/inst.reg", laid_cooper_inst_reg), ("cooper/fixup.shapes", laid_cooper_fixup_shapes), ("cooper/fixup.loads", laid_cooper_fixup_loads)], narrowed := true }
def FixupBackUptoSaid : Prop := fixupBackUptoRow.holds Tryd.pinned (OpenSpec.upto fixupBackSpec)

/-- 'cooperlaw18.FixupLinked', WHERE WHAT IT READS IS OF BULK AT MOST 1048576: true; the input reads as it did. -/
def fixupLinkedUptoRow : OpenClaim := { program := "ytjkhgljlipljdaadoor", sum := "9e200edcb8c5a7c763ddd2e91b5ff2832015cc24bb2ae9dc90392f8a62f03f7c", func := "cooper/cooperlaw18.FixupLinked", spec := "fixupLinked", unfollowed := true, recurses := true, named := ["cooper/fixup.shapes", "cooper/fixup.loads"], apart := false, laid := [("cooper/fixup.shapes", laid_cooper_fixup_shapes), ("cooper/fixup.loads", laid_cooper_fixup_loads)], narrowed := true }
def FixupLinkedUptoSaid : Prop := fixupLinkedUptoRow.holds Tryd.pinned (OpenSpec.upto fixupLinkedSpec)

/-- 'cooperlaw18.FixupOne', WHERE WHAT IT READS IS OF BULK AT MOST 1048576: true; the input reads as it did. -/
def fixupOneUptoRow : OpenClaim := { program := "ytjkhgljlipljdaadoor", sum := "9e200edcb8c5a7c763ddd2e91b5ff2832015cc24bb2ae9dc90392f8a62f03f7c", func := "cooper/cooperlaw18.FixupOne", spec := "fixupOne", unfollowed := true, recurses := true, named := ["cooper/fixup.shapes", "cooper/fixup.loads", "cooper/inst.one", "cooper/inst.reg", "math/bits.deBruijn64tab"], apart := false, laid := [("math/bits.deBruijn64tab", laid_math_bits_deBruijn64tab), ("cooper/inst.one", laid_cooper_inst_one), ("cooper/inst.reg", laid_cooper_inst_reg), ("cooper/fixup.shapes", laid_cooper_fixup_shapes), ("cooper/fixup.loads", laid_cooper_fixup_loads)], narrowed := true }
def FixupOneUptoSaid : Prop := fixupOneUptoRow.holds Tryd.pinned (OpenSpec.upto fixupOneSpec)

end Rows
end Go.Proofs.YtjkhgljlipljdaaDoor
