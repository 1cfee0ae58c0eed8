/-
  NARROWER THAN 'FOR EVERY INPUT', by the rows' own cells (each row's printed sentence says how): LogimmDecodes: laid · LogimmEncodes: laid · LogimmAll: laid · LogimmBack: laid · LogimmOver: laid.
  DERIVED. THE GIVEN ROWS OF THIS SEAT. 5 by the template 'for every input the law returns true; each argument reads behind the call as it read before'; 0 by the template 'total and deterministic' (their statements: YtmkeopglgfddjaaDoorTotals.lean).
  GIVEN WITH THE SEED: the statements are not yours to turn. If you find one false, say at which input.
  Laid BY PROGRAM, IN A SANDBOX (cutbox-rows.mjs): the forced cells as the released guide's own fill.sh prints them over the translation 2fa3fe99d2403bb9… (all of the seat's roots in one cut). By AI agents, Wed Nov 11 2026. No macro, syntax, notation, axiom, sorry.
-/
import Derived.Test.YtmkeopglgfddjaaDoorChecked
import GoSem.Claim
import GoSem.ClaimJoined
import GoSem.ClaimMapViews
import Derived.JoinedTies
import Derived.KernelRfl
namespace Go.Proofs.YtmkeopglgfddjaaDoor
/- THE CELL 'sum', in the pinned program and in every row, IS THE sha256 OF THE DUMP (.gsa) THAT YtmkeopglgfddjaaDoorProg.lean LOADS. Nothing in Lean hashes anything: it is a label: what it is worth is what the hold of that sum in a sandbox is worth. -/
noncomputable def Tryd.pinned : Pinned := { name := "ytmkeopglgfddjaadoor", sum := "2fa3fe99d2403bb9e3116c558853895857afa56a58c6af3411be08abe852b4e8", checked := Tryd.checked }
namespace Rows
def none {H : Type} : Left H := { results := [], args := [] }

/- WHAT THE LISTED PACKAGE-LEVEL VARIABLES READ AS WHEN THE CALL BEGINS. Each datum BY PROGRAM (the guide's laid-datum.mjs) off the statement by which the dump's own 'gosem.cut.vars' lays the variable. In a bare row this is a premise. The card (YtmkeopglgfddjaaDoorCards.lean) ties it to the program's text. -/
def laid_math_bits_deBruijn64tab {H : Type} : DataW H := .agg [.lit (.int .u8 0), .lit (.int .u8 1), .lit (.int .u8 56), .lit (.int .u8 2), .lit (.int .u8 57), .lit (.int .u8 49), .lit (.int .u8 28), .lit (.int .u8 3), .lit (.int .u8 61), .lit (.int .u8 58), .lit (.int .u8 42), .lit (.int .u8 50), .lit (.int .u8 38), .lit (.int .u8 29), .lit (.int .u8 17), .lit (.int .u8 4), .lit (.int .u8 62), .lit (.int .u8 47), .lit (.int .u8 59), .lit (.int .u8 36), .lit (.int .u8 45), .lit (.int .u8 43), .lit (.int .u8 51), .lit (.int .u8 22), .lit (.int .u8 53), .lit (.int .u8 39), .lit (.int .u8 33), .lit (.int .u8 30), .lit (.int .u8 24), .lit (.int .u8 18), .lit (.int .u8 12), .lit (.int .u8 5), .lit (.int .u8 63), .lit (.int .u8 55), .lit (.int .u8 48), .lit (.int .u8 27), .lit (.int .u8 60), .lit (.int .u8 41), .lit (.int .u8 37), .lit (.int .u8 16), .lit (.int .u8 46), .lit (.int .u8 35), .lit (.int .u8 44), .lit (.int .u8 21), .lit (.int .u8 52), .lit (.int .u8 32), .lit (.int .u8 23), .lit (.int .u8 11), .lit (.int .u8 54), .lit (.int .u8 26), .lit (.int .u8 40), .lit (.int .u8 15), .lit (.int .u8 34), .lit (.int .u8 20), .lit (.int .u8 31), .lit (.int .u8 10), .lit (.int .u8 25), .lit (.int .u8 14), .lit (.int .u8 19), .lit (.int .u8 9), .lit (.int .u8 13), .lit (.int .u8 8), .lit (.int .u8 7), .lit (.int .u8 6)]

/-- 'cooperlaw02.LogimmDecodes': WHATEVER THE INPUT: true; the input reads as it did. -/
def logimmDecodesSpec : ChangeSpec := { name := "logimmDecodes", fn := fun _ => fun
  | [d1, d2, d3, d4, d5] => { results := [.lit (.bool true)], args := [d1, d2, d3, d4, d5] }
  | _ => none }
def logimmDecodesRow : OpenClaim := { program := "ytmkeopglgfddjaadoor", sum := "2fa3fe99d2403bb9e3116c558853895857afa56a58c6af3411be08abe852b4e8", func := "cooper/cooperlaw02.LogimmDecodes", spec := "logimmDecodes", unfollowed := true, recurses := true, named := ["math/bits.deBruijn64tab"], apart := false, laid := [("math/bits.deBruijn64tab", laid_math_bits_deBruijn64tab)] }
def LogimmDecodesSaid : Prop := logimmDecodesRow.holds Tryd.pinned (OpenSpec.ofChange logimmDecodesSpec)

/-- ITS FALSE NEIGHBOUR: 'it returns false'. Refute it at one input. -/
def logimmDecodesWrong : ChangeSpec := { name := "logimmDecodes", fn := fun _ => fun
  | [d1, d2, d3, d4, d5] => { results := [.lit (.bool false)], args := [d1, d2, d3, d4, d5] }
  | _ => none }
def LogimmDecodesWrongFalsely : Prop := logimmDecodesRow.holds Tryd.pinned (OpenSpec.ofChange logimmDecodesWrong)

/-- 'cooperlaw02.LogimmEncodes': WHATEVER THE INPUT: true; the input reads as it did. -/
def logimmEncodesSpec : ChangeSpec := { name := "logimmEncodes", fn := fun _ => fun
  | [d1, d2] => { results := [.lit (.bool true)], args := [d1, d2] }
  | _ => none }
def logimmEncodesRow : OpenClaim := { program := "ytmkeopglgfddjaadoor", sum := "2fa3fe99d2403bb9e3116c558853895857afa56a58c6af3411be08abe852b4e8", func := "cooper/cooperlaw02.LogimmEncodes", spec := "logimmEncodes", unfollowed := true, recurses := true, named := ["math/bits.deBruijn64tab"], apart := false, laid := [("math/bits.deBruijn64tab", laid_math_bits_deBruijn64tab)] }
def LogimmEncodesSaid : Prop := logimmEncodesRow.holds Tryd.pinned (OpenSpec.ofChange logimmEncodesSpec)

/-- ITS FALSE NEIGHBOUR: 'it returns false'. Refute it at one input. -/
def logimmEncodesWrong : ChangeSpec := { name := "logimmEncodes", fn := fun _ => fun
  | [d1, d2] => { results := [.lit (.bool false)], args := [d1, d2] }
  | _ => none }
def LogimmEncodesWrongFalsely : Prop := logimmEncodesRow.holds Tryd.pinned (OpenSpec.ofChange logimmEncodesWrong)

/-- 'cooperlaw02.LogimmAll': WHATEVER THE INPUT: true; the input reads as it did. -/
def logimmAllSpec : ChangeSpec := { name := "logimmAll", fn := fun _ => fun
  | [d1, d2] => { results := [.lit (.bool true)], args := [d1, d2] }
  | _ => none }
def logimmAllRow : OpenClaim := { program := "ytmkeopglgfddjaadoor", sum := "2fa3fe99d2403bb9e3116c558853895857afa56a58c6af3411be08abe852b4e8", func := "cooper/cooperlaw02.LogimmAll", spec := "logimmAll", unfollowed := true, recurses := true, named := ["math/bits.deBruijn64tab"], apart := false, laid := [("math/bits.deBruijn64tab", laid_math_bits_deBruijn64tab)] }
def LogimmAllSaid : Prop := logimmAllRow.holds Tryd.pinned (OpenSpec.ofChange logimmAllSpec)

/-- ITS FALSE NEIGHBOUR: 'it returns false'. Refute it at one input. -/
def logimmAllWrong : ChangeSpec := { name := "logimmAll", fn := fun _ => fun
  | [d1, d2] => { results := [.lit (.bool false)], args := [d1, d2] }
  | _ => none }
def LogimmAllWrongFalsely : Prop := logimmAllRow.holds Tryd.pinned (OpenSpec.ofChange logimmAllWrong)

/-- 'cooperlaw02.LogimmBack': WHATEVER THE INPUT: true; the input reads as it did. -/
def logimmBackSpec : ChangeSpec := { name := "logimmBack", fn := fun _ => fun
  | [d1, d2, d3, d4, d5, d6] => { results := [.lit (.bool true)], args := [d1, d2, d3, d4, d5, d6] }
  | _ => none }
def logimmBackRow : OpenClaim := { program := "ytmkeopglgfddjaadoor", sum := "2fa3fe99d2403bb9e3116c558853895857afa56a58c6af3411be08abe852b4e8", func := "cooper/cooperlaw02.LogimmBack", spec := "logimmBack", unfollowed := true, recurses := true, named := ["math/bits.deBruijn64tab"], apart := false, laid := [("math/bits.deBruijn64tab", laid_math_bits_deBruijn64tab)] }
def LogimmBackSaid : Prop := logimmBackRow.holds Tryd.pinned (OpenSpec.ofChange logimmBackSpec)

/-- ITS FALSE NEIGHBOUR: 'it returns false'. Refute it at one input. -/
def logimmBackWrong : ChangeSpec := { name := "logimmBack", fn := fun _ => fun
  | [d1, d2, d3, d4, d5, d6] => { results := [.lit (.bool false)], args := [d1, d2, d3, d4, d5, d6] }
  | _ => none }
def LogimmBackWrongFalsely : Prop := logimmBackRow.holds Tryd.pinned (OpenSpec.ofChange logimmBackWrong)

/-- 'cooperlaw02.LogimmOver': WHATEVER THE INPUT: true; the input reads as it did. -/
def logimmOverSpec : ChangeSpec := { name := "logimmOver", fn := fun _ => fun
  | [d1, d2] => { results := [.lit (.bool true)], args := [d1, d2] }
  | _ => none }
def logimmOverRow : OpenClaim := { program := "ytmkeopglgfddjaadoor", sum := "2fa3fe99d2403bb9e3116c558853895857afa56a58c6af3411be08abe852b4e8", func := "cooper/cooperlaw02.LogimmOver", spec := "logimmOver", unfollowed := true, recurses := true, named := ["math/bits.deBruijn64tab"], apart := false, laid := [("math/bits.deBruijn64tab", laid_math_bits_deBruijn64tab)] }
def LogimmOverSaid : Prop := logimmOverRow.holds Tryd.pinned (OpenSpec.ofChange logimmOverSpec)

/-- ITS FALSE NEIGHBOUR: 'it returns false'. Refute it at one input. -/
def logimmOverWrong : ChangeSpec := { name := "logimmOver", fn := fun _ => fun
  | [d1, d2] => { results := [.lit (.bool false)], args := [d1, d2] }
  | _ => none }
def LogimmOverWrongFalsely : Prop := logimmOverRow.holds Tryd.pinned (OpenSpec.ofChange logimmOverWrong)

/- THE SECOND FORM. 'bulk': how many values and letters a reading holds, each counted each time it is reached (what is shared counts as often as it is met; a slice's spare places count too). A statement '..UptoSaid' is the law's where the arguments, and the package variables that the reading takes, are together of bulk at most 1048576: NARROWER than '..Said'. Prove '..Said' where nothing that the law and all that it calls make is longer than what came in: it says more and counts as full. Else prove '..UptoSaid'. A law counts once. -/
mutual
def uptoBulk {H : Type} : DataW H → Nat
  | .lit (.string bytes) => bytes.length + 1
  | .lit _ => 1
  | .nil => 1
  | .ptr d => uptoBulk d + 1
  | .slice elems spare => uptoBulkAll elems + uptoBulkAll spare + 1
  | .agg parts => uptoBulkAll parts + 1
  | .iface _ d => uptoBulk d + 1
  | .map entries => uptoBulkEntries entries + 1
  | .held _ => 1
def uptoBulkAll {H : Type} : List (DataW H) → Nat
  | [] => 0
  | d :: r => uptoBulk d + uptoBulkAll r
def uptoBulkEntries {H : Type} : List (Lit × DataW H) → Nat
  | [] => 0
  | x :: r => uptoBulkEntry x + uptoBulkEntries r
def uptoBulkEntry {H : Type} : Lit × DataW H → Nat
  | (.string bytes, d) => bytes.length + uptoBulk d + 1
  | (_, d) => uptoBulk d + 1
 end
def uptoSmall : (H : Type) → List (DataW H) → Bool := fun _ ds => decide (uptoBulkAll ds ≤ 1048576)
def OpenSpec.upto (s : _root_.Go.ChangeSpec) : _root_.Go.OpenSpec := { _root_.Go.OpenSpec.ofChange s with cond := some uptoSmall }

/-- 'cooperlaw02.LogimmDecodes', WHERE WHAT IT READS IS OF BULK AT MOST 1048576: true; the input reads as it did. -/
def logimmDecodesUptoRow : OpenClaim := { program := "ytmkeopglgfddjaadoor", sum := "2fa3fe99d2403bb9e3116c558853895857afa56a58c6af3411be08abe852b4e8", func := "cooper/cooperlaw02.LogimmDecodes", spec := "logimmDecodes", unfollowed := true, recurses := true, named := ["math/bits.deBruijn64tab"], apart := false, laid := [("math/bits.deBruijn64tab", laid_math_bits_deBruijn64tab)], narrowed := true }
def LogimmDecodesUptoSaid : Prop := logimmDecodesUptoRow.holds Tryd.pinned (OpenSpec.upto logimmDecodesSpec)

/-- 'cooperlaw02.LogimmEncodes', WHERE WHAT IT READS IS OF BULK AT MOST 1048576: true; the input reads as it did. -/
def logimmEncodesUptoRow : OpenClaim := { program := "ytmkeopglgfddjaadoor", sum := "2fa3fe99d2403bb9e3116c558853895857afa56a58c6af3411be08abe852b4e8", func := "cooper/cooperlaw02.LogimmEncodes", spec := "logimmEncodes", unfollowed := true, recurses := true, named := ["math/bits.deBruijn64tab"], apart := false, laid := [("math/bits.deBruijn64tab", laid_math_bits_deBruijn64tab)], narrowed := true }
def LogimmEncodesUptoSaid : Prop := logimmEncodesUptoRow.holds Tryd.pinned (OpenSpec.upto logimmEncodesSpec)

/-- 'cooperlaw02.LogimmAll', WHERE WHAT IT READS IS OF BULK AT MOST 1048576: true; the input reads as it did. -/
def logimmAllUptoRow : OpenClaim := { program := "ytmkeopglgfddjaadoor", sum := "2fa3fe99d2403bb9e3116c558853895857afa56a58c6af3411be08abe852b4e8", func := "cooper/cooperlaw02.LogimmAll", spec := "logimmAll", unfollowed := true, recurses := true, named := ["math/bits.deBruijn64tab"], apart := false, laid := [("math/bits.deBruijn64tab", laid_math_bits_deBruijn64tab)], narrowed := true }
def LogimmAllUptoSaid : Prop := logimmAllUptoRow.holds Tryd.pinned (OpenSpec.upto logimmAllSpec)

/-- 'cooperlaw02.LogimmBack', WHERE WHAT IT READS IS OF BULK AT MOST 1048576: true; the input reads as it did. -/
def logimmBackUptoRow : OpenClaim := { program := "ytmkeopglgfddjaadoor", sum := "2fa3fe99d2403bb9e3116c558853895857afa56a58c6af3411be08abe852b4e8", func := "cooper/cooperlaw02.LogimmBack", spec := "logimmBack", unfollowed := true, recurses := true, named := ["math/bits.deBruijn64tab"], apart := false, laid := [("math/bits.deBruijn64tab", laid_math_bits_deBruijn64tab)], narrowed := true }
def LogimmBackUptoSaid : Prop := logimmBackUptoRow.holds Tryd.pinned (OpenSpec.upto logimmBackSpec)

/-- 'cooperlaw02.LogimmOver', WHERE WHAT IT READS IS OF BULK AT MOST 1048576: true; the input reads as it did. -/
def logimmOverUptoRow : OpenClaim := { program := "ytmkeopglgfddjaadoor", sum := "2fa3fe99d2403bb9e3116c558853895857afa56a58c6af3411be08abe852b4e8", func := "cooper/cooperlaw02.LogimmOver", spec := "logimmOver", unfollowed := true, recurses := true, named := ["math/bits.deBruijn64tab"], apart := false, laid := [("math/bits.deBruijn64tab", laid_math_bits_deBruijn64tab)], narrowed := true }
def LogimmOverUptoSaid : Prop := logimmOverUptoRow.holds Tryd.pinned (OpenSpec.upto logimmOverSpec)

end Rows
end Go.Proofs.YtmkeopglgfddjaaDoor
