/-
  NARROWER THAN 'FOR EVERY INPUT', by the rows' own cells (each row's printed sentence says how): SubsetSays: laid · SubsetBack: laid · SubsetRises: laid · SubsetOther: laid · SubsetWalk: laid.
  DERIVED. THE GIVEN ROWS OF THIS SEAT. 5 by the template 'for every input the law returns true; each argument reads behind the call as it read before'; 0 by the template 'total and deterministic' (their statements: YtnoacmnhinoohaaDoorTotals.lean).
  GIVEN WITH THE SEED: the statements are not yours to turn. If you find one false, say at which input.
  Laid BY PROGRAM, IN A SANDBOX (cutbox-rows.mjs): the forced cells as the released guide's own fill.sh prints them over the translation c3ccc0c5a4c5acdc… (all of the seat's roots in one cut). By AI agents, Wed Nov 11 2026. No macro, syntax, notation, axiom, sorry.
-/
import Derived.Test.YtnoacmnhinoohaaDoorChecked
import GoSem.Claim
import GoSem.ClaimJoined
import GoSem.ClaimMapViews
import Derived.JoinedTies
import Derived.KernelRfl
namespace Go.Proofs.YtnoacmnhinoohaaDoor
/- THE CELL 'sum', in the pinned program and in every row, IS THE sha256 OF THE DUMP (.gsa) THAT YtnoacmnhinoohaaDoorProg.lean LOADS. Nothing in Lean hashes anything: it is a label: what it is worth is what the hold of that sum in a sandbox is worth. -/
noncomputable def Tryd.pinned : Pinned := { name := "ytnoacmnhinoohaadoor", sum := "c3ccc0c5a4c5acdc1a1f014a08273bda8ea336b74a840a7a94af1bbe04702c80", checked := Tryd.checked }
namespace Rows
def none {H : Type} : Left H := { results := [], args := [] }

/- WHAT THE LISTED PACKAGE-LEVEL VARIABLES READ AS WHEN THE CALL BEGINS. Each datum BY PROGRAM (the guide's laid-datum.mjs) off the statement by which the dump's own 'gosem.cut.vars' lays the variable. In a bare row this is a premise. The card (YtnoacmnhinoohaaDoorCards.lean) ties it to the program's text. -/
def laid_math_bits_deBruijn32tab {H : Type} : DataW H := .agg [.lit (.int .u8 0), .lit (.int .u8 1), .lit (.int .u8 28), .lit (.int .u8 2), .lit (.int .u8 29), .lit (.int .u8 14), .lit (.int .u8 24), .lit (.int .u8 3), .lit (.int .u8 30), .lit (.int .u8 22), .lit (.int .u8 20), .lit (.int .u8 15), .lit (.int .u8 25), .lit (.int .u8 17), .lit (.int .u8 4), .lit (.int .u8 8), .lit (.int .u8 31), .lit (.int .u8 27), .lit (.int .u8 13), .lit (.int .u8 23), .lit (.int .u8 21), .lit (.int .u8 19), .lit (.int .u8 16), .lit (.int .u8 7), .lit (.int .u8 26), .lit (.int .u8 12), .lit (.int .u8 18), .lit (.int .u8 6), .lit (.int .u8 11), .lit (.int .u8 5), .lit (.int .u8 10), .lit (.int .u8 9)]

/-- 'castlaw.SubsetSays': WHATEVER THE INPUT: true; the input reads as it did. -/
def subsetSaysSpec : ChangeSpec := { name := "subsetSays", fn := fun _ => fun
  | [d1, d2, d3, d4] => { results := [.lit (.bool true)], args := [d1, d2, d3, d4] }
  | _ => none }
def subsetSaysRow : OpenClaim := { program := "ytnoacmnhinoohaadoor", sum := "c3ccc0c5a4c5acdc1a1f014a08273bda8ea336b74a840a7a94af1bbe04702c80", func := "lotcaster/castlaw.SubsetSays", spec := "subsetSays", named := ["math/bits.deBruijn32tab"], apart := false, laid := [("math/bits.deBruijn32tab", laid_math_bits_deBruijn32tab)] }
def SubsetSaysSaid : Prop := subsetSaysRow.holds Tryd.pinned (OpenSpec.ofChange subsetSaysSpec)

/-- ITS FALSE NEIGHBOUR: 'it returns false'. Refute it at one input. -/
def subsetSaysWrong : ChangeSpec := { name := "subsetSays", fn := fun _ => fun
  | [d1, d2, d3, d4] => { results := [.lit (.bool false)], args := [d1, d2, d3, d4] }
  | _ => none }
def SubsetSaysWrongFalsely : Prop := subsetSaysRow.holds Tryd.pinned (OpenSpec.ofChange subsetSaysWrong)

/-- 'castkeep.SubsetBack': WHATEVER THE INPUT: true; the input reads as it did. -/
def subsetBackSpec : ChangeSpec := { name := "subsetBack", fn := fun _ => fun
  | [d1, d2, d3] => { results := [.lit (.bool true)], args := [d1, d2, d3] }
  | _ => none }
def subsetBackRow : OpenClaim := { program := "ytnoacmnhinoohaadoor", sum := "c3ccc0c5a4c5acdc1a1f014a08273bda8ea336b74a840a7a94af1bbe04702c80", func := "lotcaster/castkeep.SubsetBack", spec := "subsetBack", named := ["math/bits.deBruijn32tab"], apart := false, laid := [("math/bits.deBruijn32tab", laid_math_bits_deBruijn32tab)] }
def SubsetBackSaid : Prop := subsetBackRow.holds Tryd.pinned (OpenSpec.ofChange subsetBackSpec)

/-- ITS FALSE NEIGHBOUR: 'it returns false'. Refute it at one input. -/
def subsetBackWrong : ChangeSpec := { name := "subsetBack", fn := fun _ => fun
  | [d1, d2, d3] => { results := [.lit (.bool false)], args := [d1, d2, d3] }
  | _ => none }
def SubsetBackWrongFalsely : Prop := subsetBackRow.holds Tryd.pinned (OpenSpec.ofChange subsetBackWrong)

/-- 'castkeep.SubsetRises': WHATEVER THE INPUT: true; the input reads as it did. -/
def subsetRisesSpec : ChangeSpec := { name := "subsetRises", fn := fun _ => fun
  | [d1, d2, d3] => { results := [.lit (.bool true)], args := [d1, d2, d3] }
  | _ => none }
def subsetRisesRow : OpenClaim := { program := "ytnoacmnhinoohaadoor", sum := "c3ccc0c5a4c5acdc1a1f014a08273bda8ea336b74a840a7a94af1bbe04702c80", func := "lotcaster/castkeep.SubsetRises", spec := "subsetRises", named := ["math/bits.deBruijn32tab"], apart := false, laid := [("math/bits.deBruijn32tab", laid_math_bits_deBruijn32tab)] }
def SubsetRisesSaid : Prop := subsetRisesRow.holds Tryd.pinned (OpenSpec.ofChange subsetRisesSpec)

/-- ITS FALSE NEIGHBOUR: 'it returns false'. Refute it at one input. -/
def subsetRisesWrong : ChangeSpec := { name := "subsetRises", fn := fun _ => fun
  | [d1, d2, d3] => { results := [.lit (.bool false)], args := [d1, d2, d3] }
  | _ => none }
def SubsetRisesWrongFalsely : Prop := subsetRisesRow.holds Tryd.pinned (OpenSpec.ofChange subsetRisesWrong)

/-- 'castkeep.SubsetOther': WHATEVER THE INPUT: true; the input reads as it did. -/
def subsetOtherSpec : ChangeSpec := { name := "subsetOther", fn := fun _ => fun
  | [d1, d2] => { results := [.lit (.bool true)], args := [d1, d2] }
  | _ => none }
def subsetOtherRow : OpenClaim := { program := "ytnoacmnhinoohaadoor", sum := "c3ccc0c5a4c5acdc1a1f014a08273bda8ea336b74a840a7a94af1bbe04702c80", func := "lotcaster/castkeep.SubsetOther", spec := "subsetOther", unfollowed := true, recurses := true, named := ["math/bits.deBruijn32tab"], apart := false, laid := [("math/bits.deBruijn32tab", laid_math_bits_deBruijn32tab)] }
def SubsetOtherSaid : Prop := subsetOtherRow.holds Tryd.pinned (OpenSpec.ofChange subsetOtherSpec)

/-- ITS FALSE NEIGHBOUR: 'it returns false'. Refute it at one input. -/
def subsetOtherWrong : ChangeSpec := { name := "subsetOther", fn := fun _ => fun
  | [d1, d2] => { results := [.lit (.bool false)], args := [d1, d2] }
  | _ => none }
def SubsetOtherWrongFalsely : Prop := subsetOtherRow.holds Tryd.pinned (OpenSpec.ofChange subsetOtherWrong)

/-- 'castkeep.SubsetWalk': WHATEVER THE INPUT: true; the input reads as it did. -/
def subsetWalkSpec : ChangeSpec := { name := "subsetWalk", fn := fun _ => fun
  | [d1, d2] => { results := [.lit (.bool true)], args := [d1, d2] }
  | _ => none }
def subsetWalkRow : OpenClaim := { program := "ytnoacmnhinoohaadoor", sum := "c3ccc0c5a4c5acdc1a1f014a08273bda8ea336b74a840a7a94af1bbe04702c80", func := "lotcaster/castkeep.SubsetWalk", spec := "subsetWalk", named := ["math/bits.deBruijn32tab"], apart := false, laid := [("math/bits.deBruijn32tab", laid_math_bits_deBruijn32tab)] }
def SubsetWalkSaid : Prop := subsetWalkRow.holds Tryd.pinned (OpenSpec.ofChange subsetWalkSpec)

/-- ITS FALSE NEIGHBOUR: 'it returns false'. Refute it at one input. -/
def subsetWalkWrong : ChangeSpec := { name := "subsetWalk", fn := fun _ => fun
  | [d1, d2] => { results := [.lit (.bool false)], args := [d1, d2] }
  | _ => none }
def SubsetWalkWrongFalsely : Prop := subsetWalkRow.holds Tryd.pinned (OpenSpec.ofChange subsetWalkWrong)

/- THE SECOND FORM. 'bulk': how many values and letters a reading holds, each counted each time it is reached (what is shared counts as often as it is met; a slice's spare places count too). A statement '..UptoSaid' is the law's where the arguments, and the package variables that the reading takes, are together of bulk at most 1048576: NARROWER than '..Said'. Prove '..Said' where nothing that the law and all that it calls make is longer than what came in: it says more and counts as full. Else prove '..UptoSaid'. A law counts once. -/
mutual
def uptoBulk {H : Type} : DataW H → Nat
  | .lit (.string bytes) => bytes.length + 1
  | .lit _ => 1
  | .nil => 1
  | .ptr d => uptoBulk d + 1
  | .slice elems spare => uptoBulkAll elems + uptoBulkAll spare + 1
  | .agg parts => uptoBulkAll parts + 1
  | .iface _ d => uptoBulk d + 1
  | .map entries => uptoBulkEntries entries + 1
  | .held _ => 1
def uptoBulkAll {H : Type} : List (DataW H) → Nat
  | [] => 0
  | d :: r => uptoBulk d + uptoBulkAll r
def uptoBulkEntries {H : Type} : List (Lit × DataW H) → Nat
  | [] => 0
  | x :: r => uptoBulkEntry x + uptoBulkEntries r
def uptoBulkEntry {H : Type} : Lit × DataW H → Nat
  | (.string bytes, d) => bytes.length + uptoBulk d + 1
  | (_, d) => uptoBulk d + 1
 end
def uptoSmall : (H : Type) → List (DataW H) → Bool := fun _ ds => decide (uptoBulkAll ds ≤ 1048576)
def OpenSpec.upto (s : _root_.Go.ChangeSpec) : _root_.Go.OpenSpec := { _root_.Go.OpenSpec.ofChange s with cond := some uptoSmall }

/-- 'castlaw.SubsetSays', WHERE WHAT IT READS IS OF BULK AT MOST 1048576: true; the input reads as it did. -/
def subsetSaysUptoRow : OpenClaim := { program := "ytnoacmnhinoohaadoor", sum := "c3ccc0c5a4c5acdc1a1f014a08273bda8ea336b74a840a7a94af1bbe04702c80", func := "lotcaster/castlaw.SubsetSays", spec := "subsetSays", named := ["math/bits.deBruijn32tab"], apart := false, laid := [("math/bits.deBruijn32tab", laid_math_bits_deBruijn32tab)], narrowed := true }
def SubsetSaysUptoSaid : Prop := subsetSaysUptoRow.holds Tryd.pinned (OpenSpec.upto subsetSaysSpec)

/-- 'castkeep.SubsetBack', WHERE WHAT IT READS IS OF BULK AT MOST 1048576: true; the input reads as it did. -/
def subsetBackUptoRow : OpenClaim := { program := "ytnoacmnhinoohaadoor", sum := "c3ccc0c5a4c5acdc1a1f014a08273bda8ea336b74a840a7a94af1bbe04702c80", func := "lotcaster/castkeep.SubsetBack", spec := "subsetBack", named := ["math/bits.deBruijn32tab"], apart := false, laid := [("math/bits.deBruijn32tab", laid_math_bits_deBruijn32tab)], narrowed := true }
def SubsetBackUptoSaid : Prop := subsetBackUptoRow.holds Tryd.pinned (OpenSpec.upto subsetBackSpec)

/-- 'castkeep.SubsetRises', WHERE WHAT IT READS IS OF BULK AT MOST 1048576: true; the input reads as it did. -/
def subsetRisesUptoRow : OpenClaim := { program := "ytnoacmnhinoohaadoor", sum := "c3ccc0c5a4c5acdc1a1f014a08273bda8ea336b74a840a7a94af1bbe04702c80", func := "lotcaster/castkeep.SubsetRises", spec := "subsetRises", named := ["math/bits.deBruijn32tab"], apart := false, laid := [("math/bits.deBruijn32tab", laid_math_bits_deBruijn32tab)], narrowed := true }
def SubsetRisesUptoSaid : Prop := subsetRisesUptoRow.holds Tryd.pinned (OpenSpec.upto subsetRisesSpec)

/-- 'castkeep.SubsetOther', WHERE WHAT IT READS IS OF BULK AT MOST 1048576: true; the input reads as it did. -/
def subsetOtherUptoRow : OpenClaim := { program := "ytnoacmnhinoohaadoor", sum := "c3ccc0c5a4c5acdc1a1f014a08273bda8ea336b74a840a7a94af1bbe04702c80", func := "lotcaster/castkeep.SubsetOther", spec := "subsetOther", unfollowed := true, recurses := true, named := ["math/bits.deBruijn32tab"], apart := false, laid := [("math/bits.deBruijn32tab", laid_math_bits_deBruijn32tab)], narrowed := true }
def SubsetOtherUptoSaid : Prop := subsetOtherUptoRow.holds Tryd.pinned (OpenSpec.upto subsetOtherSpec)

/-- 'castkeep.SubsetWalk', WHERE WHAT IT READS IS OF BULK AT MOST 1048576: true; the input reads as it did. -/
def subsetWalkUptoRow : OpenClaim := { program := "ytnoacmnhinoohaadoor", sum := "c3ccc0c5a4c5acdc1a1f014a08273bda8ea336b74a840a7a94af1bbe04702c80", func := "lotcaster/castkeep.SubsetWalk", spec := "subsetWalk", named := ["math/bits.deBruijn32tab"], apart := false, laid := [("math/bits.deBruijn32tab", laid_math_bits_deBruijn32tab)], narrowed := true }
def SubsetWalkUptoSaid : Prop := subsetWalkUptoRow.holds Tryd.pinned (OpenSpec.upto subsetWalkSpec)

end Rows
end Go.Proofs.YtnoacmnhinoohaaDoor
