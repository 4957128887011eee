/-
  No cell of these rows narrows 'for every input' (looked for: loops, veiled, ifaces, maps, wideKeys, modest, calm, conditions, laid).
  DERIVED. THE GIVEN ROWS OF THIS SEAT. 3 by the template 'for every input the law returns true; each argument reads behind the call as it read before'; 0 by the template 'total and deterministic' (their statements: YteegddpoekphoaaTotals.lean).
  GIVEN WITH THE SEED: the statements are not yours to turn. If you find one false, say at which input.
  Laid BY PROGRAM, IN A SANDBOX (cutbox-rows.mjs): the forced cells as the released guide's own fill.sh prints them over the translation c5effd25ad464287… (all of the seat's roots in one cut). By AI agents, Wed Nov 11 2026. No macro, syntax, notation, axiom, sorry.
-/
import Derived.Test.YteegddpoekphoaaChecked
import GoSem.Claim
import GoSem.ClaimJoined
import GoSem.ClaimMapViews
import Derived.JoinedTies
import Derived.KernelRfl
namespace Go.Proofs.Yteegddpoekphoaa
/- THE CELL 'sum', in the pinned program and in every row, IS THE sha256 OF THE DUMP (.gsa) THAT YteegddpoekphoaaProg.lean LOADS. Nothing in Lean hashes anything: it is a label: what it is worth is what the hold of that sum in a sandbox is worth. -/
noncomputable def Try.pinned : Pinned := { name := "yteegddpoekphoaa", sum := "c5effd25ad46428733b4e7edb0f86a3e87e2d6530933f1981c44d22d55d3e6bb", checked := Try.checked }
namespace Rows
def none {H : Type} : Left H := { results := [], args := [] }

/-- 'castkeep.PartsTurned': WHATEVER THE INPUT: true; the input reads as it did. -/
def partsTurnedSpec : ChangeSpec := { name := "partsTurned", fn := fun _ => fun
  | [d] => { results := [.lit (.bool true)], args := [d] }
  | _ => none }
def partsTurnedRow : OpenClaim := { program := "yteegddpoekphoaa", sum := "c5effd25ad46428733b4e7edb0f86a3e87e2d6530933f1981c44d22d55d3e6bb", func := "lotcaster/castkeep.PartsTurned", spec := "partsTurned", unfollowed := true, recurses := true, apart := false }
def PartsTurnedSaid : Prop := partsTurnedRow.holds Try.pinned (OpenSpec.ofChange partsTurnedSpec)

/-- ITS FALSE NEIGHBOUR: 'it returns false'. Refute it at one input. -/
def partsTurnedWrong : ChangeSpec := { name := "partsTurned", fn := fun _ => fun
  | [d] => { results := [.lit (.bool false)], args := [d] }
  | _ => none }
def PartsTurnedWrongFalsely : Prop := partsTurnedRow.holds Try.pinned (OpenSpec.ofChange partsTurnedWrong)

/-- 'castkeep.PartsEuler': WHATEVER THE INPUT: true; the input reads as it did. -/
def partsEulerSpec : ChangeSpec := { name := "partsEuler", fn := fun _ => fun
  | [d1, d2] => { results := [.lit (.bool true)], args := [d1, d2] }
  | _ => none }
def partsEulerRow : OpenClaim := { program := "yteegddpoekphoaa", sum := "c5effd25ad46428733b4e7edb0f86a3e87e2d6530933f1981c44d22d55d3e6bb", func := "lotcaster/castkeep.PartsEuler", spec := "partsEuler", unfollowed := true, recurses := true, apart := false }
def PartsEulerSaid : Prop := partsEulerRow.holds Try.pinned (OpenSpec.ofChange partsEulerSpec)

/-- ITS FALSE NEIGHBOUR: 'it returns false'. Refute it at one input. -/
def partsEulerWrong : ChangeSpec := { name := "partsEuler", fn := fun _ => fun
  | [d1, d2] => { results := [.lit (.bool false)], args := [d1, d2] }
  | _ => none }
def PartsEulerWrongFalsely : Prop := partsEulerRow.holds Try.pinned (OpenSpec.ofChange partsEulerWrong)

/-- 'castkeep.PartsAll': WHATEVER THE INPUT: true; the input reads as it did. -/
def partsAllSpec : ChangeSpec := { name := "partsAll", fn := fun _ => fun
  | [d1, d2] => { results := [.lit (.bool true)], args := [d1, d2] }
  | _ => none }
def partsAllRow : OpenClaim := { program := "yteegddpoekphoaa", sum := "c5effd25ad46428733b4e7edb0f86a3e87e2d6530933f1981c44d22d55d3e6bb", func := "lotcaster/castkeep.PartsAll", spec := "partsAll", unfollowed := true, recurses := true, apart := false }
def PartsAllSaid : Prop := partsAllRow.holds Try.pinned (OpenSpec.ofChange partsAllSpec)

/-- ITS FALSE NEIGHBOUR: 'it returns false'. Refute it at one input. -/
def partsAllWrong : ChangeSpec := { name := "partsAll", fn := fun _ => fun
  | [d1, d2] => { results := [.lit (.bool false)], args := [d1, d2] }
  | _ => none }
def PartsAllWrongFalsely : Prop := partsAllRow.holds Try.pinned (OpenSpec.ofChange partsAllWrong)

/- THE SECOND FORM. 'bulk': how many values and letters a reading holds, each counted each time it is reached (what is shared counts as often as it is met; a slice's spare places count too). A statement '..UptoSaid' is the law's where the arguments, and the package variables that the reading takes, are together of bulk at most 1048576: NARROWER than '..Said'. Prove '..Said' where nothing that the law and all that it calls make is longer than what came in: it says more and counts as full. Else prove '..UptoSaid'. A law counts once. -/
mutual
def uptoBulk {H : Type} : DataW H → Nat
  | .lit (.string bytes) => bytes.length + 1
  | .lit _ => 1
  | .nil => 1
  | .ptr d => uptoBulk d + 1
  | .slice elems spare => uptoBulkAll elems + uptoBulkAll spare + 1
  | .agg parts => uptoBulkAll parts + 1
  | .iface _ d => uptoBulk d + 1
  | .map entries => uptoBulkEntries entries + 1
  | .held _ => 1
def uptoBulkAll {H : Type} : List (DataW H) → Nat
  | [] => 0
  | d :: r => uptoBulk d + uptoBulkAll r
def uptoBulkEntries {H : Type} : List (Lit × DataW H) → Nat
  | [] => 0
  | x :: r => uptoBulkEntry x + uptoBulkEntries r
def uptoBulkEntry {H : Type} : Lit × DataW H → Nat
  | (.string bytes, d) => bytes.length + uptoBulk d + 1
  | (_, d) => uptoBulk d + 1
 end
def uptoSmall : (H : Type) → List (DataW H) → Bool := fun _ ds => decide (uptoBulkAll ds ≤ 1048576)
def OpenSpec.upto (s : _root_.Go.ChangeSpec) : _root_.Go.OpenSpec := { _root_.Go.OpenSpec.ofChange s with cond := some uptoSmall }

/-- 'castkeep.PartsTurned', WHERE WHAT IT READS IS OF BULK AT MOST 1048576: true; the input reads as it did. -/
def partsTurnedUptoRow : OpenClaim := { program := "yteegddpoekphoaa", sum := "c5effd25ad46428733b4e7edb0f86a3e87e2d6530933f1981c44d22d55d3e6bb", func := "lotcaster/castkeep.PartsTurned", spec := "partsTurned", unfollowed := true, recurses := true, apart := false, narrowed := true }
def PartsTurnedUptoSaid : Prop := partsTurnedUptoRow.holds Try.pinned (OpenSpec.upto partsTurnedSpec)

/-- 'castkeep.PartsEuler', WHERE WHAT IT READS IS OF BULK AT MOST 1048576: true; the input reads as it did. -/
def partsEulerUptoRow : OpenClaim := { program := "yteegddpoekphoaa", sum := "c5effd25ad46428733b4e7edb0f86a3e87e2d6530933f1981c44d22d55d3e6bb", func := "lotcaster/castkeep.PartsEuler", spec := "partsEuler", unfollowed := true, recurses := true, apart := false, narrowed := true }
def PartsEulerUptoSaid : Prop := partsEulerUptoRow.holds Try.pinned (OpenSpec.upto partsEulerSpec)

/-- 'castkeep.PartsAll', WHERE WHAT IT READS IS OF BULK AT MOST 1048576: true; the input reads as it did. -/
def partsAllUptoRow : OpenClaim := { program := "yteegddpoekphoaa", sum := "c5effd25ad46428733b4e7edb0f86a3e87e2d6530933f1981c44d22d55d3e6bb", func := "lotcaster/castkeep.PartsAll", spec := "partsAll", unfollowed := true, recurses := true, apart := false, narrowed := true }
def PartsAllUptoSaid : Prop := partsAllUptoRow.holds Try.pinned (OpenSpec.upto partsAllSpec)

end Rows
end Go.Proofs.Yteegddpoekphoaa
