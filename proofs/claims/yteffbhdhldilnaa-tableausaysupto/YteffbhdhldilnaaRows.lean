/-
  No cell of these rows narrows 'for every input' (looked for: loops, veiled, ifaces, maps, wideKeys, modest, calm, conditions, laid).
  DERIVED. THE GIVEN ROWS OF THIS SEAT. 6 by the template 'for every input the law returns true; each argument reads behind the call as it read before'; 0 by the template 'total and deterministic' (their statements: YteffbhdhldilnaaTotals.lean).
  GIVEN WITH THE SEED: the statements are not yours to turn. If you find one false, say at which input.
  Laid BY PROGRAM, IN A SANDBOX (cutbox-rows.mjs): the forced cells as the released guide's own fill.sh prints them over the translation aad427c6995b2a06… (all of the seat's roots in one cut). By AI agents, Wed Nov 11 2026. No macro, syntax, notation, axiom, sorry.
-/
import Derived.Test.YteffbhdhldilnaaChecked
import GoSem.Claim
import GoSem.ClaimJoined
import GoSem.ClaimMapViews
import Derived.JoinedTies
import Derived.KernelRfl
namespace Go.Proofs.Yteffbhdhldilnaa
/- THE CELL 'sum', in the pinned program and in every row, IS THE sha256 OF THE DUMP (.gsa) THAT YteffbhdhldilnaaProg.lean LOADS. Nothing in Lean hashes anything: it is a label: what it is worth is what the hold of that sum in a sandbox is worth. -/
noncomputable def Try.pinned : Pinned := { name := "yteffbhdhldilnaa", sum := "aad427c6995b2a06a9ec5b0e05fac2aac938f542c87d6ae9359bf7687ec2f2da", checked := Try.checked }
namespace Rows
def none {H : Type} : Left H := { results := [], args := [] }

/-- 'castlaw.TableauSays': WHATEVER THE INPUT: true; the input reads as it did. -/
def tableauSaysSpec : ChangeSpec := { name := "tableauSays", fn := fun _ => fun
  | [d1, d2] => { results := [.lit (.bool true)], args := [d1, d2] }
  | _ => none }
def tableauSaysRow : OpenClaim := { program := "yteffbhdhldilnaa", sum := "aad427c6995b2a06a9ec5b0e05fac2aac938f542c87d6ae9359bf7687ec2f2da", func := "lotcaster/castlaw.TableauSays", spec := "tableauSays", unfollowed := true, recurses := true, apart := false }
def TableauSaysSaid : Prop := tableauSaysRow.holds Try.pinned (OpenSpec.ofChange tableauSaysSpec)

/-- ITS FALSE NEIGHBOUR: 'it returns false'. Refute it at one input. -/
def tableauSaysWrong : ChangeSpec := { name := "tableauSays", fn := fun _ => fun
  | [d1, d2] => { results := [.lit (.bool false)], args := [d1, d2] }
  | _ => none }
def TableauSaysWrongFalsely : Prop := tableauSaysRow.holds Try.pinned (OpenSpec.ofChange tableauSaysWrong)

/-- 'castlaw.TableauCounts': WHATEVER THE INPUT: true; the input reads as it did. -/
def tableauCountsSpec : ChangeSpec := { name := "tableauCounts", fn := fun _ => fun
  | [d] => { results := [.lit (.bool true)], args := [d] }
  | _ => none }
def tableauCountsRow : OpenClaim := { program := "yteffbhdhldilnaa", sum := "aad427c6995b2a06a9ec5b0e05fac2aac938f542c87d6ae9359bf7687ec2f2da", func := "lotcaster/castlaw.TableauCounts", spec := "tableauCounts", recurses := true, apart := false }
def TableauCountsSaid : Prop := tableauCountsRow.holds Try.pinned (OpenSpec.ofChange tableauCountsSpec)

/-- ITS FALSE NEIGHBOUR: 'it returns false'. Refute it at one input. -/
def tableauCountsWrong : ChangeSpec := { name := "tableauCounts", fn := fun _ => fun
  | [d] => { results := [.lit (.bool false)], args := [d] }
  | _ => none }
def TableauCountsWrongFalsely : Prop := tableauCountsRow.holds Try.pinned (OpenSpec.ofChange tableauCountsWrong)

/-- 'castkeep.TableauBack': WHATEVER THE INPUT: true; the input reads as it did. -/
def tableauBackSpec : ChangeSpec := { name := "tableauBack", fn := fun _ => fun
  | [d1, d2] => { results := [.lit (.bool true)], args := [d1, d2] }
  | _ => none }
def tableauBackRow : OpenClaim := { program := "yteffbhdhldilnaa", sum := "aad427c6995b2a06a9ec5b0e05fac2aac938f542c87d6ae9359bf7687ec2f2da", func := "lotcaster/castkeep.TableauBack", spec := "tableauBack", unfollowed := true, recurses := true, apart := false }
def TableauBackSaid : Prop := tableauBackRow.holds Try.pinned (OpenSpec.ofChange tableauBackSpec)

/-- ITS FALSE NEIGHBOUR: 'it returns false'. Refute it at one input. -/
def tableauBackWrong : ChangeSpec := { name := "tableauBack", fn := fun _ => fun
  | [d1, d2] => { results := [.lit (.bool false)], args := [d1, d2] }
  | _ => none }
def TableauBackWrongFalsely : Prop := tableauBackRow.holds Try.pinned (OpenSpec.ofChange tableauBackWrong)

/-- 'castkeep.TableauTurned': WHATEVER THE INPUT: true; the input reads as it did. -/
def tableauTurnedSpec : ChangeSpec := { name := "tableauTurned", fn := fun _ => fun
  | [d] => { results := [.lit (.bool true)], args := [d] }
  | _ => none }
def tableauTurnedRow : OpenClaim := { program := "yteffbhdhldilnaa", sum := "aad427c6995b2a06a9ec5b0e05fac2aac938f542c87d6ae9359bf7687ec2f2da", func := "lotcaster/castkeep.TableauTurned", spec := "tableauTurned", unfollowed := true, recurses := true, apart := false }
def TableauTurnedSaid : Prop := tableauTurnedRow.holds Try.pinned (OpenSpec.ofChange tableauTurnedSpec)

/-- ITS FALSE NEIGHBOUR: 'it returns false'. Refute it at one input. -/
def tableauTurnedWrong : ChangeSpec := { name := "tableauTurned", fn := fun _ => fun
  | [d] => { results := [.lit (.bool false)], args := [d] }
  | _ => none }
def TableauTurnedWrongFalsely : Prop := tableauTurnedRow.holds Try.pinned (OpenSpec.ofChange tableauTurnedWrong)

/-- 'castkeep.TableauBehind': WHATEVER THE INPUT: true; the input reads as it did. -/
def tableauBehindSpec : ChangeSpec := { name := "tableauBehind", fn := fun _ => fun
  | [d] => { results := [.lit (.bool true)], args := [d] }
  | _ => none }
def tableauBehindRow : OpenClaim := { program := "yteffbhdhldilnaa", sum := "aad427c6995b2a06a9ec5b0e05fac2aac938f542c87d6ae9359bf7687ec2f2da", func := "lotcaster/castkeep.TableauBehind", spec := "tableauBehind", unfollowed := true, recurses := true, apart := false }
def TableauBehindSaid : Prop := tableauBehindRow.holds Try.pinned (OpenSpec.ofChange tableauBehindSpec)

/-- ITS FALSE NEIGHBOUR: 'it returns false'. Refute it at one input. -/
def tableauBehindWrong : ChangeSpec := { name := "tableauBehind", fn := fun _ => fun
  | [d] => { results := [.lit (.bool false)], args := [d] }
  | _ => none }
def TableauBehindWrongFalsely : Prop := tableauBehindRow.holds Try.pinned (OpenSpec.ofChange tableauBehindWrong)

/-- 'castkeep.TableauSquares': WHATEVER THE INPUT: true; the input reads as it did. -/
def tableauSquaresSpec : ChangeSpec := { name := "tableauSquares", fn := fun _ => fun
  | [d1, d2] => { results := [.lit (.bool true)], args := [d1, d2] }
  | _ => none }
def tableauSquaresRow : OpenClaim := { program := "yteffbhdhldilnaa", sum := "aad427c6995b2a06a9ec5b0e05fac2aac938f542c87d6ae9359bf7687ec2f2da", func := "lotcaster/castkeep.TableauSquares", spec := "tableauSquares", unfollowed := true, recurses := true, apart := false }
def TableauSquaresSaid : Prop := tableauSquaresRow.holds Try.pinned (OpenSpec.ofChange tableauSquaresSpec)

/-- ITS FALSE NEIGHBOUR: 'it returns false'. Refute it at one input. -/
def tableauSquaresWrong : ChangeSpec := { name := "tableauSquares", fn := fun _ => fun
  | [d1, d2] => { results := [.lit (.bool false)], args := [d1, d2] }
  | _ => none }
def TableauSquaresWrongFalsely : Prop := tableauSquaresRow.holds Try.pinned (OpenSpec.ofChange tableauSquaresWrong)

/- THE SECOND FORM. 'bulk': how many values and letters a reading holds, each counted each time it is reached (what is shared counts as often as it is met; a slice's spare places count too). A statement '..UptoSaid' is the law's where the arguments, and the package variables that the reading takes, are together of bulk at most 1048576: NARROWER than '..Said'. Prove '..Said' where nothing that the law and all that it calls make is longer than what came in: it says more and counts as full. Else prove '..UptoSaid'. A law counts once. -/
mutual
def uptoBulk {H : Type} : DataW H → Nat
  | .lit (.string bytes) => bytes.length + 1
  | .lit _ => 1
  | .nil => 1
  | .ptr d => uptoBulk d + 1
  | .slice elems spare => uptoBulkAll elems + uptoBulkAll spare + 1
  | .agg parts => uptoBulkAll parts + 1
  | .iface _ d => uptoBulk d + 1
  | .map entries => uptoBulkEntries entries + 1
  | .held _ => 1
def uptoBulkAll {H : Type} : List (DataW H) → Nat
  | [] => 0
  | d :: r => uptoBulk d + uptoBulkAll r
def uptoBulkEntries {H : Type} : List (Lit × DataW H) → Nat
  | [] => 0
  | x :: r => uptoBulkEntry x + uptoBulkEntries r
def uptoBulkEntry {H : Type} : Lit × DataW H → Nat
  | (.string bytes, d) => bytes.length + uptoBulk d + 1
  | (_, d) => uptoBulk d + 1
 end
def uptoSmall : (H : Type) → List (DataW H) → Bool := fun _ ds => decide (uptoBulkAll ds ≤ 1048576)
def OpenSpec.upto (s : _root_.Go.ChangeSpec) : _root_.Go.OpenSpec := { _root_.Go.OpenSpec.ofChange s with cond := some uptoSmall }

/-- 'castlaw.TableauSays', WHERE WHAT IT READS IS OF BULK AT MOST 1048576: true; the input reads as it did. -/
def tableauSaysUptoRow : OpenClaim := { program := "yteffbhdhldilnaa", sum := "aad427c6995b2a06a9ec5b0e05fac2aac938f542c87d6ae9359bf7687ec2f2da", func := "lotcaster/castlaw.TableauSays", spec := "tableauSays", unfollowed := true, recurses := true, apart := false, narrowed := true }
def TableauSaysUptoSaid : Prop := tableauSaysUptoRow.holds Try.pinned (OpenSpec.upto tableauSaysSpec)

/-- 'castlaw.TableauCounts', WHERE WHAT IT READS IS OF BULK AT MOST 1048576: true; the input reads as it did. -/
def tableauCountsUptoRow : OpenClaim := { program := "yteffbhdhldilnaa", sum := "aad427c6995b2a06a9ec5b0e05fac2aac938f542c87d6ae9359bf7687ec2f2da", func := "lotcaster/castlaw.TableauCounts", spec := "tableauCounts", recurses := true, apart := false, narrowed := true }
def TableauCountsUptoSaid : Prop := tableauCountsUptoRow.holds Try.pinned (OpenSpec.upto tableauCountsSpec)

/-- 'castkeep.TableauBack', WHERE WHAT IT READS IS OF BULK AT MOST 1048576: true; the input reads as it did. -/
def tableauBackUptoRow : OpenClaim := { program := "yteffbhdhldilnaa", sum := "aad427c6995b2a06a9ec5b0e05fac2aac938f542c87d6ae9359bf7687ec2f2da", func := "lotcaster/castkeep.TableauBack", spec := "tableauBack", unfollowed := true, recurses := true, apart := false, narrowed := true }
def TableauBackUptoSaid : Prop := tableauBackUptoRow.holds Try.pinned (OpenSpec.upto tableauBackSpec)

/-- 'castkeep.TableauTurned', WHERE WHAT IT READS IS OF BULK AT MOST 1048576: true; the input reads as it did. -/
def tableauTurnedUptoRow : OpenClaim := { program := "yteffbhdhldilnaa", sum := "aad427c6995b2a06a9ec5b0e05fac2aac938f542c87d6ae9359bf7687ec2f2da", func := "lotcaster/castkeep.TableauTurned", spec := "tableauTurned", unfollowed := true, recurses := true, apart := false, narrowed := true }
def TableauTurnedUptoSaid : Prop := tableauTurnedUptoRow.holds Try.pinned (OpenSpec.upto tableauTurnedSpec)

/-- 'castkeep.TableauBehind', WHERE WHAT IT READS IS OF BULK AT MOST 1048576: true; the input reads as it did. -/
def tableauBehindUptoRow : OpenClaim := { program := "yteffbhdhldilnaa", sum := "aad427c6995b2a06a9ec5b0e05fac2aac938f542c87d6ae9359bf7687ec2f2da", func := "lotcaster/castkeep.TableauBehind", spec := "tableauBehind", unfollowed := true, recurses := true, apart := false, narrowed := true }
def TableauBehindUptoSaid : Prop := tableauBehindUptoRow.holds Try.pinned (OpenSpec.upto tableauBehindSpec)

/-- 'castkeep.TableauSquares', WHERE WHAT IT READS IS OF BULK AT MOST 1048576: true; the input reads as it did. -/
def tableauSquaresUptoRow : OpenClaim := { program := "yteffbhdhldilnaa", sum := "aad427c6995b2a06a9ec5b0e05fac2aac938f542c87d6ae9359bf7687ec2f2da", func := "lotcaster/castkeep.TableauSquares", spec := "tableauSquares", unfollowed := true, recurses := true, apart := false, narrowed := true }
def TableauSquaresUptoSaid : Prop := tableauSquaresUptoRow.holds Try.pinned (OpenSpec.upto tableauSquaresSpec)

end Rows
end Go.Proofs.Yteffbhdhldilnaa
