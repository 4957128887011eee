/-
  No cell of these rows narrows 'for every input' (looked for: loops, veiled, ifaces, maps, wideKeys, modest, calm, conditions, laid).
  DERIVED. THE GIVEN ROWS OF THIS SEAT. 6 by the template 'for every input the law returns true; each argument reads behind the call as it read before'; 0 by the template 'total and deterministic' (their statements: YtbcjfiobggggjaaTotals.lean).
  GIVEN WITH THE SEED: the statements are not yours to turn. If you find one false, say at which input.
  Laid BY PROGRAM, IN A SANDBOX (cutbox-rows.mjs): the forced cells as the released guide's own fill.sh prints them over the translation 8e0d0527c7986344… (all of the seat's roots in one cut). By AI agents, Wed Nov 11 2026. No macro, syntax, notation, axiom, sorry.
-/
import Derived.Test.YtbcjfiobggggjaaChecked
import GoSem.Claim
import GoSem.ClaimJoined
import GoSem.ClaimMapViews
import Derived.JoinedTies
import Derived.KernelRfl
namespace Go.Proofs.Ytbcjfiobggggjaa
/- THE CELL 'sum', in the pinned program and in every row, IS THE sha256 OF THE DUMP (.gsa) THAT YtbcjfiobggggjaaProg.lean LOADS. Nothing in Lean hashes anything: it is a label: what it is worth is what the hold of that sum in a sandbox is worth. -/
noncomputable def Try.pinned : Pinned := { name := "ytbcjfiobggggjaa", sum := "8e0d0527c7986344bf95155494175a3abf63c530c7c361b3f3642ef4acad9af5", checked := Try.checked }
namespace Rows
def none {H : Type} : Left H := { results := [], args := [] }

/-- 'castlaw.OrbitsSay': WHATEVER THE INPUT: true; the input reads as it did. -/
def orbitsSaySpec : ChangeSpec := { name := "orbitsSay", fn := fun _ => fun
  | [d1, d2, d3, d4] => { results := [.lit (.bool true)], args := [d1, d2, d3, d4] }
  | _ => none }
def orbitsSayRow : OpenClaim := { program := "ytbcjfiobggggjaa", sum := "8e0d0527c7986344bf95155494175a3abf63c530c7c361b3f3642ef4acad9af5", func := "lotcaster/castlaw.OrbitsSay", spec := "orbitsSay", unfollowed := true, recurses := true, apart := false }
def OrbitsSaySaid : Prop := orbitsSayRow.holds Try.pinned (OpenSpec.ofChange orbitsSaySpec)

/-- ITS FALSE NEIGHBOUR: 'it returns false'. Refute it at one input. -/
def orbitsSayWrong : ChangeSpec := { name := "orbitsSay", fn := fun _ => fun
  | [d1, d2, d3, d4] => { results := [.lit (.bool false)], args := [d1, d2, d3, d4] }
  | _ => none }
def OrbitsSayWrongFalsely : Prop := orbitsSayRow.holds Try.pinned (OpenSpec.ofChange orbitsSayWrong)

/-- 'castkeep.OrbitsGroup': WHATEVER THE INPUT: true; the input reads as it did. -/
def orbitsGroupSpec : ChangeSpec := { name := "orbitsGroup", fn := fun _ => fun
  | [d1, d2, d3, d4] => { results := [.lit (.bool true)], args := [d1, d2, d3, d4] }
  | _ => none }
def orbitsGroupRow : OpenClaim := { program := "ytbcjfiobggggjaa", sum := "8e0d0527c7986344bf95155494175a3abf63c530c7c361b3f3642ef4acad9af5", func := "lotcaster/castkeep.OrbitsGroup", spec := "orbitsGroup", unfollowed := true, recurses := true, apart := false }
def OrbitsGroupSaid : Prop := orbitsGroupRow.holds Try.pinned (OpenSpec.ofChange orbitsGroupSpec)

/-- ITS FALSE NEIGHBOUR: 'it returns false'. Refute it at one input. -/
def orbitsGroupWrong : ChangeSpec := { name := "orbitsGroup", fn := fun _ => fun
  | [d1, d2, d3, d4] => { results := [.lit (.bool false)], args := [d1, d2, d3, d4] }
  | _ => none }
def OrbitsGroupWrongFalsely : Prop := orbitsGroupRow.holds Try.pinned (OpenSpec.ofChange orbitsGroupWrong)

/-- 'castkeep.OrbitsBurnside': WHATEVER THE INPUT: true; the input reads as it did. -/
def orbitsBurnsideSpec : ChangeSpec := { name := "orbitsBurnside", fn := fun _ => fun
  | [d1, d2, d3] => { results := [.lit (.bool true)], args := [d1, d2, d3] }
  | _ => none }
def orbitsBurnsideRow : OpenClaim := { program := "ytbcjfiobggggjaa", sum := "8e0d0527c7986344bf95155494175a3abf63c530c7c361b3f3642ef4acad9af5", func := "lotcaster/castkeep.OrbitsBurnside", spec := "orbitsBurnside", unfollowed := true, recurses := true, apart := false }
def OrbitsBurnsideSaid : Prop := orbitsBurnsideRow.holds Try.pinned (OpenSpec.ofChange orbitsBurnsideSpec)

/-- ITS FALSE NEIGHBOUR: 'it returns false'. Refute it at one input. -/
def orbitsBurnsideWrong : ChangeSpec := { name := "orbitsBurnside", fn := fun _ => fun
  | [d1, d2, d3] => { results := [.lit (.bool false)], args := [d1, d2, d3] }
  | _ => none }
def OrbitsBurnsideWrongFalsely : Prop := orbitsBurnsideRow.holds Try.pinned (OpenSpec.ofChange orbitsBurnsideWrong)

/-- 'castkeep.OrbitsLeast': WHATEVER THE INPUT: true; the input reads as it did. -/
def orbitsLeastSpec : ChangeSpec := { name := "orbitsLeast", fn := fun _ => fun
  | [d1, d2, d3, d4] => { results := [.lit (.bool true)], args := [d1, d2, d3, d4] }
  | _ => none }
def orbitsLeastRow : OpenClaim := { program := "ytbcjfiobggggjaa", sum := "8e0d0527c7986344bf95155494175a3abf63c530c7c361b3f3642ef4acad9af5", func := "lotcaster/castkeep.OrbitsLeast", spec := "orbitsLeast", unfollowed := true, recurses := true, apart := false }
def OrbitsLeastSaid : Prop := orbitsLeastRow.holds Try.pinned (OpenSpec.ofChange orbitsLeastSpec)

/-- ITS FALSE NEIGHBOUR: 'it returns false'. Refute it at one input. -/
def orbitsLeastWrong : ChangeSpec := { name := "orbitsLeast", fn := fun _ => fun
  | [d1, d2, d3, d4] => { results := [.lit (.bool false)], args := [d1, d2, d3, d4] }
  | _ => none }
def OrbitsLeastWrongFalsely : Prop := orbitsLeastRow.holds Try.pinned (OpenSpec.ofChange orbitsLeastWrong)

/-- 'castkeep.RowsOwn': WHATEVER THE INPUT: true; the input reads as it did. -/
def rowsOwnSpec : ChangeSpec := { name := "rowsOwn", fn := fun _ => fun
  | [d1, d2, d3, d4] => { results := [.lit (.bool true)], args := [d1, d2, d3, d4] }
  | _ => none }
def rowsOwnRow : OpenClaim := { program := "ytbcjfiobggggjaa", sum := "8e0d0527c7986344bf95155494175a3abf63c530c7c361b3f3642ef4acad9af5", func := "lotcaster/castkeep.RowsOwn", spec := "rowsOwn", unfollowed := true, recurses := true, apart := false }
def RowsOwnSaid : Prop := rowsOwnRow.holds Try.pinned (OpenSpec.ofChange rowsOwnSpec)

/-- ITS FALSE NEIGHBOUR: 'it returns false'. Refute it at one input. -/
def rowsOwnWrong : ChangeSpec := { name := "rowsOwn", fn := fun _ => fun
  | [d1, d2, d3, d4] => { results := [.lit (.bool false)], args := [d1, d2, d3, d4] }
  | _ => none }
def RowsOwnWrongFalsely : Prop := rowsOwnRow.holds Try.pinned (OpenSpec.ofChange rowsOwnWrong)

/-- 'castkeep.OrbitsFermat': WHATEVER THE INPUT: true; the input reads as it did. -/
def orbitsFermatSpec : ChangeSpec := { name := "orbitsFermat", fn := fun _ => fun
  | [d1, d2] => { results := [.lit (.bool true)], args := [d1, d2] }
  | _ => none }
def orbitsFermatRow : OpenClaim := { program := "ytbcjfiobggggjaa", sum := "8e0d0527c7986344bf95155494175a3abf63c530c7c361b3f3642ef4acad9af5", func := "lotcaster/castkeep.OrbitsFermat", spec := "orbitsFermat", unfollowed := true, recurses := true, apart := false }
def OrbitsFermatSaid : Prop := orbitsFermatRow.holds Try.pinned (OpenSpec.ofChange orbitsFermatSpec)

/-- ITS FALSE NEIGHBOUR: 'it returns false'. Refute it at one input. -/
def orbitsFermatWrong : ChangeSpec := { name := "orbitsFermat", fn := fun _ => fun
  | [d1, d2] => { results := [.lit (.bool false)], args := [d1, d2] }
  | _ => none }
def OrbitsFermatWrongFalsely : Prop := orbitsFermatRow.holds Try.pinned (OpenSpec.ofChange orbitsFermatWrong)

/- THE SECOND FORM. 'bulk': how many values and letters a reading holds, each counted each time it is reached (what is shared counts as often as it is met; a slice's spare places count too). A statement '..UptoSaid' is the law's where the arguments, and the package variables that the reading takes, are together of bulk at most 1048576: NARROWER than '..Said'. Prove '..Said' where nothing that the law and all that it calls make is longer than what came in: it says more and counts as full. Else prove '..UptoSaid'. A law counts once. -/
mutual
def uptoBulk {H : Type} : DataW H → Nat
  | .lit (.string bytes) => bytes.length + 1
  | .lit _ => 1
  | .nil => 1
  | .ptr d => uptoBulk d + 1
  | .slice elems spare => uptoBulkAll elems + uptoBulkAll spare + 1
  | .agg parts => uptoBulkAll parts + 1
  | .iface _ d => uptoBulk d + 1
  | .map entries => uptoBulkEntries entries + 1
  | .held _ => 1
def uptoBulkAll {H : Type} : List (DataW H) → Nat
  | [] => 0
  | d :: r => uptoBulk d + uptoBulkAll r
def uptoBulkEntries {H : Type} : List (Lit × DataW H) → Nat
  | [] => 0
  | x :: r => uptoBulkEntry x + uptoBulkEntries r
def uptoBulkEntry {H : Type} : Lit × DataW H → Nat
  | (.string bytes, d) => bytes.length + uptoBulk d + 1
  | (_, d) => uptoBulk d + 1
 end
def uptoSmall : (H : Type) → List (DataW H) → Bool := fun _ ds => decide (uptoBulkAll ds ≤ 1048576)
def OpenSpec.upto (s : _root_.Go.ChangeSpec) : _root_.Go.OpenSpec := { _root_.Go.OpenSpec.ofChange s with cond := some uptoSmall }

/-- 'castlaw.OrbitsSay', WHERE WHAT IT READS IS OF BULK AT MOST 1048576: true; the input reads as it did. -/
def orbitsSayUptoRow : OpenClaim := { program := "ytbcjfiobggggjaa", sum := "8e0d0527c7986344bf95155494175a3abf63c530c7c361b3f3642ef4acad9af5", func := "lotcaster/castlaw.OrbitsSay", spec := "orbitsSay", unfollowed := true, recurses := true, apart := false, narrowed := true }
def OrbitsSayUptoSaid : Prop := orbitsSayUptoRow.holds Try.pinned (OpenSpec.upto orbitsSaySpec)

/-- 'castkeep.OrbitsGroup', WHERE WHAT IT READS IS OF BULK AT MOST 1048576: true; the input reads as it did. -/
def orbitsGroupUptoRow : OpenClaim := { program := "ytbcjfiobggggjaa", sum := "8e0d0527c7986344bf95155494175a3abf63c530c7c361b3f3642ef4acad9af5", func := "lotcaster/castkeep.OrbitsGroup", spec := "orbitsGroup", unfollowed := true, recurses := true, apart := false, narrowed := true }
def OrbitsGroupUptoSaid : Prop := orbitsGroupUptoRow.holds Try.pinned (OpenSpec.upto orbitsGroupSpec)

/-- 'castkeep.OrbitsBurnside', WHERE WHAT IT READS IS OF BULK AT MOST 1048576: true; the input reads as it did. -/
def orbitsBurnsideUptoRow : OpenClaim := { program := "ytbcjfiobggggjaa", sum := "8e0d0527c7986344bf95155494175a3abf63c530c7c361b3f3642ef4acad9af5", func := "lotcaster/castkeep.OrbitsBurnside", spec := "orbitsBurnside", unfollowed := true, recurses := true, apart := false, narrowed := true }
def OrbitsBurnsideUptoSaid : Prop := orbitsBurnsideUptoRow.holds Try.pinned (OpenSpec.upto orbitsBurnsideSpec)

/-- 'castkeep.OrbitsLeast', WHERE WHAT IT READS IS OF BULK AT MOST 1048576: true; the input reads as it did. -/
def orbitsLeastUptoRow : OpenClaim := { program := "ytbcjfiobggggjaa", sum := "8e0d0527c7986344bf95155494175a3abf63c530c7c361b3f3642ef4acad9af5", func := "lotcaster/castkeep.OrbitsLeast", spec := "orbitsLeast", unfollowed := true, recurses := true, apart := false, narrowed := true }
def OrbitsLeastUptoSaid : Prop := orbitsLeastUptoRow.holds Try.pinned (OpenSpec.upto orbitsLeastSpec)

/-- 'castkeep.RowsOwn', WHERE WHAT IT READS IS OF BULK AT MOST 1048576: true; the input reads as it did. -/
def rowsOwnUptoRow : OpenClaim := { program := "ytbcjfiobggggjaa", sum := "8e0d0527c7986344bf95155494175a3abf63c530c7c361b3f3642ef4acad9af5", func := "lotcaster/castkeep.RowsOwn", spec := "rowsOwn", unfollowed := true, recurses := true, apart := false, narrowed := true }
def RowsOwnUptoSaid : Prop := rowsOwnUptoRow.holds Try.pinned (OpenSpec.upto rowsOwnSpec)

/-- 'castkeep.OrbitsFermat', WHERE WHAT IT READS IS OF BULK AT MOST 1048576: true; the input reads as it did. -/
def orbitsFermatUptoRow : OpenClaim := { program := "ytbcjfiobggggjaa", sum := "8e0d0527c7986344bf95155494175a3abf63c530c7c361b3f3642ef4acad9af5", func := "lotcaster/castkeep.OrbitsFermat", spec := "orbitsFermat", unfollowed := true, recurses := true, apart := false, narrowed := true }
def OrbitsFermatUptoSaid : Prop := orbitsFermatUptoRow.holds Try.pinned (OpenSpec.upto orbitsFermatSpec)

end Rows
end Go.Proofs.Ytbcjfiobggggjaa
