/-
  No cell of these rows narrows 'for every input' (looked for: loops, veiled, ifaces, maps, wideKeys, modest, calm, conditions, laid).
  DERIVED. THE GIVEN ROWS OF THIS SEAT. 6 by the template 'for every input the law returns true; each argument reads behind the call as it read before'; 0 by the template 'total and deterministic' (their statements: YtigfhpffghajaaaTotals.lean).
  GIVEN WITH THE SEED: the statements are not yours to turn. If you find one false, say at which input.
  Laid BY PROGRAM, IN A SANDBOX (cutbox-rows.mjs): the forced cells as the released guide's own fill.sh prints them over the translation 1e1d765295d19a87… (all of the seat's roots in one cut). By AI agents, Wed Nov 11 2026. No macro, syntax, notation, axiom, sorry.
-/
import Derived.Test.YtigfhpffghajaaaChecked
import GoSem.Claim
import GoSem.ClaimJoined
import GoSem.ClaimMapViews
import Derived.JoinedTies
import Derived.KernelRfl
namespace Go.Proofs.Ytigfhpffghajaaa
/- THE CELL 'sum', in the pinned program and in every row, IS THE sha256 OF THE DUMP (.gsa) THAT YtigfhpffghajaaaProg.lean LOADS. Nothing in Lean hashes anything: it is a label: what it is worth is what the hold of that sum in a sandbox is worth. -/
noncomputable def Try.pinned : Pinned := { name := "ytigfhpffghajaaa", sum := "1e1d765295d19a87c0ea5c008693168aeda43be9d117710e00b406a47669a4eb", checked := Try.checked }
namespace Rows
def none {H : Type} : Left H := { results := [], args := [] }

/-- 'castlaw.BlocksSay': WHATEVER THE INPUT: true; the input reads as it did. -/
def blocksSaySpec : ChangeSpec := { name := "blocksSay", fn := fun _ => fun
  | [d1, d2, d3, d4] => { results := [.lit (.bool true)], args := [d1, d2, d3, d4] }
  | _ => none }
def blocksSayRow : OpenClaim := { program := "ytigfhpffghajaaa", sum := "1e1d765295d19a87c0ea5c008693168aeda43be9d117710e00b406a47669a4eb", func := "lotcaster/castlaw.BlocksSay", spec := "blocksSay", recurses := true, apart := false }
def BlocksSaySaid : Prop := blocksSayRow.holds Try.pinned (OpenSpec.ofChange blocksSaySpec)

/-- ITS FALSE NEIGHBOUR: 'it returns false'. Refute it at one input. -/
def blocksSayWrong : ChangeSpec := { name := "blocksSay", fn := fun _ => fun
  | [d1, d2, d3, d4] => { results := [.lit (.bool false)], args := [d1, d2, d3, d4] }
  | _ => none }
def BlocksSayWrongFalsely : Prop := blocksSayRow.holds Try.pinned (OpenSpec.ofChange blocksSayWrong)

/-- 'castkeep.BlocksStirling': WHATEVER THE INPUT: true; the input reads as it did. -/
def blocksStirlingSpec : ChangeSpec := { name := "blocksStirling", fn := fun _ => fun
  | [d1, d2] => { results := [.lit (.bool true)], args := [d1, d2] }
  | _ => none }
def blocksStirlingRow : OpenClaim := { program := "ytigfhpffghajaaa", sum := "1e1d765295d19a87c0ea5c008693168aeda43be9d117710e00b406a47669a4eb", func := "lotcaster/castkeep.BlocksStirling", spec := "blocksStirling", unfollowed := true, recurses := true, apart := false }
def BlocksStirlingSaid : Prop := blocksStirlingRow.holds Try.pinned (OpenSpec.ofChange blocksStirlingSpec)

/-- ITS FALSE NEIGHBOUR: 'it returns false'. Refute it at one input. -/
def blocksStirlingWrong : ChangeSpec := { name := "blocksStirling", fn := fun _ => fun
  | [d1, d2] => { results := [.lit (.bool false)], args := [d1, d2] }
  | _ => none }
def BlocksStirlingWrongFalsely : Prop := blocksStirlingRow.holds Try.pinned (OpenSpec.ofChange blocksStirlingWrong)

/-- 'castkeep.BlocksTouchard': WHATEVER THE INPUT: true; the input reads as it did. -/
def blocksTouchardSpec : ChangeSpec := { name := "blocksTouchard", fn := fun _ => fun
  | [d1, d2] => { results := [.lit (.bool true)], args := [d1, d2] }
  | _ => none }
def blocksTouchardRow : OpenClaim := { program := "ytigfhpffghajaaa", sum := "1e1d765295d19a87c0ea5c008693168aeda43be9d117710e00b406a47669a4eb", func := "lotcaster/castkeep.BlocksTouchard", spec := "blocksTouchard", unfollowed := true, recurses := true, apart := false }
def BlocksTouchardSaid : Prop := blocksTouchardRow.holds Try.pinned (OpenSpec.ofChange blocksTouchardSpec)

/-- ITS FALSE NEIGHBOUR: 'it returns false'. Refute it at one input. -/
def blocksTouchardWrong : ChangeSpec := { name := "blocksTouchard", fn := fun _ => fun
  | [d1, d2] => { results := [.lit (.bool false)], args := [d1, d2] }
  | _ => none }
def BlocksTouchardWrongFalsely : Prop := blocksTouchardRow.holds Try.pinned (OpenSpec.ofChange blocksTouchardWrong)

/-- 'castkeep.BlocksNext': WHATEVER THE INPUT: true; the input reads as it did. -/
def blocksNextSpec : ChangeSpec := { name := "blocksNext", fn := fun _ => fun
  | [d1, d2] => { results := [.lit (.bool true)], args := [d1, d2] }
  | _ => none }
def blocksNextRow : OpenClaim := { program := "ytigfhpffghajaaa", sum := "1e1d765295d19a87c0ea5c008693168aeda43be9d117710e00b406a47669a4eb", func := "lotcaster/castkeep.BlocksNext", spec := "blocksNext", unfollowed := true, recurses := true, apart := false }
def BlocksNextSaid : Prop := blocksNextRow.holds Try.pinned (OpenSpec.ofChange blocksNextSpec)

/-- ITS FALSE NEIGHBOUR: 'it returns false'. Refute it at one input. -/
def blocksNextWrong : ChangeSpec := { name := "blocksNext", fn := fun _ => fun
  | [d1, d2] => { results := [.lit (.bool false)], args := [d1, d2] }
  | _ => none }
def BlocksNextWrongFalsely : Prop := blocksNextRow.holds Try.pinned (OpenSpec.ofChange blocksNextWrong)

/-- 'castkeep.BlocksOf': WHATEVER THE INPUT: true; the input reads as it did. -/
def blocksOfSpec : ChangeSpec := { name := "blocksOf", fn := fun _ => fun
  | [d1, d2] => { results := [.lit (.bool true)], args := [d1, d2] }
  | _ => none }
def blocksOfRow : OpenClaim := { program := "ytigfhpffghajaaa", sum := "1e1d765295d19a87c0ea5c008693168aeda43be9d117710e00b406a47669a4eb", func := "lotcaster/castkeep.BlocksOf", spec := "blocksOf", unfollowed := true, recurses := true, apart := false }
def BlocksOfSaid : Prop := blocksOfRow.holds Try.pinned (OpenSpec.ofChange blocksOfSpec)

/-- ITS FALSE NEIGHBOUR: 'it returns false'. Refute it at one input. -/
def blocksOfWrong : ChangeSpec := { name := "blocksOf", fn := fun _ => fun
  | [d1, d2] => { results := [.lit (.bool false)], args := [d1, d2] }
  | _ => none }
def BlocksOfWrongFalsely : Prop := blocksOfRow.holds Try.pinned (OpenSpec.ofChange blocksOfWrong)

/-- 'castkeep.BlocksWalk': WHATEVER THE INPUT: true; the input reads as it did. -/
def blocksWalkSpec : ChangeSpec := { name := "blocksWalk", fn := fun _ => fun
  | [d] => { results := [.lit (.bool true)], args := [d] }
  | _ => none }
def blocksWalkRow : OpenClaim := { program := "ytigfhpffghajaaa", sum := "1e1d765295d19a87c0ea5c008693168aeda43be9d117710e00b406a47669a4eb", func := "lotcaster/castkeep.BlocksWalk", spec := "blocksWalk", unfollowed := true, recurses := true, apart := false }
def BlocksWalkSaid : Prop := blocksWalkRow.holds Try.pinned (OpenSpec.ofChange blocksWalkSpec)

/-- ITS FALSE NEIGHBOUR: 'it returns false'. Refute it at one input. -/
def blocksWalkWrong : ChangeSpec := { name := "blocksWalk", fn := fun _ => fun
  | [d] => { results := [.lit (.bool false)], args := [d] }
  | _ => none }
def BlocksWalkWrongFalsely : Prop := blocksWalkRow.holds Try.pinned (OpenSpec.ofChange blocksWalkWrong)

/- THE SECOND FORM. 'bulk': how many values and letters a reading holds, each counted each time it is reached (what is shared counts as often as it is met; a slice's spare places count too). A statement '..UptoSaid' is the law's where the arguments, and the package variables that the reading takes, are together of bulk at most 1048576: NARROWER than '..Said'. Prove '..Said' where nothing that the law and all that it calls make is longer than what came in: it says more and counts as full. Else prove '..UptoSaid'. A law counts once. -/
mutual
def uptoBulk {H : Type} : DataW H → Nat
  | .lit (.string bytes) => bytes.length + 1
  | .lit _ => 1
  | .nil => 1
  | .ptr d => uptoBulk d + 1
  | .slice elems spare => uptoBulkAll elems + uptoBulkAll spare + 1
  | .agg parts => uptoBulkAll parts + 1
  | .iface _ d => uptoBulk d + 1
  | .map entries => uptoBulkEntries entries + 1
  | .held _ => 1
def uptoBulkAll {H : Type} : List (DataW H) → Nat
  | [] => 0
  | d :: r => uptoBulk d + uptoBulkAll r
def uptoBulkEntries {H : Type} : List (Lit × DataW H) → Nat
  | [] => 0
  | x :: r => uptoBulkEntry x + uptoBulkEntries r
def uptoBulkEntry {H : Type} : Lit × DataW H → Nat
  | (.string bytes, d) => bytes.length + uptoBulk d + 1
  | (_, d) => uptoBulk d + 1
 end
def uptoSmall : (H : Type) → List (DataW H) → Bool := fun _ ds => decide (uptoBulkAll ds ≤ 1048576)
def OpenSpec.upto (s : _root_.Go.ChangeSpec) : _root_.Go.OpenSpec := { _root_.Go.OpenSpec.ofChange s with cond := some uptoSmall }

/-- 'castlaw.BlocksSay', WHERE WHAT IT READS IS OF BULK AT MOST 1048576: true; the input reads as it did. -/
def blocksSayUptoRow : OpenClaim := { program := "ytigfhpffghajaaa", sum := "1e1d765295d19a87c0ea5c008693168aeda43be9d117710e00b406a47669a4eb", func := "lotcaster/castlaw.BlocksSay", spec := "blocksSay", recurses := true, apart := false, narrowed := true }
def BlocksSayUptoSaid : Prop := blocksSayUptoRow.holds Try.pinned (OpenSpec.upto blocksSaySpec)

/-- 'castkeep.BlocksStirling', WHERE WHAT IT READS IS OF BULK AT MOST 1048576: true; the input reads as it did. -/
def blocksStirlingUptoRow : OpenClaim := { program := "ytigfhpffghajaaa", sum := "1e1d765295d19a87c0ea5c008693168aeda43be9d117710e00b406a47669a4eb", func := "lotcaster/castkeep.BlocksStirling", spec := "blocksStirling", unfollowed := true, recurses := true, apart := false, narrowed := true }
def BlocksStirlingUptoSaid : Prop := blocksStirlingUptoRow.holds Try.pinned (OpenSpec.upto blocksStirlingSpec)

/-- 'castkeep.BlocksTouchard', WHERE WHAT IT READS IS OF BULK AT MOST 1048576: true; the input reads as it did. -/
def blocksTouchardUptoRow : OpenClaim := { program := "ytigfhpffghajaaa", sum := "1e1d765295d19a87c0ea5c008693168aeda43be9d117710e00b406a47669a4eb", func := "lotcaster/castkeep.BlocksTouchard", spec := "blocksTouchard", unfollowed := true, recurses := true, apart := false, narrowed := true }
def BlocksTouchardUptoSaid : Prop := blocksTouchardUptoRow.holds Try.pinned (OpenSpec.upto blocksTouchardSpec)

/-- 'castkeep.BlocksNext', WHERE WHAT IT READS IS OF BULK AT MOST 1048576: true; the input reads as it did. -/
def blocksNextUptoRow : OpenClaim := { program := "ytigfhpffghajaaa", sum := "1e1d765295d19a87c0ea5c008693168aeda43be9d117710e00b406a47669a4eb", func := "lotcaster/castkeep.BlocksNext", spec := "blocksNext", unfollowed := true, recurses := true, apart := false, narrowed := true }
def BlocksNextUptoSaid : Prop := blocksNextUptoRow.holds Try.pinned (OpenSpec.upto blocksNextSpec)

/-- 'castkeep.BlocksOf', WHERE WHAT IT READS IS OF BULK AT MOST 1048576: true; the input reads as it did. -/
def blocksOfUptoRow : OpenClaim := { program := "ytigfhpffghajaaa", sum := "1e1d765295d19a87c0ea5c008693168aeda43be9d117710e00b406a47669a4eb", func := "lotcaster/castkeep.BlocksOf", spec := "blocksOf", unfollowed := true, recurses := true, apart := false, narrowed := true }
def BlocksOfUptoSaid : Prop := blocksOfUptoRow.holds Try.pinned (OpenSpec.upto blocksOfSpec)

/-- 'castkeep.BlocksWalk', WHERE WHAT IT READS IS OF BULK AT MOST 1048576: true; the input reads as it did. -/
def blocksWalkUptoRow : OpenClaim := { program := "ytigfhpffghajaaa", sum := "1e1d765295d19a87c0ea5c008693168aeda43be9d117710e00b406a47669a4eb", func := "lotcaster/castkeep.BlocksWalk", spec := "blocksWalk", unfollowed := true, recurses := true, apart := false, narrowed := true }
def BlocksWalkUptoSaid : Prop := blocksWalkUptoRow.holds Try.pinned (OpenSpec.upto blocksWalkSpec)

end Rows
end Go.Proofs.Ytigfhpffghajaaa
