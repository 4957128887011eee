/-
  No cell of these rows narrows 'for every input' (looked for: loops, veiled, ifaces, maps, wideKeys, modest, calm, conditions, laid).
  DERIVED. THE GIVEN ROWS OF THIS SEAT. 3 by the template 'for every input the law returns true; each argument reads behind the call as it read before'; 0 by the template 'total and deterministic' (their statements: YteahhjakchcmkaaTotals.lean).
  GIVEN WITH THE SEED: the statements are not yours to turn. If you find one false, say at which input.
  Laid BY PROGRAM, IN A SANDBOX (cutbox-rows.mjs): the forced cells as the released guide's own fill.sh prints them over the translation 5a5503c5542de0d7… (all of the seat's roots in one cut). By AI agents, Wed Nov 11 2026. No macro, syntax, notation, axiom, sorry.
-/
import Derived.Test.YteahhjakchcmkaaChecked
import GoSem.Claim
import GoSem.ClaimJoined
import GoSem.ClaimMapViews
import Derived.JoinedTies
import Derived.KernelRfl
namespace Go.Proofs.Yteahhjakchcmkaa
/- THE CELL 'sum', in the pinned program and in every row, IS THE sha256 OF THE DUMP (.gsa) THAT YteahhjakchcmkaaProg.lean LOADS. Nothing in Lean hashes anything: it is a label: what it is worth is what the hold of that sum in a sandbox is worth. -/
noncomputable def Try.pinned : Pinned := { name := "yteahhjakchcmkaa", sum := "5a5503c5542de0d73f0f58428f78171a35b3757969bea00ffa5ff5ed33bfe2cb", checked := Try.checked }
namespace Rows
def none {H : Type} : Left H := { results := [], args := [] }

/-- 'castlaw.AliasSays': WHATEVER THE INPUT: true; the input reads as it did. -/
def aliasSaysSpec : ChangeSpec := { name := "aliasSays", fn := fun _ => fun
  | [d1, d2, d3, d4] => { results := [.lit (.bool true)], args := [d1, d2, d3, d4] }
  | _ => none }
def aliasSaysRow : OpenClaim := { program := "yteahhjakchcmkaa", sum := "5a5503c5542de0d73f0f58428f78171a35b3757969bea00ffa5ff5ed33bfe2cb", func := "lotcaster/castlaw.AliasSays", spec := "aliasSays", unfollowed := true, recurses := true, apart := false }
def AliasSaysSaid : Prop := aliasSaysRow.holds Try.pinned (OpenSpec.ofChange aliasSaysSpec)

/-- ITS FALSE NEIGHBOUR: 'it returns false'. Refute it at one input. -/
def aliasSaysWrong : ChangeSpec := { name := "aliasSays", fn := fun _ => fun
  | [d1, d2, d3, d4] => { results := [.lit (.bool false)], args := [d1, d2, d3, d4] }
  | _ => none }
def AliasSaysWrongFalsely : Prop := aliasSaysRow.holds Try.pinned (OpenSpec.ofChange aliasSaysWrong)

/-- 'castkeep.AliasEven': WHATEVER THE INPUT: true; the input reads as it did. -/
def aliasEvenSpec : ChangeSpec := { name := "aliasEven", fn := fun _ => fun
  | [d] => { results := [.lit (.bool true)], args := [d] }
  | _ => none }
def aliasEvenRow : OpenClaim := { program := "yteahhjakchcmkaa", sum := "5a5503c5542de0d73f0f58428f78171a35b3757969bea00ffa5ff5ed33bfe2cb", func := "lotcaster/castkeep.AliasEven", spec := "aliasEven", unfollowed := true, recurses := true, apart := false }
def AliasEvenSaid : Prop := aliasEvenRow.holds Try.pinned (OpenSpec.ofChange aliasEvenSpec)

/-- ITS FALSE NEIGHBOUR: 'it returns false'. Refute it at one input. -/
def aliasEvenWrong : ChangeSpec := { name := "aliasEven", fn := fun _ => fun
  | [d] => { results := [.lit (.bool false)], args := [d] }
  | _ => none }
def AliasEvenWrongFalsely : Prop := aliasEvenRow.holds Try.pinned (OpenSpec.ofChange aliasEvenWrong)

/-- 'castkeep.AliasOne': WHATEVER THE INPUT: true; the input reads as it did. -/
def aliasOneSpec : ChangeSpec := { name := "aliasOne", fn := fun _ => fun
  | [d1, d2, d3] => { results := [.lit (.bool true)], args := [d1, d2, d3] }
  | _ => none }
def aliasOneRow : OpenClaim := { program := "yteahhjakchcmkaa", sum := "5a5503c5542de0d73f0f58428f78171a35b3757969bea00ffa5ff5ed33bfe2cb", func := "lotcaster/castkeep.AliasOne", spec := "aliasOne", unfollowed := true, recurses := true, apart := false }
def AliasOneSaid : Prop := aliasOneRow.holds Try.pinned (OpenSpec.ofChange aliasOneSpec)

/-- ITS FALSE NEIGHBOUR: 'it returns false'. Refute it at one input. -/
def aliasOneWrong : ChangeSpec := { name := "aliasOne", fn := fun _ => fun
  | [d1, d2, d3] => { results := [.lit (.bool false)], args := [d1, d2, d3] }
  | _ => none }
def AliasOneWrongFalsely : Prop := aliasOneRow.holds Try.pinned (OpenSpec.ofChange aliasOneWrong)

/- THE SECOND FORM. 'bulk': how many values and letters a reading holds, each counted each time it is reached (what is shared counts as often as it is met; a slice's spare places count too). A statement '..UptoSaid' is the law's where the arguments, and the package variables that the reading takes, are together of bulk at most 1048576: NARROWER than '..Said'. Prove '..Said' where nothing that the law and all that it calls make is longer than what came in: it says more and counts as full. Else prove '..UptoSaid'. A law counts once. -/
mutual
def uptoBulk {H : Type} : DataW H → Nat
  | .lit (.string bytes) => bytes.length + 1
  | .lit _ => 1
  | .nil => 1
  | .ptr d => uptoBulk d + 1
  | .slice elems spare => uptoBulkAll elems + uptoBulkAll spare + 1
  | .agg parts => uptoBulkAll parts + 1
  | .iface _ d => uptoBulk d + 1
  | .map entries => uptoBulkEntries entries + 1
  | .held _ => 1
def uptoBulkAll {H : Type} : List (DataW H) → Nat
  | [] => 0
  | d :: r => uptoBulk d + uptoBulkAll r
def uptoBulkEntries {H : Type} : List (Lit × DataW H) → Nat
  | [] => 0
  | x :: r => uptoBulkEntry x + uptoBulkEntries r
def uptoBulkEntry {H : Type} : Lit × DataW H → Nat
  | (.string bytes, d) => bytes.length + uptoBulk d + 1
  | (_, d) => uptoBulk d + 1
 end
def uptoSmall : (H : Type) → List (DataW H) → Bool := fun _ ds => decide (uptoBulkAll ds ≤ 1048576)
def OpenSpec.upto (s : _root_.Go.ChangeSpec) : _root_.Go.OpenSpec := { _root_.Go.OpenSpec.ofChange s with cond := some uptoSmall }

/-- 'castlaw.AliasSays', WHERE WHAT IT READS IS OF BULK AT MOST 1048576: true; the input reads as it did. -/
def aliasSaysUptoRow : OpenClaim := { program := "yteahhjakchcmkaa", sum := "5a5503c5542de0d73f0f58428f78171a35b3757969bea00ffa5ff5ed33bfe2cb", func := "lotcaster/castlaw.AliasSays", spec := "aliasSays", unfollowed := true, recurses := true, apart := false, narrowed := true }
def AliasSaysUptoSaid : Prop := aliasSaysUptoRow.holds Try.pinned (OpenSpec.upto aliasSaysSpec)

/-- 'castkeep.AliasEven', WHERE WHAT IT READS IS OF BULK AT MOST 1048576: true; the input reads as it did. -/
def aliasEvenUptoRow : OpenClaim := { program := "yteahhjakchcmkaa", sum := "5a5503c5542de0d73f0f58428f78171a35b3757969bea00ffa5ff5ed33bfe2cb", func := "lotcaster/castkeep.AliasEven", spec := "aliasEven", unfollowed := true, recurses := true, apart := false, narrowed := true }
def AliasEvenUptoSaid : Prop := aliasEvenUptoRow.holds Try.pinned (OpenSpec.upto aliasEvenSpec)

/-- 'castkeep.AliasOne', WHERE WHAT IT READS IS OF BULK AT MOST 1048576: true; the input reads as it did. -/
def aliasOneUptoRow : OpenClaim := { program := "yteahhjakchcmkaa", sum := "5a5503c5542de0d73f0f58428f78171a35b3757969bea00ffa5ff5ed33bfe2cb", func := "lotcaster/castkeep.AliasOne", spec := "aliasOne", unfollowed := true, recurses := true, apart := false, narrowed := true }
def AliasOneUptoSaid : Prop := aliasOneUptoRow.holds Try.pinned (OpenSpec.upto aliasOneSpec)

end Rows
end Go.Proofs.Yteahhjakchcmkaa
