/-
  No cell of these rows narrows 'for every input' (looked for: loops, veiled, ifaces, maps, wideKeys, modest, calm, conditions, laid).
  DERIVED. THE GIVEN ROWS OF THIS SEAT. 4 by the template 'for every input the law returns true; each argument reads behind the call as it read before'; 0 by the template 'total and deterministic' (their statements: YtebhlmcenkgolaaTotals.lean).
  GIVEN WITH THE SEED: the statements are not yours to turn. If you find one false, say at which input.
  Laid BY PROGRAM, IN A SANDBOX (cutbox-rows.mjs): the forced cells as the released guide's own fill.sh prints them over the translation baa5fd6c90221f14… (all of the seat's roots in one cut). By AI agents, Wed Nov 11 2026. No macro, syntax, notation, axiom, sorry.
-/
import Derived.Test.YtebhlmcenkgolaaChecked
import GoSem.Claim
import GoSem.ClaimJoined
import GoSem.ClaimMapViews
import Derived.JoinedTies
import Derived.KernelRfl
namespace Go.Proofs.Ytebhlmcenkgolaa
/- THE CELL 'sum', in the pinned program and in every row, IS THE sha256 OF THE DUMP (.gsa) THAT YtebhlmcenkgolaaProg.lean LOADS. Nothing in Lean hashes anything: it is a label: what it is worth is what the hold of that sum in a sandbox is worth. -/
noncomputable def Try.pinned : Pinned := { name := "ytebhlmcenkgolaa", sum := "baa5fd6c90221f14ad690eb00ebb4edc07f2219153aff80afc7998c727d2ac8f", checked := Try.checked }
namespace Rows
def none {H : Type} : Left H := { results := [], args := [] }

/-- 'castlaw.DerangeSays': WHATEVER THE INPUT: true; the input reads as it did. -/
def derangeSaysSpec : ChangeSpec := { name := "derangeSays", fn := fun _ => fun
  | [d1, d2, d3] => { results := [.lit (.bool true)], args := [d1, d2, d3] }
  | _ => none }
def derangeSaysRow : OpenClaim := { program := "ytebhlmcenkgolaa", sum := "baa5fd6c90221f14ad690eb00ebb4edc07f2219153aff80afc7998c727d2ac8f", func := "lotcaster/castlaw.DerangeSays", spec := "derangeSays", recurses := true, apart := false }
def DerangeSaysSaid : Prop := derangeSaysRow.holds Try.pinned (OpenSpec.ofChange derangeSaysSpec)

/-- ITS FALSE NEIGHBOUR: 'it returns false'. Refute it at one input. -/
def derangeSaysWrong : ChangeSpec := { name := "derangeSays", fn := fun _ => fun
  | [d1, d2, d3] => { results := [.lit (.bool false)], args := [d1, d2, d3] }
  | _ => none }
def DerangeSaysWrongFalsely : Prop := derangeSaysRow.holds Try.pinned (OpenSpec.ofChange derangeSaysWrong)

/-- 'castkeep.DerangeNext': WHATEVER THE INPUT: true; the input reads as it did. -/
def derangeNextSpec : ChangeSpec := { name := "derangeNext", fn := fun _ => fun
  | [d] => { results := [.lit (.bool true)], args := [d] }
  | _ => none }
def derangeNextRow : OpenClaim := { program := "ytebhlmcenkgolaa", sum := "baa5fd6c90221f14ad690eb00ebb4edc07f2219153aff80afc7998c727d2ac8f", func := "lotcaster/castkeep.DerangeNext", spec := "derangeNext", unfollowed := true, recurses := true, apart := false }
def DerangeNextSaid : Prop := derangeNextRow.holds Try.pinned (OpenSpec.ofChange derangeNextSpec)

/-- ITS FALSE NEIGHBOUR: 'it returns false'. Refute it at one input. -/
def derangeNextWrong : ChangeSpec := { name := "derangeNext", fn := fun _ => fun
  | [d] => { results := [.lit (.bool false)], args := [d] }
  | _ => none }
def DerangeNextWrongFalsely : Prop := derangeNextRow.holds Try.pinned (OpenSpec.ofChange derangeNextWrong)

/-- 'castkeep.DerangeSums': WHATEVER THE INPUT: true; the input reads as it did. -/
def derangeSumsSpec : ChangeSpec := { name := "derangeSums", fn := fun _ => fun
  | [d] => { results := [.lit (.bool true)], args := [d] }
  | _ => none }
def derangeSumsRow : OpenClaim := { program := "ytebhlmcenkgolaa", sum := "baa5fd6c90221f14ad690eb00ebb4edc07f2219153aff80afc7998c727d2ac8f", func := "lotcaster/castkeep.DerangeSums", spec := "derangeSums", unfollowed := true, recurses := true, apart := false }
def DerangeSumsSaid : Prop := derangeSumsRow.holds Try.pinned (OpenSpec.ofChange derangeSumsSpec)

/-- ITS FALSE NEIGHBOUR: 'it returns false'. Refute it at one input. -/
def derangeSumsWrong : ChangeSpec := { name := "derangeSums", fn := fun _ => fun
  | [d] => { results := [.lit (.bool false)], args := [d] }
  | _ => none }
def DerangeSumsWrongFalsely : Prop := derangeSumsRow.holds Try.pinned (OpenSpec.ofChange derangeSumsWrong)

/-- 'castkeep.DerangeOwn': WHATEVER THE INPUT: true; the input reads as it did. -/
def derangeOwnSpec : ChangeSpec := { name := "derangeOwn", fn := fun _ => fun
  | [d1, d2] => { results := [.lit (.bool true)], args := [d1, d2] }
  | _ => none }
def derangeOwnRow : OpenClaim := { program := "ytebhlmcenkgolaa", sum := "baa5fd6c90221f14ad690eb00ebb4edc07f2219153aff80afc7998c727d2ac8f", func := "lotcaster/castkeep.DerangeOwn", spec := "derangeOwn", unfollowed := true, recurses := true, apart := false }
def DerangeOwnSaid : Prop := derangeOwnRow.holds Try.pinned (OpenSpec.ofChange derangeOwnSpec)

/-- ITS FALSE NEIGHBOUR: 'it returns false'. Refute it at one input. -/
def derangeOwnWrong : ChangeSpec := { name := "derangeOwn", fn := fun _ => fun
  | [d1, d2] => { results := [.lit (.bool false)], args := [d1, d2] }
  | _ => none }
def DerangeOwnWrongFalsely : Prop := derangeOwnRow.holds Try.pinned (OpenSpec.ofChange derangeOwnWrong)

/- THE SECOND FORM. 'bulk': how many values and letters a reading holds, each counted each time it is reached (what is shared counts as often as it is met; a slice's spare places count too). A statement '..UptoSaid' is the law's where the arguments, and the package variables that the reading takes, are together of bulk at most 1048576: NARROWER than '..Said'. Prove '..Said' where nothing that the law and all that it calls make is longer than what came in: it says more and counts as full. Else prove '..UptoSaid'. A law counts once. -/
mutual
def uptoBulk {H : Type} : DataW H → Nat
  | .lit (.string bytes) => bytes.length + 1
  | .lit _ => 1
  | .nil => 1
  | .ptr d => uptoBulk d + 1
  | .slice elems spare => uptoBulkAll elems + uptoBulkAll spare + 1
  | .agg parts => uptoBulkAll parts + 1
  | .iface _ d => uptoBulk d + 1
  | .map entries => uptoBulkEntries entries + 1
  | .held _ => 1
def uptoBulkAll {H : Type} : List (DataW H) → Nat
  | [] => 0
  | d :: r => uptoBulk d + uptoBulkAll r
def uptoBulkEntries {H : Type} : List (Lit × DataW H) → Nat
  | [] => 0
  | x :: r => uptoBulkEntry x + uptoBulkEntries r
def uptoBulkEntry {H : Type} : Lit × DataW H → Nat
  | (.string bytes, d) => bytes.length + uptoBulk d + 1
  | (_, d) => uptoBulk d + 1
 end
def uptoSmall : (H : Type) → List (DataW H) → Bool := fun _ ds => decide (uptoBulkAll ds ≤ 1048576)
def OpenSpec.upto (s : _root_.Go.ChangeSpec) : _root_.Go.OpenSpec := { _root_.Go.OpenSpec.ofChange s with cond := some uptoSmall }

/-- 'castlaw.DerangeSays', WHERE WHAT IT READS IS OF BULK AT MOST 1048576: true; the input reads as it did. -/
def derangeSaysUptoRow : OpenClaim := { program := "ytebhlmcenkgolaa", sum := "baa5fd6c90221f14ad690eb00ebb4edc07f2219153aff80afc7998c727d2ac8f", func := "lotcaster/castlaw.DerangeSays", spec := "derangeSays", recurses := true, apart := false, narrowed := true }
def DerangeSaysUptoSaid : Prop := derangeSaysUptoRow.holds Try.pinned (OpenSpec.upto derangeSaysSpec)

/-- 'castkeep.DerangeNext', WHERE WHAT IT READS IS OF BULK AT MOST 1048576: true; the input reads as it did. -/
def derangeNextUptoRow : OpenClaim := { program := "ytebhlmcenkgolaa", sum := "baa5fd6c90221f14ad690eb00ebb4edc07f2219153aff80afc7998c727d2ac8f", func := "lotcaster/castkeep.DerangeNext", spec := "derangeNext", unfollowed := true, recurses := true, apart := false, narrowed := true }
def DerangeNextUptoSaid : Prop := derangeNextUptoRow.holds Try.pinned (OpenSpec.upto derangeNextSpec)

/-- 'castkeep.DerangeSums', WHERE WHAT IT READS IS OF BULK AT MOST 1048576: true; the input reads as it did. -/
def derangeSumsUptoRow : OpenClaim := { program := "ytebhlmcenkgolaa", sum := "baa5fd6c90221f14ad690eb00ebb4edc07f2219153aff80afc7998c727d2ac8f", func := "lotcaster/castkeep.DerangeSums", spec := "derangeSums", unfollowed := true, recurses := true, apart := false, narrowed := true }
def DerangeSumsUptoSaid : Prop := derangeSumsUptoRow.holds Try.pinned (OpenSpec.upto derangeSumsSpec)

/-- 'castkeep.DerangeOwn', WHERE WHAT IT READS IS OF BULK AT MOST 1048576: true; the input reads as it did. -/
def derangeOwnUptoRow : OpenClaim := { program := "ytebhlmcenkgolaa", sum := "baa5fd6c90221f14ad690eb00ebb4edc07f2219153aff80afc7998c727d2ac8f", func := "lotcaster/castkeep.DerangeOwn", spec := "derangeOwn", unfollowed := true, recurses := true, apart := false, narrowed := true }
def DerangeOwnUptoSaid : Prop := derangeOwnUptoRow.holds Try.pinned (OpenSpec.upto derangeOwnSpec)

end Rows
end Go.Proofs.Ytebhlmcenkgolaa
