/-
  No cell of these rows narrows 'for every input' (looked for: loops, veiled, ifaces, maps, wideKeys, modest, calm, conditions, laid).
  DERIVED. THE GIVEN ROWS OF THIS SEAT. 5 by the template 'for every input the law returns true; each argument reads behind the call as it read before'; 0 by the template 'total and deterministic' (their statements: YtmdpfadfimodjaaTotals.lean).
  GIVEN WITH THE SEED: the statements are not yours to turn. If you find one false, say at which input.
  Laid BY PROGRAM, IN A SANDBOX (cutbox-rows.mjs): the forced cells as the released guide's own fill.sh prints them over the translation 4046d866654e50b1… (all of the seat's roots in one cut). By AI agents, Wed Nov 11 2026. No macro, syntax, notation, axiom, sorry.
-/
import Derived.Test.YtmdpfadfimodjaaChecked
import GoSem.Claim
import GoSem.ClaimJoined
import GoSem.ClaimMapViews
import Derived.JoinedTies
import Derived.KernelRfl
namespace Go.Proofs.Ytmdpfadfimodjaa
/- THE CELL 'sum', in the pinned program and in every row, IS THE sha256 OF THE DUMP (.gsa) THAT YtmdpfadfimodjaaProg.lean LOADS. Nothing in Lean hashes anything: it is a label: what it is worth is what the hold of that sum in a sandbox is worth. -/
noncomputable def Try.pinned : Pinned := { name := "ytmdpfadfimodjaa", sum := "4046d866654e50b1503bfdb0cf33a421f7dac051983633dddec1f881f02d47b9", checked := Try.checked }
namespace Rows
def none {H : Type} : Left H := { results := [], args := [] }

/-- 'castlaw.ShuffleSays': WHATEVER THE INPUT: true; the input reads as it did. -/
def shuffleSaysSpec : ChangeSpec := { name := "shuffleSays", fn := fun _ => fun
  | [d1, d2, d3, d4] => { results := [.lit (.bool true)], args := [d1, d2, d3, d4] }
  | _ => none }
def shuffleSaysRow : OpenClaim := { program := "ytmdpfadfimodjaa", sum := "4046d866654e50b1503bfdb0cf33a421f7dac051983633dddec1f881f02d47b9", func := "lotcaster/castlaw.ShuffleSays", spec := "shuffleSays", unfollowed := true, recurses := true, apart := false }
def ShuffleSaysSaid : Prop := shuffleSaysRow.holds Try.pinned (OpenSpec.ofChange shuffleSaysSpec)

/-- ITS FALSE NEIGHBOUR: 'it returns false'. Refute it at one input. -/
def shuffleSaysWrong : ChangeSpec := { name := "shuffleSays", fn := fun _ => fun
  | [d1, d2, d3, d4] => { results := [.lit (.bool false)], args := [d1, d2, d3, d4] }
  | _ => none }
def ShuffleSaysWrongFalsely : Prop := shuffleSaysRow.holds Try.pinned (OpenSpec.ofChange shuffleSaysWrong)

/-- 'castkeep.ShuffleBack': WHATEVER THE INPUT: true; the input reads as it did. -/
def shuffleBackSpec : ChangeSpec := { name := "shuffleBack", fn := fun _ => fun
  | [d1, d2] => { results := [.lit (.bool true)], args := [d1, d2] }
  | _ => none }
def shuffleBackRow : OpenClaim := { program := "ytmdpfadfimodjaa", sum := "4046d866654e50b1503bfdb0cf33a421f7dac051983633dddec1f881f02d47b9", func := "lotcaster/castkeep.ShuffleBack", spec := "shuffleBack", unfollowed := true, recurses := true, apart := false }
def ShuffleBackSaid : Prop := shuffleBackRow.holds Try.pinned (OpenSpec.ofChange shuffleBackSpec)

/-- ITS FALSE NEIGHBOUR: 'it returns false'. Refute it at one input. -/
def shuffleBackWrong : ChangeSpec := { name := "shuffleBack", fn := fun _ => fun
  | [d1, d2] => { results := [.lit (.bool false)], args := [d1, d2] }
  | _ => none }
def ShuffleBackWrongFalsely : Prop := shuffleBackRow.holds Try.pinned (OpenSpec.ofChange shuffleBackWrong)

/-- 'castkeep.ShuffleEven': WHATEVER THE INPUT: true; the input reads as it did. -/
def shuffleEvenSpec : ChangeSpec := { name := "shuffleEven", fn := fun _ => fun
  | [d] => { results := [.lit (.bool true)], args := [d] }
  | _ => none }
def shuffleEvenRow : OpenClaim := { program := "ytmdpfadfimodjaa", sum := "4046d866654e50b1503bfdb0cf33a421f7dac051983633dddec1f881f02d47b9", func := "lotcaster/castkeep.ShuffleEven", spec := "shuffleEven", unfollowed := true, recurses := true, apart := false }
def ShuffleEvenSaid : Prop := shuffleEvenRow.holds Try.pinned (OpenSpec.ofChange shuffleEvenSpec)

/-- ITS FALSE NEIGHBOUR: 'it returns false'. Refute it at one input. -/
def shuffleEvenWrong : ChangeSpec := { name := "shuffleEven", fn := fun _ => fun
  | [d] => { results := [.lit (.bool false)], args := [d] }
  | _ => none }
def ShuffleEvenWrongFalsely : Prop := shuffleEvenRow.holds Try.pinned (OpenSpec.ofChange shuffleEvenWrong)

/-- 'castkeep.ShuffleCast': WHATEVER THE INPUT: true; the input reads as it did. -/
def shuffleCastSpec : ChangeSpec := { name := "shuffleCast", fn := fun _ => fun
  | [d1, d2] => { results := [.lit (.bool true)], args := [d1, d2] }
  | _ => none }
def shuffleCastRow : OpenClaim := { program := "ytmdpfadfimodjaa", sum := "4046d866654e50b1503bfdb0cf33a421f7dac051983633dddec1f881f02d47b9", func := "lotcaster/castkeep.ShuffleCast", spec := "shuffleCast", unfollowed := true, recurses := true, apart := false }
def ShuffleCastSaid : Prop := shuffleCastRow.holds Try.pinned (OpenSpec.ofChange shuffleCastSpec)

/-- ITS FALSE NEIGHBOUR: 'it returns false'. Refute it at one input. -/
def shuffleCastWrong : ChangeSpec := { name := "shuffleCast", fn := fun _ => fun
  | [d1, d2] => { results := [.lit (.bool false)], args := [d1, d2] }
  | _ => none }
def ShuffleCastWrongFalsely : Prop := shuffleCastRow.holds Try.pinned (OpenSpec.ofChange shuffleCastWrong)

/-- 'casttop.TopOrders': WHATEVER THE INPUT: true; the input reads as it did. -/
def topOrdersSpec : ChangeSpec := { name := "topOrders", fn := fun _ => fun
  | [d1, d2] => { results := [.lit (.bool true)], args := [d1, d2] }
  | _ => none }
def topOrdersRow : OpenClaim := { program := "ytmdpfadfimodjaa", sum := "4046d866654e50b1503bfdb0cf33a421f7dac051983633dddec1f881f02d47b9", func := "lotcaster/casttop.TopOrders", spec := "topOrders", unfollowed := true, recurses := true, apart := false }
def TopOrdersSaid : Prop := topOrdersRow.holds Try.pinned (OpenSpec.ofChange topOrdersSpec)

/-- ITS FALSE NEIGHBOUR: 'it returns false'. Refute it at one input. -/
def topOrdersWrong : ChangeSpec := { name := "topOrders", fn := fun _ => fun
  | [d1, d2] => { results := [.lit (.bool false)], args := [d1, d2] }
  | _ => none }
def TopOrdersWrongFalsely : Prop := topOrdersRow.holds Try.pinned (OpenSpec.ofChange topOrdersWrong)

/- THE SECOND FORM. 'bulk': how many values and letters a reading holds, each counted each time it is reached (what is shared counts as often as it is met; a slice's spare places count too). A statement '..UptoSaid' is the law's where the arguments, and the package variables that the reading takes, are together of bulk at most 1048576: NARROWER than '..Said'. Prove '..Said' where nothing that the law and all that it calls make is longer than what came in: it says more and counts as full. Else prove '..UptoSaid'. A law counts once. -/
mutual
def uptoBulk {H : Type} : DataW H → Nat
  | .lit (.string bytes) => bytes.length + 1
  | .lit _ => 1
  | .nil => 1
  | .ptr d => uptoBulk d + 1
  | .slice elems spare => uptoBulkAll elems + uptoBulkAll spare + 1
  | .agg parts => uptoBulkAll parts + 1
  | .iface _ d => uptoBulk d + 1
  | .map entries => uptoBulkEntries entries + 1
  | .held _ => 1
def uptoBulkAll {H : Type} : List (DataW H) → Nat
  | [] => 0
  | d :: r => uptoBulk d + uptoBulkAll r
def uptoBulkEntries {H : Type} : List (Lit × DataW H) → Nat
  | [] => 0
  | x :: r => uptoBulkEntry x + uptoBulkEntries r
def uptoBulkEntry {H : Type} : Lit × DataW H → Nat
  | (.string bytes, d) => bytes.length + uptoBulk d + 1
  | (_, d) => uptoBulk d + 1
 end
def uptoSmall : (H : Type) → List (DataW H) → Bool := fun _ ds => decide (uptoBulkAll ds ≤ 1048576)
def OpenSpec.upto (s : _root_.Go.ChangeSpec) : _root_.Go.OpenSpec := { _root_.Go.OpenSpec.ofChange s with cond := some uptoSmall }

/-- 'castlaw.ShuffleSays', WHERE WHAT IT READS IS OF BULK AT MOST 1048576: true; the input reads as it did. -/
def shuffleSaysUptoRow : OpenClaim := { program := "ytmdpfadfimodjaa", sum := "4046d866654e50b1503bfdb0cf33a421f7dac051983633dddec1f881f02d47b9", func := "lotcaster/castlaw.ShuffleSays", spec := "shuffleSays", unfollowed := true, recurses := true, apart := false, narrowed := true }
def ShuffleSaysUptoSaid : Prop := shuffleSaysUptoRow.holds Try.pinned (OpenSpec.upto shuffleSaysSpec)

/-- 'castkeep.ShuffleBack', WHERE WHAT IT READS IS OF BULK AT MOST 1048576: true; the input reads as it did. -/
def shuffleBackUptoRow : OpenClaim := { program := "ytmdpfadfimodjaa", sum := "4046d866654e50b1503bfdb0cf33a421f7dac051983633dddec1f881f02d47b9", func := "lotcaster/castkeep.ShuffleBack", spec := "shuffleBack", unfollowed := true, recurses := true, apart := false, narrowed := true }
def ShuffleBackUptoSaid : Prop := shuffleBackUptoRow.holds Try.pinned (OpenSpec.upto shuffleBackSpec)

/-- 'castkeep.ShuffleEven', WHERE WHAT IT READS IS OF BULK AT MOST 1048576: true; the input reads as it did. -/
def shuffleEvenUptoRow : OpenClaim := { program := "ytmdpfadfimodjaa", sum := "4046d866654e50b1503bfdb0cf33a421f7dac051983633dddec1f881f02d47b9", func := "lotcaster/castkeep.ShuffleEven", spec := "shuffleEven", unfollowed := true, recurses := true, apart := false, narrowed := true }
def ShuffleEvenUptoSaid : Prop := shuffleEvenUptoRow.holds Try.pinned (OpenSpec.upto shuffleEvenSpec)

/-- 'castkeep.ShuffleCast', WHERE WHAT IT READS IS OF BULK AT MOST 1048576: true; the input reads as it did. -/
def shuffleCastUptoRow : OpenClaim := { program := "ytmdpfadfimodjaa", sum := "4046d866654e50b1503bfdb0cf33a421f7dac051983633dddec1f881f02d47b9", func := "lotcaster/castkeep.ShuffleCast", spec := "shuffleCast", unfollowed := true, recurses := true, apart := false, narrowed := true }
def ShuffleCastUptoSaid : Prop := shuffleCastUptoRow.holds Try.pinned (OpenSpec.upto shuffleCastSpec)

/-- 'casttop.TopOrders', WHERE WHAT IT READS IS OF BULK AT MOST 1048576: true; the input reads as it did. -/
def topOrdersUptoRow : OpenClaim := { program := "ytmdpfadfimodjaa", sum := "4046d866654e50b1503bfdb0cf33a421f7dac051983633dddec1f881f02d47b9", func := "lotcaster/casttop.TopOrders", spec := "topOrders", unfollowed := true, recurses := true, apart := false, narrowed := true }
def TopOrdersUptoSaid : Prop := topOrdersUptoRow.holds Try.pinned (OpenSpec.upto topOrdersSpec)

end Rows
end Go.Proofs.Ytmdpfadfimodjaa
