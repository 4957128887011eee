/-
  No cell of these rows narrows 'for every input' (looked for: loops, veiled, ifaces, maps, wideKeys, modest, calm, conditions, laid).
  DERIVED. THE GIVEN ROWS OF THIS SEAT. 5 by the template 'for every input the law returns true; each argument reads behind the call as it read before'; 0 by the template 'total and deterministic' (their statements: YtlepgeipcofapaaTotals.lean).
  GIVEN WITH THE SEED: the statements are not yours to turn. If you find one false, say at which input.
  Laid BY PROGRAM, IN A SANDBOX (cutbox-rows.mjs): the forced cells as the released guide's own fill.sh prints them over the translation e08e9519809e8b50… (all of the seat's roots in one cut). By AI agents, Wed Nov 11 2026. No macro, syntax, notation, axiom, sorry.
-/
import Derived.Test.YtlepgeipcofapaaChecked
import GoSem.Claim
import GoSem.ClaimJoined
import GoSem.ClaimMapViews
import Derived.JoinedTies
import Derived.KernelRfl
namespace Go.Proofs.Ytlepgeipcofapaa
/- THE CELL 'sum', in the pinned program and in every row, IS THE sha256 OF THE DUMP (.gsa) THAT YtlepgeipcofapaaProg.lean LOADS. Nothing in Lean hashes anything: it is a label: what it is worth is what the hold of that sum in a sandbox is worth. -/
noncomputable def Try.pinned : Pinned := { name := "ytlepgeipcofapaa", sum := "e08e9519809e8b5087a78a661d688c864a9ea7137ff0d56926221d53467f56f8", checked := Try.checked }
namespace Rows
def none {H : Type} : Left H := { results := [], args := [] }

/-- 'castlaw.EventSays': WHATEVER THE INPUT: true; the input reads as it did. -/
def eventSaysSpec : ChangeSpec := { name := "eventSays", fn := fun _ => fun
  | [d1, d2, d3, d4, d5] => { results := [.lit (.bool true)], args := [d1, d2, d3, d4, d5] }
  | _ => none }
def eventSaysRow : OpenClaim := { program := "ytlepgeipcofapaa", sum := "e08e9519809e8b5087a78a661d688c864a9ea7137ff0d56926221d53467f56f8", func := "lotcaster/castlaw.EventSays", spec := "eventSays", unfollowed := true, recurses := true, apart := false }
def EventSaysSaid : Prop := eventSaysRow.holds Try.pinned (OpenSpec.ofChange eventSaysSpec)

/-- ITS FALSE NEIGHBOUR: 'it returns false'. Refute it at one input. -/
def eventSaysWrong : ChangeSpec := { name := "eventSays", fn := fun _ => fun
  | [d1, d2, d3, d4, d5] => { results := [.lit (.bool false)], args := [d1, d2, d3, d4, d5] }
  | _ => none }
def EventSaysWrongFalsely : Prop := eventSaysRow.holds Try.pinned (OpenSpec.ofChange eventSaysWrong)

/-- 'castkeep.EventBayes': WHATEVER THE INPUT: true; the input reads as it did. -/
def eventBayesSpec : ChangeSpec := { name := "eventBayes", fn := fun _ => fun
  | [d1, d2, d3] => { results := [.lit (.bool true)], args := [d1, d2, d3] }
  | _ => none }
def eventBayesRow : OpenClaim := { program := "ytlepgeipcofapaa", sum := "e08e9519809e8b5087a78a661d688c864a9ea7137ff0d56926221d53467f56f8", func := "lotcaster/castkeep.EventBayes", spec := "eventBayes", unfollowed := true, recurses := true, apart := false }
def EventBayesSaid : Prop := eventBayesRow.holds Try.pinned (OpenSpec.ofChange eventBayesSpec)

/-- ITS FALSE NEIGHBOUR: 'it returns false'. Refute it at one input. -/
def eventBayesWrong : ChangeSpec := { name := "eventBayes", fn := fun _ => fun
  | [d1, d2, d3] => { results := [.lit (.bool false)], args := [d1, d2, d3] }
  | _ => none }
def EventBayesWrongFalsely : Prop := eventBayesRow.holds Try.pinned (OpenSpec.ofChange eventBayesWrong)

/-- 'castkeep.EventWhole': WHATEVER THE INPUT: true; the input reads as it did. -/
def eventWholeSpec : ChangeSpec := { name := "eventWhole", fn := fun _ => fun
  | [d1, d2, d3] => { results := [.lit (.bool true)], args := [d1, d2, d3] }
  | _ => none }
def eventWholeRow : OpenClaim := { program := "ytlepgeipcofapaa", sum := "e08e9519809e8b5087a78a661d688c864a9ea7137ff0d56926221d53467f56f8", func := "lotcaster/castkeep.EventWhole", spec := "eventWhole", unfollowed := true, recurses := true, apart := false }
def EventWholeSaid : Prop := eventWholeRow.holds Try.pinned (OpenSpec.ofChange eventWholeSpec)

/-- ITS FALSE NEIGHBOUR: 'it returns false'. Refute it at one input. -/
def eventWholeWrong : ChangeSpec := { name := "eventWhole", fn := fun _ => fun
  | [d1, d2, d3] => { results := [.lit (.bool false)], args := [d1, d2, d3] }
  | _ => none }
def EventWholeWrongFalsely : Prop := eventWholeRow.holds Try.pinned (OpenSpec.ofChange eventWholeWrong)

/-- 'castkeep.EventApart': WHATEVER THE INPUT: true; the input reads as it did. -/
def eventApartSpec : ChangeSpec := { name := "eventApart", fn := fun _ => fun
  | [d1, d2, d3] => { results := [.lit (.bool true)], args := [d1, d2, d3] }
  | _ => none }
def eventApartRow : OpenClaim := { program := "ytlepgeipcofapaa", sum := "e08e9519809e8b5087a78a661d688c864a9ea7137ff0d56926221d53467f56f8", func := "lotcaster/castkeep.EventApart", spec := "eventApart", unfollowed := true, recurses := true, apart := false }
def EventApartSaid : Prop := eventApartRow.holds Try.pinned (OpenSpec.ofChange eventApartSpec)

/-- ITS FALSE NEIGHBOUR: 'it returns false'. Refute it at one input. -/
def eventApartWrong : ChangeSpec := { name := "eventApart", fn := fun _ => fun
  | [d1, d2, d3] => { results := [.lit (.bool false)], args := [d1, d2, d3] }
  | _ => none }
def EventApartWrongFalsely : Prop := eventApartRow.holds Try.pinned (OpenSpec.ofChange eventApartWrong)

/-- 'castkeep.EventSome': WHATEVER THE INPUT: true; the input reads as it did. -/
def eventSomeSpec : ChangeSpec := { name := "eventSome", fn := fun _ => fun
  | [d1, d2] => { results := [.lit (.bool true)], args := [d1, d2] }
  | _ => none }
def eventSomeRow : OpenClaim := { program := "ytlepgeipcofapaa", sum := "e08e9519809e8b5087a78a661d688c864a9ea7137ff0d56926221d53467f56f8", func := "lotcaster/castkeep.EventSome", spec := "eventSome", unfollowed := true, recurses := true, apart := false }
def EventSomeSaid : Prop := eventSomeRow.holds Try.pinned (OpenSpec.ofChange eventSomeSpec)

/-- ITS FALSE NEIGHBOUR: 'it returns false'. Refute it at one input. -/
def eventSomeWrong : ChangeSpec := { name := "eventSome", fn := fun _ => fun
  | [d1, d2] => { results := [.lit (.bool false)], args := [d1, d2] }
  | _ => none }
def EventSomeWrongFalsely : Prop := eventSomeRow.holds Try.pinned (OpenSpec.ofChange eventSomeWrong)

/- THE SECOND FORM. 'bulk': how many values and letters a reading holds, each counted each time it is reached (what is shared counts as often as it is met; a slice's spare places count too). A statement '..UptoSaid' is the law's where the arguments, and the package variables that the reading takes, are together of bulk at most 1048576: NARROWER than '..Said'. Prove '..Said' where nothing that the law and all that it calls make is longer than what came in: it says more and counts as full. Else prove '..UptoSaid'. A law counts once. -/
mutual
def uptoBulk {H : Type} : DataW H → Nat
  | .lit (.string bytes) => bytes.length + 1
  | .lit _ => 1
  | .nil => 1
  | .ptr d => uptoBulk d + 1
  | .slice elems spare => uptoBulkAll elems + uptoBulkAll spare + 1
  | .agg parts => uptoBulkAll parts + 1
  | .iface _ d => uptoBulk d + 1
  | .map entries => uptoBulkEntries entries + 1
  | .held _ => 1
def uptoBulkAll {H : Type} : List (DataW H) → Nat
  | [] => 0
  | d :: r => uptoBulk d + uptoBulkAll r
def uptoBulkEntries {H : Type} : List (Lit × DataW H) → Nat
  | [] => 0
  | x :: r => uptoBulkEntry x + uptoBulkEntries r
def uptoBulkEntry {H : Type} : Lit × DataW H → Nat
  | (.string bytes, d) => bytes.length + uptoBulk d + 1
  | (_, d) => uptoBulk d + 1
 end
def uptoSmall : (H : Type) → List (DataW H) → Bool := fun _ ds => decide (uptoBulkAll ds ≤ 1048576)
def OpenSpec.upto (s : _root_.Go.ChangeSpec) : _root_.Go.OpenSpec := { _root_.Go.OpenSpec.ofChange s with cond := some uptoSmall }

/-- 'castlaw.EventSays', WHERE WHAT IT READS IS OF BULK AT MOST 1048576: true; the input reads as it did. -/
def eventSaysUptoRow : OpenClaim := { program := "ytlepgeipcofapaa", sum := "e08e9519809e8b5087a78a661d688c864a9ea7137ff0d56926221d53467f56f8", func := "lotcaster/castlaw.EventSays", spec := "eventSays", unfollowed := true, recurses := true, apart := false, narrowed := true }
def EventSaysUptoSaid : Prop := eventSaysUptoRow.holds Try.pinned (OpenSpec.upto eventSaysSpec)

/-- 'castkeep.EventBayes', WHERE WHAT IT READS IS OF BULK AT MOST 1048576: true; the input reads as it did. -/
def eventBayesUptoRow : OpenClaim := { program := "ytlepgeipcofapaa", sum := "e08e9519809e8b5087a78a661d688c864a9ea7137ff0d56926221d53467f56f8", func := "lotcaster/castkeep.EventBayes", spec := "eventBayes", unfollowed := true, recurses := true, apart := false, narrowed := true }
def EventBayesUptoSaid : Prop := eventBayesUptoRow.holds Try.pinned (OpenSpec.upto eventBayesSpec)

/-- 'castkeep.EventWhole', WHERE WHAT IT READS IS OF BULK AT MOST 1048576: true; the input reads as it did. -/
def eventWholeUptoRow : OpenClaim := { program := "ytlepgeipcofapaa", sum := "e08e9519809e8b5087a78a661d688c864a9ea7137ff0d56926221d53467f56f8", func := "lotcaster/castkeep.EventWhole", spec := "eventWhole", unfollowed := true, recurses := true, apart := false, narrowed := true }
def EventWholeUptoSaid : Prop := eventWholeUptoRow.holds Try.pinned (OpenSpec.upto eventWholeSpec)

/-- 'castkeep.EventApart', WHERE WHAT IT READS IS OF BULK AT MOST 1048576: true; the input reads as it did. -/
def eventApartUptoRow : OpenClaim := { program := "ytlepgeipcofapaa", sum := "e08e9519809e8b5087a78a661d688c864a9ea7137ff0d56926221d53467f56f8", func := "lotcaster/castkeep.EventApart", spec := "eventApart", unfollowed := true, recurses := true, apart := false, narrowed := true }
def EventApartUptoSaid : Prop := eventApartUptoRow.holds Try.pinned (OpenSpec.upto eventApartSpec)

/-- 'castkeep.EventSome', WHERE WHAT IT READS IS OF BULK AT MOST 1048576: true; the input reads as it did. -/
def eventSomeUptoRow : OpenClaim := { program := "ytlepgeipcofapaa", sum := "e08e9519809e8b5087a78a661d688c864a9ea7137ff0d56926221d53467f56f8", func := "lotcaster/castkeep.EventSome", spec := "eventSome", unfollowed := true, recurses := true, apart := false, narrowed := true }
def EventSomeUptoSaid : Prop := eventSomeUptoRow.holds Try.pinned (OpenSpec.upto eventSomeSpec)

end Rows
end Go.Proofs.Ytlepgeipcofapaa
