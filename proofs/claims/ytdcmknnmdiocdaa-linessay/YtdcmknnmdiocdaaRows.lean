/-
  No cell of these rows narrows 'for every input' (looked for: loops, veiled, ifaces, maps, wideKeys, modest, calm, conditions, laid).
  DERIVED. THE GIVEN ROWS OF THIS SEAT. 5 by the template 'for every input the law returns true; each argument reads behind the call as it read before'; 0 by the template 'total and deterministic' (their statements: YtdcmknnmdiocdaaTotals.lean).
  GIVEN WITH THE SEED: the statements are not yours to turn. If you find one false, say at which input.
  Laid BY PROGRAM, IN A SANDBOX (cutbox-rows.mjs): the forced cells as the released guide's own fill.sh prints them over the translation e2531a5cb1c378e4… (all of the seat's roots in one cut). By AI agents, Wed Nov 11 2026. No macro, syntax, notation, axiom, sorry.
-/
import Derived.Test.YtdcmknnmdiocdaaChecked
import GoSem.Claim
import GoSem.ClaimJoined
import GoSem.ClaimMapViews
import Derived.JoinedTies
import Derived.KernelRfl
namespace Go.Proofs.Ytdcmknnmdiocdaa
/- THE CELL 'sum', in the pinned program and in every row, IS THE sha256 OF THE DUMP (.gsa) THAT YtdcmknnmdiocdaaProg.lean LOADS. Nothing in Lean hashes anything: it is a label: what it is worth is what the hold of that sum in a sandbox is worth. -/
noncomputable def Try.pinned : Pinned := { name := "ytdcmknnmdiocdaa", sum := "e2531a5cb1c378e45ff5c82386e2fb0e5cf69397a3b969cbdb73dd166a844c8b", checked := Try.checked }
namespace Rows
def none {H : Type} : Left H := { results := [], args := [] }

/-- 'castlaw.LinesSay': WHATEVER THE INPUT: true; the input reads as it did. -/
def linesSaySpec : ChangeSpec := { name := "linesSay", fn := fun _ => fun
  | [d] => { results := [.lit (.bool true)], args := [d] }
  | _ => none }
def linesSayRow : OpenClaim := { program := "ytdcmknnmdiocdaa", sum := "e2531a5cb1c378e45ff5c82386e2fb0e5cf69397a3b969cbdb73dd166a844c8b", func := "lotcaster/castlaw.LinesSay", spec := "linesSay", unfollowed := true, recurses := true, apart := false }
def LinesSaySaid : Prop := linesSayRow.holds Try.pinned (OpenSpec.ofChange linesSaySpec)

/-- ITS FALSE NEIGHBOUR: 'it returns false'. Refute it at one input. -/
def linesSayWrong : ChangeSpec := { name := "linesSay", fn := fun _ => fun
  | [d] => { results := [.lit (.bool false)], args := [d] }
  | _ => none }
def LinesSayWrongFalsely : Prop := linesSayRow.holds Try.pinned (OpenSpec.ofChange linesSayWrong)

/-- 'castkeep.TableauFirst': WHATEVER THE INPUT: true; the input reads as it did. -/
def tableauFirstSpec : ChangeSpec := { name := "tableauFirst", fn := fun _ => fun
  | [d] => { results := [.lit (.bool true)], args := [d] }
  | _ => none }
def tableauFirstRow : OpenClaim := { program := "ytdcmknnmdiocdaa", sum := "e2531a5cb1c378e45ff5c82386e2fb0e5cf69397a3b969cbdb73dd166a844c8b", func := "lotcaster/castkeep.TableauFirst", spec := "tableauFirst", unfollowed := true, recurses := true, apart := false }
def TableauFirstSaid : Prop := tableauFirstRow.holds Try.pinned (OpenSpec.ofChange tableauFirstSpec)

/-- ITS FALSE NEIGHBOUR: 'it returns false'. Refute it at one input. -/
def tableauFirstWrong : ChangeSpec := { name := "tableauFirst", fn := fun _ => fun
  | [d] => { results := [.lit (.bool false)], args := [d] }
  | _ => none }
def TableauFirstWrongFalsely : Prop := tableauFirstRow.holds Try.pinned (OpenSpec.ofChange tableauFirstWrong)

/-- 'castkeep.LinesLong': WHATEVER THE INPUT: true; the input reads as it did. -/
def linesLongSpec : ChangeSpec := { name := "linesLong", fn := fun _ => fun
  | [d] => { results := [.lit (.bool true)], args := [d] }
  | _ => none }
def linesLongRow : OpenClaim := { program := "ytdcmknnmdiocdaa", sum := "e2531a5cb1c378e45ff5c82386e2fb0e5cf69397a3b969cbdb73dd166a844c8b", func := "lotcaster/castkeep.LinesLong", spec := "linesLong", unfollowed := true, recurses := true, apart := false }
def LinesLongSaid : Prop := linesLongRow.holds Try.pinned (OpenSpec.ofChange linesLongSpec)

/-- ITS FALSE NEIGHBOUR: 'it returns false'. Refute it at one input. -/
def linesLongWrong : ChangeSpec := { name := "linesLong", fn := fun _ => fun
  | [d] => { results := [.lit (.bool false)], args := [d] }
  | _ => none }
def LinesLongWrongFalsely : Prop := linesLongRow.holds Try.pinned (OpenSpec.ofChange linesLongWrong)

/-- 'castkeep.LinesHeaps': WHATEVER THE INPUT: true; the input reads as it did. -/
def linesHeapsSpec : ChangeSpec := { name := "linesHeaps", fn := fun _ => fun
  | [d] => { results := [.lit (.bool true)], args := [d] }
  | _ => none }
def linesHeapsRow : OpenClaim := { program := "ytdcmknnmdiocdaa", sum := "e2531a5cb1c378e45ff5c82386e2fb0e5cf69397a3b969cbdb73dd166a844c8b", func := "lotcaster/castkeep.LinesHeaps", spec := "linesHeaps", unfollowed := true, recurses := true, apart := false }
def LinesHeapsSaid : Prop := linesHeapsRow.holds Try.pinned (OpenSpec.ofChange linesHeapsSpec)

/-- ITS FALSE NEIGHBOUR: 'it returns false'. Refute it at one input. -/
def linesHeapsWrong : ChangeSpec := { name := "linesHeaps", fn := fun _ => fun
  | [d] => { results := [.lit (.bool false)], args := [d] }
  | _ => none }
def LinesHeapsWrongFalsely : Prop := linesHeapsRow.holds Try.pinned (OpenSpec.ofChange linesHeapsWrong)

/-- 'castkeep.LinesMore': WHATEVER THE INPUT: true; the input reads as it did. -/
def linesMoreSpec : ChangeSpec := { name := "linesMore", fn := fun _ => fun
  | [d1, d2] => { results := [.lit (.bool true)], args := [d1, d2] }
  | _ => none }
def linesMoreRow : OpenClaim := { program := "ytdcmknnmdiocdaa", sum := "e2531a5cb1c378e45ff5c82386e2fb0e5cf69397a3b969cbdb73dd166a844c8b", func := "lotcaster/castkeep.LinesMore", spec := "linesMore", unfollowed := true, recurses := true, apart := false }
def LinesMoreSaid : Prop := linesMoreRow.holds Try.pinned (OpenSpec.ofChange linesMoreSpec)

/-- ITS FALSE NEIGHBOUR: 'it returns false'. Refute it at one input. -/
def linesMoreWrong : ChangeSpec := { name := "linesMore", fn := fun _ => fun
  | [d1, d2] => { results := [.lit (.bool false)], args := [d1, d2] }
  | _ => none }
def LinesMoreWrongFalsely : Prop := linesMoreRow.holds Try.pinned (OpenSpec.ofChange linesMoreWrong)

/- THE SECOND FORM. 'bulk': how many values and letters a reading holds, each counted each time it is reached (what is shared counts as often as it is met; a slice's spare places count too). A statement '..UptoSaid' is the law's where the arguments, and the package variables that the reading takes, are together of bulk at most 1048576: NARROWER than '..Said'. Prove '..Said' where nothing that the law and all that it calls make is longer than what came in: it says more and counts as full. Else prove '..UptoSaid'. A law counts once. -/
mutual
def uptoBulk {H : Type} : DataW H → Nat
  | .lit (.string bytes) => bytes.length + 1
  | .lit _ => 1
  | .nil => 1
  | .ptr d => uptoBulk d + 1
  | .slice elems spare => uptoBulkAll elems + uptoBulkAll spare + 1
  | .agg parts => uptoBulkAll parts + 1
  | .iface _ d => uptoBulk d + 1
  | .map entries => uptoBulkEntries entries + 1
  | .held _ => 1
def uptoBulkAll {H : Type} : List (DataW H) → Nat
  | [] => 0
  | d :: r => uptoBulk d + uptoBulkAll r
def uptoBulkEntries {H : Type} : List (Lit × DataW H) → Nat
  | [] => 0
  | x :: r => uptoBulkEntry x + uptoBulkEntries r
def uptoBulkEntry {H : Type} : Lit × DataW H → Nat
  | (.string bytes, d) => bytes.length + uptoBulk d + 1
  | (_, d) => uptoBulk d + 1
 end
def uptoSmall : (H : Type) → List (DataW H) → Bool := fun _ ds => decide (uptoBulkAll ds ≤ 1048576)
def OpenSpec.upto (s : _root_.Go.ChangeSpec) : _root_.Go.OpenSpec := { _root_.Go.OpenSpec.ofChange s with cond := some uptoSmall }

/-- 'castlaw.LinesSay', WHERE WHAT IT READS IS OF BULK AT MOST 1048576: true; the input reads as it did. -/
def linesSayUptoRow : OpenClaim := { program := "ytdcmknnmdiocdaa", sum := "e2531a5cb1c378e45ff5c82386e2fb0e5cf69397a3b969cbdb73dd166a844c8b", func := "lotcaster/castlaw.LinesSay", spec := "linesSay", unfollowed := true, recurses := true, apart := false, narrowed := true }
def LinesSayUptoSaid : Prop := linesSayUptoRow.holds Try.pinned (OpenSpec.upto linesSaySpec)

/-- 'castkeep.TableauFirst', WHERE WHAT IT READS IS OF BULK AT MOST 1048576: true; the input reads as it did. -/
def tableauFirstUptoRow : OpenClaim := { program := "ytdcmknnmdiocdaa", sum := "e2531a5cb1c378e45ff5c82386e2fb0e5cf69397a3b969cbdb73dd166a844c8b", func := "lotcaster/castkeep.TableauFirst", spec := "tableauFirst", unfollowed := true, recurses := true, apart := false, narrowed := true }
def TableauFirstUptoSaid : Prop := tableauFirstUptoRow.holds Try.pinned (OpenSpec.upto tableauFirstSpec)

/-- 'castkeep.LinesLong', WHERE WHAT IT READS IS OF BULK AT MOST 1048576: true; the input reads as it did. -/
def linesLongUptoRow : OpenClaim := { program := "ytdcmknnmdiocdaa", sum := "e2531a5cb1c378e45ff5c82386e2fb0e5cf69397a3b969cbdb73dd166a844c8b", func := "lotcaster/castkeep.LinesLong", spec := "linesLong", unfollowed := true, recurses := true, apart := false, narrowed := true }
def LinesLongUptoSaid : Prop := linesLongUptoRow.holds Try.pinned (OpenSpec.upto linesLongSpec)

/-- 'castkeep.LinesHeaps', WHERE WHAT IT READS IS OF BULK AT MOST 1048576: true; the input reads as it did. -/
def linesHeapsUptoRow : OpenClaim := { program := "ytdcmknnmdiocdaa", sum := "e2531a5cb1c378e45ff5c82386e2fb0e5cf69397a3b969cbdb73dd166a844c8b", func := "lotcaster/castkeep.LinesHeaps", spec := "linesHeaps", unfollowed := true, recurses := true, apart := false, narrowed := true }
def LinesHeapsUptoSaid : Prop := linesHeapsUptoRow.holds Try.pinned (OpenSpec.upto linesHeapsSpec)

/-- 'castkeep.LinesMore', WHERE WHAT IT READS IS OF BULK AT MOST 1048576: true; the input reads as it did. -/
def linesMoreUptoRow : OpenClaim := { program := "ytdcmknnmdiocdaa", sum := "e2531a5cb1c378e45ff5c82386e2fb0e5cf69397a3b969cbdb73dd166a844c8b", func := "lotcaster/castkeep.LinesMore", spec := "linesMore", unfollowed := true, recurses := true, apart := false, narrowed := true }
def LinesMoreUptoSaid : Prop := linesMoreUptoRow.holds Try.pinned (OpenSpec.upto linesMoreSpec)

end Rows
end Go.Proofs.Ytdcmknnmdiocdaa
