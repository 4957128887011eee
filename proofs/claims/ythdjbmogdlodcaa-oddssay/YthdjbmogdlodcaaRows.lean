/-
  No cell of these rows narrows 'for every input' (looked for: loops, veiled, ifaces, maps, wideKeys, modest, calm, conditions, laid).
  DERIVED. THE GIVEN ROWS OF THIS SEAT. 7 by the template 'for every input the law returns true; each argument reads behind the call as it read before'; 0 by the template 'total and deterministic' (their statements: YthdjbmogdlodcaaTotals.lean).
  GIVEN WITH THE SEED: the statements are not yours to turn. If you find one false, say at which input.
  Laid BY PROGRAM, IN A SANDBOX (cutbox-rows.mjs): the forced cells as the released guide's own fill.sh prints them over the translation 333f5b1a4d3d375c… (all of the seat's roots in one cut). By AI agents, Wed Nov 11 2026. No macro, syntax, notation, axiom, sorry.
-/
import Derived.Test.YthdjbmogdlodcaaChecked
import GoSem.Claim
import GoSem.ClaimJoined
import GoSem.ClaimMapViews
import Derived.JoinedTies
import Derived.KernelRfl
namespace Go.Proofs.Ythdjbmogdlodcaa
/- THE CELL 'sum', in the pinned program and in every row, IS THE sha256 OF THE DUMP (.gsa) THAT YthdjbmogdlodcaaProg.lean LOADS. Nothing in Lean hashes anything: it is a label: what it is worth is what the hold of that sum in a sandbox is worth. -/
noncomputable def Try.pinned : Pinned := { name := "ythdjbmogdlodcaa", sum := "333f5b1a4d3d375cc78af45007cb319646eb43ed3a55687140a7bb8bb78fb798", checked := Try.checked }
namespace Rows
def none {H : Type} : Left H := { results := [], args := [] }

/-- 'castlaw.OddsSay': WHATEVER THE INPUT: true; the input reads as it did. -/
def oddsSaySpec : ChangeSpec := { name := "oddsSay", fn := fun _ => fun
  | [d1, d2, d3] => { results := [.lit (.bool true)], args := [d1, d2, d3] }
  | _ => none }
def oddsSayRow : OpenClaim := { program := "ythdjbmogdlodcaa", sum := "333f5b1a4d3d375cc78af45007cb319646eb43ed3a55687140a7bb8bb78fb798", func := "lotcaster/castlaw.OddsSay", spec := "oddsSay", unfollowed := true, recurses := true, apart := false }
def OddsSaySaid : Prop := oddsSayRow.holds Try.pinned (OpenSpec.ofChange oddsSaySpec)

/-- ITS FALSE NEIGHBOUR: 'it returns false'. Refute it at one input. -/
def oddsSayWrong : ChangeSpec := { name := "oddsSay", fn := fun _ => fun
  | [d1, d2, d3] => { results := [.lit (.bool false)], args := [d1, d2, d3] }
  | _ => none }
def OddsSayWrongFalsely : Prop := oddsSayRow.holds Try.pinned (OpenSpec.ofChange oddsSayWrong)

/-- 'castkeep.OddsSums': WHATEVER THE INPUT: true; the input reads as it did. -/
def oddsSumsSpec : ChangeSpec := { name := "oddsSums", fn := fun _ => fun
  | [d1, d2] => { results := [.lit (.bool true)], args := [d1, d2] }
  | _ => none }
def oddsSumsRow : OpenClaim := { program := "ythdjbmogdlodcaa", sum := "333f5b1a4d3d375cc78af45007cb319646eb43ed3a55687140a7bb8bb78fb798", func := "lotcaster/castkeep.OddsSums", spec := "oddsSums", unfollowed := true, recurses := true, apart := false }
def OddsSumsSaid : Prop := oddsSumsRow.holds Try.pinned (OpenSpec.ofChange oddsSumsSpec)

/-- ITS FALSE NEIGHBOUR: 'it returns false'. Refute it at one input. -/
def oddsSumsWrong : ChangeSpec := { name := "oddsSums", fn := fun _ => fun
  | [d1, d2] => { results := [.lit (.bool false)], args := [d1, d2] }
  | _ => none }
def OddsSumsWrongFalsely : Prop := oddsSumsRow.holds Try.pinned (OpenSpec.ofChange oddsSumsWrong)

/-- 'castkeep.OddsMarkov': WHATEVER THE INPUT: true; the input reads as it did. -/
def oddsMarkovSpec : ChangeSpec := { name := "oddsMarkov", fn := fun _ => fun
  | [d1, d2] => { results := [.lit (.bool true)], args := [d1, d2] }
  | _ => none }
def oddsMarkovRow : OpenClaim := { program := "ythdjbmogdlodcaa", sum := "333f5b1a4d3d375cc78af45007cb319646eb43ed3a55687140a7bb8bb78fb798", func := "lotcaster/castkeep.OddsMarkov", spec := "oddsMarkov", unfollowed := true, recurses := true, apart := false }
def OddsMarkovSaid : Prop := oddsMarkovRow.holds Try.pinned (OpenSpec.ofChange oddsMarkovSpec)

/-- ITS FALSE NEIGHBOUR: 'it returns false'. Refute it at one input. -/
def oddsMarkovWrong : ChangeSpec := { name := "oddsMarkov", fn := fun _ => fun
  | [d1, d2] => { results := [.lit (.bool false)], args := [d1, d2] }
  | _ => none }
def OddsMarkovWrongFalsely : Prop := oddsMarkovRow.holds Try.pinned (OpenSpec.ofChange oddsMarkovWrong)

/-- 'castkeep.OddsChebyshev': WHATEVER THE INPUT: true; the input reads as it did. -/
def oddsChebyshevSpec : ChangeSpec := { name := "oddsChebyshev", fn := fun _ => fun
  | [d1, d2] => { results := [.lit (.bool true)], args := [d1, d2] }
  | _ => none }
def oddsChebyshevRow : OpenClaim := { program := "ythdjbmogdlodcaa", sum := "333f5b1a4d3d375cc78af45007cb319646eb43ed3a55687140a7bb8bb78fb798", func := "lotcaster/castkeep.OddsChebyshev", spec := "oddsChebyshev", unfollowed := true, recurses := true, apart := false }
def OddsChebyshevSaid : Prop := oddsChebyshevRow.holds Try.pinned (OpenSpec.ofChange oddsChebyshevSpec)

/-- ITS FALSE NEIGHBOUR: 'it returns false'. Refute it at one input. -/
def oddsChebyshevWrong : ChangeSpec := { name := "oddsChebyshev", fn := fun _ => fun
  | [d1, d2] => { results := [.lit (.bool false)], args := [d1, d2] }
  | _ => none }
def OddsChebyshevWrongFalsely : Prop := oddsChebyshevRow.holds Try.pinned (OpenSpec.ofChange oddsChebyshevWrong)

/-- 'castkeep.OddsTail': WHATEVER THE INPUT: true; the input reads as it did. -/
def oddsTailSpec : ChangeSpec := { name := "oddsTail", fn := fun _ => fun
  | [d1, d2] => { results := [.lit (.bool true)], args := [d1, d2] }
  | _ => none }
def oddsTailRow : OpenClaim := { program := "ythdjbmogdlodcaa", sum := "333f5b1a4d3d375cc78af45007cb319646eb43ed3a55687140a7bb8bb78fb798", func := "lotcaster/castkeep.OddsTail", spec := "oddsTail", unfollowed := true, recurses := true, apart := false }
def OddsTailSaid : Prop := oddsTailRow.holds Try.pinned (OpenSpec.ofChange oddsTailSpec)

/-- ITS FALSE NEIGHBOUR: 'it returns false'. Refute it at one input. -/
def oddsTailWrong : ChangeSpec := { name := "oddsTail", fn := fun _ => fun
  | [d1, d2] => { results := [.lit (.bool false)], args := [d1, d2] }
  | _ => none }
def OddsTailWrongFalsely : Prop := oddsTailRow.holds Try.pinned (OpenSpec.ofChange oddsTailWrong)

/-- 'castkeep.OddsBernoulli': WHATEVER THE INPUT: true; the input reads as it did. -/
def oddsBernoulliSpec : ChangeSpec := { name := "oddsBernoulli", fn := fun _ => fun
  | [d1, d2] => { results := [.lit (.bool true)], args := [d1, d2] }
  | _ => none }
def oddsBernoulliRow : OpenClaim := { program := "ythdjbmogdlodcaa", sum := "333f5b1a4d3d375cc78af45007cb319646eb43ed3a55687140a7bb8bb78fb798", func := "lotcaster/castkeep.OddsBernoulli", spec := "oddsBernoulli", unfollowed := true, recurses := true, apart := false }
def OddsBernoulliSaid : Prop := oddsBernoulliRow.holds Try.pinned (OpenSpec.ofChange oddsBernoulliSpec)

/-- ITS FALSE NEIGHBOUR: 'it returns false'. Refute it at one input. -/
def oddsBernoulliWrong : ChangeSpec := { name := "oddsBernoulli", fn := fun _ => fun
  | [d1, d2] => { results := [.lit (.bool false)], args := [d1, d2] }
  | _ => none }
def OddsBernoulliWrongFalsely : Prop := oddsBernoulliRow.holds Try.pinned (OpenSpec.ofChange oddsBernoulliWrong)

/-- 'casttop.TopOwn': WHATEVER THE INPUT: true; the input reads as it did. -/
def topOwnSpec : ChangeSpec := { name := "topOwn", fn := fun _ => fun
  | [d] => { results := [.lit (.bool true)], args := [d] }
  | _ => none }
def topOwnRow : OpenClaim := { program := "ythdjbmogdlodcaa", sum := "333f5b1a4d3d375cc78af45007cb319646eb43ed3a55687140a7bb8bb78fb798", func := "lotcaster/casttop.TopOwn", spec := "topOwn", unfollowed := true, recurses := true, apart := false }
def TopOwnSaid : Prop := topOwnRow.holds Try.pinned (OpenSpec.ofChange topOwnSpec)

/-- ITS FALSE NEIGHBOUR: 'it returns false'. Refute it at one input. -/
def topOwnWrong : ChangeSpec := { name := "topOwn", fn := fun _ => fun
  | [d] => { results := [.lit (.bool false)], args := [d] }
  | _ => none }
def TopOwnWrongFalsely : Prop := topOwnRow.holds Try.pinned (OpenSpec.ofChange topOwnWrong)

/- THE SECOND FORM. 'bulk': how many values and letters a reading holds, each counted each time it is reached (what is shared counts as often as it is met; a slice's spare places count too). A statement '..UptoSaid' is the law's where the arguments, and the package variables that the reading takes, are together of bulk at most 1048576: NARROWER than '..Said'. Prove '..Said' where nothing that the law and all that it calls make is longer than what came in: it says more and counts as full. Else prove '..UptoSaid'. A law counts once. -/
mutual
def uptoBulk {H : Type} : DataW H → Nat
  | .lit (.string bytes) => bytes.length + 1
  | .lit _ => 1
  | .nil => 1
  | .ptr d => uptoBulk d + 1
  | .slice elems spare => uptoBulkAll elems + uptoBulkAll spare + 1
  | .agg parts => uptoBulkAll parts + 1
  | .iface _ d => uptoBulk d + 1
  | .map entries => uptoBulkEntries entries + 1
  | .held _ => 1
def uptoBulkAll {H : Type} : List (DataW H) → Nat
  | [] => 0
  | d :: r => uptoBulk d + uptoBulkAll r
def uptoBulkEntries {H : Type} : List (Lit × DataW H) → Nat
  | [] => 0
  | x :: r => uptoBulkEntry x + uptoBulkEntries r
def uptoBulkEntry {H : Type} : Lit × DataW H → Nat
  | (.string bytes, d) => bytes.length + uptoBulk d + 1
  | (_, d) => uptoBulk d + 1
 end
def uptoSmall : (H : Type) → List (DataW H) → Bool := fun _ ds => decide (uptoBulkAll ds ≤ 1048576)
def OpenSpec.upto (s : _root_.Go.ChangeSpec) : _root_.Go.OpenSpec := { _root_.Go.OpenSpec.ofChange s with cond := some uptoSmall }

/-- 'castlaw.OddsSay', WHERE WHAT IT READS IS OF BULK AT MOST 1048576: true; the input reads as it did. -/
def oddsSayUptoRow : OpenClaim := { program := "ythdjbmogdlodcaa", sum := "333f5b1a4d3d375cc78af45007cb319646eb43ed3a55687140a7bb8bb78fb798", func := "lotcaster/castlaw.OddsSay", spec := "oddsSay", unfollowed := true, recurses := true, apart := false, narrowed := true }
def OddsSayUptoSaid : Prop := oddsSayUptoRow.holds Try.pinned (OpenSpec.upto oddsSaySpec)

/-- 'castkeep.OddsSums', WHERE WHAT IT READS IS OF BULK AT MOST 1048576: true; the input reads as it did. -/
def oddsSumsUptoRow : OpenClaim := { program := "ythdjbmogdlodcaa", sum := "333f5b1a4d3d375cc78af45007cb319646eb43ed3a55687140a7bb8bb78fb798", func := "lotcaster/castkeep.OddsSums", spec := "oddsSums", unfollowed := true, recurses := true, apart := false, narrowed := true }
def OddsSumsUptoSaid : Prop := oddsSumsUptoRow.holds Try.pinned (OpenSpec.upto oddsSumsSpec)

/-- 'castkeep.OddsMarkov', WHERE WHAT IT READS IS OF BULK AT MOST 1048576: true; the input reads as it did. -/
def oddsMarkovUptoRow : OpenClaim := { program := "ythdjbmogdlodcaa", sum := "333f5b1a4d3d375cc78af45007cb319646eb43ed3a55687140a7bb8bb78fb798", func := "lotcaster/castkeep.OddsMarkov", spec := "oddsMarkov", unfollowed := true, recurses := true, apart := false, narrowed := true }
def OddsMarkovUptoSaid : Prop := oddsMarkovUptoRow.holds Try.pinned (OpenSpec.upto oddsMarkovSpec)

/-- 'castkeep.OddsChebyshev', WHERE WHAT IT READS IS OF BULK AT MOST 1048576: true; the input reads as it did. -/
def oddsChebyshevUptoRow : OpenClaim := { program := "ythdjbmogdlodcaa", sum := "333f5b1a4d3d375cc78af45007cb319646eb43ed3a55687140a7bb8bb78fb798", func := "lotcaster/castkeep.OddsChebyshev", spec := "oddsChebyshev", unfollowed := true, recurses := true, apart := false, narrowed := true }
def OddsChebyshevUptoSaid : Prop := oddsChebyshevUptoRow.holds Try.pinned (OpenSpec.upto oddsChebyshevSpec)

/-- 'castkeep.OddsTail', WHERE WHAT IT READS IS OF BULK AT MOST 1048576: true; the input reads as it did. -/
def oddsTailUptoRow : OpenClaim := { program := "ythdjbmogdlodcaa", sum := "333f5b1a4d3d375cc78af45007cb319646eb43ed3a55687140a7bb8bb78fb798", func := "lotcaster/castkeep.OddsTail", spec := "oddsTail", unfollowed := true, recurses := true, apart := false, narrowed := true }
def OddsTailUptoSaid : Prop := oddsTailUptoRow.holds Try.pinned (OpenSpec.upto oddsTailSpec)

/-- 'castkeep.OddsBernoulli', WHERE WHAT IT READS IS OF BULK AT MOST 1048576: true; the input reads as it did. -/
def oddsBernoulliUptoRow : OpenClaim := { program := "ythdjbmogdlodcaa", sum := "333f5b1a4d3d375cc78af45007cb319646eb43ed3a55687140a7bb8bb78fb798", func := "lotcaster/castkeep.OddsBernoulli", spec := "oddsBernoulli", unfollowed := true, recurses := true, apart := false, narrowed := true }
def OddsBernoulliUptoSaid : Prop := oddsBernoulliUptoRow.holds Try.pinned (OpenSpec.upto oddsBernoulliSpec)

/-- 'casttop.TopOwn', WHERE WHAT IT READS IS OF BULK AT MOST 1048576: true; the input reads as it did. -/
def topOwnUptoRow : OpenClaim := { program := "ythdjbmogdlodcaa", sum := "333f5b1a4d3d375cc78af45007cb319646eb43ed3a55687140a7bb8bb78fb798", func := "lotcaster/casttop.TopOwn", spec := "topOwn", unfollowed := true, recurses := true, apart := false, narrowed := true }
def TopOwnUptoSaid : Prop := topOwnUptoRow.holds Try.pinned (OpenSpec.upto topOwnSpec)

end Rows
end Go.Proofs.Ythdjbmogdlodcaa
