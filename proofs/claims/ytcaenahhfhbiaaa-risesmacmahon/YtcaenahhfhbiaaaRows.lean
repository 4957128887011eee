/-
  No cell of these rows narrows 'for every input' (looked for: loops, veiled, ifaces, maps, wideKeys, modest, calm, conditions, laid).
  DERIVED. THE GIVEN ROWS OF THIS SEAT. 6 by the template 'for every input the law returns true; each argument reads behind the call as it read before'; 0 by the template 'total and deterministic' (their statements: YtcaenahhfhbiaaaTotals.lean).
  GIVEN WITH THE SEED: the statements are not yours to turn. If you find one false, say at which input.
  Laid BY PROGRAM, IN A SANDBOX (cutbox-rows.mjs): the forced cells as the released guide's own fill.sh prints them over the translation b4508fcf8a1d5e5a… (all of the seat's roots in one cut). By AI agents, Wed Nov 11 2026. No macro, syntax, notation, axiom, sorry.
-/
import Derived.Test.YtcaenahhfhbiaaaChecked
import GoSem.Claim
import GoSem.ClaimJoined
import GoSem.ClaimMapViews
import Derived.JoinedTies
import Derived.KernelRfl
namespace Go.Proofs.Ytcaenahhfhbiaaa
/- THE CELL 'sum', in the pinned program and in every row, IS THE sha256 OF THE DUMP (.gsa) THAT YtcaenahhfhbiaaaProg.lean LOADS. Nothing in Lean hashes anything: it is a label: what it is worth is what the hold of that sum in a sandbox is worth. -/
noncomputable def Try.pinned : Pinned := { name := "ytcaenahhfhbiaaa", sum := "b4508fcf8a1d5e5a4181512113b1ddda9e8b97dad02a6c43e4b3c3e40d2d6006", checked := Try.checked }
namespace Rows
def none {H : Type} : Left H := { results := [], args := [] }

/-- 'castlaw.RisesSay': WHATEVER THE INPUT: true; the input reads as it did. -/
def risesSaySpec : ChangeSpec := { name := "risesSay", fn := fun _ => fun
  | [d1, d2, d3] => { results := [.lit (.bool true)], args := [d1, d2, d3] }
  | _ => none }
def risesSayRow : OpenClaim := { program := "ytcaenahhfhbiaaa", sum := "b4508fcf8a1d5e5a4181512113b1ddda9e8b97dad02a6c43e4b3c3e40d2d6006", func := "lotcaster/castlaw.RisesSay", spec := "risesSay", apart := false }
def RisesSaySaid : Prop := risesSayRow.holds Try.pinned (OpenSpec.ofChange risesSaySpec)

/-- ITS FALSE NEIGHBOUR: 'it returns false'. Refute it at one input. -/
def risesSayWrong : ChangeSpec := { name := "risesSay", fn := fun _ => fun
  | [d1, d2, d3] => { results := [.lit (.bool false)], args := [d1, d2, d3] }
  | _ => none }
def RisesSayWrongFalsely : Prop := risesSayRow.holds Try.pinned (OpenSpec.ofChange risesSayWrong)

/-- 'castkeep.RankCode': WHATEVER THE INPUT: true; the input reads as it did. -/
def rankCodeSpec : ChangeSpec := { name := "rankCode", fn := fun _ => fun
  | [d1, d2] => { results := [.lit (.bool true)], args := [d1, d2] }
  | _ => none }
def rankCodeRow : OpenClaim := { program := "ytcaenahhfhbiaaa", sum := "b4508fcf8a1d5e5a4181512113b1ddda9e8b97dad02a6c43e4b3c3e40d2d6006", func := "lotcaster/castkeep.RankCode", spec := "rankCode", unfollowed := true, recurses := true, apart := false }
def RankCodeSaid : Prop := rankCodeRow.holds Try.pinned (OpenSpec.ofChange rankCodeSpec)

/-- ITS FALSE NEIGHBOUR: 'it returns false'. Refute it at one input. -/
def rankCodeWrong : ChangeSpec := { name := "rankCode", fn := fun _ => fun
  | [d1, d2] => { results := [.lit (.bool false)], args := [d1, d2] }
  | _ => none }
def RankCodeWrongFalsely : Prop := rankCodeRow.holds Try.pinned (OpenSpec.ofChange rankCodeWrong)

/-- 'castkeep.RisesSums': WHATEVER THE INPUT: true; the input reads as it did. -/
def risesSumsSpec : ChangeSpec := { name := "risesSums", fn := fun _ => fun
  | [d1, d2] => { results := [.lit (.bool true)], args := [d1, d2] }
  | _ => none }
def risesSumsRow : OpenClaim := { program := "ytcaenahhfhbiaaa", sum := "b4508fcf8a1d5e5a4181512113b1ddda9e8b97dad02a6c43e4b3c3e40d2d6006", func := "lotcaster/castkeep.RisesSums", spec := "risesSums", unfollowed := true, recurses := true, apart := false }
def RisesSumsSaid : Prop := risesSumsRow.holds Try.pinned (OpenSpec.ofChange risesSumsSpec)

/-- ITS FALSE NEIGHBOUR: 'it returns false'. Refute it at one input. -/
def risesSumsWrong : ChangeSpec := { name := "risesSums", fn := fun _ => fun
  | [d1, d2] => { results := [.lit (.bool false)], args := [d1, d2] }
  | _ => none }
def RisesSumsWrongFalsely : Prop := risesSumsRow.holds Try.pinned (OpenSpec.ofChange risesSumsWrong)

/-- 'castkeep.RisesWorpitzky': WHATEVER THE INPUT: true; the input reads as it did. -/
def risesWorpitzkySpec : ChangeSpec := { name := "risesWorpitzky", fn := fun _ => fun
  | [d1, d2] => { results := [.lit (.bool true)], args := [d1, d2] }
  | _ => none }
def risesWorpitzkyRow : OpenClaim := { program := "ytcaenahhfhbiaaa", sum := "b4508fcf8a1d5e5a4181512113b1ddda9e8b97dad02a6c43e4b3c3e40d2d6006", func := "lotcaster/castkeep.RisesWorpitzky", spec := "risesWorpitzky", unfollowed := true, recurses := true, apart := false }
def RisesWorpitzkySaid : Prop := risesWorpitzkyRow.holds Try.pinned (OpenSpec.ofChange risesWorpitzkySpec)

/-- ITS FALSE NEIGHBOUR: 'it returns false'. Refute it at one input. -/
def risesWorpitzkyWrong : ChangeSpec := { name := "risesWorpitzky", fn := fun _ => fun
  | [d1, d2] => { results := [.lit (.bool false)], args := [d1, d2] }
  | _ => none }
def RisesWorpitzkyWrongFalsely : Prop := risesWorpitzkyRow.holds Try.pinned (OpenSpec.ofChange risesWorpitzkyWrong)

/-- 'castkeep.RisesTurned': WHATEVER THE INPUT: true; the input reads as it did. -/
def risesTurnedSpec : ChangeSpec := { name := "risesTurned", fn := fun _ => fun
  | [d] => { results := [.lit (.bool true)], args := [d] }
  | _ => none }
def risesTurnedRow : OpenClaim := { program := "ytcaenahhfhbiaaa", sum := "b4508fcf8a1d5e5a4181512113b1ddda9e8b97dad02a6c43e4b3c3e40d2d6006", func := "lotcaster/castkeep.RisesTurned", spec := "risesTurned", unfollowed := true, recurses := true, apart := false }
def RisesTurnedSaid : Prop := risesTurnedRow.holds Try.pinned (OpenSpec.ofChange risesTurnedSpec)

/-- ITS FALSE NEIGHBOUR: 'it returns false'. Refute it at one input. -/
def risesTurnedWrong : ChangeSpec := { name := "risesTurned", fn := fun _ => fun
  | [d] => { results := [.lit (.bool false)], args := [d] }
  | _ => none }
def RisesTurnedWrongFalsely : Prop := risesTurnedRow.holds Try.pinned (OpenSpec.ofChange risesTurnedWrong)

/-- 'castkeep.RisesMacMahon': WHATEVER THE INPUT: true; the input reads as it did. -/
def risesMacMahonSpec : ChangeSpec := { name := "risesMacMahon", fn := fun _ => fun
  | [d] => { results := [.lit (.bool true)], args := [d] }
  | _ => none }
def risesMacMahonRow : OpenClaim := { program := "ytcaenahhfhbiaaa", sum := "b4508fcf8a1d5e5a4181512113b1ddda9e8b97dad02a6c43e4b3c3e40d2d6006", func := "lotcaster/castkeep.RisesMacMahon", spec := "risesMacMahon", unfollowed := true, recurses := true, apart := false }
def RisesMacMahonSaid : Prop := risesMacMahonRow.holds Try.pinned (OpenSpec.ofChange risesMacMahonSpec)

/-- ITS FALSE NEIGHBOUR: 'it returns false'. Refute it at one input. -/
def risesMacMahonWrong : ChangeSpec := { name := "risesMacMahon", fn := fun _ => fun
  | [d] => { results := [.lit (.bool false)], args := [d] }
  | _ => none }
def RisesMacMahonWrongFalsely : Prop := risesMacMahonRow.holds Try.pinned (OpenSpec.ofChange risesMacMahonWrong)

/- THE SECOND FORM. 'bulk': how many values and letters a reading holds, each counted each time it is reached (what is shared counts as often as it is met; a slice's spare places count too). A statement '..UptoSaid' is the law's where the arguments, and the package variables that the reading takes, are together of bulk at most 1048576: NARROWER than '..Said'. Prove '..Said' where nothing that the law and all that it calls make is longer than what came in: it says more and counts as full. Else prove '..UptoSaid'. A law counts once. -/
mutual
def uptoBulk {H : Type} : DataW H → Nat
  | .lit (.string bytes) => bytes.length + 1
  | .lit _ => 1
  | .nil => 1
  | .ptr d => uptoBulk d + 1
  | .slice elems spare => uptoBulkAll elems + uptoBulkAll spare + 1
  | .agg parts => uptoBulkAll parts + 1
  | .iface _ d => uptoBulk d + 1
  | .map entries => uptoBulkEntries entries + 1
  | .held _ => 1
def uptoBulkAll {H : Type} : List (DataW H) → Nat
  | [] => 0
  | d :: r => uptoBulk d + uptoBulkAll r
def uptoBulkEntries {H : Type} : List (Lit × DataW H) → Nat
  | [] => 0
  | x :: r => uptoBulkEntry x + uptoBulkEntries r
def uptoBulkEntry {H : Type} : Lit × DataW H → Nat
  | (.string bytes, d) => bytes.length + uptoBulk d + 1
  | (_, d) => uptoBulk d + 1
 end
def uptoSmall : (H : Type) → List (DataW H) → Bool := fun _ ds => decide (uptoBulkAll ds ≤ 1048576)
def OpenSpec.upto (s : _root_.Go.ChangeSpec) : _root_.Go.OpenSpec := { _root_.Go.OpenSpec.ofChange s with cond := some uptoSmall }

/-- 'castlaw.RisesSay', WHERE WHAT IT READS IS OF BULK AT MOST 1048576: true; the input reads as it did. -/
def risesSayUptoRow : OpenClaim := { program := "ytcaenahhfhbiaaa", sum := "b4508fcf8a1d5e5a4181512113b1ddda9e8b97dad02a6c43e4b3c3e40d2d6006", func := "lotcaster/castlaw.RisesSay", spec := "risesSay", apart := false, narrowed := true }
def RisesSayUptoSaid : Prop := risesSayUptoRow.holds Try.pinned (OpenSpec.upto risesSaySpec)

/-- 'castkeep.RankCode', WHERE WHAT IT READS IS OF BULK AT MOST 1048576: true; the input reads as it did. -/
def rankCodeUptoRow : OpenClaim := { program := "ytcaenahhfhbiaaa", sum := "b4508fcf8a1d5e5a4181512113b1ddda9e8b97dad02a6c43e4b3c3e40d2d6006", func := "lotcaster/castkeep.RankCode", spec := "rankCode", unfollowed := true, recurses := true, apart := false, narrowed := true }
def RankCodeUptoSaid : Prop := rankCodeUptoRow.holds Try.pinned (OpenSpec.upto rankCodeSpec)

/-- 'castkeep.RisesSums', WHERE WHAT IT READS IS OF BULK AT MOST 1048576: true; the input reads as it did. -/
def risesSumsUptoRow : OpenClaim := { program := "ytcaenahhfhbiaaa", sum := "b4508fcf8a1d5e5a4181512113b1ddda9e8b97dad02a6c43e4b3c3e40d2d6006", func := "lotcaster/castkeep.RisesSums", spec := "risesSums", unfollowed := true, recurses := true, apart := false, narrowed := true }
def RisesSumsUptoSaid : Prop := risesSumsUptoRow.holds Try.pinned (OpenSpec.upto risesSumsSpec)

/-- 'castkeep.RisesWorpitzky', WHERE WHAT IT READS IS OF BULK AT MOST 1048576: true; the input reads as it did. -/
def risesWorpitzkyUptoRow : OpenClaim := { program := "ytcaenahhfhbiaaa", sum := "b4508fcf8a1d5e5a4181512113b1ddda9e8b97dad02a6c43e4b3c3e40d2d6006", func := "lotcaster/castkeep.RisesWorpitzky", spec := "risesWorpitzky", unfollowed := true, recurses := true, apart := false, narrowed := true }
def RisesWorpitzkyUptoSaid : Prop := risesWorpitzkyUptoRow.holds Try.pinned (OpenSpec.upto risesWorpitzkySpec)

/-- 'castkeep.RisesTurned', WHERE WHAT IT READS IS OF BULK AT MOST 1048576: true; the input reads as it did. -/
def risesTurnedUptoRow : OpenClaim := { program := "ytcaenahhfhbiaaa", sum := "b4508fcf8a1d5e5a4181512113b1ddda9e8b97dad02a6c43e4b3c3e40d2d6006", func := "lotcaster/castkeep.RisesTurned", spec := "risesTurned", unfollowed := true, recurses := true, apart := false, narrowed := true }
def RisesTurnedUptoSaid : Prop := risesTurnedUptoRow.holds Try.pinned (OpenSpec.upto risesTurnedSpec)

/-- 'castkeep.RisesMacMahon', WHERE WHAT IT READS IS OF BULK AT MOST 1048576: true; the input reads as it did. -/
def risesMacMahonUptoRow : OpenClaim := { program := "ytcaenahhfhbiaaa", sum := "b4508fcf8a1d5e5a4181512113b1ddda9e8b97dad02a6c43e4b3c3e40d2d6006", func := "lotcaster/castkeep.RisesMacMahon", spec := "risesMacMahon", unfollowed := true, recurses := true, apart := false, narrowed := true }
def RisesMacMahonUptoSaid : Prop := risesMacMahonUptoRow.holds Try.pinned (OpenSpec.upto risesMacMahonSpec)

end Rows
end Go.Proofs.Ytcaenahhfhbiaaa
