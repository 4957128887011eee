/-
  No cell of these rows narrows 'for every input' (looked for: loops, veiled, ifaces, maps, wideKeys, modest, calm, conditions, laid).
  DERIVED. THE GIVEN ROWS OF THIS SEAT. 4 by the template 'for every input the law returns true; each argument reads behind the call as it read before'; 0 by the template 'total and deterministic' (their statements: YtlclmmolbhnpgaaTotals.lean).
  GIVEN WITH THE SEED: the statements are not yours to turn. If you find one false, say at which input.
  Laid BY PROGRAM, IN A SANDBOX (cutbox-rows.mjs): the forced cells as the released guide's own fill.sh prints them over the translation addc6679291a51b1… (all of the seat's roots in one cut). By AI agents, Wed Nov 11 2026. No macro, syntax, notation, axiom, sorry.
-/
import Derived.Test.YtlclmmolbhnpgaaChecked
import GoSem.Claim
import GoSem.ClaimJoined
import GoSem.ClaimMapViews
import Derived.JoinedTies
import Derived.KernelRfl
namespace Go.Proofs.Ytlclmmolbhnpgaa
/- THE CELL 'sum', in the pinned program and in every row, IS THE sha256 OF THE DUMP (.gsa) THAT YtlclmmolbhnpgaaProg.lean LOADS. Nothing in Lean hashes anything: it is a label: what it is worth is what the hold of that sum in a sandbox is worth. -/
noncomputable def Try.pinned : Pinned := { name := "ytlclmmolbhnpgaa", sum := "addc6679291a51b11f8140ba2885445fa0a6ff8fbd006ec7858d221dbf46bd2e", checked := Try.checked }
namespace Rows
def none {H : Type} : Left H := { results := [], args := [] }

/-- 'castlaw.TapeSays': WHATEVER THE INPUT: true; the input reads as it did. -/
def tapeSaysSpec : ChangeSpec := { name := "tapeSays", fn := fun _ => fun
  | [d1, d2, d3] => { results := [.lit (.bool true)], args := [d1, d2, d3] }
  | _ => none }
def tapeSaysRow : OpenClaim := { program := "ytlclmmolbhnpgaa", sum := "addc6679291a51b11f8140ba2885445fa0a6ff8fbd006ec7858d221dbf46bd2e", func := "lotcaster/castlaw.TapeSays", spec := "tapeSays", unfollowed := true, recurses := true, apart := false }
def TapeSaysSaid : Prop := tapeSaysRow.holds Try.pinned (OpenSpec.ofChange tapeSaysSpec)

/-- ITS FALSE NEIGHBOUR: 'it returns false'. Refute it at one input. -/
def tapeSaysWrong : ChangeSpec := { name := "tapeSays", fn := fun _ => fun
  | [d1, d2, d3] => { results := [.lit (.bool false)], args := [d1, d2, d3] }
  | _ => none }
def TapeSaysWrongFalsely : Prop := tapeSaysRow.holds Try.pinned (OpenSpec.ofChange tapeSaysWrong)

/-- 'castkeep.TapeEven': WHATEVER THE INPUT: true; the input reads as it did. -/
def tapeEvenSpec : ChangeSpec := { name := "tapeEven", fn := fun _ => fun
  | [d] => { results := [.lit (.bool true)], args := [d] }
  | _ => none }
def tapeEvenRow : OpenClaim := { program := "ytlclmmolbhnpgaa", sum := "addc6679291a51b11f8140ba2885445fa0a6ff8fbd006ec7858d221dbf46bd2e", func := "lotcaster/castkeep.TapeEven", spec := "tapeEven", apart := false }
def TapeEvenSaid : Prop := tapeEvenRow.holds Try.pinned (OpenSpec.ofChange tapeEvenSpec)

/-- ITS FALSE NEIGHBOUR: 'it returns false'. Refute it at one input. -/
def tapeEvenWrong : ChangeSpec := { name := "tapeEven", fn := fun _ => fun
  | [d] => { results := [.lit (.bool false)], args := [d] }
  | _ => none }
def TapeEvenWrongFalsely : Prop := tapeEvenRow.holds Try.pinned (OpenSpec.ofChange tapeEvenWrong)

/-- 'castkeep.TapeOn': WHATEVER THE INPUT: true; the input reads as it did. -/
def tapeOnSpec : ChangeSpec := { name := "tapeOn", fn := fun _ => fun
  | [d1, d2, d3] => { results := [.lit (.bool true)], args := [d1, d2, d3] }
  | _ => none }
def tapeOnRow : OpenClaim := { program := "ytlclmmolbhnpgaa", sum := "addc6679291a51b11f8140ba2885445fa0a6ff8fbd006ec7858d221dbf46bd2e", func := "lotcaster/castkeep.TapeOn", spec := "tapeOn", apart := false }
def TapeOnSaid : Prop := tapeOnRow.holds Try.pinned (OpenSpec.ofChange tapeOnSpec)

/-- ITS FALSE NEIGHBOUR: 'it returns false'. Refute it at one input. -/
def tapeOnWrong : ChangeSpec := { name := "tapeOn", fn := fun _ => fun
  | [d1, d2, d3] => { results := [.lit (.bool false)], args := [d1, d2, d3] }
  | _ => none }
def TapeOnWrongFalsely : Prop := tapeOnRow.holds Try.pinned (OpenSpec.ofChange tapeOnWrong)

/-- 'castkeep.TapeRow': WHATEVER THE INPUT: true; the input reads as it did. -/
def tapeRowSpec : ChangeSpec := { name := "tapeRow", fn := fun _ => fun
  | [d1, d2, d3] => { results := [.lit (.bool true)], args := [d1, d2, d3] }
  | _ => none }
def tapeRowRow : OpenClaim := { program := "ytlclmmolbhnpgaa", sum := "addc6679291a51b11f8140ba2885445fa0a6ff8fbd006ec7858d221dbf46bd2e", func := "lotcaster/castkeep.TapeRow", spec := "tapeRow", apart := false }
def TapeRowSaid : Prop := tapeRowRow.holds Try.pinned (OpenSpec.ofChange tapeRowSpec)

/-- ITS FALSE NEIGHBOUR: 'it returns false'. Refute it at one input. -/
def tapeRowWrong : ChangeSpec := { name := "tapeRow", fn := fun _ => fun
  | [d1, d2, d3] => { results := [.lit (.bool false)], args := [d1, d2, d3] }
  | _ => none }
def TapeRowWrongFalsely : Prop := tapeRowRow.holds Try.pinned (OpenSpec.ofChange tapeRowWrong)

/- THE SECOND FORM. 'bulk': how many values and letters a reading holds, each counted each time it is reached (what is shared counts as often as it is met; a slice's spare places count too). A statement '..UptoSaid' is the law's where the arguments, and the package variables that the reading takes, are together of bulk at most 1048576: NARROWER than '..Said'. Prove '..Said' where nothing that the law and all that it calls make is longer than what came in: it says more and counts as full. Else prove '..UptoSaid'. A law counts once. -/
mutual
def uptoBulk {H : Type} : DataW H → Nat
  | .lit (.string bytes) => bytes.length + 1
  | .lit _ => 1
  | .nil => 1
  | .ptr d => uptoBulk d + 1
  | .slice elems spare => uptoBulkAll elems + uptoBulkAll spare + 1
  | .agg parts => uptoBulkAll parts + 1
  | .iface _ d => uptoBulk d + 1
  | .map entries => uptoBulkEntries entries + 1
  | .held _ => 1
def uptoBulkAll {H : Type} : List (DataW H) → Nat
  | [] => 0
  | d :: r => uptoBulk d + uptoBulkAll r
def uptoBulkEntries {H : Type} : List (Lit × DataW H) → Nat
  | [] => 0
  | x :: r => uptoBulkEntry x + uptoBulkEntries r
def uptoBulkEntry {H : Type} : Lit × DataW H → Nat
  | (.string bytes, d) => bytes.length + uptoBulk d + 1
  | (_, d) => uptoBulk d + 1
 end
def uptoSmall : (H : Type) → List (DataW H) → Bool := fun _ ds => decide (uptoBulkAll ds ≤ 1048576)
def OpenSpec.upto (s : _root_.Go.ChangeSpec) : _root_.Go.OpenSpec := { _root_.Go.OpenSpec.ofChange s with cond := some uptoSmall }

/-- 'castlaw.TapeSays', WHERE WHAT IT READS IS OF BULK AT MOST 1048576: true; the input reads as it did. -/
def tapeSaysUptoRow : OpenClaim := { program := "ytlclmmolbhnpgaa", sum := "addc6679291a51b11f8140ba2885445fa0a6ff8fbd006ec7858d221dbf46bd2e", func := "lotcaster/castlaw.TapeSays", spec := "tapeSays", unfollowed := true, recurses := true, apart := false, narrowed := true }
def TapeSaysUptoSaid : Prop := tapeSaysUptoRow.holds Try.pinned (OpenSpec.upto tapeSaysSpec)

/-- 'castkeep.TapeEven', WHERE WHAT IT READS IS OF BULK AT MOST 1048576: true; the input reads as it did. -/
def tapeEvenUptoRow : OpenClaim := { program := "ytlclmmolbhnpgaa", sum := "addc6679291a51b11f8140ba2885445fa0a6ff8fbd006ec7858d221dbf46bd2e", func := "lotcaster/castkeep.TapeEven", spec := "tapeEven", apart := false, narrowed := true }
def TapeEvenUptoSaid : Prop := tapeEvenUptoRow.holds Try.pinned (OpenSpec.upto tapeEvenSpec)

/-- 'castkeep.TapeOn', WHERE WHAT IT READS IS OF BULK AT MOST 1048576: true; the input reads as it did. -/
def tapeOnUptoRow : OpenClaim := { program := "ytlclmmolbhnpgaa", sum := "addc6679291a51b11f8140ba2885445fa0a6ff8fbd006ec7858d221dbf46bd2e", func := "lotcaster/castkeep.TapeOn", spec := "tapeOn", apart := false, narrowed := true }
def TapeOnUptoSaid : Prop := tapeOnUptoRow.holds Try.pinned (OpenSpec.upto tapeOnSpec)

/-- 'castkeep.TapeRow', WHERE WHAT IT READS IS OF BULK AT MOST 1048576: true; the input reads as it did. -/
def tapeRowUptoRow : OpenClaim := { program := "ytlclmmolbhnpgaa", sum := "addc6679291a51b11f8140ba2885445fa0a6ff8fbd006ec7858d221dbf46bd2e", func := "lotcaster/castkeep.TapeRow", spec := "tapeRow", apart := false, narrowed := true }
def TapeRowUptoSaid : Prop := tapeRowUptoRow.holds Try.pinned (OpenSpec.upto tapeRowSpec)

end Rows
end Go.Proofs.Ytlclmmolbhnpgaa
