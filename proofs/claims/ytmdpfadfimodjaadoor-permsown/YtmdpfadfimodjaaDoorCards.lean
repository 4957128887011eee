/-
  DERIVED. GIVEN WITH THE SEED: THE CARDS: each row of YtmdpfadfimodjaaDoorRows.lean that lists a variable, with what it lists TIED to the program's text (the seventh form; the later family's looks); each row that meets fmt, with fmt's text TOLD by the authors' own Lean function (tested against real Go, not proved from fmt's source: count such statements apart). THE CARD IS WHAT COUNTS. Prove the row's statement (the work); the ties are given (YtmdpfadfimodjaaDoorTie.lean); close each card by the builder's one call (the guide's Derived/Test/ToyasCard.lean, 'card_holds'). Laid BY PROGRAM, IN A SANDBOX (cutbox-door.mjs). By AI agents, Wed Nov 11 2026. No macro, syntax, notation, axiom, sorry.
-/
import Derived.Test.YtmdpfadfimodjaaDoorRows
import GoSem.ClaimSeven
namespace Go.Proofs.YtmdpfadfimodjaaDoor
namespace Rows

/-- THE TIED CARD OF 'castkeep.PermsOwn'. -/
def permsOwnCard : Claim7 := { stood := { row := permsOwnRow, standIns := [], harness := (true, "eb86dd545c70d850bbcce4233e1591dfabae1ce3b29b18989834ba4726d53b1b"), looks := false }, kinds := [], alts := [], laidByText := true, laidKinds := [.data, .data], laidTests := true, laidLooks := .later }
def PermsOwnCardSaid : Prop := Claim7.holds Tryd.pinned (.plain (OpenSpec.ofChange permsOwnSpec)) permsOwnCard

/-- THE SECOND FORM's CARD OF 'castkeep.PermsOwn'. -/
def permsOwnUptoCard : Claim7 := { stood := { row := permsOwnUptoRow, standIns := [], harness := (true, "eb86dd545c70d850bbcce4233e1591dfabae1ce3b29b18989834ba4726d53b1b"), looks := false }, kinds := [], alts := [], laidByText := true, laidKinds := [.data, .data], laidTests := true, laidLooks := .later }
def PermsOwnUptoCardSaid : Prop := Claim7.holds Tryd.pinned (.plain (OpenSpec.upto permsOwnSpec)) permsOwnUptoCard
end Rows
end Go.Proofs.YtmdpfadfimodjaaDoor
