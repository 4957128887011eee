/-
  DERIVED. GIVEN WITH THE SEED: THE CARDS: each row of YtlepgeipcofapaaDoorRows.lean that lists a variable, with what it lists TIED to the program's text (the seventh form; the later family's looks); each row that meets fmt, with fmt's text TOLD by the authors' own Lean function (tested against real Go, not proved from fmt's source: count such statements apart). THE CARD IS WHAT COUNTS. Prove the row's statement (the work); the ties are given (YtlepgeipcofapaaDoorTie.lean); close each card by the builder's one call (the guide's Derived/Test/ToyasCard.lean, 'card_holds'). Laid BY PROGRAM, IN A SANDBOX (cutbox-door.mjs). By AI agents, Wed Nov 11 2026. No macro, syntax, notation, axiom, sorry.
-/
import Derived.Test.YtlepgeipcofapaaDoorRows
import GoSem.ClaimSeven
namespace Go.Proofs.YtlepgeipcofapaaDoor
namespace Rows

/-- THE TIED CARD OF 'casttop.TopWalk'. -/
def topWalkCard : Claim7 := { stood := { row := topWalkRow, standIns := [], harness := (true, "2c1122f12eeae297c3734572693090cd35cd214b702a785ec94d91de97147dfe"), looks := false }, kinds := [], alts := [], laidByText := true, laidKinds := [.data], laidTests := true, laidLooks := .later }
def TopWalkCardSaid : Prop := Claim7.holds Tryd.pinned (.plain (OpenSpec.ofChange topWalkSpec)) topWalkCard

/-- THE SECOND FORM's CARD OF 'casttop.TopWalk'. -/
def topWalkUptoCard : Claim7 := { stood := { row := topWalkUptoRow, standIns := [], harness := (true, "2c1122f12eeae297c3734572693090cd35cd214b702a785ec94d91de97147dfe"), looks := false }, kinds := [], alts := [], laidByText := true, laidKinds := [.data], laidTests := true, laidLooks := .later }
def TopWalkUptoCardSaid : Prop := Claim7.holds Tryd.pinned (.plain (OpenSpec.upto topWalkSpec)) topWalkUptoCard
end Rows
end Go.Proofs.YtlepgeipcofapaaDoor
