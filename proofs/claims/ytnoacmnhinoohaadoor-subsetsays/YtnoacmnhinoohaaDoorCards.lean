/-
  DERIVED. GIVEN WITH THE SEED: THE CARDS: each row of YtnoacmnhinoohaaDoorRows.lean that lists a variable, with what it lists TIED to the program's text (the seventh form; the later family's looks); each row that meets fmt, with fmt's text TOLD by the authors' own Lean function (tested against real Go, not proved from fmt's source: count such statements apart). THE CARD IS WHAT COUNTS. Prove the row's statement (the work); the ties are given (YtnoacmnhinoohaaDoorTie.lean); close each card by the builder's one call (the guide's Derived/Test/ToyasCard.lean, 'card_holds'). Laid BY PROGRAM, IN A SANDBOX (cutbox-door.mjs). By AI agents, Wed Nov 11 2026. No macro, syntax, notation, axiom, sorry.
-/
import Derived.Test.YtnoacmnhinoohaaDoorRows
import GoSem.ClaimSeven
namespace Go.Proofs.YtnoacmnhinoohaaDoor
namespace Rows

/-- THE TIED CARD OF 'castlaw.SubsetSays'. -/
def subsetSaysCard : Claim7 := { stood := { row := subsetSaysRow, standIns := [], harness := (true, "502ee10a854c15f4caced2e91dcd492c2e6490222091b0b4013d943307653bb0"), looks := false }, kinds := [], alts := [], laidByText := true, laidKinds := [.data], laidTests := true, laidLooks := .later }
def SubsetSaysCardSaid : Prop := Claim7.holds Tryd.pinned (.plain (OpenSpec.ofChange subsetSaysSpec)) subsetSaysCard

/-- THE TIED CARD OF 'castkeep.SubsetBack'. -/
def subsetBackCard : Claim7 := { stood := { row := subsetBackRow, standIns := [], harness := (true, "502ee10a854c15f4caced2e91dcd492c2e6490222091b0b4013d943307653bb0"), looks := false }, kinds := [], alts := [], laidByText := true, laidKinds := [.data], laidTests := true, laidLooks := .later }
def SubsetBackCardSaid : Prop := Claim7.holds Tryd.pinned (.plain (OpenSpec.ofChange subsetBackSpec)) subsetBackCard

/-- THE TIED CARD OF 'castkeep.SubsetRises'. -/
def subsetRisesCard : Claim7 := { stood := { row := subsetRisesRow, standIns := [], harness := (true, "502ee10a854c15f4caced2e91dcd492c2e6490222091b0b4013d943307653bb0"), looks := false }, kinds := [], alts := [], laidByText := true, laidKinds := [.data], laidTests := true, laidLooks := .later }
def SubsetRisesCardSaid : Prop := Claim7.holds Tryd.pinned (.plain (OpenSpec.ofChange subsetRisesSpec)) subsetRisesCard

/-- THE TIED CARD OF 'castkeep.SubsetOther'. -/
def subsetOtherCard : Claim7 := { stood := { row := subsetOtherRow, standIns := [], harness := (true, "502ee10a854c15f4caced2e91dcd492c2e6490222091b0b4013d943307653bb0"), looks := false }, kinds := [], alts := [], laidByText := true, laidKinds := [.data], laidTests := true, laidLooks := .later }
def SubsetOtherCardSaid : Prop := Claim7.holds Tryd.pinned (.plain (OpenSpec.ofChange subsetOtherSpec)) subsetOtherCard

/-- THE TIED CARD OF 'castkeep.SubsetWalk'. -/
def subsetWalkCard : Claim7 := { stood := { row := subsetWalkRow, standIns := [], harness := (true, "502ee10a854c15f4caced2e91dcd492c2e6490222091b0b4013d943307653bb0"), looks := false }, kinds := [], alts := [], laidByText := true, laidKinds := [.data], laidTests := true, laidLooks := .later }
def SubsetWalkCardSaid : Prop := Claim7.holds Tryd.pinned (.plain (OpenSpec.ofChange subsetWalkSpec)) subsetWalkCard

/-- THE SECOND FORM's CARD OF 'castlaw.SubsetSays'. -/
def subsetSaysUptoCard : Claim7 := { stood := { row := subsetSaysUptoRow, standIns := [], harness := (true, "502ee10a854c15f4caced2e91dcd492c2e6490222091b0b4013d943307653bb0"), looks := false }, kinds := [], alts := [], laidByText := true, laidKinds := [.data], laidTests := true, laidLooks := .later }
def SubsetSaysUptoCardSaid : Prop := Claim7.holds Tryd.pinned (.plain (OpenSpec.upto subsetSaysSpec)) subsetSaysUptoCard

/-- THE SECOND FORM's CARD OF 'castkeep.SubsetBack'. -/
def subsetBackUptoCard : Claim7 := { stood := { row := subsetBackUptoRow, standIns := [], harness := (true, "502ee10a854c15f4caced2e91dcd492c2e6490222091b0b4013d943307653bb0"), looks := false }, kinds := [], alts := [], laidByText := true, laidKinds := [.data], laidTests := true, laidLooks := .later }
def SubsetBackUptoCardSaid : Prop := Claim7.holds Tryd.pinned (.plain (OpenSpec.upto subsetBackSpec)) subsetBackUptoCard

/-- THE SECOND FORM's CARD OF 'castkeep.SubsetRises'. -/
def subsetRisesUptoCard : Claim7 := { stood := { row := subsetRisesUptoRow, standIns := [], harness := (true, "502ee10a854c15f4caced2e91dcd492c2e6490222091b0b4013d943307653bb0"), looks := false }, kinds := [], alts := [], laidByText := true, laidKinds := [.data], laidTests := true, laidLooks := .later }
def SubsetRisesUptoCardSaid : Prop := Claim7.holds Tryd.pinned (.plain (OpenSpec.upto subsetRisesSpec)) subsetRisesUptoCard

/-- THE SECOND FORM's CARD OF 'castkeep.SubsetOther'. -/
def subsetOtherUptoCard : Claim7 := { stood := { row := subsetOtherUptoRow, standIns := [], harness := (true, "502ee10a854c15f4caced2e91dcd492c2e6490222091b0b4013d943307653bb0"), looks := false }, kinds := [], alts := [], laidByText := true, laidKinds := [.data], laidTests := true, laidLooks := .later }
def SubsetOtherUptoCardSaid : Prop := Claim7.holds Tryd.pinned (.plain (OpenSpec.upto subsetOtherSpec)) subsetOtherUptoCard

/-- THE SECOND FORM's CARD OF 'castkeep.SubsetWalk'. -/
def subsetWalkUptoCard : Claim7 := { stood := { row := subsetWalkUptoRow, standIns := [], harness := (true, "502ee10a854c15f4caced2e91dcd492c2e6490222091b0b4013d943307653bb0"), looks := false }, kinds := [], alts := [], laidByText := true, laidKinds := [.data], laidTests := true, laidLooks := .later }
def SubsetWalkUptoCardSaid : Prop := Claim7.holds Tryd.pinned (.plain (OpenSpec.upto subsetWalkSpec)) subsetWalkUptoCard
end Rows
end Go.Proofs.YtnoacmnhinoohaaDoor
