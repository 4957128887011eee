/-
  DERIVED. GIVEN WITH THE SEED: THE CARDS: each row of YtlmkkccokemaiaaDoorRows.lean that lists a variable, with what it lists TIED to the program's text (the seventh form; the later family's looks); each row that meets fmt, with fmt's text TOLD by the authors' own Lean function (tested against real Go, not proved from fmt's source: count such statements apart). THE CARD IS WHAT COUNTS. Prove the row's statement (the work); the ties are given (YtlmkkccokemaiaaDoorTie.lean); close each card by the builder's one call (the guide's Derived/Test/ToyasCard.lean, 'card_holds'). Laid BY PROGRAM, IN A SANDBOX (cutbox-door.mjs). By AI agents, Wed Nov 11 2026. No macro, syntax, notation, axiom, sorry.
-/
import Derived.Test.YtlmkkccokemaiaaDoorRows
import GoSem.ClaimSeven
namespace Go.Proofs.YtlmkkccokemaiaaDoor
namespace Rows

/-- THE TIED CARD OF 'castlaw.GraySays'. -/
def graySaysCard : Claim7 := { stood := { row := graySaysRow, standIns := [], harness := (true, "131320dc53b6e8297ebcbe7c76936fbde3e7090c1dadf37736e1d12acb657f87"), looks := false }, kinds := [], alts := [], laidByText := true, laidKinds := [.data], laidTests := true, laidLooks := .later }
def GraySaysCardSaid : Prop := Claim7.holds Tryd.pinned (.plain (OpenSpec.ofChange graySaysSpec)) graySaysCard

/-- THE TIED CARD OF 'castkeep.GrayOne'. -/
def grayOneCard : Claim7 := { stood := { row := grayOneRow, standIns := [], harness := (true, "131320dc53b6e8297ebcbe7c76936fbde3e7090c1dadf37736e1d12acb657f87"), looks := false }, kinds := [], alts := [], laidByText := true, laidKinds := [.data], laidTests := true, laidLooks := .later }
def GrayOneCardSaid : Prop := Claim7.holds Tryd.pinned (.plain (OpenSpec.ofChange grayOneSpec)) grayOneCard

/-- THE SECOND FORM's CARD OF 'castlaw.GraySays'. -/
def graySaysUptoCard : Claim7 := { stood := { row := graySaysUptoRow, standIns := [], harness := (true, "131320dc53b6e8297ebcbe7c76936fbde3e7090c1dadf37736e1d12acb657f87"), looks := false }, kinds := [], alts := [], laidByText := true, laidKinds := [.data], laidTests := true, laidLooks := .later }
def GraySaysUptoCardSaid : Prop := Claim7.holds Tryd.pinned (.plain (OpenSpec.upto graySaysSpec)) graySaysUptoCard

/-- THE SECOND FORM's CARD OF 'castkeep.GrayOne'. -/
def grayOneUptoCard : Claim7 := { stood := { row := grayOneUptoRow, standIns := [], harness := (true, "131320dc53b6e8297ebcbe7c76936fbde3e7090c1dadf37736e1d12acb657f87"), looks := false }, kinds := [], alts := [], laidByText := true, laidKinds := [.data], laidTests := true, laidLooks := .later }
def GrayOneUptoCardSaid : Prop := Claim7.holds Tryd.pinned (.plain (OpenSpec.upto grayOneSpec)) grayOneUptoCard
end Rows
end Go.Proofs.YtlmkkccokemaiaaDoor
