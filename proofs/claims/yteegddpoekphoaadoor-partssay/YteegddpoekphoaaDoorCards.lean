/-
  DERIVED. GIVEN WITH THE SEED: THE CARDS: each row of YteegddpoekphoaaDoorRows.lean that lists a variable, with what it lists TIED to the program's text (the seventh form; the later family's looks); each row that meets fmt, with fmt's text TOLD by the authors' own Lean function (tested against real Go, not proved from fmt's source: count such statements apart). THE CARD IS WHAT COUNTS. Prove the row's statement (the work); the ties are given (YteegddpoekphoaaDoorTie.lean); close each card by the builder's one call (the guide's Derived/Test/ToyasCard.lean, 'card_holds'). Laid BY PROGRAM, IN A SANDBOX (cutbox-door.mjs). By AI agents, Wed Nov 11 2026. No macro, syntax, notation, axiom, sorry.
-/
import Derived.Test.YteegddpoekphoaaDoorRows
import GoSem.ClaimSeven
namespace Go.Proofs.YteegddpoekphoaaDoor
namespace Rows

/-- THE TIED CARD OF 'castlaw.PartsSay'. -/
def partsSayCard : Claim7 := { stood := { row := partsSayRow, standIns := [], harness := (true, "bd6fc83271f9690322ecab44c661668d93f22cc74f15670864ca2323780e412a"), looks := false }, kinds := [], alts := [], laidByText := true, laidKinds := [.data, .data], laidTests := true, laidLooks := .later }
def PartsSayCardSaid : Prop := Claim7.holds Tryd.pinned (.plain (OpenSpec.ofChange partsSaySpec)) partsSayCard

/-- THE TIED CARD OF 'castkeep.PartsGlaisher'. -/
def partsGlaisherCard : Claim7 := { stood := { row := partsGlaisherRow, standIns := [], harness := (true, "bd6fc83271f9690322ecab44c661668d93f22cc74f15670864ca2323780e412a"), looks := false }, kinds := [], alts := [], laidByText := true, laidKinds := [.data, .data], laidTests := true, laidLooks := .later }
def PartsGlaisherCardSaid : Prop := Claim7.holds Tryd.pinned (.plain (OpenSpec.ofChange partsGlaisherSpec)) partsGlaisherCard

/-- THE SECOND FORM's CARD OF 'castlaw.PartsSay'. -/
def partsSayUptoCard : Claim7 := { stood := { row := partsSayUptoRow, standIns := [], harness := (true, "bd6fc83271f9690322ecab44c661668d93f22cc74f15670864ca2323780e412a"), looks := false }, kinds := [], alts := [], laidByText := true, laidKinds := [.data, .data], laidTests := true, laidLooks := .later }
def PartsSayUptoCardSaid : Prop := Claim7.holds Tryd.pinned (.plain (OpenSpec.upto partsSaySpec)) partsSayUptoCard

/-- THE SECOND FORM's CARD OF 'castkeep.PartsGlaisher'. -/
def partsGlaisherUptoCard : Claim7 := { stood := { row := partsGlaisherUptoRow, standIns := [], harness := (true, "bd6fc83271f9690322ecab44c661668d93f22cc74f15670864ca2323780e412a"), looks := false }, kinds := [], alts := [], laidByText := true, laidKinds := [.data, .data], laidTests := true, laidLooks := .later }
def PartsGlaisherUptoCardSaid : Prop := Claim7.holds Tryd.pinned (.plain (OpenSpec.upto partsGlaisherSpec)) partsGlaisherUptoCard
end Rows
end Go.Proofs.YteegddpoekphoaaDoor
