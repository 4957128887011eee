/-
  From the rows' condition (two tables read as Go lays them) to the table's cells; a world in which they lie so.
-/
import Derived.Test.YteegddpoekphoaaDoorPartT
import Derived.ProofKit
import Derived.LaidMore
import Derived.LaidSub
import Derived.OpenShut
import Derived.Stop.Joined
import Derived.Lib.LaidTab
namespace Go.Proofs.YteegddpoekphoaaDoor
open Go.ChangeShapes Go.WideShapes Go.ChangeAt Go.RowKit

abbrev laidT2 : List (String × DataW Unit) := [("math/bits.deBruijn32tab", Rows.laid_math_bits_deBruijn32tab), ("math/bits.deBruijn64tab", Rows.laid_math_bits_deBruijn64tab)]
theorem gTab64 : Tryd.prog.globalNamed "math/bits.deBruijn64tab" = some 1 := by kernel_rfl
theorem tTab64 : (Tryd.prog.globals[1]?).map (·.type) = some 74 := by kernel_rfl
def keep64 (x : String × DataW Unit) : Bool := x.1 == "math/bits.deBruijn64tab"
theorem laidT2_eq : laidT2.filter keep64 = [("math/bits.deBruijn64tab", Lib.tabData .u8 tz64Tab)] := rfl

theorem tab64_of_laid {W : World} (h : laidMetH Tryd.prog laidT2 W) : Tab64 W := by
  have h0 := laidMetH.filter keep64 h
  rw [laidT2_eq, MakeChecks.laidMetH_plain _ _ _ (by kernel_rfl)] at h0
  have h1 := Lib.tabIs_of_head gTab64 tTab64 Tryd.underlying74 Tryd.underlying5 (by kernel_rfl) (by kernel_rfl) h0
  exact fun i hi => h1.cell gTab64 i (show i < tz64Tab.length from hi)

theorem door_met2 (os : Os) (args : Array Value) : laidMetH Tryd.prog laidT2 ((World.doorLaid Tryd.prog 400 os).forCall (fun _ _ => 0) ⟨#[], args, []⟩).memory :=
  laidMetH_of_parts3 (fuel := 8) (laidMet_of_run' 8 (by kernel_rfl) (by kernel_rfl)) (by kernel_rfl) (by kernel_rfl)

end Go.Proofs.YteegddpoekphoaaDoor
