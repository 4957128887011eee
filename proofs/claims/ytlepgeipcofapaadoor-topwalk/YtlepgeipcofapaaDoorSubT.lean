/-
  From the row's condition (the table reads as Go lays it) to the table's cells; a world in which it lies so.
-/
import Derived.Test.YtlepgeipcofapaaDoorSubB
import Derived.ProofKit
import Derived.LaidMore
import Derived.OpenShut
import Derived.Stop.Joined
import Derived.Lib.LaidTab
namespace Go.Proofs.YtlepgeipcofapaaDoor
open Go.ChangeShapes Go.WideShapes Go.ChangeAt Go.RowKit

abbrev laidT : List (String × DataW Unit) := [("math/bits.deBruijn32tab", Rows.laid_math_bits_deBruijn32tab)]
theorem gTab : Tryd.prog.globalNamed "math/bits.deBruijn32tab" = some 0 := by kernel_rfl
theorem tTab : (Tryd.prog.globals[0]?).map (·.type) = some 51 := by kernel_rfl
theorem laidT_eq : laidT = [("math/bits.deBruijn32tab", Lib.tabData .u8 tzTab)] := rfl

theorem tab_of_laid {W : World} (h : laidMetH Tryd.prog laidT W) : Tab W := by
  rw [MakeChecks.laidMetH_plain _ _ _ (by kernel_rfl), laidT_eq] at h
  have h1 := Lib.tabIs_of_head gTab tTab Tryd.underlying51 Tryd.underlying5 (by kernel_rfl) (by kernel_rfl) h
  exact fun i hi => h1.cell gTab i (show i < tzTab.length from hi)

theorem door_met (os : Os) (args : Array Value) : laidMetH Tryd.prog laidT ((World.doorLaid Tryd.prog 400 os).forCall (fun _ _ => 0) ⟨#[], args, []⟩).memory :=
  laidMetH_of_parts3 (fuel := 8) (laidMet_of_run' 8 (by kernel_rfl) (by kernel_rfl)) (by kernel_rfl) (by kernel_rfl)

theorem wf_u16 {a : Int} (h : (Lit.int .u16 a).wf = true) : ∃ s : Nat, a = s ∧ s < 65536 := by
  simp only [Lit.wf, Bool.and_eq_true, decide_eq_true_eq] at h
  have h1 : (0 : Int) ≤ a := h.1
  have h2 : a ≤ 65535 := h.2
  exact ⟨a.toNat, by omega, by omega⟩

end Go.Proofs.YtlepgeipcofapaaDoor
