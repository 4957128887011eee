/-
  perm.cycleLengths: the lengths of all cycles, by their least numbers.
-/
import Derived.Test.YteegddpoekphoaaDoorCyc
import Derived.Test.YteegddpoekphoaaDoorDeal
namespace Go.Proofs.YteegddpoekphoaaDoor
open Go.RowKit

theorem rowIs_below {w w' : World} {B b t n : Nat} {f : Nat → Value} (h : w.rowIs b t n f) (hb : Below B w w') (hlt : b < B) : w'.rowIs b t n f := h.of_block (hb.block b hlt)

end Go.Proofs.YteegddpoekphoaaDoor
