/-
  slices.Sort at []int, up to twelve numbers: in rising order; slices.Reverse at []int.
-/
import Derived.Test.YtcaenahhfhbiaaaSortZ
import Derived.Test.YtcaenahhfhbiaaaSortG
namespace Go.Proofs.Ytcaenahhfhbiaaa
open Go.RowKit

def climbs (a b : Int) : Prop := a ≤ b

/-! ### slices.Reverse -/

end Go.Proofs.Ytcaenahhfhbiaaa
