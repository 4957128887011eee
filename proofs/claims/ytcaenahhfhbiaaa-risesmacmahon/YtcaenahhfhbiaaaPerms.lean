/-
  castkeep.perms: the closed look at three numbers, turned.
-/
import Derived.Test.YtcaenahhfhbiaaaLit
import Derived.Test.YtcaenahhfhbiaaaSmall
import Derived.Test.YtcaenahhfhbiaaaOrder
import Derived.Test.YtcaenahhfhbiaaaGood
import Derived.Test.YtcaenahhfhbiaaaEqual
namespace Go.Proofs.Ytcaenahhfhbiaaa
open Go.RowKit

end Go.Proofs.Ytcaenahhfhbiaaa
