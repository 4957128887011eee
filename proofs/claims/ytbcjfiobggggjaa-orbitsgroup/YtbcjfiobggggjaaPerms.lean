/-
  castkeep.perms: the closed look at three numbers, turned.
-/
import Derived.Test.YtbcjfiobggggjaaLit
import Derived.Test.YtbcjfiobggggjaaSmall
import Derived.Test.YtbcjfiobggggjaaOrder
import Derived.Test.YtbcjfiobggggjaaGood
import Derived.Test.YtbcjfiobggggjaaEqual
namespace Go.Proofs.Ytbcjfiobggggjaa
open Go.RowKit

end Go.Proofs.Ytbcjfiobggggjaa
