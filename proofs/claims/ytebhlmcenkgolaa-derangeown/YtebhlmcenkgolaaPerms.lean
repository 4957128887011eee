/-
  castkeep.perms: the closed look at three numbers, turned.
-/
import Derived.Test.YtebhlmcenkgolaaLit
import Derived.Test.YtebhlmcenkgolaaSmall
import Derived.Test.YtebhlmcenkgolaaOrder
import Derived.Test.YtebhlmcenkgolaaGood
import Derived.Test.YtebhlmcenkgolaaEqual
namespace Go.Proofs.Ytebhlmcenkgolaa
open Go.RowKit

end Go.Proofs.Ytebhlmcenkgolaa
