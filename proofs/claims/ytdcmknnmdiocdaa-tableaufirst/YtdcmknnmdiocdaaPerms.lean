/-
  castkeep.perms: the closed look at three numbers, turned.
-/
import Derived.Test.YtdcmknnmdiocdaaLit
import Derived.Test.YtdcmknnmdiocdaaSmall
import Derived.Test.YtdcmknnmdiocdaaOrder
import Derived.Test.YtdcmknnmdiocdaaGood
import Derived.Test.YtdcmknnmdiocdaaEqual
namespace Go.Proofs.Ytdcmknnmdiocdaa
open Go.RowKit

end Go.Proofs.Ytdcmknnmdiocdaa
