/-
  castkeep.perms: the closed look at three numbers, turned.
-/
import Derived.Test.YtaklchehamkgcaaLit
import Derived.Test.YtaklchehamkgcaaSmall
import Derived.Test.YtaklchehamkgcaaOrder
import Derived.Test.YtaklchehamkgcaaGood
import Derived.Test.YtaklchehamkgcaaEqual
namespace Go.Proofs.Ytaklchehamkgcaa
open Go.RowKit

end Go.Proofs.Ytaklchehamkgcaa
