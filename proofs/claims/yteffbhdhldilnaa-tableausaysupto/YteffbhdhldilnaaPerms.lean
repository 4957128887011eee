/-
  castkeep.perms: the closed look at three numbers, turned.
-/
import Derived.Test.YteffbhdhldilnaaLit
import Derived.Test.YteffbhdhldilnaaSmall
import Derived.Test.YteffbhdhldilnaaOrder
import Derived.Test.YteffbhdhldilnaaGood
import Derived.Test.YteffbhdhldilnaaEqual
namespace Go.Proofs.Yteffbhdhldilnaa
open Go.RowKit

end Go.Proofs.Yteffbhdhldilnaa
