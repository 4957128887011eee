/-
  The library's sort at []uint16: partitionEqualOrdered.
-/
import Derived.Test.YtlclmmolbhnpgaaSixD
import Derived.Deep.DeepCutAuto
import Derived.Deep.CutBlock
namespace Go.Proofs.Ytlclmmolbhnpgaa
open Go.RowKit

end Go.Proofs.Ytlclmmolbhnpgaa
