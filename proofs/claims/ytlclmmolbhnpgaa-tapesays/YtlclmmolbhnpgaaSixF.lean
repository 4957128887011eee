/-
  The library's sort at []uint16: partitionOrdered.
-/
import Derived.Test.YtlclmmolbhnpgaaSixE
namespace Go.Proofs.Ytlclmmolbhnpgaa
open Go.RowKit

end Go.Proofs.Ytlclmmolbhnpgaa
