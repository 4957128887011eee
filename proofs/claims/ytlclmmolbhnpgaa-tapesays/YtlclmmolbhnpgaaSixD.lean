/-
  The library's sort at []uint16: heapSortOrdered.
-/
import Derived.Test.YtlclmmolbhnpgaaSixC
namespace Go.Proofs.Ytlclmmolbhnpgaa
open Go.RowKit

end Go.Proofs.Ytlclmmolbhnpgaa
