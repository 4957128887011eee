/-
  The library's sort at []uint16: insertionSortOrdered.
-/
import Derived.Test.YtlclmmolbhnpgaaSixA
namespace Go.Proofs.Ytlclmmolbhnpgaa
open Go.RowKit

end Go.Proofs.Ytlclmmolbhnpgaa
