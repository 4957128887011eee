/-
  The library's sort at []uint16: partialInsertionSortOrdered.
-/
import Derived.Test.YtlclmmolbhnpgaaSixF
namespace Go.Proofs.Ytlclmmolbhnpgaa
open Go.RowKit

end Go.Proofs.Ytlclmmolbhnpgaa
