/-
  The library's sort at []uint16: siftDownOrdered, heapSortOrdered.
-/
import Derived.Test.YtlclmmolbhnpgaaSixB
namespace Go.Proofs.Ytlclmmolbhnpgaa
open Go.RowKit

end Go.Proofs.Ytlclmmolbhnpgaa
