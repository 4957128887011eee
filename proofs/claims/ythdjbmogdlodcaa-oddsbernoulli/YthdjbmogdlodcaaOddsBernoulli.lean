/-
  castkeep.OddsBernoulli, whatever number of coins.
-/
import Derived.Test.YthdjbmogdlodcaaOddsBern
namespace Go.Proofs.Ythdjbmogdlodcaa
open Go.RowKit

theorem oddsBern_any (N K : Int) (w : World) :
    Calls Try.prog 8 #[.int .i64 N, .int .i64 K] w fun e w' => e = .returned (.bool true) ∧ Below w.heap.size w w' := by
  by_cases h0 : N % 3 = 0
  · exact bern_1 N K h0 w
  · by_cases h1 : N % 3 = 1
    · exact bern_2 N K h1 w
    · exact bern_3 N K (by omega) w
end Go.Proofs.Ythdjbmogdlodcaa
