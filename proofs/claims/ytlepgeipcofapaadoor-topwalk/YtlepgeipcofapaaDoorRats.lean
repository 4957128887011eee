/-
  The greater and the less of two numbers, by name.
-/
import Derived.Test.YtlepgeipcofapaaDoorRatB
namespace Go.Proofs.YtlepgeipcofapaaDoor
open Go.RowKit

theorem run_maxMM {P : Program} (x y M : Int) (hM : M = if y > x then y else x) (ts : Array TypeId) (t : TypeId) (W : World) :
    (Builtin.max_ ts t #[.int .i64 x, .int .i64 y]).run P W = .ok (.int .i64 M) W := by
  subst hM
  exact run_max_int2 _ ts t .i64 .i64 x y
theorem run_minMM {P : Program} (x y M : Int) (hM : M = if y < x then y else x) (ts : Array TypeId) (t : TypeId) (W : World) :
    (Builtin.min_ ts t #[.int .i64 x, .int .i64 y]).run P W = .ok (.int .i64 M) W := by
  subst hM
  exact run_min_int2 _ ts t .i64 .i64 x y
end Go.Proofs.YtlepgeipcofapaaDoor
