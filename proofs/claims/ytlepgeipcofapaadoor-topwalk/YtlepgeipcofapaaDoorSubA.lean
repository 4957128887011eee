/-
  package subset: inBits, choose, Choose.
-/
import Derived.Test.YtlepgeipcofapaaDoorSubM
namespace Go.Proofs.YtlepgeipcofapaaDoor
open Go.RowKit

theorem pow_int (e : Nat) : (2 : Int) ^ e = ((2 ^ e : Nat) : Int) := by simp
theorem sret_int {k : IntKind} {a b : Int} (h : a = b) : Ending.returned (.int k a) = .returned (.int k b) := by rw [h]

theorem sret_bool {a b : Bool} (h : a = b) : Ending.returned (.bool a) = .returned (.bool b) := by rw [h]

theorem cho_int {n i : Nat} (h : i ≤ n) : ((cho n i : Nat) : Int) * ((n : Int) - (i : Int)) / ((i : Int) + 1) = ((cho n (i + 1) : Nat) : Int) := by
  have h1 := cho_step n i h
  have h2 : ((cho n i : Nat) : Int) * ((n : Int) - (i : Int)) = ((cho n (i + 1) * (i + 1) : Nat) : Int) := by
    rw [h1, Int.natCast_mul, show ((n : Int) - (i : Int)) = ((n - i : Nat) : Int) by omega]
  rw [h2, show ((i : Int) + 1) = ((i + 1 : Nat) : Int) by omega, ← Int.natCast_ediv, Nat.mul_div_cancel _ (by omega)]

end Go.Proofs.YtlepgeipcofapaaDoor
