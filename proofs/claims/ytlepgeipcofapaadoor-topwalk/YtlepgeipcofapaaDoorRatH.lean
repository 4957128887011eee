/-
  Ratios within small bounds; sums, products and quotients that the program can hold.
-/
import Derived.Test.YtlepgeipcofapaaDoorRatG
namespace Go.Proofs.YtlepgeipcofapaaDoor
open Go.RowKit

/-- Within small bounds. -/
def RB (r : Rat) (N D : Nat) : Prop := r.num.natAbs ≤ N ∧ r.den ≤ D
theorem RB.fits {r : Rat} {N D : Nat} (h : RB r N D) (hN : N ≤ 1000000000) (hD : D ≤ 1000000000) : RFits r := by
  obtain ⟨h1, h2⟩ := h
  exact ⟨by omega, by omega, by omega⟩
theorem RB.make {p q : Int} {N D : Nat} (h0 : q ≠ 0) (hp : p.natAbs ≤ N) (hq : q.natAbs ≤ D) : RB (Rat.divInt p q) N D :=
  ⟨Nat.le_trans (num_le p q h0) hp, Nat.le_trans (den_le p q h0) hq⟩
theorem RB.add {x y : Rat} {N D N' D' : Nat} (h : RB x N D) (k : RB y N' D') : RB (x + y) (N * D' + N' * D) (D * D') := by
  rw [← add_eq]
  refine RB.make (den_ne x y) ?_ ?_
  · refine Nat.le_trans (Int.natAbs_add_le _ _) ?_
    rw [Int.natAbs_mul, Int.natAbs_mul, Int.natAbs_natCast, Int.natAbs_natCast]
    exact Nat.add_le_add (Nat.mul_le_mul h.1 k.2) (Nat.mul_le_mul k.1 h.2)
  · rw [Int.natAbs_mul, Int.natAbs_natCast, Int.natAbs_natCast]
    exact Nat.mul_le_mul h.2 k.2
theorem RB.mul {x y : Rat} {N D N' D' : Nat} (h : RB x N D) (k : RB y N' D') : RB (x * y) (N * N') (D * D') := by
  rw [← mul_eq]
  refine RB.make (den_ne x y) ?_ ?_
  · rw [Int.natAbs_mul]
    exact Nat.mul_le_mul h.1 k.1
  · rw [Int.natAbs_mul, Int.natAbs_natCast, Int.natAbs_natCast]
    exact Nat.mul_le_mul h.2 k.2
theorem add_good {x y : Rat} (hx : RFits x) (hy : RFits y) (h : RFits (x + y)) (W : World) : Calls Tryd.prog 12 #[.agg #[.int .i64 x.num, .int .i64 (x.den : Int)], .agg #[.int .i64 y.num, .int .i64 (y.den : Int)]] W (RetR W (x + y).num ((x + y).den : Int) 0) := by
  have k := radd_ok x y W hx hy
  obtain ⟨a, b, c⟩ := out_fits h
  rwa [a, b, c] at k
end Go.Proofs.YtlepgeipcofapaaDoor
