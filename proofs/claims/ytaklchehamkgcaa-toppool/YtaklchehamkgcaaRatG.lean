/-
  castkeep.ratios; the contracts again for ratios told by their two numbers.
-/
import Derived.Test.YtaklchehamkgcaaRatD
namespace Go.Proofs.Ytaklchehamkgcaa
open Go.RowKit

theorem radd_of {P Q P' Q' : Int} (x y : Rat) (h1 : P = x.num) (h2 : Q = (x.den : Int)) (h3 : P' = y.num) (h4 : Q' = (y.den : Int)) (w : World) (hx : RFits x) (hy : RFits y) :
    Calls Try.prog 37 #[.agg #[.int .i64 P, .int .i64 Q], .agg #[.int .i64 P', .int .i64 Q']] w (RetR w (outP (x + y)) (outQ (x + y)) (outE (x + y))) := by
  subst h1 h2 h3 h4
  exact radd_ok x y w hx hy
/-- A ratio written out. -/
theorem out_lit {r : Rat} {P Q : Int} (h : RFits r) (h1 : r.num = P) (h2 : (r.den : Int) = Q) : outP r = P ∧ outQ r = Q ∧ outE r = 0 := by
  obtain ⟨a, b, c⟩ := out_fits h
  exact ⟨a.trans h1, b.trans h2, c⟩

end Go.Proofs.Ytaklchehamkgcaa
