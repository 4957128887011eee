/-
  castkeep.ratios; the contracts again for ratios told by their two numbers.
-/
import Derived.Test.YtlepgeipcofapaaRatD
namespace Go.Proofs.Ytlepgeipcofapaa
open Go.RowKit

theorem radd_of {P Q P' Q' : Int} (x y : Rat) (h1 : P = x.num) (h2 : Q = (x.den : Int)) (h3 : P' = y.num) (h4 : Q' = (y.den : Int)) (w : World) (hx : RFits x) (hy : RFits y) :
    Calls Try.prog 20 #[.agg #[.int .i64 P, .int .i64 Q], .agg #[.int .i64 P', .int .i64 Q']] w (RetR w (outP (x + y)) (outQ (x + y)) (outE (x + y))) := by
  subst h1 h2 h3 h4
  exact radd_ok x y w hx hy
theorem rmul_of {P Q P' Q' : Int} (x y : Rat) (h1 : P = x.num) (h2 : Q = (x.den : Int)) (h3 : P' = y.num) (h4 : Q' = (y.den : Int)) (w : World) (hx : RFits x) (hy : RFits y) :
    Calls Try.prog 19 #[.agg #[.int .i64 P, .int .i64 Q], .agg #[.int .i64 P', .int .i64 Q']] w (RetR w (outP (x * y)) (outQ (x * y)) (outE (x * y))) := by
  subst h1 h2 h3 h4
  exact rmul_ok x y w hx hy
/-- A ratio written out. -/
theorem out_lit {r : Rat} {P Q : Int} (h : RFits r) (h1 : r.num = P) (h2 : (r.den : Int) = Q) : outP r = P ∧ outQ r = Q ∧ outE r = 0 := by
  obtain ⟨a, b, c⟩ := out_fits h
  exact ⟨a.trans h1, b.trans h2, c⟩

set_option maxHeartbeats 800000 in
theorem ratios_any (w : World) : Calls Try.prog 17 #[] w fun e w' => e = .returned (.bool true) ∧ Below w.heap.size w w' := by
  obtain ⟨o1, o2, o3⟩ := out_lit (r := Rat.divInt 1 2 + Rat.divInt 1 3) (P := 5) (Q := 6) (by decide +kernel) (by decide +kernel) (by decide +kernel)
  have HL := radd_of (P := 1) (Q := 2) (P' := 1) (Q' := 3) (Rat.divInt 1 2) (Rat.divInt 1 3) (by decide +kernel) (by decide +kernel) (by decide +kernel) (by decide +kernel) w (by decide +kernel) (by decide +kernel)
  rw [o1, o2, o3] at HL
  have HL' := hid HL
  clear HL o1 o2 o3
  go_enter Try.func17, Try.ntmps17
  go_wp2_with fail
  refine HL'.out.mono ?_
  rintro e w1 ⟨rfl, hb⟩
  have HB1 := hid (hb.alloc (Nat.le_trans (Nat.le_refl _) hb.size) (.cells #[.int .i64 5, .int .i64 6] 26))
  clear hb HL'
  go_wp2
  go_ret
  exact ⟨rfl, HB1.out⟩
end Go.Proofs.Ytlepgeipcofapaa
