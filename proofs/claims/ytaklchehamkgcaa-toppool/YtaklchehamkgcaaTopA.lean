/-
  casttop.good, works.
-/
import Derived.Test.YtaklchehamkgcaaRst
import Derived.Test.YtaklchehamkgcaaPlain
import Derived.Test.YtaklchehamkgcaaGood
import Derived.Test.YtaklchehamkgcaaLit
import Derived.Test.YtaklchehamkgcaaGen
import Derived.Test.YtaklchehamkgcaaOrder
import Derived.Test.YtaklchehamkgcaaRatG
namespace Go.Proofs.Ytaklchehamkgcaa
open Go.RowKit

def TopIdxGood (l : List Int) (w : World) (e : Ending) (w' : World) : Prop := ∃ r : Int, e = .returned (.int .i64 r) ∧ decide (0 ≤ r) = !(allOK l) ∧ w = w'

set_option maxHeartbeats 800000 in
set_option maxRecDepth 100000 in
theorem works_any (w : World) : Calls Try.prog 26 #[] w fun e w' => e = .returned (.bool true) ∧ Below w.heap.size w w' := by
  obtain ⟨o1, o2, o3⟩ := out_lit (r := Rat.divInt 1 2 + Rat.divInt 1 3) (P := 5) (Q := 6) (by decide +kernel) (by decide +kernel) (by decide +kernel)
  have HL := fun W => radd_of (P := 1) (Q := 2) (P' := 1) (Q' := 3) (Rat.divInt 1 2) (Rat.divInt 1 3) (by decide +kernel) (by decide +kernel) (by decide +kernel) (by decide +kernel) W (by decide +kernel) (by decide +kernel)
  simp only [o1, o2, o3] at HL
  have HL' := hid HL
  clear HL o1 o2 o3
  go_enter Try.func26, Try.ntmps26
  go_wp2_with fail
  refine (order_ok _ 3 3 [1, 2, 0] _ (ints_lit w _ _ 3 [1, 2, 0] rfl rfl) (by decide +kernel)).mono ?_
  rintro e w1 ⟨rfl, hb⟩
  rw [show ordL (cycL [1, 2, 0] 3) = 3 by decide +kernel]
  have HB1 := hid (below_step (below_alloc w (.cells #[.int .i64 1, .int .i64 2, .int .i64 0] 3)) (Nat.le_refl _) hb)
  clear hb
  go_wp2_with fail
  refine (HL'.out _).mono ?_
  rintro e w2 ⟨rfl, hb⟩
  have HB2 := hid (below_step (below_step HB1.out (Nat.le_refl _) hb) (Nat.le_refl _) (below_alloc w2 (.cells #[.int .i64 5, .int .i64 6] 56)))
  clear hb HL' HB1
  go_wp2
  go_ret
  exact ⟨rfl, HB2.out⟩
end Go.Proofs.Ytaklchehamkgcaa
