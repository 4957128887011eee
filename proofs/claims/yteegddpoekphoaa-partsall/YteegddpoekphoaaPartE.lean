/-
  castkeep.partsLive: 3 and 1, turned; the sums of 5.
-/
import Derived.Test.YteegddpoekphoaaGen
import Derived.Test.YteegddpoekphoaaPartB
import Derived.Test.YteegddpoekphoaaPartC
namespace Go.Proofs.Yteegddpoekphoaa
open Go.RowKit

set_option maxHeartbeats 1000000 in
theorem partsLive_any (w : World) : Calls Try.prog 6 #[] w fun e w' => e = .returned (.bool true) ∧ Below w.heap.size w w' := by
  go_enter Try.func6, Try.ntmps6
  go_wp2_with fail
  refine (turned_ok _ 2 2 [3, 1] _ (ints_lit w _ _ 2 [3, 1] rfl rfl) (isPart_of (by decide))).mono ?_
  rintro e w1 ⟨A1, n1, c1, rfl, hb1, hI1, _⟩
  rw [show conj [3, 1] = [2, 1, 1] by decide] at hI1
  have hn1 : 3 = n1 := hI1.len
  subst hn1
  have HB1 := hid (below_step (below_alloc w _) (Nat.le_refl _) hb1)
  have HI1 := hid hI1
  clear hb1 hI1
  go_wp2_with fail
  refine (count_any 5 5 w1 (by omega) (by omega)).mono ?_
  rintro e w2 ⟨rfl, hb2⟩
  rw [show pcnt 5 5 = 7 by decide]
  have HB2 := hid (below_step HB1.out (Nat.le_refl _) hb2)
  have HI2 := hid (HI1.out.keep hb2)
  clear hb2 HB1 HI1
  go_wp2_with fail
  refine (good_any _ 2 2 [0, 0] _ (ints_lit w2 _ _ 2 [0, 0] rfl rfl) (by omega)).mono ?_
  rintro e w3 ⟨rfl, rfl⟩
  rw [show allOK [0, 0] = true by decide]
  go_wp2_with fail
  have hX := HI2.out.keep (below_step (below_alloc w2 (.cells #[.int .i64 0, .int .i64 0] 25)) (Nat.le_refl _) (below_alloc _ (.cells #[.int .i64 2, .int .i64 1, .int .i64 1] 3)))
  have hY := ints_lit (w2.alloc (.cells #[.int .i64 0, .int .i64 0] 25)) #[.int .i64 2, .int .i64 1, .int .i64 1] 3 3 [2, 1, 1] rfl rfl
  rw [show (w2.alloc (.cells #[.int .i64 0, .int .i64 0] 25)).heap.size = w2.heap.size + 1 by simp] at hY
  have HX := hid hX
  have HY := hid hY
  clear hX hY
  refine (equal_any A1 3 c1 _ 3 3 _ [2, 1, 1] _ HX.out HY.out (by omega) (by omega)).mono ?_
  rintro e w3 ⟨rfl, q, rfl⟩
  rw [show decide (([2, 1, 1] : List Int) = [2, 1, 1]) = true by decide]
  go_wp2
  go_ret
  exact ⟨rfl, below_drewN (HB2.out.trans ((below_step (below_alloc w2 _) (Nat.le_refl _) (below_alloc _ _)).mono HB2.out.size)) q⟩

end Go.Proofs.Yteegddpoekphoaa
