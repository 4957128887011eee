/-
  castkeep.tapes.
-/
import Derived.Test.YtlclmmolbhnpgaaTpC
namespace Go.Proofs.Ytlclmmolbhnpgaa
open Go.RowKit

theorem wd_six : wd 6 = 3 := by decide +kernel
theorem draw_six : drawX 6 [1, 0, 1, 0] = (5, 3, 0) := by
  rw [drawX_ok (by decide)]
  refine drx_some (n := 6) (by omega) (by omega) ?_
  rw [drw_hit (by rw [wd_six]; decide) (by rw [wd_six]; decide), wd_six]
  rfl
set_option maxHeartbeats 400000 in
theorem tapes_any (w : World) : Calls Try.prog 16 #[] w fun e w' => e = .returned (.bool true) ∧ Below w.heap.size w w' := by
  have HC := hid (tpDraw_any (some ⟨w.heap.size, 0, none⟩) 4 4 [1, 0, 1, 0] 6 (w.alloc (.cells #[.int .u8 1, .int .u8 0, .int .u8 1, .int .u8 0] 5)) (byts_lit w _ _ 4 _ rfl rfl (by decide)) ⟨by omega, by omega⟩)
  rw [draw_six] at HC
  have HB := hid (below_alloc w (.cells #[.int .u8 1, .int .u8 0, .int .u8 1, .int .u8 0] 5))
  go_enter Try.func16, Try.ntmps16
  go_wp2_with fail
  refine HC.out.mono ?_
  rintro e w' ⟨rfl, rfl⟩
  go_wp2
  go_ret
  exact ⟨rfl, HB.out⟩

end Go.Proofs.Ytlclmmolbhnpgaa
