/-
  math/bits.TrailingZeros over its table; parts.split.
-/
import Derived.Test.YteegddpoekphoaaDoorGen
import Derived.Test.YteegddpoekphoaaDoorPartG
namespace Go.Proofs.YteegddpoekphoaaDoor
open Go.RowKit

/-- The table of TrailingZeros64, as Go lays it. -/
def tz64Tab : List Int := [0, 1, 56, 2, 57, 49, 28, 3, 61, 58, 42, 50, 38, 29, 17, 4, 62, 47, 59, 36, 45, 43, 51, 22, 53, 39, 33, 30, 24, 18, 12, 5, 63, 55, 48, 27, 60, 41, 37, 16, 46, 35, 44, 21, 52, 32, 23, 11, 54, 26, 40, 15, 34, 20, 31, 10, 25, 14, 19, 9, 13, 8, 7, 6]
/-- The table lies in the world. -/
def Tab64 (w : World) : Prop := ∀ i, i < 64 → w.cell? ⟨1, i, none⟩ = some (.int .u8 (tz64Tab.getD i 0))
theorem Tab64.keep {w w' : World} (h : Tab64 w) (hb : Below w.heap.size w w') : Tab64 w' := fun i hi =>
  (hb.cell (p := ⟨1, i, none⟩) (World.block_lt_of_cell? w _ (h i hi))).trans (h i hi)

set_option maxRecDepth 100000 in
set_option maxHeartbeats 800000 in
theorem tz64_at (s m t : Nat) (w : World) (hs : s ≤ 40) (h0 : 0 < s) (he : bits .and .u64 (s : Int) (IntKind.u64.wrap (-(s : Int))) = (m : Int)) (hm2 : m ≤ 40) (hi : m * 285870213051353865 / 288230376151711744 < 64) (hc : w.cell? ⟨1, m * 285870213051353865 / 288230376151711744, none⟩ = some (.int .u8 (t : Int))) (ht : t < 64) :
    Calls Tryd.prog 51 #[.int .u64 (s : Int)] w fun e w' => e = .returned (.int .i64 (t : Int)) ∧ w = w' := by
  have hne : ((s : Int) == 0) = false := by simp; omega
  go_enter Tryd.func51, Tryd.ntmps51
  go_wp2
  go_ret
  exact ⟨rfl, rfl⟩

theorem tz64_tab : ∀ p : Fin 41, p.val ≠ 0 → bits .and .u64 (p.val : Int) (IntKind.u64.wrap (-(p.val : Int))) = ((pwr p.val : Nat) : Int) ∧ pwr p.val ≤ 40 ∧ pwr p.val * 285870213051353865 / 288230376151711744 < 64 ∧ tz64Tab.getD (pwr p.val * 285870213051353865 / 288230376151711744) 0 = ((tz6 p.val : Nat) : Int) := by decide +kernel

theorem trailingZeros64_any (p : Nat) (w : World) (ht : Tab64 w) (h0 : 0 < p) (hp : p ≤ 40) :
    Calls Tryd.prog 51 #[.int .u64 (p : Int)] w fun e w' => e = .returned (.int .i64 ((tz6 p : Nat) : Int)) ∧ w = w' := by
  obtain ⟨h1, h2, h3, h4⟩ := tz64_tab ⟨p, by omega⟩ (by simp; omega)
  simp only at h1 h2 h3 h4
  have hc := ht _ h3
  rw [h4] at hc
  exact tz64_at p (pwr p) (tz6 p) w hp h0 h1 h2 h3 hc (by have := tz6_lt p; omega)

set_option maxHeartbeats 800000 in
theorem trailingZeros_any (p : Nat) (w : World) (ht : Tab64 w) (h0 : 0 < p) (hp : p ≤ 40) :
    Calls Tryd.prog 36 #[.int .u64 (p : Int)] w fun e w' => e = .returned (.int .i64 ((tz6 p : Nat) : Int)) ∧ w = w' := by
  have HT := hid ht
  clear ht
  have hl := tz6_lt p
  go_enter Tryd.func36, Tryd.ntmps36
  go_wp2_with fail
  refine (trailingZeros64_any p _ HT.out h0 hp).mono ?_
  rintro e w' ⟨rfl, rfl⟩
  generalize hq : tz6 p = t at *
  have HQ := hid hq
  clear hq
  go_wp2
  go_ret
  exact ⟨by rw [HQ.out]; rfl, rfl⟩

set_option maxHeartbeats 800000 in
theorem split_any (p : Nat) (w : World) (ht : Tab64 w) (h0 : 0 < p) (hp : p ≤ 40) :
    Calls Tryd.prog 27 #[.int .i64 (p : Int)] w fun e w' => e = .returned (.tuple #[.int .i64 ((odp p : Nat) : Int), .int .i64 ((pwr p : Nat) : Int)]) ∧ Below w.heap.size w w' := by
  have HT := hid ht
  clear ht
  have hw : IntKind.u64.wrap (p : Int) = (p : Int) := by rw [IntKind.wrap_u64]; omega
  have hl := tz6_lt p
  go_enter Tryd.func27, Tryd.ntmps27
  go_wp2_with fail
  refine (trailingZeros_any p _ HT.out h0 hp).mono ?_
  rintro e w' ⟨rfl, rfl⟩
  generalize hq : tz6 p = t at *
  have HQ := hid hq
  clear hq
  rcases (show t = 0 ∨ t = 1 ∨ t = 2 ∨ t = 3 ∨ t = 4 ∨ t = 5 by omega) with rfl | rfl | rfl | rfl | rfl | rfl
  all_goals
    go_wp2_with fail
    go_region
    go_wp2
    go_ret2
    refine ⟨?_, (Below.refl _ _).drew⟩
    unfold odp pwr
    rw [HQ.out]
    simp

end Go.Proofs.YteegddpoekphoaaDoor
