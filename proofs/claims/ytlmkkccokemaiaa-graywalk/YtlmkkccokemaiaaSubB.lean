/-
  math/bits: OnesCount16, OnesCount32, TrailingZeros16.
-/
import Derived.Test.YtlmkkccokemaiaaSubA
import Derived.Laws.BitsAllLaws
import Derived.Laws.BitsLemmas
import Derived.Lib.BitFns
namespace Go.Proofs.Ytlmkkccokemaiaa
open Go.RowKit

theorem pop_onesF : ∀ f x, Lib.popAux f x = onesF f x
  | 0, _ => rfl
  | f + 1, x => by rw [Lib.popAux, onesF, pop_onesF f]
theorem pop8_ones {i : Nat} (h : i < 256) : Lib.pop8 (i : Int) = ((ones i : Nat) : Int) := by
  have h1 : i < 2 ^ 64 := by omega
  rw [Lib.pop8_eq ⟨i, h⟩, Lib.onesCount, pop_onesF, ones_of h1]
theorem ones_bytes {s : Nat} : ones s = ones (s / 256) + ones (s % 256) := by
  have := ones_split 8 (s / 256) (s % 256) (Nat.mod_lt _ (by omega))
  rw [← this]
  congr 1
  omega
theorem ones_8 {i : Nat} (h : i < 256) : ones i ≤ 8 := ones_le (n := 8) h

set_option maxRecDepth 100000 in
set_option maxHeartbeats 800000 in
theorem onesCount16_any (s : Nat) (w : World) (hs : s < 65536) :
    Calls Try.prog 14 #[.int .u16 (s : Int)] w fun e w' => e = .returned (.int .i64 ((ones s : Nat) : Int)) ∧ Below w.heap.size w w' := by
  have e1 : bits .and .u16 (s : Int) 255 = ((s % 256 : Nat) : Int) := by
    have := u16_and_nat s 255 hs (by omega)
    rwa [nat_mask8] at this
  have h1 : s % 256 < 256 := Nat.mod_lt _ (by omega)
  have hq0 : (0 : Int) ≤ (s : Int) / 256 := by omega
  have hq1 : (s : Int) / 256 ≤ 255 := by omega
  have hl0 : (0 : Int) ≤ ((s % 256 : Nat) : Int) := by omega
  have hl1 : ((s % 256 : Nat) : Int) ≤ 255 := by omega
  have HE : Hid ((Lib.pop8 ((s : Int) / 256) + Lib.pop8 ((s % 256 : Nat) : Int)) % 256 = ((ones s : Nat) : Int)) := by
    show (_ : Int) = _
    rw [show (s : Int) / 256 = ((s / 256 : Nat) : Int) by omega, pop8_ones (by omega), pop8_ones h1, ones_bytes (s := s)]
    have := ones_8 h1
    have := ones_8 (i := s / 256) (by omega)
    omega
  generalize s % 256 = lo at *
  go_enter Try.func14, Try.ntmps14
  go_wp2
  go_region
  all_goals
    go_wp2
    go_ret
    exact ⟨sret_int HE.out, (Below.refl _ _).drew⟩

/-- The table of TrailingZeros, as Go lays it. -/
def tzTab : List Int := [0, 1, 28, 2, 29, 14, 24, 3, 30, 22, 20, 15, 25, 17, 4, 8, 31, 27, 13, 23, 21, 19, 16, 7, 26, 12, 18, 6, 11, 5, 10, 9]
theorem tz_tab : ∀ a : Fin 16, tzTab.getD (2 ^ a.val * 125613361 % 4294967296 / 134217728) 0 = (a.val : Int) ∧ 2 ^ a.val * 125613361 % 4294967296 / 134217728 < 32 := by decide +kernel

end Go.Proofs.Ytlmkkccokemaiaa
