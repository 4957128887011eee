/-
  math/bits: OnesCount16, OnesCount32, TrailingZeros16.
-/
import Derived.Test.YtlepgeipcofapaaSubA
import Derived.Laws.BitsAllLaws
import Derived.Laws.BitsLemmas
import Derived.Lib.BitFns
namespace Go.Proofs.Ytlepgeipcofapaa
open Go.RowKit

theorem pop_onesF : ∀ f x, Lib.popAux f x = onesF f x
  | 0, _ => rfl
  | f + 1, x => by rw [Lib.popAux, onesF, pop_onesF f]
theorem pop8_ones {i : Nat} (h : i < 256) : Lib.pop8 (i : Int) = ((ones i : Nat) : Int) := by
  have h1 : i < 2 ^ 64 := by omega
  rw [Lib.pop8_eq ⟨i, h⟩, Lib.onesCount, pop_onesF, ones_of h1]
theorem ones_bytes {s : Nat} : ones s = ones (s / 256) + ones (s % 256) := by
  have := ones_split 8 (s / 256) (s % 256) (Nat.mod_lt _ (by omega))
  rw [← this]
  congr 1
  omega
theorem ones_8 {i : Nat} (h : i < 256) : ones i ≤ 8 := ones_le (n := 8) h

/-- The table of TrailingZeros, as Go lays it. -/
def tzTab : List Int := [0, 1, 28, 2, 29, 14, 24, 3, 30, 22, 20, 15, 25, 17, 4, 8, 31, 27, 13, 23, 21, 19, 16, 7, 26, 12, 18, 6, 11, 5, 10, 9]
theorem tz_tab : ∀ a : Fin 16, tzTab.getD (2 ^ a.val * 125613361 % 4294967296 / 134217728) 0 = (a.val : Int) ∧ 2 ^ a.val * 125613361 % 4294967296 / 134217728 < 32 := by decide +kernel

end Go.Proofs.Ytlepgeipcofapaa
