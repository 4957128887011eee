/-
  package gray: Bit.
-/
import Derived.Test.YtlepgeipcofapaaDoorGrayA
import Derived.Test.YtlepgeipcofapaaDoorSubB
namespace Go.Proofs.YtlepgeipcofapaaDoor
open Go.RowKit

theorem bit_end (w : World) : Calls Tryd.prog 9 #[.int .u16 65535] w fun e w' => e = .returned (.tuple #[.int .i64 0, .int .i64 4]) ∧ w = w' := by
  go_enter Tryd.func9, Tryd.ntmps9
  go_wp2
  go_ret2
  exact ⟨rfl, rfl⟩
theorem bit_any (i k m : Nat) (w : World) (ht : Tab w) (hi : i < 65535) (h : i + 1 = 2 ^ k * (2 * m + 1)) :
    Calls Tryd.prog 9 #[.int .u16 (i : Int)] w fun e w' => e = .returned (.tuple #[.int .i64 (k : Int), .int .i64 0]) ∧ w = w' := by
  have hc := trailingZeros16_any k m w ht (by omega)
  rw [← h] at hc
  have HC := hid hc
  clear hc h
  have hne : ((i : Int) == 65535) = false := by simp; omega
  have e1 : IntKind.u16.wrap ((i : Int) + 1) = ((i + 1 : Nat) : Int) := by rw [IntKind.wrap_u16]; omega
  go_enter Tryd.func9, Tryd.ntmps9
  go_wp2_with fail
  refine HC.out.mono ?_
  rintro e w' ⟨rfl, rfl⟩
  go_wp2
  go_ret2
  exact ⟨rfl, rfl⟩

end Go.Proofs.YtlepgeipcofapaaDoor
