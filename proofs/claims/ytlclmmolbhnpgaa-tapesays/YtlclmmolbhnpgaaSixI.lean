/-
  math/bits.Len below 2^16; slices.nextPowerOfTwo; xorshift's Next.
-/
import Derived.Test.YtlclmmolbhnpgaaSixH
import Derived.Lib.Strings
import Derived.Lib.Slices
import Derived.Lib.Small
import Derived.Lib.Walk
import Derived.Lib.BitFns
import Derived.Laws.BitsAllLaws
import Derived.Laws.BitsLemmas
namespace Go.Proofs.Ytlclmmolbhnpgaa
open Go.RowKit

theorem bitLen_fits : ∀ x : Fin 256, x.val < 2 ^ Lib.bitLen x.val ∧ (0 < x.val → 2 ^ Lib.bitLen x.val ≤ 2 * x.val) ∧ Lib.bitLen x.val ≤ 8 := by decide +kernel
theorem bitLen_ok {x : Nat} (hx : x < 65536) : x < 2 ^ Lib.bitLen x ∧ (0 < x → 2 ^ Lib.bitLen x ≤ 2 * x) ∧ Lib.bitLen x ≤ 16 := by
  by_cases h : x < 256
  · obtain ⟨h1, h2, h3⟩ := bitLen_fits ⟨x, h⟩
    exact ⟨h1, h2, by simp only at h3; omega⟩
  · have e := Lib.bitLen_shift8 x (by omega) (by omega)
    obtain ⟨h1, h2, h3⟩ := bitLen_fits ⟨x / 256, by omega⟩
    simp only at h1 h2 h3
    rw [e, Nat.pow_add]
    generalize 2 ^ Lib.bitLen (x / 256) = B at *
    refine ⟨by omega, fun _ => ?_, by omega⟩
    have := h2 (by omega)
    omega

set_option maxHeartbeats 4000000 in
set_option maxRecDepth 100000 in
theorem len64_low (x : Int) (w : World) (h0 : 0 ≤ x) (h1 : x ≤ 255) : Calls Try.prog 32 #[.int .u64 x] w fun e w' => e = .returned (.int .i64 ((Lib.bitLen x.toNat : Nat) : Int)) ∧ w = w' := by
  go_enter Try.func32, Try.ntmps32
  go_wp2
  go_ret
  have hl := Lib.len8_of x h0 h1
  have h8 := (bitLen_fits ⟨x.toNat, by omega⟩).2.2
  simp only at h8
  refine ⟨congrArg Ending.returned (congrArg (Value.int IntKind.i64) ?_), rfl⟩
  show wrap64 (wrap64 (Lib.len8 x)) = _
  rw [hl, IntWalk.wrap64_in ((Lib.bitLen x.toNat : Nat) : Int) (by omega), IntWalk.wrap64_in _ (by omega)]

set_option maxHeartbeats 4000000 in
set_option maxRecDepth 100000 in
theorem len64_high (x : Int) (w : World) (h0 : 256 ≤ x) (h1 : x < 65536) : Calls Try.prog 32 #[.int .u64 x] w fun e w' => e = .returned (.int .i64 ((Lib.bitLen x.toNat : Nat) : Int)) ∧ w = w' := by
  have hq0 : 0 ≤ x / 256 := by omega
  have hq1 : x / 256 ≤ 255 := by omega
  go_enter Try.func32, Try.ntmps32
  go_wp2
  go_ret
  have hl := Lib.len8_of (x / 256) hq0 hq1
  have h8 := (bitLen_fits ⟨(x / 256).toNat, by omega⟩).2.2
  have hs := Lib.bitLen_shift8 x.toNat (by omega) (by omega)
  rw [show x.toNat / 256 = (x / 256).toNat by omega] at hs
  simp only at h8
  refine ⟨congrArg Ending.returned (congrArg (Value.int IntKind.i64) ?_), rfl⟩
  show wrap64 (8 + wrap64 (Lib.len8 (x / 256))) = _
  rw [hl, IntWalk.wrap64_in ((Lib.bitLen (x / 256).toNat : Nat) : Int) (by omega), IntWalk.wrap64_in _ (by omega), hs]
  omega

set_option maxRecDepth 100000 in
set_option maxHeartbeats 400000 in
theorem len_any (x : Nat) (w : World) (hx : x < 65536) : Calls Try.prog 24 #[.int .u64 (x : Int)] w fun e w' => e = .returned (.int .i64 ((Lib.bitLen x : Nat) : Int)) ∧ w = w' := by
  have HC : Hid (Calls Try.prog 32 #[.int .u64 (x : Int)] w fun e w' => e = .returned (.int .i64 ((Lib.bitLen x : Nat) : Int)) ∧ w = w') := by
    by_cases h : x < 256
    · exact len64_low (x : Int) w (by omega) (by omega)
    · exact len64_high (x : Int) w (by omega) (by omega)
  go_enter Try.func24, Try.ntmps24
  go_wp2_with fail
  refine HC.out.mono ?_
  rintro e w' ⟨rfl, rfl⟩
  go_wp2
  go_ret
  exact ⟨rfl, rfl⟩

theorem xor64_left (v m : Nat) (hv : v < 18446744073709551616) : ∃ u : Nat, u < 18446744073709551616 ∧ bits .xor .u64 (v : Int) (IntKind.u64.wrap ((v : Int) * (m : Int))) = (u : Int) := by
  refine ⟨v ^^^ (v * m % 18446744073709551616), Nat.xor_lt_two_pow (n := 64) hv (Nat.mod_lt _ (by omega)), ?_⟩
  rw [IntKind.wrap_u64, show (v : Int) * (m : Int) % 18446744073709551616 = ((v * m % 18446744073709551616 : Nat) : Int) by simp, u64_xor_nat _ _ hv (Nat.mod_lt _ (by omega))]
theorem xor64_right (v m : Nat) (hv : v < 18446744073709551616) : ∃ u : Nat, u < 18446744073709551616 ∧ bits .xor .u64 (v : Int) ((v : Int) / (m : Int)) = (u : Int) := by
  have h1 : v / m ≤ v := Nat.div_le_self _ _
  refine ⟨v ^^^ (v / m), Nat.xor_lt_two_pow (n := 64) hv (by omega), ?_⟩
  rw [← Int.natCast_ediv, u64_xor_nat _ _ hv (by omega)]

end Go.Proofs.Ytlclmmolbhnpgaa
