/-
  math/bits.Len below 2^16; slices.nextPowerOfTwo; xorshift's Next.
-/
import Derived.Test.YtlmkkccokemaiaaSixH
import Derived.Lib.Strings
import Derived.Lib.Slices
import Derived.Lib.Small
import Derived.Lib.Walk
import Derived.Lib.BitFns
import Derived.Laws.BitsAllLaws
import Derived.Laws.BitsLemmas
namespace Go.Proofs.Ytlmkkccokemaiaa
open Go.RowKit

theorem bitLen_fits : ∀ x : Fin 256, x.val < 2 ^ Lib.bitLen x.val ∧ (0 < x.val → 2 ^ Lib.bitLen x.val ≤ 2 * x.val) ∧ Lib.bitLen x.val ≤ 8 := by decide +kernel
theorem bitLen_ok {x : Nat} (hx : x < 65536) : x < 2 ^ Lib.bitLen x ∧ (0 < x → 2 ^ Lib.bitLen x ≤ 2 * x) ∧ Lib.bitLen x ≤ 16 := by
  by_cases h : x < 256
  · obtain ⟨h1, h2, h3⟩ := bitLen_fits ⟨x, h⟩
    exact ⟨h1, h2, by simp only at h3; omega⟩
  · have e := Lib.bitLen_shift8 x (by omega) (by omega)
    obtain ⟨h1, h2, h3⟩ := bitLen_fits ⟨x / 256, by omega⟩
    simp only at h1 h2 h3
    rw [e, Nat.pow_add]
    generalize 2 ^ Lib.bitLen (x / 256) = B at *
    refine ⟨by omega, fun _ => ?_, by omega⟩
    have := h2 (by omega)
    omega

set_option maxHeartbeats 4000000 in
set_option maxRecDepth 100000 in
theorem len64_low (x : Int) (w : World) (h0 : 0 ≤ x) (h1 : x ≤ 255) : Calls Try.prog 27 #[.int .u64 x] w fun e w' => e = .returned (.int .i64 ((Lib.bitLen x.toNat : Nat) : Int)) ∧ w = w' := by
  go_enter Try.func27, Try.ntmps27
  go_wp2
  go_ret
  have hl := Lib.len8_of x h0 h1
  have h8 := (bitLen_fits ⟨x.toNat, by omega⟩).2.2
  simp only at h8
  refine ⟨congrArg Ending.returned (congrArg (Value.int IntKind.i64) ?_), rfl⟩
  show wrap64 (wrap64 (Lib.len8 x)) = _
  rw [hl, IntWalk.wrap64_in ((Lib.bitLen x.toNat : Nat) : Int) (by omega), IntWalk.wrap64_in _ (by omega)]

set_option maxHeartbeats 4000000 in
set_option maxRecDepth 100000 in
theorem len64_high (x : Int) (w : World) (h0 : 256 ≤ x) (h1 : x < 65536) : Calls Try.prog 27 #[.int .u64 x] w fun e w' => e = .returned (.int .i64 ((Lib.bitLen x.toNat : Nat) : Int)) ∧ w = w' := by
  have hq0 : 0 ≤ x / 256 := by omega
  have hq1 : x / 256 ≤ 255 := by omega
  go_enter Try.func27, Try.ntmps27
  go_wp2
  go_ret
  have hl := Lib.len8_of (x / 256) hq0 hq1
  have h8 := (bitLen_fits ⟨(x / 256).toNat, by omega⟩).2.2
  have hs := Lib.bitLen_shift8 x.toNat (by omega) (by omega)
  rw [show x.toNat / 256 = (x / 256).toNat by omega] at hs
  simp only at h8
  refine ⟨congrArg Ending.returned (congrArg (Value.int IntKind.i64) ?_), rfl⟩
  show wrap64 (8 + wrap64 (Lib.len8 (x / 256))) = _
  rw [hl, IntWalk.wrap64_in ((Lib.bitLen (x / 256).toNat : Nat) : Int) (by omega), IntWalk.wrap64_in _ (by omega), hs]
  omega

set_option maxHeartbeats 400000 in
theorem len_any (x : Nat) (w : World) (hx : x < 65536) : Calls Try.prog 16 #[.int .u64 (x : Int)] w fun e w' => e = .returned (.int .i64 ((Lib.bitLen x : Nat) : Int)) ∧ w = w' := by
  have HC : Hid (Calls Try.prog 27 #[.int .u64 (x : Int)] w fun e w' => e = .returned (.int .i64 ((Lib.bitLen x : Nat) : Int)) ∧ w = w') := by
    by_cases h : x < 256
    · exact len64_low (x : Int) w (by omega) (by omega)
    · exact len64_high (x : Int) w (by omega) (by omega)
  go_enter Try.func16, Try.ntmps16
  go_wp2_with fail
  refine HC.out.mono ?_
  rintro e w' ⟨rfl, rfl⟩
  go_wp2
  go_ret
  exact ⟨rfl, rfl⟩

set_option maxHeartbeats 400000 in
theorem power_any (x : Nat) (w : World) (hx : x < 65536) : Calls Try.prog 29 #[.int .i64 (x : Int)] w fun e w' => e = .returned (.int .u64 ((2 ^ Lib.bitLen x : Nat) : Int)) ∧ w = w' := by
  have HC := hid (len_any x w hx)
  obtain ⟨h1, h2, h3⟩ := bitLen_ok hx
  have h16 : 2 ^ Lib.bitLen x ≤ 2 ^ 16 := Nat.pow_le_pow_right (by omega) h3
  have HE : Hid (IntKind.u64.wrap ((2 : Int) ^ Lib.bitLen x) = ((2 ^ Lib.bitLen x : Nat) : Int)) := by
    show (_ : Int) = _
    rw [show (2 : Int) ^ Lib.bitLen x = ((2 ^ Lib.bitLen x : Nat) : Int) by simp]
    exact IntWalk.u64_in _ (by omega)
  clear h1 h2 h16
  generalize Lib.bitLen x = r at *
  go_enter Try.func29, Try.ntmps29
  go_wp2_with fail
  refine HC.out.mono ?_
  rintro e w' ⟨rfl, rfl⟩
  go_wp2
  go_ret
  exact ⟨congrArg Ending.returned (congrArg (Value.int IntKind.u64) HE.out), rfl⟩

/-- Block s is one xorshift, v. -/
def Rnd (w : World) (s v : Nat) : Prop := w.rowIs s 50 1 (fun _ => .int .u64 (v : Int))
theorem Rnd.cell {w : World} {s c : Nat} (h : Rnd w s c) : w.cell? ⟨s, 0, none⟩ = some (.int .u64 (c : Int)) := World.rowIs.cell h (by omega)
theorem Rnd.frozen {w : World} {s c : Nat} (h : Rnd w s c) : w.frozen? ⟨s, 0, none⟩ = false := World.rowIs.frozen h 0
theorem Rnd.set {w : World} {s c : Nat} (h : Rnd w s c) (d : Nat) : Rnd (w.setCell ⟨s, 0, none⟩ (.int .u64 (d : Int))) s d :=
  (World.rowIs.set h 0 (.int .u64 (d : Int))).congr fun j hj => by rw [if_pos (by omega)]
theorem Rnd.drew {w : World} {s c : Nat} (h : Rnd w s c) : Rnd w.drew s c := h
theorem xor64_left (v m : Nat) (hv : v < 18446744073709551616) : ∃ u : Nat, u < 18446744073709551616 ∧ bits .xor .u64 (v : Int) (IntKind.u64.wrap ((v : Int) * (m : Int))) = (u : Int) := by
  refine ⟨v ^^^ (v * m % 18446744073709551616), Nat.xor_lt_two_pow (n := 64) hv (Nat.mod_lt _ (by omega)), ?_⟩
  rw [IntKind.wrap_u64, show (v : Int) * (m : Int) % 18446744073709551616 = ((v * m % 18446744073709551616 : Nat) : Int) by simp, u64_xor_nat _ _ hv (Nat.mod_lt _ (by omega))]
theorem xor64_right (v m : Nat) (hv : v < 18446744073709551616) : ∃ u : Nat, u < 18446744073709551616 ∧ bits .xor .u64 (v : Int) ((v : Int) / (m : Int)) = (u : Int) := by
  have h1 : v / m ≤ v := Nat.div_le_self _ _
  refine ⟨v ^^^ (v / m), Nat.xor_lt_two_pow (n := 64) hv (by omega), ?_⟩
  rw [← Int.natCast_ediv, u64_xor_nat _ _ hv (by omega)]

set_option maxHeartbeats 800000 in
theorem next_any (s v : Nat) (w : World) (h : Rnd w s v) (hv : v < 18446744073709551616) :
    Calls Try.prog 30 #[.pointer (some ⟨s, 0, none⟩)] w fun e w' => ∃ u : Nat, u < 18446744073709551616 ∧ e = .returned (.int .u64 (u : Int)) ∧ Rnd w' s u ∧ w.grownBy w' (some s) := by
  obtain ⟨v1, hv1, e1⟩ := xor64_left v 8192 hv
  obtain ⟨v2, hv2, e2⟩ := xor64_right v1 128 hv1
  obtain ⟨v3, hv3, e3⟩ := xor64_left v2 131072 hv2
  simp only [Int.cast_ofNat_Int] at e1 e2 e3
  have g1 := h.cell
  have f1 := h.frozen
  have HR := hid ((h.set v1).drew)
  have HG := hid (grown_drewN (grown_set (grown_refl w (some s)) 0 (.int .u64 (v1 : Int))) 1)
  rw [show ∀ W : World, W.drewN 1 = W.drew from fun _ => rfl] at HG
  clear h
  go_enter Try.func30, Try.ntmps30
  go_wp2_with fail
  go_region
  clear g1 f1 e1
  generalize World.drew (World.setCell _ _ _) = w1 at HR HG ⊢
  have g1 := HR.out.cell
  have f1 := HR.out.frozen
  replace HR := hid ((HR.out.set v2).drew)
  replace HG := hid (grown_drewN (grown_set HG.out 0 (.int .u64 (v2 : Int))) 1)
  rw [show ∀ W : World, W.drewN 1 = W.drew from fun _ => rfl] at HG
  go_wp2_with fail
  go_region
  clear g1 f1 e2
  generalize World.drew (World.setCell _ _ _) = w2 at HR HG ⊢
  have g1 := HR.out.cell
  have f1 := HR.out.frozen
  replace HR := hid ((HR.out.set v3).drew)
  replace HG := hid (grown_drewN (grown_set HG.out 0 (.int .u64 (v3 : Int))) 1)
  rw [show ∀ W : World, W.drewN 1 = W.drew from fun _ => rfl] at HG
  go_wp2_with fail
  go_region
  clear g1 f1 e3
  generalize World.drew (World.setCell _ _ _) = w3 at HR HG ⊢
  have g1 := HR.out.cell
  go_wp2
  go_ret
  exact ⟨v3, hv3, rfl, HR.out, HG.out⟩

end Go.Proofs.Ytlmkkccokemaiaa
