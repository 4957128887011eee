/-
  Proved: castkeep.BlocksStirling returns true whatever its arguments.
-/
import Derived.Test.YtigfhpffghajaaaBlkB
import Derived.Test.YtigfhpffghajaaaSubA
namespace Go.Proofs.Ytigfhpffghajaaa
open Go.RowKit

set_option maxHeartbeats 4000000 in
set_option maxRecDepth 100000 in
theorem blocksStirling_any (K1 K2 : Int) (w : World)  :
    Calls Try.prog 4 #[.int .i64 K1, .int .i64 K2] w fun e w' => e = .returned (.bool true) ∧ Below w.heap.size w w' := by
  have HB0 := hid (Below.refl w.heap.size w)
  have HA0 : Hid (All w []) := trivial
  go_enter Try.func4, Try.ntmps4
  go_wp2_with fail
  refine (heaps_any _).mono ?_
  rintro e w1 ⟨rfl, hb⟩
  have HB1 := hid (below_step HB0.out (Nat.le_refl _) hb)
  have HA1 : Hid (All w1 []) := HA0.out.keep hb
  clear HA0 HB0
  clear hb
  go_wp2_with fail
  refine (within_any K1 10 _ (by omega) (by omega)).mono ?_
  rintro e w' ⟨rfl, rfl⟩
  have hk1 := Int.emod_nonneg K1 (show (10 : Int) ≠ 0 by omega)
  have hk2 := Int.emod_lt_of_pos K1 (show (0 : Int) < 10 by omega)
  generalize K1 % 10 = N1 at hk1 hk2 ⊢
  obtain ⟨n, rfl⟩ := Int.eq_ofNat_of_zero_le hk1
  have hn : n < 10 := by omega
  clear hk1 hk2
  go_wp2_with fail
  refine (within_any K2 10 _ (by omega) (by omega)).mono ?_
  rintro e w' ⟨rfl, rfl⟩
  have hk1 := Int.emod_nonneg K2 (show (10 : Int) ≠ 0 by omega)
  have hk2 := Int.emod_lt_of_pos K2 (show (0 : Int) < 10 by omega)
  generalize K2 % 10 = N1 at hk1 hk2 ⊢
  obtain ⟨k, rfl⟩ := Int.eq_ofNat_of_zero_le hk1
  have hk : k < 10 := by omega
  clear hk1 hk2
  go_wp2_with fail
  refine (bcount_of _ _ (n + 1) (k + 1) (by omega) (by omega) _ (by omega) (by omega)).mono ?_
  rintro e w2 ⟨rfl, hb⟩
  have HB2 := hid (below_step HB1.out (Nat.le_refl _) hb)
  have HA2 : Hid (All w2 []) := HA1.out.keep hb
  clear HA1 HB1
  clear hb
  go_wp2_with fail
  refine (bcount_of _ _ n (k + 1) (by omega) (by omega) _ (by omega) (by omega)).mono ?_
  rintro e w3 ⟨rfl, hb⟩
  have HB3 := hid (below_step HB2.out (Nat.le_refl _) hb)
  have HA3 : Hid (All w3 []) := HA2.out.keep hb
  clear HA2 HB2
  clear hb
  go_wp2_with fail
  refine (bcount_of _ _ n k (by omega) (by omega) _ (by omega) (by omega)).mono ?_
  rintro e w4 ⟨rfl, hb⟩
  have HB4 := hid (below_step HB3.out (Nat.le_refl _) hb)
  have HA4 : Hid (All w4 []) := HA3.out.keep hb
  clear HA3 HB3
  clear hb
  go_wp2_with fail
  refine (ball_of _ (n + 1) (by omega) _ (by omega)).mono ?_
  rintro e w5 ⟨rfl, hb⟩
  have HB5 := hid (below_step HB4.out (Nat.le_refl _) hb)
  have HA5 : Hid (All w5 []) := HA4.out.keep hb
  clear HA4 HB4
  clear hb
  have HSUM : Hid (sumN (fun i => bell i * cho n i) (n + 1) = bell (n + 1)) := (sumN_congr (fun i _ => Nat.mul_comm _ _)).trans (bell_next hn)
  have hb1 := bell_le (n := n + 1) (by omega)
  have HF : Hid (∀ j, j ≤ n + 1 → sumN (fun i => bell i * cho n i) j ≤ 115975) := fun j hj => by have h1 := sumN_mono (fun i => bell i * cho n i) hj; rw [HSUM.out] at h1; omega
  have HST : Hid (((stir (n + 1) (k + 1) : Nat) : Int) = (1 + (k : Int)) * ((stir n (k + 1) : Nat) : Int) + ((stir n k : Nat) : Int)) := by rw [show stir (n + 1) (k + 1) = stir n (k + 1) * (k + 1) + stir n k from rfl, Int.natCast_add, Int.natCast_mul, Int.mul_comm, Int.natCast_add, Int.add_comm (k : Int)]; exact rfl
  have s1 := stir_le (n := n) (k := k + 1) (by omega) (by omega)
  have s2 := stir_le (n := n) (k := k) (by omega) (by omega)
  have m1 : 0 ≤ (1 + (k : Int)) * ((stir n (k + 1) : Nat) : Int) := Int.mul_nonneg (by omega) (by omega)
  have m2 : (1 + (k : Int)) * ((stir n (k + 1) : Nat) : Int) ≤ 10 * 42525 := Int.mul_le_mul (by omega) (by omega) (by omega) (by omega)
  generalize stir (n + 1) (k + 1) = a at *
  generalize stir n (k + 1) = b at *
  generalize stir n k = c at *
  generalize hbe : bell (n + 1) = be at *
  clear hbe
  have HB := hid HB5.out
  go_wp2_with fail
  go_loopg [13, 14, 15, 16, 17, 18, 54] (n + 1) (fun g v _ _ _ _ _ s wr => ∃ j : Nat, j ≤ n + 1 ∧ n + 1 - j ≤ g ∧ v = .int .i64 ((sumN (fun i => bell i * cho n i) j : Nat) : Int) ∧ s = .int .i64 j ∧ Below w.heap.size w wr)
  case atStart => exact ⟨0, by omega, by omega, rfl, rfl, HB.out⟩
  case round =>
    obtain ⟨j, hj, hg, rfl, rfl, hbel⟩ := hrel
    have HB2 := hid hbel
    clear hbel
    by_cases hlt : j < n + 1
    · have hs1 : sumN (fun i => bell i * cho n i) j ≤ 115975 := HF.out j hj
      have hs2 : sumN (fun i => bell i * cho n i) j + bell j * cho n j ≤ 115975 := HF.out (j + 1) hlt
      have HN : Hid (sumN (fun i => bell i * cho n i) (j + 1) = sumN (fun i => bell i * cho n i) j + bell j * cho n j) := rfl
      have hlt2 : (j : Int) < 1 + (n : Int) := by omega
      go_wp2_with fail
      refine (ball_of _ j rfl _ (by omega)).mono ?_
      rintro e w6 ⟨rfl, hb⟩
      have HB3 := hid (below_step HB2.out (Nat.le_refl _) hb)
      clear hb
      go_wp2_with fail
      refine (chooseF_of _ _ n j (by omega) rfl _ (by omega) (by omega)).mono ?_
      rintro e w' ⟨rfl, rfl⟩
      go_wp2_with fail
      refine (good_bel _ _ _ 2 [0, 0] rfl rfl (by omega)).mono ?_
      rintro e w7 ⟨rfl, hb⟩
      have HB4 := hid (below_step HB3.out (Nat.le_refl _) hb)
      clear hb HB3
      rw [show allOK [0, 0] = true by decide]
      have hm1 : ((bell j : Nat) : Int) * ((cho n j : Nat) : Int) = ((bell j * cho n j : Nat) : Int) := (Int.natCast_mul _ _).symm
      have hm2 : 0 ≤ ((bell j : Nat) : Int) * ((cho n j : Nat) : Int) := by omega
      have hm3 : ((bell j : Nat) : Int) * ((cho n j : Nat) : Int) ≤ 115975 := by omega
      have HM := hid hm1
      clear hm1 hs2
      generalize bell j = X at *
      generalize cho n j = Y at *
      generalize sumN (fun i => bell i * cho n i) j = Z at *
      go_wp2
      go_roundg (n + 1 - (j + 1))
      case measure => omega
      case rel => exact ⟨j + 1, by omega, by omega, by rw [HN.out, Int.natCast_add, ← HM.out], by go_num, HB4.out⟩
    · have hjk : j = n + 1 := by omega
      subst hjk
      rw [HSUM.out]
      have hge : ¬ ((n + 1 : Nat) : Int) < 1 + (n : Int) := by omega
      go_wp2_with fail
      refine (good_bel _ _ _ 4 [0, 0, 0, 0] rfl rfl (by omega)).mono ?_
      rintro e w7 ⟨rfl, hb⟩
      have HB4 := hid (below_step HB2.out (Nat.le_refl _) hb)
      clear hb
      rw [show allOK [0, 0, 0, 0] = true by decide]
      have hst : ((a : Int) == (1 + (k : Int)) * (b : Int) + (c : Int)) = true := by rw [HST.out]; simp
      go_wp2
      go_ret
      exact ⟨rfl, HB4.out⟩

end Go.Proofs.Ytigfhpffghajaaa
