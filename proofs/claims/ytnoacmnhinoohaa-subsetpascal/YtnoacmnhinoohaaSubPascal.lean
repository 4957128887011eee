/-
  Proved: castkeep.SubsetPascal returns true whatever its arguments.
-/
import Derived.Test.YtnoacmnhinoohaaSubA
import Derived.Test.YtnoacmnhinoohaaAll
namespace Go.Proofs.Ytnoacmnhinoohaa
open Go.RowKit

theorem chooseF_of (N K : Int) (n k : Nat) (hN : N = n) (hK : K = k) (w : World) (hn : n ≤ 16) (hk : k ≤ 16) :
    Calls Try.prog 4 #[.int .i64 N, .int .i64 K] w fun e w' => e = .returned (.tuple #[.int .i64 ((cho n k : Nat) : Int), .int .i64 0]) ∧ w = w' := by
  subst hN
  subst hK
  exact chooseF_ok n k w hn hk

set_option maxHeartbeats 2000000 in
set_option maxRecDepth 100000 in
theorem subsetPascal_any (K1 K2 K3 : Int) (w : World)  :
    Calls Try.prog 3 #[.int .i64 K1, .int .i64 K2, .int .i64 K3] w fun e w' => e = .returned (.bool true) ∧ Below w.heap.size w w' := by
  have HB0 := hid (Below.refl w.heap.size w)
  have HA0 : Hid (All w []) := trivial
  go_enter Try.func3, Try.ntmps3
  go_wp2_with fail
  refine (chooseF_of 5 2 5 2 rfl rfl _ (by omega) (by omega)).mono ?_
  rintro e w' ⟨rfl, rfl⟩
  rw [show cho 5 2 = 10 from rfl]
  go_wp2_with fail
  refine (within_any K1 16 _ (by omega) (by omega)).mono ?_
  rintro e w' ⟨rfl, rfl⟩
  have hk1 := Int.emod_nonneg K1 (show (16 : Int) ≠ 0 by omega)
  have hk2 := Int.emod_lt_of_pos K1 (show (0 : Int) < 16 by omega)
  generalize K1 % 16 = N1 at hk1 hk2 ⊢
  obtain ⟨n, rfl⟩ := Int.eq_ofNat_of_zero_le hk1
  have hn : n ≤ 15 := by omega
  clear hk1 hk2
  go_wp2_with fail
  refine (within_any K2 16 _ (by omega) (by omega)).mono ?_
  rintro e w' ⟨rfl, rfl⟩
  have hk1 := Int.emod_nonneg K2 (show (16 : Int) ≠ 0 by omega)
  have hk2 := Int.emod_lt_of_pos K2 (show (0 : Int) < 16 by omega)
  generalize K2 % 16 = N2 at hk1 hk2 ⊢
  obtain ⟨k, rfl⟩ := Int.eq_ofNat_of_zero_le hk1
  have hk : k ≤ 15 := by omega
  clear hk1 hk2
  go_wp2_with fail
  refine (chooseF_of _ _ (n + 1) (k + 1) (by omega) (by omega) _ (by omega) (by omega)).mono ?_
  rintro e w' ⟨rfl, rfl⟩
  go_wp2_with fail
  refine (chooseF_of _ _ n (k + 1) (by omega) (by omega) _ (by omega) (by omega)).mono ?_
  rintro e w' ⟨rfl, rfl⟩
  go_wp2_with fail
  refine (chooseF_of _ _ n k (by omega) (by omega) _ (by omega) (by omega)).mono ?_
  rintro e w' ⟨rfl, rfl⟩
  have HV := hid (cho_vander)
  have HR := hid (cho_row (n + 1))
  have hb1 := cho_16 (n := n) (k := k) (by omega)
  have hb2 := cho_16 (n := n) (k := k + 1) (by omega)
  have HP := hid (cho_succ n k)
  have hab : (((cho (n + 1) (k + 1) : Nat) : Int) != ((cho n (k + 1) : Nat) : Int) + ((cho n k : Nat) : Int)) = false := by rw [HP.out]; simp; omega
  generalize hA : cho (n + 1) (k + 1) = a at *
  have HA := hid hA
  clear hA
  generalize cho n k = c at *
  generalize cho n (k + 1) = b at *
  go_wp2_with fail
  refine (good_bel w _ _ 3 [0, 0, 0] rfl rfl (by omega)).mono ?_
  rintro e w_good1 ⟨rfl, hb⟩
  have HB1 := hid (below_step HB0.out (Nat.le_refl _) hb)
  have HA1 : Hid (All w_good1 []) := HA0.out.keep hb
  clear HA0 HB0
  clear hb
  rw [show allOK [0, 0, 0] = true by decide]
  have hab2 := hab
  clear hab2
  go_wp2_with fail
  refine (within_any K3 _ _ (by omega) (by omega)).mono ?_
  rintro e w' ⟨rfl, rfl⟩
  have hk1 := Int.emod_nonneg K3 (show (1 + (n : Int) + 1) ≠ 0 by omega)
  have hk2 := Int.emod_lt_of_pos K3 (show (0 : Int) < 1 + (n : Int) + 1 by omega)
  generalize K3 % (1 + (n : Int) + 1) = N3 at hk1 hk2 ⊢
  obtain ⟨m, rfl⟩ := Int.eq_ofNat_of_zero_le hk1
  have hm : m ≤ n + 1 := by omega
  clear hk1 hk2 hab hb1 hb2
  obtain ⟨p, hp⟩ : ∃ p, m + p = n + 1 := ⟨n + 1 - m, by omega⟩
  have HPP := hid hp
  have HS : Hid (sumN (fun i => cho m i * cho p (k + 1 - i)) (k + 2) = a) := by rw [← HA.out, ← HPP.out]; exact HV.out m p (k + 1)
  have HF : Hid (∀ j, j ≤ k + 2 → sumN (fun i => cho m i * cho p (k + 1 - i)) j ≤ 65536) := fun j hj => by have h1 := sumN_mono (fun i => cho m i * cho p (k + 1 - i)) hj; have h2 := cho_16 (n := n + 1) (k := k + 1) (by omega); rw [HS.out] at h1; rw [HA.out] at h2; omega
  have HB := hid HB1.out
  go_wp2_with fail
  go_loopg [15, 81] (k + 2) (fun g v s wr => ∃ j : Nat, j ≤ k + 2 ∧ k + 2 - j ≤ g ∧ v = .int .i64 ((sumN (fun i => cho m i * cho p (k + 1 - i)) j : Nat) : Int) ∧ s = .int .i64 j ∧ Below w.heap.size w wr)
  case atStart => exact ⟨0, by omega, by omega, rfl, rfl, HB.out⟩
  case round =>
    obtain ⟨j, hj, hg, rfl, rfl, hbel⟩ := hrel
    have HB2 := hid hbel
    clear hbel
    by_cases hlt : j < k + 2
    · have hs1 : sumN (fun i => cho m i * cho p (k + 1 - i)) j ≤ 65536 := HF.out j hj
      have hs2 : sumN (fun i => cho m i * cho p (k + 1 - i)) j + cho m j * cho p (k + 1 - j) ≤ 65536 := HF.out (j + 1) hlt
      have HN : Hid (sumN (fun i => cho m i * cho p (k + 1 - i)) (j + 1) = sumN (fun i => cho m i * cho p (k + 1 - i)) j + cho m j * cho p (k + 1 - j)) := rfl
      have hlt2 : (j : Int) < 1 + (k : Int) + 1 := by omega
      go_wp2_with fail
      refine (chooseF_of _ _ m j rfl rfl _ (by omega) (by omega)).mono ?_
      rintro e w' ⟨rfl, rfl⟩
      go_wp2_with fail
      refine (chooseF_of _ _ p (k + 1 - j) (by omega) (by omega) _ (by omega) (by omega)).mono ?_
      rintro e w' ⟨rfl, rfl⟩
      go_wp2_with fail
      refine (good_bel _ _ _ 2 [0, 0] rfl rfl (by omega)).mono ?_
      rintro e w5 ⟨rfl, hb⟩
      have HB3 := hid (below_step HB2.out (Nat.le_refl _) hb)
      clear hb
      rw [show allOK [0, 0] = true by decide]
      have hm1 : ((cho m j : Nat) : Int) * ((cho p (k + 1 - j) : Nat) : Int) = ((cho m j * cho p (k + 1 - j) : Nat) : Int) := (Int.natCast_mul _ _).symm
      have hm2 : 0 ≤ ((cho m j : Nat) : Int) * ((cho p (k + 1 - j) : Nat) : Int) := by omega
      have hm3 : ((cho m j : Nat) : Int) * ((cho p (k + 1 - j) : Nat) : Int) ≤ 65536 := by omega
      have HM := hid hm1
      clear hm1 hs2
      generalize cho m j = X at *
      generalize cho p (k + 1 - j) = Y at *
      generalize sumN (fun i => cho m i * cho p (k + 1 - i)) j = Z at *
      go_wp2
      go_roundg (k + 2 - (j + 1))
      case measure => omega
      case rel => exact ⟨j + 1, by omega, by omega, by rw [HM.out, HN.out]; go_num, by go_num, HB3.out⟩
    · have hjk : j = k + 2 := by omega
      subst hjk
      rw [HS.out]
      have hge : ¬ ((k + 2 : Nat) : Int) < 1 + (k : Int) + 1 := by omega
      have HG : Hid (∀ j, j ≤ n + 2 → sumN (cho (n + 1)) j ≤ 65536) := fun j hj => by have h1 := sumN_mono (cho (n + 1)) hj; have h2 : sumN (cho (n + 1)) (n + 2) = 2 ^ (n + 1) := HR.out; have h3 : 2 ^ (n + 1) ≤ 2 ^ 16 := Nat.pow_le_pow_right (by omega) (by omega); omega
      obtain ⟨w8, hw8⟩ : ∃ w8, w8 = wr := ⟨wr, rfl⟩
      subst hw8
      go_wp2_with fail
      go_loopg [16, 113] (n + 2) (fun g v s wr => ∃ j : Nat, j ≤ n + 2 ∧ n + 2 - j ≤ g ∧ v = .int .i64 ((sumN (cho (n + 1)) j : Nat) : Int) ∧ s = .int .i64 j ∧ w8 = wr)
      case atStart => exact ⟨0, by omega, by omega, rfl, rfl, rfl⟩
      case round =>
        obtain ⟨j, hj, hg, rfl, rfl, rfl⟩ := hrel
        by_cases hlt : j < n + 2
        · have hs1 : sumN (cho (n + 1)) j ≤ 65536 := HG.out j hj
          have hs2 : sumN (cho (n + 1)) j + cho (n + 1) j ≤ 65536 := HG.out (j + 1) hlt
          have HN : Hid (sumN (cho (n + 1)) (j + 1) = sumN (cho (n + 1)) j + cho (n + 1) j) := rfl
          have hlt2 : (j : Int) < 1 + (n : Int) + 1 := by omega
          go_wp2_with fail
          refine (chooseF_of _ _ (n + 1) j (by omega) rfl _ (by omega) (by omega)).mono ?_
          rintro e w' ⟨rfl, rfl⟩
          generalize cho (n + 1) j = X at *
          generalize sumN (cho (n + 1)) j = Z at *
          go_wp2
          go_roundg (n + 2 - (j + 1))
          case measure => omega
          case rel => exact ⟨j + 1, by omega, by omega, by rw [HN.out]; go_num, by go_num, rfl⟩
        · have hjn : j = n + 2 := by omega
          subst hjn
          rw [HR.out]
          have hge2 : ¬ ((n + 2 : Nat) : Int) < 1 + (n : Int) + 1 := by omega
          go_wp2
          go_ret
          refine ⟨sret_bool ?_, HB2.out⟩
          have h3 : 2 ^ (n + 1) ≤ 2 ^ 16 := Nat.pow_le_pow_right (by omega) (by omega)
          rw [Nat.add_comm 1 n, pow_int]
          generalize 2 ^ (n + 1) = z at h3 ⊢
          rw [IntWalk.wrap64_in _ (by omega)]
          simp

end Go.Proofs.Ytnoacmnhinoohaa
