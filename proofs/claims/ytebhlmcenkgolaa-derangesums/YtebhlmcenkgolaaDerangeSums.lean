/-
  castkeep.DerangeSums, walked.
-/
import Derived.Test.YtebhlmcenkgolaaDerA
import Derived.Test.YtebhlmcenkgolaaGen
namespace Go.Proofs.Ytebhlmcenkgolaa
open Go.RowKit

theorem fact_pred {k : Nat} (h : 1 < k) : fact (k - 1) * k = fact k := by
  obtain ⟨j, rfl⟩ : ∃ j, k = j + 1 := ⟨k - 1, by omega⟩
  show fact j * (j + 1) = (j + 1) * fact j
  exact Nat.mul_comm _ _
theorem fact_few {k : Nat} (h : ¬ 1 < k) : fact (k - 1) = fact k := by
  have : k = 0 ∨ k = 1 := by omega
  rcases this with rfl | rfl <;> rfl

set_option maxHeartbeats 2000000 in
set_option maxRecDepth 100000 in
theorem derangeSums_any (x : Int) (w : World) :
    Calls Try.prog 5 #[.int .i64 x] w fun e w' => e = .returned (.bool true) ∧ Below w.heap.size w w' := by
  have HB0 := hid (Below.refl w.heap.size w)
  go_enter Try.func5, Try.ntmps5
  go_wp2_with fail
  refine (fixed_ok 4 1 4 1 rfl rfl _ (by omega) (by omega)).mono ?_
  rintro e w' ⟨rfl, rfl⟩
  rw [show fixN 4 1 = 8 by decide +kernel]
  go_wp2_with fail
  refine (deranges_any _).mono ?_
  rintro e w' ⟨rfl, rfl⟩
  go_wp2_with fail
  refine (within_any _ _ _ (by omega) (by omega)).mono ?_
  rintro e w' ⟨rfl, rfl⟩
  obtain ⟨n, hnx⟩ : ∃ n : Nat, x % 16 = n := ⟨(x % 16).toNat, by omega⟩
  have hn : n < 16 := by omega
  rw [hnx]
  clear hnx
  go_wp2_with fail
  go_loopg [5, 6, 7, 8, 9, 10, 33] (n + 1) (fun g a o m _ _ _ s wr => ∃ k : Nat, k ≤ n + 1 ∧ n + 1 - k ≤ g ∧ a = .int .i64 ((sumN (fixN n) k : Nat) : Int) ∧ o = .int .i64 ((sumN (fixK n) k : Nat) : Int) ∧ m = .int .i64 ((fact (k - 1) : Nat) : Int) ∧ s = .int .i64 (k : Int) ∧ w = wr)
  case atStart => exact ⟨0, by omega, by omega, rfl, rfl, rfl, rfl, rfl⟩
  case round =>
    obtain ⟨k, hk, hg, rfl, rfl, rfl, rfl, rfl⟩ := hrel
    by_cases hlt : k < n + 1
    · have hltI : (k : Int) < (n : Int) + 1 := by omega
      go_wp2_with fail
      refine (fixed_ok _ _ n k rfl rfl _ (by omega) (by omega)).mono ?_
      rintro e w' ⟨rfl, rfl⟩
      have HN1 : Hid (sumN (fixN n) (k + 1) = sumN (fixN n) k + fixN n k) := rfl
      have HN2 : Hid (sumN (fixK n) (k + 1) = sumN (fixK n) k + k * fixN n k) := rfl
      have b1 := fixS_le hn (show k + 1 ≤ n + 1 by omega)
      have b2 := fixKS_le hn (show k + 1 ≤ n + 1 by omega)
      rw [HN1.out] at b1
      rw [HN2.out] at b2
      have hm : (k : Int) * ((fixN n k : Nat) : Int) = ((k * fixN n k : Nat) : Int) := by rw [Int.natCast_mul]
      have m1 : 0 ≤ (k : Int) * ((fixN n k : Nat) : Int) := by rw [hm]; omega
      have m2 : (k : Int) * ((fixN n k : Nat) : Int) ≤ 1307674368000 := by rw [hm]; omega
      have HM := hid hm
      have f1 := fact_15 (n := k - 1) (by omega)
      clear hm
      generalize hP : k * fixN n k = P at *
      clear hP
      generalize fixN n k = y at *
      generalize sumN (fixN n) k = z1 at *
      generalize sumN (fixK n) k = z2 at *
      by_cases h1 : 1 < k
      · have HF := hid (fact_pred h1)
        have hq : ((fact (k - 1) : Nat) : Int) * (k : Int) = ((fact k : Nat) : Int) := by rw [← HF.out, Int.natCast_mul]
        have f2 := fact_15 (n := k) (by omega)
        have q1 : 0 ≤ ((fact (k - 1) : Nat) : Int) * (k : Int) := by rw [hq]; omega
        have q2 : ((fact (k - 1) : Nat) : Int) * (k : Int) ≤ 1307674368000 := by rw [hq]; omega
        have HQ := hid hq
        have hd : decide (1 < (k : Int)) = true := decide_eq_true (by omega)
        clear hq HF f2
        generalize fact (k - 1) = f at *
        go_wp2
        go_roundg (n + 1 - (k + 1))
        case measure => omega
        case rel => exact ⟨k + 1, by omega, by omega, by rw [HN1.out]; go_num, by rw [HN2.out, HM.out]; go_num, by rw [HQ.out]; rfl, by go_num, rfl⟩
      · have HF := hid (fact_few h1)
        have hd : decide (1 < (k : Int)) = false := decide_eq_false (by omega)
        generalize fact (k - 1) = f at *
        go_wp2
        go_roundg (n + 1 - (k + 1))
        case measure => omega
        case rel => exact ⟨k + 1, by omega, by omega, by rw [HN1.out]; go_num, by rw [HN2.out, HM.out]; go_num, by rw [HF.out]; rfl, by go_num, rfl⟩
    · have hkn : k = n + 1 := by omega
      subst hkn
      have hge : ¬ ((n : Int) + 1 < (n : Int) + 1) := by omega
      rw [fixN_all hn, show n + 1 - 1 = n by omega]
      go_wp2_with fail
      refine (fixed_ok _ _ n 0 rfl rfl _ (by omega) (by omega)).mono ?_
      rintro e w' ⟨rfl, rfl⟩
      rw [fixN_zero hn]
      go_wp2_with fail
      refine (dcount_ok _ n rfl _ (by omega)).mono ?_
      rintro e w' ⟨rfl, rfl⟩
      go_wp2_with fail
      refine (good_bel _ _ _ 2 [0, 0] rfl rfl (by omega)).mono ?_
      rintro e w5 ⟨rfl, hb⟩
      have HB5 := hid (below_step HB0.out (Nat.le_refl _) hb)
      clear hb HB0
      rw [show allOK [0, 0] = true by decide]
      rcases n with _ | n
      · rw [show sumN (fixK 0) (0 + 1) = 0 by decide +kernel]
        generalize fact 0 = f at *
        generalize drg 0 = d at *
        go_wp2
        go_ret
        exact ⟨rfl, HB5.out⟩
      · rw [show sumN (fixK (n + 1)) (n + 1 + 1) = fact (n + 1) from fixK_all (by omega)]
        have hz : (((n + 1 : Nat) : Int) == 0) = false := by simp; omega
        generalize fact (n + 1) = f at *
        generalize drg (n + 1) = d at *
        go_wp2
        go_ret
        exact ⟨rfl, HB5.out⟩
end Go.Proofs.Ytebhlmcenkgolaa
