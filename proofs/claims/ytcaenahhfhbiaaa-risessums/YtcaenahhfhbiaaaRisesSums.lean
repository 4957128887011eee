/-
  castkeep.RisesSums, walked.
-/
import Derived.Test.YtcaenahhfhbiaaaRisA
import Derived.Test.YtcaenahhfhbiaaaRst
namespace Go.Proofs.Ytcaenahhfhbiaaa
open Go.RowKit

theorem fact_15r {n : Nat} (h : n ≤ 15) : fact n ≤ 1307674368000 := Nat.le_trans (fact_mono h) (by decide +kernel)

set_option maxHeartbeats 2000000 in
set_option maxRecDepth 100000 in
theorem risesSums_any (x y : Int) (w : World) :
    Calls Try.prog 5 #[.int .i64 x, .int .i64 y] w fun e w' => e = .returned (.bool true) ∧ Below w.heap.size w w' := by
  have HB0 := hid (Below.refl w.heap.size w)
  go_enter Try.func5, Try.ntmps5
  go_wp2_with fail
  refine (risesLive_any _).mono ?_
  rintro e w1 ⟨rfl, hb⟩
  have HB1 := hid (below_step HB0.out (Nat.le_refl _) hb)
  clear hb HB0
  go_wp2_with fail
  refine (within_any _ _ _ (by omega) (by omega)).mono ?_
  rintro e w' ⟨rfl, rfl⟩
  obtain ⟨n, hnx⟩ : ∃ n : Nat, x % 15 = n := ⟨(x % 15).toNat, by omega⟩
  have hn : n < 15 := by omega
  rw [hnx]
  clear hnx
  go_wp2_with fail
  refine (within_any _ _ _ (by omega) (by omega)).mono ?_
  rintro e w' ⟨rfl, rfl⟩
  obtain ⟨k, hky⟩ : ∃ k : Nat, y % (1 + (n : Int)) = k := ⟨(y % (1 + (n : Int))).toNat, by have := Int.emod_nonneg y (show 1 + (n : Int) ≠ 0 by omega); omega⟩
  have hk : k < n + 1 := by have := Int.emod_lt_of_pos y (show 0 < 1 + (n : Int) by omega); omega
  rw [hky]
  clear hky
  go_wp2_with fail
  go_loopg [5, 6, 7, 8, 9, 28] (n + 1) (fun g a m _ _ _ s wr => ∃ i : Nat, i ≤ n + 1 ∧ n + 1 - i ≤ g ∧ a = .int .i64 ((sumN (eul (n + 1)) i : Nat) : Int) ∧ m = .int .i64 ((fact i : Nat) : Int) ∧ s = .int .i64 (i : Int) ∧ Below w.heap.size w wr)
  case atStart => exact ⟨0, by omega, by omega, rfl, rfl, rfl, HB1.out⟩
  case round =>
    obtain ⟨i, hi, hg, rfl, rfl, rfl, hbel⟩ := hrel
    have HB := hid hbel
    clear hbel HB1
    by_cases hlt : i < n + 1
    · have hltI : (i : Int) < 1 + (n : Int) := by omega
      go_wp2_with fail
      refine (rcount_ok _ _ (n + 1) i (by omega) rfl _ (by omega) (by omega)).mono ?_
      rintro e w2 ⟨rfl, hb⟩
      have HB2 := hid (below_step HB.out (Nat.le_refl _) hb)
      clear hb HB
      have HN1 : Hid (sumN (eul (n + 1)) (i + 1) = sumN (eul (n + 1)) i + eul (n + 1) i) := rfl
      have b1 := eulS_le hn (show i + 1 ≤ n + 1 by omega)
      rw [HN1.out] at b1
      have hq : ((fact i : Nat) : Int) * ((i : Int) + 1) = ((fact (i + 1) : Nat) : Int) := by
        show _ = (((i + 1) * fact i : Nat) : Int)
        rw [Int.natCast_mul, Int.mul_comm]
        rfl
      have f1 := fact_15r (n := i) (by omega)
      have f2 := fact_15r (n := i + 1) (by omega)
      have q1 : 0 ≤ ((fact i : Nat) : Int) * ((i : Int) + 1) := by rw [hq]; omega
      have q2 : ((fact i : Nat) : Int) * ((i : Int) + 1) ≤ 1307674368000 := by rw [hq]; omega
      have HQ := hid hq
      clear hq f2
      generalize eul (n + 1) i = y at *
      generalize sumN (eul (n + 1)) i = z at *
      generalize fact i = f at *
      go_wp2
      go_roundg (n + 1 - (i + 1))
      case measure => omega
      case rel => exact ⟨i + 1, by omega, by omega, by rw [HN1.out]; go_num, by rw [HQ.out], by go_num, HB2.out⟩
    · have hin : i = n + 1 := by omega
      subst hin
      have hge : ¬ (((n + 1 : Nat) : Int) < 1 + (n : Int)) := by omega
      rw [eul_all hn]
      go_wp2_with fail
      refine (rcount_ok _ _ (n + 1) k (by omega) rfl _ (by omega) (by omega)).mono ?_
      rintro e w2 ⟨rfl, hb⟩
      have HB2 := hid (below_step HB.out (Nat.le_refl _) hb)
      clear hb HB
      go_wp2_with fail
      refine (rcount_ok _ _ (n + 1) (n - k) (by omega) (by omega) _ (by omega) (by omega)).mono ?_
      rintro e w3 ⟨rfl, hb⟩
      have HB3 := hid (below_step HB2.out (Nat.le_refl _) hb)
      clear hb HB2
      rw [← eul_same hn hk]
      go_wp2_with fail
      refine (rcount_ok _ _ n k (by omega) rfl _ (by omega) (by omega)).mono ?_
      rintro e w4 ⟨rfl, hb⟩
      have HB4 := hid (below_step HB3.out (Nat.le_refl _) hb)
      clear hb HB3
      by_cases hk0 : k = 0
      · subst hk0
        rw [eul_first (show n < 16 by omega), eul_first (show n + 1 < 16 by omega)]
        go_wp2_with fail
        refine (good_bel _ _ _ 3 [0, 0, 0] rfl rfl (by omega)).mono ?_
        rintro e w5 ⟨rfl, hb⟩
        have HB5 := hid (below_step HB4.out (Nat.le_refl _) hb)
        clear hb HB4
        rw [show allOK [0, 0, 0] = true by decide]
        generalize fact (n + 1) = f at *
        by_cases hn0 : n = 0
        · subst hn0
          go_wp2
          go_ret
          exact ⟨rfl, HB5.out⟩
        · have hz : ((1 + (n : Int)) == 1) = false := by simp; omega
          go_wp2
          go_ret
          exact ⟨rfl, HB5.out⟩
      · obtain ⟨k, rfl⟩ : ∃ j, k = j + 1 := ⟨k - 1, by omega⟩
        have hkI : 0 < ((k + 1 : Nat) : Int) := by omega
        have hnI : ((1 + (n : Int)) == 1) = false := by simp; omega
        go_wp2_with fail
        refine (rcount_ok _ _ n k (by omega) (by omega) _ (by omega) (by omega)).mono ?_
        rintro e w5 ⟨rfl, hb⟩
        have HB5 := hid (below_step HB4.out (Nat.le_refl _) hb)
        clear hb HB4
        have HS := hid (eul_step n (show k + 1 < 16 by omega))
        have c1 := eul_le (n := n) (k := k + 1) (by omega) (by omega)
        have c2 := eul_le (n := n) (k := k) (by omega) (by omega)
        have c3 := eul_le (n := n + 1) (k := k + 1) (by omega) (by omega)
        have m1 : 0 ≤ ((k : Int) + 1 + 1) * ((eul n (k + 1) : Nat) : Int) := Int.mul_nonneg (by omega) (by omega)
        have m2 : ((k : Int) + 1 + 1) * ((eul n (k + 1) : Nat) : Int) ≤ 17 * 1307674368000 := Int.mul_le_mul (by omega) (by omega) (by omega) (by omega)
        have m3 : 0 ≤ (1 + (n : Int) - ((k : Int) + 1)) * ((eul n k : Nat) : Int) := Int.mul_nonneg (by omega) (by omega)
        have m4 : (1 + (n : Int) - ((k : Int) + 1)) * ((eul n k : Nat) : Int) ≤ 15 * 1307674368000 := Int.mul_le_mul (by omega) (by omega) (by omega) (by omega)
        have hE : (((eul (n + 1) (k + 1) : Nat) : Int) == ((k : Int) + 1 + 1) * ((eul n (k + 1) : Nat) : Int) + (1 + (n : Int) - ((k : Int) + 1)) * ((eul n k : Nat) : Int)) = true := by
          have h1 : ((k : Int) + 1 + 1) = ((k + 2 : Nat) : Int) := by omega
          have h2 : 1 + (n : Int) - ((k : Int) + 1) = ((n - k : Nat) : Int) := by omega
          rw [HS.out, h1, h2, ← Int.natCast_mul, ← Int.natCast_mul, ← Int.natCast_add]
          exact beq_self_eq_true _
        clear HS
        go_wp2_with fail
        refine (good_bel _ _ _ 3 [0, 0, 0] rfl rfl (by omega)).mono ?_
        rintro e w6 ⟨rfl, hb⟩
        have HB6 := hid (below_step HB5.out (Nat.le_refl _) hb)
        clear hb HB5
        rw [show allOK [0, 0, 0] = true by decide]
        generalize fact (n + 1) = f at *
        generalize eul (n + 1) (k + 1) = a at *
        generalize eul n (k + 1) = c at *
        generalize eul n k = d at *
        go_wp2
        go_ret
        exact ⟨rfl, HB6.out⟩
end Go.Proofs.Ytcaenahhfhbiaaa
