/-
  castkeep.DerangeNext, walked.
-/
import Derived.Test.YtebhlmcenkgolaaDerA
import Derived.Test.YtebhlmcenkgolaaGen
namespace Go.Proofs.Ytebhlmcenkgolaa
open Go.RowKit

set_option maxHeartbeats 2000000 in
set_option maxRecDepth 100000 in
theorem derangeNext_any (x : Int) (w : World) :
    Calls Try.prog 4 #[.int .i64 x] w fun e w' => e = .returned (.bool true) ∧ Below w.heap.size w w' := by
  have HB0 := hid (Below.refl w.heap.size w)
  go_enter Try.func4, Try.ntmps4
  go_wp2_with fail
  refine (deranges_any _).mono ?_
  rintro e w' ⟨rfl, rfl⟩
  go_wp2_with fail
  refine (within_any _ _ _ (by omega) (by omega)).mono ?_
  rintro e w' ⟨rfl, rfl⟩
  obtain ⟨n, hnx⟩ : ∃ n : Nat, x % 14 = n := ⟨(x % 14).toNat, by omega⟩
  have hn : n < 14 := by omega
  rw [hnx]
  clear hnx
  go_wp2_with fail
  refine (dcount_ok _ (n + 2) (by omega) _ (by omega)).mono ?_
  rintro e w' ⟨rfl, rfl⟩
  go_wp2_with fail
  refine (dcount_ok _ (n + 1) (by omega) _ (by omega)).mono ?_
  rintro e w' ⟨rfl, rfl⟩
  go_wp2_with fail
  refine (dcount_ok _ n (by omega) _ (by omega)).mono ?_
  rintro e w' ⟨rfl, rfl⟩
  have HS := hid (drg_step (show n + 1 < 15 by omega))
  have l1 := drg_le (n + 2)
  have l2 := drg_le (n + 1)
  have l3 := drg_le n
  have h2 : (2 + (n : Int) - 1) * (((drg (n + 1) : Nat) : Int) + ((drg n : Nat) : Int)) = ((drg (n + 2) : Nat) : Int) := by
    rw [← HS.out, drB_step, Int.natCast_mul, Int.natCast_add, Int.natCast_add, show 2 + (n : Int) - 1 = (n : Int) + 1 by omega, Int.add_comm ((drg (n + 1) : Nat) : Int)]
    rfl
  have HO := hid (drg_odd hn)
  have HE := hid (drg_even hn)
  clear HS
  by_cases hodd : n % 2 = 1
  · have h1 : (2 + (n : Int)) * ((drg (n + 1) : Nat) : Int) = ((drg (n + 2) : Nat) : Int) + 1 := by
      have := congrArg (Nat.cast (R := Int)) (HO.out hodd)
      rw [Int.natCast_mul, Int.natCast_add, Int.natCast_add] at this
      rw [Int.add_comm]
      exact this
    clear HO HE
    have hoI : (((2 + (n : Int)) % 2) == 1) = true := by simp; omega
    obtain ⟨L, hL⟩ : ∃ L, (2 + (n : Int)) * ((drg (n + 1) : Nat) : Int) = L := ⟨_, rfl⟩
    rw [hL] at h1
    have hL0 : 0 < L := by omega
    have hL1 : L ≤ 481066515735 := by omega
    have hla : (((drg (n + 2) : Nat) : Int) == L + -1) = true := by simp; omega
    clear h1
    generalize drg (n + 2) = a at *
    generalize drg (n + 1) = b at *
    generalize drg n = c at *
    go_wp2_with fail
    refine (good_bel _ _ _ 3 [0, 0, 0] rfl rfl (by omega)).mono ?_
    rintro e w5 ⟨rfl, hb⟩
    have HB5 := hid (below_step HB0.out (Nat.le_refl _) hb)
    clear hb HB0
    rw [show allOK [0, 0, 0] = true by decide]
    go_wp2
    go_ret
    exact ⟨rfl, HB5.out⟩
  · have h1 : (2 + (n : Int)) * ((drg (n + 1) : Nat) : Int) = ((drg (n + 2) : Nat) : Int) - 1 := by
      have := congrArg (Nat.cast (R := Int)) (HE.out (by omega))
      rw [Int.natCast_add, Int.natCast_mul, Int.natCast_add] at this
      rw [← this, Int.add_comm 2]
      exact (Int.add_sub_cancel _ _).symm
    clear HO HE
    have hoI : (((2 + (n : Int)) % 2) == 1) = false := by simp; omega
    generalize drg (n + 2) = a at *
    generalize drg (n + 1) = b at *
    generalize drg n = c at *
    go_wp2_with fail
    refine (good_bel _ _ _ 3 [0, 0, 0] rfl rfl (by omega)).mono ?_
    rintro e w5 ⟨rfl, hb⟩
    have HB5 := hid (below_step HB0.out (Nat.le_refl _) hb)
    clear hb HB0
    rw [show allOK [0, 0, 0] = true by decide]
    go_wp2
    go_ret
    exact ⟨rfl, HB5.out⟩
end Go.Proofs.Ytebhlmcenkgolaa
