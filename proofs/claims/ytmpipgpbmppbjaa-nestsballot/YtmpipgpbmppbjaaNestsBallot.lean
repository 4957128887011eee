/-
  castkeep.NestsBallot, walked.
-/
import Derived.Test.YtmpipgpbmppbjaaNestD
import Derived.Test.YtmpipgpbmppbjaaSubA
namespace Go.Proofs.Ytmpipgpbmppbjaa
open Go.RowKit

theorem bertrand_low {a b : Nat} (ha : a < 9) (hb : b < 9) (h : a ≤ b) : aheadN a b = 0 :=
  (by decide +kernel : ∀ a b : Fin 9, a.val ≤ b.val → aheadN a.val b.val = 0) ⟨a, ha⟩ ⟨b, hb⟩ h
theorem bertrand {a b : Nat} (ha : a < 9) (hb : b < 9) (h : b < a) : aheadN a b * (a + b) = (pas (a + b)).getD a 0 * (a - b) ∧ aheadN a b ≤ 10000 :=
  (by decide +kernel : ∀ a b : Fin 9, b.val < a.val → aheadN a.val b.val * (a.val + b.val) = (pas (a.val + b.val)).getD a.val 0 * (a.val - b.val) ∧ aheadN a.val b.val ≤ 10000) ⟨a, ha⟩ ⟨b, hb⟩ h

set_option maxHeartbeats 2000000 in
set_option maxRecDepth 100000 in
theorem nestsBallot_any (x y : Int) (w : World) :
    Calls Try.prog 7 #[.int .i64 x, .int .i64 y] w fun e w' => e = .returned (.bool true) ∧ Below w.heap.size w w' := by
  go_enter Try.func7, Try.ntmps7
  go_wp2_with fail
  refine (ahead_of 3 1 3 1 rfl rfl _ (by omega) (by omega)).mono ?_
  rintro e w1 ⟨rfl, hb⟩
  have HB1 := hid hb
  clear hb
  rw [show aheadN 3 1 = 2 by decide +kernel]
  go_wp2_with fail
  refine (nestsLive_any _).mono ?_
  rintro e w2 ⟨rfl, hb⟩
  have HB2 := hid (below_step HB1.out (Nat.le_refl _) hb)
  clear hb HB1
  go_wp2_with fail
  refine (within_any _ _ _ (by omega) (by omega)).mono ?_
  rintro e w' ⟨rfl, rfl⟩
  go_wp2_with fail
  refine (within_any _ _ _ (by omega) (by omega)).mono ?_
  rintro e w' ⟨rfl, rfl⟩
  obtain ⟨a, hax⟩ : ∃ n : Nat, x % 9 = n := ⟨(x % 9).toNat, by omega⟩
  obtain ⟨b, hbx⟩ : ∃ n : Nat, y % 9 = n := ⟨(y % 9).toNat, by omega⟩
  have ha : a < 9 := by omega
  have hb9 : b < 9 := by omega
  rw [hax, hbx]
  clear hax hbx
  go_wp2_with fail
  refine (ahead_of _ _ a b rfl rfl _ (by omega) (by omega)).mono ?_
  rintro e w3 ⟨rfl, hb⟩
  have HB3 := hid (below_step HB2.out (Nat.le_refl _) hb)
  clear hb HB2
  go_wp2_with fail
  refine (chooseF_of _ _ (a + b) a (by go_num) rfl _ (by omega) (by omega)).mono ?_
  rintro e w' ⟨rfl, rfl⟩
  go_wp2_with fail
  refine (good_bel _ _ _ 2 [0, 0] rfl rfl (by omega)).mono ?_
  rintro e w5 ⟨rfl, hb⟩
  have HB5 := hid (below_step HB3.out (Nat.le_refl _) hb)
  clear hb HB3
  rw [show allOK [0, 0] = true by decide]
  by_cases hab : a ≤ b
  · rw [bertrand_low ha hb9 hab]
    go_wp2
    go_ret
    exact ⟨rfl, HB5.out⟩
  · have hlt : b < a := by omega
    have hd : decide (a ≤ b) = false := decide_eq_false hab
    have HQ := hid (bertrand ha hb9 hlt)
    have HC := hid (cho_16 (n := a + b) (k := a) (by omega))
    have h1 : ((aheadN a b : Nat) : Int) * ((a : Int) + (b : Int)) = ((cho (a + b) a : Nat) : Int) * ((a : Int) - (b : Int)) := by
      have := congrArg (Nat.cast (R := Int)) HQ.out.1
      rw [pas_cho, Int.natCast_mul, Int.natCast_mul, Int.natCast_add, Int.natCast_sub (Nat.le_of_lt hlt)] at this
      exact this
    have b1 : aheadN a b ≤ 10000 := HQ.out.2
    have m1 : 0 ≤ ((aheadN a b : Nat) : Int) * ((a : Int) + (b : Int)) := Int.mul_nonneg (by omega) (by omega)
    have m2 : ((aheadN a b : Nat) : Int) * ((a : Int) + (b : Int)) ≤ 10000 * 18 := Int.mul_le_mul (by omega) (by omega) (by omega) (by omega)
    generalize aheadN a b = A at *
    generalize cho (a + b) a = C at *
    clear HQ HC
    go_wp2_with fail
    refine (ncount_of _ b rfl _ (by omega)).mono ?_
    rintro e w6 ⟨rfl, hb⟩
    have HB6 := hid (below_step HB5.out (Nat.le_refl _) hb)
    clear hb HB5
    go_wp2_with fail
    refine (ahead_of _ _ (b + 1) b (by go_num) rfl _ (by omega) (by omega)).mono ?_
    rintro e w7 ⟨rfl, hb⟩
    have HB7 := hid (below_step HB6.out (Nat.le_refl _) hb)
    clear hb HB6
    rw [show aheadN (b + 1) b = bal b b from rfl]
    go_wp2_with fail
    refine (good_bel _ _ _ 2 [0, 0] rfl rfl (by omega)).mono ?_
    rintro e w8 ⟨rfl, hb⟩
    have HB8 := hid (below_step HB7.out (Nat.le_refl _) hb)
    clear hb HB7
    rw [show allOK [0, 0] = true by decide]
    generalize bal b b = D at *
    generalize hl : (A : Int) * ((a : Int) + (b : Int)) = L at *
    generalize hr : (C : Int) * ((a : Int) - (b : Int)) = R at *
    go_wp2
    go_ret
    exact ⟨rfl, HB8.out⟩
end Go.Proofs.Ytmpipgpbmppbjaa
