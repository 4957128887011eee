/-
  n! and castref.Factorial.
-/
import Derived.Test.YtaklchehamkgcaaRst
namespace Go.Proofs.Ytaklchehamkgcaa
open Go.RowKit

def fact : Nat → Nat
  | 0 => 1
  | n + 1 => (n + 1) * fact n

theorem fact_pos : ∀ n, 0 < fact n
  | 0 => by decide
  | n + 1 => Nat.mul_pos (by omega) (fact_pos n)
theorem fact_mono {a b : Nat} (h : a ≤ b) : fact a ≤ fact b := by
  induction h with
  | refl => exact Nat.le_refl _
  | step _ ih => exact Nat.le_trans ih (Nat.le_mul_of_pos_left _ (by omega))
theorem fact_ten {n : Nat} (h : n ≤ 10) : fact n ≤ 3628800 := Nat.le_trans (fact_mono h) (by decide)

set_option maxHeartbeats 400000 in
theorem factorial_ok (n : Nat) (w : World) (hn : n ≤ 10) : Calls Try.prog 11 #[.int .i64 (n : Int)] w fun e w' => e = .returned (.int .i64 ((fact n : Nat) : Int)) ∧ w = w' := by
  induction n with
  | zero =>
    go_enter Try.func11, Try.ntmps11
    go_wp2_with fail
    go_ret
    exact ⟨rfl, rfl⟩
  | succ n ih =>
    have IH := hid (ih (by omega))
    clear ih
    rcases Nat.eq_zero_or_pos n with h0 | h0
    · subst h0
      go_enter Try.func11, Try.ntmps11
      go_wp2_with fail
      go_ret
      exact ⟨rfl, rfl⟩
    · have h2 : ¬ ((n : Int) + 1 < 2) := by omega
      have hf := fact_ten (n := n + 1) hn
      have HM : Hid (((n : Int) + 1) * ((fact n : Nat) : Int) = ((fact (n + 1) : Nat) : Int)) := by rw [show fact (n + 1) = (n + 1) * fact n from rfl, Int.natCast_mul]; exact rfl
      have h3 : ((n : Int) + 1) * ((fact n : Nat) : Int) ≤ 3628800 := by rw [HM.out]; omega
      have h4 : 0 ≤ ((n : Int) + 1) * ((fact n : Nat) : Int) := by rw [HM.out]; omega
      clear hf
      go_enter Try.func11, Try.ntmps11
      go_wp2_with fail
      refine (IH.out).mono ?_
      rintro e w' ⟨rfl, rfl⟩
      go_wp2_with fail
      go_ret
      exact ⟨ret_int HM.out, rfl⟩

end Go.Proofs.Ytaklchehamkgcaa
