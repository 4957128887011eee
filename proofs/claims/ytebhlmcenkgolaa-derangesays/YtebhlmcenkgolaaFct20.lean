/-
  castref.Factorial up to twenty.
-/
import Derived.Test.YtebhlmcenkgolaaFct
namespace Go.Proofs.Ytebhlmcenkgolaa
open Go.RowKit

theorem fact_20 {n : Nat} (h : n ≤ 20) : fact n ≤ 2432902008176640000 := Nat.le_trans (fact_mono h) (by decide +kernel)

set_option maxHeartbeats 400000 in
theorem factorial_20 (n : Nat) (w : World) (hn : n ≤ 20) : Calls Try.prog 25 #[.int .i64 (n : Int)] w fun e w' => e = .returned (.int .i64 ((fact n : Nat) : Int)) ∧ w = w' := by
  induction n with
  | zero =>
    go_enter Try.func25, Try.ntmps25
    go_wp2_with fail
    go_ret
    exact ⟨rfl, rfl⟩
  | succ n ih =>
    have IH := hid (ih (by omega))
    clear ih
    rcases Nat.eq_zero_or_pos n with h0 | h0
    · subst h0
      go_enter Try.func25, Try.ntmps25
      go_wp2_with fail
      go_ret
      exact ⟨rfl, rfl⟩
    · have h2 : ¬ ((n : Int) + 1 < 2) := by omega
      have hf := fact_20 (n := n + 1) hn
      have HM : Hid (((n : Int) + 1) * ((fact n : Nat) : Int) = ((fact (n + 1) : Nat) : Int)) := by rw [show fact (n + 1) = (n + 1) * fact n from rfl, Int.natCast_mul]; exact rfl
      have h3 : ((n : Int) + 1) * ((fact n : Nat) : Int) ≤ 2432902008176640000 := by rw [HM.out]; omega
      have h4 : 0 ≤ ((n : Int) + 1) * ((fact n : Nat) : Int) := by rw [HM.out]; omega
      clear hf
      go_enter Try.func25, Try.ntmps25
      go_wp2_with fail
      refine (IH.out).mono ?_
      rintro e w' ⟨rfl, rfl⟩
      go_wp2_with fail
      go_ret
      exact ⟨ret_int HM.out, rfl⟩
theorem factorial_of (N : Int) (n : Nat) (hN : N = n) (w : World) (hn : n ≤ 20) : Calls Try.prog 25 #[.int .i64 N] w fun e w' => e = .returned (.int .i64 ((fact n : Nat) : Int)) ∧ w = w' := by
  subst hN
  exact factorial_20 n w hn

end Go.Proofs.Ytebhlmcenkgolaa
