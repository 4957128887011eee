/-
  castref.NoneOf.
-/
import Derived.Test.YtebhlmcenkgolaaDerM
import Derived.Test.YtebhlmcenkgolaaFct20
import Derived.Test.YtebhlmcenkgolaaChoR
import Derived.Test.YtebhlmcenkgolaaLit
namespace Go.Proofs.Ytebhlmcenkgolaa
open Go.RowKit

set_option maxHeartbeats 1600000 in
theorem noneOf_ok (n : Nat) (w : World) (hn : n ≤ 15) :
    Calls Try.prog 11 #[.int .i64 (n : Int)] w fun e w' => e = .returned (.int .i64 ((drg n : Nat) : Int)) ∧ Below w.heap.size w w' := by
  go_enter Try.func11, Try.ntmps11
  go_wp2_with fail
  go_loopg [3, 4, 5, 8] (n + 1) (fun g u _ _ s wr => ∃ k : Nat, k ≤ n + 1 ∧ n + 1 - k ≤ g ∧ u = .int .i64 (noneS n k) ∧ s = .int .i64 (k : Int) ∧ Below w.heap.size w wr)
  case atStart => exact ⟨0, Nat.zero_le _, by omega, rfl, rfl, Below.refl _ _⟩
  case round =>
    obtain ⟨k, hk, hg, rfl, rfl, hbel⟩ := hrel
    have HB := hid hbel
    clear hbel
    by_cases hlt : k < n + 1
    · have hltI : (k : Int) < (n : Int) + 1 := by omega
      go_wp2_with fail
      refine (refChoose_any n k _ (by omega)).mono ?_
      rintro e w1 ⟨rfl, hb⟩
      have HB1 := hid (below_step HB.out (Nat.le_refl _) hb)
      clear hb HB
      go_wp2_with fail
      refine (factorial_of _ (n - k) (by omega) _ (by omega)).mono ?_
      rintro e w' ⟨rfl, rfl⟩
      have hT := noneT_le (n := n) (k := k) (by omega) (by omega)
      have h0 : ((cho n k : Nat) : Int) * ((fact (n - k) : Nat) : Int) = ((noneT n k : Nat) : Int) := by rw [noneT_eq, Int.natCast_mul]
      have h2 : 0 ≤ ((cho n k : Nat) : Int) * ((fact (n - k) : Nat) : Int) := by rw [h0]; omega
      have h3 : ((cho n k : Nat) : Int) * ((fact (n - k) : Nat) : Int) ≤ 1307674368000 := by rw [h0]; omega
      have hS := noneS_le (n := n) (k := k) (by omega) (by omega)
      have hS1 := hS.1
      have hS2 := hS.2
      clear hS
      by_cases hodd : k % 2 = 1
      · have HN : Hid (noneS n (k + 1) = noneS n k + -((noneT n k : Nat) : Int)) := by show noneS n k + _ = _; rw [if_pos hodd]
        rw [← h0] at HN
        clear h0 hT
        have hoI : (((k : Int) % 2) == 1) = true := by simp; omega
        generalize cho n k = x at *
        generalize fact (n - k) = y at *
        generalize noneS n k = z at *
        go_wp2
        go_roundg (n + 1 - (k + 1))
        case measure => omega
        case rel => exact ⟨k + 1, by omega, by omega, by rw [HN.out], by go_num, HB1.out⟩
      · have HN : Hid (noneS n (k + 1) = noneS n k + ((noneT n k : Nat) : Int)) := by show noneS n k + _ = _; rw [if_neg hodd]
        rw [← h0] at HN
        clear h0 hT
        have hoI : (((k : Int) % 2) == 1) = false := by simp; omega
        generalize cho n k = x at *
        generalize fact (n - k) = y at *
        generalize noneS n k = z at *
        go_wp2
        go_roundg (n + 1 - (k + 1))
        case measure => omega
        case rel => exact ⟨k + 1, by omega, by omega, by rw [HN.out], by go_num, HB1.out⟩
    · have hkn : k = n + 1 := by omega
      subst hkn
      have hge : ¬ ((n : Int) + 1 < (n : Int) + 1) := by omega
      have HN := hid (noneS_all (n := n) (by omega))
      generalize noneS n (n + 1) = z at *
      go_wp2
      go_ret
      exact ⟨ret_int HN.out, HB.out⟩
theorem noneOf_of (N : Int) (n : Nat) (hN : N = n) (w : World) (hn : n ≤ 15) :
    Calls Try.prog 11 #[.int .i64 N] w fun e w' => e = .returned (.int .i64 ((drg n : Nat) : Int)) ∧ Below w.heap.size w w' := by
  subst hN
  exact noneOf_ok n w hn

end Go.Proofs.Ytebhlmcenkgolaa
