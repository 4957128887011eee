/-
  derange.inRise, derangements, Count, Fixed; castkeep.deranges.
-/
import Derived.Test.YthdjbmogdlodcaaDerM
import Derived.Test.YthdjbmogdlodcaaSubA
namespace Go.Proofs.Ythdjbmogdlodcaa
open Go.RowKit

theorem inRise_yes (n : Int) (w : World) (h0 : 0 ≤ n) (h1 : n ≤ 15) :
    Calls Try.prog 45 #[.int .i64 n] w fun e w' => e = .returned (.bool true) ∧ w = w' := by
  go_enter Try.func45, Try.ntmps45
  go_wp2
  go_ret
  exact ⟨rfl, rfl⟩
theorem inRise_no (n : Int) (w : World) (h : n < 0 ∨ 15 < n) :
    Calls Try.prog 45 #[.int .i64 n] w fun e w' => e = .returned (.bool false) ∧ w = w' := by
  rcases h with h | h
  · go_enter Try.func45, Try.ntmps45
    go_wp2
    go_ret
    exact ⟨rfl, rfl⟩
  · have HD : Hid (decide (n ≤ 15) = false) := decide_eq_false (by omega)
    go_enter Try.func45, Try.ntmps45
    go_wp2
    go_ret
    exact ⟨sret_bool HD.out, rfl⟩

set_option maxHeartbeats 800000 in
theorem derangements_ok (n : Nat) (w : World) (hn : n ≤ 15) :
    Calls Try.prog 46 #[.int .i64 (n : Int)] w fun e w' => e = .returned (.int .i64 ((drg n : Nat) : Int)) ∧ w = w' := by
  go_enter Try.func46, Try.ntmps46
  go_wp2
  go_loopg [3, 4, 5] n (fun g u v s wr => ∃ i : Nat, i ≤ n ∧ n - i ≤ g ∧ u = .int .i64 ((drB i : Nat) : Int) ∧ v = .int .i64 ((drg i : Nat) : Int) ∧ s = .int .i64 ((i : Int) + 1) ∧ w = wr)
  case atStart => exact ⟨0, Nat.zero_le _, by omega, rfl, rfl, rfl, rfl⟩
  case round =>
    obtain ⟨i, hi, hg, rfl, rfl, rfl, rfl⟩ := hrel
    by_cases hlt : i < n
    · have HE := hid (drg_step (show i < 15 by omega))
      have HL := hid (drg_le (i + 1))
      have b1 := drB_le i
      have b2 := drg_le i
      have h0 : (i : Int) * (((drB i : Nat) : Int) + ((drg i : Nat) : Int)) = ((drg (i + 1) : Nat) : Int) := by
        rw [← HE.out, Int.natCast_mul, Int.natCast_add]
      have h2 : 0 ≤ (i : Int) * (((drB i : Nat) : Int) + ((drg i : Nat) : Int)) := by rw [h0]; omega
      have h3 : (i : Int) * (((drB i : Nat) : Int) + ((drg i : Nat) : Int)) ≤ 481066515734 := by rw [h0]; have := HL.out; omega
      have H0 := hid h0
      have HB := hid (drB_step i)
      have hltI : (i : Int) + 1 ≤ (n : Int) := by omega
      clear h0
      generalize drB i = b at *
      generalize drg i = d at *
      go_wp2
      go_roundg (n - (i + 1))
      case measure => omega
      case rel => exact ⟨i + 1, by omega, by omega, by rw [HB.out], by rw [← H0.out], by go_num, rfl⟩
    · have hin : i = n := by omega
      subst hin
      go_wp2
      go_ret
      exact ⟨rfl, rfl⟩
theorem derangements_of (N : Int) (n : Nat) (hN : N = n) (w : World) (hn : n ≤ 15) :
    Calls Try.prog 46 #[.int .i64 N] w fun e w' => e = .returned (.int .i64 ((drg n : Nat) : Int)) ∧ w = w' := by
  subst hN
  exact derangements_ok n w hn

set_option maxHeartbeats 800000 in
theorem fixed_ok (N K : Int) (n k : Nat) (hN : N = n) (hK : K = k) (w : World) (hn : n ≤ 15) (hk : k ≤ n) :
    Calls Try.prog 29 #[.int .i64 N, .int .i64 K] w fun e w' => e = .returned (.tuple #[.int .i64 ((fixN n k : Nat) : Int), .int .i64 0]) ∧ w = w' := by
  subst hN
  subst hK
  have hd : decide (n < k) = false := decide_eq_false (by omega)
  have hf := fixN_le (n := n) (k := k) (by omega) (by omega)
  have h0 : ((cho n k : Nat) : Int) * ((drg (n - k) : Nat) : Int) = ((fixN n k : Nat) : Int) := by rw [fixN_eq, Int.natCast_mul]
  have h2 : 0 ≤ ((cho n k : Nat) : Int) * ((drg (n - k) : Nat) : Int) := by rw [h0]; omega
  have h3 : ((cho n k : Nat) : Int) * ((drg (n - k) : Nat) : Int) ≤ 1307674368000 := by rw [h0]; omega
  have H0 := hid h0
  clear h0 hf
  go_enter Try.func29, Try.ntmps29
  go_wp2_with fail
  refine (inRise_yes _ _ (by omega) (by omega)).mono ?_
  rintro e w' ⟨rfl, rfl⟩
  go_wp2_with fail
  refine (inRise_yes _ _ (by omega) (by omega)).mono ?_
  rintro e w' ⟨rfl, rfl⟩
  go_wp2_with fail
  refine (chooseF_ok n k _ (by omega) (by omega)).mono ?_
  rintro e w' ⟨rfl, rfl⟩
  go_wp2_with fail
  refine (derangements_of _ (n - k) (by omega) _ (by omega)).mono ?_
  rintro e w' ⟨rfl, rfl⟩
  generalize cho n k = c at *
  generalize drg (n - k) = d at *
  go_wp2
  go_ret2
  exact ⟨by rw [← H0.out]; rfl, rfl⟩
theorem fixed_over (n k : Nat) (w : World) (hn : n ≤ 15) (hk15 : k ≤ 15) (hk : n < k) :
    Calls Try.prog 29 #[.int .i64 (n : Int), .int .i64 (k : Int)] w fun e w' => e = .returned (.tuple #[.int .i64 0, .int .i64 0]) ∧ w = w' := by
  have hd : decide (n < k) = true := decide_eq_true (by omega)
  go_enter Try.func29, Try.ntmps29
  go_wp2_with fail
  refine (inRise_yes _ _ (by omega) (by omega)).mono ?_
  rintro e w' ⟨rfl, rfl⟩
  go_wp2_with fail
  refine (inRise_yes _ _ (by omega) (by omega)).mono ?_
  rintro e w' ⟨rfl, rfl⟩
  go_wp2
  go_ret2
  exact ⟨rfl, rfl⟩
theorem fixed_bad (n k : Int) (w : World) (h : (n < 0 ∨ 15 < n) ∨ (k < 0 ∨ 15 < k)) :
    Calls Try.prog 29 #[.int .i64 n, .int .i64 k] w fun e w' => e = .returned (.tuple #[.int .i64 0, .int .i64 1]) ∧ w = w' := by
  by_cases h1 : n < 0 ∨ 15 < n
  · go_enter Try.func29, Try.ntmps29
    go_wp2_with fail
    refine (inRise_no _ _ h1).mono ?_
    rintro e w' ⟨rfl, rfl⟩
    go_wp2
    go_ret2
    exact ⟨rfl, rfl⟩
  · have h2 : k < 0 ∨ 15 < k := h.resolve_left h1
    go_enter Try.func29, Try.ntmps29
    go_wp2_with fail
    refine (inRise_yes _ _ (by omega) (by omega)).mono ?_
    rintro e w' ⟨rfl, rfl⟩
    go_wp2_with fail
    refine (inRise_no _ _ h2).mono ?_
    rintro e w' ⟨rfl, rfl⟩
    go_wp2
    go_ret2
    exact ⟨rfl, rfl⟩

end Go.Proofs.Ythdjbmogdlodcaa
