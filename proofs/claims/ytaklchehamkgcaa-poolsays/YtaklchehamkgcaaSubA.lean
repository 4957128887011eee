/-
  package subset: inBits, choose, Choose.
-/
import Derived.Test.YtaklchehamkgcaaSubM
namespace Go.Proofs.Ytaklchehamkgcaa
open Go.RowKit

theorem pow_int (e : Nat) : (2 : Int) ^ e = ((2 ^ e : Nat) : Int) := by simp
theorem sret_int {k : IntKind} {a b : Int} (h : a = b) : Ending.returned (.int k a) = .returned (.int k b) := by rw [h]

theorem sret_bool {a b : Bool} (h : a = b) : Ending.returned (.bool a) = .returned (.bool b) := by rw [h]

theorem inBits_yes (n : Int) (w : World) (h0 : 0 ≤ n) (h1 : n ≤ 16) :
    Calls Try.prog 32 #[.int .i64 n] w fun e w' => e = .returned (.bool true) ∧ w = w' := by
  go_enter Try.func32, Try.ntmps32
  go_wp2
  go_ret
  exact ⟨rfl, rfl⟩
theorem inBits_no (n : Int) (w : World) (h : n < 0 ∨ 16 < n) :
    Calls Try.prog 32 #[.int .i64 n] w fun e w' => e = .returned (.bool false) ∧ w = w' := by
  rcases h with h | h
  · go_enter Try.func32, Try.ntmps32
    go_wp2
    go_ret
    exact ⟨rfl, rfl⟩
  · have HD : Hid (decide (n ≤ 16) = false) := decide_eq_false (by omega)
    go_enter Try.func32, Try.ntmps32
    go_wp2
    go_ret
    exact ⟨sret_bool HD.out, rfl⟩

theorem cho_int {n i : Nat} (h : i ≤ n) : ((cho n i : Nat) : Int) * ((n : Int) - (i : Int)) / ((i : Int) + 1) = ((cho n (i + 1) : Nat) : Int) := by
  have h1 := cho_step n i h
  have h2 : ((cho n i : Nat) : Int) * ((n : Int) - (i : Int)) = ((cho n (i + 1) * (i + 1) : Nat) : Int) := by
    rw [h1, Int.natCast_mul, show ((n : Int) - (i : Int)) = ((n - i : Nat) : Int) by omega]
  rw [h2, show ((i : Int) + 1) = ((i + 1 : Nat) : Int) by omega, ← Int.natCast_ediv, Nat.mul_div_cancel _ (by omega)]

set_option maxHeartbeats 800000 in
theorem choose_ok (n k : Nat) (w : World) (hn : n ≤ 16) (hk : k ≤ 16) :
    Calls Try.prog 33 #[.int .i64 (n : Int), .int .i64 (k : Int)] w fun e w' => e = .returned (.int .i64 ((cho n k : Nat) : Int)) ∧ w = w' := by
  go_enter Try.func33, Try.ntmps33
  go_wp2
  go_loopg [5, 8] k (fun g u s wr => ∃ i : Nat, i ≤ k ∧ k - i ≤ g ∧ u = .int .i64 ((cho n i : Nat) : Int) ∧ s = .int .i64 (i : Int) ∧ w = wr)
  case atStart => exact ⟨0, Nat.zero_le _, by omega, by rw [cho_zero]; rfl, rfl, rfl⟩
  case round =>
    obtain ⟨i, hi, hg, rfl, rfl, rfl⟩ := hrel
    by_cases hlt : i < k
    · by_cases hin : i ≤ n
      · have HE := hid (cho_int hin)
        have HB := hid (cho_16 (k := i + 1) hn)
        have h0 : ((cho n i : Nat) : Int) * ((n : Int) - (i : Int)) = ((cho n (i + 1) * (i + 1) : Nat) : Int) := by
          rw [cho_step n i hin, Int.natCast_mul, show ((n : Int) - (i : Int)) = ((n - i : Nat) : Int) by omega]
        have h1 : cho n (i + 1) * (i + 1) ≤ 65536 * 17 := Nat.mul_le_mul HB.out (by omega)
        have h2 : 0 ≤ ((cho n i : Nat) : Int) * ((n : Int) - (i : Int)) := by rw [h0]; omega
        have h3 : ((cho n i : Nat) : Int) * ((n : Int) - (i : Int)) ≤ 1114112 := by rw [h0]; omega
        clear h0 h1
        generalize cho n i = c at *
        generalize hd : cho n (i + 1) = d at *
        have HD := hid hd
        clear hd
        go_wp2
        go_roundg (k - (i + 1))
        case measure => omega
        case rel => exact ⟨i + 1, by omega, by omega, by rw [HE.out, HD.out], by go_num, rfl⟩
      · have hz : cho n i = 0 := cho_over (by omega)
        have HZ : Hid (cho n (i + 1) = 0) := cho_over (by omega)
        rw [hz]
        clear hz
        go_wp2
        go_roundg (k - (i + 1))
        case measure => omega
        case rel => exact ⟨i + 1, by omega, by omega, by rw [HZ.out]; simp, by go_num, rfl⟩
    · have hik : i = k := by omega
      subst hik
      go_wp2
      go_ret
      exact ⟨rfl, rfl⟩

theorem chooseF_ok (n k : Nat) (w : World) (hn : n ≤ 16) (hk : k ≤ 16) :
    Calls Try.prog 20 #[.int .i64 (n : Int), .int .i64 (k : Int)] w fun e w' => e = .returned (.tuple #[.int .i64 ((cho n k : Nat) : Int), .int .i64 0]) ∧ w = w' := by
  go_enter Try.func20, Try.ntmps20
  go_wp2_with fail
  refine (inBits_yes _ _ (by omega) (by omega)).mono ?_
  rintro e w' ⟨rfl, rfl⟩
  go_wp2_with fail
  refine (inBits_yes _ _ (by omega) (by omega)).mono ?_
  rintro e w' ⟨rfl, rfl⟩
  go_wp2_with fail
  refine (choose_ok n k _ hn hk).mono ?_
  rintro e w' ⟨rfl, rfl⟩
  go_wp2
  go_ret2
  exact ⟨rfl, rfl⟩
theorem chooseF_bad (n k : Int) (w : World) (h : (n < 0 ∨ 16 < n) ∨ (k < 0 ∨ 16 < k)) :
    Calls Try.prog 20 #[.int .i64 n, .int .i64 k] w fun e w' => e = .returned (.tuple #[.int .i64 0, .int .i64 1]) ∧ w = w' := by
  by_cases h1 : n < 0 ∨ 16 < n
  · go_enter Try.func20, Try.ntmps20
    go_wp2_with fail
    refine (inBits_no _ _ h1).mono ?_
    rintro e w' ⟨rfl, rfl⟩
    go_wp2
    go_ret2
    exact ⟨rfl, rfl⟩
  · have h2 : k < 0 ∨ 16 < k := h.resolve_left h1
    go_enter Try.func20, Try.ntmps20
    go_wp2_with fail
    refine (inBits_yes _ _ (by omega) (by omega)).mono ?_
    rintro e w' ⟨rfl, rfl⟩
    go_wp2_with fail
    refine (inBits_no _ _ h2).mono ?_
    rintro e w' ⟨rfl, rfl⟩
    go_wp2
    go_ret2
    exact ⟨rfl, rfl⟩

theorem chooseF_of (N K : Int) (n k : Nat) (hN : N = n) (hK : K = k) (w : World) (hn : n ≤ 16) (hk : k ≤ 16) :
    Calls Try.prog 20 #[.int .i64 N, .int .i64 K] w fun e w' => e = .returned (.tuple #[.int .i64 ((cho n k : Nat) : Int), .int .i64 0]) ∧ w = w' := by
  subst hN
  subst hK
  exact chooseF_ok n k w hn hk

end Go.Proofs.Ytaklchehamkgcaa
