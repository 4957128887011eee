/-
  package subset: following, Next.
-/
import Derived.Test.YtnoacmnhinoohaaDoorSubC
namespace Go.Proofs.YtnoacmnhinoohaaDoor
open Go.RowKit

/-- s &^ moved: the run. -/
theorem run_off (a b c : Nat) (hab : a + b < 16) (hv : 2 ^ (a + b + 1) * (2 * c + 1) < 4294967296) :
    (2 ^ (a + b + 2) * c + 2 ^ a * (2 ^ (b + 1) - 1)) &&& (4294967295 - 2 ^ (a + b + 1) * (2 * c + 1)) = 2 ^ a * (2 ^ (b + 1) - 1) := by
  have hR : 2 ^ a * (2 ^ (b + 1) - 1) < 2 ^ (a + b + 1) := by
    have h1 : 2 ^ a * (2 ^ (b + 1) - 1) < 2 ^ a * 2 ^ (b + 1) := Nat.mul_lt_mul_of_pos_left (by have := Nat.two_pow_pos (b + 1); omega) (Nat.two_pow_pos a)
    rwa [← Nat.pow_add, show a + (b + 1) = a + b + 1 by omega] at h1
  have e1 : 2 ^ (a + b + 2) * c = 2 ^ (a + b + 1) * (2 * c) := by rw [Nat.pow_succ, Nat.mul_assoc]
  have e2 : 4294967295 - 2 ^ (a + b + 1) * (2 * c + 1) = 2 ^ 32 - (2 ^ (a + b + 1) * (2 * c + 1) + 0 + 1) := by omega
  have hz := Nat.two_pow_pos (a + b + 1)
  rw [e1, e2]
  generalize 2 ^ a * (2 ^ (b + 1) - 1) = R at *
  generalize hn : a + b + 1 = n at *
  apply Nat.eq_of_testBit_eq
  intro i
  have e3 : (2 ^ n * (2 * c + 1)).testBit i = if i < n then (0 : Nat).testBit i else (2 * c + 1).testBit (i - n) := by
    have := Nat.testBit_two_pow_mul_add (2 * c + 1) hz i
    rwa [Nat.add_zero] at this
  rw [Nat.testBit_and, Nat.testBit_two_pow_sub_succ (by omega), Nat.testBit_two_pow_mul_add _ hR, Nat.add_zero, e3]
  by_cases hi : i < n
  · have h32 : i < 32 := by omega
    simp [hi, h32]
  · have h0 : R.testBit i = false := Nat.testBit_lt_two_pow (Nat.lt_of_lt_of_le hR (Nat.pow_le_pow_right (by omega) (by omega)))
    simp only [hi, if_false, h0]
    cases hj : i - n with
    | zero => simp [Nat.testBit_zero]
    | succ j =>
      rw [Nat.testBit_succ, Nat.testBit_succ, show (2 * c + 1) / 2 = c by omega, show 2 * c / 2 = c by omega]
      cases c.testBit j <;> simp

theorem run_low (a b c : Nat) : ∃ m, 2 ^ (a + b + 2) * c + 2 ^ a * (2 ^ (b + 1) - 1) = 2 ^ a * (2 * m + 1) := by
  obtain ⟨m, hm⟩ : ∃ m, 2 ^ (b + 1) = 2 * m + 2 := ⟨2 ^ b - 1, by have := Nat.two_pow_pos b; rw [Nat.pow_succ]; omega⟩
  refine ⟨2 ^ (b + 1) * c + m, ?_⟩
  rw [show a + b + 2 = a + ((b + 1) + 1) by omega, Nat.pow_add, Nat.mul_assoc, ← Nat.mul_add, hm, Nat.pow_succ, hm]
  congr 1
  rw [Nat.mul_right_comm]
  omega
theorem low_bit {a m s : Nat} (hs : s = 2 ^ a * (2 * m + 1)) (h : s < 4294967296) : bits .and .u32 (s : Int) (-(s : Int) % 4294967296) = ((2 ^ a : Nat) : Int) := by
  have h1 := Lib.and_neg 32 a m
  rw [← hs] at h1
  have h2 := h1 h
  have h3 : 0 < s := by rw [hs]; exact Nat.mul_pos (Nat.two_pow_pos a) (by omega)
  rw [show 2 ^ 32 = 4294967296 from rfl] at h2
  rw [show (-(s : Int)) % 4294967296 = ((4294967296 - s : Nat) : Int) by omega, u32_and_nat _ _ h (by omega), h2]

set_option maxHeartbeats 400000 in
theorem following_at (s A v r b B t : Nat) (w : World) (h1 : bits .and .u32 (s : Int) (-(s : Int) % 4294967296) = (A : Int)) (hv : s + A = v) (hs : s < 65536) (hA : A ≤ s) (h2 : bits .andNot .u32 (s : Int) ((s : Int) + (A : Int)) = (r : Int)) (hr : r < 65536) (HO : Hid (ones r = b + 1)) (hb : b < 16)
    (h3 : (2 : Int) ^ b = (B : Int)) (hB : 0 < B) (hB2 : B < 65536) (HT : Hid (v ||| (B - 1) = t)) :
    Calls Tryd.prog 22 #[.int .u32 (s : Int)] w fun e w' => e = .returned (.int .u32 (t : Int)) ∧ Below w.heap.size w w' := by
  have HV := hid hv
  clear hv
  have H3 := hid h3
  clear h3
  go_enter Tryd.func22, Tryd.ntmps22
  go_wp2_with fail
  refine (onesCount32_any r _ (by omega)).mono ?_
  rintro e w' ⟨rfl, hbel⟩
  rw [HO.out]
  have HB := hid hbel
  clear hbel h1 h2
  have h4 : ((b + 1 : Nat) : Int) - 1 = (b : Int) := by omega
  go_wp2
  go_ret
  refine ⟨sret_int ?_, HB.out⟩
  have hv := HV.out
  rw [H3.out, show ((B : Int) - 1) % 4294967296 = ((B - 1 : Nat) : Int) by omega, show (s : Int) + (A : Int) = (v : Int) by omega, u32_or_nat _ _ (by omega) (by omega), HT.out]

theorem following_any (a b c : Nat) (w : World) (hab : a + b < 16) (h : 2 ^ (a + b + 2) * c + 2 ^ a * (2 ^ (b + 1) - 1) < 65536) :
    Calls Tryd.prog 22 #[.int .u32 ((2 ^ (a + b + 2) * c + 2 ^ a * (2 ^ (b + 1) - 1) : Nat) : Int)] w fun e w' => e = .returned (.int .u32 ((nxt a b c : Nat) : Int)) ∧ Below w.heap.size w w' := by
  have hm := moved_eq a b c
  have ho : ones (2 ^ a * (2 ^ (b + 1) - 1)) = b + 1 := by rw [ones_mul, ones_full]
  obtain ⟨m, hl⟩ := run_low a b c
  have hA : 2 ^ a ≤ 2 ^ (a + b + 2) * c + 2 ^ a * (2 ^ (b + 1) - 1) := by rw [hl]; exact Nat.le_mul_of_pos_right _ (by omega)
  have hlow := low_bit hl (by omega)
  have hr := run_off a b c hab (by omega)
  have ht : 2 ^ (a + b + 1) * (2 * c + 1) ||| (2 ^ b - 1) = nxt a b c := or_low _ _ _ (low_lt a b)
  have hb16 : 2 ^ b < 2 ^ 16 := Nat.pow_lt_pow_right (by omega) (by omega)
  have hbp := Nat.two_pow_pos b
  have hp := pow_int b
  generalize nxt a b c = t at *
  generalize 2 ^ b = B at hb16 hbp hp ht
  clear hl
  generalize 2 ^ (a + b + 1) * (2 * c + 1) = v at *
  have hlt : 2 ^ a * (2 ^ (b + 1) - 1) < 65536 := by omega
  generalize 2 ^ a * (2 ^ (b + 1) - 1) = r at *
  generalize 2 ^ (a + b + 2) * c + r = s at *
  generalize 2 ^ a = A at *
  refine following_at s A v r b B t w hlow hm h hA ?_ hlt ho (by omega) hp hbp hb16 ht
  rw [show (s : Int) + (A : Int) = (v : Int) by omega, u32_andNot_nat _ _ (by omega) (by omega), hr]

/-! ### At, whatever comes -/

theorem subAt_no (k r : Int) (w : World) (h : ¬ (0 ≤ k ∧ k ≤ 16 ∧ 0 ≤ r ∧ r < ((cho 16 k.toNat : Nat) : Int))) :
    Calls Tryd.prog 9 #[.int .i64 k, .int .i64 r] w fun e w' => e = .returned (.tuple #[.int .u16 0, .int .i64 1]) ∧ w = w' := by
  by_cases h1 : (k < 0 ∨ 16 < k) ∨ r < 0
  · exact subAt_bad k r w h1
  · obtain ⟨K, rfl⟩ := Int.eq_ofNat_of_zero_le (show 0 ≤ k by omega)
    rw [Int.toNat_natCast] at h
    exact subAt_over K r w (by omega) (by omega) (by omega)

set_option maxHeartbeats 400000 in
theorem subsets_any (w : World) (ht : Tab w) : Calls Tryd.prog 17 #[] w fun e w' => e = .returned (.bool true) ∧ w = w' := by
  have HT := hid ht
  clear ht
  have HA := hid (subAt_ok 2 4 w (by omega) (by decide))
  have HO := hid (subOf_any 10 w HT.out (by omega))
  rw [show unr 16 2 4 = 10 by decide] at HA
  rw [show srk 10 = 4 by decide] at HO
  go_enter Tryd.func17, Tryd.ntmps17
  go_wp2_with fail
  refine HA.out.mono ?_
  rintro e w' ⟨rfl, rfl⟩
  go_wp2_with fail
  refine HO.out.mono ?_
  rintro e w' ⟨rfl, rfl⟩
  go_wp2
  go_ret
  exact ⟨rfl, rfl⟩

/-! ### Next -/

theorem subNext_bad (s : Nat) (n : Int) (w : World) (h : n < 0 ∨ 16 < n) :
    Calls Tryd.prog 10 #[.int .u16 (s : Int), .int .i64 n] w fun e w' => e = .returned (.tuple #[.int .u16 0, .int .i64 1]) ∧ w = w' := by
  go_enter Tryd.func10, Tryd.ntmps10
  go_wp2_with fail
  refine (inBits_no _ _ h).mono ?_
  rintro e w' ⟨rfl, rfl⟩
  go_wp2
  go_ret2
  exact ⟨rfl, rfl⟩

theorem shr_zero {s n : Nat} (h : s < 2 ^ n) : ((s : Int) / 2 ^ n != 0) = false := by
  rw [pow_int, ← Int.natCast_ediv, Nat.div_eq_of_lt h]
  rfl
theorem shr_some {s n : Nat} (h : 2 ^ n ≤ s) : ((s : Int) / 2 ^ n != 0) = true := by
  rw [pow_int, ← Int.natCast_ediv]
  have := Nat.div_pos h (Nat.two_pow_pos n)
  simp only [bne_iff_ne, ne_eq]
  omega

set_option maxHeartbeats 400000 in
theorem subNext_over (s n : Nat) (w : World) (_hs : s < 65536) (hn : n ≤ 16) (h : 2 ^ n ≤ s) :
    Calls Tryd.prog 10 #[.int .u16 (s : Int), .int .i64 (n : Int)] w fun e w' => e = .returned (.tuple #[.int .u16 0, .int .i64 1]) ∧ w = w' := by
  have h1 := shr_some h
  clear h
  go_enter Tryd.func10, Tryd.ntmps10
  go_wp2_with fail
  refine (inBits_yes _ _ (by omega) (by omega)).mono ?_
  rintro e w' ⟨rfl, rfl⟩
  go_wp2
  go_ret2
  exact ⟨rfl, rfl⟩

set_option maxHeartbeats 800000 in
theorem subNext_none (s n : Nat) (w : World) (hs : s < 65536) (hn : n ≤ 16) (h : s < 2 ^ n) (hl : ¬ srk s + 1 < cho n (ones s)) :
    Calls Tryd.prog 10 #[.int .u16 (s : Int), .int .i64 (n : Int)] w fun e w' => e = .returned (.tuple #[.int .u16 0, .int .i64 4]) ∧ Below w.heap.size w w' := by
  have h1 := shr_zero h
  by_cases h0 : s = 0
  · subst h0
    clear hl h
    go_enter Tryd.func10, Tryd.ntmps10
    go_wp2_with fail
    refine (inBits_yes _ _ (by omega) (by omega)).mono ?_
    rintro e w' ⟨rfl, rfl⟩
    go_wp2
    go_ret2
    exact ⟨rfl, Below.refl _ _⟩
  · obtain ⟨a, b, c, habc, hab⟩ := run_part (n := n) (s := s) (by omega) h
    have HF := following_any a b c w (by omega)
    have hx := next_fits n a b c
    have h6 := nxt_16 (a := a) (b := b) (c := c)
    rw [← habc] at HF hx h6
    have HC := hid (HF hs)
    have hN := h6 hs
    clear habc HF h6
    generalize nxt a b c = t at *
    have h2 : 2 ^ n ≤ t := Nat.le_of_not_lt fun hh => hl (hx.1 hh)
    have h3 := shr_some h2
    have hne : ((s : Int) == 0) = false := by simp; omega
    clear hx h2 hl h
    go_enter Tryd.func10, Tryd.ntmps10
    go_wp2_with fail
    refine (inBits_yes _ _ (by omega) (by omega)).mono ?_
    rintro e w' ⟨rfl, rfl⟩
    go_wp2_with fail
    refine HC.out.mono ?_
    rintro e w' ⟨rfl, hbel⟩
    have HB := hid hbel
    clear hbel
    go_wp2
    go_ret2
    exact ⟨rfl, HB.out⟩

set_option maxHeartbeats 800000 in
theorem subNext_ok (s n : Nat) (w : World) (hs : s < 65536) (hn : n ≤ 16) (h : s < 2 ^ n) (hl : srk s + 1 < cho n (ones s)) :
    Calls Tryd.prog 10 #[.int .u16 (s : Int), .int .i64 (n : Int)] w fun e w' => e = .returned (.tuple #[.int .u16 ((unr n (ones s) (srk s + 1) : Nat) : Int), .int .i64 0]) ∧ Below w.heap.size w w' := by
  have h1 := shr_zero h
  have h0 : s ≠ 0 := by
    rintro rfl
    rw [ones_zero, cho_zero] at hl
    omega
  obtain ⟨a, b, c, habc, hab⟩ := run_part (n := n) (s := s) (by omega) h
  have HF := following_any a b c w (by omega)
  have hx := next_fits n a b c
  have h6 := nxt_16 (a := a) (b := b) (c := c)
  have h7 := nxt_ones a b c
  have h8 := nxt_srk a b c
  rw [← habc] at HF hx h6 h7 h8
  have HC := hid (HF hs)
  have hN := h6 hs
  clear habc HF h6
  have h2 := hx.2 hl
  have HU : Hid (nxt a b c = unr n (ones s) (srk s + 1)) := by
    obtain ⟨_, u2, u3⟩ := unr_ok hl
    exact srk_inj (h7.trans u2.symm) (h8.trans u3.symm)
  rw [← HU.out]
  have h2n : 2 ^ n ≤ 2 ^ 16 := Nat.pow_le_pow_right (by omega) hn
  generalize nxt a b c = t at *
  have h3 := shr_zero h2
  have h4 : t < 65536 := by omega
  have hne : ((s : Int) == 0) = false := by simp; omega
  clear hx h2 hl h h7 h8 h2n
  go_enter Tryd.func10, Tryd.ntmps10
  go_wp2_with fail
  refine (inBits_yes _ _ (by omega) (by omega)).mono ?_
  rintro e w' ⟨rfl, rfl⟩
  go_wp2_with fail
  refine HC.out.mono ?_
  rintro e w' ⟨rfl, hbel⟩
  have HB := hid hbel
  clear hbel
  go_wp2
  go_ret2
  exact ⟨rfl, HB.out⟩

end Go.Proofs.YtnoacmnhinoohaaDoor
