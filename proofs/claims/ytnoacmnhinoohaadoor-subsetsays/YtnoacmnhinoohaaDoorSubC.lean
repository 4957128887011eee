/-
  package subset: Size, Of, At.
-/
import Derived.Test.YtnoacmnhinoohaaDoorSubB
namespace Go.Proofs.YtnoacmnhinoohaaDoor
open Go.RowKit

theorem wrap_pow16 {e : Nat} (h : e < 16) : IntKind.u16.wrap ((2 : Int) ^ e) = ((2 ^ e : Nat) : Int) := by
  have h1 : 2 ^ e < 2 ^ 16 := Nat.pow_lt_pow_right (by omega) h
  rw [IntKind.wrap_u16, pow_int]
  generalize 2 ^ e = z at *
  omega
theorem wrap_pow32 {e : Nat} (h : e < 32) : IntKind.u32.wrap ((2 : Int) ^ e) = ((2 ^ e : Nat) : Int) := by
  have h1 : 2 ^ e < 2 ^ 32 := Nat.pow_lt_pow_right (by omega) h
  rw [IntKind.wrap_u32', pow_int]
  generalize 2 ^ e = z at *
  omega

set_option maxHeartbeats 400000 in
theorem size_any (s : Nat) (w : World) (hs : s < 65536) :
    Calls Tryd.prog 11 #[.int .u16 (s : Int)] w fun e w' => e = .returned (.int .i64 ((ones s : Nat) : Int)) ∧ Below w.heap.size w w' := by
  go_enter Tryd.func11, Tryd.ntmps11
  go_wp2_with fail
  refine (onesCount16_any s _ hs).mono ?_
  rintro e w' ⟨rfl, hb⟩
  have HB := hid hb
  clear hb
  go_wp2
  go_ret
  exact ⟨rfl, HB.out⟩

set_option maxHeartbeats 1600000 in
theorem subOf_any (s : Nat) (w : World) (ht : Tab w) (hs : s < 65536) :
    Calls Tryd.prog 13 #[.int .u16 (s : Int)] w fun e w' => e = .returned (.int .i64 ((srk s : Nat) : Int)) ∧ w = w' := by
  have HR := hid (srk_sum s)
  have HO := hid (ones_le (n := 16) hs)
  have HL := hid (srk_le s)
  have HT := hid ht
  clear ht
  go_enter Tryd.func13, Tryd.ntmps13
  go_wp2
  go_loopg [0, 3, 4] 65536 (fun g u i z wr => ∃ q j x : Nat, q < 65536 ∧ q ≤ g ∧ u = .int .u16 (q : Int) ∧ i = .int .i64 (x : Int) ∧ z = .int .i64 ((j : Int) + 1) ∧ w = wr ∧ x + gsum 0 j q = srk s ∧ j + ones q = ones s)
  case atStart => exact ⟨s, 0, 0, hs, by omega, rfl, rfl, rfl, rfl, by rw [HR.out, Nat.zero_add], by omega⟩
  case round =>
    obtain ⟨q, j, x, hq, hg, rfl, rfl, rfl, rfl, hsum, hone⟩ := hrel
    by_cases h0 : q = 0
    · subst h0
      have HX : Hid (x = srk s) := by rw [← hsum, gsum_zero]; exact rfl
      clear hsum hone
      go_wp2
      go_ret
      exact ⟨sret_int (by rw [HX.out]), rfl⟩
    · have hne : ((q : Int) != 0) = true := by simp; omega
      obtain ⟨a, c, hac, ha⟩ := odd_part (n := 16) (s := q) (by omega) hq
      have HAC := hid hac
      clear hac
      have hpos := ones_pos (s := q) (by omega)
      have hS : ones s ≤ 16 := HO.out
      have hj : j + 1 ≤ 16 := by omega
      have h1 := gsum_off a c j
      have h2 := ones_off a c
      have h3 : bits .and .u16 (q : Int) ((q : Int) - 1) = ((2 ^ (a + 1) * c : Nat) : Int) := by
        rw [show ((q : Int) - 1) = ((q - 1 : Nat) : Int) by omega, u16_and_nat _ _ hq (by omega), HAC.out, low_off]
      have h4 : 2 ^ (a + 1) * c < q := by
        have e : 2 ^ a * (2 * c + 1) = 2 ^ (a + 1) * c + 2 ^ a := by rw [Nat.mul_add, Nat.mul_one, Nat.pow_succ, Nat.mul_assoc]
        have := Nat.two_pow_pos a
        rw [HAC.out]
        omega
      rw [← HAC.out] at h1 h2
      have HX : Hid (x + cho a (j + 1) + gsum 0 (j + 1) (2 ^ (a + 1) * c) = srk s) := by rw [h1] at hsum; show _ = _; omega
      have HY : Hid (j + 1 + ones (2 ^ (a + 1) * c) = ones s) := by show _ = _; omega
      have hb : x + cho a (j + 1) ≤ 65536 := by have := HX.out; have := HL.out; omega
      clear hsum hone h1 h2
      generalize 2 ^ (a + 1) * c = q2 at *
      have HT2 := trailingZeros16_any a c w HT.out
      rw [← HAC.out] at HT2
      have HTZ := hid (HT2 hq)
      clear HT2
      generalize hcc : cho a (j + 1) = cc at *
      have HCC := hid hcc
      clear hcc
      go_wp2_with fail
      refine HTZ.out.mono ?_
      rintro e w' ⟨rfl, rfl⟩
      go_wp2_with fail
      refine (choose_ok a (j + 1) _ (by omega) hj).mono ?_
      rintro e w' ⟨rfl, rfl⟩
      rw [HCC.out]
      go_wp2
      go_roundg q2
      case measure => omega
      case rel => exact ⟨q2, j + 1, x + cc, by omega, by omega, rfl, by go_num, by go_num, rfl, HX.out, HY.out⟩

theorem subAt_bad (k r : Int) (w : World) (h : (k < 0 ∨ 16 < k) ∨ r < 0) :
    Calls Tryd.prog 9 #[.int .i64 k, .int .i64 r] w fun e w' => e = .returned (.tuple #[.int .u16 0, .int .i64 1]) ∧ w = w' := by
  by_cases h1 : k < 0 ∨ 16 < k
  · go_enter Tryd.func9, Tryd.ntmps9
    go_wp2_with fail
    refine (inBits_no _ _ h1).mono ?_
    rintro e w' ⟨rfl, rfl⟩
    go_wp2
    go_ret2
    exact ⟨rfl, rfl⟩
  · have h2 : r < 0 := h.resolve_left h1
    go_enter Tryd.func9, Tryd.ntmps9
    go_wp2_with fail
    refine (inBits_yes _ _ (by omega) (by omega)).mono ?_
    rintro e w' ⟨rfl, rfl⟩
    go_wp2
    go_ret2
    exact ⟨rfl, rfl⟩
theorem subAt_over (k : Nat) (r : Int) (w : World) (hk : k ≤ 16) (h0 : 0 ≤ r) (h : ((cho 16 k : Nat) : Int) ≤ r) :
    Calls Tryd.prog 9 #[.int .i64 (k : Int), .int .i64 r] w fun e w' => e = .returned (.tuple #[.int .u16 0, .int .i64 1]) ∧ w = w' := by
  go_enter Tryd.func9, Tryd.ntmps9
  go_wp2_with fail
  refine (inBits_yes _ _ (by omega) (by omega)).mono ?_
  rintro e w' ⟨rfl, rfl⟩
  go_wp2_with fail
  refine (choose_ok 16 k _ (by omega) hk).mono ?_
  rintro e w' ⟨rfl, rfl⟩
  go_wp2
  go_ret2
  exact ⟨rfl, rfl⟩

def AtInv (k r e k2 r2 s2 : Nat) : Prop := (∃ q, s2 = 2 ^ e * q) ∧ s2 + unr e k2 r2 = unr 16 k r

set_option maxHeartbeats 1600000 in
theorem subAt_ok (k r : Nat) (w : World) (hk : k ≤ 16) (h : r < cho 16 k) :
    Calls Tryd.prog 9 #[.int .i64 (k : Int), .int .i64 (r : Int)] w fun e w' => e = .returned (.tuple #[.int .u16 ((unr 16 k r : Nat) : Int), .int .i64 0]) ∧ w = w' := by
  have hr := cho_16 (n := 16) (k := k) (by omega)
  have HU := hid (unr_ok h).1
  have hd1 : decide ((r : Int) < 0) = false := decide_eq_false (by omega)
  have hd2 : decide (cho 16 k ≤ r) = false := decide_eq_false (by omega)
  go_enter Tryd.func9, Tryd.ntmps9
  go_wp2_with fail
  refine (inBits_yes _ _ (by omega) (by omega)).mono ?_
  rintro e w' ⟨rfl, rfl⟩
  go_wp2_with fail
  refine (choose_ok 16 k _ (by omega) hk).mono ?_
  rintro e w' ⟨rfl, rfl⟩
  have hr2 : r ≤ 65536 := by omega
  clear h hr
  go_wp2
  clear hd1 hd2
  go_loopg [0, 1, 6, 7] 16 (fun g a b c d wr => ∃ e k2 r2 s2 : Nat, e ≤ 16 ∧ e ≤ g ∧ k2 ≤ 16 ∧ r2 ≤ 65536 ∧ a = .int .i64 (k2 : Int) ∧ b = .int .i64 (r2 : Int) ∧ c = .int .u16 (s2 : Int) ∧ d = .int .i64 ((e : Int) - 1) ∧ w = wr ∧ AtInv k r e k2 r2 s2)
  case atStart => exact ⟨16, k, r, 0, by omega, by omega, hk, hr2, rfl, rfl, rfl, rfl, rfl, ⟨0, rfl⟩, by omega⟩
  case round =>
    obtain ⟨e, k2, r2, s2, he, hg, hk2, hr2, rfl, rfl, rfl, rfl, rfl, hinv⟩ := hrel
    have HI := hid hinv
    clear hinv
    by_cases hend : e = 0 ∨ k2 = 0
    · have HX : Hid (s2 = unr 16 k r) := by
        have := HI.out.2
        rcases hend with rfl | rfl
        · exact this
        · rw [unr_none] at this; exact this
      rcases hend with rfl | rfl
      all_goals
        go_wp2
        all_goals
          go_ret2
          exact ⟨by rw [HX.out]; rfl, rfl⟩
    · obtain ⟨e, rfl⟩ : ∃ x, e = x + 1 := ⟨e - 1, by omega⟩
      obtain ⟨k2, rfl⟩ : ∃ x, k2 = x + 1 := ⟨k2 - 1, by omega⟩
      clear hend
      have hc := cho_16 (n := e) (k := k2 + 1) (by omega)
      have HC := hid (choose_ok e (k2 + 1) w (by omega) hk2)
      have h0 : (0 : Int) ≤ (e : Int) + 1 - 1 := by omega
      have HI2 : Hid (∀ r3, (cho e (k2 + 1) ≤ r2 → r3 = r2 - cho e (k2 + 1) → AtInv k r e k2 r3 (s2 + 2 ^ e)) ∧ (r2 < cho e (k2 + 1) → AtInv k r e (k2 + 1) r2 s2)) := by
        obtain ⟨⟨q, hq⟩, hsum⟩ := HI.out
        rw [unr] at hsum
        have e2 : 2 ^ (e + 1) * q = 2 ^ e * (2 * q) := by rw [Nat.pow_succ, Nat.mul_assoc]
        intro r3
        refine ⟨fun h1 h2 => ⟨⟨2 * q + 1, by rw [hq, e2, Nat.mul_add, Nat.mul_one]⟩, ?_⟩, fun h1 => ⟨⟨2 * q, by rw [hq, e2]⟩, ?_⟩⟩
        · rw [if_pos h1] at hsum
          rw [h2]
          omega
        · rw [if_neg (by omega)] at hsum
          exact hsum
      have HS : Hid (s2 ||| 2 ^ e = s2 + 2 ^ e) := by
        obtain ⟨⟨q, hq⟩, _⟩ := HI.out
        have := or_low (e + 1) q (2 ^ e) (Nat.pow_lt_pow_right (by omega) (by omega))
        rw [hq]
        exact this
      have HS2 : Hid (s2 < 65536) := by
        have h1 := HI.out.2
        have h2 := HU.out
        show s2 < 65536
        omega
      have HE17 : Hid (2 ^ e < 65536) := show 2 ^ e < 2 ^ 16 from Nat.pow_lt_pow_right (by omega) (by omega)
      have HE16 : Hid (IntKind.u16.wrap ((2 : Int) ^ e) = ((2 ^ e : Nat) : Int)) := wrap_pow16 (by omega)
      generalize hcc : cho e (k2 + 1) = cc at *
      have HCC := hid hcc
      clear hcc
      by_cases hge : cc ≤ r2
      · have hge2 : (cc : Int) ≤ (r2 : Int) := by omega
        go_wp2_with fail
        refine (choose_ok e (k2 + 1) _ (by omega) hk2).mono ?_
        rintro e5 w' ⟨rfl, rfl⟩
        rw [HCC.out]
        go_wp2
        go_roundg e
        case measure => omega
        case rel => exact ⟨e, k2, r2 - cc, s2 + 2 ^ e, by omega, by omega, by omega, by omega, by go_num, by go_num, by rw [HE16.out, u16_or_nat _ _ HS2.out HE17.out, HS.out], by go_num, rfl, (HI2.out _).1 hge rfl⟩
      · have hge2 : ¬ (cc : Int) ≤ (r2 : Int) := by omega
        go_wp2_with fail
        refine (choose_ok e (k2 + 1) _ (by omega) hk2).mono ?_
        rintro e5 w' ⟨rfl, rfl⟩
        rw [HCC.out]
        go_wp2
        go_roundg e
        case measure => omega
        case rel => exact ⟨e, k2 + 1, r2, s2, by omega, by omega, by omega, by omega, by go_num, by go_num, by go_num, by go_num, rfl, (HI2.out 0).2 (by omega)⟩

end Go.Proofs.YtnoacmnhinoohaaDoor
