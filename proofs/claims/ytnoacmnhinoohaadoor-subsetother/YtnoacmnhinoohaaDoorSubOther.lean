/-
  Proved: castkeep.SubsetOther returns true whatever its arguments.
-/
import Derived.Test.YtnoacmnhinoohaaDoorSubD
import Derived.Test.YtnoacmnhinoohaaDoorAll
namespace Go.Proofs.YtnoacmnhinoohaaDoor
open Go.RowKit

theorem mask16 {n : Nat} (h : n ≤ 16) : IntKind.u16.wrap (IntKind.u16.wrap ((2 : Int) ^ n) - 1) = ((2 ^ n - 1 : Nat) : Int) := by
  have h1 : 2 ^ n ≤ 2 ^ 16 := Nat.pow_le_pow_right (by omega) h
  have h2 := Nat.two_pow_pos n
  rw [IntKind.wrap_u16, IntKind.wrap_u16, pow_int]
  generalize 2 ^ n = z at *
  omega
theorem and_mask16 {s n : Nat} (hs : s < 65536) (h : n ≤ 16) : bits .and .u16 (s : Int) ((2 ^ n - 1 : Nat) : Int) = ((s % 2 ^ n : Nat) : Int) := by
  have h1 : 2 ^ n ≤ 2 ^ 16 := Nat.pow_le_pow_right (by omega) h
  rw [u16_and_nat _ _ hs (by omega), Nat.and_two_pow_sub_one_eq_mod]
theorem not16 {r : Nat} (hr : r < 65536) : bits .xor .u16 IntKind.u16.max (r : Int) = ((65535 - r : Nat) : Int) := by
  rw [show IntKind.u16.max = ((65535 : Nat) : Int) from rfl, u16_xor_nat _ _ (by omega) hr]
  have : (65535 ^^^ r) = 65535 - r := by
    have e : 65535 - r = 2 ^ 16 - (r + 1) := by omega
    rw [e]
    apply Nat.eq_of_testBit_eq
    intro i
    rw [Nat.testBit_xor, Nat.testBit_two_pow_sub_succ (by omega), show (65535 : Nat) = 2 ^ 16 - 1 from rfl, Nat.testBit_two_pow_sub_one]
    by_cases hi : i < 16
    · simp [hi]
    · have h0 : r.testBit i = false := Nat.testBit_lt_two_pow (Nat.lt_of_lt_of_le (show r < 2 ^ 16 from hr) (Nat.pow_le_pow_right (by omega) (by omega)))
      simp [hi, h0]
  rw [this]
theorem not_mask16 {r n : Nat} (hr : r < 2 ^ n) (h : n ≤ 16) : bits .and .u16 ((65535 - r : Nat) : Int) ((2 ^ n - 1 : Nat) : Int) = ((2 ^ n - 1 - r : Nat) : Int) := by
  rw [and_mask16 (by omega) h]
  obtain ⟨d, hd⟩ : ∃ d, 65536 = 2 ^ n * (d + 1) := by
    refine ⟨2 ^ (16 - n) - 1, ?_⟩
    have := Nat.two_pow_pos (16 - n)
    rw [Nat.sub_add_cancel this, ← Nat.pow_add, show n + (16 - n) = 16 by omega]
  have e : 65535 - r = 2 ^ n * d + (2 ^ n - 1 - r) := by rw [Nat.mul_add, Nat.mul_one] at hd; omega
  rw [e, Nat.mul_add_mod, Nat.mod_eq_of_lt (by omega)]

set_option maxHeartbeats 2000000 in
set_option maxRecDepth 100000 in
theorem subsetOther_any (s : Nat) (K1 : Int) (w : World) (ht : Tab w) (hs : s < 65536) :
    Calls Tryd.prog 6 #[.int .u16 (s : Int), .int .i64 K1] w fun e w' => e = .returned (.bool true) ∧ Below w.heap.size w w' := by
  have HB0 := hid (Below.refl w.heap.size w)
  have HA0 : Hid (All w []) := trivial
  have HT0 := hid ht
  clear ht
  go_enter Tryd.func6, Tryd.ntmps6
  go_wp2_with fail
  refine (subsets_any _ HT0.out).mono ?_
  rintro e w' ⟨rfl, rfl⟩
  go_wp2_with fail
  refine (within_any K1 17 _ (by omega) (by omega)).mono ?_
  rintro e w' ⟨rfl, rfl⟩
  have hk1 := Int.emod_nonneg K1 (show (17 : Int) ≠ 0 by omega)
  have hk2 := Int.emod_lt_of_pos K1 (show (0 : Int) < 17 by omega)
  generalize K1 % 17 = N1 at hk1 hk2 ⊢
  obtain ⟨n, rfl⟩ := Int.eq_ofNat_of_zero_le hk1
  have hn : n ≤ 16 := by omega
  clear hk1 hk2
  have H1 := hid (mask16 hn)
  have H2 := hid (and_mask16 hs hn)
  have hp := Nat.two_pow_pos n
  have hp2 : 2 ^ n ≤ 2 ^ 16 := Nat.pow_le_pow_right (by omega) hn
  have hr : s % 2 ^ n < 2 ^ n := Nat.mod_lt _ hp
  have H3 := hid (not16 (show s % 2 ^ n < 65536 by omega))
  have H4 := hid (not_mask16 hr hn)
  obtain ⟨i1, i2⟩ := other hr
  have hlen := ones_le hr
  have H5 : Hid (cho n (ones (2 ^ n - 1 - s % 2 ^ n)) = cho n (ones (s % 2 ^ n))) := by rw [show ones (2 ^ n - 1 - s % 2 ^ n) = n - ones (s % 2 ^ n) by omega]; exact cho_turn hlen
  have hr16 : s % 2 ^ n < 65536 := by omega
  have ho16 : 2 ^ n - 1 - s % 2 ^ n < 65536 := by omega
  have hlo : ones (2 ^ n - 1 - s % 2 ^ n) ≤ 16 := by omega
  have hlr : ones (s % 2 ^ n) ≤ 16 := by omega
  have hc16 := cho_16 (n := n) (k := ones (s % 2 ^ n)) (by omega)
  clear hlen hr hp hp2
  go_wp2_with fail
  rw [H1.out, H2.out, H3.out, H4.out]
  clear H1 H2 H3 H4
  generalize s % 2 ^ n = r at *
  generalize 2 ^ n - 1 - r = o at *
  refine (size_any r _ hr16).mono ?_
  rintro e w1 ⟨rfl, hb⟩
  have HB1 := hid (below_step HB0.out (Nat.le_refl _) hb)
  have HA1 : Hid (All w1 []) := HA0.out.keep hb
  clear HA0 HB0
  have HT1 := hid (HT0.out.keep hb)
  clear HT0
  clear hb
  go_wp2_with fail
  refine (chooseF_ok n (ones r) _ hn hlr).mono ?_
  rintro e w' ⟨rfl, rfl⟩
  go_wp2_with fail
  refine (size_any o _ ho16).mono ?_
  rintro e w2 ⟨rfl, hb⟩
  have HB2 := hid (below_step HB1.out (Nat.le_refl _) hb)
  have HA2 : Hid (All w2 []) := HA1.out.keep hb
  clear HA1 HB1
  have HT2 := hid (HT1.out.keep hb)
  clear HT1
  clear hb
  go_wp2_with fail
  refine (chooseF_ok n (ones o) _ hn hlo).mono ?_
  rintro e w' ⟨rfl, rfl⟩
  rw [H5.out]
  clear H5
  have e1 : ((ones r : Nat) : Int) + ((ones o : Nat) : Int) = (n : Int) := by omega
  have e2 : ((srk r : Nat) : Int) + ((srk o : Nat) : Int) = ((cho n (ones r) : Nat) : Int) - 1 := by omega
  have hb1 := srk_le r
  have hb2 := srk_le o
  have E1 := hid e1
  have E2 := hid e2
  clear e1 e2 i1 i2
  go_wp2_with fail
  refine (good_bel w2 _ _ 2 [0, 0] rfl rfl (by omega)).mono ?_
  rintro e w_good1 ⟨rfl, hb⟩
  have HB3 := hid (below_step HB2.out (Nat.le_refl _) hb)
  have HA3 : Hid (All w_good1 []) := HA2.out.keep hb
  clear HA2 HB2
  have HT3 := hid (HT2.out.keep hb)
  clear HT2
  clear hb
  rw [show allOK [0, 0] = true by decide]
  go_wp2_with fail
  refine (size_any r _ hr16).mono ?_
  rintro e w3 ⟨rfl, hb⟩
  have HB4 := hid (below_step HB3.out (Nat.le_refl _) hb)
  have HA4 : Hid (All w3 []) := HA3.out.keep hb
  clear HA3 HB3
  have HT4 := hid (HT3.out.keep hb)
  clear HT3
  clear hb
  go_wp2_with fail
  refine (size_any o _ ho16).mono ?_
  rintro e w4 ⟨rfl, hb⟩
  have HB5 := hid (below_step HB4.out (Nat.le_refl _) hb)
  have HA5 : Hid (All w4 []) := HA4.out.keep hb
  clear HA4 HB4
  have HT5 := hid (HT4.out.keep hb)
  clear HT4
  clear hb
  have e1 := E1.out
  go_wp2_with fail
  refine (subOf_any r _ HT5.out hr16).mono ?_
  rintro e w' ⟨rfl, rfl⟩
  go_wp2_with fail
  refine (subOf_any o _ HT5.out ho16).mono ?_
  rintro e w' ⟨rfl, rfl⟩
  have e2 := E2.out
  go_wp2
  go_ret
  exact ⟨rfl, HB5.out⟩

end Go.Proofs.YtnoacmnhinoohaaDoor
