/-
  Proved: castkeep.SubsetWalk returns true whatever its arguments.
-/
import Derived.Test.YtnoacmnhinoohaaDoorSubD
import Derived.Test.YtnoacmnhinoohaaDoorAll
namespace Go.Proofs.YtnoacmnhinoohaaDoor
open Go.RowKit

set_option maxHeartbeats 2000000 in
set_option maxRecDepth 100000 in
theorem subsetWalk_any (K1 K2 : Int) (w : World) (ht : Tab w) :
    Calls Tryd.prog 7 #[.int .i64 K1, .int .i64 K2] w fun e w' => e = .returned (.bool true) ∧ Below w.heap.size w w' := by
  have HB0 := hid (Below.refl w.heap.size w)
  have HA0 : Hid (All w []) := trivial
  have HT0 := hid ht
  clear ht
  go_enter Tryd.func7, Tryd.ntmps7
  go_wp2_with fail
  refine (subsets_any _ HT0.out).mono ?_
  rintro e w' ⟨rfl, rfl⟩
  go_wp2_with fail
  refine (within_any K1 11 _ (by omega) (by omega)).mono ?_
  rintro e w' ⟨rfl, rfl⟩
  have hk1 := Int.emod_nonneg K1 (show (11 : Int) ≠ 0 by omega)
  have hk2 := Int.emod_lt_of_pos K1 (show (0 : Int) < 11 by omega)
  generalize K1 % 11 = N1 at hk1 hk2 ⊢
  obtain ⟨n, rfl⟩ := Int.eq_ofNat_of_zero_le hk1
  have hn : n ≤ 10 := by omega
  clear hk1 hk2
  go_wp2_with fail
  refine (within_any K2 ((n : Int) + 1) _ (by omega) (by omega)).mono ?_
  rintro e w' ⟨rfl, rfl⟩
  have hk1 := Int.emod_nonneg K2 (show (n : Int) + 1 ≠ 0 by omega)
  have hk2 := Int.emod_lt_of_pos K2 (show (0 : Int) < (n : Int) + 1 by omega)
  generalize K2 % ((n : Int) + 1) = N2 at hk1 hk2 ⊢
  obtain ⟨k, rfl⟩ := Int.eq_ofNat_of_zero_le hk1
  have hk : k ≤ n := by omega
  clear hk1 hk2
  go_wp2_with fail
  refine (chooseF_ok n k _ (by omega) (by omega)).mono ?_
  rintro e w' ⟨rfl, rfl⟩
  have hm1 := cho_pos hk
  have hm2 := cho_16 (n := n) (k := k) (by omega)
  have HPW : Hid (IntKind.u16.wrap ((2 : Int) ^ k) = ((2 ^ k : Nat) : Int)) := wrap_pow16 (by omega)
  have hp16 : 2 ^ k < 2 ^ 11 := Nat.pow_lt_pow_right (by omega) (by omega)
  have hpp := Nat.two_pow_pos k
  have HP16 := hid hp16
  have HPP := hid hpp
  have HO1 := hid (ones_full k)
  have HO2 : Hid (srk (2 ^ k - 1) = 0) := by rw [srk_sum, gsum_low]; exact rfl
  have HO3 : Hid (2 ^ k - 1 < 2 ^ n) := by have : 2 ^ k ≤ 2 ^ n := Nat.pow_le_pow_right (by omega) hk; show _ < _; omega
  have H2N : Hid (2 ^ n ≤ 1024) := show 2 ^ n ≤ 2 ^ 10 from Nat.pow_le_pow_right (by omega) hn
  have HQ0 : Hid (∃ q0 : Nat, q0 = 2 ^ k - 1 ∧ q0 < 2 ^ n ∧ ones q0 = k ∧ srk q0 = 0 ∧ ((2 ^ k : Nat) : Int) = q0 + 1) := ⟨2 ^ k - 1, rfl, HO3.out, HO1.out, HO2.out, by omega⟩
  clear HP16 HPP HO1 HO2 HO3 hp16 hpp
  obtain ⟨q0, _, hq1, hq2, hq3, hq4⟩ := HQ0.out
  have HQ1 := hid hq1
  have HQ2 := hid hq2
  have HQ3 := hid hq3
  have HQ4 := hid hq4
  clear hq1 hq2 hq3 hq4 HQ0
  generalize hM : cho n k = M at *
  have HM := hid hM
  clear hM
  have HB := hid HB0.out
  go_wp2_with fail
  go_loopg [7, 33] M (fun g v s wr => ∃ j q : Nat, j + 1 ≤ M ∧ M - 1 - j ≤ g ∧ s = .int .i64 j ∧ v = .int .u16 (q : Int) ∧ q < 2 ^ n ∧ ones q = k ∧ srk q = j ∧ Below w.heap.size w wr)
  case atStart => exact ⟨0, q0, by omega, by omega, rfl, by rw [HPW.out, HQ4.out, IntKind.wrap_u16]; have h1 := HQ1.out; have h2 := H2N.out; congr 1; omega, HQ1.out, HQ2.out, HQ3.out, HB.out⟩
  case round =>
    obtain ⟨j, q, hj, hg, rfl, rfl, hq, ho, hr, hbel⟩ := hrel
    have HQ := hid hq
    have HO := hid ho
    have HR := hid hr
    have HBL := hid hbel
    have hT := HT0.out.keep hbel
    have HT := hid hT
    have hq16 : q < 65536 := by have := H2N.out; omega
    clear hq ho hr hbel hT
    by_cases hlt : j + 1 < M
    · have hlt2 : (j : Int) < (M : Int) - 1 := by omega
      have HL : Hid (srk q + 1 < cho n (ones q)) := by rw [HO.out, HR.out, HM.out]; exact hlt
      go_wp2_with fail
      refine (subNext_ok q n _ hq16 (by omega) HQ.out HL.out).mono ?_
      rintro e w5 ⟨rfl, hb5⟩
      have HB5 := hid (below_step HBL.out (Nat.le_refl _) hb5)
      obtain ⟨u1, u2, u3⟩ := unr_ok HL.out
      have HU1 := hid u1
      have HU2 : Hid (ones (unr n (ones q) (srk q + 1)) = k) := u2.trans HO.out
      have HU3 : Hid (srk (unr n (ones q) (srk q + 1)) = j + 1) := by rw [u3, HR.out]; exact rfl
      have HUO := hid u2
      clear u1 u2 u3 hb5
      generalize unr n (ones q) (srk q + 1) = x at *
      have hx16 : x < 65536 := by have := H2N.out; have := HU1.out; omega
      have hgt : q < x := (srk_iff HUO.out.symm).2 (by rw [HU3.out, HR.out]; omega)
      have hng : ¬ (x : Int) ≤ (q : Int) := by omega
      go_wp2_with fail
      refine (size_any x _ hx16).mono ?_
      rintro e w6 ⟨rfl, hb6⟩
      have HB6 := hid (below_step HB5.out (Nat.le_refl _) hb6)
      clear hb6
      rw [HU2.out]
      go_wp2
      go_roundg (M - 1 - (j + 1))
      case measure => omega
      case rel => exact ⟨j + 1, x, by omega, by omega, by go_num, rfl, HU1.out, HU2.out, HU3.out, HB6.out⟩
    · have hge : ¬ ((j : Int) < (M : Int) - 1) := by omega
      have HL : Hid (¬ srk q + 1 < cho n (ones q)) := by rw [HO.out, HR.out, HM.out]; exact hlt
      go_wp2_with fail
      refine (subNext_none q n _ hq16 (by omega) HQ.out HL.out).mono ?_
      rintro e w5 ⟨rfl, hb5⟩
      have HB5 := hid (below_step HBL.out (Nat.le_refl _) hb5)
      clear hb5
      go_wp2
      go_ret
      exact ⟨rfl, HB5.out⟩

end Go.Proofs.YtnoacmnhinoohaaDoor
