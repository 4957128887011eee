/-
  Proved: castkeep.RankBack returns true whatever its arguments.
-/
import Derived.Test.YtclhglbkgjgafaaRankD
import Derived.Test.YtclhglbkgjgafaaAll
namespace Go.Proofs.Ytclhglbkgjgafaa
open Go.RowKit

set_option maxHeartbeats 2000000 in
set_option maxRecDepth 100000 in
theorem rankBack_any (A0 : Option Addr) (n0 c0 : Nat) (x0 : List Int) (K : Int) (w : World) (h0 : Ints w A0 n0 x0) (hc0 : n0 ≤ c0) (_hm0 : c0 ≤ maxLen) :
    Calls Try.prog 5 #[.slice A0 n0 c0, .int .i64 K] w fun e w' => e = .returned (.bool true) ∧ Below w.heap.size w w' := by
  unfold maxLen at _hm0
  obtain ⟨m, hm⟩ : ∃ m, m = min n0 10 := ⟨_, rfl⟩
  have hm10 : m ≤ 10 := by omega
  have HM := hid hm
  clear hm
  have hf := fact_ten hm10
  have hf1 := fact_pos m
  have HB0 := hid (Below.refl w.heap.size w)
  have HA0 : Hid (All w [(A0, n0, x0)]) := ⟨h0, trivial⟩
  clear h0
  go_enter Try.func5, Try.ntmps5
  go_wp2_with fail
  refine (ranks_any _).mono ?_
  rintro e w1 ⟨rfl, hb⟩
  have HB1 := hid (below_step HB0.out (Nat.le_refl _) hb)
  have HA1 : Hid (All w1 [(A0, n0, x0)]) := HA0.out.keep hb
  clear HA0 HB0
  clear hb
  go_wp2_with fail
  refine (permOf_ten A0 n0 c0 m x0 _ HA1.out.1 hc0 HM.out).mono ?_
  rintro e w2 ⟨A, c, p, rfl, hp, hI, hcap, hb⟩
  have HP := hid (hp)
  have HC := hid (hcap.1)
  have HB2 := hid (below_step HB1.out (Nat.le_refl _) hb)
  have HA2 : Hid (All w2 [(A, m, p), (A0, n0, x0)]) := ⟨hI, HA1.out.keep hb⟩
  clear HA1 HB1
  clear hb hI hcap hp
  have HL : Hid (p.length = m) := HA2.out.1.len
  have HE1 : Hid (permErr p = 0) := permErr_of HP.out (by rw [HL.out]; exact hm10)
  have hrk : rk p < fact m := by have := rk_lt p; rwa [HL.out] at this
  have HAT : Hid (atL m (rk p) = p) := by have := atL_rk HP.out; rw [HL.out] at this; exact this
  go_wp2_with fail
  refine (of_ok A m c p _ HA2.out.1 HE1.out HC.out).mono ?_
  rintro e w3 ⟨rfl, hb⟩
  have HB3 := hid (below_step HB2.out (Nat.le_refl _) hb)
  have HA3 : Hid (All w3 [(A, m, p), (A0, n0, x0)]) := HA2.out.keep hb
  clear HA2 HB2
  clear hb
  go_wp2_with fail
  refine (at_ok m (rk p) _ hm10 hrk).mono ?_
  rintro e w4 ⟨g4, rfl, hI, hb⟩
  rw [HAT.out] at hI
  have HB4 := hid (below_step HB3.out (Nat.le_refl _) hb)
  have HA4 : Hid (All w4 [((some ⟨g4, 0, none⟩ : Option Addr), m, p), (A, m, p), (A0, n0, x0)]) := ⟨hI, HA3.out.keep hb⟩
  clear HA3 HB3
  clear hb hI
  go_wp2_with fail
  refine (count_ok m _ hm10).mono ?_
  rintro e w' ⟨rfl, rfl⟩
  have HF := hid hf
  have HF1 := hid hf1
  have HRK := hid hrk
  have h5 : ((rk p : Nat) : Int) < ((fact m : Nat) : Int) := by omega
  clear hf hf1 hrk
  go_wp2_with fail
  refine (good_bel w4 _ _ 3 [0, 0, 0] rfl rfl (by omega)).mono ?_
  rintro e w_good1 ⟨rfl, hb⟩
  have HB5 := hid (below_step HB4.out (Nat.le_refl _) hb)
  have HA5 : Hid (All w_good1 [((some ⟨g4, 0, none⟩ : Option Addr), m, p), (A, m, p), (A0, n0, x0)]) := HA4.out.keep hb
  clear HA4 HB4
  clear hb
  rw [show allOK [0, 0, 0] = true by decide]
  go_wp2_with fail
  refine (equal_bel A m c _ m m p p _ HA5.out.2.1 HA5.out.1 (by omega) (by omega)).mono ?_
  rintro e w5 ⟨rfl, hb⟩
  have HB6 := hid (below_step HB5.out (Nat.le_refl _) hb)
  have HA6 : Hid (All w5 [((some ⟨g4, 0, none⟩ : Option Addr), m, p), (A, m, p), (A0, n0, x0)]) := HA5.out.keep hb
  clear HA5 HB5
  clear hb
  rw [decide_eq_true (rfl : p = p)]
  have hF2 := HF.out
  have hF3 := HF1.out
  go_wp2_with fail
  refine (within_any K ((fact m : Nat) : Int) _ (by omega) (by omega)).mono ?_
  rintro e w' ⟨rfl, rfl⟩
  have hk1 := Int.emod_nonneg K (show ((fact m : Nat) : Int) ≠ 0 by omega)
  have hk2 := Int.emod_lt_of_pos K (show (0 : Int) < ((fact m : Nat) : Int) by omega)
  generalize K % ((fact m : Nat) : Int) = K2 at hk1 hk2 ⊢
  obtain ⟨k, rfl⟩ := Int.eq_ofNat_of_zero_le hk1
  have hk3 : k < fact m := by omega
  have HK := hid hk3
  clear hk1 hk2 hk3 hF2 hF3 h5
  go_wp2_with fail
  refine (at_ok m k _ hm10 HK.out).mono ?_
  rintro e w6 ⟨g6, rfl, hI, hb⟩
  have HB7 := hid (below_step HB6.out (Nat.le_refl _) hb)
  have HA7 : Hid (All w6 [((some ⟨g6, 0, none⟩ : Option Addr), m, atL m k), ((some ⟨g4, 0, none⟩ : Option Addr), m, p), (A, m, p), (A0, n0, x0)]) := ⟨hI, HA6.out.keep hb⟩
  clear HA6 HB6
  clear hb hI
  go_wp2_with fail
  refine (of_ok _ m m (atL m k) _ HA7.out.1 (permErr_of (isPerm_atL m k) (by rw [length_atL]; exact hm10)) (Nat.le_refl _)).mono ?_
  rintro e w7 ⟨rfl, hb⟩
  have HB8 := hid (below_step HB7.out (Nat.le_refl _) hb)
  have HA8 : Hid (All w7 [((some ⟨g6, 0, none⟩ : Option Addr), m, atL m k), ((some ⟨g4, 0, none⟩ : Option Addr), m, p), (A, m, p), (A0, n0, x0)]) := HA7.out.keep hb
  clear HA7 HB7
  clear hb
  rw [rk_atL HK.out]
  go_wp2_with fail
  refine (good_bel w7 _ _ 2 [0, 0] rfl rfl (by omega)).mono ?_
  rintro e w_good2 ⟨rfl, hb⟩
  have HB9 := hid (below_step HB8.out (Nat.le_refl _) hb)
  have HA9 : Hid (All w_good2 [((some ⟨g6, 0, none⟩ : Option Addr), m, atL m k), ((some ⟨g4, 0, none⟩ : Option Addr), m, p), (A, m, p), (A0, n0, x0)]) := HA8.out.keep hb
  clear HA8 HB8
  clear hb
  rw [show allOK [0, 0] = true by decide]
  go_wp2
  go_ret
  exact ⟨rfl, HB9.out⟩

end Go.Proofs.Ytclhglbkgjgafaa
