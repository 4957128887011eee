/-
  Proved: castkeep.RankWalk returns true whatever its argument.
-/
import Derived.Test.YtclhglbkgjgafaaRankD
import Derived.Test.YtclhglbkgjgafaaAll
namespace Go.Proofs.Ytclhglbkgjgafaa
open Go.RowKit

theorem atL_zero (k : Nat) : atL k 0 = iota k := by
  have h1 := isPerm_atL k 0
  unfold IsPerm at h1
  rw [length_atL] at h1
  exact rk_inj h1 (by rw [rk_atL (fact_pos k), rk_rises (sorted_iotaP k)])
/-- The slice v holds the order with the number j. -/
def WalkInv (k j : Nat) (v : Value) (w : World) : Prop := ∃ A c p, v = .slice A k c ∧ Ints w A k p ∧ IsPerm p ∧ rk p = j

set_option maxHeartbeats 2000000 in
set_option maxRecDepth 100000 in
theorem rankWalk_any (K : Int) (w : World)  :
    Calls Try.prog 8 #[.int .i64 K] w fun e w' => e = .returned (.bool true) ∧ Below w.heap.size w w' := by
  have HB0 := hid (Below.refl w.heap.size w)
  have HA0 : Hid (All w []) := trivial
  go_enter Try.func8, Try.ntmps8
  go_wp2_with fail
  refine (ranks_any _).mono ?_
  rintro e w1 ⟨rfl, hb⟩
  have HB1 := hid (below_step HB0.out (Nat.le_refl _) hb)
  have HA1 : Hid (All w1 []) := HA0.out.keep hb
  clear HA0 HB0
  clear hb
  go_wp2_with fail
  refine (within_any K 7 _ (by omega) (by omega)).mono ?_
  rintro e w' ⟨rfl, rfl⟩
  have hk1 := Int.emod_nonneg K (show (7 : Int) ≠ 0 by omega)
  have hk2 := Int.emod_lt_of_pos K (show (0 : Int) < 7 by omega)
  generalize K % 7 = K2 at hk1 hk2 ⊢
  obtain ⟨k, rfl⟩ := Int.eq_ofNat_of_zero_le hk1
  have hk7 : k ≤ 6 := by omega
  clear hk1 hk2
  have hf1 := fact_pos k
  have HF := hid (fact_ten (n := k) (by omega))
  have HF1 := hid hf1
  go_wp2_with fail
  refine (at_ok k 0 _ (by omega) hf1).mono ?_
  rintro e w2 ⟨g2, rfl, hI, hb⟩
  have HB2 := hid (below_step HB1.out (Nat.le_refl _) hb)
  have HA2 : Hid (All w2 [((some ⟨g2, 0, none⟩ : Option Addr), k, atL k 0)]) := ⟨hI, HA1.out.keep hb⟩
  clear HA1 HB1
  clear hb hI hf1
  go_wp2_with fail
  refine (count_ok k _ (by omega)).mono ?_
  rintro e w' ⟨rfl, rfl⟩
  go_wp2_with fail
  refine (good_bel w2 _ _ 2 [0, 0] rfl rfl (by omega)).mono ?_
  rintro e w_good1 ⟨rfl, hb⟩
  have HB3 := hid (below_step HB2.out (Nat.le_refl _) hb)
  have HA3 : Hid (All w_good1 [((some ⟨g2, 0, none⟩ : Option Addr), k, atL k 0)]) := HA2.out.keep hb
  clear HA2 HB2
  clear hb
  rw [show allOK [0, 0] = true by decide]
  go_wp2_with fail
  refine (isSorted_bel _ k k (atL k 0) _ HA3.out.1 (by omega)).mono ?_
  rintro e w3 ⟨rfl, hb⟩
  have HB4 := hid (below_step HB3.out (Nat.le_refl _) hb)
  have HA4 : Hid (All w3 [((some ⟨g2, 0, none⟩ : Option Addr), k, atL k 0)]) := HA3.out.keep hb
  clear HA3 HB3
  clear hb
  rw [show sortedB (atL k 0) = true by rw [atL_zero]; exact sorted_iota k]
  have hF := HF.out
  have hF1 := HF1.out
  have HI0 := hid HA4.out.1
  go_wp2_with fail
  go_loopg [3, 37] (fact k) (fun g v s wr => ∃ j : Nat, j + 1 ≤ fact k ∧ fact k - 1 - j ≤ g ∧ s = .int .i64 j ∧ WalkInv k j v wr ∧ Below w.heap.size w wr)
  case atStart => exact ⟨0, by omega, by omega, rfl, ⟨_, _, _, rfl, HI0.out, isPerm_atL k 0, rk_atL HF1.out⟩, HB4.out⟩
  case round =>
    obtain ⟨j, hj, hg, rfl, ⟨A, c, p, rfl, hI, hp, hr⟩, hbel⟩ := hrel
    have HI := hid hI
    have HP := hid hp
    have HR := hid hr
    have HB := hid hbel
    have HL := hid hI.len
    have HE : Hid (permErr p = 0) := permErr_of hp (by rw [hI.len]; omega)
    clear hI hp hr hbel
    by_cases hlt : j + 1 < fact k
    · have hlt2 : (j : Int) < ((fact k : Nat) : Int) - 1 := by omega
      go_wp2_with fail
      refine (next_ok A k c p _ HI.out HE.out (by rw [HR.out]; exact hlt)).mono ?_
      rintro e w5 ⟨E, ce, r, rfl, hI5, hcap5, hb5, hpm, hrk⟩
      rw [HL.out] at hI5
      rw [HL.out]
      have HB5 := hid (below_step HB.out (Nat.le_refl _) hb5)
      have HI5 := hid hI5
      have HA5 := hid (HI.out.keep hb5)
      have HPM := hid hpm
      have HRN : Hid (rk r = j + 1) := by rw [hrk, HR.out]; exact rfl
      have HPR : Hid (IsPerm r) := by show IsPerm r; unfold IsPerm; rw [HPM.out.length_eq]; exact HPM.out.trans HP.out
      clear hI5 hcap5 hb5 hpm hrk
      go_wp2_with fail
      refine (compareL_any A k c E ce p r _ HA5.out HI5.out (by omega)).mono ?_
      rintro e w' ⟨rfl, rfl⟩
      have hz : cmpL p r < 0 := (cmp_lt HPM.out.symm).2 (by rw [HRN.out, HR.out]; omega)
      generalize cmpL p r = z at hz ⊢
      go_wp2
      go_roundg (fact k - 1 - (j + 1))
      case measure => omega
      case rel => exact ⟨j + 1, by omega, by omega, by go_num, ⟨E, ce, r, rfl, HI5.out, HPR.out, HRN.out⟩, HB5.out⟩
    · have hge : ¬ ((j : Int) < ((fact k : Nat) : Int) - 1) := by omega
      have HJ : Hid (rk p + 1 = fact k) := by rw [HR.out]; show j + 1 = fact k; omega
      go_wp2_with fail
      refine (next_last A k c p _ HI.out HE.out HJ.out).mono ?_
      rintro e w5 ⟨rfl, hb5⟩
      have HB5 := hid (below_step HB.out (Nat.le_refl _) hb5)
      clear hb5
      go_wp2
      go_ret
      exact ⟨rfl, HB5.out⟩

end Go.Proofs.Ytclhglbkgjgafaa
