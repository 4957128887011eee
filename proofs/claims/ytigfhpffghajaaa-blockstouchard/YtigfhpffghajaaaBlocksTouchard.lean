/-
  Proved: castkeep.BlocksTouchard returns true whatever its arguments.
-/
import Derived.Test.YtigfhpffghajaaaBlkB
namespace Go.Proofs.Ytigfhpffghajaaa
open Go.RowKit

set_option maxHeartbeats 4000000 in
set_option maxRecDepth 100000 in
theorem blocksTouchard_any (K1 K2 : Int) (w : World)  :
    Calls Try.prog 5 #[.int .i64 K1, .int .i64 K2] w fun e w' => e = .returned (.bool true) ∧ Below w.heap.size w w' := by
  have HB0 := hid (Below.refl w.heap.size w)
  have HA0 : Hid (All w []) := trivial
  go_enter Try.func5, Try.ntmps5
  go_wp2_with fail
  refine (heaps_any _).mono ?_
  rintro e w1 ⟨rfl, hb⟩
  have HB1 := hid (below_step HB0.out (Nat.le_refl _) hb)
  have HA1 : Hid (All w1 []) := HA0.out.keep hb
  clear HA0 HB0
  clear hb
  go_wp2_with fail
  refine (within_any K2 4 _ (by omega) (by omega)).mono ?_
  rintro e w' ⟨rfl, rfl⟩
  have hk1 := Int.emod_nonneg K2 (show (4 : Int) ≠ 0 by omega)
  have hk2 := Int.emod_lt_of_pos K2 (show (0 : Int) < 4 by omega)
  generalize K2 % 4 = N1 at hk1 hk2 ⊢
  obtain ⟨k, rfl⟩ := Int.eq_ofNat_of_zero_le hk1
  have hk : k < 4 := by omega
  clear hk1 hk2
  have hI := ints_lit w1 #[.int .i64 2, .int .i64 3, .int .i64 5, .int .i64 7] 3 4 [2, 3, 5, 7] rfl rfl
  obtain ⟨b0, o0, he0, _, hc0⟩ := hI.row (by omega)
  have g1 : (w1.alloc (.cells #[.int .i64 2, .int .i64 3, .int .i64 5, .int .i64 7] 3)).cell? ⟨w1.heap.size, k, none⟩ = some (.int .i64 ((tprime k : Nat) : Int)) := by
    have h1 := hc0 k hk
    injection he0 with he0
    injection he0 with hx1 hx2
    subst hx1
    subst hx2
    rw [Nat.zero_add] at h1
    rw [h1]
    unfold tprime
    rcases k with _ | _ | _ | _ | k
    iterate 4 rfl
    omega
  clear hI hc0 he0
  have hp1 : 2 ≤ tprime k ∧ tprime k ≤ 7 := by
    unfold tprime
    rcases k with _ | _ | _ | _ | k
    iterate 4 exact (by decide)
    omega
  have hp2 := hp1.1
  have hp3 := hp1.2
  clear hp1
  have HT := hid (fun n => @touchard n k hk)
  generalize tprime k = p at *
  have HB2 := hid (below_step HB1.out (Nat.le_refl _) (below_alloc w1 (.cells #[.int .i64 2, .int .i64 3, .int .i64 5, .int .i64 7] 3)))
  have hkI : (k : Int) < 4 := by omega
  go_wp2_with fail
  generalize w1.alloc (.cells #[.int .i64 2, .int .i64 3, .int .i64 5, .int .i64 7] 3) = w2 at *
  clear g1 HA1 HB1
  refine (within_any K1 _ _ (by omega) (by omega)).mono ?_
  rintro e w' ⟨rfl, rfl⟩
  have hk1 := Int.emod_nonneg K1 (show (10 - (p : Int) + 1) ≠ 0 by omega)
  have hk2 := Int.emod_lt_of_pos K1 (show (0 : Int) < 10 - (p : Int) + 1 by omega)
  generalize K1 % (10 - (p : Int) + 1) = N1 at hk1 hk2 ⊢
  obtain ⟨n, rfl⟩ := Int.eq_ofNat_of_zero_le hk1
  have hnp : n + p ≤ 10 := by omega
  clear hk1 hk2
  have HA2 : Hid (All w2 []) := trivial
  go_wp2_with fail
  refine (ball_of _ (n + p) (by omega) _ (by omega)).mono ?_
  rintro e w3 ⟨rfl, hb⟩
  have HB3 := hid (below_step HB2.out (Nat.le_refl _) hb)
  have HA3 : Hid (All w3 []) := HA2.out.keep hb
  clear HA2 HB2
  clear hb
  go_wp2_with fail
  refine (ball_of _ n (by omega) _ (by omega)).mono ?_
  rintro e w4 ⟨rfl, hb⟩
  have HB4 := hid (below_step HB3.out (Nat.le_refl _) hb)
  have HA4 : Hid (All w4 []) := HA3.out.keep hb
  clear HA3 HB3
  clear hb
  go_wp2_with fail
  refine (ball_of _ (n + 1) (by omega) _ (by omega)).mono ?_
  rintro e w5 ⟨rfl, hb⟩
  have HB5 := hid (below_step HB4.out (Nat.le_refl _) hb)
  have HA5 : Hid (All w5 []) := HA4.out.keep hb
  clear HA4 HB4
  clear hb
  have ht := HT.out n hnp
  have b1 := bell_le (n := n + p) (by omega)
  generalize bell (n + p) = a at *
  generalize bell (n + 1) = c at *
  generalize bell n = b at *
  have hr : ((a : Int) - (b : Int) - (c : Int)).tmod (p : Int) = 0 := by rw [Int.tmod_eq_emod_of_nonneg (by omega)]; exact ht.1
  have hle := ht.2
  clear ht HT
  have hp0 : ((p : Int) == 0) = false := by simp; omega
  go_wp2_with fail
  refine (good_bel w5 _ _ 3 [0, 0, 0] rfl rfl (by omega)).mono ?_
  rintro e w_good1 ⟨rfl, hb⟩
  have HB6 := hid (below_step HB5.out (Nat.le_refl _) hb)
  have HA6 : Hid (All w_good1 []) := HA5.out.keep hb
  clear HA5 HB5
  clear hb
  rw [show allOK [0, 0, 0] = true by decide]
  go_wp2
  go_ret
  exact ⟨rfl, HB6.out⟩

end Go.Proofs.Ytigfhpffghajaaa
