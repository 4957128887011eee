/-
  castlaw.SubsetSays: its ways where n is not between 0 and 16.
-/
import Derived.Test.YtnoacmnhinoohaaDoorSubD
import Derived.Test.YtnoacmnhinoohaaDoorSubR
import Derived.Test.YtnoacmnhinoohaaDoorAll
namespace Go.Proofs.YtnoacmnhinoohaaDoor
open Go.RowKit

theorem wrap_pow64 {n : Nat} (hn : n ≤ 16) : wrap64 ((2 : Int) ^ n) = ((2 ^ n : Nat) : Int) := by
  have hp : 2 ^ n ≤ 2 ^ 16 := Nat.pow_le_pow_right (by omega) hn
  rw [pow_int]
  generalize 2 ^ n = z at *
  exact IntWalk.wrap64_in _ (by omega)

set_option maxHeartbeats 2000000 in
set_option maxRecDepth 100000 in
theorem subsetSays_low_low (n : Int) (k : Int) (s : Nat) (at_ : Int) (w : World) (ht : Tab w) (hs : s < 65536) (hn : n < 0)  (hk : k < 0)  :
    Calls Tryd.prog 3 #[.int .i64 n, .int .i64 k, .int .u16 (s : Int), .int .i64 at_] w fun e w' => e = .returned (.bool true) ∧ Below w.heap.size w w' := by
  have HB0 := hid (Below.refl w.heap.size w)
  have HA0 : Hid (All w []) := trivial
  have HT0 := hid ht
  clear ht
  go_enter Tryd.func3, Tryd.ntmps3
  go_wp2_with fail
  refine (chooseF_bad _ _ _ (by omega)).mono ?_
  rintro e w' ⟨rfl, rfl⟩
  go_wp2_with fail
  refine (subAt_bad _ _ _ (by omega)).mono ?_
  rintro e w' ⟨rfl, rfl⟩
  go_wp2_with fail
  refine (subNext_bad s _ _ (by omega)).mono ?_
  rintro e w' ⟨rfl, rfl⟩
  go_wp2_with fail
  refine (size_any s _ hs).mono ?_
  rintro e w2 ⟨rfl, hb⟩
  have HB1 := hid (below_step HB0.out (Nat.le_refl _) hb)
  have HA1 : Hid (All w2 []) := HA0.out.keep hb
  clear HA0 HB0
  have HT1 := hid (HT0.out.keep hb)
  clear HT0
  clear hb
  go_wp2_with fail
  refine (refOnes_any s _ hs).mono ?_
  rintro e w' ⟨rfl, rfl⟩
  go_wp2_with fail
  refine (subOf_any s _ HT1.out hs).mono ?_
  rintro e w' ⟨rfl, rfl⟩
  go_wp2_with fail
  refine (setRank_any s _ hs).mono ?_
  rintro e w' ⟨rfl, rfl⟩
  go_wp2
  go_ret
  exact ⟨rfl, HB1.out⟩

set_option maxHeartbeats 2000000 in
set_option maxRecDepth 100000 in
theorem subsetSays_low_high (n : Int) (k : Int) (s : Nat) (at_ : Int) (w : World) (ht : Tab w) (hs : s < 65536) (hn : n < 0)  (hk : 16 < k)  :
    Calls Tryd.prog 3 #[.int .i64 n, .int .i64 k, .int .u16 (s : Int), .int .i64 at_] w fun e w' => e = .returned (.bool true) ∧ Below w.heap.size w w' := by
  have HB0 := hid (Below.refl w.heap.size w)
  have HA0 : Hid (All w []) := trivial
  have HT0 := hid ht
  clear ht
  go_enter Tryd.func3, Tryd.ntmps3
  go_wp2_with fail
  refine (chooseF_bad _ _ _ (by omega)).mono ?_
  rintro e w' ⟨rfl, rfl⟩
  go_wp2_with fail
  refine (subAt_bad _ _ _ (by omega)).mono ?_
  rintro e w' ⟨rfl, rfl⟩
  go_wp2_with fail
  refine (subNext_bad s _ _ (by omega)).mono ?_
  rintro e w' ⟨rfl, rfl⟩
  go_wp2_with fail
  refine (size_any s _ hs).mono ?_
  rintro e w2 ⟨rfl, hb⟩
  have HB1 := hid (below_step HB0.out (Nat.le_refl _) hb)
  have HA1 : Hid (All w2 []) := HA0.out.keep hb
  clear HA0 HB0
  have HT1 := hid (HT0.out.keep hb)
  clear HT0
  clear hb
  go_wp2_with fail
  refine (refOnes_any s _ hs).mono ?_
  rintro e w' ⟨rfl, rfl⟩
  go_wp2_with fail
  refine (subOf_any s _ HT1.out hs).mono ?_
  rintro e w' ⟨rfl, rfl⟩
  go_wp2_with fail
  refine (setRank_any s _ hs).mono ?_
  rintro e w' ⟨rfl, rfl⟩
  go_wp2
  go_ret
  exact ⟨rfl, HB1.out⟩

set_option maxHeartbeats 2000000 in
set_option maxRecDepth 100000 in
theorem subsetSays_low_neg (n : Int) (k : Nat) (s : Nat) (at_ : Int) (w : World) (ht : Tab w) (hs : s < 65536) (hn : n < 0)  (hk : k ≤ 16) (ha : at_ < 0) :
    Calls Tryd.prog 3 #[.int .i64 n, .int .i64 (k : Int), .int .u16 (s : Int), .int .i64 at_] w fun e w' => e = .returned (.bool true) ∧ Below w.heap.size w w' := by
  have HB0 := hid (Below.refl w.heap.size w)
  have HA0 : Hid (All w []) := trivial
  have HT0 := hid ht
  clear ht
  go_enter Tryd.func3, Tryd.ntmps3
  go_wp2_with fail
  refine (chooseF_bad _ _ _ (by omega)).mono ?_
  rintro e w' ⟨rfl, rfl⟩
  go_wp2_with fail
  refine (subAt_bad _ _ _ (by omega)).mono ?_
  rintro e w' ⟨rfl, rfl⟩
  go_wp2_with fail
  refine (subNext_bad s _ _ (by omega)).mono ?_
  rintro e w' ⟨rfl, rfl⟩
  go_wp2_with fail
  refine (size_any s _ hs).mono ?_
  rintro e w2 ⟨rfl, hb⟩
  have HB1 := hid (below_step HB0.out (Nat.le_refl _) hb)
  have HA1 : Hid (All w2 []) := HA0.out.keep hb
  clear HA0 HB0
  have HT1 := hid (HT0.out.keep hb)
  clear HT0
  clear hb
  go_wp2_with fail
  refine (refOnes_any s _ hs).mono ?_
  rintro e w' ⟨rfl, rfl⟩
  go_wp2_with fail
  refine (subOf_any s _ HT1.out hs).mono ?_
  rintro e w' ⟨rfl, rfl⟩
  go_wp2_with fail
  refine (setRank_any s _ hs).mono ?_
  rintro e w' ⟨rfl, rfl⟩
  go_wp2
  go_ret
  exact ⟨rfl, HB1.out⟩

set_option maxHeartbeats 2000000 in
set_option maxRecDepth 100000 in
theorem subsetSays_low_over (n : Int) (k : Nat) (s : Nat) (at_ : Int) (w : World) (ht : Tab w) (hs : s < 65536) (hn : n < 0)  (hk : k ≤ 16) (ha0 : 0 ≤ at_) (ha : ((cho 16 k : Nat) : Int) ≤ at_) :
    Calls Tryd.prog 3 #[.int .i64 n, .int .i64 (k : Int), .int .u16 (s : Int), .int .i64 at_] w fun e w' => e = .returned (.bool true) ∧ Below w.heap.size w w' := by
  have HB0 := hid (Below.refl w.heap.size w)
  have HA0 : Hid (All w []) := trivial
  have HT0 := hid ht
  clear ht
  have HAT := hid ha
  clear ha
  go_enter Tryd.func3, Tryd.ntmps3
  go_wp2_with fail
  refine (chooseF_bad _ _ _ (by omega)).mono ?_
  rintro e w' ⟨rfl, rfl⟩
  go_wp2_with fail
  refine (subAt_over k _ _ hk ha0 HAT.out).mono ?_
  rintro e w' ⟨rfl, rfl⟩
  go_wp2_with fail
  refine (subNext_bad s _ _ (by omega)).mono ?_
  rintro e w' ⟨rfl, rfl⟩
  go_wp2_with fail
  refine (size_any s _ hs).mono ?_
  rintro e w2 ⟨rfl, hb⟩
  have HB1 := hid (below_step HB0.out (Nat.le_refl _) hb)
  have HA1 : Hid (All w2 []) := HA0.out.keep hb
  clear HA0 HB0
  have HT1 := hid (HT0.out.keep hb)
  clear HT0
  clear hb
  go_wp2_with fail
  refine (refOnes_any s _ hs).mono ?_
  rintro e w' ⟨rfl, rfl⟩
  go_wp2_with fail
  refine (subOf_any s _ HT1.out hs).mono ?_
  rintro e w' ⟨rfl, rfl⟩
  go_wp2_with fail
  refine (setRank_any s _ hs).mono ?_
  rintro e w' ⟨rfl, rfl⟩
  have hat := HAT.out
  go_wp2_with fail
  refine (refChoose_any 16 k _ (by omega)).mono ?_
  rintro e w4 ⟨rfl, hb⟩
  have HB2 := hid (below_step HB1.out (Nat.le_refl _) hb)
  have HA2 : Hid (All w4 []) := HA1.out.keep hb
  clear HA1 HB1
  have HT2 := hid (HT1.out.keep hb)
  clear HT1
  clear hb
  go_wp2
  go_ret
  exact ⟨rfl, HB2.out⟩

set_option maxHeartbeats 2000000 in
set_option maxRecDepth 100000 in
theorem subsetSays_low_ok (n : Int) (k : Nat) (s : Nat) (at_ : Nat) (w : World) (ht : Tab w) (hs : s < 65536) (hn : n < 0)  (hk : k ≤ 16) (ha : at_ < cho 16 k) :
    Calls Tryd.prog 3 #[.int .i64 n, .int .i64 (k : Int), .int .u16 (s : Int), .int .i64 (at_ : Int)] w fun e w' => e = .returned (.bool true) ∧ Below w.heap.size w w' := by
  have HB0 := hid (Below.refl w.heap.size w)
  have HA0 : Hid (All w []) := trivial
  have HT0 := hid ht
  clear ht
  have HAT := hid ha
  clear ha
  go_enter Tryd.func3, Tryd.ntmps3
  go_wp2_with fail
  refine (chooseF_bad _ _ _ (by omega)).mono ?_
  rintro e w' ⟨rfl, rfl⟩
  go_wp2_with fail
  refine (subAt_ok k at_ _ hk HAT.out).mono ?_
  rintro e w' ⟨rfl, rfl⟩
  obtain ⟨u1, u2, u3⟩ := unr_ok HAT.out
  have HU2 := hid u2
  have HU3 := hid u3
  have u4 : unr 16 k at_ < 65536 := u1
  clear u1 u2 u3
  generalize unr 16 k at_ = t at *
  go_wp2_with fail
  refine (subNext_bad s _ _ (by omega)).mono ?_
  rintro e w' ⟨rfl, rfl⟩
  go_wp2_with fail
  refine (size_any s _ hs).mono ?_
  rintro e w2 ⟨rfl, hb⟩
  have HB1 := hid (below_step HB0.out (Nat.le_refl _) hb)
  have HA1 : Hid (All w2 []) := HA0.out.keep hb
  clear HA0 HB0
  have HT1 := hid (HT0.out.keep hb)
  clear HT0
  clear hb
  go_wp2_with fail
  refine (refOnes_any s _ hs).mono ?_
  rintro e w' ⟨rfl, rfl⟩
  go_wp2_with fail
  refine (subOf_any s _ HT1.out hs).mono ?_
  rintro e w' ⟨rfl, rfl⟩
  go_wp2_with fail
  refine (setRank_any s _ hs).mono ?_
  rintro e w' ⟨rfl, rfl⟩
  have hat : ¬ ((cho 16 k : Nat) : Int) ≤ (at_ : Int) := by have := HAT.out; omega
  go_wp2_with fail
  refine (refChoose_any 16 k _ (by omega)).mono ?_
  rintro e w4 ⟨rfl, hb⟩
  have HB2 := hid (below_step HB1.out (Nat.le_refl _) hb)
  have HA2 : Hid (All w4 []) := HA1.out.keep hb
  clear HA1 HB1
  have HT2 := hid (HT1.out.keep hb)
  clear HT1
  clear hb
  go_wp2_with fail
  refine (refOnes_any t _ u4).mono ?_
  rintro e w' ⟨rfl, rfl⟩
  rw [HU2.out]
  go_wp2_with fail
  refine (setRank_any t _ u4).mono ?_
  rintro e w' ⟨rfl, rfl⟩
  rw [HU3.out]
  go_wp2
  go_ret
  exact ⟨rfl, HB2.out⟩

set_option maxHeartbeats 2000000 in
set_option maxRecDepth 100000 in
theorem subsetSays_high_low (n : Int) (k : Int) (s : Nat) (at_ : Int) (w : World) (ht : Tab w) (hs : s < 65536) (hn : 16 < n)  (hk : k < 0)  :
    Calls Tryd.prog 3 #[.int .i64 n, .int .i64 k, .int .u16 (s : Int), .int .i64 at_] w fun e w' => e = .returned (.bool true) ∧ Below w.heap.size w w' := by
  have HB0 := hid (Below.refl w.heap.size w)
  have HA0 : Hid (All w []) := trivial
  have HT0 := hid ht
  clear ht
  go_enter Tryd.func3, Tryd.ntmps3
  go_wp2_with fail
  refine (chooseF_bad _ _ _ (by omega)).mono ?_
  rintro e w' ⟨rfl, rfl⟩
  go_wp2_with fail
  refine (subAt_bad _ _ _ (by omega)).mono ?_
  rintro e w' ⟨rfl, rfl⟩
  go_wp2_with fail
  refine (subNext_bad s _ _ (by omega)).mono ?_
  rintro e w' ⟨rfl, rfl⟩
  go_wp2_with fail
  refine (size_any s _ hs).mono ?_
  rintro e w2 ⟨rfl, hb⟩
  have HB1 := hid (below_step HB0.out (Nat.le_refl _) hb)
  have HA1 : Hid (All w2 []) := HA0.out.keep hb
  clear HA0 HB0
  have HT1 := hid (HT0.out.keep hb)
  clear HT0
  clear hb
  go_wp2_with fail
  refine (refOnes_any s _ hs).mono ?_
  rintro e w' ⟨rfl, rfl⟩
  go_wp2_with fail
  refine (subOf_any s _ HT1.out hs).mono ?_
  rintro e w' ⟨rfl, rfl⟩
  go_wp2_with fail
  refine (setRank_any s _ hs).mono ?_
  rintro e w' ⟨rfl, rfl⟩
  go_wp2
  go_ret
  exact ⟨rfl, HB1.out⟩

set_option maxHeartbeats 2000000 in
set_option maxRecDepth 100000 in
theorem subsetSays_high_high (n : Int) (k : Int) (s : Nat) (at_ : Int) (w : World) (ht : Tab w) (hs : s < 65536) (hn : 16 < n)  (hk : 16 < k)  :
    Calls Tryd.prog 3 #[.int .i64 n, .int .i64 k, .int .u16 (s : Int), .int .i64 at_] w fun e w' => e = .returned (.bool true) ∧ Below w.heap.size w w' := by
  have HB0 := hid (Below.refl w.heap.size w)
  have HA0 : Hid (All w []) := trivial
  have HT0 := hid ht
  clear ht
  go_enter Tryd.func3, Tryd.ntmps3
  go_wp2_with fail
  refine (chooseF_bad _ _ _ (by omega)).mono ?_
  rintro e w' ⟨rfl, rfl⟩
  go_wp2_with fail
  refine (subAt_bad _ _ _ (by omega)).mono ?_
  rintro e w' ⟨rfl, rfl⟩
  go_wp2_with fail
  refine (subNext_bad s _ _ (by omega)).mono ?_
  rintro e w' ⟨rfl, rfl⟩
  go_wp2_with fail
  refine (size_any s _ hs).mono ?_
  rintro e w2 ⟨rfl, hb⟩
  have HB1 := hid (below_step HB0.out (Nat.le_refl _) hb)
  have HA1 : Hid (All w2 []) := HA0.out.keep hb
  clear HA0 HB0
  have HT1 := hid (HT0.out.keep hb)
  clear HT0
  clear hb
  go_wp2_with fail
  refine (refOnes_any s _ hs).mono ?_
  rintro e w' ⟨rfl, rfl⟩
  go_wp2_with fail
  refine (subOf_any s _ HT1.out hs).mono ?_
  rintro e w' ⟨rfl, rfl⟩
  go_wp2_with fail
  refine (setRank_any s _ hs).mono ?_
  rintro e w' ⟨rfl, rfl⟩
  go_wp2
  go_ret
  exact ⟨rfl, HB1.out⟩

set_option maxHeartbeats 2000000 in
set_option maxRecDepth 100000 in
theorem subsetSays_high_neg (n : Int) (k : Nat) (s : Nat) (at_ : Int) (w : World) (ht : Tab w) (hs : s < 65536) (hn : 16 < n)  (hk : k ≤ 16) (ha : at_ < 0) :
    Calls Tryd.prog 3 #[.int .i64 n, .int .i64 (k : Int), .int .u16 (s : Int), .int .i64 at_] w fun e w' => e = .returned (.bool true) ∧ Below w.heap.size w w' := by
  have HB0 := hid (Below.refl w.heap.size w)
  have HA0 : Hid (All w []) := trivial
  have HT0 := hid ht
  clear ht
  go_enter Tryd.func3, Tryd.ntmps3
  go_wp2_with fail
  refine (chooseF_bad _ _ _ (by omega)).mono ?_
  rintro e w' ⟨rfl, rfl⟩
  go_wp2_with fail
  refine (subAt_bad _ _ _ (by omega)).mono ?_
  rintro e w' ⟨rfl, rfl⟩
  go_wp2_with fail
  refine (subNext_bad s _ _ (by omega)).mono ?_
  rintro e w' ⟨rfl, rfl⟩
  go_wp2_with fail
  refine (size_any s _ hs).mono ?_
  rintro e w2 ⟨rfl, hb⟩
  have HB1 := hid (below_step HB0.out (Nat.le_refl _) hb)
  have HA1 : Hid (All w2 []) := HA0.out.keep hb
  clear HA0 HB0
  have HT1 := hid (HT0.out.keep hb)
  clear HT0
  clear hb
  go_wp2_with fail
  refine (refOnes_any s _ hs).mono ?_
  rintro e w' ⟨rfl, rfl⟩
  go_wp2_with fail
  refine (subOf_any s _ HT1.out hs).mono ?_
  rintro e w' ⟨rfl, rfl⟩
  go_wp2_with fail
  refine (setRank_any s _ hs).mono ?_
  rintro e w' ⟨rfl, rfl⟩
  go_wp2
  go_ret
  exact ⟨rfl, HB1.out⟩

set_option maxHeartbeats 2000000 in
set_option maxRecDepth 100000 in
theorem subsetSays_high_over (n : Int) (k : Nat) (s : Nat) (at_ : Int) (w : World) (ht : Tab w) (hs : s < 65536) (hn : 16 < n)  (hk : k ≤ 16) (ha0 : 0 ≤ at_) (ha : ((cho 16 k : Nat) : Int) ≤ at_) :
    Calls Tryd.prog 3 #[.int .i64 n, .int .i64 (k : Int), .int .u16 (s : Int), .int .i64 at_] w fun e w' => e = .returned (.bool true) ∧ Below w.heap.size w w' := by
  have HB0 := hid (Below.refl w.heap.size w)
  have HA0 : Hid (All w []) := trivial
  have HT0 := hid ht
  clear ht
  have HAT := hid ha
  clear ha
  go_enter Tryd.func3, Tryd.ntmps3
  go_wp2_with fail
  refine (chooseF_bad _ _ _ (by omega)).mono ?_
  rintro e w' ⟨rfl, rfl⟩
  go_wp2_with fail
  refine (subAt_over k _ _ hk ha0 HAT.out).mono ?_
  rintro e w' ⟨rfl, rfl⟩
  go_wp2_with fail
  refine (subNext_bad s _ _ (by omega)).mono ?_
  rintro e w' ⟨rfl, rfl⟩
  go_wp2_with fail
  refine (size_any s _ hs).mono ?_
  rintro e w2 ⟨rfl, hb⟩
  have HB1 := hid (below_step HB0.out (Nat.le_refl _) hb)
  have HA1 : Hid (All w2 []) := HA0.out.keep hb
  clear HA0 HB0
  have HT1 := hid (HT0.out.keep hb)
  clear HT0
  clear hb
  go_wp2_with fail
  refine (refOnes_any s _ hs).mono ?_
  rintro e w' ⟨rfl, rfl⟩
  go_wp2_with fail
  refine (subOf_any s _ HT1.out hs).mono ?_
  rintro e w' ⟨rfl, rfl⟩
  go_wp2_with fail
  refine (setRank_any s _ hs).mono ?_
  rintro e w' ⟨rfl, rfl⟩
  have hat := HAT.out
  go_wp2_with fail
  refine (refChoose_any 16 k _ (by omega)).mono ?_
  rintro e w4 ⟨rfl, hb⟩
  have HB2 := hid (below_step HB1.out (Nat.le_refl _) hb)
  have HA2 : Hid (All w4 []) := HA1.out.keep hb
  clear HA1 HB1
  have HT2 := hid (HT1.out.keep hb)
  clear HT1
  clear hb
  go_wp2
  go_ret
  exact ⟨rfl, HB2.out⟩

set_option maxHeartbeats 2000000 in
set_option maxRecDepth 100000 in
theorem subsetSays_high_ok (n : Int) (k : Nat) (s : Nat) (at_ : Nat) (w : World) (ht : Tab w) (hs : s < 65536) (hn : 16 < n)  (hk : k ≤ 16) (ha : at_ < cho 16 k) :
    Calls Tryd.prog 3 #[.int .i64 n, .int .i64 (k : Int), .int .u16 (s : Int), .int .i64 (at_ : Int)] w fun e w' => e = .returned (.bool true) ∧ Below w.heap.size w w' := by
  have HB0 := hid (Below.refl w.heap.size w)
  have HA0 : Hid (All w []) := trivial
  have HT0 := hid ht
  clear ht
  have HAT := hid ha
  clear ha
  go_enter Tryd.func3, Tryd.ntmps3
  go_wp2_with fail
  refine (chooseF_bad _ _ _ (by omega)).mono ?_
  rintro e w' ⟨rfl, rfl⟩
  go_wp2_with fail
  refine (subAt_ok k at_ _ hk HAT.out).mono ?_
  rintro e w' ⟨rfl, rfl⟩
  obtain ⟨u1, u2, u3⟩ := unr_ok HAT.out
  have HU2 := hid u2
  have HU3 := hid u3
  have u4 : unr 16 k at_ < 65536 := u1
  clear u1 u2 u3
  generalize unr 16 k at_ = t at *
  go_wp2_with fail
  refine (subNext_bad s _ _ (by omega)).mono ?_
  rintro e w' ⟨rfl, rfl⟩
  go_wp2_with fail
  refine (size_any s _ hs).mono ?_
  rintro e w2 ⟨rfl, hb⟩
  have HB1 := hid (below_step HB0.out (Nat.le_refl _) hb)
  have HA1 : Hid (All w2 []) := HA0.out.keep hb
  clear HA0 HB0
  have HT1 := hid (HT0.out.keep hb)
  clear HT0
  clear hb
  go_wp2_with fail
  refine (refOnes_any s _ hs).mono ?_
  rintro e w' ⟨rfl, rfl⟩
  go_wp2_with fail
  refine (subOf_any s _ HT1.out hs).mono ?_
  rintro e w' ⟨rfl, rfl⟩
  go_wp2_with fail
  refine (setRank_any s _ hs).mono ?_
  rintro e w' ⟨rfl, rfl⟩
  have hat : ¬ ((cho 16 k : Nat) : Int) ≤ (at_ : Int) := by have := HAT.out; omega
  go_wp2_with fail
  refine (refChoose_any 16 k _ (by omega)).mono ?_
  rintro e w4 ⟨rfl, hb⟩
  have HB2 := hid (below_step HB1.out (Nat.le_refl _) hb)
  have HA2 : Hid (All w4 []) := HA1.out.keep hb
  clear HA1 HB1
  have HT2 := hid (HT1.out.keep hb)
  clear HT1
  clear hb
  go_wp2_with fail
  refine (refOnes_any t _ u4).mono ?_
  rintro e w' ⟨rfl, rfl⟩
  rw [HU2.out]
  go_wp2_with fail
  refine (setRank_any t _ u4).mono ?_
  rintro e w' ⟨rfl, rfl⟩
  rw [HU3.out]
  go_wp2
  go_ret
  exact ⟨rfl, HB2.out⟩

theorem subsetSays_low (n : Int) (k : Int) (s : Nat) (at_ : Int) (w : World) (ht : Tab w) (hs : s < 65536) (hn : n < 0) :
    Calls Tryd.prog 3 #[.int .i64 n, .int .i64 k, .int .u16 (s : Int), .int .i64 at_] w fun e w' => e = .returned (.bool true) ∧ Below w.heap.size w w' := by
  by_cases h1 : k < 0
  · exact subsetSays_low_low n k s at_ w ht hs hn h1
  by_cases h2 : 16 < k
  · exact subsetSays_low_high n k s at_ w ht hs hn h2
  obtain ⟨k, rfl⟩ := Int.eq_ofNat_of_zero_le (show 0 ≤ k by omega)
  by_cases h3 : at_ < 0
  · exact subsetSays_low_neg n k s at_ w ht hs hn (by omega) h3
  by_cases h4 : ((cho 16 k : Nat) : Int) ≤ at_
  · exact subsetSays_low_over n k s at_ w ht hs hn (by omega) (by omega) h4
  obtain ⟨a, rfl⟩ := Int.eq_ofNat_of_zero_le (show 0 ≤ at_ by omega)
  exact subsetSays_low_ok n k s a w ht hs hn (by omega) (by omega)

theorem subsetSays_high (n : Int) (k : Int) (s : Nat) (at_ : Int) (w : World) (ht : Tab w) (hs : s < 65536) (hn : 16 < n) :
    Calls Tryd.prog 3 #[.int .i64 n, .int .i64 k, .int .u16 (s : Int), .int .i64 at_] w fun e w' => e = .returned (.bool true) ∧ Below w.heap.size w w' := by
  by_cases h1 : k < 0
  · exact subsetSays_high_low n k s at_ w ht hs hn h1
  by_cases h2 : 16 < k
  · exact subsetSays_high_high n k s at_ w ht hs hn h2
  obtain ⟨k, rfl⟩ := Int.eq_ofNat_of_zero_le (show 0 ≤ k by omega)
  by_cases h3 : at_ < 0
  · exact subsetSays_high_neg n k s at_ w ht hs hn (by omega) h3
  by_cases h4 : ((cho 16 k : Nat) : Int) ≤ at_
  · exact subsetSays_high_over n k s at_ w ht hs hn (by omega) (by omega) h4
  obtain ⟨a, rfl⟩ := Int.eq_ofNat_of_zero_le (show 0 ≤ at_ by omega)
  exact subsetSays_high_ok n k s a w ht hs hn (by omega) (by omega)

end Go.Proofs.YtnoacmnhinoohaaDoor
