/-
  castlaw.SubsetSays: its ways where s has a number from n on, or there is no later set.
-/
import Derived.Test.YtnoacmnhinoohaaDoorSubSaysA
namespace Go.Proofs.YtnoacmnhinoohaaDoor
open Go.RowKit

set_option maxHeartbeats 2000000 in
set_option maxRecDepth 100000 in
theorem subsetSays_over_low (n : Nat) (k : Int) (s : Nat) (at_ : Int) (w : World) (ht : Tab w) (hs : s < 65536) (hn : n ≤ 16) (ho : 2 ^ n ≤ s) (hk : k < 0)  :
    Calls Tryd.prog 3 #[.int .i64 (n : Int), .int .i64 k, .int .u16 (s : Int), .int .i64 at_] w fun e w' => e = .returned (.bool true) ∧ Below w.heap.size w w' := by
  have HB0 := hid (Below.refl w.heap.size w)
  have HA0 : Hid (All w []) := trivial
  have HT0 := hid ht
  clear ht
  have HW := hid (wrap_pow64 hn)
  have HO := hid ho
  have HGE : Hid ((2 : Int) ^ n ≤ (s : Int)) := by rw [pow_int]; show _ ≤ _; omega
  clear ho
  go_enter Tryd.func3, Tryd.ntmps3
  go_wp2_with fail
  refine (chooseF_bad _ _ _ (by omega)).mono ?_
  rintro e w' ⟨rfl, rfl⟩
  go_wp2_with fail
  refine (subAt_bad _ _ _ (by omega)).mono ?_
  rintro e w' ⟨rfl, rfl⟩
  go_wp2_with fail
  refine (subNext_over s n _ hs hn HO.out).mono ?_
  rintro e w' ⟨rfl, rfl⟩
  go_wp2_with fail
  refine (size_any s _ hs).mono ?_
  rintro e w2 ⟨rfl, hb⟩
  have HB1 := hid (below_step HB0.out (Nat.le_refl _) hb)
  have HA1 : Hid (All w2 []) := HA0.out.keep hb
  clear HA0 HB0
  have HT1 := hid (HT0.out.keep hb)
  clear HT0
  clear hb
  go_wp2_with fail
  refine (refOnes_any s _ hs).mono ?_
  rintro e w' ⟨rfl, rfl⟩
  go_wp2_with fail
  refine (subOf_any s _ HT1.out hs).mono ?_
  rintro e w' ⟨rfl, rfl⟩
  go_wp2_with fail
  refine (setRank_any s _ hs).mono ?_
  rintro e w' ⟨rfl, rfl⟩
  have hwp := HW.out
  have hge := HGE.out
  go_wp2
  go_ret
  exact ⟨rfl, HB1.out⟩

set_option maxHeartbeats 2000000 in
set_option maxRecDepth 100000 in
theorem subsetSays_over_high (n : Nat) (k : Int) (s : Nat) (at_ : Int) (w : World) (ht : Tab w) (hs : s < 65536) (hn : n ≤ 16) (ho : 2 ^ n ≤ s) (hk : 16 < k)  :
    Calls Tryd.prog 3 #[.int .i64 (n : Int), .int .i64 k, .int .u16 (s : Int), .int .i64 at_] w fun e w' => e = .returned (.bool true) ∧ Below w.heap.size w w' := by
  have HB0 := hid (Below.refl w.heap.size w)
  have HA0 : Hid (All w []) := trivial
  have HT0 := hid ht
  clear ht
  have HW := hid (wrap_pow64 hn)
  have HO := hid ho
  have HGE : Hid ((2 : Int) ^ n ≤ (s : Int)) := by rw [pow_int]; show _ ≤ _; omega
  clear ho
  go_enter Tryd.func3, Tryd.ntmps3
  go_wp2_with fail
  refine (chooseF_bad _ _ _ (by omega)).mono ?_
  rintro e w' ⟨rfl, rfl⟩
  go_wp2_with fail
  refine (subAt_bad _ _ _ (by omega)).mono ?_
  rintro e w' ⟨rfl, rfl⟩
  go_wp2_with fail
  refine (subNext_over s n _ hs hn HO.out).mono ?_
  rintro e w' ⟨rfl, rfl⟩
  go_wp2_with fail
  refine (size_any s _ hs).mono ?_
  rintro e w2 ⟨rfl, hb⟩
  have HB1 := hid (below_step HB0.out (Nat.le_refl _) hb)
  have HA1 : Hid (All w2 []) := HA0.out.keep hb
  clear HA0 HB0
  have HT1 := hid (HT0.out.keep hb)
  clear HT0
  clear hb
  go_wp2_with fail
  refine (refOnes_any s _ hs).mono ?_
  rintro e w' ⟨rfl, rfl⟩
  go_wp2_with fail
  refine (subOf_any s _ HT1.out hs).mono ?_
  rintro e w' ⟨rfl, rfl⟩
  go_wp2_with fail
  refine (setRank_any s _ hs).mono ?_
  rintro e w' ⟨rfl, rfl⟩
  have hwp := HW.out
  have hge := HGE.out
  go_wp2
  go_ret
  exact ⟨rfl, HB1.out⟩

set_option maxHeartbeats 2000000 in
set_option maxRecDepth 100000 in
theorem subsetSays_over_neg (n : Nat) (k : Nat) (s : Nat) (at_ : Int) (w : World) (ht : Tab w) (hs : s < 65536) (hn : n ≤ 16) (ho : 2 ^ n ≤ s) (hk : k ≤ 16) (ha : at_ < 0) :
    Calls Tryd.prog 3 #[.int .i64 (n : Int), .int .i64 (k : Int), .int .u16 (s : Int), .int .i64 at_] w fun e w' => e = .returned (.bool true) ∧ Below w.heap.size w w' := by
  have HB0 := hid (Below.refl w.heap.size w)
  have HA0 : Hid (All w []) := trivial
  have HT0 := hid ht
  clear ht
  have HW := hid (wrap_pow64 hn)
  have HO := hid ho
  have HGE : Hid ((2 : Int) ^ n ≤ (s : Int)) := by rw [pow_int]; show _ ≤ _; omega
  clear ho
  go_enter Tryd.func3, Tryd.ntmps3
  go_wp2_with fail
  refine (chooseF_ok n k _ hn hk).mono ?_
  rintro e w' ⟨rfl, rfl⟩
  go_wp2_with fail
  refine (subAt_bad _ _ _ (by omega)).mono ?_
  rintro e w' ⟨rfl, rfl⟩
  go_wp2_with fail
  refine (subNext_over s n _ hs hn HO.out).mono ?_
  rintro e w' ⟨rfl, rfl⟩
  go_wp2_with fail
  refine (size_any s _ hs).mono ?_
  rintro e w2 ⟨rfl, hb⟩
  have HB1 := hid (below_step HB0.out (Nat.le_refl _) hb)
  have HA1 : Hid (All w2 []) := HA0.out.keep hb
  clear HA0 HB0
  have HT1 := hid (HT0.out.keep hb)
  clear HT0
  clear hb
  go_wp2_with fail
  refine (refOnes_any s _ hs).mono ?_
  rintro e w' ⟨rfl, rfl⟩
  go_wp2_with fail
  refine (subOf_any s _ HT1.out hs).mono ?_
  rintro e w' ⟨rfl, rfl⟩
  go_wp2_with fail
  refine (setRank_any s _ hs).mono ?_
  rintro e w' ⟨rfl, rfl⟩
  go_wp2_with fail
  refine (refChoose_any n k _ hn).mono ?_
  rintro e w3 ⟨rfl, hb⟩
  have HB2 := hid (below_step HB1.out (Nat.le_refl _) hb)
  have HA2 : Hid (All w3 []) := HA1.out.keep hb
  clear HA1 HB1
  have HT2 := hid (HT1.out.keep hb)
  clear HT1
  clear hb
  have hwp := HW.out
  have hge := HGE.out
  go_wp2
  go_ret
  exact ⟨rfl, HB2.out⟩

set_option maxHeartbeats 2000000 in
set_option maxRecDepth 100000 in
theorem subsetSays_over_over (n : Nat) (k : Nat) (s : Nat) (at_ : Int) (w : World) (ht : Tab w) (hs : s < 65536) (hn : n ≤ 16) (ho : 2 ^ n ≤ s) (hk : k ≤ 16) (ha0 : 0 ≤ at_) (ha : ((cho 16 k : Nat) : Int) ≤ at_) :
    Calls Tryd.prog 3 #[.int .i64 (n : Int), .int .i64 (k : Int), .int .u16 (s : Int), .int .i64 at_] w fun e w' => e = .returned (.bool true) ∧ Below w.heap.size w w' := by
  have HB0 := hid (Below.refl w.heap.size w)
  have HA0 : Hid (All w []) := trivial
  have HT0 := hid ht
  clear ht
  have HW := hid (wrap_pow64 hn)
  have HO := hid ho
  have HGE : Hid ((2 : Int) ^ n ≤ (s : Int)) := by rw [pow_int]; show _ ≤ _; omega
  clear ho
  have HAT := hid ha
  clear ha
  go_enter Tryd.func3, Tryd.ntmps3
  go_wp2_with fail
  refine (chooseF_ok n k _ hn hk).mono ?_
  rintro e w' ⟨rfl, rfl⟩
  go_wp2_with fail
  refine (subAt_over k _ _ hk ha0 HAT.out).mono ?_
  rintro e w' ⟨rfl, rfl⟩
  go_wp2_with fail
  refine (subNext_over s n _ hs hn HO.out).mono ?_
  rintro e w' ⟨rfl, rfl⟩
  go_wp2_with fail
  refine (size_any s _ hs).mono ?_
  rintro e w2 ⟨rfl, hb⟩
  have HB1 := hid (below_step HB0.out (Nat.le_refl _) hb)
  have HA1 : Hid (All w2 []) := HA0.out.keep hb
  clear HA0 HB0
  have HT1 := hid (HT0.out.keep hb)
  clear HT0
  clear hb
  go_wp2_with fail
  refine (refOnes_any s _ hs).mono ?_
  rintro e w' ⟨rfl, rfl⟩
  go_wp2_with fail
  refine (subOf_any s _ HT1.out hs).mono ?_
  rintro e w' ⟨rfl, rfl⟩
  go_wp2_with fail
  refine (setRank_any s _ hs).mono ?_
  rintro e w' ⟨rfl, rfl⟩
  go_wp2_with fail
  refine (refChoose_any n k _ hn).mono ?_
  rintro e w3 ⟨rfl, hb⟩
  have HB2 := hid (below_step HB1.out (Nat.le_refl _) hb)
  have HA2 : Hid (All w3 []) := HA1.out.keep hb
  clear HA1 HB1
  have HT2 := hid (HT1.out.keep hb)
  clear HT1
  clear hb
  have hat := HAT.out
  go_wp2_with fail
  refine (refChoose_any 16 k _ (by omega)).mono ?_
  rintro e w4 ⟨rfl, hb⟩
  have HB3 := hid (below_step HB2.out (Nat.le_refl _) hb)
  have HA3 : Hid (All w4 []) := HA2.out.keep hb
  clear HA2 HB2
  have HT3 := hid (HT2.out.keep hb)
  clear HT2
  clear hb
  have hwp := HW.out
  have hge := HGE.out
  go_wp2
  go_ret
  exact ⟨rfl, HB3.out⟩

set_option maxHeartbeats 2000000 in
set_option maxRecDepth 100000 in
theorem subsetSays_over_ok (n : Nat) (k : Nat) (s : Nat) (at_ : Nat) (w : World) (ht : Tab w) (hs : s < 65536) (hn : n ≤ 16) (ho : 2 ^ n ≤ s) (hk : k ≤ 16) (ha : at_ < cho 16 k) :
    Calls Tryd.prog 3 #[.int .i64 (n : Int), .int .i64 (k : Int), .int .u16 (s : Int), .int .i64 (at_ : Int)] w fun e w' => e = .returned (.bool true) ∧ Below w.heap.size w w' := by
  have HB0 := hid (Below.refl w.heap.size w)
  have HA0 : Hid (All w []) := trivial
  have HT0 := hid ht
  clear ht
  have HW := hid (wrap_pow64 hn)
  have HO := hid ho
  have HGE : Hid ((2 : Int) ^ n ≤ (s : Int)) := by rw [pow_int]; show _ ≤ _; omega
  clear ho
  have HAT := hid ha
  clear ha
  go_enter Tryd.func3, Tryd.ntmps3
  go_wp2_with fail
  refine (chooseF_ok n k _ hn hk).mono ?_
  rintro e w' ⟨rfl, rfl⟩
  go_wp2_with fail
  refine (subAt_ok k at_ _ hk HAT.out).mono ?_
  rintro e w' ⟨rfl, rfl⟩
  obtain ⟨u1, u2, u3⟩ := unr_ok HAT.out
  have HU2 := hid u2
  have HU3 := hid u3
  have u4 : unr 16 k at_ < 65536 := u1
  clear u1 u2 u3
  generalize unr 16 k at_ = t at *
  go_wp2_with fail
  refine (subNext_over s n _ hs hn HO.out).mono ?_
  rintro e w' ⟨rfl, rfl⟩
  go_wp2_with fail
  refine (size_any s _ hs).mono ?_
  rintro e w2 ⟨rfl, hb⟩
  have HB1 := hid (below_step HB0.out (Nat.le_refl _) hb)
  have HA1 : Hid (All w2 []) := HA0.out.keep hb
  clear HA0 HB0
  have HT1 := hid (HT0.out.keep hb)
  clear HT0
  clear hb
  go_wp2_with fail
  refine (refOnes_any s _ hs).mono ?_
  rintro e w' ⟨rfl, rfl⟩
  go_wp2_with fail
  refine (subOf_any s _ HT1.out hs).mono ?_
  rintro e w' ⟨rfl, rfl⟩
  go_wp2_with fail
  refine (setRank_any s _ hs).mono ?_
  rintro e w' ⟨rfl, rfl⟩
  go_wp2_with fail
  refine (refChoose_any n k _ hn).mono ?_
  rintro e w3 ⟨rfl, hb⟩
  have HB2 := hid (below_step HB1.out (Nat.le_refl _) hb)
  have HA2 : Hid (All w3 []) := HA1.out.keep hb
  clear HA1 HB1
  have HT2 := hid (HT1.out.keep hb)
  clear HT1
  clear hb
  have hat : ¬ ((cho 16 k : Nat) : Int) ≤ (at_ : Int) := by have := HAT.out; omega
  go_wp2_with fail
  refine (refChoose_any 16 k _ (by omega)).mono ?_
  rintro e w4 ⟨rfl, hb⟩
  have HB3 := hid (below_step HB2.out (Nat.le_refl _) hb)
  have HA3 : Hid (All w4 []) := HA2.out.keep hb
  clear HA2 HB2
  have HT3 := hid (HT2.out.keep hb)
  clear HT2
  clear hb
  go_wp2_with fail
  refine (refOnes_any t _ u4).mono ?_
  rintro e w' ⟨rfl, rfl⟩
  rw [HU2.out]
  go_wp2_with fail
  refine (setRank_any t _ u4).mono ?_
  rintro e w' ⟨rfl, rfl⟩
  rw [HU3.out]
  have hwp := HW.out
  have hge := HGE.out
  go_wp2
  go_ret
  exact ⟨rfl, HB3.out⟩

set_option maxHeartbeats 2000000 in
set_option maxRecDepth 100000 in
theorem subsetSays_none_low (n : Nat) (k : Int) (s : Nat) (at_ : Int) (w : World) (ht : Tab w) (hs : s < 65536) (hn : n ≤ 16) (ho : s < 2 ^ n) (hl : ¬ srk s + 1 < cho n (ones s)) (hk : k < 0)  :
    Calls Tryd.prog 3 #[.int .i64 (n : Int), .int .i64 k, .int .u16 (s : Int), .int .i64 at_] w fun e w' => e = .returned (.bool true) ∧ Below w.heap.size w w' := by
  have HB0 := hid (Below.refl w.heap.size w)
  have HA0 : Hid (All w []) := trivial
  have HT0 := hid ht
  clear ht
  have HW := hid (wrap_pow64 hn)
  have HO := hid ho
  have HGE : Hid (¬ (2 : Int) ^ n ≤ (s : Int)) := by rw [pow_int]; show ¬ _ ≤ _; omega
  clear ho
  have HL := hid hl
  clear hl
  go_enter Tryd.func3, Tryd.ntmps3
  go_wp2_with fail
  refine (chooseF_bad _ _ _ (by omega)).mono ?_
  rintro e w' ⟨rfl, rfl⟩
  go_wp2_with fail
  refine (subAt_bad _ _ _ (by omega)).mono ?_
  rintro e w' ⟨rfl, rfl⟩
  go_wp2_with fail
  refine (subNext_none s n _ hs hn HO.out HL.out).mono ?_
  rintro e w1 ⟨rfl, hb⟩
  have HB1 := hid (below_step HB0.out (Nat.le_refl _) hb)
  have HA1 : Hid (All w1 []) := HA0.out.keep hb
  clear HA0 HB0
  have HT1 := hid (HT0.out.keep hb)
  clear HT0
  clear hb
  go_wp2_with fail
  refine (size_any s _ hs).mono ?_
  rintro e w2 ⟨rfl, hb⟩
  have HB2 := hid (below_step HB1.out (Nat.le_refl _) hb)
  have HA2 : Hid (All w2 []) := HA1.out.keep hb
  clear HA1 HB1
  have HT2 := hid (HT1.out.keep hb)
  clear HT1
  clear hb
  go_wp2_with fail
  refine (refOnes_any s _ hs).mono ?_
  rintro e w' ⟨rfl, rfl⟩
  go_wp2_with fail
  refine (subOf_any s _ HT2.out hs).mono ?_
  rintro e w' ⟨rfl, rfl⟩
  go_wp2_with fail
  refine (setRank_any s _ hs).mono ?_
  rintro e w' ⟨rfl, rfl⟩
  have hwp := HW.out
  have hge := HGE.out
  go_wp2_with fail
  refine (setNext_none s n _ hs hn HO.out HL.out).mono ?_
  rintro e w' ⟨rfl, rfl⟩
  go_wp2
  go_ret
  exact ⟨rfl, HB2.out⟩

set_option maxHeartbeats 2000000 in
set_option maxRecDepth 100000 in
theorem subsetSays_none_high (n : Nat) (k : Int) (s : Nat) (at_ : Int) (w : World) (ht : Tab w) (hs : s < 65536) (hn : n ≤ 16) (ho : s < 2 ^ n) (hl : ¬ srk s + 1 < cho n (ones s)) (hk : 16 < k)  :
    Calls Tryd.prog 3 #[.int .i64 (n : Int), .int .i64 k, .int .u16 (s : Int), .int .i64 at_] w fun e w' => e = .returned (.bool true) ∧ Below w.heap.size w w' := by
  have HB0 := hid (Below.refl w.heap.size w)
  have HA0 : Hid (All w []) := trivial
  have HT0 := hid ht
  clear ht
  have HW := hid (wrap_pow64 hn)
  have HO := hid ho
  have HGE : Hid (¬ (2 : Int) ^ n ≤ (s : Int)) := by rw [pow_int]; show ¬ _ ≤ _; omega
  clear ho
  have HL := hid hl
  clear hl
  go_enter Tryd.func3, Tryd.ntmps3
  go_wp2_with fail
  refine (chooseF_bad _ _ _ (by omega)).mono ?_
  rintro e w' ⟨rfl, rfl⟩
  go_wp2_with fail
  refine (subAt_bad _ _ _ (by omega)).mono ?_
  rintro e w' ⟨rfl, rfl⟩
  go_wp2_with fail
  refine (subNext_none s n _ hs hn HO.out HL.out).mono ?_
  rintro e w1 ⟨rfl, hb⟩
  have HB1 := hid (below_step HB0.out (Nat.le_refl _) hb)
  have HA1 : Hid (All w1 []) := HA0.out.keep hb
  clear HA0 HB0
  have HT1 := hid (HT0.out.keep hb)
  clear HT0
  clear hb
  go_wp2_with fail
  refine (size_any s _ hs).mono ?_
  rintro e w2 ⟨rfl, hb⟩
  have HB2 := hid (below_step HB1.out (Nat.le_refl _) hb)
  have HA2 : Hid (All w2 []) := HA1.out.keep hb
  clear HA1 HB1
  have HT2 := hid (HT1.out.keep hb)
  clear HT1
  clear hb
  go_wp2_with fail
  refine (refOnes_any s _ hs).mono ?_
  rintro e w' ⟨rfl, rfl⟩
  go_wp2_with fail
  refine (subOf_any s _ HT2.out hs).mono ?_
  rintro e w' ⟨rfl, rfl⟩
  go_wp2_with fail
  refine (setRank_any s _ hs).mono ?_
  rintro e w' ⟨rfl, rfl⟩
  have hwp := HW.out
  have hge := HGE.out
  go_wp2_with fail
  refine (setNext_none s n _ hs hn HO.out HL.out).mono ?_
  rintro e w' ⟨rfl, rfl⟩
  go_wp2
  go_ret
  exact ⟨rfl, HB2.out⟩

set_option maxHeartbeats 2000000 in
set_option maxRecDepth 100000 in
theorem subsetSays_none_neg (n : Nat) (k : Nat) (s : Nat) (at_ : Int) (w : World) (ht : Tab w) (hs : s < 65536) (hn : n ≤ 16) (ho : s < 2 ^ n) (hl : ¬ srk s + 1 < cho n (ones s)) (hk : k ≤ 16) (ha : at_ < 0) :
    Calls Tryd.prog 3 #[.int .i64 (n : Int), .int .i64 (k : Int), .int .u16 (s : Int), .int .i64 at_] w fun e w' => e = .returned (.bool true) ∧ Below w.heap.size w w' := by
  have HB0 := hid (Below.refl w.heap.size w)
  have HA0 : Hid (All w []) := trivial
  have HT0 := hid ht
  clear ht
  have HW := hid (wrap_pow64 hn)
  have HO := hid ho
  have HGE : Hid (¬ (2 : Int) ^ n ≤ (s : Int)) := by rw [pow_int]; show ¬ _ ≤ _; omega
  clear ho
  have HL := hid hl
  clear hl
  go_enter Tryd.func3, Tryd.ntmps3
  go_wp2_with fail
  refine (chooseF_ok n k _ hn hk).mono ?_
  rintro e w' ⟨rfl, rfl⟩
  go_wp2_with fail
  refine (subAt_bad _ _ _ (by omega)).mono ?_
  rintro e w' ⟨rfl, rfl⟩
  go_wp2_with fail
  refine (subNext_none s n _ hs hn HO.out HL.out).mono ?_
  rintro e w1 ⟨rfl, hb⟩
  have HB1 := hid (below_step HB0.out (Nat.le_refl _) hb)
  have HA1 : Hid (All w1 []) := HA0.out.keep hb
  clear HA0 HB0
  have HT1 := hid (HT0.out.keep hb)
  clear HT0
  clear hb
  go_wp2_with fail
  refine (size_any s _ hs).mono ?_
  rintro e w2 ⟨rfl, hb⟩
  have HB2 := hid (below_step HB1.out (Nat.le_refl _) hb)
  have HA2 : Hid (All w2 []) := HA1.out.keep hb
  clear HA1 HB1
  have HT2 := hid (HT1.out.keep hb)
  clear HT1
  clear hb
  go_wp2_with fail
  refine (refOnes_any s _ hs).mono ?_
  rintro e w' ⟨rfl, rfl⟩
  go_wp2_with fail
  refine (subOf_any s _ HT2.out hs).mono ?_
  rintro e w' ⟨rfl, rfl⟩
  go_wp2_with fail
  refine (setRank_any s _ hs).mono ?_
  rintro e w' ⟨rfl, rfl⟩
  go_wp2_with fail
  refine (refChoose_any n k _ hn).mono ?_
  rintro e w3 ⟨rfl, hb⟩
  have HB3 := hid (below_step HB2.out (Nat.le_refl _) hb)
  have HA3 : Hid (All w3 []) := HA2.out.keep hb
  clear HA2 HB2
  have HT3 := hid (HT2.out.keep hb)
  clear HT2
  clear hb
  have hwp := HW.out
  have hge := HGE.out
  go_wp2_with fail
  refine (setNext_none s n _ hs hn HO.out HL.out).mono ?_
  rintro e w' ⟨rfl, rfl⟩
  go_wp2
  go_ret
  exact ⟨rfl, HB3.out⟩

set_option maxHeartbeats 2000000 in
set_option maxRecDepth 100000 in
theorem subsetSays_none_over (n : Nat) (k : Nat) (s : Nat) (at_ : Int) (w : World) (ht : Tab w) (hs : s < 65536) (hn : n ≤ 16) (ho : s < 2 ^ n) (hl : ¬ srk s + 1 < cho n (ones s)) (hk : k ≤ 16) (ha0 : 0 ≤ at_) (ha : ((cho 16 k : Nat) : Int) ≤ at_) :
    Calls Tryd.prog 3 #[.int .i64 (n : Int), .int .i64 (k : Int), .int .u16 (s : Int), .int .i64 at_] w fun e w' => e = .returned (.bool true) ∧ Below w.heap.size w w' := by
  have HB0 := hid (Below.refl w.heap.size w)
  have HA0 : Hid (All w []) := trivial
  have HT0 := hid ht
  clear ht
  have HW := hid (wrap_pow64 hn)
  have HO := hid ho
  have HGE : Hid (¬ (2 : Int) ^ n ≤ (s : Int)) := by rw [pow_int]; show ¬ _ ≤ _; omega
  clear ho
  have HL := hid hl
  clear hl
  have HAT := hid ha
  clear ha
  go_enter Tryd.func3, Tryd.ntmps3
  go_wp2_with fail
  refine (chooseF_ok n k _ hn hk).mono ?_
  rintro e w' ⟨rfl, rfl⟩
  go_wp2_with fail
  refine (subAt_over k _ _ hk ha0 HAT.out).mono ?_
  rintro e w' ⟨rfl, rfl⟩
  go_wp2_with fail
  refine (subNext_none s n _ hs hn HO.out HL.out).mono ?_
  rintro e w1 ⟨rfl, hb⟩
  have HB1 := hid (below_step HB0.out (Nat.le_refl _) hb)
  have HA1 : Hid (All w1 []) := HA0.out.keep hb
  clear HA0 HB0
  have HT1 := hid (HT0.out.keep hb)
  clear HT0
  clear hb
  go_wp2_with fail
  refine (size_any s _ hs).mono ?_
  rintro e w2 ⟨rfl, hb⟩
  have HB2 := hid (below_step HB1.out (Nat.le_refl _) hb)
  have HA2 : Hid (All w2 []) := HA1.out.keep hb
  clear HA1 HB1
  have HT2 := hid (HT1.out.keep hb)
  clear HT1
  clear hb
  go_wp2_with fail
  refine (refOnes_any s _ hs).mono ?_
  rintro e w' ⟨rfl, rfl⟩
  go_wp2_with fail
  refine (subOf_any s _ HT2.out hs).mono ?_
  rintro e w' ⟨rfl, rfl⟩
  go_wp2_with fail
  refine (setRank_any s _ hs).mono ?_
  rintro e w' ⟨rfl, rfl⟩
  go_wp2_with fail
  refine (refChoose_any n k _ hn).mono ?_
  rintro e w3 ⟨rfl, hb⟩
  have HB3 := hid (below_step HB2.out (Nat.le_refl _) hb)
  have HA3 : Hid (All w3 []) := HA2.out.keep hb
  clear HA2 HB2
  have HT3 := hid (HT2.out.keep hb)
  clear HT2
  clear hb
  have hat := HAT.out
  go_wp2_with fail
  refine (refChoose_any 16 k _ (by omega)).mono ?_
  rintro e w4 ⟨rfl, hb⟩
  have HB4 := hid (below_step HB3.out (Nat.le_refl _) hb)
  have HA4 : Hid (All w4 []) := HA3.out.keep hb
  clear HA3 HB3
  have HT4 := hid (HT3.out.keep hb)
  clear HT3
  clear hb
  have hwp := HW.out
  have hge := HGE.out
  go_wp2_with fail
  refine (setNext_none s n _ hs hn HO.out HL.out).mono ?_
  rintro e w' ⟨rfl, rfl⟩
  go_wp2
  go_ret
  exact ⟨rfl, HB4.out⟩

set_option maxHeartbeats 2000000 in
set_option maxRecDepth 100000 in
theorem subsetSays_none_ok (n : Nat) (k : Nat) (s : Nat) (at_ : Nat) (w : World) (ht : Tab w) (hs : s < 65536) (hn : n ≤ 16) (ho : s < 2 ^ n) (hl : ¬ srk s + 1 < cho n (ones s)) (hk : k ≤ 16) (ha : at_ < cho 16 k) :
    Calls Tryd.prog 3 #[.int .i64 (n : Int), .int .i64 (k : Int), .int .u16 (s : Int), .int .i64 (at_ : Int)] w fun e w' => e = .returned (.bool true) ∧ Below w.heap.size w w' := by
  have HB0 := hid (Below.refl w.heap.size w)
  have HA0 : Hid (All w []) := trivial
  have HT0 := hid ht
  clear ht
  have HW := hid (wrap_pow64 hn)
  have HO := hid ho
  have HGE : Hid (¬ (2 : Int) ^ n ≤ (s : Int)) := by rw [pow_int]; show ¬ _ ≤ _; omega
  clear ho
  have HL := hid hl
  clear hl
  have HAT := hid ha
  clear ha
  go_enter Tryd.func3, Tryd.ntmps3
  go_wp2_with fail
  refine (chooseF_ok n k _ hn hk).mono ?_
  rintro e w' ⟨rfl, rfl⟩
  go_wp2_with fail
  refine (subAt_ok k at_ _ hk HAT.out).mono ?_
  rintro e w' ⟨rfl, rfl⟩
  obtain ⟨u1, u2, u3⟩ := unr_ok HAT.out
  have HU2 := hid u2
  have HU3 := hid u3
  have u4 : unr 16 k at_ < 65536 := u1
  clear u1 u2 u3
  generalize unr 16 k at_ = t at *
  go_wp2_with fail
  refine (subNext_none s n _ hs hn HO.out HL.out).mono ?_
  rintro e w1 ⟨rfl, hb⟩
  have HB1 := hid (below_step HB0.out (Nat.le_refl _) hb)
  have HA1 : Hid (All w1 []) := HA0.out.keep hb
  clear HA0 HB0
  have HT1 := hid (HT0.out.keep hb)
  clear HT0
  clear hb
  go_wp2_with fail
  refine (size_any s _ hs).mono ?_
  rintro e w2 ⟨rfl, hb⟩
  have HB2 := hid (below_step HB1.out (Nat.le_refl _) hb)
  have HA2 : Hid (All w2 []) := HA1.out.keep hb
  clear HA1 HB1
  have HT2 := hid (HT1.out.keep hb)
  clear HT1
  clear hb
  go_wp2_with fail
  refine (refOnes_any s _ hs).mono ?_
  rintro e w' ⟨rfl, rfl⟩
  go_wp2_with fail
  refine (subOf_any s _ HT2.out hs).mono ?_
  rintro e w' ⟨rfl, rfl⟩
  go_wp2_with fail
  refine (setRank_any s _ hs).mono ?_
  rintro e w' ⟨rfl, rfl⟩
  go_wp2_with fail
  refine (refChoose_any n k _ hn).mono ?_
  rintro e w3 ⟨rfl, hb⟩
  have HB3 := hid (below_step HB2.out (Nat.le_refl _) hb)
  have HA3 : Hid (All w3 []) := HA2.out.keep hb
  clear HA2 HB2
  have HT3 := hid (HT2.out.keep hb)
  clear HT2
  clear hb
  have hat : ¬ ((cho 16 k : Nat) : Int) ≤ (at_ : Int) := by have := HAT.out; omega
  go_wp2_with fail
  refine (refChoose_any 16 k _ (by omega)).mono ?_
  rintro e w4 ⟨rfl, hb⟩
  have HB4 := hid (below_step HB3.out (Nat.le_refl _) hb)
  have HA4 : Hid (All w4 []) := HA3.out.keep hb
  clear HA3 HB3
  have HT4 := hid (HT3.out.keep hb)
  clear HT3
  clear hb
  go_wp2_with fail
  refine (refOnes_any t _ u4).mono ?_
  rintro e w' ⟨rfl, rfl⟩
  rw [HU2.out]
  go_wp2_with fail
  refine (setRank_any t _ u4).mono ?_
  rintro e w' ⟨rfl, rfl⟩
  rw [HU3.out]
  have hwp := HW.out
  have hge := HGE.out
  go_wp2_with fail
  refine (setNext_none s n _ hs hn HO.out HL.out).mono ?_
  rintro e w' ⟨rfl, rfl⟩
  go_wp2
  go_ret
  exact ⟨rfl, HB4.out⟩

theorem subsetSays_over (n : Nat) (k : Int) (s : Nat) (at_ : Int) (w : World) (ht : Tab w) (hs : s < 65536) (hn : n ≤ 16) (ho : 2 ^ n ≤ s) :
    Calls Tryd.prog 3 #[.int .i64 (n : Int), .int .i64 k, .int .u16 (s : Int), .int .i64 at_] w fun e w' => e = .returned (.bool true) ∧ Below w.heap.size w w' := by
  by_cases h1 : k < 0
  · exact subsetSays_over_low n k s at_ w ht hs hn ho h1
  by_cases h2 : 16 < k
  · exact subsetSays_over_high n k s at_ w ht hs hn ho h2
  obtain ⟨k, rfl⟩ := Int.eq_ofNat_of_zero_le (show 0 ≤ k by omega)
  by_cases h3 : at_ < 0
  · exact subsetSays_over_neg n k s at_ w ht hs hn ho (by omega) h3
  by_cases h4 : ((cho 16 k : Nat) : Int) ≤ at_
  · exact subsetSays_over_over n k s at_ w ht hs hn ho (by omega) (by omega) h4
  obtain ⟨a, rfl⟩ := Int.eq_ofNat_of_zero_le (show 0 ≤ at_ by omega)
  exact subsetSays_over_ok n k s a w ht hs hn ho (by omega) (by omega)

theorem subsetSays_none (n : Nat) (k : Int) (s : Nat) (at_ : Int) (w : World) (ht : Tab w) (hs : s < 65536) (hn : n ≤ 16) (ho : s < 2 ^ n) (hl : ¬ srk s + 1 < cho n (ones s)) :
    Calls Tryd.prog 3 #[.int .i64 (n : Int), .int .i64 k, .int .u16 (s : Int), .int .i64 at_] w fun e w' => e = .returned (.bool true) ∧ Below w.heap.size w w' := by
  by_cases h1 : k < 0
  · exact subsetSays_none_low n k s at_ w ht hs hn ho hl h1
  by_cases h2 : 16 < k
  · exact subsetSays_none_high n k s at_ w ht hs hn ho hl h2
  obtain ⟨k, rfl⟩ := Int.eq_ofNat_of_zero_le (show 0 ≤ k by omega)
  by_cases h3 : at_ < 0
  · exact subsetSays_none_neg n k s at_ w ht hs hn ho hl (by omega) h3
  by_cases h4 : ((cho 16 k : Nat) : Int) ≤ at_
  · exact subsetSays_none_over n k s at_ w ht hs hn ho hl (by omega) (by omega) h4
  obtain ⟨a, rfl⟩ := Int.eq_ofNat_of_zero_le (show 0 ≤ at_ by omega)
  exact subsetSays_none_ok n k s a w ht hs hn ho hl (by omega) (by omega)

end Go.Proofs.YtnoacmnhinoohaaDoor
