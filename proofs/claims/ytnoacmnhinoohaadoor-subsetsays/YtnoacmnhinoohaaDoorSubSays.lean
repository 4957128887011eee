/-
  Proved: castlaw.SubsetSays returns true whatever its arguments.
-/
import Derived.Test.YtnoacmnhinoohaaDoorSubSaysB
namespace Go.Proofs.YtnoacmnhinoohaaDoor
open Go.RowKit

set_option maxHeartbeats 2000000 in
set_option maxRecDepth 100000 in
theorem subsetSays_ok_low (n : Nat) (k : Int) (s : Nat) (at_ : Int) (w : World) (ht : Tab w) (hs : s < 65536) (hn : n ≤ 16) (ho : s < 2 ^ n) (hl : srk s + 1 < cho n (ones s)) (hk : k < 0)  :
    Calls Tryd.prog 3 #[.int .i64 (n : Int), .int .i64 k, .int .u16 (s : Int), .int .i64 at_] w fun e w' => e = .returned (.bool true) ∧ Below w.heap.size w w' := by
  have HB0 := hid (Below.refl w.heap.size w)
  have HA0 : Hid (All w []) := trivial
  have HT0 := hid ht
  clear ht
  have HW := hid (wrap_pow64 hn)
  have HO := hid ho
  have HGE : Hid (¬ (2 : Int) ^ n ≤ (s : Int)) := by rw [pow_int]; show ¬ _ ≤ _; omega
  clear ho
  have HL := hid hl
  clear hl
  go_enter Tryd.func3, Tryd.ntmps3
  go_wp2_with fail
  refine (chooseF_bad _ _ _ (by omega)).mono ?_
  rintro e w' ⟨rfl, rfl⟩
  go_wp2_with fail
  refine (subAt_bad _ _ _ (by omega)).mono ?_
  rintro e w' ⟨rfl, rfl⟩
  go_wp2_with fail
  refine (subNext_ok s n _ hs hn HO.out HL.out).mono ?_
  rintro e w1 ⟨rfl, hb⟩
  have HB1 := hid (below_step HB0.out (Nat.le_refl _) hb)
  have HA1 : Hid (All w1 []) := HA0.out.keep hb
  clear HA0 HB0
  have HT1 := hid (HT0.out.keep hb)
  clear HT0
  clear hb
  have HSN := hid (fun w => setNext_ok s n w hs hn HO.out HL.out)
  have hu9 : unr n (ones s) (srk s + 1) < 65536 := by have h1 := (unr_ok HL.out).1; have h2 : 2 ^ n ≤ 2 ^ 16 := Nat.pow_le_pow_right (by omega) hn; omega
  generalize unr n (ones s) (srk s + 1) = x at *
  go_wp2_with fail
  refine (size_any s _ hs).mono ?_
  rintro e w2 ⟨rfl, hb⟩
  have HB2 := hid (below_step HB1.out (Nat.le_refl _) hb)
  have HA2 : Hid (All w2 []) := HA1.out.keep hb
  clear HA1 HB1
  have HT2 := hid (HT1.out.keep hb)
  clear HT1
  clear hb
  go_wp2_with fail
  refine (refOnes_any s _ hs).mono ?_
  rintro e w' ⟨rfl, rfl⟩
  go_wp2_with fail
  refine (subOf_any s _ HT2.out hs).mono ?_
  rintro e w' ⟨rfl, rfl⟩
  go_wp2_with fail
  refine (setRank_any s _ hs).mono ?_
  rintro e w' ⟨rfl, rfl⟩
  have hwp := HW.out
  have hge := HGE.out
  go_wp2_with fail
  refine (HSN.out _).mono ?_
  rintro e w' ⟨rfl, rfl⟩
  go_wp2
  go_ret
  exact ⟨rfl, HB2.out⟩

set_option maxHeartbeats 2000000 in
set_option maxRecDepth 100000 in
theorem subsetSays_ok_high (n : Nat) (k : Int) (s : Nat) (at_ : Int) (w : World) (ht : Tab w) (hs : s < 65536) (hn : n ≤ 16) (ho : s < 2 ^ n) (hl : srk s + 1 < cho n (ones s)) (hk : 16 < k)  :
    Calls Tryd.prog 3 #[.int .i64 (n : Int), .int .i64 k, .int .u16 (s : Int), .int .i64 at_] w fun e w' => e = .returned (.bool true) ∧ Below w.heap.size w w' := by
  have HB0 := hid (Below.refl w.heap.size w)
  have HA0 : Hid (All w []) := trivial
  have HT0 := hid ht
  clear ht
  have HW := hid (wrap_pow64 hn)
  have HO := hid ho
  have HGE : Hid (¬ (2 : Int) ^ n ≤ (s : Int)) := by rw [pow_int]; show ¬ _ ≤ _; omega
  clear ho
  have HL := hid hl
  clear hl
  go_enter Tryd.func3, Tryd.ntmps3
  go_wp2_with fail
  refine (chooseF_bad _ _ _ (by omega)).mono ?_
  rintro e w' ⟨rfl, rfl⟩
  go_wp2_with fail
  refine (subAt_bad _ _ _ (by omega)).mono ?_
  rintro e w' ⟨rfl, rfl⟩
  go_wp2_with fail
  refine (subNext_ok s n _ hs hn HO.out HL.out).mono ?_
  rintro e w1 ⟨rfl, hb⟩
  have HB1 := hid (below_step HB0.out (Nat.le_refl _) hb)
  have HA1 : Hid (All w1 []) := HA0.out.keep hb
  clear HA0 HB0
  have HT1 := hid (HT0.out.keep hb)
  clear HT0
  clear hb
  have HSN := hid (fun w => setNext_ok s n w hs hn HO.out HL.out)
  have hu9 : unr n (ones s) (srk s + 1) < 65536 := by have h1 := (unr_ok HL.out).1; have h2 : 2 ^ n ≤ 2 ^ 16 := Nat.pow_le_pow_right (by omega) hn; omega
  generalize unr n (ones s) (srk s + 1) = x at *
  go_wp2_with fail
  refine (size_any s _ hs).mono ?_
  rintro e w2 ⟨rfl, hb⟩
  have HB2 := hid (below_step HB1.out (Nat.le_refl _) hb)
  have HA2 : Hid (All w2 []) := HA1.out.keep hb
  clear HA1 HB1
  have HT2 := hid (HT1.out.keep hb)
  clear HT1
  clear hb
  go_wp2_with fail
  refine (refOnes_any s _ hs).mono ?_
  rintro e w' ⟨rfl, rfl⟩
  go_wp2_with fail
  refine (subOf_any s _ HT2.out hs).mono ?_
  rintro e w' ⟨rfl, rfl⟩
  go_wp2_with fail
  refine (setRank_any s _ hs).mono ?_
  rintro e w' ⟨rfl, rfl⟩
  have hwp := HW.out
  have hge := HGE.out
  go_wp2_with fail
  refine (HSN.out _).mono ?_
  rintro e w' ⟨rfl, rfl⟩
  go_wp2
  go_ret
  exact ⟨rfl, HB2.out⟩

set_option maxHeartbeats 2000000 in
set_option maxRecDepth 100000 in
theorem subsetSays_ok_neg (n : Nat) (k : Nat) (s : Nat) (at_ : Int) (w : World) (ht : Tab w) (hs : s < 65536) (hn : n ≤ 16) (ho : s < 2 ^ n) (hl : srk s + 1 < cho n (ones s)) (hk : k ≤ 16) (ha : at_ < 0) :
    Calls Tryd.prog 3 #[.int .i64 (n : Int), .int .i64 (k : Int), .int .u16 (s : Int), .int .i64 at_] w fun e w' => e = .returned (.bool true) ∧ Below w.heap.size w w' := by
  have HB0 := hid (Below.refl w.heap.size w)
  have HA0 : Hid (All w []) := trivial
  have HT0 := hid ht
  clear ht
  have HW := hid (wrap_pow64 hn)
  have HO := hid ho
  have HGE : Hid (¬ (2 : Int) ^ n ≤ (s : Int)) := by rw [pow_int]; show ¬ _ ≤ _; omega
  clear ho
  have HL := hid hl
  clear hl
  go_enter Tryd.func3, Tryd.ntmps3
  go_wp2_with fail
  refine (chooseF_ok n k _ hn hk).mono ?_
  rintro e w' ⟨rfl, rfl⟩
  go_wp2_with fail
  refine (subAt_bad _ _ _ (by omega)).mono ?_
  rintro e w' ⟨rfl, rfl⟩
  go_wp2_with fail
  refine (subNext_ok s n _ hs hn HO.out HL.out).mono ?_
  rintro e w1 ⟨rfl, hb⟩
  have HB1 := hid (below_step HB0.out (Nat.le_refl _) hb)
  have HA1 : Hid (All w1 []) := HA0.out.keep hb
  clear HA0 HB0
  have HT1 := hid (HT0.out.keep hb)
  clear HT0
  clear hb
  have HSN := hid (fun w => setNext_ok s n w hs hn HO.out HL.out)
  have hu9 : unr n (ones s) (srk s + 1) < 65536 := by have h1 := (unr_ok HL.out).1; have h2 : 2 ^ n ≤ 2 ^ 16 := Nat.pow_le_pow_right (by omega) hn; omega
  generalize unr n (ones s) (srk s + 1) = x at *
  go_wp2_with fail
  refine (size_any s _ hs).mono ?_
  rintro e w2 ⟨rfl, hb⟩
  have HB2 := hid (below_step HB1.out (Nat.le_refl _) hb)
  have HA2 : Hid (All w2 []) := HA1.out.keep hb
  clear HA1 HB1
  have HT2 := hid (HT1.out.keep hb)
  clear HT1
  clear hb
  go_wp2_with fail
  refine (refOnes_any s _ hs).mono ?_
  rintro e w' ⟨rfl, rfl⟩
  go_wp2_with fail
  refine (subOf_any s _ HT2.out hs).mono ?_
  rintro e w' ⟨rfl, rfl⟩
  go_wp2_with fail
  refine (setRank_any s _ hs).mono ?_
  rintro e w' ⟨rfl, rfl⟩
  go_wp2_with fail
  refine (refChoose_any n k _ hn).mono ?_
  rintro e w3 ⟨rfl, hb⟩
  have HB3 := hid (below_step HB2.out (Nat.le_refl _) hb)
  have HA3 : Hid (All w3 []) := HA2.out.keep hb
  clear HA2 HB2
  have HT3 := hid (HT2.out.keep hb)
  clear HT2
  clear hb
  have hwp := HW.out
  have hge := HGE.out
  go_wp2_with fail
  refine (HSN.out _).mono ?_
  rintro e w' ⟨rfl, rfl⟩
  go_wp2
  go_ret
  exact ⟨rfl, HB3.out⟩

set_option maxHeartbeats 2000000 in
set_option maxRecDepth 100000 in
theorem subsetSays_ok_over (n : Nat) (k : Nat) (s : Nat) (at_ : Int) (w : World) (ht : Tab w) (hs : s < 65536) (hn : n ≤ 16) (ho : s < 2 ^ n) (hl : srk s + 1 < cho n (ones s)) (hk : k ≤ 16) (ha0 : 0 ≤ at_) (ha : ((cho 16 k : Nat) : Int) ≤ at_) :
    Calls Tryd.prog 3 #[.int .i64 (n : Int), .int .i64 (k : Int), .int .u16 (s : Int), .int .i64 at_] w fun e w' => e = .returned (.bool true) ∧ Below w.heap.size w w' := by
  have HB0 := hid (Below.refl w.heap.size w)
  have HA0 : Hid (All w []) := trivial
  have HT0 := hid ht
  clear ht
  have HW := hid (wrap_pow64 hn)
  have HO := hid ho
  have HGE : Hid (¬ (2 : Int) ^ n ≤ (s : Int)) := by rw [pow_int]; show ¬ _ ≤ _; omega
  clear ho
  have HL := hid hl
  clear hl
  have HAT := hid ha
  clear ha
  go_enter Tryd.func3, Tryd.ntmps3
  go_wp2_with fail
  refine (chooseF_ok n k _ hn hk).mono ?_
  rintro e w' ⟨rfl, rfl⟩
  go_wp2_with fail
  refine (subAt_over k _ _ hk ha0 HAT.out).mono ?_
  rintro e w' ⟨rfl, rfl⟩
  go_wp2_with fail
  refine (subNext_ok s n _ hs hn HO.out HL.out).mono ?_
  rintro e w1 ⟨rfl, hb⟩
  have HB1 := hid (below_step HB0.out (Nat.le_refl _) hb)
  have HA1 : Hid (All w1 []) := HA0.out.keep hb
  clear HA0 HB0
  have HT1 := hid (HT0.out.keep hb)
  clear HT0
  clear hb
  have HSN := hid (fun w => setNext_ok s n w hs hn HO.out HL.out)
  have hu9 : unr n (ones s) (srk s + 1) < 65536 := by have h1 := (unr_ok HL.out).1; have h2 : 2 ^ n ≤ 2 ^ 16 := Nat.pow_le_pow_right (by omega) hn; omega
  generalize unr n (ones s) (srk s + 1) = x at *
  go_wp2_with fail
  refine (size_any s _ hs).mono ?_
  rintro e w2 ⟨rfl, hb⟩
  have HB2 := hid (below_step HB1.out (Nat.le_refl _) hb)
  have HA2 : Hid (All w2 []) := HA1.out.keep hb
  clear HA1 HB1
  have HT2 := hid (HT1.out.keep hb)
  clear HT1
  clear hb
  go_wp2_with fail
  refine (refOnes_any s _ hs).mono ?_
  rintro e w' ⟨rfl, rfl⟩
  go_wp2_with fail
  refine (subOf_any s _ HT2.out hs).mono ?_
  rintro e w' ⟨rfl, rfl⟩
  go_wp2_with fail
  refine (setRank_any s _ hs).mono ?_
  rintro e w' ⟨rfl, rfl⟩
  go_wp2_with fail
  refine (refChoose_any n k _ hn).mono ?_
  rintro e w3 ⟨rfl, hb⟩
  have HB3 := hid (below_step HB2.out (Nat.le_refl _) hb)
  have HA3 : Hid (All w3 []) := HA2.out.keep hb
  clear HA2 HB2
  have HT3 := hid (HT2.out.keep hb)
  clear HT2
  clear hb
  have hat := HAT.out
  go_wp2_with fail
  refine (refChoose_any 16 k _ (by omega)).mono ?_
  rintro e w4 ⟨rfl, hb⟩
  have HB4 := hid (below_step HB3.out (Nat.le_refl _) hb)
  have HA4 : Hid (All w4 []) := HA3.out.keep hb
  clear HA3 HB3
  have HT4 := hid (HT3.out.keep hb)
  clear HT3
  clear hb
  have hwp := HW.out
  have hge := HGE.out
  go_wp2_with fail
  refine (HSN.out _).mono ?_
  rintro e w' ⟨rfl, rfl⟩
  go_wp2
  go_ret
  exact ⟨rfl, HB4.out⟩

set_option maxHeartbeats 2000000 in
set_option maxRecDepth 100000 in
theorem subsetSays_ok_ok (n : Nat) (k : Nat) (s : Nat) (at_ : Nat) (w : World) (ht : Tab w) (hs : s < 65536) (hn : n ≤ 16) (ho : s < 2 ^ n) (hl : srk s + 1 < cho n (ones s)) (hk : k ≤ 16) (ha : at_ < cho 16 k) :
    Calls Tryd.prog 3 #[.int .i64 (n : Int), .int .i64 (k : Int), .int .u16 (s : Int), .int .i64 (at_ : Int)] w fun e w' => e = .returned (.bool true) ∧ Below w.heap.size w w' := by
  have HB0 := hid (Below.refl w.heap.size w)
  have HA0 : Hid (All w []) := trivial
  have HT0 := hid ht
  clear ht
  have HW := hid (wrap_pow64 hn)
  have HO := hid ho
  have HGE : Hid (¬ (2 : Int) ^ n ≤ (s : Int)) := by rw [pow_int]; show ¬ _ ≤ _; omega
  clear ho
  have HL := hid hl
  clear hl
  have HAT := hid ha
  clear ha
  go_enter Tryd.func3, Tryd.ntmps3
  go_wp2_with fail
  refine (chooseF_ok n k _ hn hk).mono ?_
  rintro e w' ⟨rfl, rfl⟩
  go_wp2_with fail
  refine (subAt_ok k at_ _ hk HAT.out).mono ?_
  rintro e w' ⟨rfl, rfl⟩
  obtain ⟨u1, u2, u3⟩ := unr_ok HAT.out
  have HU2 := hid u2
  have HU3 := hid u3
  have u4 : unr 16 k at_ < 65536 := u1
  clear u1 u2 u3
  generalize unr 16 k at_ = t at *
  go_wp2_with fail
  refine (subNext_ok s n _ hs hn HO.out HL.out).mono ?_
  rintro e w1 ⟨rfl, hb⟩
  have HB1 := hid (below_step HB0.out (Nat.le_refl _) hb)
  have HA1 : Hid (All w1 []) := HA0.out.keep hb
  clear HA0 HB0
  have HT1 := hid (HT0.out.keep hb)
  clear HT0
  clear hb
  have HSN := hid (fun w => setNext_ok s n w hs hn HO.out HL.out)
  have hu9 : unr n (ones s) (srk s + 1) < 65536 := by have h1 := (unr_ok HL.out).1; have h2 : 2 ^ n ≤ 2 ^ 16 := Nat.pow_le_pow_right (by omega) hn; omega
  generalize unr n (ones s) (srk s + 1) = x at *
  go_wp2_with fail
  refine (size_any s _ hs).mono ?_
  rintro e w2 ⟨rfl, hb⟩
  have HB2 := hid (below_step HB1.out (Nat.le_refl _) hb)
  have HA2 : Hid (All w2 []) := HA1.out.keep hb
  clear HA1 HB1
  have HT2 := hid (HT1.out.keep hb)
  clear HT1
  clear hb
  go_wp2_with fail
  refine (refOnes_any s _ hs).mono ?_
  rintro e w' ⟨rfl, rfl⟩
  go_wp2_with fail
  refine (subOf_any s _ HT2.out hs).mono ?_
  rintro e w' ⟨rfl, rfl⟩
  go_wp2_with fail
  refine (setRank_any s _ hs).mono ?_
  rintro e w' ⟨rfl, rfl⟩
  go_wp2_with fail
  refine (refChoose_any n k _ hn).mono ?_
  rintro e w3 ⟨rfl, hb⟩
  have HB3 := hid (below_step HB2.out (Nat.le_refl _) hb)
  have HA3 : Hid (All w3 []) := HA2.out.keep hb
  clear HA2 HB2
  have HT3 := hid (HT2.out.keep hb)
  clear HT2
  clear hb
  have hat : ¬ ((cho 16 k : Nat) : Int) ≤ (at_ : Int) := by have := HAT.out; omega
  go_wp2_with fail
  refine (refChoose_any 16 k _ (by omega)).mono ?_
  rintro e w4 ⟨rfl, hb⟩
  have HB4 := hid (below_step HB3.out (Nat.le_refl _) hb)
  have HA4 : Hid (All w4 []) := HA3.out.keep hb
  clear HA3 HB3
  have HT4 := hid (HT3.out.keep hb)
  clear HT3
  clear hb
  go_wp2_with fail
  refine (refOnes_any t _ u4).mono ?_
  rintro e w' ⟨rfl, rfl⟩
  rw [HU2.out]
  go_wp2_with fail
  refine (setRank_any t _ u4).mono ?_
  rintro e w' ⟨rfl, rfl⟩
  rw [HU3.out]
  have hwp := HW.out
  have hge := HGE.out
  go_wp2_with fail
  refine (HSN.out _).mono ?_
  rintro e w' ⟨rfl, rfl⟩
  go_wp2
  go_ret
  exact ⟨rfl, HB4.out⟩

theorem subsetSays_ok (n : Nat) (k : Int) (s : Nat) (at_ : Int) (w : World) (ht : Tab w) (hs : s < 65536) (hn : n ≤ 16) (ho : s < 2 ^ n) (hl : srk s + 1 < cho n (ones s)) :
    Calls Tryd.prog 3 #[.int .i64 (n : Int), .int .i64 k, .int .u16 (s : Int), .int .i64 at_] w fun e w' => e = .returned (.bool true) ∧ Below w.heap.size w w' := by
  by_cases h1 : k < 0
  · exact subsetSays_ok_low n k s at_ w ht hs hn ho hl h1
  by_cases h2 : 16 < k
  · exact subsetSays_ok_high n k s at_ w ht hs hn ho hl h2
  obtain ⟨k, rfl⟩ := Int.eq_ofNat_of_zero_le (show 0 ≤ k by omega)
  by_cases h3 : at_ < 0
  · exact subsetSays_ok_neg n k s at_ w ht hs hn ho hl (by omega) h3
  by_cases h4 : ((cho 16 k : Nat) : Int) ≤ at_
  · exact subsetSays_ok_over n k s at_ w ht hs hn ho hl (by omega) (by omega) h4
  obtain ⟨a, rfl⟩ := Int.eq_ofNat_of_zero_le (show 0 ≤ at_ by omega)
  exact subsetSays_ok_ok n k s a w ht hs hn ho hl (by omega) (by omega)

theorem subsetSays_any (n k : Int) (s : Nat) (at_ : Int) (w : World) (ht : Tab w) (hs : s < 65536) :
    Calls Tryd.prog 3 #[.int .i64 n, .int .i64 k, .int .u16 (s : Int), .int .i64 at_] w fun e w' => e = .returned (.bool true) ∧ Below w.heap.size w w' := by
  by_cases h1 : n < 0
  · exact subsetSays_low n k s at_ w ht hs h1
  by_cases h2 : 16 < n
  · exact subsetSays_high n k s at_ w ht hs h2
  obtain ⟨n, rfl⟩ := Int.eq_ofNat_of_zero_le (show 0 ≤ n by omega)
  by_cases ho : s < 2 ^ n
  · by_cases hl : srk s + 1 < cho n (ones s)
    · exact subsetSays_ok n k s at_ w ht hs (by omega) ho hl
    · exact subsetSays_none n k s at_ w ht hs (by omega) ho hl
  · exact subsetSays_over n k s at_ w ht hs (by omega) (by omega)

end Go.Proofs.YtnoacmnhinoohaaDoor
