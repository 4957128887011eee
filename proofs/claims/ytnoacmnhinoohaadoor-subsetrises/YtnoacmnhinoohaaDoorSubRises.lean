/-
  Proved: castkeep.SubsetRises returns true whatever its arguments.
-/
import Derived.Test.YtnoacmnhinoohaaDoorSubD
import Derived.Test.YtnoacmnhinoohaaDoorAll
namespace Go.Proofs.YtnoacmnhinoohaaDoor
open Go.RowKit

set_option maxHeartbeats 2000000 in
set_option maxRecDepth 100000 in
theorem subsetRises_bad_lt (s t : Nat) (n : Int) (w : World) (ht : Tab w) (hs : s < 65536) (ht2 : t < 65536) (hst : ones s = ones t) (hlt : s < t) (hn : n < 0 ∨ 16 < n) :
    Calls Tryd.prog 5 #[.int .u16 (s : Int), .int .u16 (t : Int), .int .i64 n] w fun e w' => e = .returned (.bool true) ∧ Below w.heap.size w w' := by
  have HB0 := hid (Below.refl w.heap.size w)
  have HA0 : Hid (All w []) := trivial
  have HT0 := hid ht
  clear ht
  have HST := hid hst
  have HI := hid (srk_iff hst)
  clear hst
  have hr1 := srk_le s
  have hr2 := srk_le t
  go_enter Tryd.func5, Tryd.ntmps5
  go_wp2_with fail
  refine (subsets_any _ HT0.out).mono ?_
  rintro e w' ⟨rfl, rfl⟩
  go_wp2_with fail
  refine (size_any s _ hs).mono ?_
  rintro e w1 ⟨rfl, hb⟩
  have HB1 := hid (below_step HB0.out (Nat.le_refl _) hb)
  have HA1 : Hid (All w1 []) := HA0.out.keep hb
  clear HA0 HB0
  have HT1 := hid (HT0.out.keep hb)
  clear HT0
  clear hb
  go_wp2_with fail
  refine (size_any t _ ht2).mono ?_
  rintro e w2 ⟨rfl, hb⟩
  have HB2 := hid (below_step HB1.out (Nat.le_refl _) hb)
  have HA2 : Hid (All w2 []) := HA1.out.keep hb
  clear HA1 HB1
  have HT2 := hid (HT1.out.keep hb)
  clear HT1
  clear hb
  rw [← HST.out]
  go_wp2_with fail
  refine (subOf_any s _ HT2.out hs).mono ?_
  rintro e w' ⟨rfl, rfl⟩
  go_wp2_with fail
  refine (subOf_any t _ HT2.out ht2).mono ?_
  rintro e w' ⟨rfl, rfl⟩
  have hd1 : decide (s < t) = true := decide_eq_true hlt
  have hd2 : decide (srk s < srk t) = true := decide_eq_true (HI.out.1 hlt)
  go_wp2_with fail
  refine (subNext_bad s n _ hn).mono ?_
  rintro e w' ⟨rfl, rfl⟩
  go_wp2
  go_ret
  exact ⟨rfl, HB2.out⟩

set_option maxHeartbeats 2000000 in
set_option maxRecDepth 100000 in
theorem subsetRises_bad_ge (s t : Nat) (n : Int) (w : World) (ht : Tab w) (hs : s < 65536) (ht2 : t < 65536) (hst : ones s = ones t) (hlt : ¬ s < t) (hn : n < 0 ∨ 16 < n) :
    Calls Tryd.prog 5 #[.int .u16 (s : Int), .int .u16 (t : Int), .int .i64 n] w fun e w' => e = .returned (.bool true) ∧ Below w.heap.size w w' := by
  have HB0 := hid (Below.refl w.heap.size w)
  have HA0 : Hid (All w []) := trivial
  have HT0 := hid ht
  clear ht
  have HST := hid hst
  have HI := hid (srk_iff hst)
  clear hst
  have hr1 := srk_le s
  have hr2 := srk_le t
  go_enter Tryd.func5, Tryd.ntmps5
  go_wp2_with fail
  refine (subsets_any _ HT0.out).mono ?_
  rintro e w' ⟨rfl, rfl⟩
  go_wp2_with fail
  refine (size_any s _ hs).mono ?_
  rintro e w1 ⟨rfl, hb⟩
  have HB1 := hid (below_step HB0.out (Nat.le_refl _) hb)
  have HA1 : Hid (All w1 []) := HA0.out.keep hb
  clear HA0 HB0
  have HT1 := hid (HT0.out.keep hb)
  clear HT0
  clear hb
  go_wp2_with fail
  refine (size_any t _ ht2).mono ?_
  rintro e w2 ⟨rfl, hb⟩
  have HB2 := hid (below_step HB1.out (Nat.le_refl _) hb)
  have HA2 : Hid (All w2 []) := HA1.out.keep hb
  clear HA1 HB1
  have HT2 := hid (HT1.out.keep hb)
  clear HT1
  clear hb
  rw [← HST.out]
  go_wp2_with fail
  refine (subOf_any s _ HT2.out hs).mono ?_
  rintro e w' ⟨rfl, rfl⟩
  go_wp2_with fail
  refine (subOf_any t _ HT2.out ht2).mono ?_
  rintro e w' ⟨rfl, rfl⟩
  have hd1 : decide (s < t) = false := decide_eq_false hlt
  have hd2 : decide (srk s < srk t) = false := decide_eq_false (fun h => hlt (HI.out.2 h))
  go_wp2_with fail
  refine (subNext_bad s n _ hn).mono ?_
  rintro e w' ⟨rfl, rfl⟩
  go_wp2
  go_ret
  exact ⟨rfl, HB2.out⟩

set_option maxHeartbeats 2000000 in
set_option maxRecDepth 100000 in
theorem subsetRises_bad_not (s t : Nat) (n : Int) (w : World) (ht : Tab w) (hs : s < 65536) (ht2 : t < 65536) (hst : ones s ≠ ones t) (hn : n < 0 ∨ 16 < n) :
    Calls Tryd.prog 5 #[.int .u16 (s : Int), .int .u16 (t : Int), .int .i64 n] w fun e w' => e = .returned (.bool true) ∧ Below w.heap.size w w' := by
  have HB0 := hid (Below.refl w.heap.size w)
  have HA0 : Hid (All w []) := trivial
  have HT0 := hid ht
  clear ht
  have hne : (((ones s : Nat) : Int) == ((ones t : Nat) : Int)) = false := by simp; omega
  have HNE := hid hne
  clear hne hst
  go_enter Tryd.func5, Tryd.ntmps5
  go_wp2_with fail
  refine (subsets_any _ HT0.out).mono ?_
  rintro e w' ⟨rfl, rfl⟩
  go_wp2_with fail
  refine (size_any s _ hs).mono ?_
  rintro e w1 ⟨rfl, hb⟩
  have HB1 := hid (below_step HB0.out (Nat.le_refl _) hb)
  have HA1 : Hid (All w1 []) := HA0.out.keep hb
  clear HA0 HB0
  have HT1 := hid (HT0.out.keep hb)
  clear HT0
  clear hb
  go_wp2_with fail
  refine (size_any t _ ht2).mono ?_
  rintro e w2 ⟨rfl, hb⟩
  have HB2 := hid (below_step HB1.out (Nat.le_refl _) hb)
  have HA2 : Hid (All w2 []) := HA1.out.keep hb
  clear HA1 HB1
  have HT2 := hid (HT1.out.keep hb)
  clear HT1
  clear hb
  have hne := HNE.out
  go_wp2_with fail
  refine (subNext_bad s n _ hn).mono ?_
  rintro e w' ⟨rfl, rfl⟩
  go_wp2
  go_ret
  exact ⟨rfl, HB2.out⟩

set_option maxHeartbeats 2000000 in
set_option maxRecDepth 100000 in
theorem subsetRises_over_lt (s t n : Nat) (w : World) (ht : Tab w) (hs : s < 65536) (ht2 : t < 65536) (hst : ones s = ones t) (hlt : s < t) (hn : n ≤ 16) (ho : 2 ^ n ≤ s) :
    Calls Tryd.prog 5 #[.int .u16 (s : Int), .int .u16 (t : Int), .int .i64 (n : Int)] w fun e w' => e = .returned (.bool true) ∧ Below w.heap.size w w' := by
  have HB0 := hid (Below.refl w.heap.size w)
  have HA0 : Hid (All w []) := trivial
  have HT0 := hid ht
  clear ht
  have HST := hid hst
  have HI := hid (srk_iff hst)
  clear hst
  have hr1 := srk_le s
  have hr2 := srk_le t
  have HO := hid ho
  clear ho
  go_enter Tryd.func5, Tryd.ntmps5
  go_wp2_with fail
  refine (subsets_any _ HT0.out).mono ?_
  rintro e w' ⟨rfl, rfl⟩
  go_wp2_with fail
  refine (size_any s _ hs).mono ?_
  rintro e w1 ⟨rfl, hb⟩
  have HB1 := hid (below_step HB0.out (Nat.le_refl _) hb)
  have HA1 : Hid (All w1 []) := HA0.out.keep hb
  clear HA0 HB0
  have HT1 := hid (HT0.out.keep hb)
  clear HT0
  clear hb
  go_wp2_with fail
  refine (size_any t _ ht2).mono ?_
  rintro e w2 ⟨rfl, hb⟩
  have HB2 := hid (below_step HB1.out (Nat.le_refl _) hb)
  have HA2 : Hid (All w2 []) := HA1.out.keep hb
  clear HA1 HB1
  have HT2 := hid (HT1.out.keep hb)
  clear HT1
  clear hb
  rw [← HST.out]
  go_wp2_with fail
  refine (subOf_any s _ HT2.out hs).mono ?_
  rintro e w' ⟨rfl, rfl⟩
  go_wp2_with fail
  refine (subOf_any t _ HT2.out ht2).mono ?_
  rintro e w' ⟨rfl, rfl⟩
  have hd1 : decide (s < t) = true := decide_eq_true hlt
  have hd2 : decide (srk s < srk t) = true := decide_eq_true (HI.out.1 hlt)
  go_wp2_with fail
  refine (subNext_over s n _ hs hn HO.out).mono ?_
  rintro e w' ⟨rfl, rfl⟩
  go_wp2
  go_ret
  exact ⟨rfl, HB2.out⟩

set_option maxHeartbeats 2000000 in
set_option maxRecDepth 100000 in
theorem subsetRises_over_ge (s t n : Nat) (w : World) (ht : Tab w) (hs : s < 65536) (ht2 : t < 65536) (hst : ones s = ones t) (hlt : ¬ s < t) (hn : n ≤ 16) (ho : 2 ^ n ≤ s) :
    Calls Tryd.prog 5 #[.int .u16 (s : Int), .int .u16 (t : Int), .int .i64 (n : Int)] w fun e w' => e = .returned (.bool true) ∧ Below w.heap.size w w' := by
  have HB0 := hid (Below.refl w.heap.size w)
  have HA0 : Hid (All w []) := trivial
  have HT0 := hid ht
  clear ht
  have HST := hid hst
  have HI := hid (srk_iff hst)
  clear hst
  have hr1 := srk_le s
  have hr2 := srk_le t
  have HO := hid ho
  clear ho
  go_enter Tryd.func5, Tryd.ntmps5
  go_wp2_with fail
  refine (subsets_any _ HT0.out).mono ?_
  rintro e w' ⟨rfl, rfl⟩
  go_wp2_with fail
  refine (size_any s _ hs).mono ?_
  rintro e w1 ⟨rfl, hb⟩
  have HB1 := hid (below_step HB0.out (Nat.le_refl _) hb)
  have HA1 : Hid (All w1 []) := HA0.out.keep hb
  clear HA0 HB0
  have HT1 := hid (HT0.out.keep hb)
  clear HT0
  clear hb
  go_wp2_with fail
  refine (size_any t _ ht2).mono ?_
  rintro e w2 ⟨rfl, hb⟩
  have HB2 := hid (below_step HB1.out (Nat.le_refl _) hb)
  have HA2 : Hid (All w2 []) := HA1.out.keep hb
  clear HA1 HB1
  have HT2 := hid (HT1.out.keep hb)
  clear HT1
  clear hb
  rw [← HST.out]
  go_wp2_with fail
  refine (subOf_any s _ HT2.out hs).mono ?_
  rintro e w' ⟨rfl, rfl⟩
  go_wp2_with fail
  refine (subOf_any t _ HT2.out ht2).mono ?_
  rintro e w' ⟨rfl, rfl⟩
  have hd1 : decide (s < t) = false := decide_eq_false hlt
  have hd2 : decide (srk s < srk t) = false := decide_eq_false (fun h => hlt (HI.out.2 h))
  go_wp2_with fail
  refine (subNext_over s n _ hs hn HO.out).mono ?_
  rintro e w' ⟨rfl, rfl⟩
  go_wp2
  go_ret
  exact ⟨rfl, HB2.out⟩

set_option maxHeartbeats 2000000 in
set_option maxRecDepth 100000 in
theorem subsetRises_over_not (s t n : Nat) (w : World) (ht : Tab w) (hs : s < 65536) (ht2 : t < 65536) (hst : ones s ≠ ones t) (hn : n ≤ 16) (ho : 2 ^ n ≤ s) :
    Calls Tryd.prog 5 #[.int .u16 (s : Int), .int .u16 (t : Int), .int .i64 (n : Int)] w fun e w' => e = .returned (.bool true) ∧ Below w.heap.size w w' := by
  have HB0 := hid (Below.refl w.heap.size w)
  have HA0 : Hid (All w []) := trivial
  have HT0 := hid ht
  clear ht
  have hne : (((ones s : Nat) : Int) == ((ones t : Nat) : Int)) = false := by simp; omega
  have HNE := hid hne
  clear hne hst
  have HO := hid ho
  clear ho
  go_enter Tryd.func5, Tryd.ntmps5
  go_wp2_with fail
  refine (subsets_any _ HT0.out).mono ?_
  rintro e w' ⟨rfl, rfl⟩
  go_wp2_with fail
  refine (size_any s _ hs).mono ?_
  rintro e w1 ⟨rfl, hb⟩
  have HB1 := hid (below_step HB0.out (Nat.le_refl _) hb)
  have HA1 : Hid (All w1 []) := HA0.out.keep hb
  clear HA0 HB0
  have HT1 := hid (HT0.out.keep hb)
  clear HT0
  clear hb
  go_wp2_with fail
  refine (size_any t _ ht2).mono ?_
  rintro e w2 ⟨rfl, hb⟩
  have HB2 := hid (below_step HB1.out (Nat.le_refl _) hb)
  have HA2 : Hid (All w2 []) := HA1.out.keep hb
  clear HA1 HB1
  have HT2 := hid (HT1.out.keep hb)
  clear HT1
  clear hb
  have hne := HNE.out
  go_wp2_with fail
  refine (subNext_over s n _ hs hn HO.out).mono ?_
  rintro e w' ⟨rfl, rfl⟩
  go_wp2
  go_ret
  exact ⟨rfl, HB2.out⟩

set_option maxHeartbeats 2000000 in
set_option maxRecDepth 100000 in
theorem subsetRises_none_lt (s t n : Nat) (w : World) (ht : Tab w) (hs : s < 65536) (ht2 : t < 65536) (hst : ones s = ones t) (hlt : s < t) (hn : n ≤ 16) (ho : s < 2 ^ n) (hl : ¬ srk s + 1 < cho n (ones s)) :
    Calls Tryd.prog 5 #[.int .u16 (s : Int), .int .u16 (t : Int), .int .i64 (n : Int)] w fun e w' => e = .returned (.bool true) ∧ Below w.heap.size w w' := by
  have HB0 := hid (Below.refl w.heap.size w)
  have HA0 : Hid (All w []) := trivial
  have HT0 := hid ht
  clear ht
  have HST := hid hst
  have HI := hid (srk_iff hst)
  clear hst
  have hr1 := srk_le s
  have hr2 := srk_le t
  have HO := hid ho
  clear ho
  have HL := hid hl
  clear hl
  go_enter Tryd.func5, Tryd.ntmps5
  go_wp2_with fail
  refine (subsets_any _ HT0.out).mono ?_
  rintro e w' ⟨rfl, rfl⟩
  go_wp2_with fail
  refine (size_any s _ hs).mono ?_
  rintro e w1 ⟨rfl, hb⟩
  have HB1 := hid (below_step HB0.out (Nat.le_refl _) hb)
  have HA1 : Hid (All w1 []) := HA0.out.keep hb
  clear HA0 HB0
  have HT1 := hid (HT0.out.keep hb)
  clear HT0
  clear hb
  go_wp2_with fail
  refine (size_any t _ ht2).mono ?_
  rintro e w2 ⟨rfl, hb⟩
  have HB2 := hid (below_step HB1.out (Nat.le_refl _) hb)
  have HA2 : Hid (All w2 []) := HA1.out.keep hb
  clear HA1 HB1
  have HT2 := hid (HT1.out.keep hb)
  clear HT1
  clear hb
  rw [← HST.out]
  go_wp2_with fail
  refine (subOf_any s _ HT2.out hs).mono ?_
  rintro e w' ⟨rfl, rfl⟩
  go_wp2_with fail
  refine (subOf_any t _ HT2.out ht2).mono ?_
  rintro e w' ⟨rfl, rfl⟩
  have hd1 : decide (s < t) = true := decide_eq_true hlt
  have hd2 : decide (srk s < srk t) = true := decide_eq_true (HI.out.1 hlt)
  go_wp2_with fail
  refine (subNext_none s n _ hs hn HO.out HL.out).mono ?_
  rintro e w3 ⟨rfl, hb⟩
  have HB3 := hid (below_step HB2.out (Nat.le_refl _) hb)
  have HA3 : Hid (All w3 []) := HA2.out.keep hb
  clear HA2 HB2
  have HT3 := hid (HT2.out.keep hb)
  clear HT2
  clear hb
  go_wp2
  go_ret
  exact ⟨rfl, HB3.out⟩

set_option maxHeartbeats 2000000 in
set_option maxRecDepth 100000 in
theorem subsetRises_none_ge (s t n : Nat) (w : World) (ht : Tab w) (hs : s < 65536) (ht2 : t < 65536) (hst : ones s = ones t) (hlt : ¬ s < t) (hn : n ≤ 16) (ho : s < 2 ^ n) (hl : ¬ srk s + 1 < cho n (ones s)) :
    Calls Tryd.prog 5 #[.int .u16 (s : Int), .int .u16 (t : Int), .int .i64 (n : Int)] w fun e w' => e = .returned (.bool true) ∧ Below w.heap.size w w' := by
  have HB0 := hid (Below.refl w.heap.size w)
  have HA0 : Hid (All w []) := trivial
  have HT0 := hid ht
  clear ht
  have HST := hid hst
  have HI := hid (srk_iff hst)
  clear hst
  have hr1 := srk_le s
  have hr2 := srk_le t
  have HO := hid ho
  clear ho
  have HL := hid hl
  clear hl
  go_enter Tryd.func5, Tryd.ntmps5
  go_wp2_with fail
  refine (subsets_any _ HT0.out).mono ?_
  rintro e w' ⟨rfl, rfl⟩
  go_wp2_with fail
  refine (size_any s _ hs).mono ?_
  rintro e w1 ⟨rfl, hb⟩
  have HB1 := hid (below_step HB0.out (Nat.le_refl _) hb)
  have HA1 : Hid (All w1 []) := HA0.out.keep hb
  clear HA0 HB0
  have HT1 := hid (HT0.out.keep hb)
  clear HT0
  clear hb
  go_wp2_with fail
  refine (size_any t _ ht2).mono ?_
  rintro e w2 ⟨rfl, hb⟩
  have HB2 := hid (below_step HB1.out (Nat.le_refl _) hb)
  have HA2 : Hid (All w2 []) := HA1.out.keep hb
  clear HA1 HB1
  have HT2 := hid (HT1.out.keep hb)
  clear HT1
  clear hb
  rw [← HST.out]
  go_wp2_with fail
  refine (subOf_any s _ HT2.out hs).mono ?_
  rintro e w' ⟨rfl, rfl⟩
  go_wp2_with fail
  refine (subOf_any t _ HT2.out ht2).mono ?_
  rintro e w' ⟨rfl, rfl⟩
  have hd1 : decide (s < t) = false := decide_eq_false hlt
  have hd2 : decide (srk s < srk t) = false := decide_eq_false (fun h => hlt (HI.out.2 h))
  go_wp2_with fail
  refine (subNext_none s n _ hs hn HO.out HL.out).mono ?_
  rintro e w3 ⟨rfl, hb⟩
  have HB3 := hid (below_step HB2.out (Nat.le_refl _) hb)
  have HA3 : Hid (All w3 []) := HA2.out.keep hb
  clear HA2 HB2
  have HT3 := hid (HT2.out.keep hb)
  clear HT2
  clear hb
  go_wp2
  go_ret
  exact ⟨rfl, HB3.out⟩

set_option maxHeartbeats 2000000 in
set_option maxRecDepth 100000 in
theorem subsetRises_none_not (s t n : Nat) (w : World) (ht : Tab w) (hs : s < 65536) (ht2 : t < 65536) (hst : ones s ≠ ones t) (hn : n ≤ 16) (ho : s < 2 ^ n) (hl : ¬ srk s + 1 < cho n (ones s)) :
    Calls Tryd.prog 5 #[.int .u16 (s : Int), .int .u16 (t : Int), .int .i64 (n : Int)] w fun e w' => e = .returned (.bool true) ∧ Below w.heap.size w w' := by
  have HB0 := hid (Below.refl w.heap.size w)
  have HA0 : Hid (All w []) := trivial
  have HT0 := hid ht
  clear ht
  have hne : (((ones s : Nat) : Int) == ((ones t : Nat) : Int)) = false := by simp; omega
  have HNE := hid hne
  clear hne hst
  have HO := hid ho
  clear ho
  have HL := hid hl
  clear hl
  go_enter Tryd.func5, Tryd.ntmps5
  go_wp2_with fail
  refine (subsets_any _ HT0.out).mono ?_
  rintro e w' ⟨rfl, rfl⟩
  go_wp2_with fail
  refine (size_any s _ hs).mono ?_
  rintro e w1 ⟨rfl, hb⟩
  have HB1 := hid (below_step HB0.out (Nat.le_refl _) hb)
  have HA1 : Hid (All w1 []) := HA0.out.keep hb
  clear HA0 HB0
  have HT1 := hid (HT0.out.keep hb)
  clear HT0
  clear hb
  go_wp2_with fail
  refine (size_any t _ ht2).mono ?_
  rintro e w2 ⟨rfl, hb⟩
  have HB2 := hid (below_step HB1.out (Nat.le_refl _) hb)
  have HA2 : Hid (All w2 []) := HA1.out.keep hb
  clear HA1 HB1
  have HT2 := hid (HT1.out.keep hb)
  clear HT1
  clear hb
  have hne := HNE.out
  go_wp2_with fail
  refine (subNext_none s n _ hs hn HO.out HL.out).mono ?_
  rintro e w3 ⟨rfl, hb⟩
  have HB3 := hid (below_step HB2.out (Nat.le_refl _) hb)
  have HA3 : Hid (All w3 []) := HA2.out.keep hb
  clear HA2 HB2
  have HT3 := hid (HT2.out.keep hb)
  clear HT2
  clear hb
  go_wp2
  go_ret
  exact ⟨rfl, HB3.out⟩

set_option maxHeartbeats 2000000 in
set_option maxRecDepth 100000 in
theorem subsetRises_ok_lt (s t n : Nat) (w : World) (ht : Tab w) (hs : s < 65536) (ht2 : t < 65536) (hst : ones s = ones t) (hlt : s < t) (hn : n ≤ 16) (ho : s < 2 ^ n) (hl : srk s + 1 < cho n (ones s)) :
    Calls Tryd.prog 5 #[.int .u16 (s : Int), .int .u16 (t : Int), .int .i64 (n : Int)] w fun e w' => e = .returned (.bool true) ∧ Below w.heap.size w w' := by
  have HB0 := hid (Below.refl w.heap.size w)
  have HA0 : Hid (All w []) := trivial
  have HT0 := hid ht
  clear ht
  have HST := hid hst
  have HI := hid (srk_iff hst)
  clear hst
  have hr1 := srk_le s
  have hr2 := srk_le t
  have HO := hid ho
  clear ho
  have HL := hid hl
  clear hl
  go_enter Tryd.func5, Tryd.ntmps5
  go_wp2_with fail
  refine (subsets_any _ HT0.out).mono ?_
  rintro e w' ⟨rfl, rfl⟩
  go_wp2_with fail
  refine (size_any s _ hs).mono ?_
  rintro e w1 ⟨rfl, hb⟩
  have HB1 := hid (below_step HB0.out (Nat.le_refl _) hb)
  have HA1 : Hid (All w1 []) := HA0.out.keep hb
  clear HA0 HB0
  have HT1 := hid (HT0.out.keep hb)
  clear HT0
  clear hb
  go_wp2_with fail
  refine (size_any t _ ht2).mono ?_
  rintro e w2 ⟨rfl, hb⟩
  have HB2 := hid (below_step HB1.out (Nat.le_refl _) hb)
  have HA2 : Hid (All w2 []) := HA1.out.keep hb
  clear HA1 HB1
  have HT2 := hid (HT1.out.keep hb)
  clear HT1
  clear hb
  rw [← HST.out]
  go_wp2_with fail
  refine (subOf_any s _ HT2.out hs).mono ?_
  rintro e w' ⟨rfl, rfl⟩
  go_wp2_with fail
  refine (subOf_any t _ HT2.out ht2).mono ?_
  rintro e w' ⟨rfl, rfl⟩
  have hd1 : decide (s < t) = true := decide_eq_true hlt
  have hd2 : decide (srk s < srk t) = true := decide_eq_true (HI.out.1 hlt)
  go_wp2_with fail
  refine (subNext_ok s n _ hs hn HO.out HL.out).mono ?_
  rintro e w3 ⟨rfl, hb⟩
  have HB3 := hid (below_step HB2.out (Nat.le_refl _) hb)
  have HA3 : Hid (All w3 []) := HA2.out.keep hb
  clear HA2 HB2
  have HT3 := hid (HT2.out.keep hb)
  clear HT2
  clear hb
  obtain ⟨u1, u2, u3⟩ := unr_ok HL.out
  have u4 : 2 ^ n ≤ 2 ^ 16 := Nat.pow_le_pow_right (by omega) hn
  have u5 : unr n (ones s) (srk s + 1) < 65536 := by omega
  have HU2 := hid u2
  have HU3 := hid u3
  clear u1 u2 u3 u4
  generalize unr n (ones s) (srk s + 1) = x at *
  have hgt : s < x := (srk_iff HU2.out.symm).2 (by rw [HU3.out]; omega)
  have hr5 := srk_le s
  go_wp2_with fail
  refine (size_any x _ u5).mono ?_
  rintro e w4 ⟨rfl, hb⟩
  have HB4 := hid (below_step HB3.out (Nat.le_refl _) hb)
  have HA4 : Hid (All w4 []) := HA3.out.keep hb
  clear HA3 HB3
  have HT4 := hid (HT3.out.keep hb)
  clear HT3
  clear hb
  rw [HU2.out]
  go_wp2_with fail
  refine (size_any s _ hs).mono ?_
  rintro e w5 ⟨rfl, hb⟩
  have HB5 := hid (below_step HB4.out (Nat.le_refl _) hb)
  have HA5 : Hid (All w5 []) := HA4.out.keep hb
  clear HA4 HB4
  have HT5 := hid (HT4.out.keep hb)
  clear HT4
  clear hb
  go_wp2_with fail
  refine (subOf_any x _ HT5.out u5).mono ?_
  rintro e w' ⟨rfl, rfl⟩
  rw [HU3.out]
  go_wp2_with fail
  refine (subOf_any s _ HT5.out hs).mono ?_
  rintro e w' ⟨rfl, rfl⟩
  go_wp2
  go_ret
  exact ⟨rfl, HB5.out⟩

set_option maxHeartbeats 2000000 in
set_option maxRecDepth 100000 in
theorem subsetRises_ok_ge (s t n : Nat) (w : World) (ht : Tab w) (hs : s < 65536) (ht2 : t < 65536) (hst : ones s = ones t) (hlt : ¬ s < t) (hn : n ≤ 16) (ho : s < 2 ^ n) (hl : srk s + 1 < cho n (ones s)) :
    Calls Tryd.prog 5 #[.int .u16 (s : Int), .int .u16 (t : Int), .int .i64 (n : Int)] w fun e w' => e = .returned (.bool true) ∧ Below w.heap.size w w' := by
  have HB0 := hid (Below.refl w.heap.size w)
  have HA0 : Hid (All w []) := trivial
  have HT0 := hid ht
  clear ht
  have HST := hid hst
  have HI := hid (srk_iff hst)
  clear hst
  have hr1 := srk_le s
  have hr2 := srk_le t
  have HO := hid ho
  clear ho
  have HL := hid hl
  clear hl
  go_enter Tryd.func5, Tryd.ntmps5
  go_wp2_with fail
  refine (subsets_any _ HT0.out).mono ?_
  rintro e w' ⟨rfl, rfl⟩
  go_wp2_with fail
  refine (size_any s _ hs).mono ?_
  rintro e w1 ⟨rfl, hb⟩
  have HB1 := hid (below_step HB0.out (Nat.le_refl _) hb)
  have HA1 : Hid (All w1 []) := HA0.out.keep hb
  clear HA0 HB0
  have HT1 := hid (HT0.out.keep hb)
  clear HT0
  clear hb
  go_wp2_with fail
  refine (size_any t _ ht2).mono ?_
  rintro e w2 ⟨rfl, hb⟩
  have HB2 := hid (below_step HB1.out (Nat.le_refl _) hb)
  have HA2 : Hid (All w2 []) := HA1.out.keep hb
  clear HA1 HB1
  have HT2 := hid (HT1.out.keep hb)
  clear HT1
  clear hb
  rw [← HST.out]
  go_wp2_with fail
  refine (subOf_any s _ HT2.out hs).mono ?_
  rintro e w' ⟨rfl, rfl⟩
  go_wp2_with fail
  refine (subOf_any t _ HT2.out ht2).mono ?_
  rintro e w' ⟨rfl, rfl⟩
  have hd1 : decide (s < t) = false := decide_eq_false hlt
  have hd2 : decide (srk s < srk t) = false := decide_eq_false (fun h => hlt (HI.out.2 h))
  go_wp2_with fail
  refine (subNext_ok s n _ hs hn HO.out HL.out).mono ?_
  rintro e w3 ⟨rfl, hb⟩
  have HB3 := hid (below_step HB2.out (Nat.le_refl _) hb)
  have HA3 : Hid (All w3 []) := HA2.out.keep hb
  clear HA2 HB2
  have HT3 := hid (HT2.out.keep hb)
  clear HT2
  clear hb
  obtain ⟨u1, u2, u3⟩ := unr_ok HL.out
  have u4 : 2 ^ n ≤ 2 ^ 16 := Nat.pow_le_pow_right (by omega) hn
  have u5 : unr n (ones s) (srk s + 1) < 65536 := by omega
  have HU2 := hid u2
  have HU3 := hid u3
  clear u1 u2 u3 u4
  generalize unr n (ones s) (srk s + 1) = x at *
  have hgt : s < x := (srk_iff HU2.out.symm).2 (by rw [HU3.out]; omega)
  have hr5 := srk_le s
  go_wp2_with fail
  refine (size_any x _ u5).mono ?_
  rintro e w4 ⟨rfl, hb⟩
  have HB4 := hid (below_step HB3.out (Nat.le_refl _) hb)
  have HA4 : Hid (All w4 []) := HA3.out.keep hb
  clear HA3 HB3
  have HT4 := hid (HT3.out.keep hb)
  clear HT3
  clear hb
  rw [HU2.out]
  go_wp2_with fail
  refine (size_any s _ hs).mono ?_
  rintro e w5 ⟨rfl, hb⟩
  have HB5 := hid (below_step HB4.out (Nat.le_refl _) hb)
  have HA5 : Hid (All w5 []) := HA4.out.keep hb
  clear HA4 HB4
  have HT5 := hid (HT4.out.keep hb)
  clear HT4
  clear hb
  go_wp2_with fail
  refine (subOf_any x _ HT5.out u5).mono ?_
  rintro e w' ⟨rfl, rfl⟩
  rw [HU3.out]
  go_wp2_with fail
  refine (subOf_any s _ HT5.out hs).mono ?_
  rintro e w' ⟨rfl, rfl⟩
  go_wp2
  go_ret
  exact ⟨rfl, HB5.out⟩

set_option maxHeartbeats 2000000 in
set_option maxRecDepth 100000 in
theorem subsetRises_ok_not (s t n : Nat) (w : World) (ht : Tab w) (hs : s < 65536) (ht2 : t < 65536) (hst : ones s ≠ ones t) (hn : n ≤ 16) (ho : s < 2 ^ n) (hl : srk s + 1 < cho n (ones s)) :
    Calls Tryd.prog 5 #[.int .u16 (s : Int), .int .u16 (t : Int), .int .i64 (n : Int)] w fun e w' => e = .returned (.bool true) ∧ Below w.heap.size w w' := by
  have HB0 := hid (Below.refl w.heap.size w)
  have HA0 : Hid (All w []) := trivial
  have HT0 := hid ht
  clear ht
  have hne : (((ones s : Nat) : Int) == ((ones t : Nat) : Int)) = false := by simp; omega
  have HNE := hid hne
  clear hne hst
  have HO := hid ho
  clear ho
  have HL := hid hl
  clear hl
  go_enter Tryd.func5, Tryd.ntmps5
  go_wp2_with fail
  refine (subsets_any _ HT0.out).mono ?_
  rintro e w' ⟨rfl, rfl⟩
  go_wp2_with fail
  refine (size_any s _ hs).mono ?_
  rintro e w1 ⟨rfl, hb⟩
  have HB1 := hid (below_step HB0.out (Nat.le_refl _) hb)
  have HA1 : Hid (All w1 []) := HA0.out.keep hb
  clear HA0 HB0
  have HT1 := hid (HT0.out.keep hb)
  clear HT0
  clear hb
  go_wp2_with fail
  refine (size_any t _ ht2).mono ?_
  rintro e w2 ⟨rfl, hb⟩
  have HB2 := hid (below_step HB1.out (Nat.le_refl _) hb)
  have HA2 : Hid (All w2 []) := HA1.out.keep hb
  clear HA1 HB1
  have HT2 := hid (HT1.out.keep hb)
  clear HT1
  clear hb
  have hne := HNE.out
  go_wp2_with fail
  refine (subNext_ok s n _ hs hn HO.out HL.out).mono ?_
  rintro e w3 ⟨rfl, hb⟩
  have HB3 := hid (below_step HB2.out (Nat.le_refl _) hb)
  have HA3 : Hid (All w3 []) := HA2.out.keep hb
  clear HA2 HB2
  have HT3 := hid (HT2.out.keep hb)
  clear HT2
  clear hb
  obtain ⟨u1, u2, u3⟩ := unr_ok HL.out
  have u4 : 2 ^ n ≤ 2 ^ 16 := Nat.pow_le_pow_right (by omega) hn
  have u5 : unr n (ones s) (srk s + 1) < 65536 := by omega
  have HU2 := hid u2
  have HU3 := hid u3
  clear u1 u2 u3 u4
  generalize unr n (ones s) (srk s + 1) = x at *
  have hgt : s < x := (srk_iff HU2.out.symm).2 (by rw [HU3.out]; omega)
  have hr5 := srk_le s
  go_wp2_with fail
  refine (size_any x _ u5).mono ?_
  rintro e w4 ⟨rfl, hb⟩
  have HB4 := hid (below_step HB3.out (Nat.le_refl _) hb)
  have HA4 : Hid (All w4 []) := HA3.out.keep hb
  clear HA3 HB3
  have HT4 := hid (HT3.out.keep hb)
  clear HT3
  clear hb
  rw [HU2.out]
  go_wp2_with fail
  refine (size_any s _ hs).mono ?_
  rintro e w5 ⟨rfl, hb⟩
  have HB5 := hid (below_step HB4.out (Nat.le_refl _) hb)
  have HA5 : Hid (All w5 []) := HA4.out.keep hb
  clear HA4 HB4
  have HT5 := hid (HT4.out.keep hb)
  clear HT4
  clear hb
  go_wp2_with fail
  refine (subOf_any x _ HT5.out u5).mono ?_
  rintro e w' ⟨rfl, rfl⟩
  rw [HU3.out]
  go_wp2_with fail
  refine (subOf_any s _ HT5.out hs).mono ?_
  rintro e w' ⟨rfl, rfl⟩
  go_wp2
  go_ret
  exact ⟨rfl, HB5.out⟩

theorem subsetRises_any (s t : Nat) (n : Int) (w : World) (ht : Tab w) (hs : s < 65536) (ht2 : t < 65536) :
    Calls Tryd.prog 5 #[.int .u16 (s : Int), .int .u16 (t : Int), .int .i64 n] w fun e w' => e = .returned (.bool true) ∧ Below w.heap.size w w' := by
  by_cases h : n < 0 ∨ 16 < n
  · skip
    by_cases e : ones s = ones t
    · by_cases hlt : s < t
      · exact subsetRises_bad_lt s t n w ht hs ht2 e hlt h
      · exact subsetRises_bad_ge s t n w ht hs ht2 e hlt h
    · exact subsetRises_bad_not s t n w ht hs ht2 e h
  · obtain ⟨N, rfl⟩ := Int.eq_ofNat_of_zero_le (show 0 ≤ n by omega)
    have hN : N ≤ 16 := by omega
    by_cases ho : s < 2 ^ N
    · by_cases hl : srk s + 1 < cho N (ones s)
      · skip
        by_cases e : ones s = ones t
        · by_cases hlt : s < t
          · exact subsetRises_ok_lt s t N w ht hs ht2 e hlt hN ho hl
          · exact subsetRises_ok_ge s t N w ht hs ht2 e hlt hN ho hl
        · exact subsetRises_ok_not s t N w ht hs ht2 e hN ho hl
      · skip
        by_cases e : ones s = ones t
        · by_cases hlt : s < t
          · exact subsetRises_none_lt s t N w ht hs ht2 e hlt hN ho hl
          · exact subsetRises_none_ge s t N w ht hs ht2 e hlt hN ho hl
        · exact subsetRises_none_not s t N w ht hs ht2 e hN ho hl
    · have ho2 : 2 ^ N ≤ s := by omega
      by_cases e : ones s = ones t
      · by_cases hlt : s < t
        · exact subsetRises_over_lt s t N w ht hs ht2 e hlt hN ho2
        · exact subsetRises_over_ge s t N w ht hs ht2 e hlt hN ho2
      · exact subsetRises_over_not s t N w ht hs ht2 e hN ho2

end Go.Proofs.YtnoacmnhinoohaaDoor
