/-
  Proved: castkeep.BlocksNext returns true whatever its arguments.
-/
import Derived.Test.YtigfhpffghajaaaBlkC
import Derived.Test.YtigfhpffghajaaaBlkD
namespace Go.Proofs.Ytigfhpffghajaaa
open Go.RowKit

set_option maxHeartbeats 4000000 in
set_option maxRecDepth 100000 in
theorem blocksNext_none (A0 : Option Addr) (n0 c0 : Nat) (x0 : List Int) (A1 : Option Addr) (n1 c1 : Nat) (x1 : List Int) (m : Nat) (w : World) (h0 : Ints w A0 n0 x0) (h1 : Ints w A1 n1 x1) (hc0 : n0 ≤ c0) (hc1 : n1 ≤ c1) (_hm0 : c0 ≤ maxLen) (_hm1 : c1 ≤ maxLen) (hm : m = min (min n0 n1) 10) (hL : ltg (ofL (x0.take m)) m < 0) :
    Calls Try.prog 6 #[.slice A0 n0 c0, .slice A1 n1 c1] w fun e w' => e = .returned (.bool true) ∧ Below w.heap.size w w' := by
  unfold maxLen at _hm0 _hm1
  have hmin := run_min3 (P := Try.prog) n0 n1 m hm
  have q0 : m ≤ n0 := by omega
  have q1 : m ≤ n1 := by omega
  have hm10 : m ≤ 10 := by omega
  clear hm
  have HLA : Hid ((ofL (x0.take m)).length = m) := by rw [length_ofL, List.length_take, h0.len]; exact Nat.min_eq_left q0
  have HLB : Hid ((ofL (x1.take m)).length = m) := by rw [length_ofL, List.length_take, h1.len]; exact Nat.min_eq_left q1
  have HRA := hid (rgs_ofL (x0.take m))
  have HRB := hid (rgs_ofL (x1.take m))
  have HB0 := hid (Below.refl w.heap.size w)
  have HA0 : Hid (All w [(A0, n0, x0), (A1, n1, x1)]) := ⟨h0, h1, trivial⟩
  clear h0 h1
  have HL := hid hL
  clear hL
  go_enter Try.func6, Try.ntmps6
  go_wp2_with fail
  refine (bnext_ok _ 3 3 1 [0, 0, 1] _ (ints_lit w _ _ 3 [0, 0, 1] rfl rfl) (by omega) (by decide +kernel) (by decide +kernel)).mono ?_
  rintro e w2 ⟨A2, n2, c2, rfl, hb, hI, hcap⟩
  have hb := below_step (below_alloc _ _) (Nat.le_refl _) hb
  rw [show nextL [0, 0, 1] 1 = [0, 1, 0] by decide +kernel] at hI
  have hn2 : 3 = n2 := hI.len
  subst hn2
  have HB1 := hid (below_step HB0.out (Nat.le_refl _) hb)
  have HA1 : Hid (All w2 [(A2, 3, [0, 1, 0]), (A0, n0, x0), (A1, n1, x1)]) := ⟨hI, HA0.out.keep hb⟩
  clear HA0 HB0
  clear hb hI hcap
  go_wp2_with fail
  refine (equal_bel A2 3 c2 _ 3 3 [0, 1, 0] [0, 1, 0] _ ((HA1.out.1).keep (below_alloc _ _)) (ints_lit w2 _ _ 3 [0, 1, 0] rfl rfl) (by omega) (by omega)).mono ?_
  rintro e w3 ⟨rfl, hb⟩
  have hb := below_step (below_alloc _ _) (Nat.le_refl _) hb
  have HB2 := hid (below_step HB1.out (Nat.le_refl _) hb)
  have HA2 : Hid (All w3 [(A2, 3, [0, 1, 0]), (A0, n0, x0), (A1, n1, x1)]) := HA1.out.keep hb
  clear HA1 HB1
  clear hb
  rw [show decide (([0, 1, 0] : List Int) = [0, 1, 0]) = true by decide]
  go_wp2_with fail
  refine (bof_ok A0 m c0 (x0.take m) _ ((HA2.out.2.1).take q0) hm10).mono ?_
  rintro e w4 ⟨A4, n4, c4, rfl, hb, hI, hcap⟩
  have hn4 : m = n4 := by rw [← HLA.out]; exact hI.len
  subst hn4
  have HB3 := hid (below_step HB2.out (Nat.le_refl _) hb)
  have HA3 : Hid (All w4 [(A4, m, (ofL (x0.take m))), (A2, 3, [0, 1, 0]), (A0, n0, x0), (A1, n1, x1)]) := ⟨hI, HA2.out.keep hb⟩
  clear HA2 HB2
  clear hb hI hcap
  clear hmin
  go_wp2_with fail
  refine (bof_ok A1 m c1 (x1.take m) _ ((HA3.out.2.2.2.1).take q1) hm10).mono ?_
  rintro e w5 ⟨A5, n5, c5, rfl, hb, hI, hcap⟩
  have hn5 : m = n5 := by rw [← HLB.out]; exact hI.len
  subst hn5
  have HB4 := hid (below_step HB3.out (Nat.le_refl _) hb)
  have HA4 : Hid (All w5 [(A5, m, (ofL (x1.take m))), (A4, m, (ofL (x0.take m))), (A2, 3, [0, 1, 0]), (A0, n0, x0), (A1, n1, x1)]) := ⟨hI, HA3.out.keep hb⟩
  clear HA3 HB3
  clear hb hI hcap
  go_wp2_with fail
  refine (good_bel w5 _ _ 2 [0, 0] rfl rfl (by omega)).mono ?_
  rintro e w_good1 ⟨rfl, hb⟩
  have HB5 := hid (below_step HB4.out (Nat.le_refl _) hb)
  have HA5 : Hid (All w_good1 [(A5, m, (ofL (x1.take m))), (A4, m, (ofL (x0.take m))), (A2, 3, [0, 1, 0]), (A0, n0, x0), (A1, n1, x1)]) := HA4.out.keep hb
  clear HA4 HB4
  clear hb
  rw [show allOK [0, 0] = true by decide]
  generalize ofL (x0.take m) = a at *
  generalize ofL (x1.take m) = b at *
  go_wp2_with fail
  refine (bnext_none A4 m c4 a _ HA5.out.2.1 hm10 HRA.out HL.out).mono ?_
  rintro e w' ⟨rfl, rfl⟩
  go_wp2_with fail
  refine (compareL_any A5 m c5 A4 c4 b a _ HA5.out.1 HA5.out.2.1 (by omega)).mono ?_
  rintro e w' ⟨rfl, rfl⟩
  have hz : cmpL b a ≤ 0 := none_behind (by rw [HLA.out]; exact HLB.out) HRB.out (by rw [HLA.out]; exact HL.out)
  generalize cmpL b a = z at *
  go_wp2
  go_ret
  exact ⟨rfl, HB5.out⟩

set_option maxHeartbeats 4000000 in
set_option maxRecDepth 100000 in
theorem blocksNext_le (A0 : Option Addr) (n0 c0 : Nat) (x0 : List Int) (A1 : Option Addr) (n1 c1 : Nat) (x1 : List Int) (m L : Nat) (w : World) (h0 : Ints w A0 n0 x0) (h1 : Ints w A1 n1 x1) (hc0 : n0 ≤ c0) (hc1 : n1 ≤ c1) (_hm0 : c0 ≤ maxLen) (_hm1 : c1 ≤ maxLen) (hm : m = min (min n0 n1) 10) (hL : ltg (ofL (x0.take m)) m = (L : Int)) (hcmp : cmpL (ofL (x1.take m)) (ofL (x0.take m)) ≤ 0) :
    Calls Try.prog 6 #[.slice A0 n0 c0, .slice A1 n1 c1] w fun e w' => e = .returned (.bool true) ∧ Below w.heap.size w w' := by
  unfold maxLen at _hm0 _hm1
  have hmin := run_min3 (P := Try.prog) n0 n1 m hm
  have q0 : m ≤ n0 := by omega
  have q1 : m ≤ n1 := by omega
  have hm10 : m ≤ 10 := by omega
  clear hm
  have HLA : Hid ((ofL (x0.take m)).length = m) := by rw [length_ofL, List.length_take, h0.len]; exact Nat.min_eq_left q0
  have HLB : Hid ((ofL (x1.take m)).length = m) := by rw [length_ofL, List.length_take, h1.len]; exact Nat.min_eq_left q1
  have HRA := hid (rgs_ofL (x0.take m))
  have HRB := hid (rgs_ofL (x1.take m))
  have HB0 := hid (Below.refl w.heap.size w)
  have HA0 : Hid (All w [(A0, n0, x0), (A1, n1, x1)]) := ⟨h0, h1, trivial⟩
  clear h0 h1
  have HL := hid hL
  clear hL
  have HC := hid hcmp
  clear hcmp
  go_enter Try.func6, Try.ntmps6
  go_wp2_with fail
  refine (bnext_ok _ 3 3 1 [0, 0, 1] _ (ints_lit w _ _ 3 [0, 0, 1] rfl rfl) (by omega) (by decide +kernel) (by decide +kernel)).mono ?_
  rintro e w2 ⟨A2, n2, c2, rfl, hb, hI, hcap⟩
  have hb := below_step (below_alloc _ _) (Nat.le_refl _) hb
  rw [show nextL [0, 0, 1] 1 = [0, 1, 0] by decide +kernel] at hI
  have hn2 : 3 = n2 := hI.len
  subst hn2
  have HB1 := hid (below_step HB0.out (Nat.le_refl _) hb)
  have HA1 : Hid (All w2 [(A2, 3, [0, 1, 0]), (A0, n0, x0), (A1, n1, x1)]) := ⟨hI, HA0.out.keep hb⟩
  clear HA0 HB0
  clear hb hI hcap
  go_wp2_with fail
  refine (equal_bel A2 3 c2 _ 3 3 [0, 1, 0] [0, 1, 0] _ ((HA1.out.1).keep (below_alloc _ _)) (ints_lit w2 _ _ 3 [0, 1, 0] rfl rfl) (by omega) (by omega)).mono ?_
  rintro e w3 ⟨rfl, hb⟩
  have hb := below_step (below_alloc _ _) (Nat.le_refl _) hb
  have HB2 := hid (below_step HB1.out (Nat.le_refl _) hb)
  have HA2 : Hid (All w3 [(A2, 3, [0, 1, 0]), (A0, n0, x0), (A1, n1, x1)]) := HA1.out.keep hb
  clear HA1 HB1
  clear hb
  rw [show decide (([0, 1, 0] : List Int) = [0, 1, 0]) = true by decide]
  go_wp2_with fail
  refine (bof_ok A0 m c0 (x0.take m) _ ((HA2.out.2.1).take q0) hm10).mono ?_
  rintro e w4 ⟨A4, n4, c4, rfl, hb, hI, hcap⟩
  have hn4 : m = n4 := by rw [← HLA.out]; exact hI.len
  subst hn4
  have HB3 := hid (below_step HB2.out (Nat.le_refl _) hb)
  have HA3 : Hid (All w4 [(A4, m, (ofL (x0.take m))), (A2, 3, [0, 1, 0]), (A0, n0, x0), (A1, n1, x1)]) := ⟨hI, HA2.out.keep hb⟩
  clear HA2 HB2
  clear hb hI hcap
  clear hmin
  go_wp2_with fail
  refine (bof_ok A1 m c1 (x1.take m) _ ((HA3.out.2.2.2.1).take q1) hm10).mono ?_
  rintro e w5 ⟨A5, n5, c5, rfl, hb, hI, hcap⟩
  have hn5 : m = n5 := by rw [← HLB.out]; exact hI.len
  subst hn5
  have HB4 := hid (below_step HB3.out (Nat.le_refl _) hb)
  have HA4 : Hid (All w5 [(A5, m, (ofL (x1.take m))), (A4, m, (ofL (x0.take m))), (A2, 3, [0, 1, 0]), (A0, n0, x0), (A1, n1, x1)]) := ⟨hI, HA3.out.keep hb⟩
  clear HA3 HB3
  clear hb hI hcap
  go_wp2_with fail
  refine (good_bel w5 _ _ 2 [0, 0] rfl rfl (by omega)).mono ?_
  rintro e w_good1 ⟨rfl, hb⟩
  have HB5 := hid (below_step HB4.out (Nat.le_refl _) hb)
  have HA5 : Hid (All w_good1 [(A5, m, (ofL (x1.take m))), (A4, m, (ofL (x0.take m))), (A2, 3, [0, 1, 0]), (A0, n0, x0), (A1, n1, x1)]) := HA4.out.keep hb
  clear HA4 HB4
  clear hb
  rw [show allOK [0, 0] = true by decide]
  generalize ofL (x0.take m) = a at *
  generalize ofL (x1.take m) = b at *
  go_wp2_with fail
  refine (bnext_ok A4 m c4 L a _ HA5.out.2.1 hm10 HRA.out HL.out).mono ?_
  rintro e w6 ⟨A6, n6, c6, rfl, hb, hI, hcap⟩
  have hLm := (ltg_some HL.out).1
  have hLb := (ltg_some HL.out).2.1
  have HLC : Hid ((nextL a L).length = m) := by rw [length_nextL (by rw [HLA.out]; exact hLm)]; exact HLA.out
  have hn6 : m = n6 := by rw [← HLC.out]; exact hI.len
  subst hn6
  have HRC := hid (rgs_nextL (by rw [HLA.out]; exact hLm) HRA.out hLb)
  have HZ1 := hid (next_ahead (a := a) (L := L) (by rw [HLA.out]; exact hLm))
  have HZ2 := hid (none_between (a := a) (b := b) (L := L) (by rw [HLA.out]; exact HLB.out) HRB.out (by rw [HLA.out]; exact HL.out))
  clear hLb
  have HB6 := hid (below_step HB5.out (Nat.le_refl _) hb)
  have HA6 : Hid (All w6 [(A6, m, (nextL a L)), (A5, m, b), (A4, m, a), (A2, 3, [0, 1, 0]), (A0, n0, x0), (A1, n1, x1)]) := ⟨hI, HA5.out.keep hb⟩
  clear HA5 HB5
  clear hb hI hcap
  have HCK : Hid (heapErr (nextL a L) = 0) := heapErr_ok (by rw [HLC.out]; exact hm10) HRC.out
  go_wp2_with fail
  refine (bcheck_any A6 m c6 (nextL a L) _ HA6.out.1 (by omega)).mono ?_
  rintro e w' ⟨rfl, rfl⟩
  rw [HCK.out]
  have hmm : ((m : Int) == (m : Int)) = true := by simp
  go_wp2_with fail
  refine (compareL_any A4 m c4 A6 c6 a (nextL a L) _ HA6.out.2.2.1 HA6.out.1 (by omega)).mono ?_
  rintro e w' ⟨rfl, rfl⟩
  rw [HZ1.out]
  go_wp2_with fail
  refine (compareL_any A5 m c5 A4 c4 b a _ HA6.out.2.1 HA6.out.2.2.1 (by omega)).mono ?_
  rintro e w' ⟨rfl, rfl⟩
  have hz := HC.out
  have hz2 := HZ2.out
  generalize cmpL b a = z at *
  go_wp2
  go_ret
  exact ⟨rfl, HB6.out⟩

set_option maxHeartbeats 4000000 in
set_option maxRecDepth 100000 in
theorem blocksNext_ge (A0 : Option Addr) (n0 c0 : Nat) (x0 : List Int) (A1 : Option Addr) (n1 c1 : Nat) (x1 : List Int) (m L : Nat) (w : World) (h0 : Ints w A0 n0 x0) (h1 : Ints w A1 n1 x1) (hc0 : n0 ≤ c0) (hc1 : n1 ≤ c1) (_hm0 : c0 ≤ maxLen) (_hm1 : c1 ≤ maxLen) (hm : m = min (min n0 n1) 10) (hL : ltg (ofL (x0.take m)) m = (L : Int)) (hcmp : ¬ cmpL (ofL (x1.take m)) (ofL (x0.take m)) ≤ 0) :
    Calls Try.prog 6 #[.slice A0 n0 c0, .slice A1 n1 c1] w fun e w' => e = .returned (.bool true) ∧ Below w.heap.size w w' := by
  unfold maxLen at _hm0 _hm1
  have hmin := run_min3 (P := Try.prog) n0 n1 m hm
  have q0 : m ≤ n0 := by omega
  have q1 : m ≤ n1 := by omega
  have hm10 : m ≤ 10 := by omega
  clear hm
  have HLA : Hid ((ofL (x0.take m)).length = m) := by rw [length_ofL, List.length_take, h0.len]; exact Nat.min_eq_left q0
  have HLB : Hid ((ofL (x1.take m)).length = m) := by rw [length_ofL, List.length_take, h1.len]; exact Nat.min_eq_left q1
  have HRA := hid (rgs_ofL (x0.take m))
  have HRB := hid (rgs_ofL (x1.take m))
  have HB0 := hid (Below.refl w.heap.size w)
  have HA0 : Hid (All w [(A0, n0, x0), (A1, n1, x1)]) := ⟨h0, h1, trivial⟩
  clear h0 h1
  have HL := hid hL
  clear hL
  have HC := hid hcmp
  clear hcmp
  go_enter Try.func6, Try.ntmps6
  go_wp2_with fail
  refine (bnext_ok _ 3 3 1 [0, 0, 1] _ (ints_lit w _ _ 3 [0, 0, 1] rfl rfl) (by omega) (by decide +kernel) (by decide +kernel)).mono ?_
  rintro e w2 ⟨A2, n2, c2, rfl, hb, hI, hcap⟩
  have hb := below_step (below_alloc _ _) (Nat.le_refl _) hb
  rw [show nextL [0, 0, 1] 1 = [0, 1, 0] by decide +kernel] at hI
  have hn2 : 3 = n2 := hI.len
  subst hn2
  have HB1 := hid (below_step HB0.out (Nat.le_refl _) hb)
  have HA1 : Hid (All w2 [(A2, 3, [0, 1, 0]), (A0, n0, x0), (A1, n1, x1)]) := ⟨hI, HA0.out.keep hb⟩
  clear HA0 HB0
  clear hb hI hcap
  go_wp2_with fail
  refine (equal_bel A2 3 c2 _ 3 3 [0, 1, 0] [0, 1, 0] _ ((HA1.out.1).keep (below_alloc _ _)) (ints_lit w2 _ _ 3 [0, 1, 0] rfl rfl) (by omega) (by omega)).mono ?_
  rintro e w3 ⟨rfl, hb⟩
  have hb := below_step (below_alloc _ _) (Nat.le_refl _) hb
  have HB2 := hid (below_step HB1.out (Nat.le_refl _) hb)
  have HA2 : Hid (All w3 [(A2, 3, [0, 1, 0]), (A0, n0, x0), (A1, n1, x1)]) := HA1.out.keep hb
  clear HA1 HB1
  clear hb
  rw [show decide (([0, 1, 0] : List Int) = [0, 1, 0]) = true by decide]
  go_wp2_with fail
  refine (bof_ok A0 m c0 (x0.take m) _ ((HA2.out.2.1).take q0) hm10).mono ?_
  rintro e w4 ⟨A4, n4, c4, rfl, hb, hI, hcap⟩
  have hn4 : m = n4 := by rw [← HLA.out]; exact hI.len
  subst hn4
  have HB3 := hid (below_step HB2.out (Nat.le_refl _) hb)
  have HA3 : Hid (All w4 [(A4, m, (ofL (x0.take m))), (A2, 3, [0, 1, 0]), (A0, n0, x0), (A1, n1, x1)]) := ⟨hI, HA2.out.keep hb⟩
  clear HA2 HB2
  clear hb hI hcap
  clear hmin
  go_wp2_with fail
  refine (bof_ok A1 m c1 (x1.take m) _ ((HA3.out.2.2.2.1).take q1) hm10).mono ?_
  rintro e w5 ⟨A5, n5, c5, rfl, hb, hI, hcap⟩
  have hn5 : m = n5 := by rw [← HLB.out]; exact hI.len
  subst hn5
  have HB4 := hid (below_step HB3.out (Nat.le_refl _) hb)
  have HA4 : Hid (All w5 [(A5, m, (ofL (x1.take m))), (A4, m, (ofL (x0.take m))), (A2, 3, [0, 1, 0]), (A0, n0, x0), (A1, n1, x1)]) := ⟨hI, HA3.out.keep hb⟩
  clear HA3 HB3
  clear hb hI hcap
  go_wp2_with fail
  refine (good_bel w5 _ _ 2 [0, 0] rfl rfl (by omega)).mono ?_
  rintro e w_good1 ⟨rfl, hb⟩
  have HB5 := hid (below_step HB4.out (Nat.le_refl _) hb)
  have HA5 : Hid (All w_good1 [(A5, m, (ofL (x1.take m))), (A4, m, (ofL (x0.take m))), (A2, 3, [0, 1, 0]), (A0, n0, x0), (A1, n1, x1)]) := HA4.out.keep hb
  clear HA4 HB4
  clear hb
  rw [show allOK [0, 0] = true by decide]
  generalize ofL (x0.take m) = a at *
  generalize ofL (x1.take m) = b at *
  go_wp2_with fail
  refine (bnext_ok A4 m c4 L a _ HA5.out.2.1 hm10 HRA.out HL.out).mono ?_
  rintro e w6 ⟨A6, n6, c6, rfl, hb, hI, hcap⟩
  have hLm := (ltg_some HL.out).1
  have hLb := (ltg_some HL.out).2.1
  have HLC : Hid ((nextL a L).length = m) := by rw [length_nextL (by rw [HLA.out]; exact hLm)]; exact HLA.out
  have hn6 : m = n6 := by rw [← HLC.out]; exact hI.len
  subst hn6
  have HRC := hid (rgs_nextL (by rw [HLA.out]; exact hLm) HRA.out hLb)
  have HZ1 := hid (next_ahead (a := a) (L := L) (by rw [HLA.out]; exact hLm))
  have HZ2 := hid (none_between (a := a) (b := b) (L := L) (by rw [HLA.out]; exact HLB.out) HRB.out (by rw [HLA.out]; exact HL.out))
  clear hLb
  have HB6 := hid (below_step HB5.out (Nat.le_refl _) hb)
  have HA6 : Hid (All w6 [(A6, m, (nextL a L)), (A5, m, b), (A4, m, a), (A2, 3, [0, 1, 0]), (A0, n0, x0), (A1, n1, x1)]) := ⟨hI, HA5.out.keep hb⟩
  clear HA5 HB5
  clear hb hI hcap
  have HCK : Hid (heapErr (nextL a L) = 0) := heapErr_ok (by rw [HLC.out]; exact hm10) HRC.out
  go_wp2_with fail
  refine (bcheck_any A6 m c6 (nextL a L) _ HA6.out.1 (by omega)).mono ?_
  rintro e w' ⟨rfl, rfl⟩
  rw [HCK.out]
  have hmm : ((m : Int) == (m : Int)) = true := by simp
  go_wp2_with fail
  refine (compareL_any A4 m c4 A6 c6 a (nextL a L) _ HA6.out.2.2.1 HA6.out.1 (by omega)).mono ?_
  rintro e w' ⟨rfl, rfl⟩
  rw [HZ1.out]
  go_wp2_with fail
  refine (compareL_any A5 m c5 A4 c4 b a _ HA6.out.2.1 HA6.out.2.2.1 (by omega)).mono ?_
  rintro e w' ⟨rfl, rfl⟩
  have hz := HC.out
  have hz2 := HZ2.out
  generalize cmpL b a = z at *
  go_wp2_with fail
  refine (compareL_any A5 m c5 A6 c6 b (nextL a L) _ HA6.out.2.1 HA6.out.1 (by omega)).mono ?_
  rintro e w' ⟨rfl, rfl⟩
  have hz3 := hz2.resolve_left (by omega)
  generalize cmpL b (nextL a L) = z2 at *
  go_wp2
  go_ret
  exact ⟨rfl, HB6.out⟩

theorem blocksNext_any (A0 : Option Addr) (n0 c0 : Nat) (x0 : List Int) (A1 : Option Addr) (n1 c1 : Nat) (x1 : List Int) (w : World) (h0 : Ints w A0 n0 x0) (h1 : Ints w A1 n1 x1) (hc0 : n0 ≤ c0) (hc1 : n1 ≤ c1) (hm0 : c0 ≤ maxLen) (hm1 : c1 ≤ maxLen) :
    Calls Try.prog 6 #[.slice A0 n0 c0, .slice A1 n1 c1] w fun e w' => e = .returned (.bool true) ∧ Below w.heap.size w w' := by
  by_cases hL : ltg (ofL (x0.take (min (min n0 n1) 10))) (min (min n0 n1) 10) < 0
  · exact blocksNext_none A0 n0 c0 x0 A1 n1 c1 x1 _ w h0 h1 hc0 hc1 hm0 hm1 rfl hL
  · obtain ⟨L, hL2⟩ := Int.eq_ofNat_of_zero_le (show 0 ≤ ltg (ofL (x0.take (min (min n0 n1) 10))) (min (min n0 n1) 10) by omega)
    by_cases hcmp : cmpL (ofL (x1.take (min (min n0 n1) 10))) (ofL (x0.take (min (min n0 n1) 10))) ≤ 0
    · exact blocksNext_le A0 n0 c0 x0 A1 n1 c1 x1 _ L w h0 h1 hc0 hc1 hm0 hm1 rfl hL2 hcmp
    · exact blocksNext_ge A0 n0 c0 x0 A1 n1 c1 x1 _ L w h0 h1 hc0 hc1 hm0 hm1 rfl hL2 hcmp

end Go.Proofs.Ytigfhpffghajaaa
