/-
  Proved: castkeep.BlocksOf returns true whatever its arguments.
-/
import Derived.Test.YtigfhpffghajaaaBlkA
import Derived.Test.YtigfhpffghajaaaBlkD
import Derived.Test.YtigfhpffghajaaaRowB
namespace Go.Proofs.Ytigfhpffghajaaa
open Go.RowKit

set_option maxHeartbeats 4000000 in
set_option maxRecDepth 100000 in
theorem blocksOf_large (A0 : Option Addr) (n0 c0 : Nat) (x0 : List Int) (K : Int) (w : World) (h0 : Ints w A0 n0 x0) (hm0 : n0 ≤ 9223372036854775807) (hbd : ∀ y ∈ x0, -9223372036854775808 ≤ y ∧ y ≤ 9223372036854775807) (hn : 10 < n0) :
    Calls Try.prog 7 #[.slice A0 n0 c0, .int .i64 K] w fun e w' => e = .returned (.bool true) ∧ Below w.heap.size w w' := by
  have HBD := hid hbd
  clear hbd
  have HLX : Hid (x0.length = n0) := h0.len
  have HB0 := hid (Below.refl w.heap.size w)
  have HA0 : Hid (All w [(A0, n0, x0)]) := ⟨h0, trivial⟩
  clear h0
  go_enter Try.func7, Try.ntmps7
  go_wp2_with fail
  refine (bof_ok _ 3 3 [7, 3, 7] _ (ints_lit w _ _ 3 [7, 3, 7] rfl rfl) (by omega)).mono ?_
  rintro e w2 ⟨A2, n2, c2, rfl, hb, hI, hcap⟩
  replace hb := below_step (below_alloc _ _) (Nat.le_refl _) hb
  rw [show ofL [7, 3, 7] = [0, 1, 0] by decide +kernel] at hI
  have hn2 : 3 = n2 := hI.len
  subst hn2
  have HB1 := hid (below_step HB0.out (Nat.le_refl _) hb)
  have HA1 : Hid (All w2 [(A2, 3, [0, 1, 0]), (A0, n0, x0)]) := ⟨hI, HA0.out.keep hb⟩
  clear HA0 HB0
  clear hb hI hcap
  go_wp2_with fail
  refine (equal_bel A2 3 c2 _ 3 3 [0, 1, 0] [0, 1, 0] _ ((HA1.out.1).keep (below_alloc _ _)) (ints_lit w2 _ _ 3 [0, 1, 0] rfl rfl) (by omega) (by omega)).mono ?_
  rintro e w3 ⟨rfl, hb⟩
  replace hb := below_step (below_alloc _ _) (Nat.le_refl _) hb
  have HB2 := hid (below_step HB1.out (Nat.le_refl _) hb)
  have HA2 : Hid (All w3 [(A2, 3, [0, 1, 0]), (A0, n0, x0)]) := HA1.out.keep hb
  clear HA1 HB1
  clear hb
  rw [show decide (([0, 1, 0] : List Int) = [0, 1, 0]) = true by decide]
  go_wp2_with fail
  refine (bof_large A0 n0 c0 _ hn hm0).mono ?_
  rintro e w' ⟨rfl, rfl⟩
  have hnI : 10 < (n0 : Int) := by omega
  go_wp2
  go_ret
  exact ⟨rfl, HB2.out⟩

set_option maxHeartbeats 4000000 in
set_option maxRecDepth 100000 in
theorem blocksOf_small (A0 : Option Addr) (n0 c0 : Nat) (x0 : List Int) (K : Int) (w : World) (h0 : Ints w A0 n0 x0) (hm0 : n0 ≤ 9223372036854775807) (hbd : ∀ y ∈ x0, -9223372036854775808 ≤ y ∧ y ≤ 9223372036854775807) (hn : n0 ≤ 10) :
    Calls Try.prog 7 #[.slice A0 n0 c0, .int .i64 K] w fun e w' => e = .returned (.bool true) ∧ Below w.heap.size w w' := by
  have HBD := hid hbd
  clear hbd
  have HLX : Hid (x0.length = n0) := h0.len
  have HB0 := hid (Below.refl w.heap.size w)
  have HA0 : Hid (All w [(A0, n0, x0)]) := ⟨h0, trivial⟩
  clear h0
  go_enter Try.func7, Try.ntmps7
  go_wp2_with fail
  refine (bof_ok _ 3 3 [7, 3, 7] _ (ints_lit w _ _ 3 [7, 3, 7] rfl rfl) (by omega)).mono ?_
  rintro e w2 ⟨A2, n2, c2, rfl, hb, hI, hcap⟩
  replace hb := below_step (below_alloc _ _) (Nat.le_refl _) hb
  rw [show ofL [7, 3, 7] = [0, 1, 0] by decide +kernel] at hI
  have hn2 : 3 = n2 := hI.len
  subst hn2
  have HB1 := hid (below_step HB0.out (Nat.le_refl _) hb)
  have HA1 : Hid (All w2 [(A2, 3, [0, 1, 0]), (A0, n0, x0)]) := ⟨hI, HA0.out.keep hb⟩
  clear HA0 HB0
  clear hb hI hcap
  go_wp2_with fail
  refine (equal_bel A2 3 c2 _ 3 3 [0, 1, 0] [0, 1, 0] _ ((HA1.out.1).keep (below_alloc _ _)) (ints_lit w2 _ _ 3 [0, 1, 0] rfl rfl) (by omega) (by omega)).mono ?_
  rintro e w3 ⟨rfl, hb⟩
  replace hb := below_step (below_alloc _ _) (Nat.le_refl _) hb
  have HB2 := hid (below_step HB1.out (Nat.le_refl _) hb)
  have HA2 : Hid (All w3 [(A2, 3, [0, 1, 0]), (A0, n0, x0)]) := HA1.out.keep hb
  clear HA1 HB1
  clear hb
  rw [show decide (([0, 1, 0] : List Int) = [0, 1, 0]) = true by decide]
  have HLG : Hid ((ofL x0).length = n0) := by rw [length_ofL]; exact HLX.out
  go_wp2_with fail
  refine (bof_ok A0 n0 c0 x0 _ HA2.out.2.1 hn).mono ?_
  rintro e w4 ⟨A4, n4, c4, rfl, hb, hI, hcap⟩
  have hn4 : n0 = n4 := by rw [← HLG.out]; exact hI.len
  subst hn4
  have HB3 := hid (below_step HB2.out (Nat.le_refl _) hb)
  have HA3 : Hid (All w4 [(A4, n0, (ofL x0)), (A2, 3, [0, 1, 0]), (A0, n0, x0)]) := ⟨hI, HA2.out.keep hb⟩
  clear HA2 HB2
  clear hb hI hcap
  go_wp2_with fail
  refine (bof_ok A4 n0 c4 (ofL x0) _ HA3.out.1 hn).mono ?_
  rintro e w5 ⟨A5, n5, c5, rfl, hb, hI, hcap⟩
  rw [ofL_ofL] at hI
  have hn5 : n0 = n5 := by rw [← HLG.out]; exact hI.len
  subst hn5
  have HB4 := hid (below_step HB3.out (Nat.le_refl _) hb)
  have HA4 : Hid (All w5 [(A5, n0, (ofL x0)), (A4, n0, (ofL x0)), (A2, 3, [0, 1, 0]), (A0, n0, x0)]) := ⟨hI, HA3.out.keep hb⟩
  clear HA3 HB3
  clear hb hI hcap
  have HSAME : Hid (ofL (x0.map (fun v => bits .xor .i64 v K)) = ofL x0) := by
    refine (ofL_same (by rw [List.length_map]) (fun i j hi hj => ?_)).symm
    have m1 := HBD.out _ (getD_mem hi)
    have m2 := HBD.out _ (getD_mem hj)
    have e : ∀ t, t < x0.length → (x0.map (fun v => bits .xor .i64 v K)).getD t 0 = bits .xor .i64 (x0.getD t 0) K := fun t ht => by simp [List.getD_eq_getElem?_getD, List.getElem?_eq_getElem ht]
    rw [e i hi, e j hj]
    exact (xor64_inj m1 m2).symm
  obtain ⟨zs, hzs⟩ : ∃ zs, zs = x0.map (fun v => bits .xor .i64 v K) := ⟨_, rfl⟩
  have HZL : Hid (zs.length = n0) := by rw [hzs, List.length_map]; exact HLX.out
  have HZA : Hid (∀ t, t < n0 → zs.getD t 0 = bits .xor .i64 (x0.getD t 0) K) := fun t ht => by rw [← HLX.out] at ht; rw [hzs]; simp [List.getD_eq_getElem?_getD, List.getElem?_eq_getElem ht]
  rw [← hzs] at HSAME
  clear hzs
  go_wp2_with fail
  go_loopg [11, 55] n0 (fun g v s wr => ∃ j : Nat, j ≤ n0 ∧ n0 - j ≤ g ∧ s = .int .i64 j ∧ OwnInts wr w5.heap.size v (zs.take j) ∧ Below w5.heap.size w5 wr)
  case atStart => exact ⟨0, by omega, by omega, rfl, OwnInts.nil _ _, Below.refl _ _⟩
  case round =>
    obtain ⟨j, hj, hg, rfl, hown, hbel⟩ := hrel
    have HO := hid hown
    have HBL := hid hbel
    clear hown hbel
    by_cases hlt : j < n0
    · have hI0 : Ints wr A0 n0 x0 := (HA4.out.2.2.2.1).keep HBL.out
      obtain ⟨b, o, hA, _, hc⟩ := hI0.row (by omega)
      clear hI0
      have g1 := hc j hlt
      subst hA
      clear hc
      have HTS : Hid (zs.take (j + 1) = zs.take j ++ [bits .xor .i64 (x0.getD j 0) K]) := by rw [take_snoc (by rw [HZL.out]; exact hlt), HZA.out j hlt]; exact rfl
      have HTL : Hid ((zs.take j).length ≤ 1000000000000) := by rw [List.length_take]; exact show min j zs.length ≤ 1000000000000 by omega
      generalize x0.getD j 0 = x at *
      generalize zs.take j = ys at *
      go_wp2_with (at_builtin; refine wpList_app1 _ rfl (.tmp 59) (.tmp 63) rfl w5.heap.size _ ys (bits .xor .i64 x K) rfl rfl HO.out HTL.out HBL.out.size ?_)
      intro v' w6 hown6 _ hbel6
      have HO6 := hid hown6
      have HBL6 := hid (HBL.out.trans hbel6)
      clear hown6 hbel6 HO HBL
      go_wp2
      go_roundg (n0 - (j + 1))
      case measure => omega
      case rel => exact ⟨j + 1, by omega, by omega, by go_num, by rw [HTS.out]; exact HO6.out, HBL6.out⟩
    · have hjn : n0 = j := by omega
      subst hjn
      rw [List.take_of_length_le (by rw [HZL.out]; exact Nat.le_refl _)] at HO
      obtain ⟨A6, c6, rfl, hI, _⟩ := HO.out.ints
      have hb := HBL.out
      clear HO HBL
      rw [HZL.out] at hI ⊢
      have HB5 := hid (below_step HB4.out (Nat.le_refl _) hb)
      have HA5 : Hid (All wr [(A6, n0, zs), (A5, n0, (ofL x0)), (A4, n0, (ofL x0)), (A2, 3, [0, 1, 0]), (A0, n0, x0)]) := ⟨hI, HA4.out.keep hb⟩
      clear HA4 HB4
      clear hb hI
      go_wp2_with fail
      refine (bof_ok A6 n0 c6 zs _ HA5.out.1 hn).mono ?_
      rintro e w7 ⟨A7, n7, c7, rfl, hb, hI, hcap⟩
      rw [HSAME.out] at hI
      have hn7 : n0 = n7 := by rw [← HLG.out]; exact hI.len
      subst hn7
      have HB6 := hid (below_step HB5.out (Nat.le_refl _) hb)
      have HA6 : Hid (All w7 [(A7, n0, (ofL x0)), (A6, n0, zs), (A5, n0, (ofL x0)), (A4, n0, (ofL x0)), (A2, 3, [0, 1, 0]), (A0, n0, x0)]) := ⟨hI, HA5.out.keep hb⟩
      clear HA5 HB5
      clear hb hI hcap
      go_wp2_with fail
      refine (good_bel w7 _ _ 2 [0, 0] rfl rfl (by omega)).mono ?_
      rintro e w_good1 ⟨rfl, hb⟩
      have HB7 := hid (below_step HB6.out (Nat.le_refl _) hb)
      have HA7 : Hid (All w_good1 [(A7, n0, (ofL x0)), (A6, n0, zs), (A5, n0, (ofL x0)), (A4, n0, (ofL x0)), (A2, 3, [0, 1, 0]), (A0, n0, x0)]) := HA6.out.keep hb
      clear HA6 HB6
      clear hb
      rw [show allOK [0, 0] = true by decide]
      have HCK : Hid (heapErr (ofL x0) = 0) := heapErr_ok (by rw [HLG.out]; exact hn) (rgs_ofL x0)
      go_wp2_with fail
      refine (bcheck_any A4 n0 c4 (ofL x0) _ HA7.out.2.2.2.1 (by omega)).mono ?_
      rintro e w' ⟨rfl, rfl⟩
      rw [HCK.out]
      go_wp2_with fail
      refine (equal_bel A4 n0 c4 A5 n0 c5 (ofL x0) (ofL x0) _ HA7.out.2.2.2.1 HA7.out.2.2.1 (by omega) (by omega)).mono ?_
      rintro e w8 ⟨rfl, hb⟩
      have HB8 := hid (below_step HB7.out (Nat.le_refl _) hb)
      have HA8 : Hid (All w8 [(A7, n0, (ofL x0)), (A6, n0, zs), (A5, n0, (ofL x0)), (A4, n0, (ofL x0)), (A2, 3, [0, 1, 0]), (A0, n0, x0)]) := HA7.out.keep hb
      clear HA7 HB7
      clear hb
      rw [decide_eq_true (rfl : ofL x0 = ofL x0)]
      go_wp2_with fail
      refine (equal_bel A4 n0 c4 A7 n0 c7 (ofL x0) (ofL x0) _ HA8.out.2.2.2.1 HA8.out.1 (by omega) (by omega)).mono ?_
      rintro e w9 ⟨rfl, hb⟩
      have HB9 := hid (below_step HB8.out (Nat.le_refl _) hb)
      have HA9 : Hid (All w9 [(A7, n0, (ofL x0)), (A6, n0, zs), (A5, n0, (ofL x0)), (A4, n0, (ofL x0)), (A2, 3, [0, 1, 0]), (A0, n0, x0)]) := HA8.out.keep hb
      clear HA8 HB8
      clear hb
      rw [decide_eq_true (rfl : ofL x0 = ofL x0)]
      go_wp2
      go_ret
      exact ⟨rfl, HB9.out⟩

theorem blocksOf_any (A0 : Option Addr) (n0 c0 : Nat) (x0 : List Int) (K : Int) (w : World) (h0 : Ints w A0 n0 x0) (hc : n0 ≤ c0) (hm0 : c0 ≤ maxLen) (hbd : ∀ y ∈ x0, -9223372036854775808 ≤ y ∧ y ≤ 9223372036854775807) :
    Calls Try.prog 7 #[.slice A0 n0 c0, .int .i64 K] w fun e w' => e = .returned (.bool true) ∧ Below w.heap.size w w' := by
  unfold maxLen at hm0
  by_cases hn : 10 < n0
  · exact blocksOf_large A0 n0 c0 x0 K w h0 (by omega) hbd hn
  · exact blocksOf_small A0 n0 c0 x0 K w h0 (by omega) hbd (by omega)

end Go.Proofs.Ytigfhpffghajaaa
