/-
  Proved: castkeep.PermGroup returns true whatever its arguments.
-/
import Derived.Test.YtheogajhclhlhaaAll
namespace Go.Proofs.Ytheogajhclhlhaa
open Go.RowKit

set_option maxHeartbeats 2000000 in
set_option maxRecDepth 100000 in
theorem permGroup_any (A0 : Option Addr) (n0 c0 : Nat) (x0 : List Int) (A1 : Option Addr) (n1 c1 : Nat) (x1 : List Int) (A2 : Option Addr) (n2 c2 : Nat) (x2 : List Int) (w : World)
    (h0 : Ints w A0 n0 x0) (h1 : Ints w A1 n1 x1) (h2 : Ints w A2 n2 x2) (hc0 : n0 ≤ c0) (hc1 : n1 ≤ c1) (hc2 : n2 ≤ c2) (hm0 : c0 ≤ maxLen) (hm1 : c1 ≤ maxLen) (hm2 : c2 ≤ maxLen) :
    Calls Try.prog 5 #[.slice A0 n0 c0, .slice A1 n1 c1, .slice A2 n2 c2] w fun e w' => e = .returned (.bool true) ∧ Below w.heap.size w w' := by
  unfold maxLen at hm0 hm1 hm2
  obtain ⟨m, hm⟩ : ∃ m, m = min (min (min n0 n1) n2) 10 := ⟨_, rfl⟩
  have hmin := run_min4 (P := Try.prog) n0 n1 n2 m hm
  have q0 : m ≤ n0 := by omega
  have q1 : m ≤ n1 := by omega
  have q2 : m ≤ n2 := by omega
  have hm10 : m ≤ 10 := by omega
  clear hm
  go_enter Try.func5, Try.ntmps5
  go_wp2_with fail
  refine (perms_any _).mono ?_
  rintro e w1 ⟨rfl, hb⟩
  have HB0 := hid hb
  have HA0 : Hid (All w1 [(A0, n0, x0), (A1, n1, x1), (A2, n2, x2)]) := ⟨h0.keep hb, h1.keep hb, h2.keep hb, trivial⟩
  clear hb h0 h1 h2
  go_wp2_with fail
  refine (permOf_perm A0 n0 c0 m x0 _ HA0.out.1 hc0 q0 hm10).mono ?_
  rintro e w_a ⟨A_a, c_a, p_a, rfl, hp_a, hI, hcap_a, hb⟩
  have HP_a := hid hp_a
  have HB1 := hid (below_step HB0.out (Nat.le_refl _) hb)
  have HA1 : Hid (All w_a [(A_a, m, p_a), (A0, n0, x0), (A1, n1, x1), (A2, n2, x2)]) := ⟨hI, HA0.out.keep hb⟩
  clear HA0 HB0
  clear hp_a hI hb
  go_wp2_with fail
  refine (permOf_perm A1 n1 c1 m x1 _ HA1.out.2.2.1 hc1 q1 hm10).mono ?_
  rintro e w_b ⟨A_b, c_b, p_b, rfl, hp_b, hI, hcap_b, hb⟩
  have HP_b := hid hp_b
  have HB2 := hid (below_step HB1.out (Nat.le_refl _) hb)
  have HA2 : Hid (All w_b [(A_b, m, p_b), (A_a, m, p_a), (A0, n0, x0), (A1, n1, x1), (A2, n2, x2)]) := ⟨hI, HA1.out.keep hb⟩
  clear HA1 HB1
  clear hp_b hI hb
  go_wp2_with fail
  refine (permOf_perm A2 n2 c2 m x2 _ HA2.out.2.2.2.2.1 hc2 q2 hm10).mono ?_
  rintro e w_c ⟨A_c, c_c, p_c, rfl, hp_c, hI, hcap_c, hb⟩
  have HP_c := hid hp_c
  have HB3 := hid (below_step HB2.out (Nat.le_refl _) hb)
  have HA3 : Hid (All w_c [(A_c, m, p_c), (A_b, m, p_b), (A_a, m, p_a), (A0, n0, x0), (A1, n1, x1), (A2, n2, x2)]) := ⟨hI, HA2.out.keep hb⟩
  clear HA2 HB2
  clear hp_c hI hb
  go_wp2_with fail
  refine (times_perm A_a m c_a A_b c_b (p_a) (p_b) _ HA3.out.2.2.1 HA3.out.2.1 HP_a.out HP_b.out hm10).mono ?_
  rintro e w_ab ⟨A_ab, c_ab, rfl, hI, hcap_ab, hb⟩
  have HP_ab := hid (isPerm_times HP_a.out HP_b.out (by rw [(HA3.out.2.2.1).len, (HA3.out.2.1).len]))
  have HB4 := hid (below_step HB3.out (Nat.le_refl _) hb)
  have HA4 : Hid (All w_ab [(A_ab, m, times (p_a) (p_b)), (A_c, m, p_c), (A_b, m, p_b), (A_a, m, p_a), (A0, n0, x0), (A1, n1, x1), (A2, n2, x2)]) := ⟨hI, HA3.out.keep hb⟩
  clear HA3 HB3
  clear hI hb
  go_wp2_with fail
  refine (times_perm A_b m c_b A_c c_c (p_b) (p_c) _ HA4.out.2.2.1 HA4.out.2.1 HP_b.out HP_c.out hm10).mono ?_
  rintro e w_bc ⟨A_bc, c_bc, rfl, hI, hcap_bc, hb⟩
  have HP_bc := hid (isPerm_times HP_b.out HP_c.out (by rw [(HA4.out.2.2.1).len, (HA4.out.2.1).len]))
  have HB5 := hid (below_step HB4.out (Nat.le_refl _) hb)
  have HA5 : Hid (All w_bc [(A_bc, m, times (p_b) (p_c)), (A_ab, m, times (p_a) (p_b)), (A_c, m, p_c), (A_b, m, p_b), (A_a, m, p_a), (A0, n0, x0), (A1, n1, x1), (A2, n2, x2)]) := ⟨hI, HA4.out.keep hb⟩
  clear HA4 HB4
  clear hI hb
  go_wp2_with fail
  refine (times_perm A_ab m c_ab A_c c_c (times (p_a) (p_b)) (p_c) _ HA5.out.2.1 HA5.out.2.2.1 HP_ab.out HP_c.out hm10).mono ?_
  rintro e w_l ⟨A_l, c_l, rfl, hI, hcap_l, hb⟩
  have HP_l := hid (isPerm_times HP_ab.out HP_c.out (by rw [(HA5.out.2.1).len, (HA5.out.2.2.1).len]))
  have HB6 := hid (below_step HB5.out (Nat.le_refl _) hb)
  have HA6 : Hid (All w_l [(A_l, m, times (times (p_a) (p_b)) (p_c)), (A_bc, m, times (p_b) (p_c)), (A_ab, m, times (p_a) (p_b)), (A_c, m, p_c), (A_b, m, p_b), (A_a, m, p_a), (A0, n0, x0), (A1, n1, x1), (A2, n2, x2)]) := ⟨hI, HA5.out.keep hb⟩
  clear HA5 HB5
  clear hI hb
  go_wp2_with fail
  refine (times_perm A_a m c_a A_bc c_bc (p_a) (times (p_b) (p_c)) _ HA6.out.2.2.2.2.2.1 HA6.out.2.1 HP_a.out HP_bc.out hm10).mono ?_
  rintro e w_r ⟨A_r, c_r, rfl, hI, hcap_r, hb⟩
  have HP_r := hid (isPerm_times HP_a.out HP_bc.out (by rw [(HA6.out.2.2.2.2.2.1).len, (HA6.out.2.1).len]))
  have HB7 := hid (below_step HB6.out (Nat.le_refl _) hb)
  have HA7 : Hid (All w_r [(A_r, m, times (p_a) (times (p_b) (p_c))), (A_l, m, times (times (p_a) (p_b)) (p_c)), (A_bc, m, times (p_b) (p_c)), (A_ab, m, times (p_a) (p_b)), (A_c, m, p_c), (A_b, m, p_b), (A_a, m, p_a), (A0, n0, x0), (A1, n1, x1), (A2, n2, x2)]) := ⟨hI, HA6.out.keep hb⟩
  clear HA6 HB6
  clear hI hb
  go_wp2_with fail
  refine (inverse_perm A_a m c_a (p_a) _ HA7.out.2.2.2.2.2.2.1 HP_a.out hm10).mono ?_
  rintro e w_va ⟨p_va, hinv, A_va, c_va, rfl, hI, hcap_va, hb⟩
  have HV_va := hid hinv
  have HP_va := hid (hinv.isPerm HP_a.out)
  have HB8 := hid (below_step HB7.out (Nat.le_refl _) hb)
  have HA8 : Hid (All w_va [(A_va, m, p_va), (A_r, m, times (p_a) (times (p_b) (p_c))), (A_l, m, times (times (p_a) (p_b)) (p_c)), (A_bc, m, times (p_b) (p_c)), (A_ab, m, times (p_a) (p_b)), (A_c, m, p_c), (A_b, m, p_b), (A_a, m, p_a), (A0, n0, x0), (A1, n1, x1), (A2, n2, x2)]) := ⟨hI, HA7.out.keep hb⟩
  clear HA7 HB7
  clear hI hb hinv
  go_wp2_with fail
  refine (inverse_perm A_b m c_b (p_b) _ HA8.out.2.2.2.2.2.2.1 HP_b.out hm10).mono ?_
  rintro e w_vb ⟨p_vb, hinv, A_vb, c_vb, rfl, hI, hcap_vb, hb⟩
  have HV_vb := hid hinv
  have HP_vb := hid (hinv.isPerm HP_b.out)
  have HB9 := hid (below_step HB8.out (Nat.le_refl _) hb)
  have HA9 : Hid (All w_vb [(A_vb, m, p_vb), (A_va, m, p_va), (A_r, m, times (p_a) (times (p_b) (p_c))), (A_l, m, times (times (p_a) (p_b)) (p_c)), (A_bc, m, times (p_b) (p_c)), (A_ab, m, times (p_a) (p_b)), (A_c, m, p_c), (A_b, m, p_b), (A_a, m, p_a), (A0, n0, x0), (A1, n1, x1), (A2, n2, x2)]) := ⟨hI, HA8.out.keep hb⟩
  clear HA8 HB8
  clear hI hb hinv
  go_wp2_with fail
  refine (inverse_perm A_ab m c_ab (times (p_a) (p_b)) _ HA9.out.2.2.2.2.2.1 HP_ab.out hm10).mono ?_
  rintro e w_vab ⟨p_vab, hinv, A_vab, c_vab, rfl, hI, hcap_vab, hb⟩
  have HV_vab := hid hinv
  have HP_vab := hid (hinv.isPerm HP_ab.out)
  have HB10 := hid (below_step HB9.out (Nat.le_refl _) hb)
  have HA10 : Hid (All w_vab [(A_vab, m, p_vab), (A_vb, m, p_vb), (A_va, m, p_va), (A_r, m, times (p_a) (times (p_b) (p_c))), (A_l, m, times (times (p_a) (p_b)) (p_c)), (A_bc, m, times (p_b) (p_c)), (A_ab, m, times (p_a) (p_b)), (A_c, m, p_c), (A_b, m, p_b), (A_a, m, p_a), (A0, n0, x0), (A1, n1, x1), (A2, n2, x2)]) := ⟨hI, HA9.out.keep hb⟩
  clear HA9 HB9
  clear hI hb hinv
  go_wp2_with fail
  refine (times_perm A_vb m c_vb A_va c_va (p_vb) (p_va) _ HA10.out.2.1 HA10.out.2.2.1 HP_vb.out HP_va.out hm10).mono ?_
  rintro e w_ba ⟨A_ba, c_ba, rfl, hI, hcap_ba, hb⟩
  have HP_ba := hid (isPerm_times HP_vb.out HP_va.out (by rw [(HA10.out.2.1).len, (HA10.out.2.2.1).len]))
  have HB11 := hid (below_step HB10.out (Nat.le_refl _) hb)
  have HA11 : Hid (All w_ba [(A_ba, m, times (p_vb) (p_va)), (A_vab, m, p_vab), (A_vb, m, p_vb), (A_va, m, p_va), (A_r, m, times (p_a) (times (p_b) (p_c))), (A_l, m, times (times (p_a) (p_b)) (p_c)), (A_bc, m, times (p_b) (p_c)), (A_ab, m, times (p_a) (p_b)), (A_c, m, p_c), (A_b, m, p_b), (A_a, m, p_a), (A0, n0, x0), (A1, n1, x1), (A2, n2, x2)]) := ⟨hI, HA10.out.keep hb⟩
  clear HA10 HB10
  clear hI hb
  go_wp2_with fail
  refine (times_perm A_a m c_a A_va c_va (p_a) (p_va) _ HA11.out.2.2.2.2.2.2.2.2.2.2.1 HA11.out.2.2.2.1 HP_a.out HP_va.out hm10).mono ?_
  rintro e w_one ⟨A_one, c_one, rfl, hI, hcap_one, hb⟩
  have HP_one := hid (isPerm_times HP_a.out HP_va.out (by rw [(HA11.out.2.2.2.2.2.2.2.2.2.2.1).len, (HA11.out.2.2.2.1).len]))
  have HB12 := hid (below_step HB11.out (Nat.le_refl _) hb)
  have HA12 : Hid (All w_one [(A_one, m, times (p_a) (p_va)), (A_ba, m, times (p_vb) (p_va)), (A_vab, m, p_vab), (A_vb, m, p_vb), (A_va, m, p_va), (A_r, m, times (p_a) (times (p_b) (p_c))), (A_l, m, times (times (p_a) (p_b)) (p_c)), (A_bc, m, times (p_b) (p_c)), (A_ab, m, times (p_a) (p_b)), (A_c, m, p_c), (A_b, m, p_b), (A_a, m, p_a), (A0, n0, x0), (A1, n1, x1), (A2, n2, x2)]) := ⟨hI, HA11.out.keep hb⟩
  clear HA11 HB11
  clear hI hb
  go_wp2_with fail
  refine (times_perm A_va m c_va A_a c_a (p_va) (p_a) _ HA12.out.2.2.2.2.1 HA12.out.2.2.2.2.2.2.2.2.2.2.2.1 HP_va.out HP_a.out hm10).mono ?_
  rintro e w_two ⟨A_two, c_two, rfl, hI, hcap_two, hb⟩
  have HP_two := hid (isPerm_times HP_va.out HP_a.out (by rw [(HA12.out.2.2.2.2.1).len, (HA12.out.2.2.2.2.2.2.2.2.2.2.2.1).len]))
  have HB13 := hid (below_step HB12.out (Nat.le_refl _) hb)
  have HA13 : Hid (All w_two [(A_two, m, times (p_va) (p_a)), (A_one, m, times (p_a) (p_va)), (A_ba, m, times (p_vb) (p_va)), (A_vab, m, p_vab), (A_vb, m, p_vb), (A_va, m, p_va), (A_r, m, times (p_a) (times (p_b) (p_c))), (A_l, m, times (times (p_a) (p_b)) (p_c)), (A_bc, m, times (p_b) (p_c)), (A_ab, m, times (p_a) (p_b)), (A_c, m, p_c), (A_b, m, p_b), (A_a, m, p_a), (A0, n0, x0), (A1, n1, x1), (A2, n2, x2)]) := ⟨hI, HA12.out.keep hb⟩
  clear HA12 HB12
  clear hI hb
  have la := HA13.out.2.2.2.2.2.2.2.2.2.2.2.2.1.len
  have lb := HA13.out.2.2.2.2.2.2.2.2.2.2.2.1.len
  have lc := HA13.out.2.2.2.2.2.2.2.2.2.2.1.len
  have HL := hid (And.intro la (And.intro lb lc))
  clear la lb lc
  go_wp2_with fail
  refine (good_bel w_two _ _ 10 [0, 0, 0, 0, 0, 0, 0, 0, 0, 0] rfl rfl (by omega)).mono ?_
  rintro e w_good1 ⟨rfl, hb⟩
  rw [show allOK [0, 0, 0, 0, 0, 0, 0, 0, 0, 0] = true by decide]
  have HB14 := hid (below_step HB13.out (Nat.le_refl _) hb)
  have HA14 : Hid (All w_good1 [(A_two, m, times (p_va) (p_a)), (A_one, m, times (p_a) (p_va)), (A_ba, m, times (p_vb) (p_va)), (A_vab, m, p_vab), (A_vb, m, p_vb), (A_va, m, p_va), (A_r, m, times (p_a) (times (p_b) (p_c))), (A_l, m, times (times (p_a) (p_b)) (p_c)), (A_bc, m, times (p_b) (p_c)), (A_ab, m, times (p_a) (p_b)), (A_c, m, p_c), (A_b, m, p_b), (A_a, m, p_a), (A0, n0, x0), (A1, n1, x1), (A2, n2, x2)]) := HA13.out.keep hb
  clear HA13 HB13
  clear hb
  go_wp2_with fail
  refine (equal_bel A_l m c_l A_r m c_r (times (times (p_a) (p_b)) (p_c)) (times (p_a) (times (p_b) (p_c))) _ HA14.out.2.2.2.2.2.2.2.1 HA14.out.2.2.2.2.2.2.1 (by omega) (by omega)).mono ?_
  rintro e w_eq14 ⟨rfl, hb⟩
  rw [decide_eq_true (times_assoc HP_c.out (by rw [HL.out.2.1, HL.out.2.2]))]
  have HB15 := hid (below_step HB14.out (Nat.le_refl _) hb)
  have HA15 : Hid (All w_eq14 [(A_two, m, times (p_va) (p_a)), (A_one, m, times (p_a) (p_va)), (A_ba, m, times (p_vb) (p_va)), (A_vab, m, p_vab), (A_vb, m, p_vb), (A_va, m, p_va), (A_r, m, times (p_a) (times (p_b) (p_c))), (A_l, m, times (times (p_a) (p_b)) (p_c)), (A_bc, m, times (p_b) (p_c)), (A_ab, m, times (p_a) (p_b)), (A_c, m, p_c), (A_b, m, p_b), (A_a, m, p_a), (A0, n0, x0), (A1, n1, x1), (A2, n2, x2)]) := HA14.out.keep hb
  clear HA14 HB14
  clear hb
  go_wp2_with fail
  refine (equal_bel A_vab m c_vab A_ba m c_ba (p_vab) (times (p_vb) (p_va)) _ HA15.out.2.2.2.1 HA15.out.2.2.1 (by omega) (by omega)).mono ?_
  rintro e w_eq15 ⟨rfl, hb⟩
  rw [decide_eq_true (HV_vab.out.unique (HV_va.out.times HV_vb.out HP_b.out HP_a.out (by rw [HL.out.1, HL.out.2.1])) HP_ab.out)]
  have HB16 := hid (below_step HB15.out (Nat.le_refl _) hb)
  have HA16 : Hid (All w_eq15 [(A_two, m, times (p_va) (p_a)), (A_one, m, times (p_a) (p_va)), (A_ba, m, times (p_vb) (p_va)), (A_vab, m, p_vab), (A_vb, m, p_vb), (A_va, m, p_va), (A_r, m, times (p_a) (times (p_b) (p_c))), (A_l, m, times (times (p_a) (p_b)) (p_c)), (A_bc, m, times (p_b) (p_c)), (A_ab, m, times (p_a) (p_b)), (A_c, m, p_c), (A_b, m, p_b), (A_a, m, p_a), (A0, n0, x0), (A1, n1, x1), (A2, n2, x2)]) := HA15.out.keep hb
  clear HA15 HB15
  clear hb
  go_wp2_with fail
  refine (isSorted_bel A_one m c_one (times (p_a) (p_va)) _ HA16.out.2.1 (by omega)).mono ?_
  rintro e w_so16 ⟨rfl, hb⟩
  rw [show sortedB (times (p_a) (p_va)) = true from by rw [HV_va.out.right HP_a.out]; exact sorted_iota _]
  have HB17 := hid (below_step HB16.out (Nat.le_refl _) hb)
  have HA17 : Hid (All w_so16 [(A_two, m, times (p_va) (p_a)), (A_one, m, times (p_a) (p_va)), (A_ba, m, times (p_vb) (p_va)), (A_vab, m, p_vab), (A_vb, m, p_vb), (A_va, m, p_va), (A_r, m, times (p_a) (times (p_b) (p_c))), (A_l, m, times (times (p_a) (p_b)) (p_c)), (A_bc, m, times (p_b) (p_c)), (A_ab, m, times (p_a) (p_b)), (A_c, m, p_c), (A_b, m, p_b), (A_a, m, p_a), (A0, n0, x0), (A1, n1, x1), (A2, n2, x2)]) := HA16.out.keep hb
  clear HA16 HB16
  clear hb
  go_wp2_with fail
  refine (equal_bel A_one m c_one A_two m c_two (times (p_a) (p_va)) (times (p_va) (p_a)) _ HA17.out.2.1 HA17.out.1 (by omega) (by omega)).mono ?_
  rintro e w_eq17 ⟨rfl, hb⟩
  rw [decide_eq_true (by rw [HV_va.out.right HP_a.out, HV_va.out.left])]
  have HB18 := hid (below_step HB17.out (Nat.le_refl _) hb)
  have HA18 : Hid (All w_eq17 [(A_two, m, times (p_va) (p_a)), (A_one, m, times (p_a) (p_va)), (A_ba, m, times (p_vb) (p_va)), (A_vab, m, p_vab), (A_vb, m, p_vb), (A_va, m, p_va), (A_r, m, times (p_a) (times (p_b) (p_c))), (A_l, m, times (times (p_a) (p_b)) (p_c)), (A_bc, m, times (p_b) (p_c)), (A_ab, m, times (p_a) (p_b)), (A_c, m, p_c), (A_b, m, p_b), (A_a, m, p_a), (A0, n0, x0), (A1, n1, x1), (A2, n2, x2)]) := HA17.out.keep hb
  clear HA17 HB17
  clear hb
  go_wp2
  go_ret
  exact ⟨rfl, HB18.out⟩

end Go.Proofs.Ytheogajhclhlhaa
