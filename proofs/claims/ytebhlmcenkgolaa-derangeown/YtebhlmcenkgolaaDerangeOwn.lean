/-
  castkeep.DerangeOwn: the walk.
-/
import Derived.Test.YtebhlmcenkgolaaDerD
namespace Go.Proofs.Ytebhlmcenkgolaa
open Go.RowKit

set_option maxHeartbeats 4000000 in
set_option maxRecDepth 100000 in
theorem derangeOwn_any (A0 : Option Addr) (n0 c0 : Nat) (x0 : List Int) (A1 : Option Addr) (n1 c1 : Nat) (x1 : List Int) (w : World)
    (h0 : Ints w A0 n0 x0) (h1 : Ints w A1 n1 x1) (hc0 : n0 ≤ c0) (hc1 : n1 ≤ c1) (hm0 : c0 ≤ maxLen) (hm1 : c1 ≤ maxLen) :
    Calls Try.prog 6 #[.slice A0 n0 c0, .slice A1 n1 c1] w fun e w' => e = .returned (.bool true) ∧ Below w.heap.size w w' := by
  unfold maxLen at hm0 hm1
  obtain ⟨m, hm⟩ : ∃ m, m = min (min n0 n1) 10 := ⟨_, rfl⟩
  have hmin := run_min3 (P := Try.prog) n0 n1 m hm
  have q0 : m ≤ n0 := by omega
  have q1 : m ≤ n1 := by omega
  have hm10 : m ≤ 10 := by omega
  clear hm
  go_enter Try.func6, Try.ntmps6
  go_wp2_with fail
  refine (own_perm _ 3 3 [0, 2, 1] _ (ints_lit w _ _ 3 [0, 2, 1] rfl rfl) (by decide) (by omega)).mono ?_
  rintro e w1 ⟨rfl, hb⟩
  rw [show ownN [0, 2, 1] = 1 by decide +kernel]
  have HB0 := hid (below_step (below_alloc w _) (Nat.le_refl _) hb)
  have HA0 : Hid (All w1 [(A0, n0, x0), (A1, n1, x1)]) := ⟨h0.keep HB0.out, h1.keep HB0.out, trivial⟩
  clear hb h0 h1
  go_wp2_with fail
  refine (permOf_perm A0 n0 c0 m x0 _ HA0.out.1 hc0 q0 hm10).mono ?_
  rintro e w_a ⟨A_a, c_a, p_a, rfl, hp_a, hI, hcap_a, hb⟩
  have HP_a := hid hp_a
  have HB1 := hid (below_step HB0.out (Nat.le_refl _) hb)
  have HA1 : Hid (All w_a [(A_a, m, p_a), (A0, n0, x0), (A1, n1, x1)]) := ⟨hI, HA0.out.keep hb⟩
  clear HA0 HB0
  clear hp_a hI hb
  go_wp2_with fail
  refine (permOf_perm A1 n1 c1 m x1 _ HA1.out.2.2.1 hc1 q1 hm10).mono ?_
  rintro e w_b ⟨A_b, c_b, p_b, rfl, hp_b, hI, hcap_b, hb⟩
  have HP_b := hid hp_b
  have HB2 := hid (below_step HB1.out (Nat.le_refl _) hb)
  have HA2 : Hid (All w_b [(A_b, m, p_b), (A_a, m, p_a), (A0, n0, x0), (A1, n1, x1)]) := ⟨hI, HA1.out.keep hb⟩
  clear HA1 HB1
  clear hp_b hI hb
  go_wp2_with fail
  refine (inverse_perm A_a m c_a (p_a) _ HA2.out.2.1 HP_a.out hm10).mono ?_
  rintro e w_va ⟨p_va, hinv, A_va, c_va, rfl, hI, hcap_va, hb⟩
  have HV_va := hid hinv
  have HP_va := hid (hinv.isPerm HP_a.out)
  have HB3 := hid (below_step HB2.out (Nat.le_refl _) hb)
  have HA3 : Hid (All w_va [(A_va, m, p_va), (A_b, m, p_b), (A_a, m, p_a), (A0, n0, x0), (A1, n1, x1)]) := ⟨hI, HA2.out.keep hb⟩
  clear HA2 HB2
  clear hI hb hinv
  go_wp2_with fail
  refine (inverse_perm A_b m c_b (p_b) _ HA3.out.2.1 HP_b.out hm10).mono ?_
  rintro e w_vb ⟨p_vb, hinv, A_vb, c_vb, rfl, hI, hcap_vb, hb⟩
  have HV_vb := hid hinv
  have HP_vb := hid (hinv.isPerm HP_b.out)
  have HB4 := hid (below_step HB3.out (Nat.le_refl _) hb)
  have HA4 : Hid (All w_vb [(A_vb, m, p_vb), (A_va, m, p_va), (A_b, m, p_b), (A_a, m, p_a), (A0, n0, x0), (A1, n1, x1)]) := ⟨hI, HA3.out.keep hb⟩
  clear HA3 HB3
  clear hI hb hinv
  go_wp2_with fail
  refine (times_perm A_a m c_a A_vb c_vb (p_a) (p_vb) _ HA4.out.2.2.2.1 HA4.out.1 HP_a.out HP_vb.out hm10).mono ?_
  rintro e w_u ⟨A_u, c_u, rfl, hI, hcap_u, hb⟩
  have HP_u := hid (isPerm_times HP_a.out HP_vb.out (by rw [(HA4.out.2.2.2.1).len, (HA4.out.1).len]))
  have HB5 := hid (below_step HB4.out (Nat.le_refl _) hb)
  have HA5 : Hid (All w_u [(A_u, m, times (p_a) (p_vb)), (A_vb, m, p_vb), (A_va, m, p_va), (A_b, m, p_b), (A_a, m, p_a), (A0, n0, x0), (A1, n1, x1)]) := ⟨hI, HA4.out.keep hb⟩
  clear HA4 HB4
  clear hI hb
  go_wp2_with fail
  refine (times_perm A_b m c_b A_u c_u (p_b) (times (p_a) (p_vb)) _ HA5.out.2.2.2.1 HA5.out.1 HP_b.out HP_u.out hm10).mono ?_
  rintro e w_w ⟨A_w, c_w, rfl, hI, hcap_w, hb⟩
  have HP_w := hid (isPerm_times HP_b.out HP_u.out (by rw [(HA5.out.2.2.2.1).len, (HA5.out.1).len]))
  have HB6 := hid (below_step HB5.out (Nat.le_refl _) hb)
  have HA6 : Hid (All w_w [(A_w, m, times (p_b) (times (p_a) (p_vb))), (A_u, m, times (p_a) (p_vb)), (A_vb, m, p_vb), (A_va, m, p_va), (A_b, m, p_b), (A_a, m, p_a), (A0, n0, x0), (A1, n1, x1)]) := ⟨hI, HA5.out.keep hb⟩
  clear HA5 HB5
  clear hI hb
  have HL := hid (And.intro HA6.out.2.2.2.2.2.1.len HA6.out.2.2.2.2.1.len)
  go_wp2_with fail
  refine (own_perm A_a m c_a (p_a) _ HA6.out.2.2.2.2.2.1 HP_a.out hm10).mono ?_
  rintro e w_oa ⟨rfl, hb⟩
  have HB7 := hid (below_step HB6.out (Nat.le_refl _) hb)
  have HA7 : Hid (All w_oa [(A_w, m, times (p_b) (times (p_a) (p_vb))), (A_u, m, times (p_a) (p_vb)), (A_vb, m, p_vb), (A_va, m, p_va), (A_b, m, p_b), (A_a, m, p_a), (A0, n0, x0), (A1, n1, x1)]) := HA6.out.keep hb
  clear HA6 HB6
  clear hb
  go_wp2_with fail
  refine (own_perm A_va m c_va (p_va) _ HA7.out.2.2.2.1 HP_va.out hm10).mono ?_
  rintro e w_ova ⟨rfl, hb⟩
  have HB8 := hid (below_step HB7.out (Nat.le_refl _) hb)
  have HA8 : Hid (All w_ova [(A_w, m, times (p_b) (times (p_a) (p_vb))), (A_u, m, times (p_a) (p_vb)), (A_vb, m, p_vb), (A_va, m, p_va), (A_b, m, p_b), (A_a, m, p_a), (A0, n0, x0), (A1, n1, x1)]) := HA7.out.keep hb
  clear HA7 HB7
  clear hb
  rw [ownN_inv HV_va.out HP_a.out]
  go_wp2_with fail
  refine (own_perm A_w m c_w (times (p_b) (times (p_a) (p_vb))) _ HA8.out.1 HP_w.out hm10).mono ?_
  rintro e w_ow ⟨rfl, hb⟩
  have HB9 := hid (below_step HB8.out (Nat.le_refl _) hb)
  have HA9 : Hid (All w_ow [(A_w, m, times (p_b) (times (p_a) (p_vb))), (A_u, m, times (p_a) (p_vb)), (A_vb, m, p_vb), (A_va, m, p_va), (A_b, m, p_b), (A_a, m, p_a), (A0, n0, x0), (A1, n1, x1)]) := HA8.out.keep hb
  clear HA8 HB8
  clear hb
  rw [ownN_conj HP_a.out HP_b.out HV_vb.out (by rw [HL.out.1, HL.out.2])]
  go_wp2_with fail
  refine (cycles_perm A_a m c_a (p_a) _ HA9.out.2.2.2.2.2.1 HP_a.out hm10).mono ?_
  rintro e w_c ⟨p_c, l_c, A_c, c_c, rfl, hcy, hl_c, hI, hcap_c, hb⟩
  have HC_c := hid hcy
  have HB10 := hid (below_step HB9.out (Nat.le_refl _) hb)
  have HA10 : Hid (All w_c [(A_c, l_c, p_c), (A_w, m, times (p_b) (times (p_a) (p_vb))), (A_u, m, times (p_a) (p_vb)), (A_vb, m, p_vb), (A_va, m, p_va), (A_b, m, p_b), (A_a, m, p_a), (A0, n0, x0), (A1, n1, x1)]) := ⟨hI, HA9.out.keep hb⟩
  clear HA9 HB9
  clear hI hb hcy
  have HIC := hid HA10.out.1
  have HLC := hid HIC.out.len
  have HCO := hid (ownN_cycles HP_a.out HC_c.out)
  have ho10 : ownN p_a ≤ 10 := by have := ownN_le p_a; rw [HL.out.1] at this; omega
  generalize ownN p_a = ow at *
  go_wp2_with fail
  go_loopg [26, 28, 95] l_c (fun g u _ s wr => ∃ k : Nat, k ≤ l_c ∧ l_c - k ≤ g ∧ s = .int .i64 k ∧ u = .int .i64 (((p_c.take k).count (1 : Int) : Nat) : Int) ∧ w_c = wr)
  case atStart => exact ⟨0, Nat.zero_le _, by omega, rfl, rfl, rfl⟩
  case round =>
    obtain ⟨k, hk, hg, rfl, rfl, rfl⟩ := hrel
    have hbd : (p_c.take k).count (1 : Int) ≤ k := Nat.le_trans List.count_le_length (by rw [List.length_take]; omega)
    by_cases hlt : k < l_c
    · obtain ⟨b, o, hA, hb, hc⟩ := HIC.out.row (by omega)
      have g1 := hc k hlt
      subst hA
      clear hc
      by_cases hx : p_c.getD k 0 = 1
      · have HS := hid (count_take_yes (show k < p_c.length by rw [HLC.out]; exact hlt) hx)
        rw [hx] at g1
        clear hx
        generalize (p_c.take k).count (1 : Int) = z at HS hbd ⊢
        go_wp2
        go_roundg (l_c - (k + 1))
        case measure => omega
        case rel => exact ⟨k + 1, by omega, by omega, by go_num, by rw [HS.out]; go_num, rfl⟩
      · have HS := hid (count_take_no (show k < p_c.length by rw [HLC.out]; exact hlt) hx)
        have he : (p_c.getD k 0 == 1) = false := by simpa using hx
        clear hx
        generalize p_c.getD k 0 = x at g1 he
        generalize (p_c.take k).count (1 : Int) = z at HS hbd ⊢
        go_wp2
        go_roundg (l_c - (k + 1))
        case measure => omega
        case rel => exact ⟨k + 1, by omega, by omega, by go_num, by rw [HS.out], rfl⟩
    · have HT : Hid ((p_c.take k).count (1 : Int) = ow) := by rw [List.take_of_length_le (by rw [HLC.out]; omega)]; exact HCO.out.symm
      rw [HT.out]
      have e1 : ((ow : Int) == (ow : Int)) = true := by simp
      go_wp2_with fail
      refine (good_bel w_c _ _ 8 [0, 0, 0, 0, 0, 0, 0, 0] rfl rfl (by omega)).mono ?_
      rintro e w_good1 ⟨rfl, hb⟩
      rw [show allOK [0, 0, 0, 0, 0, 0, 0, 0] = true by decide]
      have HB11 := hid (below_step HB10.out (Nat.le_refl _) hb)
      have HA11 : Hid (All w_good1 [(A_c, l_c, p_c), (A_w, m, times (p_b) (times (p_a) (p_vb))), (A_u, m, times (p_a) (p_vb)), (A_vb, m, p_vb), (A_va, m, p_va), (A_b, m, p_b), (A_a, m, p_a), (A0, n0, x0), (A1, n1, x1)]) := HA10.out.keep hb
      clear HA10 HB10
      clear hb
      go_wp2
      go_ret
      exact ⟨rfl, HB11.out⟩

end Go.Proofs.Ytebhlmcenkgolaa
