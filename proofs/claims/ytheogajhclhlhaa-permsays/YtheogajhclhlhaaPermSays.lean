/-
  castlaw.PermSays: the walk.
-/
import Derived.Test.YtheogajhclhlhaaErrs
namespace Go.Proofs.Ytheogajhclhlhaa
open Go.RowKit

set_option maxHeartbeats 4000000 in
set_option maxRecDepth 100000 in
/-- Where Check refuses a. -/
theorem permSays_bad (A0 : Option Addr) (n0 c0 : Nat) (x0 : List Int) (A1 : Option Addr) (n1 c1 : Nat) (w : World)
    (h0 : Ints w A0 n0 x0) (hn0 : n0 ≤ 9223372036854775807) (hbad : permErr x0 ≠ 0) :
    Calls Try.prog 4 #[.slice A0 n0 c0, .slice A1 n1 c1] w fun e w' => e = .returned (.bool true) ∧ Below w.heap.size w w' := by
  have hne : (permErr x0 != 0) = true := by simpa using hbad
  have hee : (permErr x0 == permErr x0) = true := by simp
  have hnn : (permErr x0 != permErr x0) = false := by simp
  have HBAD := hid hbad
  clear hbad
  have HB0 := hid (Below.refl w.heap.size w)
  have HA0 : Hid (All w [(A0, n0, x0)]) := ⟨h0, trivial⟩
  clear h0
  go_enter Try.func4, Try.ntmps4
  go_wp2_with fail
  refine (times_err1 A0 n0 c0 _ x0 _ HA0.out.1 HBAD.out hn0).mono ?_
  rintro e w_t ⟨rfl, hb⟩
  have HB1 := hid (below_step HB0.out (Nat.le_refl _) hb)
  have HA1 : Hid (All w_t [(A0, n0, x0)]) := HA0.out.keep hb
  clear HA0 HB0
  clear hb
  go_wp2_with fail
  refine (inverse_err A0 n0 c0 x0 _ HA1.out.1 HBAD.out hn0).mono ?_
  rintro e w_v ⟨rfl, hb⟩
  have HB2 := hid (below_step HB1.out (Nat.le_refl _) hb)
  have HA2 : Hid (All w_v [(A0, n0, x0)]) := HA1.out.keep hb
  clear HA1 HB1
  clear hb
  go_wp2_with fail
  refine (cycles_err A0 n0 c0 x0 _ HA2.out.1 HBAD.out hn0).mono ?_
  rintro e w_c ⟨rfl, hb⟩
  have HB3 := hid (below_step HB2.out (Nat.le_refl _) hb)
  have HA3 : Hid (All w_c [(A0, n0, x0)]) := HA2.out.keep hb
  clear HA2 HB2
  clear hb
  go_wp2_with fail
  refine (sign_err A0 n0 c0 x0 _ HA3.out.1 HBAD.out hn0).mono ?_
  rintro e w_s ⟨rfl, hb⟩
  have HB4 := hid (below_step HB3.out (Nat.le_refl _) hb)
  have HA4 : Hid (All w_s [(A0, n0, x0)]) := HA3.out.keep hb
  clear HA3 HB3
  clear hb
  go_wp2_with fail
  refine (order_err A0 n0 c0 x0 _ HA4.out.1 HBAD.out hn0).mono ?_
  rintro e w_o ⟨rfl, hb⟩
  have HB5 := hid (below_step HB4.out (Nat.le_refl _) hb)
  have HA5 : Hid (All w_o [(A0, n0, x0)]) := HA4.out.keep hb
  clear HA4 HB4
  clear hb
  go_wp2_with fail
  refine (refErr_any A0 n0 c0 x0 _ HA5.out.1 hn0).mono ?_
  rintro e w' ⟨rfl, rfl⟩
  go_wp2_with fail
  refine (check_any A0 n0 c0 x0 _ HA5.out.1 hn0).mono ?_
  rintro e w_k ⟨rfl, hb⟩
  have HB6 := hid (below_step HB5.out (Nat.le_refl _) hb)
  have HA6 : Hid (All w_k [(A0, n0, x0)]) := HA5.out.keep hb
  clear HA5 HB5
  clear hb
  go_wp2
  go_ret
  exact ⟨rfl, HB6.out⟩

theorem sgn_of_parity {p : List Int} : sgn p = if inv p % 2 = 1 then -1 else 1 := by
  unfold sgn sg
  split <;> split <;> omega

set_option maxHeartbeats 8000000 in
set_option maxRecDepth 100000 in
/-- Where Check accepts a. -/
theorem permSays_good (A0 : Option Addr) (n0 c0 : Nat) (x0 : List Int) (A1 : Option Addr) (n1 c1 : Nat) (x1 : List Int) (w : World)
    (h0 : Ints w A0 n0 x0) (h1 : Ints w A1 n1 x1) (hc0 : n0 ≤ c0) (hm0 : c0 ≤ 9223372036854775807) (hn1 : n1 ≤ 9223372036854775807) (hok : permErr x0 = 0) :
    Calls Try.prog 4 #[.slice A0 n0 c0, .slice A1 n1 c1] w fun e w' => e = .returned (.bool true) ∧ Below w.heap.size w w' := by
  have HP := hid (permErr_ok.1 hok).2
  have HOK := hid hok
  have HL := hid h0.len
  have hm10 : n0 ≤ 10 := by rw [← h0.len]; exact (permErr_ok.1 hok).1
  have HB0 := hid (Below.refl w.heap.size w)
  have HA0 : Hid (All w [(A0, n0, x0), (A1, n1, x1)]) := ⟨h0, h1, trivial⟩
  clear h0 h1 hok
  go_enter Try.func4, Try.ntmps4
  go_wp2_with fail
  refine (times_any A0 n0 c0 A1 n1 c1 x0 x1 _ HA0.out.1 HA0.out.2.1 (by omega) hn1).mono ?_
  rintro e w_t ⟨A_t, n_t, c_t, rfl, hb, hI, _⟩
  have HB1 := hid (below_step HB0.out (Nat.le_refl _) hb)
  have HA1 : Hid (All w_t [(A_t, n_t, timesRes x0 x1), (A0, n0, x0), (A1, n1, x1)]) := ⟨hI, HA0.out.keep hb⟩
  clear HA0 HB0
  clear hb hI
  go_wp2_with fail
  refine (inverse_perm A0 n0 c0 x0 _ HA1.out.2.1 HP.out hm10).mono ?_
  rintro e w_v ⟨p_v, hinv, A_v, c_v, rfl, hI, hcap_v, hb⟩
  have HV := hid hinv
  have HB2 := hid (below_step HB1.out (Nat.le_refl _) hb)
  have HA2 : Hid (All w_v [(A_v, n0, p_v), (A_t, n_t, timesRes x0 x1), (A0, n0, x0), (A1, n1, x1)]) := ⟨hI, HA1.out.keep hb⟩
  clear HA1 HB1
  clear hb hI hinv
  go_wp2_with fail
  refine (cycles_perm A0 n0 c0 x0 _ HA2.out.2.2.1 HP.out hm10).mono ?_
  rintro e w_c ⟨p_c, l_c, A_c, c_c, rfl, hcy, hl_c, hI, hcap_c, hb⟩
  have HC := hid hcy
  have HB3 := hid (below_step HB2.out (Nat.le_refl _) hb)
  have HA3 : Hid (All w_c [(A_c, l_c, p_c), (A_v, n0, p_v), (A_t, n_t, timesRes x0 x1), (A0, n0, x0), (A1, n1, x1)]) := ⟨hI, HA2.out.keep hb⟩
  clear HA2 HB2
  clear hb hI hcy
  go_wp2_with fail
  refine (sign_ok A0 n0 c0 x0 _ HA3.out.2.2.2.1 HOK.out hc0 hm0).mono ?_
  rintro e w_s ⟨rfl, hb⟩
  have HB4 := hid (below_step HB3.out (Nat.le_refl _) hb)
  have HA4 : Hid (All w_s [(A_c, l_c, p_c), (A_v, n0, p_v), (A_t, n_t, timesRes x0 x1), (A0, n0, x0), (A1, n1, x1)]) := HA3.out.keep hb
  clear HA3 HB3
  clear hb
  go_wp2_with fail
  refine (order_ok A0 n0 c0 x0 _ HA4.out.2.2.2.1 HOK.out).mono ?_
  rintro e w_o ⟨rfl, hb⟩
  have HB5 := hid (below_step HB4.out (Nat.le_refl _) hb)
  have HA5 : Hid (All w_o [(A_c, l_c, p_c), (A_v, n0, p_v), (A_t, n_t, timesRes x0 x1), (A0, n0, x0), (A1, n1, x1)]) := HA4.out.keep hb
  clear HA4 HB4
  clear hb
  go_wp2_with fail
  refine (refErr_any A0 n0 c0 x0 _ HA5.out.2.2.2.1 (by omega)).mono ?_
  rintro e w' ⟨rfl, rfl⟩
  rw [HOK.out]
  go_wp2_with fail
  refine (check_any A0 n0 c0 x0 _ HA5.out.2.2.2.1 (by omega)).mono ?_
  rintro e w_k ⟨rfl, hb⟩
  have HB6 := hid (below_step HB5.out (Nat.le_refl _) hb)
  have HA6 : Hid (All w_k [(A_c, l_c, p_c), (A_v, n0, p_v), (A_t, n_t, timesRes x0 x1), (A0, n0, x0), (A1, n1, x1)]) := HA5.out.keep hb
  clear HA5 HB5
  clear hb
  rw [HOK.out]
  go_wp2_with fail
  refine (crossed_any A0 n0 c0 x0 _ HA6.out.2.2.2.1 hm10).mono ?_
  rintro e w_x ⟨rfl, q, hq⟩
  have hb : Below w_k.heap.size w_k w_x := by rw [hq]; exact below_drewN (Below.refl _ _) q
  have HB7 := hid (below_step HB6.out (Nat.le_refl _) hb)
  have HA7 : Hid (All w_x [(A_c, l_c, p_c), (A_v, n0, p_v), (A_t, n_t, timesRes x0 x1), (A0, n0, x0), (A1, n1, x1)]) := HA6.out.keep hb
  clear HA6 HB6
  clear hb hq
  have HIB : Hid (inv x0 ≤ 100) := by
    have h1 := inv_le x0
    have h2 : x0.length ≤ 10 := by rw [HL.out]; exact hm10
    have h3 : x0.length * x0.length ≤ 10 * 10 := Nat.mul_le_mul h2 h2
    exact Nat.le_trans h1 h3
  have hib := HIB.out
  have HSG := hid (sgn_of_parity (p := x0))
  by_cases hpar : inv x0 % 2 = 1
  · skip
    have HS := HSG.out
    rw [if_pos hpar] at HS
    rw [HS]
    have hpi : ((inv x0 : Nat) : Int) % 2 = 1 := by omega
    clear HS hpar
    go_wp2_with fail
    refine (refErr_any A_v n0 c_v p_v _ HA7.out.2.1 (by omega)).mono ?_
    rintro e w' ⟨rfl, rfl⟩
    rw [permErr_of (HV.out.isPerm HP.out) (by rw [HV.out.1, HL.out]; exact hm10)]
    have hnn : ((n0 : Int) != (n0 : Int)) = false := by simp
    go_wp2_with fail
    refine (after_any A_v n0 c_v A0 n0 c0 p_v x0 _ HA7.out.2.1 HA7.out.2.2.2.1 (fun x hx => by have := HP.out.range hx; rw [HL.out] at this; exact this) (by omega) (by omega)).mono ?_
    rintro e w_a ⟨v_a, rfl, hown, hb⟩
    obtain ⟨A_a, c_a, rfl, hI, _⟩ := hown.ints
    rw [length_times, HL.out] at hI ⊢
    rw [HV.out.left] at hI
    have HB8 := hid (below_step HB7.out (Nat.le_refl _) hb)
    have HA8 : Hid (All w_a [(A_a, n0, iota x0.length), (A_c, l_c, p_c), (A_v, n0, p_v), (A_t, n_t, timesRes x0 x1), (A0, n0, x0), (A1, n1, x1)]) := ⟨hI, HA7.out.keep hb⟩
    clear HA7 HB7
    clear hb hI hown
    go_wp2_with fail
    refine (isSorted_bel A_a n0 c_a (iota x0.length) _ HA8.out.1 (by omega)).mono ?_
    rintro e w_b ⟨rfl, hb⟩
    rw [sorted_iota]
    have HB9 := hid (below_step HB8.out (Nat.le_refl _) hb)
    have HA9 : Hid (All w_b [(A_a, n0, iota x0.length), (A_c, l_c, p_c), (A_v, n0, p_v), (A_t, n_t, timesRes x0 x1), (A0, n0, x0), (A1, n1, x1)]) := HA8.out.keep hb
    clear HA8 HB8
    clear hb
    go_wp2_with fail
    refine (cyclesOf_any A0 n0 c0 x0 _ HA9.out.2.2.2.2.1 HP.out hm10).mono ?_
    rintro e w_d ⟨p_d, hcd, v_d, rfl, hown, hb⟩
    obtain ⟨A_d, c_d, rfl, hI, _⟩ := hown.ints
    have hpd : p_d = p_c := cycles_unique hcd HC.out (List.Perm.refl _)
    have hld : p_c.length = l_c := HA9.out.2.1.len
    rw [hpd, hld] at hI
    rw [hpd, hld]
    have HB10 := hid (below_step HB9.out (Nat.le_refl _) hb)
    have HA10 : Hid (All w_d [(A_d, l_c, p_c), (A_a, n0, iota x0.length), (A_c, l_c, p_c), (A_v, n0, p_v), (A_t, n_t, timesRes x0 x1), (A0, n0, x0), (A1, n1, x1)]) := ⟨hI, HA9.out.keep hb⟩
    clear HA9 HB9
    clear hb hI hown hcd hld hpd
    go_wp2_with fail
    refine (alike_bel A_c l_c c_c A_d l_c c_d p_c p_c _ HA10.out.2.2.1 HA10.out.1 (by omega) (by omega)).mono ?_
    rintro e w_e ⟨rfl, hb⟩
    rw [decide_eq_true rfl]
    have HB11 := hid (below_step HB10.out (Nat.le_refl _) hb)
    have HA11 : Hid (All w_e [(A_d, l_c, p_c), (A_a, n0, iota x0.length), (A_c, l_c, p_c), (A_v, n0, p_v), (A_t, n_t, timesRes x0 x1), (A0, n0, x0), (A1, n1, x1)]) := HA10.out.keep hb
    clear HA10 HB10
    clear hb
    have hss : ((-1 : Int) != (-1 : Int)) = false := by decide
    go_wp2_with fail
    refine (orderOf_any A0 n0 c0 x0 _ HA11.out.2.2.2.2.2.1 HP.out hm10).mono ?_
    rintro e w_f ⟨rfl, hb⟩
    have HB12 := hid (below_step HB11.out (Nat.le_refl _) hb)
    have HA12 : Hid (All w_f [(A_d, l_c, p_c), (A_a, n0, iota x0.length), (A_c, l_c, p_c), (A_v, n0, p_v), (A_t, n_t, timesRes x0 x1), (A0, n0, x0), (A1, n1, x1)]) := HA11.out.keep hb
    clear HA11 HB11
    clear hb
    have hoo : (((ordL (cycL x0 n0) : Nat) : Int) != ((ordL (cycL x0 n0) : Nat) : Int)) = false := by simp
    go_wp2_with fail
    refine (refErr_any A1 n1 c1 x1 _ HA12.out.2.2.2.2.2.2.1 hn1).mono ?_
    rintro e w' ⟨rfl, rfl⟩
    have hlt : (timesRes x0 x1).length = n_t := HA12.out.2.2.2.2.1.len
    have hl1 : x1.length = n1 := HA12.out.2.2.2.2.2.2.1.len
    have HT := hid hlt
    have HL1 := hid hl1
    clear hlt hl1 hoo hss hnn
    by_cases hb0 : permErr x1 = 0
    · rw [hb0]
      by_cases hnm : n0 = n1
      · have HE : Hid (timesErr x0 x1 = 0) := by unfold timesErr; rw [if_pos HOK.out, if_pos hb0, if_pos (by rw [HL.out, HL1.out]; exact hnm)]; exact rfl
        have HR : Hid (timesRes x0 x1 = times x0 x1) := if_pos HE.out
        have HP1 := hid (permErr_ok.1 hb0).2
        rw [HE.out]
        have hnt : n_t = n0 := by rw [← HT.out, HR.out, length_times, HL1.out, hnm]
        have HNT := hid hnt
        have h11 : ((n0 : Int) != (n1 : Int)) = false := by simp; omega
        have HNM := hid hnm
        have hn10 : n1 ≤ 10 := by omega
        have hnt10 : n_t ≤ 10 := by omega
        clear hb0 hnm hnt
        go_wp2_with fail
        refine (after_any A0 n0 c0 A1 n1 c1 x0 x1 _ HA12.out.2.2.2.2.2.1 HA12.out.2.2.2.2.2.2.1 (fun x hx => by have := HP1.out.range hx; rw [HL1.out, ← HNM.out] at this; exact this) (by omega) (by omega)).mono ?_
        rintro e w_g ⟨v_g, rfl, hown, hb⟩
        obtain ⟨A_g, c_g, rfl, hI, _⟩ := hown.ints
        rw [length_times, HL1.out] at hI ⊢
        have HB13 := hid (below_step HB12.out (Nat.le_refl _) hb)
        have HA13 : Hid (All w_g [(A_g, n1, times x0 x1), (A_d, l_c, p_c), (A_a, n0, iota x0.length), (A_c, l_c, p_c), (A_v, n0, p_v), (A_t, n_t, timesRes x0 x1), (A0, n0, x0), (A1, n1, x1)]) := ⟨hI, HA12.out.keep hb⟩
        clear HA12 HB12
        clear hb hI hown
        go_wp2_with fail
        refine (alike_bel A_t n_t c_t A_g n1 c_g (timesRes x0 x1) (times x0 x1) _ HA13.out.2.2.2.2.2.1 HA13.out.1 (by omega) (by omega)).mono ?_
        rintro e w_h ⟨rfl, hb⟩
        rw [decide_eq_true HR.out]
        have HB14 := hid (below_step HB13.out (Nat.le_refl _) hb)
        have HA14 : Hid (All w_h [(A_g, n1, times x0 x1), (A_d, l_c, p_c), (A_a, n0, iota x0.length), (A_c, l_c, p_c), (A_v, n0, p_v), (A_t, n_t, timesRes x0 x1), (A0, n0, x0), (A1, n1, x1)]) := HA13.out.keep hb
        clear HA13 HB13
        clear hb
        go_wp2
        go_ret
        exact ⟨rfl, HB14.out⟩
      · have HE : Hid (timesErr x0 x1 = 1) := by unfold timesErr; rw [if_pos HOK.out, if_pos hb0, if_neg (by rw [HL.out, HL1.out]; exact hnm)]; exact rfl
        have HR : Hid (timesRes x0 x1 = []) := if_neg (by rw [HE.out]; decide)
        rw [HE.out]
        have hnt : 0 = n_t := by rw [← HT.out, HR.out]; rfl
        have h11 : ((n0 : Int) != (n1 : Int)) = true := by simp; omega
        subst hnt
        clear hb0 hnm
        go_wp2
        go_ret
        exact ⟨rfl, HB12.out⟩
    · have HE : Hid (timesErr x0 x1 = permErr x1) := by unfold timesErr; rw [if_pos HOK.out, if_neg hb0]; exact rfl
      have HR : Hid (timesRes x0 x1 = []) := if_neg (by rw [HE.out]; exact hb0)
      rw [HE.out]
      have hnt : 0 = n_t := by rw [← HT.out, HR.out]; rfl
      have e1 : (permErr x1 == 0) = false := by simpa using hb0
      have e2 : (permErr x1 != 0) = true := by simpa using hb0
      have e3 : (permErr x1 == permErr x1) = true := by simp
      subst hnt
      clear hb0
      go_wp2
      go_ret
      exact ⟨rfl, HB12.out⟩
  · skip
    have HS := HSG.out
    rw [if_neg hpar] at HS
    rw [HS]
    have hpi : ((inv x0 : Nat) : Int) % 2 = 0 := by omega
    clear HS hpar
    go_wp2_with fail
    refine (refErr_any A_v n0 c_v p_v _ HA7.out.2.1 (by omega)).mono ?_
    rintro e w' ⟨rfl, rfl⟩
    rw [permErr_of (HV.out.isPerm HP.out) (by rw [HV.out.1, HL.out]; exact hm10)]
    have hnn : ((n0 : Int) != (n0 : Int)) = false := by simp
    go_wp2_with fail
    refine (after_any A_v n0 c_v A0 n0 c0 p_v x0 _ HA7.out.2.1 HA7.out.2.2.2.1 (fun x hx => by have := HP.out.range hx; rw [HL.out] at this; exact this) (by omega) (by omega)).mono ?_
    rintro e w_a ⟨v_a, rfl, hown, hb⟩
    obtain ⟨A_a, c_a, rfl, hI, _⟩ := hown.ints
    rw [length_times, HL.out] at hI ⊢
    rw [HV.out.left] at hI
    have HB8 := hid (below_step HB7.out (Nat.le_refl _) hb)
    have HA8 : Hid (All w_a [(A_a, n0, iota x0.length), (A_c, l_c, p_c), (A_v, n0, p_v), (A_t, n_t, timesRes x0 x1), (A0, n0, x0), (A1, n1, x1)]) := ⟨hI, HA7.out.keep hb⟩
    clear HA7 HB7
    clear hb hI hown
    go_wp2_with fail
    refine (isSorted_bel A_a n0 c_a (iota x0.length) _ HA8.out.1 (by omega)).mono ?_
    rintro e w_b ⟨rfl, hb⟩
    rw [sorted_iota]
    have HB9 := hid (below_step HB8.out (Nat.le_refl _) hb)
    have HA9 : Hid (All w_b [(A_a, n0, iota x0.length), (A_c, l_c, p_c), (A_v, n0, p_v), (A_t, n_t, timesRes x0 x1), (A0, n0, x0), (A1, n1, x1)]) := HA8.out.keep hb
    clear HA8 HB8
    clear hb
    go_wp2_with fail
    refine (cyclesOf_any A0 n0 c0 x0 _ HA9.out.2.2.2.2.1 HP.out hm10).mono ?_
    rintro e w_d ⟨p_d, hcd, v_d, rfl, hown, hb⟩
    obtain ⟨A_d, c_d, rfl, hI, _⟩ := hown.ints
    have hpd : p_d = p_c := cycles_unique hcd HC.out (List.Perm.refl _)
    have hld : p_c.length = l_c := HA9.out.2.1.len
    rw [hpd, hld] at hI
    rw [hpd, hld]
    have HB10 := hid (below_step HB9.out (Nat.le_refl _) hb)
    have HA10 : Hid (All w_d [(A_d, l_c, p_c), (A_a, n0, iota x0.length), (A_c, l_c, p_c), (A_v, n0, p_v), (A_t, n_t, timesRes x0 x1), (A0, n0, x0), (A1, n1, x1)]) := ⟨hI, HA9.out.keep hb⟩
    clear HA9 HB9
    clear hb hI hown hcd hld hpd
    go_wp2_with fail
    refine (alike_bel A_c l_c c_c A_d l_c c_d p_c p_c _ HA10.out.2.2.1 HA10.out.1 (by omega) (by omega)).mono ?_
    rintro e w_e ⟨rfl, hb⟩
    rw [decide_eq_true rfl]
    have HB11 := hid (below_step HB10.out (Nat.le_refl _) hb)
    have HA11 : Hid (All w_e [(A_d, l_c, p_c), (A_a, n0, iota x0.length), (A_c, l_c, p_c), (A_v, n0, p_v), (A_t, n_t, timesRes x0 x1), (A0, n0, x0), (A1, n1, x1)]) := HA10.out.keep hb
    clear HA10 HB10
    clear hb
    have hss : ((1 : Int) != (1 : Int)) = false := by decide
    go_wp2_with fail
    refine (orderOf_any A0 n0 c0 x0 _ HA11.out.2.2.2.2.2.1 HP.out hm10).mono ?_
    rintro e w_f ⟨rfl, hb⟩
    have HB12 := hid (below_step HB11.out (Nat.le_refl _) hb)
    have HA12 : Hid (All w_f [(A_d, l_c, p_c), (A_a, n0, iota x0.length), (A_c, l_c, p_c), (A_v, n0, p_v), (A_t, n_t, timesRes x0 x1), (A0, n0, x0), (A1, n1, x1)]) := HA11.out.keep hb
    clear HA11 HB11
    clear hb
    have hoo : (((ordL (cycL x0 n0) : Nat) : Int) != ((ordL (cycL x0 n0) : Nat) : Int)) = false := by simp
    go_wp2_with fail
    refine (refErr_any A1 n1 c1 x1 _ HA12.out.2.2.2.2.2.2.1 hn1).mono ?_
    rintro e w' ⟨rfl, rfl⟩
    have hlt : (timesRes x0 x1).length = n_t := HA12.out.2.2.2.2.1.len
    have hl1 : x1.length = n1 := HA12.out.2.2.2.2.2.2.1.len
    have HT := hid hlt
    have HL1 := hid hl1
    clear hlt hl1 hoo hss hnn
    by_cases hb0 : permErr x1 = 0
    · rw [hb0]
      by_cases hnm : n0 = n1
      · have HE : Hid (timesErr x0 x1 = 0) := by unfold timesErr; rw [if_pos HOK.out, if_pos hb0, if_pos (by rw [HL.out, HL1.out]; exact hnm)]; exact rfl
        have HR : Hid (timesRes x0 x1 = times x0 x1) := if_pos HE.out
        have HP1 := hid (permErr_ok.1 hb0).2
        rw [HE.out]
        have hnt : n_t = n0 := by rw [← HT.out, HR.out, length_times, HL1.out, hnm]
        have HNT := hid hnt
        have h11 : ((n0 : Int) != (n1 : Int)) = false := by simp; omega
        have HNM := hid hnm
        have hn10 : n1 ≤ 10 := by omega
        have hnt10 : n_t ≤ 10 := by omega
        clear hb0 hnm hnt
        go_wp2_with fail
        refine (after_any A0 n0 c0 A1 n1 c1 x0 x1 _ HA12.out.2.2.2.2.2.1 HA12.out.2.2.2.2.2.2.1 (fun x hx => by have := HP1.out.range hx; rw [HL1.out, ← HNM.out] at this; exact this) (by omega) (by omega)).mono ?_
        rintro e w_g ⟨v_g, rfl, hown, hb⟩
        obtain ⟨A_g, c_g, rfl, hI, _⟩ := hown.ints
        rw [length_times, HL1.out] at hI ⊢
        have HB13 := hid (below_step HB12.out (Nat.le_refl _) hb)
        have HA13 : Hid (All w_g [(A_g, n1, times x0 x1), (A_d, l_c, p_c), (A_a, n0, iota x0.length), (A_c, l_c, p_c), (A_v, n0, p_v), (A_t, n_t, timesRes x0 x1), (A0, n0, x0), (A1, n1, x1)]) := ⟨hI, HA12.out.keep hb⟩
        clear HA12 HB12
        clear hb hI hown
        go_wp2_with fail
        refine (alike_bel A_t n_t c_t A_g n1 c_g (timesRes x0 x1) (times x0 x1) _ HA13.out.2.2.2.2.2.1 HA13.out.1 (by omega) (by omega)).mono ?_
        rintro e w_h ⟨rfl, hb⟩
        rw [decide_eq_true HR.out]
        have HB14 := hid (below_step HB13.out (Nat.le_refl _) hb)
        have HA14 : Hid (All w_h [(A_g, n1, times x0 x1), (A_d, l_c, p_c), (A_a, n0, iota x0.length), (A_c, l_c, p_c), (A_v, n0, p_v), (A_t, n_t, timesRes x0 x1), (A0, n0, x0), (A1, n1, x1)]) := HA13.out.keep hb
        clear HA13 HB13
        clear hb
        go_wp2
        go_ret
        exact ⟨rfl, HB14.out⟩
      · have HE : Hid (timesErr x0 x1 = 1) := by unfold timesErr; rw [if_pos HOK.out, if_pos hb0, if_neg (by rw [HL.out, HL1.out]; exact hnm)]; exact rfl
        have HR : Hid (timesRes x0 x1 = []) := if_neg (by rw [HE.out]; decide)
        rw [HE.out]
        have hnt : 0 = n_t := by rw [← HT.out, HR.out]; rfl
        have h11 : ((n0 : Int) != (n1 : Int)) = true := by simp; omega
        subst hnt
        clear hb0 hnm
        go_wp2
        go_ret
        exact ⟨rfl, HB12.out⟩
    · have HE : Hid (timesErr x0 x1 = permErr x1) := by unfold timesErr; rw [if_pos HOK.out, if_neg hb0]; exact rfl
      have HR : Hid (timesRes x0 x1 = []) := if_neg (by rw [HE.out]; exact hb0)
      rw [HE.out]
      have hnt : 0 = n_t := by rw [← HT.out, HR.out]; rfl
      have e1 : (permErr x1 == 0) = false := by simpa using hb0
      have e2 : (permErr x1 != 0) = true := by simpa using hb0
      have e3 : (permErr x1 == permErr x1) = true := by simp
      subst hnt
      clear hb0
      go_wp2
      go_ret
      exact ⟨rfl, HB12.out⟩

theorem permSays_any (A0 : Option Addr) (n0 c0 : Nat) (x0 : List Int) (A1 : Option Addr) (n1 c1 : Nat) (x1 : List Int) (w : World)
    (h0 : Ints w A0 n0 x0) (h1 : Ints w A1 n1 x1) (hc0 : n0 ≤ c0) (hc1 : n1 ≤ c1) (hm0 : c0 ≤ maxLen) (hm1 : c1 ≤ maxLen) :
    Calls Try.prog 4 #[.slice A0 n0 c0, .slice A1 n1 c1] w fun e w' => e = .returned (.bool true) ∧ Below w.heap.size w w' := by
  unfold maxLen at hm0 hm1
  by_cases h : permErr x0 = 0
  · exact permSays_good A0 n0 c0 x0 A1 n1 c1 x1 w h0 h1 hc0 hm0 (by omega) h
  · exact permSays_bad A0 n0 c0 x0 A1 n1 c1 w h0 (by omega) h

end Go.Proofs.Ytheogajhclhlhaa
