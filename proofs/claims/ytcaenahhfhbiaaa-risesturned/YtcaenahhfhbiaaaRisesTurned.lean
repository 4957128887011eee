/-
  castkeep.RisesTurned, walked.
-/
import Derived.Test.YtcaenahhfhbiaaaRisD
import Derived.Test.YtcaenahhfhbiaaaAll
import Derived.Test.YtcaenahhfhbiaaaClone
import Derived.Test.YtcaenahhfhbiaaaSortZ
namespace Go.Proofs.Ytcaenahhfhbiaaa
open Go.RowKit


theorem run_max0 {P : Program} (x : Int) (m : Nat) (hm : (m : Int) = if x > 0 then x else 0) (ts : Array TypeId) (t : TypeId) (W : World) :
    (Builtin.max_ ts t #[.int .i64 0, .int .i64 x]).run P W = .ok (.int .i64 (m : Int)) W := by
  simp only [Builtin.max_, Builtin.max2, List.foldlM_cons, List.foldlM_nil, pure_bind]
  simp only [hm]
  rfl
theorem isPerm_rev {p : List Int} (h : IsPerm p) : IsPerm p.reverse := by
  unfold IsPerm
  rw [List.length_reverse]
  exact (List.reverse_perm p).trans h
theorem isPerm_inv {p q : List Int} (hp : IsPerm p) (h : IsInv p q) : IsPerm q := by
  refine isPerm_of_all fun i hi => ?_
  rw [h.1] at hi
  have := h.2 i hi
  rw [← this]
  refine getD_mem ?_
  have := hp.range (getD_mem hi)
  rw [h.1]
  omega

set_option maxHeartbeats 2000000 in
set_option maxRecDepth 100000 in
theorem risesTurned_any (A0 : Option Addr) (n0 c0 : Nat) (x0 : List Int) (w : World) (h0 : Ints w A0 n0 x0) (hc0 : n0 ≤ c0) (_hm0 : c0 ≤ maxLen) :
    Calls Try.prog 7 #[.slice A0 n0 c0] w fun e w' => e = .returned (.bool true) ∧ Below w.heap.size w w' := by
  unfold maxLen at _hm0
  obtain ⟨m, hm⟩ : ∃ m, m = min n0 10 := ⟨_, rfl⟩
  have hm10 : m ≤ 10 := by omega
  have HM := hid hm
  clear hm
  have HB0 := hid (Below.refl w.heap.size w)
  have HA0 : Hid (All w [(A0, n0, x0)]) := ⟨h0, trivial⟩
  clear h0
  go_enter Try.func7, Try.ntmps7
  go_wp2_with fail
  refine (falls_ok _ 3 3 [2, 0, 1] _ (ints_lit w _ _ 3 [2, 0, 1] rfl rfl) (by decide)).mono ?_
  rintro e w1 ⟨rfl, hb1⟩
  have hb := below_step (below_alloc w _) (Nat.le_refl _) hb1
  rw [show fallN [2, 0, 1] = 1 by decide]
  have HB1 := hid (below_step HB0.out (Nat.le_refl _) hb)
  have HA1 : Hid (All w1 [(A0, n0, x0)]) := HA0.out.keep hb
  clear HA0 HB0
  clear hb hb1
  go_wp2_with fail
  refine (permOf_ten A0 n0 c0 m x0 _ HA1.out.1 hc0 HM.out).mono ?_
  rintro e w2 ⟨A, c, p, rfl, hp, hI, hcap, hb⟩
  have HP := hid (hp)
  have HC := hid (hcap.1)
  have HC2 := hid (hcap.2)
  have HB2 := hid (below_step HB1.out (Nat.le_refl _) hb)
  have HA2 : Hid (All w2 [(A, m, p), (A0, n0, x0)]) := ⟨hI, HA1.out.keep hb⟩
  clear HA1 HB1
  clear hb hI hcap hp
  have HL : Hid (p.length = m) := HA2.out.1.len
  have HE1 : Hid (permErr p = 0) := permErr_of HP.out (by rw [HL.out]; exact hm10)
  have HE2 : Hid (permErr p.reverse = 0) := permErr_of (isPerm_rev HP.out) (by rw [List.length_reverse, HL.out]; exact hm10)
  have hlp : p.length ≤ 1000000 := by rw [HL.out]; omega
  have HZ2 := hid HB2.out.size
  go_wp2_with fail
  refine (clone_any A m c p _ HA2.out.1 (by omega)).mono ?_
  rintro e w3 ⟨v, rfl, hown, hb⟩
  have HW23 := hid hb
  have HO := hid (hown)
  have HB3 := hid (below_step HB2.out (Nat.le_refl _) hb)
  have HA3 : Hid (All w3 [(A, m, p), (A0, n0, x0)]) := HA2.out.keep hb
  clear HB2
  clear hb hown
  go_wp2_with fail
  refine (reverse_any w2.heap.size v p _ HO.out hlp).mono ?_
  rintro e w4 ⟨rfl, hown2, hgr⟩
  obtain ⟨E, ce, hv, hI, hcap⟩ := hown2.ints
  rw [List.length_reverse, HL.out] at hv hI hcap
  have HB4 := hid (below_own HB3.out HO.out HZ2.out (Nat.le_refl _) hgr)
  have hb24 : Below w2.heap.size w2 w4 := below_own HW23.out HO.out (Nat.le_refl _) (Nat.le_refl _) hgr
  have HA4 : Hid (All w4 [(E, m, p.reverse), (A, m, p), (A0, n0, x0)]) := ⟨hI, HA2.out.keep hb24⟩
  subst hv
  have HCE := hid hcap.1
  have HCE2 := hid hcap.2
  clear hown2 hgr hI hcap HO hb24 HW23 HA2 HA3 HB3
  go_wp2_with fail
  refine (falls_ok A m c p _ HA4.out.2.1 HE1.out).mono ?_
  rintro e w5 ⟨rfl, hb⟩
  have HB5 := hid (below_step HB4.out (Nat.le_refl _) hb)
  have HA5 : Hid (All w5 [(E, m, p.reverse), (A, m, p), (A0, n0, x0)]) := HA4.out.keep hb
  clear HA4 HB4
  clear hb
  go_wp2_with fail
  refine (falls_ok E m ce p.reverse _ HA5.out.1 HE2.out).mono ?_
  rintro e w6 ⟨rfl, hb⟩
  have HB6 := hid (below_step HB5.out (Nat.le_refl _) hb)
  have HA6 : Hid (All w6 [(E, m, p.reverse), (A, m, p), (A0, n0, x0)]) := HA5.out.keep hb
  clear HA5 HB5
  clear hb
  go_wp2_with fail
  refine (rcrossed_ok A m c p _ HA6.out.2.1 HE1.out HC.out HC2.out).mono ?_
  rintro e w7 ⟨rfl, hb⟩
  have HB7 := hid (below_step HB6.out (Nat.le_refl _) hb)
  have HA7 : Hid (All w7 [(E, m, p.reverse), (A, m, p), (A0, n0, x0)]) := HA6.out.keep hb
  clear HA6 HB6
  clear hb
  go_wp2_with fail
  refine (rcrossed_ok E m ce p.reverse _ HA7.out.1 HE2.out HCE.out HCE2.out).mono ?_
  rintro e w8 ⟨rfl, hb⟩
  have HB8 := hid (below_step HB7.out (Nat.le_refl _) hb)
  have HA8 : Hid (All w8 [(E, m, p.reverse), (A, m, p), (A0, n0, x0)]) := HA7.out.keep hb
  clear HA7 HB7
  clear hb
  go_wp2_with fail
  refine (inverse_perm A m c p _ HA8.out.2.1 HP.out hm10).mono ?_
  rintro e w9 ⟨q, hq, F, cf, rfl, hI, hcap, hb⟩
  have HQ := hid (hq)
  have HCF := hid (hcap.1)
  have HCF2 := hid (hcap.2)
  have HB9 := hid (below_step HB8.out (Nat.le_refl _) hb)
  have HA9 : Hid (All w9 [(F, m, q), (E, m, p.reverse), (A, m, p), (A0, n0, x0)]) := ⟨hI, HA8.out.keep hb⟩
  clear HA8 HB8
  clear hb hI hcap hq
  have HE3 : Hid (permErr q = 0) := permErr_of (isPerm_inv HP.out HQ.out) (by rw [HA9.out.1.len]; exact hm10)
  go_wp2_with fail
  refine (rcrossed_ok F m cf q _ HA9.out.1 HE3.out HCF.out HCF2.out).mono ?_
  rintro e w10 ⟨rfl, hb⟩
  have HB10 := hid (below_step HB9.out (Nat.le_refl _) hb)
  have HA10 : Hid (All w10 [(F, m, q), (E, m, p.reverse), (A, m, p), (A0, n0, x0)]) := HA9.out.keep hb
  clear HA9 HB9
  clear hb
  rw [inv_inverse HP.out HQ.out]
  go_wp2_with fail
  refine (sign_ok A m c p _ HA10.out.2.2.1 HE1.out HC.out HC2.out).mono ?_
  rintro e w11 ⟨rfl, hb⟩
  have HB11 := hid (below_step HB10.out (Nat.le_refl _) hb)
  have HA11 : Hid (All w11 [(F, m, q), (E, m, p.reverse), (A, m, p), (A0, n0, x0)]) := HA10.out.keep hb
  clear HA10 HB10
  clear hb
  have hfr := fall_rev HP.out.nodup
  have hir := inv_rev HP.out.nodup
  rw [HL.out] at hfr hir
  have hii := inv_100 (p := p) (by rw [HL.out]; exact hm10)
  have hij := inv_100 (p := p.reverse) (by rw [List.length_reverse, HL.out]; exact hm10)
  have hsg : (inv p % 2 = 0 ∧ sgn p = 1) ∨ (inv p % 2 = 1 ∧ sgn p = -1) := by
    unfold sgn sg
    split
    · exact Or.inl ⟨by assumption, rfl⟩
    · exact Or.inr ⟨by omega, rfl⟩
  have hmax := run_max0 (P := Try.prog) ((m : Int) - 1) (m - 1) (by split <;> omega)
  have hpp : (m : Int) * ((m : Int) - 1) = 2 * (((inv p : Nat) : Int) + ((inv p.reverse : Nat) : Int)) := by
    have h1 : ((m * (m - 1) : Nat) : Int) = (m : Int) * ((m : Int) - 1) := by
      rcases m with _ | m
      · rfl
      · rw [Int.natCast_mul]
        congr 1
        omega
    rw [← h1, ← hir]
    omega
  generalize inv p = iv at *
  generalize inv p.reverse = jv at *
  generalize fallN p = f1 at *
  generalize fallN p.reverse = f2 at *
  generalize sgn p = sp at *
  obtain ⟨P, hP⟩ : ∃ P, (m : Int) * ((m : Int) - 1) = P := ⟨_, rfl⟩
  rw [hP] at hpp
  go_wp2_with fail
  refine (good_bel w11 _ _ 7 [0, 0, 0, 0, 0, 0, 0] rfl rfl (by omega)).mono ?_
  rintro e w_good1 ⟨rfl, hb⟩
  have HB12 := hid (below_step HB11.out (Nat.le_refl _) hb)
  have HA12 : Hid (All w_good1 [(F, m, q), (E, m, p.reverse), (A, m, p), (A0, n0, x0)]) := HA11.out.keep hb
  clear HA11 HB11
  clear hb
  rw [show allOK [0, 0, 0, 0, 0, 0, 0] = true by decide]
  have e1 : (((f1 : Nat) : Int) + ((f2 : Nat) : Int) == ((m - 1 : Nat) : Int)) = true := by simp; omega
  have e2 : (((iv : Nat) : Int) + ((jv : Nat) : Int) == P / 2) = true := by simp; omega
  rcases hsg with ⟨hs1, hs2⟩ | ⟨hs1, hs2⟩
  · subst hs2
    have e3 : (((iv : Nat) : Int) % 2 == 0) = true := by simp; omega
    go_wp2
    go_ret
    exact ⟨rfl, HB12.out⟩
  · subst hs2
    have e3 : (((iv : Nat) : Int) % 2 == 0) = false := by simp; omega
    go_wp2
    go_ret
    exact ⟨rfl, HB12.out⟩

end Go.Proofs.Ytcaenahhfhbiaaa
