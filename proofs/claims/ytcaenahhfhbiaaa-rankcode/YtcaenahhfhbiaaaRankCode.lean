/-
  castkeep.RankCode, walked.
-/
import Derived.Test.YtcaenahhfhbiaaaRankA
import Derived.Test.YtcaenahhfhbiaaaAll
import Derived.Test.YtcaenahhfhbiaaaRisB
namespace Go.Proofs.Ytcaenahhfhbiaaa
open Go.RowKit


/-- A code of n numbers comes back with OK. -/
theorem code_perm (A : Option Addr) (n c : Nat) (p : List Int) (w : World) (hA : Ints w A n p) (hp : IsPerm p) (hn : n ≤ 10) (hc : n ≤ c) :
    Calls Try.prog 16 #[.slice A n c] w (RetP w n (codeL p)) := by
  refine (code_ok A n c p w hA (permErr_of hp (by rw [hA.len]; exact hn)) hc).mono ?_
  rintro e w' ⟨A', n', c', rfl, hbel, hI, hcap⟩
  have : n' = n := by rw [← hI.len, length_codeL, hA.len]
  subst this
  exact ⟨A', c', rfl, hI, hcap, hbel⟩
theorem codeL_inj {p q : List Int} (hp : IsPerm p) (hq : IsPerm q) (hl : p.length = q.length) : decide (p = q) = decide (codeL p = codeL q) := by
  by_cases h : p = q
  · rw [decide_eq_true h, decide_eq_true (by rw [h])]
  · rw [decide_eq_false h, decide_eq_false]
    intro e
    exact h (rk_inj (hp.perm hq hl) (by rw [← val_codeL, ← val_codeL, e]))
theorem invUpto_mono (p : List Int) {i j : Nat} (h : i ≤ j) : invUpto p i ≤ invUpto p j := by
  induction h with
  | refl => exact Nat.le_refl _
  | step _ ih => exact Nat.le_trans ih (Nat.le_add_right _ _)
theorem invUpto_code {p : List Int} {i : Nat} (h : i < p.length) : ((invUpto p (i + 1) : Nat) : Int) = ((invUpto p i : Nat) : Int) + (codeL p).getD i 0 := by
  rw [getD_codeL p i h]
  rfl

set_option maxHeartbeats 2000000 in
set_option maxRecDepth 100000 in
theorem rankCode_any (A0 : Option Addr) (n0 c0 : Nat) (x0 : List Int) (A1 : Option Addr) (n1 c1 : Nat) (x1 : List Int) (w : World) (h0 : Ints w A0 n0 x0) (h1 : Ints w A1 n1 x1) (hc0 : n0 ≤ c0) (hc1 : n1 ≤ c1) (_hm0 : c0 ≤ maxLen) (_hm1 : c1 ≤ maxLen) :
    Calls Try.prog 4 #[.slice A0 n0 c0, .slice A1 n1 c1] w fun e w' => e = .returned (.bool true) ∧ Below w.heap.size w w' := by
  unfold maxLen at _hm0 _hm1
  obtain ⟨m, hm⟩ : ∃ m, m = min (min n0 n1) 10 := ⟨_, rfl⟩
  have hmin := run_min3 (P := Try.prog) n0 n1 m hm
  have q0 : m ≤ n0 := by omega
  have q1 : m ≤ n1 := by omega
  have hm10 : m ≤ 10 := by omega
  clear hm
  have HB0 := hid (Below.refl w.heap.size w)
  have HA0 : Hid (All w [(A0, n0, x0), (A1, n1, x1)]) := ⟨h0, h1, trivial⟩
  clear h0 h1
  go_enter Try.func4, Try.ntmps4
  go_wp2_with fail
  refine (code_ok _ 3 3 [2, 0, 1] _ (ints_lit w _ _ 3 [2, 0, 1] rfl rfl) (by decide) (by omega)).mono ?_
  rintro e w1 ⟨A9, n9, c9, rfl, hb1, hI, _⟩
  have hn9 : 3 = n9 := hI.len
  subst hn9
  have hb := below_step (below_alloc w _) (Nat.le_refl _) hb1
  have HB1 := hid (below_step HB0.out (Nat.le_refl _) hb)
  have HA1 : Hid (All w1 [(A9, 3, codeL [2, 0, 1]), (A0, n0, x0), (A1, n1, x1)]) := ⟨hI, HA0.out.keep hb⟩
  clear HA0 HB0
  clear hb hb1 hI
  have HX9 : Hid (Ints (w1.alloc (.cells #[.int .i64 2, .int .i64 0, .int .i64 0] 3)) A9 3 (codeL [2, 0, 1])) := HA1.out.1.keep (below_alloc w1 _)
  go_wp2_with fail
  refine (equal_any _ 3 _ _ 3 3 _ [2, 0, 0] _ HX9.out (ints_lit w1 _ _ 3 [2, 0, 0] rfl rfl) (by omega) (by omega)).mono ?_
  rintro e w2 ⟨rfl, q, hq⟩
  have hb : Below w1.heap.size w1 w2 := by rw [hq]; exact below_drewN (below_alloc w1 _) q
  clear hq HX9
  rw [show decide (codeL [2, 0, 1] = [2, 0, 0]) = true by decide]
  have HB2 := hid (below_step HB1.out (Nat.le_refl _) hb)
  have HA2 : Hid (All w2 [(A0, n0, x0), (A1, n1, x1)]) := HA1.out.2.keep hb
  clear HA1 HB1 hb
  go_wp2_with fail
  refine (permOf_perm A0 n0 c0 m x0 _ HA2.out.1 hc0 q0 hm10).mono ?_
  rintro e w3 ⟨A, c, p, rfl, hp, hI, hcap, hb⟩
  have HP := hid (hp)
  have HC := hid (hcap.1)
  have HC2 := hid (hcap.2)
  have HB3 := hid (below_step HB2.out (Nat.le_refl _) hb)
  have HA3 : Hid (All w3 [(A, m, p), (A0, n0, x0), (A1, n1, x1)]) := ⟨hI, HA2.out.keep hb⟩
  clear HA2 HB2
  clear hb hI hcap hp
  go_wp2_with fail
  refine (permOf_perm A1 n1 c1 m x1 _ HA3.out.2.2.1 hc1 q1 hm10).mono ?_
  rintro e w4 ⟨B, d, q, rfl, hq, hI, hcap, hb⟩
  have HQ := hid (hq)
  have HD := hid (hcap.1)
  have HB4 := hid (below_step HB3.out (Nat.le_refl _) hb)
  have HA4 : Hid (All w4 [(B, m, q), (A, m, p), (A0, n0, x0), (A1, n1, x1)]) := ⟨hI, HA3.out.keep hb⟩
  clear HA3 HB3
  clear hb hI hcap hq
  have HL : Hid (p.length = m) := HA4.out.2.1.len
  have HLQ : Hid (q.length = m) := HA4.out.1.len
  have HE1 : Hid (permErr p = 0) := permErr_of HP.out (by rw [HL.out]; exact hm10)
  clear hmin
  go_wp2_with fail
  refine (code_perm A m c p _ HA4.out.2.1 HP.out hm10 HC.out).mono ?_
  rintro e w5 ⟨E, ce, rfl, hI, hcap, hb⟩
  have HB5 := hid (below_step HB4.out (Nat.le_refl _) hb)
  have HA5 : Hid (All w5 [(E, m, codeL p), (B, m, q), (A, m, p), (A0, n0, x0), (A1, n1, x1)]) := ⟨hI, HA4.out.keep hb⟩
  clear HA4 HB4
  clear hb hI hcap
  go_wp2_with fail
  refine (code_perm B m d q _ HA5.out.2.1 HQ.out hm10 HD.out).mono ?_
  rintro e w6 ⟨F, cf, rfl, hI, hcap, hb⟩
  have HB6 := hid (below_step HB5.out (Nat.le_refl _) hb)
  have HA6 : Hid (All w6 [(F, m, codeL q), (E, m, codeL p), (B, m, q), (A, m, p), (A0, n0, x0), (A1, n1, x1)]) := ⟨hI, HA5.out.keep hb⟩
  clear HA5 HB5
  clear hb hI hcap
  go_wp2_with fail
  refine (rcrossed_ok A m c p _ HA6.out.2.2.2.1 HE1.out HC.out HC2.out).mono ?_
  rintro e w7 ⟨rfl, hb⟩
  have HB7 := hid (below_step HB6.out (Nat.le_refl _) hb)
  have HA7 : Hid (All w7 [(F, m, codeL q), (E, m, codeL p), (B, m, q), (A, m, p), (A0, n0, x0), (A1, n1, x1)]) := HA6.out.keep hb
  clear HA6 HB6
  clear hb
  obtain ⟨iv, HIV⟩ : ∃ x, Hid (inv p = x) := ⟨_, rfl⟩
  rw [HIV.out]
  have hiv : iv ≤ 100 := by rw [← HIV.out]; exact inv_100 (by rw [HL.out]; exact hm10)
  go_wp2_with fail
  refine (good_bel w7 _ _ 3 [0, 0, 0] rfl rfl (by omega)).mono ?_
  rintro e w_good1 ⟨rfl, hb⟩
  have HB8 := hid (below_step HB7.out (Nat.le_refl _) hb)
  have HA8 : Hid (All w_good1 [(F, m, codeL q), (E, m, codeL p), (B, m, q), (A, m, p), (A0, n0, x0), (A1, n1, x1)]) := HA7.out.keep hb
  clear HA7 HB7
  clear hb
  rw [show allOK [0, 0, 0] = true by decide]
  have HN : Hid (inv p = invUpto p m) := by rw [inv_all, HL.out]; exact rfl
  have HEI := hid HA8.out.2.1
  go_wp2_with fail
  go_loopg [14, 16, 17, 71] m (fun g u _ _ s wr => ∃ j : Nat, j ≤ m ∧ m - j ≤ g ∧ u = .int .i64 ((iv : Int) - ((invUpto p j : Nat) : Int)) ∧ s = .int .i64 (j : Int) ∧ w_good1 = wr)
  case atStart => exact ⟨0, Nat.zero_le _, by omega, by simp [invUpto], rfl, rfl⟩
  case round =>
    obtain ⟨j, hj, hg, rfl, rfl, rfl⟩ := hrel
    have hmo := invUpto_mono p hj
    rw [← HN.out, HIV.out] at hmo
    by_cases hlt : j < m
    · have HS := hid (invUpto_code (p := p) (i := j) (by rw [HL.out]; exact hlt))
      have hdg := (isDig_codeL p).getD j (by rw [length_codeL, HL.out]; exact hlt)
      rw [length_codeL, HL.out] at hdg
      have hmo2 := invUpto_mono p (show j + 1 ≤ m by omega)
      rw [← HN.out, HIV.out] at hmo2
      have HMO2 := hid hmo2
      clear hmo2
      obtain ⟨b, o, rfl, hb, hcl⟩ := HEI.out.row (by omega)
      have g1 := hcl j hlt
      clear hcl
      have hltI : (j : Int) < (m : Int) := by omega
      generalize (codeL p).getD j 0 = v at *
      obtain ⟨hv0, hv1⟩ := hdg
      have hv2 : decide ((m : Int) - (j : Int) ≤ v) = false := decide_eq_false (by omega)
      generalize invUpto p j = z at *
      go_wp2
      go_roundg (m - (j + 1))
      case measure => omega
      case rel => exact ⟨j + 1, by omega, by omega, by rw [HS.out]; go_num, by go_num, rfl⟩
    · have hjm : m = j := by omega
      subst hjm
      rw [← HN.out, HIV.out]
      have hzz : (iv : Int) - (iv : Int) = 0 := by omega
      rw [hzz]
      go_wp2_with fail
      refine (equal_bel A m c B m d p q _ HA8.out.2.2.2.1 HA8.out.2.2.1 (by omega) (by omega)).mono ?_
      rintro e w8 ⟨rfl, hb⟩
      have HB9 := hid (below_step HB8.out (Nat.le_refl _) hb)
      have HA9 : Hid (All w8 [(F, m, codeL q), (E, m, codeL p), (B, m, q), (A, m, p), (A0, n0, x0), (A1, n1, x1)]) := HA8.out.keep hb
      clear HA8 HB8
      clear hb
      go_wp2_with fail
      refine (equal_bel E m ce F m cf (codeL p) (codeL q) _ HA9.out.2.1 HA9.out.1 (by omega) (by omega)).mono ?_
      rintro e w9 ⟨rfl, hb⟩
      have HB10 := hid (below_step HB9.out (Nat.le_refl _) hb)
      have HA10 : Hid (All w9 [(F, m, codeL q), (E, m, codeL p), (B, m, q), (A, m, p), (A0, n0, x0), (A1, n1, x1)]) := HA9.out.keep hb
      clear HA9 HB9
      clear hb
      rw [codeL_inj HP.out HQ.out (by rw [HL.out, HLQ.out])]
      generalize decide (codeL p = codeL q) = bb at *
      cases bb
      · go_wp2
        go_ret
        exact ⟨rfl, HB10.out⟩
      · go_wp2
        go_ret
        exact ⟨rfl, HB10.out⟩

end Go.Proofs.Ytcaenahhfhbiaaa
