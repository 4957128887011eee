/-
  castlaw.RisesSay, walked by cases.
-/
import Derived.Test.YtcaenahhfhbiaaaRisA
import Derived.Test.YtcaenahhfhbiaaaRisB
import Derived.Test.YtcaenahhfhbiaaaRisC
import Derived.Test.YtcaenahhfhbiaaaRefA
import Derived.Test.YtcaenahhfhbiaaaRefE
import Derived.Test.YtcaenahhfhbiaaaGen
namespace Go.Proofs.Ytcaenahhfhbiaaa
open Go.RowKit

set_option maxHeartbeats 2000000 in
set_option maxRecDepth 100000 in
theorem risesSay_AY (A2 : Option Addr) (n2 c2 : Nat) (p : List Int) (n : Int) (k : Int) (w : World) (h2 : Ints w A2 n2 p) (hc : n2 ≤ c2) (hm : c2 ≤ 9223372036854775807) (hn : n < 0) (hp : permErr p = 0) :
    Calls Try.prog 3 #[.int .i64 n, .int .i64 k, .slice A2 n2 c2] w fun e w' => e = .returned (.bool true) ∧ Below w.heap.size w w' := by
  have HB0 := hid (Below.refl w.heap.size w)
  have HP := hid hp
  have HL := hid h2.len
  have H2 := hid h2
  clear hp h2
  have hn10 : n2 ≤ 10 := by rw [← HL.out]; exact (permErr_ok.1 HP.out).1
  go_enter Try.func3, Try.ntmps3
  go_wp2_with fail
  refine (rcount_bad _ _ _ (by omega)).mono ?_
  rintro e w' ⟨rfl, rfl⟩
  go_wp2_with fail
  refine (falls_ok A2 n2 c2 p _ (H2.out.keep HB0.out) HP.out).mono ?_
  rintro e w1 ⟨rfl, hb⟩
  have HB1 := hid (below_step HB0.out (Nat.le_refl _) hb)
  clear HB0 hb
  go_wp2_with fail
  refine (rcrossed_ok A2 n2 c2 p _ (H2.out.keep HB1.out) HP.out hc hm).mono ?_
  rintro e w2 ⟨rfl, hb⟩
  have HB2 := hid (below_step HB1.out (Nat.le_refl _) hb)
  clear HB1 hb
  go_wp2_with fail
  refine (rsum_ok A2 n2 c2 p _ (H2.out.keep HB2.out) HP.out).mono ?_
  rintro e w3 ⟨rfl, hb⟩
  have HB3 := hid (below_step HB2.out (Nat.le_refl _) hb)
  clear HB2 hb
  go_wp2_with fail
  refine (refErr_any A2 n2 c2 p _ (H2.out.keep HB3.out) (by omega)).mono ?_
  rintro e w' ⟨rfl, rfl⟩
  rw [HP.out]
  obtain ⟨fn, HFN⟩ : ∃ x, Hid (fallN p = x) := ⟨_, rfl⟩
  obtain ⟨mj, HMJ⟩ : ∃ x, Hid (majN p = x) := ⟨_, rfl⟩
  obtain ⟨iv, HIV⟩ : ∃ x, Hid (inv p = x) := ⟨_, rfl⟩
  rw [HFN.out, HMJ.out, HIV.out]
  go_wp2_with fail
  go_loopg [16, 17, 18, 100] n2 (fun g u v _ s wr => ∃ j : Nat, j ≤ n2 ∧ n2 - j ≤ g ∧ u = .int .i64 ((fallK p j : Nat) : Int) ∧ v = .int .i64 ((majK p j : Nat) : Int) ∧ s = .int .i64 (j : Int) ∧ Below w.heap.size w wr)
  case atStart => exact ⟨0, Nat.zero_le _, by omega, rfl, rfl, rfl, HB3.out⟩
  case round =>
    obtain ⟨j, hj, hg, rfl, rfl, rfl, hbel⟩ := hrel
    have HB := hid hbel
    have HI := hid (H2.out.keep hbel)
    clear hbel HB3
    have hle := fallK_le p j
    have hme := majK_100 p (show j ≤ 10 by omega)
    by_cases hlt : j < n2
    · have hltI : (j : Int) < (n2 : Int) := by omega
      by_cases h0 : 0 < j
      · obtain ⟨b, o, rfl, hb, hcl⟩ := HI.out.row (by omega)
        have HD : Hid (dsc p j = decide (p.getD j 0 < p.getD (j - 1) 0)) := by unfold dsc; simp [Hid, h0]
        have g1 := hcl j hlt
        have g2 := hcl (j - 1) (by omega)
        clear hcl
        have hj0 : 0 < (j : Int) := by omega
        have hd : decide (0 < (j : Int)) = true := decide_eq_true hj0
        have hd2 : decide (0 < j) = true := decide_eq_true h0
        have hwr : IntKind.i64.wrap ((j : Int) - 1) = ((j - 1 : Nat) : Int) := by
          rw [IntWalk.i64_in _ (by omega)]
          omega
        have hjM : ((j - 1 : Nat) : Int) < (n2 : Int) := by omega
        have HF1 := hid (fallK_yes (p := p) (k := j))
        have HF0 := hid (fallK_no (p := p) (k := j))
        have HM1 := hid (majK_yes (p := p) (k := j))
        have HM0 := hid (majK_no (p := p) (k := j))
        generalize p.getD j 0 = x at *
        generalize p.getD (j - 1) 0 = y at *
        generalize fallK p j = z1 at *
        generalize majK p j = z2 at *
        by_cases hxy : x < y
        · have hd3 : decide (x < y) = true := decide_eq_true hxy
          rw [hd3] at HD
          replace HF1 := hid (HF1.out HD.out)
          replace HM1 := hid (HM1.out HD.out)
          clear HF0 HM0 HD
          go_wp2_with fail
          go_quiet (fail)
          go_wp2
          go_roundg (n2 - (j + 1))
          case measure => omega
          case rel => exact ⟨j + 1, by omega, by omega, by rw [HF1.out]; go_num, by rw [HM1.out]; go_num, by go_num, below_drewN HB.out _⟩
        · have hd3 : decide (x < y) = false := decide_eq_false hxy
          rw [hd3] at HD
          replace HF0 := hid (HF0.out HD.out)
          replace HM0 := hid (HM0.out HD.out)
          clear HF1 HM1 HD
          go_wp2_with fail
          go_quiet (fail)
          go_wp2
          go_roundg (n2 - (j + 1))
          case measure => omega
          case rel => exact ⟨j + 1, by omega, by omega, by rw [HF0.out], by rw [HM0.out], by go_num, below_drewN HB.out _⟩
      · have hj0 : j = 0 := by omega
        subst hj0
        go_wp2_with fail
        go_quiet (fail)
        go_wp2
        go_roundg (n2 - 1)
        case measure => omega
        case rel => exact ⟨1, by omega, by omega, rfl, rfl, rfl, below_drewN HB.out _⟩
    · have hjn : j = n2 := by omega
      subst hjn
      have HW1 : Hid (fallK p j = fn) := by rw [← HFN.out]; unfold fallN; rw [HL.out]; exact rfl
      have HW2 : Hid (majK p j = mj) := by rw [← HMJ.out]; unfold majN; rw [HL.out]; exact rfl
      rw [HW1.out, HW2.out]
      go_wp2_with fail
      refine (crossed_any A2 j c2 p _ HI.out (by omega)).mono ?_
      rintro e w9 ⟨rfl, q, rfl⟩
      rw [HIV.out]
      go_wp2
      go_ret
      exact ⟨rfl, below_drewN HB.out _⟩

set_option maxHeartbeats 2000000 in
set_option maxRecDepth 100000 in
theorem risesSay_AN (A2 : Option Addr) (n2 c2 : Nat) (p : List Int) (n : Int) (k : Int) (w : World) (h2 : Ints w A2 n2 p) (hc : n2 ≤ c2) (hm : c2 ≤ 9223372036854775807) (hn : n < 0) (hp : permErr p ≠ 0) :
    Calls Try.prog 3 #[.int .i64 n, .int .i64 k, .slice A2 n2 c2] w fun e w' => e = .returned (.bool true) ∧ Below w.heap.size w w' := by
  have HB0 := hid (Below.refl w.heap.size w)
  have HP := hid hp
  have HL := hid h2.len
  have H2 := hid h2
  clear hp h2
  go_enter Try.func3, Try.ntmps3
  go_wp2_with fail
  refine (rcount_bad _ _ _ (by omega)).mono ?_
  rintro e w' ⟨rfl, rfl⟩
  go_wp2_with fail
  refine (falls_err A2 n2 c2 p _ (H2.out.keep HB0.out) HP.out (by omega)).mono ?_
  rintro e w1 ⟨rfl, hb⟩
  have HB1 := hid (below_step HB0.out (Nat.le_refl _) hb)
  clear HB0 hb
  go_wp2_with fail
  refine (rcrossed_err A2 n2 c2 p _ (H2.out.keep HB1.out) HP.out (by omega)).mono ?_
  rintro e w2 ⟨rfl, hb⟩
  have HB2 := hid (below_step HB1.out (Nat.le_refl _) hb)
  clear HB1 hb
  go_wp2_with fail
  refine (rsum_err A2 n2 c2 p _ (H2.out.keep HB2.out) HP.out (by omega)).mono ?_
  rintro e w3 ⟨rfl, hb⟩
  have HB3 := hid (below_step HB2.out (Nat.le_refl _) hb)
  clear HB2 hb
  go_wp2_with fail
  refine (refErr_any A2 n2 c2 p _ (H2.out.keep HB3.out) (by omega)).mono ?_
  rintro e w' ⟨rfl, rfl⟩
  have z1 : (permErr p != 0) = true := by simpa using HP.out
  have z2 : (permErr p == permErr p) = true := by simp
  generalize permErr p = er at *
  go_wp2
  go_ret
  exact ⟨rfl, HB3.out⟩

set_option maxHeartbeats 2000000 in
set_option maxRecDepth 100000 in
theorem risesSay_BY (A2 : Option Addr) (n2 c2 : Nat) (p : List Int) (n : Int) (k : Int) (w : World) (h2 : Ints w A2 n2 p) (hc : n2 ≤ c2) (hm : c2 ≤ 9223372036854775807) (hn : 15 < n) (hp : permErr p = 0) :
    Calls Try.prog 3 #[.int .i64 n, .int .i64 k, .slice A2 n2 c2] w fun e w' => e = .returned (.bool true) ∧ Below w.heap.size w w' := by
  have HB0 := hid (Below.refl w.heap.size w)
  have HP := hid hp
  have HL := hid h2.len
  have H2 := hid h2
  clear hp h2
  have hn10 : n2 ≤ 10 := by rw [← HL.out]; exact (permErr_ok.1 HP.out).1
  go_enter Try.func3, Try.ntmps3
  go_wp2_with fail
  refine (rcount_bad _ _ _ (by omega)).mono ?_
  rintro e w' ⟨rfl, rfl⟩
  go_wp2_with fail
  refine (falls_ok A2 n2 c2 p _ (H2.out.keep HB0.out) HP.out).mono ?_
  rintro e w1 ⟨rfl, hb⟩
  have HB1 := hid (below_step HB0.out (Nat.le_refl _) hb)
  clear HB0 hb
  go_wp2_with fail
  refine (rcrossed_ok A2 n2 c2 p _ (H2.out.keep HB1.out) HP.out hc hm).mono ?_
  rintro e w2 ⟨rfl, hb⟩
  have HB2 := hid (below_step HB1.out (Nat.le_refl _) hb)
  clear HB1 hb
  go_wp2_with fail
  refine (rsum_ok A2 n2 c2 p _ (H2.out.keep HB2.out) HP.out).mono ?_
  rintro e w3 ⟨rfl, hb⟩
  have HB3 := hid (below_step HB2.out (Nat.le_refl _) hb)
  clear HB2 hb
  go_wp2_with fail
  refine (refErr_any A2 n2 c2 p _ (H2.out.keep HB3.out) (by omega)).mono ?_
  rintro e w' ⟨rfl, rfl⟩
  rw [HP.out]
  obtain ⟨fn, HFN⟩ : ∃ x, Hid (fallN p = x) := ⟨_, rfl⟩
  obtain ⟨mj, HMJ⟩ : ∃ x, Hid (majN p = x) := ⟨_, rfl⟩
  obtain ⟨iv, HIV⟩ : ∃ x, Hid (inv p = x) := ⟨_, rfl⟩
  rw [HFN.out, HMJ.out, HIV.out]
  go_wp2_with fail
  go_loopg [16, 17, 18, 100] n2 (fun g u v _ s wr => ∃ j : Nat, j ≤ n2 ∧ n2 - j ≤ g ∧ u = .int .i64 ((fallK p j : Nat) : Int) ∧ v = .int .i64 ((majK p j : Nat) : Int) ∧ s = .int .i64 (j : Int) ∧ Below w.heap.size w wr)
  case atStart => exact ⟨0, Nat.zero_le _, by omega, rfl, rfl, rfl, HB3.out⟩
  case round =>
    obtain ⟨j, hj, hg, rfl, rfl, rfl, hbel⟩ := hrel
    have HB := hid hbel
    have HI := hid (H2.out.keep hbel)
    clear hbel HB3
    have hle := fallK_le p j
    have hme := majK_100 p (show j ≤ 10 by omega)
    by_cases hlt : j < n2
    · have hltI : (j : Int) < (n2 : Int) := by omega
      by_cases h0 : 0 < j
      · obtain ⟨b, o, rfl, hb, hcl⟩ := HI.out.row (by omega)
        have HD : Hid (dsc p j = decide (p.getD j 0 < p.getD (j - 1) 0)) := by unfold dsc; simp [Hid, h0]
        have g1 := hcl j hlt
        have g2 := hcl (j - 1) (by omega)
        clear hcl
        have hj0 : 0 < (j : Int) := by omega
        have hd : decide (0 < (j : Int)) = true := decide_eq_true hj0
        have hd2 : decide (0 < j) = true := decide_eq_true h0
        have hwr : IntKind.i64.wrap ((j : Int) - 1) = ((j - 1 : Nat) : Int) := by
          rw [IntWalk.i64_in _ (by omega)]
          omega
        have hjM : ((j - 1 : Nat) : Int) < (n2 : Int) := by omega
        have HF1 := hid (fallK_yes (p := p) (k := j))
        have HF0 := hid (fallK_no (p := p) (k := j))
        have HM1 := hid (majK_yes (p := p) (k := j))
        have HM0 := hid (majK_no (p := p) (k := j))
        generalize p.getD j 0 = x at *
        generalize p.getD (j - 1) 0 = y at *
        generalize fallK p j = z1 at *
        generalize majK p j = z2 at *
        by_cases hxy : x < y
        · have hd3 : decide (x < y) = true := decide_eq_true hxy
          rw [hd3] at HD
          replace HF1 := hid (HF1.out HD.out)
          replace HM1 := hid (HM1.out HD.out)
          clear HF0 HM0 HD
          go_wp2_with fail
          go_quiet (fail)
          go_wp2
          go_roundg (n2 - (j + 1))
          case measure => omega
          case rel => exact ⟨j + 1, by omega, by omega, by rw [HF1.out]; go_num, by rw [HM1.out]; go_num, by go_num, below_drewN HB.out _⟩
        · have hd3 : decide (x < y) = false := decide_eq_false hxy
          rw [hd3] at HD
          replace HF0 := hid (HF0.out HD.out)
          replace HM0 := hid (HM0.out HD.out)
          clear HF1 HM1 HD
          go_wp2_with fail
          go_quiet (fail)
          go_wp2
          go_roundg (n2 - (j + 1))
          case measure => omega
          case rel => exact ⟨j + 1, by omega, by omega, by rw [HF0.out], by rw [HM0.out], by go_num, below_drewN HB.out _⟩
      · have hj0 : j = 0 := by omega
        subst hj0
        go_wp2_with fail
        go_quiet (fail)
        go_wp2
        go_roundg (n2 - 1)
        case measure => omega
        case rel => exact ⟨1, by omega, by omega, rfl, rfl, rfl, below_drewN HB.out _⟩
    · have hjn : j = n2 := by omega
      subst hjn
      have HW1 : Hid (fallK p j = fn) := by rw [← HFN.out]; unfold fallN; rw [HL.out]; exact rfl
      have HW2 : Hid (majK p j = mj) := by rw [← HMJ.out]; unfold majN; rw [HL.out]; exact rfl
      rw [HW1.out, HW2.out]
      go_wp2_with fail
      refine (crossed_any A2 j c2 p _ HI.out (by omega)).mono ?_
      rintro e w9 ⟨rfl, q, rfl⟩
      rw [HIV.out]
      go_wp2
      go_ret
      exact ⟨rfl, below_drewN HB.out _⟩

set_option maxHeartbeats 2000000 in
set_option maxRecDepth 100000 in
theorem risesSay_BN (A2 : Option Addr) (n2 c2 : Nat) (p : List Int) (n : Int) (k : Int) (w : World) (h2 : Ints w A2 n2 p) (hc : n2 ≤ c2) (hm : c2 ≤ 9223372036854775807) (hn : 15 < n) (hp : permErr p ≠ 0) :
    Calls Try.prog 3 #[.int .i64 n, .int .i64 k, .slice A2 n2 c2] w fun e w' => e = .returned (.bool true) ∧ Below w.heap.size w w' := by
  have HB0 := hid (Below.refl w.heap.size w)
  have HP := hid hp
  have HL := hid h2.len
  have H2 := hid h2
  clear hp h2
  go_enter Try.func3, Try.ntmps3
  go_wp2_with fail
  refine (rcount_bad _ _ _ (by omega)).mono ?_
  rintro e w' ⟨rfl, rfl⟩
  go_wp2_with fail
  refine (falls_err A2 n2 c2 p _ (H2.out.keep HB0.out) HP.out (by omega)).mono ?_
  rintro e w1 ⟨rfl, hb⟩
  have HB1 := hid (below_step HB0.out (Nat.le_refl _) hb)
  clear HB0 hb
  go_wp2_with fail
  refine (rcrossed_err A2 n2 c2 p _ (H2.out.keep HB1.out) HP.out (by omega)).mono ?_
  rintro e w2 ⟨rfl, hb⟩
  have HB2 := hid (below_step HB1.out (Nat.le_refl _) hb)
  clear HB1 hb
  go_wp2_with fail
  refine (rsum_err A2 n2 c2 p _ (H2.out.keep HB2.out) HP.out (by omega)).mono ?_
  rintro e w3 ⟨rfl, hb⟩
  have HB3 := hid (below_step HB2.out (Nat.le_refl _) hb)
  clear HB2 hb
  go_wp2_with fail
  refine (refErr_any A2 n2 c2 p _ (H2.out.keep HB3.out) (by omega)).mono ?_
  rintro e w' ⟨rfl, rfl⟩
  have z1 : (permErr p != 0) = true := by simpa using HP.out
  have z2 : (permErr p == permErr p) = true := by simp
  generalize permErr p = er at *
  go_wp2
  go_ret
  exact ⟨rfl, HB3.out⟩

set_option maxHeartbeats 2000000 in
set_option maxRecDepth 100000 in
theorem risesSay_CY (A2 : Option Addr) (n2 c2 : Nat) (p : List Int) (n : Nat) (k : Int) (w : World) (h2 : Ints w A2 n2 p) (hc : n2 ≤ c2) (hm : c2 ≤ 9223372036854775807) (hn : n ≤ 15) (hk : k < 0) (hp : permErr p = 0) :
    Calls Try.prog 3 #[.int .i64 (n : Int), .int .i64 k, .slice A2 n2 c2] w fun e w' => e = .returned (.bool true) ∧ Below w.heap.size w w' := by
  have HB0 := hid (Below.refl w.heap.size w)
  have HP := hid hp
  have HL := hid h2.len
  have H2 := hid h2
  clear hp h2
  have hn10 : n2 ≤ 10 := by rw [← HL.out]; exact (permErr_ok.1 HP.out).1
  go_enter Try.func3, Try.ntmps3
  go_wp2_with fail
  refine (rcount_bad _ _ _ (by omega)).mono ?_
  rintro e w' ⟨rfl, rfl⟩
  go_wp2_with fail
  refine (falls_ok A2 n2 c2 p _ (H2.out.keep HB0.out) HP.out).mono ?_
  rintro e w1 ⟨rfl, hb⟩
  have HB1 := hid (below_step HB0.out (Nat.le_refl _) hb)
  clear HB0 hb
  go_wp2_with fail
  refine (rcrossed_ok A2 n2 c2 p _ (H2.out.keep HB1.out) HP.out hc hm).mono ?_
  rintro e w2 ⟨rfl, hb⟩
  have HB2 := hid (below_step HB1.out (Nat.le_refl _) hb)
  clear HB1 hb
  go_wp2_with fail
  refine (rsum_ok A2 n2 c2 p _ (H2.out.keep HB2.out) HP.out).mono ?_
  rintro e w3 ⟨rfl, hb⟩
  have HB3 := hid (below_step HB2.out (Nat.le_refl _) hb)
  clear HB2 hb
  have hnI0 : ¬ (n : Int) < 0 := by omega
  have hnI1 : ¬ 15 < (n : Int) := by omega
  go_wp2_with fail
  refine (refErr_any A2 n2 c2 p _ (H2.out.keep HB3.out) (by omega)).mono ?_
  rintro e w' ⟨rfl, rfl⟩
  rw [HP.out]
  obtain ⟨fn, HFN⟩ : ∃ x, Hid (fallN p = x) := ⟨_, rfl⟩
  obtain ⟨mj, HMJ⟩ : ∃ x, Hid (majN p = x) := ⟨_, rfl⟩
  obtain ⟨iv, HIV⟩ : ∃ x, Hid (inv p = x) := ⟨_, rfl⟩
  rw [HFN.out, HMJ.out, HIV.out]
  go_wp2_with fail
  go_loopg [16, 17, 18, 100] n2 (fun g u v _ s wr => ∃ j : Nat, j ≤ n2 ∧ n2 - j ≤ g ∧ u = .int .i64 ((fallK p j : Nat) : Int) ∧ v = .int .i64 ((majK p j : Nat) : Int) ∧ s = .int .i64 (j : Int) ∧ Below w.heap.size w wr)
  case atStart => exact ⟨0, Nat.zero_le _, by omega, rfl, rfl, rfl, HB3.out⟩
  case round =>
    obtain ⟨j, hj, hg, rfl, rfl, rfl, hbel⟩ := hrel
    have HB := hid hbel
    have HI := hid (H2.out.keep hbel)
    clear hbel HB3
    have hle := fallK_le p j
    have hme := majK_100 p (show j ≤ 10 by omega)
    by_cases hlt : j < n2
    · have hltI : (j : Int) < (n2 : Int) := by omega
      by_cases h0 : 0 < j
      · obtain ⟨b, o, rfl, hb, hcl⟩ := HI.out.row (by omega)
        have HD : Hid (dsc p j = decide (p.getD j 0 < p.getD (j - 1) 0)) := by unfold dsc; simp [Hid, h0]
        have g1 := hcl j hlt
        have g2 := hcl (j - 1) (by omega)
        clear hcl
        have hj0 : 0 < (j : Int) := by omega
        have hd : decide (0 < (j : Int)) = true := decide_eq_true hj0
        have hd2 : decide (0 < j) = true := decide_eq_true h0
        have hwr : IntKind.i64.wrap ((j : Int) - 1) = ((j - 1 : Nat) : Int) := by
          rw [IntWalk.i64_in _ (by omega)]
          omega
        have hjM : ((j - 1 : Nat) : Int) < (n2 : Int) := by omega
        have HF1 := hid (fallK_yes (p := p) (k := j))
        have HF0 := hid (fallK_no (p := p) (k := j))
        have HM1 := hid (majK_yes (p := p) (k := j))
        have HM0 := hid (majK_no (p := p) (k := j))
        generalize p.getD j 0 = x at *
        generalize p.getD (j - 1) 0 = y at *
        generalize fallK p j = z1 at *
        generalize majK p j = z2 at *
        by_cases hxy : x < y
        · have hd3 : decide (x < y) = true := decide_eq_true hxy
          rw [hd3] at HD
          replace HF1 := hid (HF1.out HD.out)
          replace HM1 := hid (HM1.out HD.out)
          clear HF0 HM0 HD
          go_wp2_with fail
          go_quiet (fail)
          go_wp2
          go_roundg (n2 - (j + 1))
          case measure => omega
          case rel => exact ⟨j + 1, by omega, by omega, by rw [HF1.out]; go_num, by rw [HM1.out]; go_num, by go_num, below_drewN HB.out _⟩
        · have hd3 : decide (x < y) = false := decide_eq_false hxy
          rw [hd3] at HD
          replace HF0 := hid (HF0.out HD.out)
          replace HM0 := hid (HM0.out HD.out)
          clear HF1 HM1 HD
          go_wp2_with fail
          go_quiet (fail)
          go_wp2
          go_roundg (n2 - (j + 1))
          case measure => omega
          case rel => exact ⟨j + 1, by omega, by omega, by rw [HF0.out], by rw [HM0.out], by go_num, below_drewN HB.out _⟩
      · have hj0 : j = 0 := by omega
        subst hj0
        go_wp2_with fail
        go_quiet (fail)
        go_wp2
        go_roundg (n2 - 1)
        case measure => omega
        case rel => exact ⟨1, by omega, by omega, rfl, rfl, rfl, below_drewN HB.out _⟩
    · have hjn : j = n2 := by omega
      subst hjn
      have HW1 : Hid (fallK p j = fn) := by rw [← HFN.out]; unfold fallN; rw [HL.out]; exact rfl
      have HW2 : Hid (majK p j = mj) := by rw [← HMJ.out]; unfold majN; rw [HL.out]; exact rfl
      rw [HW1.out, HW2.out]
      go_wp2_with fail
      refine (crossed_any A2 j c2 p _ HI.out (by omega)).mono ?_
      rintro e w9 ⟨rfl, q, rfl⟩
      rw [HIV.out]
      go_wp2
      go_ret
      exact ⟨rfl, below_drewN HB.out _⟩

set_option maxHeartbeats 2000000 in
set_option maxRecDepth 100000 in
theorem risesSay_CN (A2 : Option Addr) (n2 c2 : Nat) (p : List Int) (n : Nat) (k : Int) (w : World) (h2 : Ints w A2 n2 p) (hc : n2 ≤ c2) (hm : c2 ≤ 9223372036854775807) (hn : n ≤ 15) (hk : k < 0) (hp : permErr p ≠ 0) :
    Calls Try.prog 3 #[.int .i64 (n : Int), .int .i64 k, .slice A2 n2 c2] w fun e w' => e = .returned (.bool true) ∧ Below w.heap.size w w' := by
  have HB0 := hid (Below.refl w.heap.size w)
  have HP := hid hp
  have HL := hid h2.len
  have H2 := hid h2
  clear hp h2
  go_enter Try.func3, Try.ntmps3
  go_wp2_with fail
  refine (rcount_bad _ _ _ (by omega)).mono ?_
  rintro e w' ⟨rfl, rfl⟩
  go_wp2_with fail
  refine (falls_err A2 n2 c2 p _ (H2.out.keep HB0.out) HP.out (by omega)).mono ?_
  rintro e w1 ⟨rfl, hb⟩
  have HB1 := hid (below_step HB0.out (Nat.le_refl _) hb)
  clear HB0 hb
  go_wp2_with fail
  refine (rcrossed_err A2 n2 c2 p _ (H2.out.keep HB1.out) HP.out (by omega)).mono ?_
  rintro e w2 ⟨rfl, hb⟩
  have HB2 := hid (below_step HB1.out (Nat.le_refl _) hb)
  clear HB1 hb
  go_wp2_with fail
  refine (rsum_err A2 n2 c2 p _ (H2.out.keep HB2.out) HP.out (by omega)).mono ?_
  rintro e w3 ⟨rfl, hb⟩
  have HB3 := hid (below_step HB2.out (Nat.le_refl _) hb)
  clear HB2 hb
  have hnI0 : ¬ (n : Int) < 0 := by omega
  have hnI1 : ¬ 15 < (n : Int) := by omega
  go_wp2_with fail
  refine (refErr_any A2 n2 c2 p _ (H2.out.keep HB3.out) (by omega)).mono ?_
  rintro e w' ⟨rfl, rfl⟩
  have z1 : (permErr p != 0) = true := by simpa using HP.out
  have z2 : (permErr p == permErr p) = true := by simp
  generalize permErr p = er at *
  go_wp2
  go_ret
  exact ⟨rfl, HB3.out⟩

set_option maxHeartbeats 2000000 in
set_option maxRecDepth 100000 in
theorem risesSay_DY (A2 : Option Addr) (n2 c2 : Nat) (p : List Int) (n : Nat) (k : Int) (w : World) (h2 : Ints w A2 n2 p) (hc : n2 ≤ c2) (hm : c2 ≤ 9223372036854775807) (hn : n ≤ 15) (hk : 15 < k) (hp : permErr p = 0) :
    Calls Try.prog 3 #[.int .i64 (n : Int), .int .i64 k, .slice A2 n2 c2] w fun e w' => e = .returned (.bool true) ∧ Below w.heap.size w w' := by
  have HB0 := hid (Below.refl w.heap.size w)
  have HP := hid hp
  have HL := hid h2.len
  have H2 := hid h2
  clear hp h2
  have hn10 : n2 ≤ 10 := by rw [← HL.out]; exact (permErr_ok.1 HP.out).1
  go_enter Try.func3, Try.ntmps3
  go_wp2_with fail
  refine (rcount_bad _ _ _ (by omega)).mono ?_
  rintro e w' ⟨rfl, rfl⟩
  go_wp2_with fail
  refine (falls_ok A2 n2 c2 p _ (H2.out.keep HB0.out) HP.out).mono ?_
  rintro e w1 ⟨rfl, hb⟩
  have HB1 := hid (below_step HB0.out (Nat.le_refl _) hb)
  clear HB0 hb
  go_wp2_with fail
  refine (rcrossed_ok A2 n2 c2 p _ (H2.out.keep HB1.out) HP.out hc hm).mono ?_
  rintro e w2 ⟨rfl, hb⟩
  have HB2 := hid (below_step HB1.out (Nat.le_refl _) hb)
  clear HB1 hb
  go_wp2_with fail
  refine (rsum_ok A2 n2 c2 p _ (H2.out.keep HB2.out) HP.out).mono ?_
  rintro e w3 ⟨rfl, hb⟩
  have HB3 := hid (below_step HB2.out (Nat.le_refl _) hb)
  clear HB2 hb
  have hnI0 : ¬ (n : Int) < 0 := by omega
  have hnI1 : ¬ 15 < (n : Int) := by omega
  go_wp2_with fail
  refine (refErr_any A2 n2 c2 p _ (H2.out.keep HB3.out) (by omega)).mono ?_
  rintro e w' ⟨rfl, rfl⟩
  rw [HP.out]
  obtain ⟨fn, HFN⟩ : ∃ x, Hid (fallN p = x) := ⟨_, rfl⟩
  obtain ⟨mj, HMJ⟩ : ∃ x, Hid (majN p = x) := ⟨_, rfl⟩
  obtain ⟨iv, HIV⟩ : ∃ x, Hid (inv p = x) := ⟨_, rfl⟩
  rw [HFN.out, HMJ.out, HIV.out]
  go_wp2_with fail
  go_loopg [16, 17, 18, 100] n2 (fun g u v _ s wr => ∃ j : Nat, j ≤ n2 ∧ n2 - j ≤ g ∧ u = .int .i64 ((fallK p j : Nat) : Int) ∧ v = .int .i64 ((majK p j : Nat) : Int) ∧ s = .int .i64 (j : Int) ∧ Below w.heap.size w wr)
  case atStart => exact ⟨0, Nat.zero_le _, by omega, rfl, rfl, rfl, HB3.out⟩
  case round =>
    obtain ⟨j, hj, hg, rfl, rfl, rfl, hbel⟩ := hrel
    have HB := hid hbel
    have HI := hid (H2.out.keep hbel)
    clear hbel HB3
    have hle := fallK_le p j
    have hme := majK_100 p (show j ≤ 10 by omega)
    by_cases hlt : j < n2
    · have hltI : (j : Int) < (n2 : Int) := by omega
      by_cases h0 : 0 < j
      · obtain ⟨b, o, rfl, hb, hcl⟩ := HI.out.row (by omega)
        have HD : Hid (dsc p j = decide (p.getD j 0 < p.getD (j - 1) 0)) := by unfold dsc; simp [Hid, h0]
        have g1 := hcl j hlt
        have g2 := hcl (j - 1) (by omega)
        clear hcl
        have hj0 : 0 < (j : Int) := by omega
        have hd : decide (0 < (j : Int)) = true := decide_eq_true hj0
        have hd2 : decide (0 < j) = true := decide_eq_true h0
        have hwr : IntKind.i64.wrap ((j : Int) - 1) = ((j - 1 : Nat) : Int) := by
          rw [IntWalk.i64_in _ (by omega)]
          omega
        have hjM : ((j - 1 : Nat) : Int) < (n2 : Int) := by omega
        have HF1 := hid (fallK_yes (p := p) (k := j))
        have HF0 := hid (fallK_no (p := p) (k := j))
        have HM1 := hid (majK_yes (p := p) (k := j))
        have HM0 := hid (majK_no (p := p) (k := j))
        generalize p.getD j 0 = x at *
        generalize p.getD (j - 1) 0 = y at *
        generalize fallK p j = z1 at *
        generalize majK p j = z2 at *
        by_cases hxy : x < y
        · have hd3 : decide (x < y) = true := decide_eq_true hxy
          rw [hd3] at HD
          replace HF1 := hid (HF1.out HD.out)
          replace HM1 := hid (HM1.out HD.out)
          clear HF0 HM0 HD
          go_wp2_with fail
          go_quiet (fail)
          go_wp2
          go_roundg (n2 - (j + 1))
          case measure => omega
          case rel => exact ⟨j + 1, by omega, by omega, by rw [HF1.out]; go_num, by rw [HM1.out]; go_num, by go_num, below_drewN HB.out _⟩
        · have hd3 : decide (x < y) = false := decide_eq_false hxy
          rw [hd3] at HD
          replace HF0 := hid (HF0.out HD.out)
          replace HM0 := hid (HM0.out HD.out)
          clear HF1 HM1 HD
          go_wp2_with fail
          go_quiet (fail)
          go_wp2
          go_roundg (n2 - (j + 1))
          case measure => omega
          case rel => exact ⟨j + 1, by omega, by omega, by rw [HF0.out], by rw [HM0.out], by go_num, below_drewN HB.out _⟩
      · have hj0 : j = 0 := by omega
        subst hj0
        go_wp2_with fail
        go_quiet (fail)
        go_wp2
        go_roundg (n2 - 1)
        case measure => omega
        case rel => exact ⟨1, by omega, by omega, rfl, rfl, rfl, below_drewN HB.out _⟩
    · have hjn : j = n2 := by omega
      subst hjn
      have HW1 : Hid (fallK p j = fn) := by rw [← HFN.out]; unfold fallN; rw [HL.out]; exact rfl
      have HW2 : Hid (majK p j = mj) := by rw [← HMJ.out]; unfold majN; rw [HL.out]; exact rfl
      rw [HW1.out, HW2.out]
      go_wp2_with fail
      refine (crossed_any A2 j c2 p _ HI.out (by omega)).mono ?_
      rintro e w9 ⟨rfl, q, rfl⟩
      rw [HIV.out]
      go_wp2
      go_ret
      exact ⟨rfl, below_drewN HB.out _⟩

set_option maxHeartbeats 2000000 in
set_option maxRecDepth 100000 in
theorem risesSay_DN (A2 : Option Addr) (n2 c2 : Nat) (p : List Int) (n : Nat) (k : Int) (w : World) (h2 : Ints w A2 n2 p) (hc : n2 ≤ c2) (hm : c2 ≤ 9223372036854775807) (hn : n ≤ 15) (hk : 15 < k) (hp : permErr p ≠ 0) :
    Calls Try.prog 3 #[.int .i64 (n : Int), .int .i64 k, .slice A2 n2 c2] w fun e w' => e = .returned (.bool true) ∧ Below w.heap.size w w' := by
  have HB0 := hid (Below.refl w.heap.size w)
  have HP := hid hp
  have HL := hid h2.len
  have H2 := hid h2
  clear hp h2
  go_enter Try.func3, Try.ntmps3
  go_wp2_with fail
  refine (rcount_bad _ _ _ (by omega)).mono ?_
  rintro e w' ⟨rfl, rfl⟩
  go_wp2_with fail
  refine (falls_err A2 n2 c2 p _ (H2.out.keep HB0.out) HP.out (by omega)).mono ?_
  rintro e w1 ⟨rfl, hb⟩
  have HB1 := hid (below_step HB0.out (Nat.le_refl _) hb)
  clear HB0 hb
  go_wp2_with fail
  refine (rcrossed_err A2 n2 c2 p _ (H2.out.keep HB1.out) HP.out (by omega)).mono ?_
  rintro e w2 ⟨rfl, hb⟩
  have HB2 := hid (below_step HB1.out (Nat.le_refl _) hb)
  clear HB1 hb
  go_wp2_with fail
  refine (rsum_err A2 n2 c2 p _ (H2.out.keep HB2.out) HP.out (by omega)).mono ?_
  rintro e w3 ⟨rfl, hb⟩
  have HB3 := hid (below_step HB2.out (Nat.le_refl _) hb)
  clear HB2 hb
  have hnI0 : ¬ (n : Int) < 0 := by omega
  have hnI1 : ¬ 15 < (n : Int) := by omega
  go_wp2_with fail
  refine (refErr_any A2 n2 c2 p _ (H2.out.keep HB3.out) (by omega)).mono ?_
  rintro e w' ⟨rfl, rfl⟩
  have z1 : (permErr p != 0) = true := by simpa using HP.out
  have z2 : (permErr p == permErr p) = true := by simp
  generalize permErr p = er at *
  go_wp2
  go_ret
  exact ⟨rfl, HB3.out⟩

set_option maxHeartbeats 2000000 in
set_option maxRecDepth 100000 in
theorem risesSay_YY (A2 : Option Addr) (n2 c2 : Nat) (p : List Int) (n : Nat) (k : Nat) (w : World) (h2 : Ints w A2 n2 p) (hc : n2 ≤ c2) (hm : c2 ≤ 9223372036854775807) (hn : n ≤ 15) (hk : k ≤ 15) (hp : permErr p = 0) :
    Calls Try.prog 3 #[.int .i64 (n : Int), .int .i64 (k : Int), .slice A2 n2 c2] w fun e w' => e = .returned (.bool true) ∧ Below w.heap.size w w' := by
  have HB0 := hid (Below.refl w.heap.size w)
  have HP := hid hp
  have HL := hid h2.len
  have H2 := hid h2
  clear hp h2
  have hn10 : n2 ≤ 10 := by rw [← HL.out]; exact (permErr_ok.1 HP.out).1
  go_enter Try.func3, Try.ntmps3
  go_wp2_with fail
  refine (rcount_ok _ _ n k rfl rfl _ hn hk).mono ?_
  rintro e w1 ⟨rfl, hb⟩
  have HB1 := hid (below_step HB0.out (Nat.le_refl _) hb)
  clear HB0 hb
  go_wp2_with fail
  refine (falls_ok A2 n2 c2 p _ (H2.out.keep HB1.out) HP.out).mono ?_
  rintro e w2 ⟨rfl, hb⟩
  have HB2 := hid (below_step HB1.out (Nat.le_refl _) hb)
  clear HB1 hb
  go_wp2_with fail
  refine (rcrossed_ok A2 n2 c2 p _ (H2.out.keep HB2.out) HP.out hc hm).mono ?_
  rintro e w3 ⟨rfl, hb⟩
  have HB3 := hid (below_step HB2.out (Nat.le_refl _) hb)
  clear HB2 hb
  go_wp2_with fail
  refine (rsum_ok A2 n2 c2 p _ (H2.out.keep HB3.out) HP.out).mono ?_
  rintro e w4 ⟨rfl, hb⟩
  have HB4 := hid (below_step HB3.out (Nat.le_refl _) hb)
  clear HB3 hb
  have hnI0 : ¬ (n : Int) < 0 := by omega
  have hnI1 : ¬ 15 < (n : Int) := by omega
  have hkI0 : ¬ (k : Int) < 0 := by omega
  have hkI1 : ¬ 15 < (k : Int) := by omega
  have e2 : (((eul n k : Nat) : Int) != ((eul n k : Nat) : Int)) = false := by simp
  go_wp2_with fail
  refine (fallsOf_any n k _ hn hk).mono ?_
  rintro e w5 ⟨rfl, hb⟩
  have HB5 := hid (below_step HB4.out (Nat.le_refl _) hb)
  clear HB4 hb
  generalize eul n k = d at *
  go_wp2_with fail
  refine (refErr_any A2 n2 c2 p _ (H2.out.keep HB5.out) (by omega)).mono ?_
  rintro e w' ⟨rfl, rfl⟩
  rw [HP.out]
  obtain ⟨fn, HFN⟩ : ∃ x, Hid (fallN p = x) := ⟨_, rfl⟩
  obtain ⟨mj, HMJ⟩ : ∃ x, Hid (majN p = x) := ⟨_, rfl⟩
  obtain ⟨iv, HIV⟩ : ∃ x, Hid (inv p = x) := ⟨_, rfl⟩
  rw [HFN.out, HMJ.out, HIV.out]
  go_wp2_with fail
  go_loopg [16, 17, 18, 100] n2 (fun g u v _ s wr => ∃ j : Nat, j ≤ n2 ∧ n2 - j ≤ g ∧ u = .int .i64 ((fallK p j : Nat) : Int) ∧ v = .int .i64 ((majK p j : Nat) : Int) ∧ s = .int .i64 (j : Int) ∧ Below w.heap.size w wr)
  case atStart => exact ⟨0, Nat.zero_le _, by omega, rfl, rfl, rfl, HB5.out⟩
  case round =>
    obtain ⟨j, hj, hg, rfl, rfl, rfl, hbel⟩ := hrel
    have HB := hid hbel
    have HI := hid (H2.out.keep hbel)
    clear hbel HB5
    have hle := fallK_le p j
    have hme := majK_100 p (show j ≤ 10 by omega)
    by_cases hlt : j < n2
    · have hltI : (j : Int) < (n2 : Int) := by omega
      by_cases h0 : 0 < j
      · obtain ⟨b, o, rfl, hb, hcl⟩ := HI.out.row (by omega)
        have HD : Hid (dsc p j = decide (p.getD j 0 < p.getD (j - 1) 0)) := by unfold dsc; simp [Hid, h0]
        have g1 := hcl j hlt
        have g2 := hcl (j - 1) (by omega)
        clear hcl
        have hj0 : 0 < (j : Int) := by omega
        have hd : decide (0 < (j : Int)) = true := decide_eq_true hj0
        have hd2 : decide (0 < j) = true := decide_eq_true h0
        have hwr : IntKind.i64.wrap ((j : Int) - 1) = ((j - 1 : Nat) : Int) := by
          rw [IntWalk.i64_in _ (by omega)]
          omega
        have hjM : ((j - 1 : Nat) : Int) < (n2 : Int) := by omega
        have HF1 := hid (fallK_yes (p := p) (k := j))
        have HF0 := hid (fallK_no (p := p) (k := j))
        have HM1 := hid (majK_yes (p := p) (k := j))
        have HM0 := hid (majK_no (p := p) (k := j))
        generalize p.getD j 0 = x at *
        generalize p.getD (j - 1) 0 = y at *
        generalize fallK p j = z1 at *
        generalize majK p j = z2 at *
        by_cases hxy : x < y
        · have hd3 : decide (x < y) = true := decide_eq_true hxy
          rw [hd3] at HD
          replace HF1 := hid (HF1.out HD.out)
          replace HM1 := hid (HM1.out HD.out)
          clear HF0 HM0 HD
          go_wp2_with fail
          go_quiet (fail)
          go_wp2
          go_roundg (n2 - (j + 1))
          case measure => omega
          case rel => exact ⟨j + 1, by omega, by omega, by rw [HF1.out]; go_num, by rw [HM1.out]; go_num, by go_num, below_drewN HB.out _⟩
        · have hd3 : decide (x < y) = false := decide_eq_false hxy
          rw [hd3] at HD
          replace HF0 := hid (HF0.out HD.out)
          replace HM0 := hid (HM0.out HD.out)
          clear HF1 HM1 HD
          go_wp2_with fail
          go_quiet (fail)
          go_wp2
          go_roundg (n2 - (j + 1))
          case measure => omega
          case rel => exact ⟨j + 1, by omega, by omega, by rw [HF0.out], by rw [HM0.out], by go_num, below_drewN HB.out _⟩
      · have hj0 : j = 0 := by omega
        subst hj0
        go_wp2_with fail
        go_quiet (fail)
        go_wp2
        go_roundg (n2 - 1)
        case measure => omega
        case rel => exact ⟨1, by omega, by omega, rfl, rfl, rfl, below_drewN HB.out _⟩
    · have hjn : j = n2 := by omega
      subst hjn
      have HW1 : Hid (fallK p j = fn) := by rw [← HFN.out]; unfold fallN; rw [HL.out]; exact rfl
      have HW2 : Hid (majK p j = mj) := by rw [← HMJ.out]; unfold majN; rw [HL.out]; exact rfl
      rw [HW1.out, HW2.out]
      go_wp2_with fail
      refine (crossed_any A2 j c2 p _ HI.out (by omega)).mono ?_
      rintro e w9 ⟨rfl, q, rfl⟩
      rw [HIV.out]
      go_wp2
      go_ret
      exact ⟨rfl, below_drewN HB.out _⟩

set_option maxHeartbeats 2000000 in
set_option maxRecDepth 100000 in
theorem risesSay_YN (A2 : Option Addr) (n2 c2 : Nat) (p : List Int) (n : Nat) (k : Nat) (w : World) (h2 : Ints w A2 n2 p) (hc : n2 ≤ c2) (hm : c2 ≤ 9223372036854775807) (hn : n ≤ 15) (hk : k ≤ 15) (hp : permErr p ≠ 0) :
    Calls Try.prog 3 #[.int .i64 (n : Int), .int .i64 (k : Int), .slice A2 n2 c2] w fun e w' => e = .returned (.bool true) ∧ Below w.heap.size w w' := by
  have HB0 := hid (Below.refl w.heap.size w)
  have HP := hid hp
  have HL := hid h2.len
  have H2 := hid h2
  clear hp h2
  go_enter Try.func3, Try.ntmps3
  go_wp2_with fail
  refine (rcount_ok _ _ n k rfl rfl _ hn hk).mono ?_
  rintro e w1 ⟨rfl, hb⟩
  have HB1 := hid (below_step HB0.out (Nat.le_refl _) hb)
  clear HB0 hb
  go_wp2_with fail
  refine (falls_err A2 n2 c2 p _ (H2.out.keep HB1.out) HP.out (by omega)).mono ?_
  rintro e w2 ⟨rfl, hb⟩
  have HB2 := hid (below_step HB1.out (Nat.le_refl _) hb)
  clear HB1 hb
  go_wp2_with fail
  refine (rcrossed_err A2 n2 c2 p _ (H2.out.keep HB2.out) HP.out (by omega)).mono ?_
  rintro e w3 ⟨rfl, hb⟩
  have HB3 := hid (below_step HB2.out (Nat.le_refl _) hb)
  clear HB2 hb
  go_wp2_with fail
  refine (rsum_err A2 n2 c2 p _ (H2.out.keep HB3.out) HP.out (by omega)).mono ?_
  rintro e w4 ⟨rfl, hb⟩
  have HB4 := hid (below_step HB3.out (Nat.le_refl _) hb)
  clear HB3 hb
  have hnI0 : ¬ (n : Int) < 0 := by omega
  have hnI1 : ¬ 15 < (n : Int) := by omega
  have hkI0 : ¬ (k : Int) < 0 := by omega
  have hkI1 : ¬ 15 < (k : Int) := by omega
  have e2 : (((eul n k : Nat) : Int) != ((eul n k : Nat) : Int)) = false := by simp
  go_wp2_with fail
  refine (fallsOf_any n k _ hn hk).mono ?_
  rintro e w5 ⟨rfl, hb⟩
  have HB5 := hid (below_step HB4.out (Nat.le_refl _) hb)
  clear HB4 hb
  generalize eul n k = d at *
  go_wp2_with fail
  refine (refErr_any A2 n2 c2 p _ (H2.out.keep HB5.out) (by omega)).mono ?_
  rintro e w' ⟨rfl, rfl⟩
  have z1 : (permErr p != 0) = true := by simpa using HP.out
  have z2 : (permErr p == permErr p) = true := by simp
  generalize permErr p = er at *
  go_wp2
  go_ret
  exact ⟨rfl, HB5.out⟩

theorem risesSay_any (n k : Int) (A2 : Option Addr) (n2 c2 : Nat) (p : List Int) (w : World) (h2 : Ints w A2 n2 p) (hc : n2 ≤ c2) (hm0 : c2 ≤ maxLen) :
    Calls Try.prog 3 #[.int .i64 n, .int .i64 k, .slice A2 n2 c2] w fun e w' => e = .returned (.bool true) ∧ Below w.heap.size w w' := by
  unfold maxLen at hm0
  have hm : c2 ≤ 9223372036854775807 := by omega
  by_cases hp : permErr p = 0
  · by_cases h1 : n < 0
    · exact risesSay_AY A2 n2 c2 p n k w h2 hc hm h1 hp
    · by_cases h3 : 15 < n
      · exact risesSay_BY A2 n2 c2 p n k w h2 hc hm h3 hp
      · obtain ⟨n, rfl⟩ : ∃ x : Nat, n = x := ⟨n.toNat, by omega⟩
        by_cases h4 : k < 0
        · exact risesSay_CY A2 n2 c2 p n k w h2 hc hm (by omega) h4 hp
        · by_cases h5 : 15 < k
          · exact risesSay_DY A2 n2 c2 p n k w h2 hc hm (by omega) h5 hp
          · obtain ⟨k, rfl⟩ : ∃ x : Nat, k = x := ⟨k.toNat, by omega⟩
            exact risesSay_YY A2 n2 c2 p n k w h2 hc hm (by omega) (by omega) hp
  · by_cases h1 : n < 0
    · exact risesSay_AN A2 n2 c2 p n k w h2 hc hm h1 hp
    · by_cases h3 : 15 < n
      · exact risesSay_BN A2 n2 c2 p n k w h2 hc hm h3 hp
      · obtain ⟨n, rfl⟩ : ∃ x : Nat, n = x := ⟨n.toNat, by omega⟩
        by_cases h4 : k < 0
        · exact risesSay_CN A2 n2 c2 p n k w h2 hc hm (by omega) h4 hp
        · by_cases h5 : 15 < k
          · exact risesSay_DN A2 n2 c2 p n k w h2 hc hm (by omega) h5 hp
          · obtain ⟨k, rfl⟩ : ∃ x : Nat, k = x := ⟨k.toNat, by omega⟩
            exact risesSay_YN A2 n2 c2 p n k w h2 hc hm (by omega) (by omega) hp

end Go.Proofs.Ytcaenahhfhbiaaa
