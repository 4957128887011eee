/-
  The verifier's castref.AllHeaps, castref.HeapsOf.
-/
import Derived.Test.YtigfhpffghajaaaBlkS
import Derived.Test.YtigfhpffghajaaaChoR
import Derived.Test.YtigfhpffghajaaaLit
namespace Go.Proofs.Ytigfhpffghajaaa
open Go.RowKit

theorem refChoose_of (N K : Int) (n k : Nat) (hN : N = n) (hK : K = k) (w : World) (hn : n ≤ 16) :
    Calls Try.prog 31 #[.int .i64 N, .int .i64 K] w fun e w' => e = .returned (.int .i64 ((cho n k : Nat) : Int)) ∧ Below w.heap.size w w' := by
  subst hN
  subst hK
  exact refChoose_any n k w hn

/-- Up to there. -/
def AllTo (m : Nat) : Prop := ∀ k, k < m → k ≤ 10 → ∀ w : World, Calls Try.prog 13 #[.int .i64 (k : Int)] w fun e w' => e = .returned (.int .i64 ((bell k : Nat) : Int)) ∧ Below w.heap.size w w'

set_option maxHeartbeats 1600000 in
theorem allHeaps_step (n : Nat) (w : World) (hn : n ≤ 10) (ih : AllTo n) :
    Calls Try.prog 13 #[.int .i64 (n : Int)] w fun e w' => e = .returned (.int .i64 ((bell n : Nat) : Int)) ∧ Below w.heap.size w w' := by
  have IH := hid ih
  clear ih
  cases n with
  | zero =>
    have HE := hid (show bell 0 = 1 by decide)
    go_enter Try.func13, Try.ntmps13
    go_wp2
    go_ret
    exact ⟨ret_int (by rw [HE.out]; rfl), Below.refl _ _⟩
  | succ n =>
    have HS := hid (bell_next (n := n) (by omega))
    have HF : Hid (∀ j, j ≤ n + 1 → sumN (fun k => cho n k * bell k) j ≤ 115975) := fun j hj => by have h1 := sumN_mono (fun k => cho n k * bell k) hj; rw [HS.out] at h1; exact Nat.le_trans h1 (bell_le hn)
    have hne : ((n : Int) + 1 == 0) = false := by simp; omega
    go_enter Try.func13, Try.ntmps13
    go_wp2_with fail
    clear hne
    go_loopg [3, 8] (n + 1) (fun g v s wr => ∃ j : Nat, j ≤ n + 1 ∧ n + 1 - j ≤ g ∧ v = .int .i64 ((sumN (fun k => cho n k * bell k) j : Nat) : Int) ∧ s = .int .i64 j ∧ Below w.heap.size w wr)
    case atStart => exact ⟨0, by omega, by omega, rfl, rfl, Below.refl _ _⟩
    case round =>
      obtain ⟨j, hj, hg, rfl, rfl, hbel⟩ := hrel
      have HB := hid hbel
      clear hbel
      by_cases hlt : j < n + 1
      · have hs1 : sumN (fun k => cho n k * bell k) j ≤ 115975 := HF.out j hj
        have hs2 : sumN (fun k => cho n k * bell k) j + cho n j * bell j ≤ 115975 := HF.out (j + 1) hlt
        have HN : Hid (sumN (fun k => cho n k * bell k) (j + 1) = sumN (fun k => cho n k * bell k) j + cho n j * bell j) := rfl
        have hltI : (j : Int) < (n : Int) + 1 := by omega
        go_wp2_with fail
        refine (refChoose_of _ _ n j (by omega) rfl _ (by omega)).mono ?_
        rintro e w1 ⟨rfl, hb1⟩
        have HB1 := hid (below_step HB.out (Nat.le_refl _) hb1)
        clear hb1
        go_wp2_with fail
        refine (IH.out j hlt (by omega) _).mono ?_
        rintro e w2 ⟨rfl, hb2⟩
        have HB2 := hid (below_step HB1.out (Nat.le_refl _) hb2)
        clear hb2 HB1
        have hm1 : ((cho n j : Nat) : Int) * ((bell j : Nat) : Int) = ((cho n j * bell j : Nat) : Int) := (Int.natCast_mul _ _).symm
        have hm2 : 0 ≤ ((cho n j : Nat) : Int) * ((bell j : Nat) : Int) := by omega
        have hm3 : ((cho n j : Nat) : Int) * ((bell j : Nat) : Int) ≤ 115975 := by omega
        have HM := hid hm1
        clear hm1 hs2
        generalize bell j = X at *
        generalize cho n j = Y at *
        generalize sumN (fun k => cho n k * bell k) j = Z at *
        go_wp2
        go_roundg (n + 1 - (j + 1))
        case measure => omega
        case rel => exact ⟨j + 1, by omega, by omega, by rw [HN.out, Int.natCast_add, ← HM.out], by go_num, HB2.out⟩
      · have hjn : j = n + 1 := by omega
        subst hjn
        rw [HS.out]
        have hge : ¬ ((n + 1 : Nat) : Int) < (n : Int) + 1 := by omega
        go_wp2
        go_ret
        exact ⟨rfl, HB.out⟩

theorem allTo : ∀ m, AllTo m := by
  intro m
  induction m with
  | zero => exact fun k hk => absurd hk (Nat.not_lt_zero _)
  | succ m ih =>
    intro k hk hk10 w
    exact allHeaps_step k w hk10 (fun i hi hi10 w' => ih i (by omega) hi10 w')
theorem allHeaps_any (n : Nat) (w : World) (hn : n ≤ 10) :
    Calls Try.prog 13 #[.int .i64 (n : Int)] w fun e w' => e = .returned (.int .i64 ((bell n : Nat) : Int)) ∧ Below w.heap.size w w' := allTo (n + 1) n (by omega) hn w

theorem hterm_odd {n k j : Nat} (h : (k - j) % 2 = 1) : hterm n k j = -((cho k j * j ^ n : Nat) : Int) := if_pos h
theorem hterm_even {n k j : Nat} (h : (k - j) % 2 ≠ 1) : hterm n k j = ((cho k j * j ^ n : Nat) : Int) := if_neg h

set_option maxHeartbeats 1600000 in
theorem heapsOf_any (n k : Nat) (w : World) (hn : n ≤ 10) (hk : k ≤ 10) :
    Calls Try.prog 14 #[.int .i64 (n : Int), .int .i64 (k : Int)] w fun e w' => e = .returned (.int .i64 ((stir n k : Nat) : Int)) ∧ Below w.heap.size w w' := by
  go_enter Try.func14, Try.ntmps14
  go_wp2_with fail
  go_loopg [5, 10] (k + 1) (fun g v s wr => ∃ j : Nat, j ≤ k + 1 ∧ k + 1 - j ≤ g ∧ v = .int .i64 (hs n k j) ∧ s = .int .i64 j ∧ Below w.heap.size w wr)
  case atStart => exact ⟨0, by omega, by omega, rfl, rfl, Below.refl _ _⟩
  case round =>
    obtain ⟨j, hj, hg, rfl, rfl, hbel⟩ := hrel
    have HB := hid hbel
    clear hbel
    by_cases hlt : j < k + 1
    · have hltI : (j : Int) < (k : Int) + 1 := by omega
      have hbd := hs_bd hn hk (j := j) (by omega)
      have hb1 := hbd.1
      have hb2 := hbd.2
      clear hbd
      have HN : Hid (hs n k (j + 1) = hs n k j + hterm n k j) := rfl
      generalize hs n k j = S at *
      go_wp2_with fail
      refine (refChoose_of _ _ k j rfl rfl _ (by omega)).mono ?_
      rintro e w1 ⟨rfl, hb⟩
      have HB1 := hid (below_step HB.out (Nat.le_refl _) hb)
      clear hb
      go_wp2_with fail
      go_loopg [7, 17] n (fun g v s wq => ∃ m : Nat, m ≤ n ∧ n - m ≤ g ∧ v = .int .i64 ((cho k j * j ^ m : Nat) : Int) ∧ s = .int .i64 m ∧ w1 = wq)
      case atStart => exact ⟨0, by omega, by omega, by rw [Nat.pow_zero, Nat.mul_one], rfl, rfl⟩
      case round =>
        obtain ⟨m, hm, hgm, rfl, rfl, rfl⟩ := hrel
        by_cases hmn : m < n
        · have hp1 := hprod_le (m := m) hn hk (show j ≤ 10 by omega) hm
          have hp2 := hprod_le (m := m + 1) hn hk (show j ≤ 10 by omega) hmn
          have HM : Hid (((cho k j * j ^ (m + 1) : Nat) : Int) = ((cho k j * j ^ m : Nat) : Int) * (j : Int)) := by rw [Nat.pow_succ, ← Nat.mul_assoc, Int.natCast_mul]; exact rfl
          have hq1 : ((cho k j * j ^ m : Nat) : Int) * (j : Int) ≤ 655360000000000 := by rw [← HM.out]; omega
          have hq0 : 0 ≤ ((cho k j * j ^ m : Nat) : Int) * (j : Int) := by rw [← HM.out]; omega
          generalize hX : cho k j * j ^ (m + 1) = X at *
          have HX := hid hX
          clear hX hp2
          generalize cho k j * j ^ m = Y at *
          go_wp2
          go_roundg (n - (m + 1))
          case measure => omega
          case rel => exact ⟨m + 1, by omega, by omega, by rw [HX.out, HM.out], by go_num, rfl⟩
        · have hmn2 : m = n := by omega
          subst hmn2
          have hp1 := hprod_le (m := m) hn hk (show j ≤ 10 by omega) (Nat.le_refl _)
          by_cases hodd : (k - j) % 2 = 1
          · have HT := hid (hterm_odd (n := m) hodd)
            generalize cho k j * j ^ m = Y at *
            have ho : ((k : Int) - (j : Int)).tmod 2 = 1 := by rw [Int.tmod_eq_emod_of_nonneg (by omega)]; omega
            clear hodd
            go_wp2
            go_roundg (k + 1 - (j + 1))
            case measure => omega
            case rel => exact ⟨j + 1, by omega, by omega, by rw [HN.out, HT.out], by go_num, HB1.out⟩
          · have HT := hid (hterm_even (n := m) hodd)
            generalize cho k j * j ^ m = Y at *
            have ho : ((k : Int) - (j : Int)).tmod 2 = 0 := by rw [Int.tmod_eq_emod_of_nonneg (by omega)]; omega
            clear hodd
            go_wp2
            go_roundg (k + 1 - (j + 1))
            case measure => omega
            case rel => exact ⟨j + 1, by omega, by omega, by rw [HN.out, HT.out], by go_num, HB1.out⟩
    · have hjk : j = k + 1 := by omega
      subst hjk
      have hge : ¬ ((k + 1 : Nat) : Int) < (k : Int) + 1 := by omega
      have HE := hid (hs_stir hn hk)
      have hp := hs_pos hn hk
      have hb2 := (hs_bd hn hk (j := k + 1) (by omega)).2
      have hf := fact_ten hk
      have hf1 := fact_pos k
      have hst := stir_le hn hk
      go_wp2_with fail
      refine (factorial_ok k _ hk).mono ?_
      rintro e w' ⟨rfl, rfl⟩
      generalize hs n k (k + 1) = S at *
      generalize fact k = F at *
      generalize hT : stir n k = T at *
      have HT := hid hT
      clear hT
      have hF0 : ((F : Int) == 0) = false := by simp; omega
      have hw : IntKind.i64.wrap (S.tdiv (F : Int)) = S.tdiv (F : Int) := by rw [HE.out]; exact IntWalk.i64_in _ (by omega)
      go_wp2
      go_ret
      exact ⟨ret_int (by rw [HE.out, HT.out]), HB.out⟩

end Go.Proofs.Ytigfhpffghajaaa
