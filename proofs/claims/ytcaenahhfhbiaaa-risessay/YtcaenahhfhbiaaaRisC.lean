/-
  castref.FallsOf.
-/
import Derived.Test.YtcaenahhfhbiaaaRisM
import Derived.Test.YtcaenahhfhbiaaaChoR
import Derived.Test.YtcaenahhfhbiaaaLit
namespace Go.Proofs.Ytcaenahhfhbiaaa
open Go.RowKit

theorem refChoose_of (N K : Int) (n k : Nat) (hN : N = n) (hK : K = k) (w : World) (hn : n ≤ 16) :
    Calls Try.prog 33 #[.int .i64 N, .int .i64 K] w fun e w' => e = .returned (.int .i64 ((cho n k : Nat) : Int)) ∧ Below w.heap.size w w' := by
  subst hN
  subst hK
  exact refChoose_any n k w hn

theorem fallS_odd {n k j : Nat} (h : j % 2 = 1) : fallS n k (j + 1) = fallS n k j + -(fallP n k j n : Int) := by rw [fallS, if_pos h]
theorem fallS_even {n k j : Nat} (h : ¬ j % 2 = 1) : fallS n k (j + 1) = fallS n k j + (fallP n k j n : Int) := by rw [fallS, if_neg h]

theorem fallsOf_none (k : Nat) (w : World) (hk : k ≤ 15) :
    Calls Try.prog 13 #[.int .i64 0, .int .i64 (k : Int)] w fun e w' => e = .returned (.int .i64 ((eul 0 k : Nat) : Int)) ∧ Below w.heap.size w w' := by
  have HB0 := hid (Below.refl w.heap.size w)
  by_cases h0 : k = 0
  · subst h0
    go_enter Try.func13, Try.ntmps13
    go_wp2
    go_ret
    exact ⟨rfl, HB0.out⟩
  · have hz : ((k : Int) == 0) = false := by simp; omega
    rw [eul_over (n := 0) (k := k) (by omega) (by omega) (by omega) (by omega)]
    go_enter Try.func13, Try.ntmps13
    go_wp2
    go_ret
    exact ⟨rfl, HB0.out⟩
theorem fallsOf_over (n k : Nat) (w : World) (hn : n ≤ 15) (hk : k ≤ 15) (h0 : 0 < n) (hkn : n ≤ k) :
    Calls Try.prog 13 #[.int .i64 (n : Int), .int .i64 (k : Int)] w fun e w' => e = .returned (.int .i64 ((eul n k : Nat) : Int)) ∧ Below w.heap.size w w' := by
  have HB0 := hid (Below.refl w.heap.size w)
  have hz : ((n : Int) == 0) = false := by simp; omega
  have hge : decide ((n : Int) ≤ (k : Int)) = true := decide_eq_true (by omega)
  have hge2 : decide (n ≤ k) = true := decide_eq_true (by omega)
  rw [eul_over (n := n) (k := k) (by omega) (by omega) (by omega) (by omega)]
  go_enter Try.func13, Try.ntmps13
  go_wp2
  go_ret
  exact ⟨rfl, HB0.out⟩
set_option maxHeartbeats 1600000 in
set_option maxRecDepth 100000 in
theorem fallsOf_less (n k : Nat) (w : World) (hn : n ≤ 15) (hkn : k < n) :
    Calls Try.prog 13 #[.int .i64 (n : Int), .int .i64 (k : Int)] w fun e w' => e = .returned (.int .i64 ((eul n k : Nat) : Int)) ∧ Below w.heap.size w w' := by
  have HB0 := hid (Below.refl w.heap.size w)
  have hz : ((n : Int) == 0) = false := by simp; omega
  have hge : decide ((n : Int) ≤ (k : Int)) = false := decide_eq_false (by omega)
  have hge2 : decide (n ≤ k) = false := decide_eq_false (by omega)
  go_enter Try.func13, Try.ntmps13
  go_wp2_with fail
  go_loopg [5, 6, 7, 17] (k + 1) (fun g a _ _ s wr => ∃ j : Nat, j ≤ k + 1 ∧ k + 1 - j ≤ g ∧ a = .int .i64 (fallS n k j) ∧ s = .int .i64 (j : Int) ∧ Below w.heap.size w wr)
  case atStart => exact ⟨0, by omega, by omega, rfl, rfl, HB0.out⟩
  case round =>
    obtain ⟨j, hj, hg, rfl, rfl, hbel⟩ := hrel
    have HB := hid hbel
    clear hbel HB0
    by_cases hlt : j < k + 1
    · have hltI : (j : Int) < (k : Int) + 1 := by omega
      go_wp2_with fail
      refine (refChoose_of _ _ (n + 1) j (by omega) rfl _ (by omega)).mono ?_
      rintro e w2 ⟨rfl, hb⟩
      have HB2 := hid (below_step HB.out (Nat.le_refl _) hb)
      clear hb HB
      rw [← fallP_zero n k j]
      obtain ⟨S, HS⟩ : ∃ S, Hid (fallS n k j = S) := ⟨_, rfl⟩
      rw [HS.out]
      go_wp2_with fail
      go_loopg [7, 25] n (fun g a s wr => ∃ m : Nat, m ≤ n ∧ n - m ≤ g ∧ a = .int .i64 ((fallP n k j m : Nat) : Int) ∧ s = .int .i64 (m : Int) ∧ wr = w2)
      case atStart => exact ⟨0, by omega, by omega, rfl, rfl, rfl⟩
      case round =>
        obtain ⟨m, hm, hg, rfl, rfl, rfl⟩ := hrel
        by_cases hml : m < n
        · have HP : Hid (((fallP n k j (m + 1) : Nat) : Int) = ((fallP n k j m : Nat) : Int) * ((k : Int) + 1 - (j : Int))) := by
            show _ = _
            rw [fallP_succ, Int.natCast_mul]
            congr 1
            omega
          have b1 := fallP_le (m := m) (show n < 16 by omega) hkn (show j ≤ k by omega) hm
          have b2 := fallP_le (m := m + 1) (show n < 16 by omega) hkn (show j ≤ k by omega) (by omega)
          have q1 : 0 ≤ ((fallP n k j m : Nat) : Int) * ((k : Int) + 1 - (j : Int)) := by rw [← HP.out]; omega
          have q2 : ((fallP n k j m : Nat) : Int) * ((k : Int) + 1 - (j : Int)) ≤ 9223372036854775807 := by rw [← HP.out]; omega
          clear b2
          generalize fallP n k j m = y at *
          go_wp2
          go_roundg (n - (m + 1))
          case measure => omega
          case rel => exact ⟨m + 1, by omega, by omega, by rw [HP.out], by go_num, rfl⟩
        · have hmn : m = n := by omega
          subst hmn
          have HO := hid (fallS_odd (n := m) (k := k) (j := j))
          have HE := hid (fallS_even (n := m) (k := k) (j := j))
          rw [HS.out] at HO HE
          have s1 := fallS_bd (n := m) (k := k) (j := j) (by omega) (by omega) (by omega) hkn (by omega)
          have s2 := fallS_bd (n := m) (k := k) (j := j + 1) (by omega) (by omega) (by omega) hkn (by omega)
          rw [HS.out] at s1
          have p1 := fallP_le (m := m) (show m < 16 by omega) hkn (show j ≤ k by omega) (Nat.le_refl _)
          by_cases ho : j % 2 = 1
          · have HT := hid (HO.out ho)
            rw [HT.out] at s2
            have hoI : (((j : Int) % 2) == 1) = true := by simp; omega
            clear HO HE HS
            generalize fallP m k j m = y at *
            go_wp2
            go_roundg (k + 1 - (j + 1))
            case measure => omega
            case rel => exact ⟨j + 1, by omega, by omega, by rw [HT.out], by go_num, HB2.out⟩
          · have HT := hid (HE.out ho)
            rw [HT.out] at s2
            have hoI : (((j : Int) % 2) == 1) = false := by simp; omega
            clear HO HE HS
            generalize fallP m k j m = y at *
            go_wp2
            go_roundg (k + 1 - (j + 1))
            case measure => omega
            case rel => exact ⟨j + 1, by omega, by omega, by rw [HT.out], by go_num, HB2.out⟩
    · have hjk : j = k + 1 := by omega
      subst hjk
      rw [fallS_eul (by omega) hkn]
      go_wp2
      go_ret
      exact ⟨rfl, HB.out⟩
theorem fallsOf_any (n k : Nat) (w : World) (hn : n ≤ 15) (hk : k ≤ 15) :
    Calls Try.prog 13 #[.int .i64 (n : Int), .int .i64 (k : Int)] w fun e w' => e = .returned (.int .i64 ((eul n k : Nat) : Int)) ∧ Below w.heap.size w w' := by
  rcases Nat.eq_zero_or_pos n with h0 | h0
  · subst h0
    exact fallsOf_none k w hk
  · rcases Nat.lt_or_ge k n with h | h
    · exact fallsOf_less n k w hn h
    · exact fallsOf_over n k w hn hk h0 h

end Go.Proofs.Ytcaenahhfhbiaaa
