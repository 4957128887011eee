/-
  castkeep.RisesWorpitzky, walked.
-/
import Derived.Test.YtcaenahhfhbiaaaRisA
import Derived.Test.YtcaenahhfhbiaaaSubA
import Derived.Test.YtcaenahhfhbiaaaRst
namespace Go.Proofs.Ytcaenahhfhbiaaa
open Go.RowKit

theorem pow_823543 {x i : Nat} (hx : x < 8) (hi : i ≤ 7) : x ^ i ≤ 823543 := by
  have h2 : x ^ i ≤ 7 ^ i := Nat.pow_le_pow_left (by omega) _
  have h3 : 7 ^ i ≤ 7 ^ 7 := Nat.pow_le_pow_right (by omega) hi
  have h4 : 7 ^ 7 = 823543 := by decide
  omega

set_option maxHeartbeats 2000000 in
set_option maxRecDepth 100000 in
theorem risesWorpitzky_any (X Y : Int) (w : World) :
    Calls Try.prog 6 #[.int .i64 X, .int .i64 Y] w fun e w' => e = .returned (.bool true) ∧ Below w.heap.size w w' := by
  have HB0 := hid (Below.refl w.heap.size w)
  go_enter Try.func6, Try.ntmps6
  go_wp2_with fail
  refine (risesLive_any _).mono ?_
  rintro e w1 ⟨rfl, hb⟩
  have HB1 := hid (below_step HB0.out (Nat.le_refl _) hb)
  clear hb HB0
  go_wp2_with fail
  refine (within_any _ _ _ (by omega) (by omega)).mono ?_
  rintro e w' ⟨rfl, rfl⟩
  obtain ⟨x, hx0⟩ : ∃ n : Nat, X % 8 = n := ⟨(X % 8).toNat, by omega⟩
  have hx : x < 8 := by omega
  rw [hx0]
  clear hx0
  go_wp2_with fail
  refine (within_any _ _ _ (by omega) (by omega)).mono ?_
  rintro e w' ⟨rfl, rfl⟩
  obtain ⟨n, hn0⟩ : ∃ n : Nat, Y % 7 = n := ⟨(Y % 7).toNat, by omega⟩
  have hn : n < 7 := by omega
  rw [hn0]
  clear hn0
  go_wp2_with fail
  go_loopg [5, 7, 8, 9, 10, 11, 20] (n + 1) (fun g a _ _ _ _ _ s wr => ∃ i : Nat, i ≤ n + 1 ∧ n + 1 - i ≤ g ∧ a = .int .i64 ((sumN (worT x (n + 1)) i : Nat) : Int) ∧ s = .int .i64 (i : Int) ∧ Below w.heap.size w wr)
  case atStart => exact ⟨0, by omega, by omega, rfl, rfl, HB1.out⟩
  case round =>
    obtain ⟨i, hi, hg, rfl, rfl, hbel⟩ := hrel
    have HB := hid hbel
    clear hbel HB1
    by_cases hlt : i < n + 1
    · have hltI : (i : Int) < 1 + (n : Int) := by omega
      go_wp2_with fail
      refine (rcount_ok _ _ (n + 1) i (by omega) rfl _ (by omega) (by omega)).mono ?_
      rintro e w2 ⟨rfl, hb⟩
      have HB2 := hid (below_step HB.out (Nat.le_refl _) hb)
      clear hb HB
      go_wp2_with fail
      refine (chooseF_of _ _ (x + (n + 1) - 1 - i) (n + 1) (by omega) (by omega) _ (by omega) (by omega)).mono ?_
      rintro e w' ⟨rfl, rfl⟩
      have HN1 : Hid (sumN (worT x (n + 1)) (i + 1) = sumN (worT x (n + 1)) i + worT x (n + 1) i) := rfl
      have b1 := worS_le hx hn (show i + 1 ≤ n + 1 by omega)
      rw [HN1.out] at b1
      have hq : ((eul (n + 1) i : Nat) : Int) * ((cho (x + (n + 1) - 1 - i) (n + 1) : Nat) : Int) = ((worT x (n + 1) i : Nat) : Int) := by
        rw [worT_eq, Int.natCast_mul]
      have q1 : 0 ≤ ((eul (n + 1) i : Nat) : Int) * ((cho (x + (n + 1) - 1 - i) (n + 1) : Nat) : Int) := by rw [hq]; omega
      have q2 : ((eul (n + 1) i : Nat) : Int) * ((cho (x + (n + 1) - 1 - i) (n + 1) : Nat) : Int) ≤ 823543 := by rw [hq]; omega
      have HQ := hid hq
      clear hq
      generalize cho (x + (n + 1) - 1 - i) (n + 1) = c at *
      generalize eul (n + 1) i = y at *
      generalize sumN (worT x (n + 1)) i = z at *
      go_wp2_with fail
      refine (good_bel _ _ _ 2 [0, 0] rfl rfl (by omega)).mono ?_
      rintro e w3 ⟨rfl, hb⟩
      have HB3 := hid (below_step HB2.out (Nat.le_refl _) hb)
      clear hb HB2
      rw [show allOK [0, 0] = true by decide]
      go_wp2
      go_roundg (n + 1 - (i + 1))
      case measure => omega
      case rel => exact ⟨i + 1, by omega, by omega, by rw [HN1.out, HQ.out]; go_num, by go_num, HB3.out⟩
    · have hin : i = n + 1 := by omega
      subst hin
      have hge : ¬ (((n + 1 : Nat) : Int) < 1 + (n : Int)) := by omega
      rw [wor_all hx hn]
      have hbz := pow_823543 hx (show n + 1 ≤ 7 by omega)
      obtain ⟨z, HZ⟩ : ∃ z, Hid (x ^ (n + 1) = z) := ⟨_, rfl⟩
      rw [HZ.out] at hbz ⊢
      go_wp2_with fail
      go_loopg [6, 52] (n + 1) (fun g a s wr' => ∃ i : Nat, i ≤ n + 1 ∧ n + 1 - i ≤ g ∧ a = .int .i64 ((x ^ i : Nat) : Int) ∧ s = .int .i64 (i : Int) ∧ wr' = wr)
      case atStart => exact ⟨0, by omega, by omega, rfl, rfl, rfl⟩
      case round =>
        obtain ⟨i, hi, hg, rfl, rfl, rfl⟩ := hrel
        by_cases hlt : i < n + 1
        · have hltI : (i : Int) < 1 + (n : Int) := by omega
          have HP : Hid (((x ^ (i + 1) : Nat) : Int) = ((x ^ i : Nat) : Int) * (x : Int)) := by
            show _ = _
            rw [Nat.pow_succ, Int.natCast_mul]
          have b1 := pow_823543 hx (show i ≤ 7 by omega)
          have b2 := pow_823543 hx (show i + 1 ≤ 7 by omega)
          have q1 : 0 ≤ ((x ^ i : Nat) : Int) * (x : Int) := by rw [← HP.out]; omega
          have q2 : ((x ^ i : Nat) : Int) * (x : Int) ≤ 823543 := by rw [← HP.out]; omega
          clear b2
          generalize x ^ i = y at *
          go_wp2
          go_roundg (n + 1 - (i + 1))
          case measure => omega
          case rel => exact ⟨i + 1, by omega, by omega, by rw [HP.out], by go_num, rfl⟩
        · have hin : i = n + 1 := by omega
          subst hin
          rw [HZ.out]
          go_wp2
          go_ret
          exact ⟨rfl, HB.out⟩
end Go.Proofs.Ytcaenahhfhbiaaa
