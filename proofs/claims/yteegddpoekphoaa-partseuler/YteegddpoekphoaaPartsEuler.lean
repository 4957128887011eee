/-
  castkeep.PartsEuler.
-/
import Derived.Test.YteegddpoekphoaaPartO
import Derived.Test.YteegddpoekphoaaPartE
import Derived.Deep.CutBlock
import Derived.Deep.DeepCutAuto
namespace Go.Proofs.Yteegddpoekphoaa
open Go.RowKit

theorem count_of (N M : Int) (n m : Nat) (hN : N = n) (hM : M = m) (w : World) (hn : n ≤ 40) (hm : m ≤ 40) :
    Calls Try.prog 12 #[.int .i64 N, .int .i64 M] w fun e w' => e = .returned (.tuple #[.int .i64 ((pcnt m n : Nat) : Int), .int .i64 0]) ∧ Below w.heap.size w w' := by
  subst hN
  subst hM
  exact count_any n m w hn hm
/-- What a pair of five-sided numbers adds, of which j are done. -/
def pairDone (s t1 t2 : Int) (j : Nat) : Int := if j = 0 then 0 else if j = 1 then s * t1 else s * t1 + s * t2

set_option maxHeartbeats 4000000 in
set_option maxRecDepth 100000 in
theorem partsEuler_any (K1 K2 : Int) (w : World) : Calls Try.prog 4 #[.int .i64 K1, .int .i64 K2] w fun e w' => e = .returned (.bool true) ∧ Below w.heap.size w w' := by
  go_enter Try.func4, Try.ntmps4
  go_wp2_with fail
  refine (partsLive_any _).mono ?_
  rintro e w1 ⟨rfl, hb⟩
  have HB1 := hid hb
  clear hb
  go_wp2_with fail
  refine (within_any K1 40 _ (by omega) (by omega)).mono ?_
  rintro e w' ⟨rfl, rfl⟩
  have hk1 := Int.emod_nonneg K1 (show (40 : Int) ≠ 0 by omega)
  have hk2 := Int.emod_lt_of_pos K1 (show (0 : Int) < 40 by omega)
  generalize K1 % 40 = N1 at hk1 hk2 ⊢
  obtain ⟨n, rfl⟩ := Int.eq_ofNat_of_zero_le hk1
  have hn : n ≤ 39 := by omega
  clear hk1 hk2
  go_wp2_with fail
  refine (within_any K2 40 _ (by omega) (by omega)).mono ?_
  rintro e w' ⟨rfl, rfl⟩
  have hk1 := Int.emod_nonneg K2 (show (40 : Int) ≠ 0 by omega)
  have hk2 := Int.emod_lt_of_pos K2 (show (0 : Int) < 40 by omega)
  generalize K2 % 40 = N1 at hk1 hk2 ⊢
  obtain ⟨k, rfl⟩ := Int.eq_ofNat_of_zero_le hk1
  have hk : k ≤ 39 := by omega
  clear hk1 hk2
  go_wp2_with fail
  refine (count_of _ _ (n + 1) (k + 1) (by omega) (by omega) _ (by omega) (by omega)).mono ?_
  rintro e w2 ⟨rfl, hb⟩
  have HB2 := hid (below_step HB1.out (Nat.le_refl _) hb)
  clear hb HB1
  go_wp2_with fail
  refine (count_of _ _ (n + 1) k (by omega) (by omega) _ (by omega) (by omega)).mono ?_
  rintro e w3 ⟨rfl, hb⟩
  have HB3 := hid (below_step HB2.out (Nat.le_refl _) hb)
  clear hb HB2
  have hb1 := pcnt_le (m := k) (s := n + 1) (by omega) (by omega)
  have hc0 : pcnt (k + 1) (n + 1) = pcnt k (n + 1) + (if k ≤ n then pcnt (k + 1) (n - k) else 0) := by
    by_cases h : k ≤ n
    · rw [if_pos h, pcnt_ge (by omega), show n + 1 - (k + 1) = n - k by omega]
    · rw [if_neg h, pcnt_lt (by omega)]
      rfl
  have hb2 : (if k ≤ n then pcnt (k + 1) (n - k) else 0) ≤ 37338 := by
    split
    · exact pcnt_le (by omega) (by omega)
    · omega
  have HC := hid hc0
  clear hc0
  generalize hcc : (if k ≤ n then pcnt (k + 1) (n - k) else 0) = cc at *
  have HCC := hid hcc
  clear hcc
  go_upto_if 43 with fail
  go_cut [9] (fun s wr => s = .int .i64 (cc : Int) ∧ Below w.heap.size w wr)
  case first =>
    by_cases hlt : k ≤ n
    · go_wp2_with fail
      refine (count_of _ _ (n - k) (k + 1) (by omega) (by omega) _ (by omega) (by omega)).mono ?_
      rintro e w4 ⟨rfl, hb⟩
      have HB4 := hid (below_step HB3.out (Nat.le_refl _) hb)
      clear hb HB3
      rw [show pcnt (k + 1) (n - k) = cc by rw [← HCC.out, if_pos hlt]]
      go_wp2
      go_meet
      exact ⟨rfl, HB4.out⟩
    · go_wp2
      go_meet
      exact ⟨by rw [← HCC.out, if_neg hlt]; rfl, HB3.out⟩
  case rest =>
    obtain ⟨rfl, hb⟩ := hcut
    have HB4 := hid hb
    clear hb HB3
    have hab : (((pcnt (k + 1) (n + 1) : Nat) : Int) != ((pcnt k (n + 1) : Nat) : Int) + (cc : Int)) = false := by rw [HC.out]; simp
    generalize pcnt (k + 1) (n + 1) = pa at *
    generalize pcnt k (n + 1) = pb at *
    go_wp2_with fail
    refine (good_bel _ _ _ 2 [0, 0] rfl rfl (by omega)).mono ?_
    rintro e w5 ⟨rfl, hb⟩
    have HB5 := hid (below_step HB4.out (Nat.le_refl _) hb)
    clear hb HB4
    rw [show allOK [0, 0] = true by decide]
    go_wp2_with fail
    refine (count_of _ _ (n + 1) (n + 1) (by omega) (by omega) _ (by omega) (by omega)).mono ?_
    rintro e w6 ⟨rfl, hb⟩
    have HB6 := hid (below_step HB5.out (Nat.le_refl _) hb)
    clear hb HB5 hab HC HCC hb1 hb2 hk
    obtain ⟨N, hN⟩ : ∃ N, N = n + 1 := ⟨_, rfl⟩
    have hNi : (1 : Int) + (n : Int) = (N : Int) := by omega
    rw [← hN, hNi]
    have hN0 : 0 < N := by omega
    have hN1 : N ≤ 40 := by omega
    clear hNi hN hn
    have HE := hid (fun i (hi : i ≤ 5) (h : N < (i + 1) * (3 * i + 2) / 2) => five_all hN0 hN1 hi h)
    generalize pcnt N N = all at *
    go_wp2_with fail
    go_loopg [14, 15] 6 (fun g s t wr => ∃ (i : Nat) (S : Int), i ≤ 5 ∧ 5 - i < g ∧ s = .int .i64 S ∧ t = .int .i64 ((i : Int) + 1) ∧ S = fiveSum (fun m => pcnt m m) N i ∧ -75000 * (i : Int) ≤ S ∧ S ≤ 75000 * (i : Int) ∧ Below w.heap.size w wr)
    case atStart => exact ⟨0, 0, by omega, by omega, rfl, rfl, rfl, by omega, by omega, HB6.out⟩
    case round =>
      obtain ⟨i, S, hi, hg, rfl, rfl, hS, hS1, hS2, hb⟩ := hrel
      have HB := hid hb
      have HS := hid hS
      clear hb hS HB6
      rcases (show i = 0 ∨ i = 1 ∨ i = 2 ∨ i = 3 ∨ i = 4 ∨ i = 5 by omega) with rfl | rfl | rfl | rfl | rfl | rfl
      · by_cases hnp : N < 1
        · have hnp2 : ¬ (1 : Int) ≤ (N : Int) := by omega
          have HF := hid (HE.out 0 (by omega) (by omega))
          rw [← HS.out] at HF
          have HF2 := HF.out
          subst HF2
          go_wp2
          go_ret
          exact ⟨rfl, HB.out⟩
        · have hnp2 : (1 : Int) ≤ (N : Int) := by omega
          have HG : Hid (fiveSum (fun m => pcnt m m) N 1 = S + fiveTerm (fun m => pcnt m m) N 1 + fiveTerm (fun m => pcnt m m) N 2) := by
            rw [HS.out]
            rfl
          clear HS
          go_wp2_with fail
          have HX : Hid (Ints (wr.alloc (.cells #[.int .i64 1, .int .i64 2] 3)) (some ⟨wr.heap.size, 0, none⟩) 2 [1, 2]) := ints_lit wr _ _ 2 [1, 2] rfl rfl
          have HBA := hid (below_step HB.out (Nat.le_refl _) (below_alloc wr (.cells #[.int .i64 1, .int .i64 2] 3)))
          obtain ⟨B, hB⟩ : ∃ B, B = wr.heap.size := ⟨_, rfl⟩
          obtain ⟨w8, hw8⟩ : ∃ w8, w8 = wr.alloc (.cells #[.int .i64 1, .int .i64 2] 3) := ⟨_, rfl⟩
          rw [← hw8, ← hB] at HX
          rw [← hw8] at HBA
          rw [← hw8, ← hB]
          clear hw8 hB HB
          go_loopg [14, 97] 3 (fun g s t wr => ∃ (j : Nat) (S2 : Int), j ≤ 2 ∧ 2 - j < g ∧ s = .int .i64 S2 ∧ t = .int .i64 (j : Int) ∧ S2 = S + pairDone (1) (fiveTerm (fun m => pcnt m m) N 1) (fiveTerm (fun m => pcnt m m) N 2) j ∧ -37338 * (j : Int) ≤ S2 - S ∧ S2 - S ≤ 37338 * (j : Int) ∧ Ints wr (some ⟨B, 0, none⟩) 2 [1, 2] ∧ Below w.heap.size w wr)
          case atStart => exact ⟨0, S, by omega, by omega, rfl, rfl, by simp [pairDone], by omega, by omega, HX.out, HBA.out⟩
          case round =>
            obtain ⟨j, S2, hj, hg2, rfl, rfl, hS2e, hSa, hSb, hI, hb⟩ := hrel
            have HB2 := hid hb
            have HI2 := hid hI
            have HS2 := hid hS2e
            clear hb hI hS2e HX HBA
            rcases (show j = 0 ∨ j = 1 ∨ j = 2 by omega) with rfl | rfl | rfl
            · have g1 : wr.cell? ⟨B, 0, none⟩ = some (.int .i64 1) := by
                obtain ⟨b, o, e, _, hc⟩ := HI2.out.row (by omega)
                injection e with e
                injection e with e1 e2
                subst e1
                subst e2
                exact hc 0 (by omega)
              by_cases hlt : N < 1
              · have hlt2 : (N : Int) < 1 := by omega
                go_wp2
                go_roundg (2 - 0)
                case measure => omega
                case rel =>
                  refine ⟨1, S2, by omega, by omega, rfl, by go_num, ?_, by omega, by omega, HI2.out, HB2.out⟩
                  rw [HS2.out]
                  simp [pairDone, fiveTerm_neg hlt]
              · have hlt2 : ¬ (N : Int) < 1 := by omega
                obtain ⟨m, hm⟩ : ∃ m, N = m + 1 := ⟨N - 1, by omega⟩
                have hmi : (N : Int) - 1 = (m : Int) := by omega
                have hm40 : m ≤ 40 := by omega
                have HM := hid (fiveTerm_pos hm)
                clear hm
                have HMI := hid hmi
                clear hmi
                go_wp2_with fail
                refine (count_of _ _ m m HMI.out HMI.out _ hm40 hm40).mono ?_
                rintro e w9 ⟨rfl, hb⟩
                have HB3 := hid (below_step HB2.out (Nat.le_refl _) hb)
                have HI3 := hid (HI2.out.keep hb)
                have hx := pcnt_le hm40 hm40
                clear hb
                generalize pcnt m m = x at *
                go_wp2
                go_roundg (2 - 0)
                case measure => omega
                case rel =>
                  refine ⟨1, S2 + (x : Int), by omega, by omega, by go_num, by go_num, ?_, by omega, by omega, HI3.out, HB3.out⟩
                  rw [HS2.out]
                  simp [pairDone, HM.out]
                  try omega
            · have g1 : wr.cell? ⟨B, 1, none⟩ = some (.int .i64 2) := by
                obtain ⟨b, o, e, _, hc⟩ := HI2.out.row (by omega)
                injection e with e
                injection e with e1 e2
                subst e1
                subst e2
                exact hc 1 (by omega)
              by_cases hlt : N < 2
              · have hlt2 : (N : Int) < 2 := by omega
                go_wp2
                go_roundg (2 - 1)
                case measure => omega
                case rel =>
                  refine ⟨2, S2, by omega, by omega, rfl, by go_num, ?_, by omega, by omega, HI2.out, HB2.out⟩
                  rw [HS2.out]
                  simp [pairDone, fiveTerm_neg hlt]
              · have hlt2 : ¬ (N : Int) < 2 := by omega
                obtain ⟨m, hm⟩ : ∃ m, N = m + 2 := ⟨N - 2, by omega⟩
                have hmi : (N : Int) - 2 = (m : Int) := by omega
                have hm40 : m ≤ 40 := by omega
                have HM := hid (fiveTerm_pos hm)
                clear hm
                have HMI := hid hmi
                clear hmi
                go_wp2_with fail
                refine (count_of _ _ m m HMI.out HMI.out _ hm40 hm40).mono ?_
                rintro e w9 ⟨rfl, hb⟩
                have HB3 := hid (below_step HB2.out (Nat.le_refl _) hb)
                have HI3 := hid (HI2.out.keep hb)
                have hx := pcnt_le hm40 hm40
                clear hb
                generalize pcnt m m = x at *
                go_wp2
                go_roundg (2 - 1)
                case measure => omega
                case rel =>
                  refine ⟨2, S2 + (x : Int), by omega, by omega, by go_num, by go_num, ?_, by omega, by omega, HI3.out, HB3.out⟩
                  rw [HS2.out]
                  simp [pairDone, HM.out]
                  try omega
            · go_wp2
              go_roundg (5 - 0)
              case measure => omega
              case rel =>
                refine ⟨1, S2, by omega, by omega, rfl, by go_num, ?_, by omega, by omega, HB2.out⟩
                rw [HG.out, HS2.out]
                simp [pairDone]
                try omega
      · by_cases hnp : N < 5
        · have hnp2 : ¬ (5 : Int) ≤ (N : Int) := by omega
          have HF := hid (HE.out 1 (by omega) (by omega))
          rw [← HS.out] at HF
          have HF2 := HF.out
          subst HF2
          go_wp2
          go_ret
          exact ⟨rfl, HB.out⟩
        · have hnp2 : (5 : Int) ≤ (N : Int) := by omega
          have HG : Hid (fiveSum (fun m => pcnt m m) N 2 = S - fiveTerm (fun m => pcnt m m) N 5 - fiveTerm (fun m => pcnt m m) N 7) := by
            rw [HS.out]
            rfl
          clear HS
          go_wp2_with fail
          have HX : Hid (Ints (wr.alloc (.cells #[.int .i64 5, .int .i64 7] 3)) (some ⟨wr.heap.size, 0, none⟩) 2 [5, 7]) := ints_lit wr _ _ 2 [5, 7] rfl rfl
          have HBA := hid (below_step HB.out (Nat.le_refl _) (below_alloc wr (.cells #[.int .i64 5, .int .i64 7] 3)))
          obtain ⟨B, hB⟩ : ∃ B, B = wr.heap.size := ⟨_, rfl⟩
          obtain ⟨w8, hw8⟩ : ∃ w8, w8 = wr.alloc (.cells #[.int .i64 5, .int .i64 7] 3) := ⟨_, rfl⟩
          rw [← hw8, ← hB] at HX
          rw [← hw8] at HBA
          rw [← hw8, ← hB]
          clear hw8 hB HB
          go_loopg [14, 97] 3 (fun g s t wr => ∃ (j : Nat) (S2 : Int), j ≤ 2 ∧ 2 - j < g ∧ s = .int .i64 S2 ∧ t = .int .i64 (j : Int) ∧ S2 = S + pairDone (-1) (fiveTerm (fun m => pcnt m m) N 5) (fiveTerm (fun m => pcnt m m) N 7) j ∧ -37338 * (j : Int) ≤ S2 - S ∧ S2 - S ≤ 37338 * (j : Int) ∧ Ints wr (some ⟨B, 0, none⟩) 2 [5, 7] ∧ Below w.heap.size w wr)
          case atStart => exact ⟨0, S, by omega, by omega, rfl, rfl, by simp [pairDone], by omega, by omega, HX.out, HBA.out⟩
          case round =>
            obtain ⟨j, S2, hj, hg2, rfl, rfl, hS2e, hSa, hSb, hI, hb⟩ := hrel
            have HB2 := hid hb
            have HI2 := hid hI
            have HS2 := hid hS2e
            clear hb hI hS2e HX HBA
            rcases (show j = 0 ∨ j = 1 ∨ j = 2 by omega) with rfl | rfl | rfl
            · have g1 : wr.cell? ⟨B, 0, none⟩ = some (.int .i64 5) := by
                obtain ⟨b, o, e, _, hc⟩ := HI2.out.row (by omega)
                injection e with e
                injection e with e1 e2
                subst e1
                subst e2
                exact hc 0 (by omega)
              by_cases hlt : N < 5
              · have hlt2 : (N : Int) < 5 := by omega
                go_wp2
                go_roundg (2 - 0)
                case measure => omega
                case rel =>
                  refine ⟨1, S2, by omega, by omega, rfl, by go_num, ?_, by omega, by omega, HI2.out, HB2.out⟩
                  rw [HS2.out]
                  simp [pairDone, fiveTerm_neg hlt]
              · have hlt2 : ¬ (N : Int) < 5 := by omega
                obtain ⟨m, hm⟩ : ∃ m, N = m + 5 := ⟨N - 5, by omega⟩
                have hmi : (N : Int) - 5 = (m : Int) := by omega
                have hm40 : m ≤ 40 := by omega
                have HM := hid (fiveTerm_pos hm)
                clear hm
                have HMI := hid hmi
                clear hmi
                go_wp2_with fail
                refine (count_of _ _ m m HMI.out HMI.out _ hm40 hm40).mono ?_
                rintro e w9 ⟨rfl, hb⟩
                have HB3 := hid (below_step HB2.out (Nat.le_refl _) hb)
                have HI3 := hid (HI2.out.keep hb)
                have hx := pcnt_le hm40 hm40
                clear hb
                generalize pcnt m m = x at *
                go_wp2
                go_roundg (2 - 0)
                case measure => omega
                case rel =>
                  refine ⟨1, S2 - (x : Int), by omega, by omega, by go_num, by go_num, ?_, by omega, by omega, HI3.out, HB3.out⟩
                  rw [HS2.out]
                  simp [pairDone, HM.out]
                  try omega
            · have g1 : wr.cell? ⟨B, 1, none⟩ = some (.int .i64 7) := by
                obtain ⟨b, o, e, _, hc⟩ := HI2.out.row (by omega)
                injection e with e
                injection e with e1 e2
                subst e1
                subst e2
                exact hc 1 (by omega)
              by_cases hlt : N < 7
              · have hlt2 : (N : Int) < 7 := by omega
                go_wp2
                go_roundg (2 - 1)
                case measure => omega
                case rel =>
                  refine ⟨2, S2, by omega, by omega, rfl, by go_num, ?_, by omega, by omega, HI2.out, HB2.out⟩
                  rw [HS2.out]
                  simp [pairDone, fiveTerm_neg hlt]
              · have hlt2 : ¬ (N : Int) < 7 := by omega
                obtain ⟨m, hm⟩ : ∃ m, N = m + 7 := ⟨N - 7, by omega⟩
                have hmi : (N : Int) - 7 = (m : Int) := by omega
                have hm40 : m ≤ 40 := by omega
                have HM := hid (fiveTerm_pos hm)
                clear hm
                have HMI := hid hmi
                clear hmi
                go_wp2_with fail
                refine (count_of _ _ m m HMI.out HMI.out _ hm40 hm40).mono ?_
                rintro e w9 ⟨rfl, hb⟩
                have HB3 := hid (below_step HB2.out (Nat.le_refl _) hb)
                have HI3 := hid (HI2.out.keep hb)
                have hx := pcnt_le hm40 hm40
                clear hb
                generalize pcnt m m = x at *
                go_wp2
                go_roundg (2 - 1)
                case measure => omega
                case rel =>
                  refine ⟨2, S2 - (x : Int), by omega, by omega, by go_num, by go_num, ?_, by omega, by omega, HI3.out, HB3.out⟩
                  rw [HS2.out]
                  simp [pairDone, HM.out]
                  try omega
            · go_wp2
              go_roundg (5 - 1)
              case measure => omega
              case rel =>
                refine ⟨2, S2, by omega, by omega, rfl, by go_num, ?_, by omega, by omega, HB2.out⟩
                rw [HG.out, HS2.out]
                simp [pairDone]
                try omega
      · by_cases hnp : N < 12
        · have hnp2 : ¬ (12 : Int) ≤ (N : Int) := by omega
          have HF := hid (HE.out 2 (by omega) (by omega))
          rw [← HS.out] at HF
          have HF2 := HF.out
          subst HF2
          go_wp2
          go_ret
          exact ⟨rfl, HB.out⟩
        · have hnp2 : (12 : Int) ≤ (N : Int) := by omega
          have HG : Hid (fiveSum (fun m => pcnt m m) N 3 = S + fiveTerm (fun m => pcnt m m) N 12 + fiveTerm (fun m => pcnt m m) N 15) := by
            rw [HS.out]
            rfl
          clear HS
          go_wp2_with fail
          have HX : Hid (Ints (wr.alloc (.cells #[.int .i64 12, .int .i64 15] 3)) (some ⟨wr.heap.size, 0, none⟩) 2 [12, 15]) := ints_lit wr _ _ 2 [12, 15] rfl rfl
          have HBA := hid (below_step HB.out (Nat.le_refl _) (below_alloc wr (.cells #[.int .i64 12, .int .i64 15] 3)))
          obtain ⟨B, hB⟩ : ∃ B, B = wr.heap.size := ⟨_, rfl⟩
          obtain ⟨w8, hw8⟩ : ∃ w8, w8 = wr.alloc (.cells #[.int .i64 12, .int .i64 15] 3) := ⟨_, rfl⟩
          rw [← hw8, ← hB] at HX
          rw [← hw8] at HBA
          rw [← hw8, ← hB]
          clear hw8 hB HB
          go_loopg [14, 97] 3 (fun g s t wr => ∃ (j : Nat) (S2 : Int), j ≤ 2 ∧ 2 - j < g ∧ s = .int .i64 S2 ∧ t = .int .i64 (j : Int) ∧ S2 = S + pairDone (1) (fiveTerm (fun m => pcnt m m) N 12) (fiveTerm (fun m => pcnt m m) N 15) j ∧ -37338 * (j : Int) ≤ S2 - S ∧ S2 - S ≤ 37338 * (j : Int) ∧ Ints wr (some ⟨B, 0, none⟩) 2 [12, 15] ∧ Below w.heap.size w wr)
          case atStart => exact ⟨0, S, by omega, by omega, rfl, rfl, by simp [pairDone], by omega, by omega, HX.out, HBA.out⟩
          case round =>
            obtain ⟨j, S2, hj, hg2, rfl, rfl, hS2e, hSa, hSb, hI, hb⟩ := hrel
            have HB2 := hid hb
            have HI2 := hid hI
            have HS2 := hid hS2e
            clear hb hI hS2e HX HBA
            rcases (show j = 0 ∨ j = 1 ∨ j = 2 by omega) with rfl | rfl | rfl
            · have g1 : wr.cell? ⟨B, 0, none⟩ = some (.int .i64 12) := by
                obtain ⟨b, o, e, _, hc⟩ := HI2.out.row (by omega)
                injection e with e
                injection e with e1 e2
                subst e1
                subst e2
                exact hc 0 (by omega)
              by_cases hlt : N < 12
              · have hlt2 : (N : Int) < 12 := by omega
                go_wp2
                go_roundg (2 - 0)
                case measure => omega
                case rel =>
                  refine ⟨1, S2, by omega, by omega, rfl, by go_num, ?_, by omega, by omega, HI2.out, HB2.out⟩
                  rw [HS2.out]
                  simp [pairDone, fiveTerm_neg hlt]
              · have hlt2 : ¬ (N : Int) < 12 := by omega
                obtain ⟨m, hm⟩ : ∃ m, N = m + 12 := ⟨N - 12, by omega⟩
                have hmi : (N : Int) - 12 = (m : Int) := by omega
                have hm40 : m ≤ 40 := by omega
                have HM := hid (fiveTerm_pos hm)
                clear hm
                have HMI := hid hmi
                clear hmi
                go_wp2_with fail
                refine (count_of _ _ m m HMI.out HMI.out _ hm40 hm40).mono ?_
                rintro e w9 ⟨rfl, hb⟩
                have HB3 := hid (below_step HB2.out (Nat.le_refl _) hb)
                have HI3 := hid (HI2.out.keep hb)
                have hx := pcnt_le hm40 hm40
                clear hb
                generalize pcnt m m = x at *
                go_wp2
                go_roundg (2 - 0)
                case measure => omega
                case rel =>
                  refine ⟨1, S2 + (x : Int), by omega, by omega, by go_num, by go_num, ?_, by omega, by omega, HI3.out, HB3.out⟩
                  rw [HS2.out]
                  simp [pairDone, HM.out]
                  try omega
            · have g1 : wr.cell? ⟨B, 1, none⟩ = some (.int .i64 15) := by
                obtain ⟨b, o, e, _, hc⟩ := HI2.out.row (by omega)
                injection e with e
                injection e with e1 e2
                subst e1
                subst e2
                exact hc 1 (by omega)
              by_cases hlt : N < 15
              · have hlt2 : (N : Int) < 15 := by omega
                go_wp2
                go_roundg (2 - 1)
                case measure => omega
                case rel =>
                  refine ⟨2, S2, by omega, by omega, rfl, by go_num, ?_, by omega, by omega, HI2.out, HB2.out⟩
                  rw [HS2.out]
                  simp [pairDone, fiveTerm_neg hlt]
              · have hlt2 : ¬ (N : Int) < 15 := by omega
                obtain ⟨m, hm⟩ : ∃ m, N = m + 15 := ⟨N - 15, by omega⟩
                have hmi : (N : Int) - 15 = (m : Int) := by omega
                have hm40 : m ≤ 40 := by omega
                have HM := hid (fiveTerm_pos hm)
                clear hm
                have HMI := hid hmi
                clear hmi
                go_wp2_with fail
                refine (count_of _ _ m m HMI.out HMI.out _ hm40 hm40).mono ?_
                rintro e w9 ⟨rfl, hb⟩
                have HB3 := hid (below_step HB2.out (Nat.le_refl _) hb)
                have HI3 := hid (HI2.out.keep hb)
                have hx := pcnt_le hm40 hm40
                clear hb
                generalize pcnt m m = x at *
                go_wp2
                go_roundg (2 - 1)
                case measure => omega
                case rel =>
                  refine ⟨2, S2 + (x : Int), by omega, by omega, by go_num, by go_num, ?_, by omega, by omega, HI3.out, HB3.out⟩
                  rw [HS2.out]
                  simp [pairDone, HM.out]
                  try omega
            · go_wp2
              go_roundg (5 - 2)
              case measure => omega
              case rel =>
                refine ⟨3, S2, by omega, by omega, rfl, by go_num, ?_, by omega, by omega, HB2.out⟩
                rw [HG.out, HS2.out]
                simp [pairDone]
                try omega
      · by_cases hnp : N < 22
        · have hnp2 : ¬ (22 : Int) ≤ (N : Int) := by omega
          have HF := hid (HE.out 3 (by omega) (by omega))
          rw [← HS.out] at HF
          have HF2 := HF.out
          subst HF2
          go_wp2
          go_ret
          exact ⟨rfl, HB.out⟩
        · have hnp2 : (22 : Int) ≤ (N : Int) := by omega
          have HG : Hid (fiveSum (fun m => pcnt m m) N 4 = S - fiveTerm (fun m => pcnt m m) N 22 - fiveTerm (fun m => pcnt m m) N 26) := by
            rw [HS.out]
            rfl
          clear HS
          go_wp2_with fail
          have HX : Hid (Ints (wr.alloc (.cells #[.int .i64 22, .int .i64 26] 3)) (some ⟨wr.heap.size, 0, none⟩) 2 [22, 26]) := ints_lit wr _ _ 2 [22, 26] rfl rfl
          have HBA := hid (below_step HB.out (Nat.le_refl _) (below_alloc wr (.cells #[.int .i64 22, .int .i64 26] 3)))
          obtain ⟨B, hB⟩ : ∃ B, B = wr.heap.size := ⟨_, rfl⟩
          obtain ⟨w8, hw8⟩ : ∃ w8, w8 = wr.alloc (.cells #[.int .i64 22, .int .i64 26] 3) := ⟨_, rfl⟩
          rw [← hw8, ← hB] at HX
          rw [← hw8] at HBA
          rw [← hw8, ← hB]
          clear hw8 hB HB
          go_loopg [14, 97] 3 (fun g s t wr => ∃ (j : Nat) (S2 : Int), j ≤ 2 ∧ 2 - j < g ∧ s = .int .i64 S2 ∧ t = .int .i64 (j : Int) ∧ S2 = S + pairDone (-1) (fiveTerm (fun m => pcnt m m) N 22) (fiveTerm (fun m => pcnt m m) N 26) j ∧ -37338 * (j : Int) ≤ S2 - S ∧ S2 - S ≤ 37338 * (j : Int) ∧ Ints wr (some ⟨B, 0, none⟩) 2 [22, 26] ∧ Below w.heap.size w wr)
          case atStart => exact ⟨0, S, by omega, by omega, rfl, rfl, by simp [pairDone], by omega, by omega, HX.out, HBA.out⟩
          case round =>
            obtain ⟨j, S2, hj, hg2, rfl, rfl, hS2e, hSa, hSb, hI, hb⟩ := hrel
            have HB2 := hid hb
            have HI2 := hid hI
            have HS2 := hid hS2e
            clear hb hI hS2e HX HBA
            rcases (show j = 0 ∨ j = 1 ∨ j = 2 by omega) with rfl | rfl | rfl
            · have g1 : wr.cell? ⟨B, 0, none⟩ = some (.int .i64 22) := by
                obtain ⟨b, o, e, _, hc⟩ := HI2.out.row (by omega)
                injection e with e
                injection e with e1 e2
                subst e1
                subst e2
                exact hc 0 (by omega)
              by_cases hlt : N < 22
              · have hlt2 : (N : Int) < 22 := by omega
                go_wp2
                go_roundg (2 - 0)
                case measure => omega
                case rel =>
                  refine ⟨1, S2, by omega, by omega, rfl, by go_num, ?_, by omega, by omega, HI2.out, HB2.out⟩
                  rw [HS2.out]
                  simp [pairDone, fiveTerm_neg hlt]
              · have hlt2 : ¬ (N : Int) < 22 := by omega
                obtain ⟨m, hm⟩ : ∃ m, N = m + 22 := ⟨N - 22, by omega⟩
                have hmi : (N : Int) - 22 = (m : Int) := by omega
                have hm40 : m ≤ 40 := by omega
                have HM := hid (fiveTerm_pos hm)
                clear hm
                have HMI := hid hmi
                clear hmi
                go_wp2_with fail
                refine (count_of _ _ m m HMI.out HMI.out _ hm40 hm40).mono ?_
                rintro e w9 ⟨rfl, hb⟩
                have HB3 := hid (below_step HB2.out (Nat.le_refl _) hb)
                have HI3 := hid (HI2.out.keep hb)
                have hx := pcnt_le hm40 hm40
                clear hb
                generalize pcnt m m = x at *
                go_wp2
                go_roundg (2 - 0)
                case measure => omega
                case rel =>
                  refine ⟨1, S2 - (x : Int), by omega, by omega, by go_num, by go_num, ?_, by omega, by omega, HI3.out, HB3.out⟩
                  rw [HS2.out]
                  simp [pairDone, HM.out]
                  try omega
            · have g1 : wr.cell? ⟨B, 1, none⟩ = some (.int .i64 26) := by
                obtain ⟨b, o, e, _, hc⟩ := HI2.out.row (by omega)
                injection e with e
                injection e with e1 e2
                subst e1
                subst e2
                exact hc 1 (by omega)
              by_cases hlt : N < 26
              · have hlt2 : (N : Int) < 26 := by omega
                go_wp2
                go_roundg (2 - 1)
                case measure => omega
                case rel =>
                  refine ⟨2, S2, by omega, by omega, rfl, by go_num, ?_, by omega, by omega, HI2.out, HB2.out⟩
                  rw [HS2.out]
                  simp [pairDone, fiveTerm_neg hlt]
              · have hlt2 : ¬ (N : Int) < 26 := by omega
                obtain ⟨m, hm⟩ : ∃ m, N = m + 26 := ⟨N - 26, by omega⟩
                have hmi : (N : Int) - 26 = (m : Int) := by omega
                have hm40 : m ≤ 40 := by omega
                have HM := hid (fiveTerm_pos hm)
                clear hm
                have HMI := hid hmi
                clear hmi
                go_wp2_with fail
                refine (count_of _ _ m m HMI.out HMI.out _ hm40 hm40).mono ?_
                rintro e w9 ⟨rfl, hb⟩
                have HB3 := hid (below_step HB2.out (Nat.le_refl _) hb)
                have HI3 := hid (HI2.out.keep hb)
                have hx := pcnt_le hm40 hm40
                clear hb
                generalize pcnt m m = x at *
                go_wp2
                go_roundg (2 - 1)
                case measure => omega
                case rel =>
                  refine ⟨2, S2 - (x : Int), by omega, by omega, by go_num, by go_num, ?_, by omega, by omega, HI3.out, HB3.out⟩
                  rw [HS2.out]
                  simp [pairDone, HM.out]
                  try omega
            · go_wp2
              go_roundg (5 - 3)
              case measure => omega
              case rel =>
                refine ⟨4, S2, by omega, by omega, rfl, by go_num, ?_, by omega, by omega, HB2.out⟩
                rw [HG.out, HS2.out]
                simp [pairDone]
                try omega
      · by_cases hnp : N < 35
        · have hnp2 : ¬ (35 : Int) ≤ (N : Int) := by omega
          have HF := hid (HE.out 4 (by omega) (by omega))
          rw [← HS.out] at HF
          have HF2 := HF.out
          subst HF2
          go_wp2
          go_ret
          exact ⟨rfl, HB.out⟩
        · have hnp2 : (35 : Int) ≤ (N : Int) := by omega
          have HG : Hid (fiveSum (fun m => pcnt m m) N 5 = S + fiveTerm (fun m => pcnt m m) N 35 + fiveTerm (fun m => pcnt m m) N 40) := by
            rw [HS.out]
            rfl
          clear HS
          go_wp2_with fail
          have HX : Hid (Ints (wr.alloc (.cells #[.int .i64 35, .int .i64 40] 3)) (some ⟨wr.heap.size, 0, none⟩) 2 [35, 40]) := ints_lit wr _ _ 2 [35, 40] rfl rfl
          have HBA := hid (below_step HB.out (Nat.le_refl _) (below_alloc wr (.cells #[.int .i64 35, .int .i64 40] 3)))
          obtain ⟨B, hB⟩ : ∃ B, B = wr.heap.size := ⟨_, rfl⟩
          obtain ⟨w8, hw8⟩ : ∃ w8, w8 = wr.alloc (.cells #[.int .i64 35, .int .i64 40] 3) := ⟨_, rfl⟩
          rw [← hw8, ← hB] at HX
          rw [← hw8] at HBA
          rw [← hw8, ← hB]
          clear hw8 hB HB
          go_loopg [14, 97] 3 (fun g s t wr => ∃ (j : Nat) (S2 : Int), j ≤ 2 ∧ 2 - j < g ∧ s = .int .i64 S2 ∧ t = .int .i64 (j : Int) ∧ S2 = S + pairDone (1) (fiveTerm (fun m => pcnt m m) N 35) (fiveTerm (fun m => pcnt m m) N 40) j ∧ -37338 * (j : Int) ≤ S2 - S ∧ S2 - S ≤ 37338 * (j : Int) ∧ Ints wr (some ⟨B, 0, none⟩) 2 [35, 40] ∧ Below w.heap.size w wr)
          case atStart => exact ⟨0, S, by omega, by omega, rfl, rfl, by simp [pairDone], by omega, by omega, HX.out, HBA.out⟩
          case round =>
            obtain ⟨j, S2, hj, hg2, rfl, rfl, hS2e, hSa, hSb, hI, hb⟩ := hrel
            have HB2 := hid hb
            have HI2 := hid hI
            have HS2 := hid hS2e
            clear hb hI hS2e HX HBA
            rcases (show j = 0 ∨ j = 1 ∨ j = 2 by omega) with rfl | rfl | rfl
            · have g1 : wr.cell? ⟨B, 0, none⟩ = some (.int .i64 35) := by
                obtain ⟨b, o, e, _, hc⟩ := HI2.out.row (by omega)
                injection e with e
                injection e with e1 e2
                subst e1
                subst e2
                exact hc 0 (by omega)
              by_cases hlt : N < 35
              · have hlt2 : (N : Int) < 35 := by omega
                go_wp2
                go_roundg (2 - 0)
                case measure => omega
                case rel =>
                  refine ⟨1, S2, by omega, by omega, rfl, by go_num, ?_, by omega, by omega, HI2.out, HB2.out⟩
                  rw [HS2.out]
                  simp [pairDone, fiveTerm_neg hlt]
              · have hlt2 : ¬ (N : Int) < 35 := by omega
                obtain ⟨m, hm⟩ : ∃ m, N = m + 35 := ⟨N - 35, by omega⟩
                have hmi : (N : Int) - 35 = (m : Int) := by omega
                have hm40 : m ≤ 40 := by omega
                have HM := hid (fiveTerm_pos hm)
                clear hm
                have HMI := hid hmi
                clear hmi
                go_wp2_with fail
                refine (count_of _ _ m m HMI.out HMI.out _ hm40 hm40).mono ?_
                rintro e w9 ⟨rfl, hb⟩
                have HB3 := hid (below_step HB2.out (Nat.le_refl _) hb)
                have HI3 := hid (HI2.out.keep hb)
                have hx := pcnt_le hm40 hm40
                clear hb
                generalize pcnt m m = x at *
                go_wp2
                go_roundg (2 - 0)
                case measure => omega
                case rel =>
                  refine ⟨1, S2 + (x : Int), by omega, by omega, by go_num, by go_num, ?_, by omega, by omega, HI3.out, HB3.out⟩
                  rw [HS2.out]
                  simp [pairDone, HM.out]
                  try omega
            · have g1 : wr.cell? ⟨B, 1, none⟩ = some (.int .i64 40) := by
                obtain ⟨b, o, e, _, hc⟩ := HI2.out.row (by omega)
                injection e with e
                injection e with e1 e2
                subst e1
                subst e2
                exact hc 1 (by omega)
              by_cases hlt : N < 40
              · have hlt2 : (N : Int) < 40 := by omega
                go_wp2
                go_roundg (2 - 1)
                case measure => omega
                case rel =>
                  refine ⟨2, S2, by omega, by omega, rfl, by go_num, ?_, by omega, by omega, HI2.out, HB2.out⟩
                  rw [HS2.out]
                  simp [pairDone, fiveTerm_neg hlt]
              · have hlt2 : ¬ (N : Int) < 40 := by omega
                obtain ⟨m, hm⟩ : ∃ m, N = m + 40 := ⟨N - 40, by omega⟩
                have hmi : (N : Int) - 40 = (m : Int) := by omega
                have hm40 : m ≤ 40 := by omega
                have HM := hid (fiveTerm_pos hm)
                clear hm
                have HMI := hid hmi
                clear hmi
                go_wp2_with fail
                refine (count_of _ _ m m HMI.out HMI.out _ hm40 hm40).mono ?_
                rintro e w9 ⟨rfl, hb⟩
                have HB3 := hid (below_step HB2.out (Nat.le_refl _) hb)
                have HI3 := hid (HI2.out.keep hb)
                have hx := pcnt_le hm40 hm40
                clear hb
                generalize pcnt m m = x at *
                go_wp2
                go_roundg (2 - 1)
                case measure => omega
                case rel =>
                  refine ⟨2, S2 + (x : Int), by omega, by omega, by go_num, by go_num, ?_, by omega, by omega, HI3.out, HB3.out⟩
                  rw [HS2.out]
                  simp [pairDone, HM.out]
                  try omega
            · go_wp2
              go_roundg (5 - 4)
              case measure => omega
              case rel =>
                refine ⟨5, S2, by omega, by omega, rfl, by go_num, ?_, by omega, by omega, HB2.out⟩
                rw [HG.out, HS2.out]
                simp [pairDone]
                try omega
      · have hnp : ¬ (51 : Int) ≤ (N : Int) := by omega
        have HF := hid (HE.out 5 (by omega) (by omega))
        rw [← HS.out] at HF
        have HF2 := HF.out
        subst HF2
        go_wp2
        go_ret
        exact ⟨rfl, HB.out⟩

end Go.Proofs.Yteegddpoekphoaa
