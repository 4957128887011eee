/-
  tableau.Count (P40).
-/
import Derived.Test.YtcnljljgdkjndaaShpA
namespace Go.Proofs.Ytcnljljgdkjndaa
open Go.RowKit

theorem hk_good {xs : List Int} (h : IsShape xs) {i j : Nat} (hi : i < xs.length) (hj : j < (xs.getD i 0).toNat) : 1 ≤ hk xs i j ∧ hk xs i j ≤ 12 := by
  have h1 := List.all_eq_true.1 hooks_all xs h.mem
  have h2 := List.all_eq_true.1 h1 i (by simpa using hi)
  have h3 := List.all_eq_true.1 h2 j (by simpa using hj)
  simpa using h3
theorem rowP_good {xs : List Int} (h : IsShape xs) {i : Nat} (hi : i < xs.length) : ∀ j, j ≤ (xs.getD i 0).toNat → 1 ≤ rowP xs i j ∧ rowP xs i j ≤ 12 ^ j
  | 0, _ => by simp [rowP]
  | j + 1, hj => by
    obtain ⟨a, b⟩ := rowP_good h hi j (by omega)
    obtain ⟨c, d⟩ := hk_good h hi (j := j) (by omega)
    rw [rowP, Int.pow_succ]
    refine ⟨?_, Int.mul_le_mul b d (by omega) (by omega)⟩
    have := Int.mul_le_mul a c (by omega) (by omega)
    simpa using this
theorem toNat_sum_snoc {xs : List Int} (h : IsShape xs) {i : Nat} (hi : i < xs.length) : (xs.take (i + 1)).sum.toNat = (xs.take i).sum.toNat + (xs.getD i 0).toNat := by
  have a := (h.part.sum_take i)
  have b := h.part.ge hi
  rw [sum_take_snoc hi]
  omega
theorem colP_good {xs : List Int} (h : IsShape xs) : ∀ i, i ≤ xs.length → 1 ≤ colP xs i ∧ colP xs i ≤ 12 ^ (xs.take i).sum.toNat
  | 0, _ => by simp [colP]
  | i + 1, hi => by
    obtain ⟨a, b⟩ := colP_good h i (by omega)
    obtain ⟨c, d⟩ := rowP_good h (i := i) (by omega) _ (Nat.le_refl _)
    rw [colP, toNat_sum_snoc h (by omega), Int.pow_add]
    refine ⟨?_, Int.mul_le_mul b d (by omega) (by omega)⟩
    have := Int.mul_le_mul a c (by omega) (by omega)
    simpa using this
theorem hooks_bound {xs : List Int} (h : IsShape xs) {i j : Nat} (hi : i < xs.length) (hj : j ≤ (xs.getD i 0).toNat) : 1 ≤ colP xs i * rowP xs i j ∧ colP xs i * rowP xs i j ≤ 8916100448256 := by
  obtain ⟨a, b⟩ := colP_good h i (by omega)
  obtain ⟨c, d⟩ := rowP_good h hi j hj
  have e1 := Int.mul_le_mul a c (by omega) (by omega)
  have e2 := Int.mul_le_mul b d (by omega) (by omega)
  rw [← Int.pow_add] at e2
  have hs : (xs.take i).sum.toNat + j ≤ 12 := by
    have h1 := toNat_sum_snoc h hi
    have h2 := (shapeErrAt_zero (h i hi)).2.2.2
    omega
  have e3 : (12 : Int) ^ ((xs.take i).sum.toNat + j) ≤ 12 ^ 12 := by
    have := Nat.pow_le_pow_right (show 0 < 12 by omega) hs
    have h2 : ((12 ^ ((xs.take i).sum.toNat + j) : Nat) : Int) ≤ ((12 ^ 12 : Nat) : Int) := by omega
    simpa using h2
  have e4 : (12 : Int) ^ 12 = 8916100448256 := by decide
  refine ⟨by simpa using e1, by omega⟩
theorem cells_bound {xs : List Int} (h : IsShape xs) {i : Nat} (hi : i < xs.length) : (xs.take i).sum.toNat + (xs.getD i 0).toNat ≤ 12 := by
  have h1 := toNat_sum_snoc h hi
  have h2 := (shapeErrAt_zero (h i hi)).2.2.2
  omega
theorem fact_12 {n : Nat} (h : n ≤ 12) : fact n ≤ 479001600 := Nat.le_trans (fact_mono h) (by decide)

set_option maxRecDepth 100000 in
set_option maxHeartbeats 800000 in
theorem tcount_bad (A : Option Addr) (n c : Nat) (xs : List Int) (w : World) (h : Ints w A n xs) (hm : n ≤ 9223372036854775807) (he : shapeErr xs ≠ 0) :
    Calls Try.prog 30 #[.slice A n c] w fun e w' => e = .returned (.tuple #[.int .i64 0, .int .i64 (shapeErr xs)]) ∧ Below w.heap.size w w' := by
  generalize hq : shapeErr xs = er at *
  have he' : (er != 0) = true := by simpa using he
  have HQ := hid hq
  clear hq
  go_enter Try.func30, Try.ntmps30
  go_wp2_with fail
  refine (checkShape_any A n c xs _ h hm).mono ?_
  rintro e w' ⟨rfl, rfl⟩
  rw [HQ.out]
  go_wp2
  go_ret2
  exact ⟨rfl, Below.refl _ _⟩

set_option maxRecDepth 100000 in
set_option maxHeartbeats 1600000 in
theorem tcount_ok (A : Option Addr) (n c : Nat) (xs : List Int) (w : World) (h : Ints w A n xs) (hp : IsShape xs) :
    Calls Try.prog 30 #[.slice A n c] w fun e w' => e = .returned (.tuple #[.int .i64 (cntS xs), .int .i64 0]) ∧ Below w.heap.size w w' := by
  have hn : n ≤ 40 := by rw [← h.len]; exact hp.part.length_le
  have HP := hid hp
  have HI := hid h
  have HL := hid h.len
  clear h hp
  go_enter Try.func30, Try.ntmps30
  go_wp2_with fail
  refine (checkShape_any _ n c xs _ HI.out (by omega)).mono ?_
  rintro e w' ⟨rfl, rfl⟩
  rw [shapeErr_ok HP.out]
  go_wp2_with fail
  refine (turned_ok A n c xs _ HI.out HP.out.part).mono ?_
  rintro e w1 ⟨A1, n1, c1, rfl, hb1, hI1, hcap1⟩
  have HI1 := hid hI1
  have HB1 := hid hb1
  have HI0 := hid (HI.out.keep hb1)
  clear hI1 hb1 hcap1 HI
  go_wp2_with fail
  go_loopg [7, 8, 9, 28] n (fun g s t u v wr => ∃ i : Nat, i ≤ n ∧ n - i ≤ g ∧ v = .int .i64 (i : Int) ∧ s = .int .i64 ((fact (xs.take i).sum.toNat : Nat) : Int) ∧ t = .int .i64 (colP xs i) ∧ u = .int .i64 (((xs.take i).sum.toNat : Nat) : Int) ∧ w1 = wr)
  case atStart => exact ⟨0, Nat.zero_le _, by omega, rfl, rfl, rfl, rfl, rfl⟩
  case round =>
    obtain ⟨i, hi, hg, rfl, rfl, rfl, rfl, rfl⟩ := hrel
    by_cases hlt : i < n
    · obtain ⟨b, o, rfl, hb, hc⟩ := HI0.out.row (by omega)
      have g1 := hc i hlt
      have hge := HP.out.part.ge (j := i) (by rw [HL.out]; exact hlt)
      obtain ⟨X, hX⟩ := Int.eq_ofNat_of_zero_le (show 0 ≤ xs.getD i 0 by omega)
      have hcb := cells_bound HP.out (i := i) (by rw [HL.out]; exact hlt)
      have HTS := hid (toNat_sum_snoc HP.out (i := i) (by rw [HL.out]; exact hlt))
      have HHB := hid (fun j => hooks_bound HP.out (i := i) (j := j) (by rw [HL.out]; exact hlt))
      have HKB := hid (fun j => hk_good HP.out (i := i) (j := j) (by rw [HL.out]; exact hlt))
      have HHK : Hid (∀ j, hk xs i j = (X : Int) - (j : Int) + (conj xs).getD j 0 - (i : Int) - 1) := fun j => by unfold hk; rw [hX]
      have hX0 : (xs.getD i 0).toNat = X := by omega
      have HX := hid hX0
      have hXL : X ≤ n1 := by
        have h1 := HP.out.part.mono (Nat.zero_le i) (by rw [HL.out]; exact hlt)
        have h2 := HI1.out.len
        rw [length_conj] at h2
        omega
      rw [hX0] at hcb
      rw [hX] at g1
      clear hc hX0 hX hge
      generalize hS : (xs.take i).sum.toNat = S0 at *
      have HS := hid hS
      clear hS
      go_wp2
      go_loopg [7, 8, 9, 34] X (fun g s t u v wr => ∃ j : Nat, j ≤ X ∧ X - j ≤ g ∧ v = .int .i64 (j : Int) ∧ s = .int .i64 ((fact (S0 + j) : Nat) : Int) ∧ t = .int .i64 (colP xs i * rowP xs i j) ∧ u = .int .i64 ((S0 + j : Nat) : Int) ∧ w1 = wr)
      case atStart => exact ⟨0, Nat.zero_le _, by omega, rfl, rfl, by simp [rowP], rfl, rfl⟩
      case round =>
        obtain ⟨j, hj, hg2, rfl, rfl, rfl, rfl, rfl⟩ := hrel
        by_cases hlt2 : j < X
        · obtain ⟨b1, o1, rfl, hb1, hc1⟩ := HI1.out.row (by omega)
          have g2 := hc1 j (by omega)
          have q1 := HHB.out j (by rw [HX.out]; omega)
          have q2 := HHB.out (j + 1) (by rw [HX.out]; omega)
          have q3 := HKB.out j (by rw [HX.out]; omega)
          rw [rowP, ← Int.mul_assoc] at q2
          have HN : Hid (colP xs i * rowP xs i (j + 1) = colP xs i * rowP xs i j * hk xs i j) := by rw [rowP, ← Int.mul_assoc]; exact rfl
          rw [HHK.out j] at q2 q3 HN
          have f1 := fact_12 (n := S0 + j) (by omega)
          have f2 := fact_12 (n := S0 + (j + 1)) (by omega)
          have HF : Hid (((fact (S0 + j) : Nat) : Int) * ((S0 : Int) + (j : Int) + 1) = ((fact (S0 + (j + 1)) : Nat) : Int)) := by
            show _ = (((S0 + j + 1) * fact (S0 + j) : Nat) : Int)
            rw [Int.natCast_mul, Int.mul_comm]
            exact rfl
          have f3 : 0 ≤ ((fact (S0 + j) : Nat) : Int) * ((S0 : Int) + (j : Int) + 1) := by rw [HF.out]; omega
          have f4 : ((fact (S0 + j) : Nat) : Int) * ((S0 : Int) + (j : Int) + 1) ≤ 479001600 := by rw [HF.out]; omega
          clear hc1 f2
          have hcj : -60 ≤ (conj xs).getD j 0 ∧ (conj xs).getD j 0 ≤ 100 := by omega
          generalize (conj xs).getD j 0 = y at *
          generalize colP xs i * rowP xs i j = H at *
          generalize fact (S0 + j) = F at *
          have hjn : j < n1 := by omega
          go_wp2
          go_roundg (X - (j + 1))
          case measure => omega
          case rel => exact ⟨j + 1, by omega, by omega, by go_num, by rw [← HF.out], by rw [HN.out], by go_num, rfl⟩
        · have hjX : j = X := by omega
          subst hjX
          go_wp2
          go_roundg (n - (i + 1))
          case measure => omega
          case rel => exact ⟨i + 1, by omega, by omega, by go_num, by rw [HTS.out, HX.out], by rw [colP, HX.out], by rw [HTS.out, HX.out], rfl⟩
    · have hin : i = n := by omega
      subst hin
      have HT : Hid (xs.take i = xs) := List.take_of_length_le (by rw [HL.out]; omega)
      rw [HT.out]
      obtain ⟨k1, k2⟩ := colP_good HP.out i (by rw [HL.out]; omega)
      rw [HT.out] at k2
      have HC : Hid (cntS xs = ((fact xs.sum.toNat : Nat) : Int) / colP xs i) := by unfold cntS; rw [HL.out]; exact rfl
      have hss := HP.out.sum_le
      have f1 := fact_12 (n := xs.sum.toNat) (by omega)
      have hq0 : (colP xs i == 0) = false := by simp; omega
      have hq1 : 0 ≤ ((fact xs.sum.toNat : Nat) : Int) / colP xs i := Int.ediv_nonneg (by omega) (by omega)
      have hq2 : ((fact xs.sum.toNat : Nat) : Int) / colP xs i ≤ 479001600 := Int.le_trans (Int.ediv_le_self _ (by omega)) (by omega)
      clear k2
      generalize colP xs i = H at *
      generalize fact xs.sum.toNat = F at *
      go_wp2
      go_ret2
      refine ⟨?_, HB1.out⟩
      rw [HC.out]
      go_num

end Go.Proofs.Ytcnljljgdkjndaa
