/-
  casttop.TopPool, walked.
-/
import Derived.Test.YtaklchehamkgcaaPoolC
import Derived.Test.YtaklchehamkgcaaPoolN
import Derived.Test.YtaklchehamkgcaaTopA
import Derived.Test.YtaklchehamkgcaaIdx
namespace Go.Proofs.Ytaklchehamkgcaa
open Go.RowKit

theorem chosen_try (n k x : Nat) (A : Option Addr) (c : Nat) (w : World) (h : Ints w A n (ptL n x)) (hk : 1 ≤ k ∧ k ≤ 12) (hn : n ≤ 30) :
    Calls Try.prog 8 #[.int .i64 (k : Int), .slice A n c] w (RetOwnE w (upL (pN k (ptL n x) n)) 0) := by
  have e := ptL_ok (k := k) (n := n) x hk hn
  have := poChosen_any (k : Int) A n c (ptL n x) w h
  rw [poolX_ok e, e, ptL_len] at this
  exact this

set_option maxHeartbeats 2000000 in
set_option maxRecDepth 100000 in
theorem topPool_any (n0 k0 i0 : Int) (w : World) :
    Calls Try.prog 6 #[.int .i64 n0, .int .i64 k0, .int .i64 i0] w fun e w' => e = .returned (.bool true) ∧ Below w.heap.size w w' := by
  have a1 := Int.emod_nonneg n0 (show (6 : Int) ≠ 0 by omega)
  have a2 := Int.emod_lt_of_pos n0 (show 0 < (6 : Int) by omega)
  have b1 := Int.emod_nonneg k0 (show (6 : Int) ≠ 0 by omega)
  have b2 := Int.emod_lt_of_pos k0 (show 0 < (6 : Int) by omega)
  have HW1 := hid (within_any n0 6 w (by omega) (by omega))
  have HW2 := hid (within_any k0 6 w (by omega) (by omega))
  obtain ⟨n, hn⟩ : ∃ n : Nat, 1 + n0 % 6 = (n : Int) := ⟨(1 + n0 % 6).toNat, by omega⟩
  obtain ⟨k, hk⟩ : ∃ k : Nat, 1 + k0 % 6 = (k : Int) := ⟨(1 + k0 % 6).toNat, by omega⟩
  have hn6 : 1 ≤ n ∧ n ≤ 6 := by omega
  have hk6 : 1 ≤ k ∧ k ≤ 6 := by omega
  generalize n0 % 6 = q1 at *
  generalize k0 % 6 = q2 at *
  have HN := hid hn
  have HK := hid hk
  obtain ⟨i, hi⟩ : ∃ i : Nat, i0 % (n : Int) = (i : Int) := ⟨(i0 % (n : Int)).toNat, by have := Int.emod_nonneg i0 (show (n : Int) ≠ 0 by omega); omega⟩
  have hin : i < n := by have := Int.emod_lt_of_pos i0 (show 0 < (n : Int) by omega); omega
  have HW3 := hid (within_any i0 (n : Int) w (by omega) (by omega))
  rw [hi] at HW3
  have HCN := hid (count_ok n w (by omega))
  have hF1 := fact_pos n
  have hF2 : fact n ≤ 720 := Nat.le_trans (fact_mono hn6.2) (by decide)
  have HEND := hid (kept_all hn6 hk6 hin)
  have HKL := hid (ktP_le n k i)
  have HKS := hid (fun x => show ktP n k i (x + 1) = ktP n k i x + if (qN k x n).contains i then 1 else 0 from rfl)
  have HMEM := hid (fun x => kept_mem n k x i)
  have HCH := hid (fun (x : Nat) (A : Option Addr) (c : Nat) (W : World) (h : Ints W A n (ptL n x)) => chosen_try n k x A c W h (by omega) (by omega))
  have HCL := hid (fun x => show (upL (pN k (ptL n x) n)).length ≤ 12 by rw [upL_len, pN_len]; omega)
  have hmin := run_minNN (P := Try.prog) k n (min k n) rfl
  have hmk : min k n ≤ 6 := by omega
  have H0 : Hid (ktP n k i 0 = 0) := rfl
  clear hi hn hk
  obtain ⟨hn1, hn2⟩ := hn6
  obtain ⟨hk1, hk2⟩ := hk6
  generalize min k n = mi at *
  generalize fact n = F at *
  go_enter Try.func6, Try.ntmps6
  go_wp2_with fail
  refine HW1.out.mono ?_
  rintro e w' ⟨rfl, rfl⟩
  clear HW1
  go_wp2_with fail
  refine HW2.out.mono ?_
  rintro e w' ⟨rfl, rfl⟩
  clear HW2
  go_wp2_with fail
  rw [HN.out, HK.out]
  clear a1 a2 b1 b2 HN HK
  refine HW3.out.mono ?_
  rintro e w' ⟨rfl, rfl⟩
  clear HW3
  go_wp2_with fail
  refine HCN.out.mono ?_
  rintro e w' ⟨rfl, rfl⟩
  clear HCN
  go_wp2_with fail
  refine (works_any w).mono ?_
  rintro e w1 ⟨rfl, hb⟩
  have HB1 := hid hb
  clear hb
  go_wp2_with fail
  go_loopg [9, 36] F (fun g u s wr => ∃ x : Nat, x ≤ F ∧ F - x ≤ g ∧ s = .int .i64 (x : Int) ∧ u = .int .i64 ((ktP n k i x : Nat) : Int) ∧ Below w.heap.size w wr)
  case atStart => exact ⟨0, by omega, by omega, rfl, by rw [H0.out]; rfl, HB1.out⟩
  case round =>
    obtain ⟨x, hx, hg, rfl, rfl, hb⟩ := hrel
    have HB := hid hb
    clear hb
    have hkl := HKL.out x
    by_cases hlt : x < F
    · obtain ⟨wx, rfl⟩ : ∃ wx, wx = wr := ⟨_, rfl⟩
      go_wp2_with fail
      go_loopg [10, 11, 40] n (fun g sv lv iv wq => ∃ j : Nat, j ≤ n ∧ n - j ≤ g ∧ iv = .int .i64 (j : Int) ∧ sv = .int .i64 ((x / fact j : Nat) : Int) ∧ OwnInts wq wx.heap.size lv (ptL j x) ∧ Below wx.heap.size wx wq)
      case atStart => exact ⟨0, by omega, by omega, rfl, by rw [show fact 0 = 1 from rfl, Nat.div_one], OwnInts.nil _ _, Below.refl _ _⟩
      case round =>
        obtain ⟨j, hj, hgj, rfl, rfl, ho, hb⟩ := hrel
        have HO := hid ho
        have HBQ := hid hb
        clear ho hb
        by_cases hjn : j < n
        · have HX := hid (ptL_step j x)
          have HD := hid (ptL_len j x)
          have HF := hid (fact_step x j)
          have hq : x / fact j ≤ 720 := Nat.le_trans (Nat.div_le_self _ _) (by omega)
          generalize x / fact j = q at *
          generalize ptL j x = L at *
          have HQ1 : Hid ((q : Int) % ((j : Int) + 1) = ((q % (j + 1) : Nat) : Int)) := by simp [Hid]
          have hq2 : x / fact (j + 1) ≤ 720 := by rw [← HF.out]; exact Nat.le_trans (Nat.div_le_self _ _) hq
          have HQ2 : Hid ((q : Int) / ((j : Int) + 1) = ((x / fact (j + 1) : Nat) : Int)) := by rw [← HF.out]; simp [Hid]
          have hb1 : 0 ≤ (q : Int) / ((j : Int) + 1) := by rw [HQ2.out]; exact Int.natCast_nonneg _
          have hb2 : (q : Int) / ((j : Int) + 1) ≤ 720 := by rw [HQ2.out]; omega
          clear HF hq2
          go_wp2_with (at_builtin; refine wpList_app1 _ rfl (.tmp 43) (.tmp 48) rfl wx.heap.size _ L ((q : Int) % ((j : Int) + 1)) rfl rfl HO.out (by rw [HD.out]; omega) HBQ.out.size ?_)
          intro v' w4 ho1 _ hb4
          rw [HQ1.out, ← HX.out] at ho1
          have HO1 := hid ho1
          have HB4 := hid (HBQ.out.trans hb4)
          clear ho1 hb4
          go_wp2
          go_roundg (n - (j + 1))
          case measure => omega
          case rel => exact ⟨j + 1, by omega, by omega, by go_num, by rw [← HQ2.out], HO1.out, HB4.out⟩
        · obtain rfl : j = n := by omega
          have HBW := hid (below_step HB.out (Nat.le_refl _) HBQ.out)
          obtain ⟨A5, c5, rfl, hI5, -⟩ := HO.out.ints
          rw [ptL_len] at hI5 ⊢
          have HDL := hid (HCH.out x A5 c5 wr hI5)
          have HM := hid (HMEM.out x)
          have HS := hid (HKS.out x)
          have hl := HCL.out x
          clear hI5 HO HBQ HB HCH HMEM HKS HCL
          generalize upL (pN k (ptL j x) j) = p at *
          go_wp2_with fail
          refine HDL.out.mono ?_
          rintro e w5 ⟨v5, rfl, ho, hb⟩
          have HB5 := hid (below_step HBW.out (Nat.le_refl _) hb)
          obtain ⟨A6, c6, rfl, hI6, hk6⟩ := ho.ints
          have HCO := hid (contains_any A6 p.length c6 p (i : Int) w5 hI6 (by omega))
          clear ho hb hI6 hk6 HDL HBW
          go_wp2_with fail
          refine (HCO.out).mono ?_
          rintro e w' ⟨rfl, rfl⟩
          rw [HM.out]
          cases hz : (qN k x j).contains i with
          | true =>
            rw [hz] at HS
            go_wp2
            go_roundg (F - (x + 1))
            case measure => omega
            case rel => exact ⟨x + 1, by omega, by omega, by go_num, by rw [HS.out]; go_num, HB5.out⟩
          | false =>
            rw [hz] at HS
            go_wp2
            go_roundg (F - (x + 1))
            case measure => omega
            case rel => exact ⟨x + 1, by omega, by omega, by go_num, by rw [HS.out]; go_num, HB5.out⟩
    · obtain rfl : x = F := by omega
      have HE := HEND.out
      have h1 : ktP n k i x * n ≤ 720 * 6 := Nat.mul_le_mul (by omega) hn2
      have h2 : x * mi ≤ 720 * 6 := Nat.mul_le_mul hF2 hmk
      have h3 : ((ktP n k i x : Nat) : Int) * (n : Int) = ((ktP n k i x * n : Nat) : Int) := (Int.natCast_mul _ _).symm
      have h4 : (x : Int) * (mi : Int) = ((x * mi : Nat) : Int) := (Int.natCast_mul _ _).symm
      have h5 : IntKind.i64.wrap (((ktP n k i x : Nat) : Int) * (n : Int)) = ((ktP n k i x : Nat) : Int) * (n : Int) := by rw [h3]; exact IntWalk.i64_in _ (by omega)
      have h6 : IntKind.i64.wrap ((x : Int) * (mi : Int)) = (x : Int) * (mi : Int) := by rw [h4]; exact IntWalk.i64_in _ (by omega)
      have h7 : (((ktP n k i x : Nat) : Int) * (n : Int) == (x : Int) * (mi : Int)) = true := by rw [h3, h4, HE]; simp
      clear HE h1 h2 h3 h4 HEND HKL HKS HMEM HCH HCL
      generalize ktP n k i x = t at *
      go_wp2
      go_ret
      exact ⟨rfl, HB.out⟩

end Go.Proofs.Ytaklchehamkgcaa
