/-
  Proved: castlaw.RankSays returns true whatever its arguments.
-/
import Derived.Test.YtclhglbkgjgafaaRankE
import Derived.Test.YtclhglbkgjgafaaAll
namespace Go.Proofs.Ytclhglbkgjgafaa
open Go.RowKit

set_option maxHeartbeats 2000000 in
set_option maxRecDepth 100000 in
theorem rankSays_BE (A0 : Option Addr) (n0 c0 : Nat) (p : List Int) (n k : Int) (w : World) (h0 : Ints w A0 n0 p) (_hc0 : n0 ≤ c0) (_hm0 : c0 ≤ 9223372036854775807) (hn : n < 0 ∨ 10 < n) (hp : permErr p ≠ 0) :
    Calls Try.prog 3 #[.slice A0 n0 c0, .int .i64 n, .int .i64 k] w fun e w' => e = .returned (.bool true) ∧ Below w.heap.size w w' := by
  have HPE := hid hp
  clear hp
  have HN := hid hn
  clear hn
  have HB0 := hid (Below.refl w.heap.size w)
  have HA0 : Hid (All w [(A0, n0, p)]) := ⟨h0, trivial⟩
  clear h0
  go_enter Try.func3, Try.ntmps3
  go_wp2_with fail
  refine (code_err A0 n0 c0 p _ HA0.out.1 HPE.out (by omega)).mono ?_
  rintro e w1 ⟨rfl, hb⟩
  have HB1 := hid (below_step HB0.out (Nat.le_refl _) hb)
  have HA1 : Hid (All w1 [(A0, n0, p)]) := HA0.out.keep hb
  clear HA0 HB0
  clear hb
  go_wp2_with fail
  refine (of_err A0 n0 c0 p _ HA1.out.1 HPE.out (by omega)).mono ?_
  rintro e w2 ⟨rfl, hb⟩
  have HB2 := hid (below_step HB1.out (Nat.le_refl _) hb)
  have HA2 : Hid (All w2 [(A0, n0, p)]) := HA1.out.keep hb
  clear HA1 HB1
  clear hb
  go_wp2_with fail
  refine (next_err A0 n0 c0 p _ HA2.out.1 HPE.out (by omega)).mono ?_
  rintro e w3 ⟨rfl, hb⟩
  have HB3 := hid (below_step HB2.out (Nat.le_refl _) hb)
  have HA3 : Hid (All w3 [(A0, n0, p)]) := HA2.out.keep hb
  clear HA2 HB2
  clear hb
  go_wp2_with fail
  refine (count_bad n _ HN.out).mono ?_
  rintro e w' ⟨rfl, rfl⟩
  go_wp2_with fail
  refine (at_bad1 n k _ HN.out).mono ?_
  rintro e w' ⟨rfl, rfl⟩
  have hN := HN.out
  rcases hN with hN | hN
  all_goals
    go_wp2_with fail
    refine (refErr_any A0 n0 c0 p _ HA3.out.1 (by omega)).mono ?_
    rintro e w' ⟨rfl, rfl⟩
    have hne : (permErr p != 0) = true := by simpa using HPE.out
    have hee : (permErr p == permErr p) = true := by simp
    go_wp2
    go_ret
    exact ⟨rfl, HB3.out⟩

set_option maxHeartbeats 2000000 in
set_option maxRecDepth 100000 in
theorem rankSays_BL (A0 : Option Addr) (n0 c0 : Nat) (p : List Int) (n k : Int) (w : World) (h0 : Ints w A0 n0 p) (hc0 : n0 ≤ c0) (_hm0 : c0 ≤ 9223372036854775807) (hn : n < 0 ∨ 10 < n) (hp : permErr p = 0) (hl : rk p + 1 = fact n0) :
    Calls Try.prog 3 #[.slice A0 n0 c0, .int .i64 n, .int .i64 k] w fun e w' => e = .returned (.bool true) ∧ Below w.heap.size w w' := by
  have hn10 : n0 ≤ 10 := by rw [← h0.len]; exact (permErr_ok.1 hp).1
  have HPP := hid (permErr_ok.1 hp).2
  have HLA := hid hl
  have HL := hid h0.len
  have hrk : rk p < fact n0 := by have := rk_lt p; rwa [h0.len] at this
  have hf0 := fact_ten hn10
  have HRK := hid hrk
  have HF0 := hid hf0
  clear hl hrk hf0
  have HPE := hid hp
  clear hp
  have HN := hid hn
  clear hn
  have HB0 := hid (Below.refl w.heap.size w)
  have HA0 : Hid (All w [(A0, n0, p)]) := ⟨h0, trivial⟩
  clear h0
  go_enter Try.func3, Try.ntmps3
  go_wp2_with fail
  refine (code_ok A0 n0 c0 p _ HA0.out.1 HPE.out hc0).mono ?_
  rintro e w1 ⟨B, nB, cB, rfl, hb, hI, hcap⟩
  obtain rfl : n0 = nB := by rw [← hI.len, length_codeL, HL.out]
  have HB1 := hid (below_step HB0.out (Nat.le_refl _) hb)
  have HA1 : Hid (All w1 [(B, n0, codeL p), (A0, n0, p)]) := ⟨hI, HA0.out.keep hb⟩
  clear HA0 HB0
  clear hb hI hcap
  go_wp2_with fail
  refine (of_ok A0 n0 c0 p _ HA1.out.2.1 HPE.out hc0).mono ?_
  rintro e w2 ⟨rfl, hb⟩
  have HB2 := hid (below_step HB1.out (Nat.le_refl _) hb)
  have HA2 : Hid (All w2 [(B, n0, codeL p), (A0, n0, p)]) := HA1.out.keep hb
  clear HA1 HB1
  clear hb
  go_wp2_with fail
  refine (next_last A0 n0 c0 p _ HA2.out.2.1 HPE.out HLA.out).mono ?_
  rintro e w3 ⟨rfl, hb⟩
  have HB3 := hid (below_step HB2.out (Nat.le_refl _) hb)
  have HA3 : Hid (All w3 [(B, n0, codeL p), (A0, n0, p)]) := HA2.out.keep hb
  clear HA2 HB2
  clear hb
  go_wp2_with fail
  refine (count_bad n _ HN.out).mono ?_
  rintro e w' ⟨rfl, rfl⟩
  go_wp2_with fail
  refine (at_bad1 n k _ HN.out).mono ?_
  rintro e w' ⟨rfl, rfl⟩
  have hN := HN.out
  rcases hN with hN | hN
  all_goals
    go_wp2_with fail
    refine (refErr_any A0 n0 c0 p _ HA3.out.2.1 (by omega)).mono ?_
    rintro e w' ⟨rfl, rfl⟩
    rw [HPE.out]
    go_wp2_with fail
    refine (rankOf_ok n0 A0 c0 p _ HA3.out.2.1 HPP.out hn10 hc0).mono ?_
    rintro e w7 ⟨rfl, hb⟩
    have HB4 := hid (below_step HB3.out (Nat.le_refl _) hb)
    have HA4 : Hid (All w7 [(B, n0, codeL p), (A0, n0, p)]) := HA3.out.keep hb
    clear HA3 HB3
    clear hb
    have HIP := hid (show Ints w7 A0 n0 p from HA4.out.2.1)
    have HIC := hid (show Ints w7 B n0 (codeL p) from HA4.out.1)
    go_wp2_with fail
    go_loopg [160] n0 (fun g s wr => ∃ i t : Nat, i ≤ n0 ∧ n0 - i ≤ g ∧ s = .int .i64 i ∧ wr = w7.drewN t)
    case atStart => exact ⟨0, 0, Nat.zero_le _, by omega, rfl, rfl⟩
    case round =>
      obtain ⟨i, t, hi, hg, rfl, hwr⟩ := hrel
      obtain ⟨w8, rfl⟩ : ∃ w8, w8 = wr := ⟨wr, rfl⟩
      have HW := hid hwr
      clear hwr
      by_cases hlt : i < n0
      · have hIP : Ints w8 A0 n0 p := by rw [HW.out]; exact HIP.out.drewN t
        have hIC : Ints w8 B n0 (codeL p) := by rw [HW.out]; exact HIC.out.drewN t
        obtain ⟨b, o, rfl, hb, hcell⟩ := hIP.row (by omega)
        obtain ⟨b2, o2, rfl, hb2, hcell2⟩ := hIC.row (by omega)
        have HG1 := hid (hcell i hlt)
        have HG2 := hid (hcell2 i hlt)
        have HC := hid hcell
        have HCD := hid (getD_codeL p i (by rw [HL.out]; exact hlt))
        clear hcell hb hIP hIC hb2 hcell2
        go_wp2_with fail
        go_loopg [19, 20] n0 (fun g u s wq => ∃ j t2 : Nat, i + 1 + j ≤ n0 ∧ n0 - j ≤ g ∧ u = .int .i64 (less (p.getD i 0) ((p.drop (i + 1)).take j) : Int) ∧ s = .int .i64 ((i : Int) + 1 + j) ∧ wq = w8.drewN t2)
        case atStart => exact ⟨0, 0, by omega, by omega, rfl, by go_num, rfl⟩
        case round =>
          obtain ⟨j, t2, hj, hgj, rfl, rfl, hwq⟩ := hrel
          have HWQ := hid hwq
          have g1 : wr.cell? ⟨b, o + i, none⟩ = some (.int .i64 (p.getD i 0)) := by rw [hwq]; exact HG1.out
          have g2 : wr.cell? ⟨b2, o2 + i, none⟩ = some (.int .i64 ((codeL p).getD i 0)) := by rw [hwq]; exact HG2.out
          have hle : less (p.getD i 0) ((p.drop (i + 1)).take j) ≤ n0 := by
            have := less_le (p.getD i 0) ((p.drop (i + 1)).take j)
            have h2 := List.length_take_le j (p.drop (i + 1))
            omega
          clear hwq
          by_cases hjl : i + 1 + j < n0
          · have g3 : wr.cell? ⟨b, o + (i + 1 + j), none⟩ = some (.int .i64 (p.getD (i + 1 + j) 0)) := by rw [HWQ.out]; exact HC.out (i + 1 + j) hjl
            have HS := hid (less_step (p := p) (k := i) (m := j) (by rw [HL.out]; exact hjl))
            have hz0 : (0 : Int) ≤ (i : Int) + 1 + j := by omega
            have hz1 : ((i : Int) + 1 + j).toNat = i + 1 + j := by omega
            have hz2 : (i : Int) + 1 + j < (n0 : Int) := by omega
            clear g2
            generalize hx : p.getD i 0 = x at g1 HS hle ⊢
            have HX := hid hx
            clear hx
            generalize p.getD (i + 1 + j) 0 = y at g3 HS
            generalize less x ((p.drop (i + 1)).take j) = L at HS hle ⊢
            by_cases hyx : y < x
            · rw [if_pos hyx] at HS
              go_wp2_with fail
              go_region
              go_wp2
              go_roundg (n0 - (j + 1))
              case measure => omega
              case rel => exact ⟨j + 1, t2 + 1, by omega, by omega, by rw [HX.out, HS.out]; go_num, by go_num, by rw [HWQ.out]; rfl⟩
            · rw [if_neg hyx] at HS
              go_wp2_with fail
              go_region
              go_wp2
              go_roundg (n0 - (j + 1))
              case measure => omega
              case rel => exact ⟨j + 1, t2 + 1, by omega, by omega, by rw [HX.out, HS.out]; rfl, by go_num, by rw [HWQ.out]; rfl⟩
          · have HJE : Hid ((less (p.getD i 0) ((p.drop (i + 1)).take j) : Int) = (codeL p).getD i 0) := by
              rw [HCD.out, List.take_of_length_le (by rw [List.length_drop, HL.out]; omega)]; exact rfl
            rw [HJE.out] at *
            have hz2 : ¬ (i : Int) + 1 + j < (n0 : Int) := by omega
            have hcc : ((codeL p).getD i 0 != (codeL p).getD i 0) = false := by simp
            generalize (codeL p).getD i 0 = y at g2 hcc ⊢
            go_wp2
            go_roundg (n0 - (i + 1))
            case measure => omega
            case rel => exact ⟨i + 1, t + t2, by omega, by omega, by go_num, by rw [HWQ.out, HW.out, World.drewN_drewN]⟩
      · have hin : i = n0 := by omega
        subst hin
        have hf0 := HF0.out
        have hrk := HRK.out
        have HB8 : Hid (Below w.heap.size w w8) := by rw [HW.out]; exact below_drewN HB4.out t
        go_wp2_with fail
        refine (factorial_ok i _ hn10).mono ?_
        rintro e w' ⟨rfl, rfl⟩
        have heq : (((rk p : Nat) : Int) == ((fact i : Nat) : Int) - 1) = true := by have := HLA.out; rw [← this]; simp
        go_wp2
        go_ret
        exact ⟨rfl, HB8.out⟩

set_option maxHeartbeats 2000000 in
set_option maxRecDepth 100000 in
theorem rankSays_BM (A0 : Option Addr) (n0 c0 : Nat) (p : List Int) (n k : Int) (w : World) (h0 : Ints w A0 n0 p) (hc0 : n0 ≤ c0) (_hm0 : c0 ≤ 9223372036854775807) (hn : n < 0 ∨ 10 < n) (hp : permErr p = 0) (hl : rk p + 1 < fact n0) :
    Calls Try.prog 3 #[.slice A0 n0 c0, .int .i64 n, .int .i64 k] w fun e w' => e = .returned (.bool true) ∧ Below w.heap.size w w' := by
  have hn10 : n0 ≤ 10 := by rw [← h0.len]; exact (permErr_ok.1 hp).1
  have HPP := hid (permErr_ok.1 hp).2
  have HLA := hid hl
  have HL := hid h0.len
  have hrk : rk p < fact n0 := by have := rk_lt p; rwa [h0.len] at this
  have hf0 := fact_ten hn10
  have HRK := hid hrk
  have HF0 := hid hf0
  clear hl hrk hf0
  have HPE := hid hp
  clear hp
  have HN := hid hn
  clear hn
  have HB0 := hid (Below.refl w.heap.size w)
  have HA0 : Hid (All w [(A0, n0, p)]) := ⟨h0, trivial⟩
  clear h0
  go_enter Try.func3, Try.ntmps3
  go_wp2_with fail
  refine (code_ok A0 n0 c0 p _ HA0.out.1 HPE.out hc0).mono ?_
  rintro e w1 ⟨B, nB, cB, rfl, hb, hI, hcap⟩
  obtain rfl : n0 = nB := by rw [← hI.len, length_codeL, HL.out]
  have HB1 := hid (below_step HB0.out (Nat.le_refl _) hb)
  have HA1 : Hid (All w1 [(B, n0, codeL p), (A0, n0, p)]) := ⟨hI, HA0.out.keep hb⟩
  clear HA0 HB0
  clear hb hI hcap
  go_wp2_with fail
  refine (of_ok A0 n0 c0 p _ HA1.out.2.1 HPE.out hc0).mono ?_
  rintro e w2 ⟨rfl, hb⟩
  have HB2 := hid (below_step HB1.out (Nat.le_refl _) hb)
  have HA2 : Hid (All w2 [(B, n0, codeL p), (A0, n0, p)]) := HA1.out.keep hb
  clear HA1 HB1
  clear hb
  go_wp2_with fail
  refine (next_ok A0 n0 c0 p _ HA2.out.2.1 HPE.out HLA.out).mono ?_
  rintro e w3 ⟨Q, cQ, q, rfl, hI, hcap, hb, hpm, hrq⟩
  rw [HL.out] at hI hcap
  rw [HL.out]
  have HCQ := hid (hcap.1)
  have HPM := hid (hpm)
  have HRQ := hid (hrq)
  have HB3 := hid (below_step HB2.out (Nat.le_refl _) hb)
  have HA3 : Hid (All w3 [(Q, n0, q), (B, n0, codeL p), (A0, n0, p)]) := ⟨hI, HA2.out.keep hb⟩
  clear HA2 HB2
  clear hb hI hcap hrq hpm
  go_wp2_with fail
  refine (count_bad n _ HN.out).mono ?_
  rintro e w' ⟨rfl, rfl⟩
  go_wp2_with fail
  refine (at_bad1 n k _ HN.out).mono ?_
  rintro e w' ⟨rfl, rfl⟩
  have hN := HN.out
  rcases hN with hN | hN
  all_goals
    go_wp2_with fail
    refine (refErr_any A0 n0 c0 p _ HA3.out.2.2.1 (by omega)).mono ?_
    rintro e w' ⟨rfl, rfl⟩
    rw [HPE.out]
    go_wp2_with fail
    refine (rankOf_ok n0 A0 c0 p _ HA3.out.2.2.1 HPP.out hn10 hc0).mono ?_
    rintro e w7 ⟨rfl, hb⟩
    have HB4 := hid (below_step HB3.out (Nat.le_refl _) hb)
    have HA4 : Hid (All w7 [(Q, n0, q), (B, n0, codeL p), (A0, n0, p)]) := HA3.out.keep hb
    clear HA3 HB3
    clear hb
    have HIP := hid (show Ints w7 A0 n0 p from HA4.out.2.2.1)
    have HIC := hid (show Ints w7 B n0 (codeL p) from HA4.out.2.1)
    have HIQ := hid (show Ints w7 Q n0 q from HA4.out.1)
    go_wp2_with fail
    go_loopg [160] n0 (fun g s wr => ∃ i t : Nat, i ≤ n0 ∧ n0 - i ≤ g ∧ s = .int .i64 i ∧ wr = w7.drewN t)
    case atStart => exact ⟨0, 0, Nat.zero_le _, by omega, rfl, rfl⟩
    case round =>
      obtain ⟨i, t, hi, hg, rfl, hwr⟩ := hrel
      obtain ⟨w8, rfl⟩ : ∃ w8, w8 = wr := ⟨wr, rfl⟩
      have HW := hid hwr
      clear hwr
      by_cases hlt : i < n0
      · have hIP : Ints w8 A0 n0 p := by rw [HW.out]; exact HIP.out.drewN t
        have hIC : Ints w8 B n0 (codeL p) := by rw [HW.out]; exact HIC.out.drewN t
        obtain ⟨b, o, rfl, hb, hcell⟩ := hIP.row (by omega)
        obtain ⟨b2, o2, rfl, hb2, hcell2⟩ := hIC.row (by omega)
        have HG1 := hid (hcell i hlt)
        have HG2 := hid (hcell2 i hlt)
        have HC := hid hcell
        have HCD := hid (getD_codeL p i (by rw [HL.out]; exact hlt))
        clear hcell hb hIP hIC hb2 hcell2
        go_wp2_with fail
        go_loopg [19, 20] n0 (fun g u s wq => ∃ j t2 : Nat, i + 1 + j ≤ n0 ∧ n0 - j ≤ g ∧ u = .int .i64 (less (p.getD i 0) ((p.drop (i + 1)).take j) : Int) ∧ s = .int .i64 ((i : Int) + 1 + j) ∧ wq = w8.drewN t2)
        case atStart => exact ⟨0, 0, by omega, by omega, rfl, by go_num, rfl⟩
        case round =>
          obtain ⟨j, t2, hj, hgj, rfl, rfl, hwq⟩ := hrel
          have HWQ := hid hwq
          have g1 : wr.cell? ⟨b, o + i, none⟩ = some (.int .i64 (p.getD i 0)) := by rw [hwq]; exact HG1.out
          have g2 : wr.cell? ⟨b2, o2 + i, none⟩ = some (.int .i64 ((codeL p).getD i 0)) := by rw [hwq]; exact HG2.out
          have hle : less (p.getD i 0) ((p.drop (i + 1)).take j) ≤ n0 := by
            have := less_le (p.getD i 0) ((p.drop (i + 1)).take j)
            have h2 := List.length_take_le j (p.drop (i + 1))
            omega
          clear hwq
          by_cases hjl : i + 1 + j < n0
          · have g3 : wr.cell? ⟨b, o + (i + 1 + j), none⟩ = some (.int .i64 (p.getD (i + 1 + j) 0)) := by rw [HWQ.out]; exact HC.out (i + 1 + j) hjl
            have HS := hid (less_step (p := p) (k := i) (m := j) (by rw [HL.out]; exact hjl))
            have hz0 : (0 : Int) ≤ (i : Int) + 1 + j := by omega
            have hz1 : ((i : Int) + 1 + j).toNat = i + 1 + j := by omega
            have hz2 : (i : Int) + 1 + j < (n0 : Int) := by omega
            clear g2
            generalize hx : p.getD i 0 = x at g1 HS hle ⊢
            have HX := hid hx
            clear hx
            generalize p.getD (i + 1 + j) 0 = y at g3 HS
            generalize less x ((p.drop (i + 1)).take j) = L at HS hle ⊢
            by_cases hyx : y < x
            · rw [if_pos hyx] at HS
              go_wp2_with fail
              go_region
              go_wp2
              go_roundg (n0 - (j + 1))
              case measure => omega
              case rel => exact ⟨j + 1, t2 + 1, by omega, by omega, by rw [HX.out, HS.out]; go_num, by go_num, by rw [HWQ.out]; rfl⟩
            · rw [if_neg hyx] at HS
              go_wp2_with fail
              go_region
              go_wp2
              go_roundg (n0 - (j + 1))
              case measure => omega
              case rel => exact ⟨j + 1, t2 + 1, by omega, by omega, by rw [HX.out, HS.out]; rfl, by go_num, by rw [HWQ.out]; rfl⟩
          · have HJE : Hid ((less (p.getD i 0) ((p.drop (i + 1)).take j) : Int) = (codeL p).getD i 0) := by
              rw [HCD.out, List.take_of_length_le (by rw [List.length_drop, HL.out]; omega)]; exact rfl
            rw [HJE.out] at *
            have hz2 : ¬ (i : Int) + 1 + j < (n0 : Int) := by omega
            have hcc : ((codeL p).getD i 0 != (codeL p).getD i 0) = false := by simp
            generalize (codeL p).getD i 0 = y at g2 hcc ⊢
            go_wp2
            go_roundg (n0 - (i + 1))
            case measure => omega
            case rel => exact ⟨i + 1, t + t2, by omega, by omega, by go_num, by rw [HWQ.out, HW.out, World.drewN_drewN]⟩
      · have hin : i = n0 := by omega
        subst hin
        have hf0 := HF0.out
        have hrk := HRK.out
        have HB8 : Hid (Below w.heap.size w w8) := by rw [HW.out]; exact below_drewN HB4.out t
        go_wp2_with fail
        refine (factorial_ok i _ hn10).mono ?_
        rintro e w' ⟨rfl, rfl⟩
        have heq : (((rk p : Nat) : Int) == ((fact i : Nat) : Int) - 1) = false := by have := HLA.out; simp; omega
        have hIQ : Ints w8 Q i q := by rw [HW.out]; exact HIQ.out.drewN t
        have HIQ2 := hid hIQ
        have HLQ := hid hIQ.len
        have HPQ : Hid (IsPerm q) := by show IsPerm q; unfold IsPerm; rw [HLQ.out, ← HL.out]; exact HPM.out.trans HPP.out
        clear hIQ
        go_wp2_with fail
        refine (refErr_any Q i cQ q _ HIQ2.out (by omega)).mono ?_
        rintro e w' ⟨rfl, rfl⟩
        rw [permErr_of HPQ.out (by rw [HLQ.out]; exact hn10)]
        go_wp2_with fail
        refine (rankOf_ok i Q cQ q _ HIQ2.out HPQ.out hn10 HCQ.out).mono ?_
        rintro e w9 ⟨rfl, hb9⟩
        have HB9 := hid (below_step HB8.out (Nat.le_refl _) hb9)
        rw [HRQ.out]
        have hee : (((rk p + 1 : Nat) : Int) == ((rk p : Nat) : Int) + 1) = true := by simp
        clear hb9
        go_wp2
        go_ret
        exact ⟨rfl, HB9.out⟩

set_option maxHeartbeats 2000000 in
set_option maxRecDepth 100000 in
theorem rankSays_KE (A0 : Option Addr) (n0 c0 : Nat) (p : List Int) (n : Nat) (k : Int) (w : World) (h0 : Ints w A0 n0 p) (_hc0 : n0 ≤ c0) (_hm0 : c0 ≤ 9223372036854775807) (hn : n ≤ 10) (hk : k < 0 ∨ ((fact n : Nat) : Int) ≤ k) (hp : permErr p ≠ 0) :
    Calls Try.prog 3 #[.slice A0 n0 c0, .int .i64 (n : Int), .int .i64 k] w fun e w' => e = .returned (.bool true) ∧ Below w.heap.size w w' := by
  have HPE := hid hp
  clear hp
  have HK := hid hk
  have HFN := hid (fact_ten hn)
  clear hk
  have HB0 := hid (Below.refl w.heap.size w)
  have HA0 : Hid (All w [(A0, n0, p)]) := ⟨h0, trivial⟩
  clear h0
  go_enter Try.func3, Try.ntmps3
  go_wp2_with fail
  refine (code_err A0 n0 c0 p _ HA0.out.1 HPE.out (by omega)).mono ?_
  rintro e w1 ⟨rfl, hb⟩
  have HB1 := hid (below_step HB0.out (Nat.le_refl _) hb)
  have HA1 : Hid (All w1 [(A0, n0, p)]) := HA0.out.keep hb
  clear HA0 HB0
  clear hb
  go_wp2_with fail
  refine (of_err A0 n0 c0 p _ HA1.out.1 HPE.out (by omega)).mono ?_
  rintro e w2 ⟨rfl, hb⟩
  have HB2 := hid (below_step HB1.out (Nat.le_refl _) hb)
  have HA2 : Hid (All w2 [(A0, n0, p)]) := HA1.out.keep hb
  clear HA1 HB1
  clear hb
  go_wp2_with fail
  refine (next_err A0 n0 c0 p _ HA2.out.1 HPE.out (by omega)).mono ?_
  rintro e w3 ⟨rfl, hb⟩
  have HB3 := hid (below_step HB2.out (Nat.le_refl _) hb)
  have HA3 : Hid (All w3 [(A0, n0, p)]) := HA2.out.keep hb
  clear HA2 HB2
  clear hb
  go_wp2_with fail
  refine (count_ok n _ hn).mono ?_
  rintro e w' ⟨rfl, rfl⟩
  go_wp2_with fail
  refine (at_bad2 n k _ hn HK.out).mono ?_
  rintro e w' ⟨rfl, rfl⟩
  have hFN := HFN.out
  go_wp2_with fail
  refine (factorial_ok n _ hn).mono ?_
  rintro e w' ⟨rfl, rfl⟩
  have hK := HK.out
  rcases hK with hK | hK
  all_goals
    go_wp2_with fail
    refine (refErr_any A0 n0 c0 p _ HA3.out.1 (by omega)).mono ?_
    rintro e w' ⟨rfl, rfl⟩
    have hne : (permErr p != 0) = true := by simpa using HPE.out
    have hee : (permErr p == permErr p) = true := by simp
    go_wp2
    go_ret
    exact ⟨rfl, HB3.out⟩

set_option maxHeartbeats 2000000 in
set_option maxRecDepth 100000 in
theorem rankSays_KL (A0 : Option Addr) (n0 c0 : Nat) (p : List Int) (n : Nat) (k : Int) (w : World) (h0 : Ints w A0 n0 p) (hc0 : n0 ≤ c0) (_hm0 : c0 ≤ 9223372036854775807) (hn : n ≤ 10) (hk : k < 0 ∨ ((fact n : Nat) : Int) ≤ k) (hp : permErr p = 0) (hl : rk p + 1 = fact n0) :
    Calls Try.prog 3 #[.slice A0 n0 c0, .int .i64 (n : Int), .int .i64 k] w fun e w' => e = .returned (.bool true) ∧ Below w.heap.size w w' := by
  have hn10 : n0 ≤ 10 := by rw [← h0.len]; exact (permErr_ok.1 hp).1
  have HPP := hid (permErr_ok.1 hp).2
  have HLA := hid hl
  have HL := hid h0.len
  have hrk : rk p < fact n0 := by have := rk_lt p; rwa [h0.len] at this
  have hf0 := fact_ten hn10
  have HRK := hid hrk
  have HF0 := hid hf0
  clear hl hrk hf0
  have HPE := hid hp
  clear hp
  have HK := hid hk
  have HFN := hid (fact_ten hn)
  clear hk
  have HB0 := hid (Below.refl w.heap.size w)
  have HA0 : Hid (All w [(A0, n0, p)]) := ⟨h0, trivial⟩
  clear h0
  go_enter Try.func3, Try.ntmps3
  go_wp2_with fail
  refine (code_ok A0 n0 c0 p _ HA0.out.1 HPE.out hc0).mono ?_
  rintro e w1 ⟨B, nB, cB, rfl, hb, hI, hcap⟩
  obtain rfl : n0 = nB := by rw [← hI.len, length_codeL, HL.out]
  have HB1 := hid (below_step HB0.out (Nat.le_refl _) hb)
  have HA1 : Hid (All w1 [(B, n0, codeL p), (A0, n0, p)]) := ⟨hI, HA0.out.keep hb⟩
  clear HA0 HB0
  clear hb hI hcap
  go_wp2_with fail
  refine (of_ok A0 n0 c0 p _ HA1.out.2.1 HPE.out hc0).mono ?_
  rintro e w2 ⟨rfl, hb⟩
  have HB2 := hid (below_step HB1.out (Nat.le_refl _) hb)
  have HA2 : Hid (All w2 [(B, n0, codeL p), (A0, n0, p)]) := HA1.out.keep hb
  clear HA1 HB1
  clear hb
  go_wp2_with fail
  refine (next_last A0 n0 c0 p _ HA2.out.2.1 HPE.out HLA.out).mono ?_
  rintro e w3 ⟨rfl, hb⟩
  have HB3 := hid (below_step HB2.out (Nat.le_refl _) hb)
  have HA3 : Hid (All w3 [(B, n0, codeL p), (A0, n0, p)]) := HA2.out.keep hb
  clear HA2 HB2
  clear hb
  go_wp2_with fail
  refine (count_ok n _ hn).mono ?_
  rintro e w' ⟨rfl, rfl⟩
  go_wp2_with fail
  refine (at_bad2 n k _ hn HK.out).mono ?_
  rintro e w' ⟨rfl, rfl⟩
  have hFN := HFN.out
  go_wp2_with fail
  refine (factorial_ok n _ hn).mono ?_
  rintro e w' ⟨rfl, rfl⟩
  have hK := HK.out
  rcases hK with hK | hK
  all_goals
    go_wp2_with fail
    refine (refErr_any A0 n0 c0 p _ HA3.out.2.1 (by omega)).mono ?_
    rintro e w' ⟨rfl, rfl⟩
    rw [HPE.out]
    go_wp2_with fail
    refine (rankOf_ok n0 A0 c0 p _ HA3.out.2.1 HPP.out hn10 hc0).mono ?_
    rintro e w7 ⟨rfl, hb⟩
    have HB4 := hid (below_step HB3.out (Nat.le_refl _) hb)
    have HA4 : Hid (All w7 [(B, n0, codeL p), (A0, n0, p)]) := HA3.out.keep hb
    clear HA3 HB3
    clear hb
    have HIP := hid (show Ints w7 A0 n0 p from HA4.out.2.1)
    have HIC := hid (show Ints w7 B n0 (codeL p) from HA4.out.1)
    go_wp2_with fail
    go_loopg [160] n0 (fun g s wr => ∃ i t : Nat, i ≤ n0 ∧ n0 - i ≤ g ∧ s = .int .i64 i ∧ wr = w7.drewN t)
    case atStart => exact ⟨0, 0, Nat.zero_le _, by omega, rfl, rfl⟩
    case round =>
      obtain ⟨i, t, hi, hg, rfl, hwr⟩ := hrel
      obtain ⟨w8, rfl⟩ : ∃ w8, w8 = wr := ⟨wr, rfl⟩
      have HW := hid hwr
      clear hwr
      by_cases hlt : i < n0
      · have hIP : Ints w8 A0 n0 p := by rw [HW.out]; exact HIP.out.drewN t
        have hIC : Ints w8 B n0 (codeL p) := by rw [HW.out]; exact HIC.out.drewN t
        obtain ⟨b, o, rfl, hb, hcell⟩ := hIP.row (by omega)
        obtain ⟨b2, o2, rfl, hb2, hcell2⟩ := hIC.row (by omega)
        have HG1 := hid (hcell i hlt)
        have HG2 := hid (hcell2 i hlt)
        have HC := hid hcell
        have HCD := hid (getD_codeL p i (by rw [HL.out]; exact hlt))
        clear hcell hb hIP hIC hb2 hcell2
        go_wp2_with fail
        go_loopg [19, 20] n0 (fun g u s wq => ∃ j t2 : Nat, i + 1 + j ≤ n0 ∧ n0 - j ≤ g ∧ u = .int .i64 (less (p.getD i 0) ((p.drop (i + 1)).take j) : Int) ∧ s = .int .i64 ((i : Int) + 1 + j) ∧ wq = w8.drewN t2)
        case atStart => exact ⟨0, 0, by omega, by omega, rfl, by go_num, rfl⟩
        case round =>
          obtain ⟨j, t2, hj, hgj, rfl, rfl, hwq⟩ := hrel
          have HWQ := hid hwq
          have g1 : wr.cell? ⟨b, o + i, none⟩ = some (.int .i64 (p.getD i 0)) := by rw [hwq]; exact HG1.out
          have g2 : wr.cell? ⟨b2, o2 + i, none⟩ = some (.int .i64 ((codeL p).getD i 0)) := by rw [hwq]; exact HG2.out
          have hle : less (p.getD i 0) ((p.drop (i + 1)).take j) ≤ n0 := by
            have := less_le (p.getD i 0) ((p.drop (i + 1)).take j)
            have h2 := List.length_take_le j (p.drop (i + 1))
            omega
          clear hwq
          by_cases hjl : i + 1 + j < n0
          · have g3 : wr.cell? ⟨b, o + (i + 1 + j), none⟩ = some (.int .i64 (p.getD (i + 1 + j) 0)) := by rw [HWQ.out]; exact HC.out (i + 1 + j) hjl
            have HS := hid (less_step (p := p) (k := i) (m := j) (by rw [HL.out]; exact hjl))
            have hz0 : (0 : Int) ≤ (i : Int) + 1 + j := by omega
            have hz1 : ((i : Int) + 1 + j).toNat = i + 1 + j := by omega
            have hz2 : (i : Int) + 1 + j < (n0 : Int) := by omega
            clear g2
            generalize hx : p.getD i 0 = x at g1 HS hle ⊢
            have HX := hid hx
            clear hx
            generalize p.getD (i + 1 + j) 0 = y at g3 HS
            generalize less x ((p.drop (i + 1)).take j) = L at HS hle ⊢
            by_cases hyx : y < x
            · rw [if_pos hyx] at HS
              go_wp2_with fail
              go_region
              go_wp2
              go_roundg (n0 - (j + 1))
              case measure => omega
              case rel => exact ⟨j + 1, t2 + 1, by omega, by omega, by rw [HX.out, HS.out]; go_num, by go_num, by rw [HWQ.out]; rfl⟩
            · rw [if_neg hyx] at HS
              go_wp2_with fail
              go_region
              go_wp2
              go_roundg (n0 - (j + 1))
              case measure => omega
              case rel => exact ⟨j + 1, t2 + 1, by omega, by omega, by rw [HX.out, HS.out]; rfl, by go_num, by rw [HWQ.out]; rfl⟩
          · have HJE : Hid ((less (p.getD i 0) ((p.drop (i + 1)).take j) : Int) = (codeL p).getD i 0) := by
              rw [HCD.out, List.take_of_length_le (by rw [List.length_drop, HL.out]; omega)]; exact rfl
            rw [HJE.out] at *
            have hz2 : ¬ (i : Int) + 1 + j < (n0 : Int) := by omega
            have hcc : ((codeL p).getD i 0 != (codeL p).getD i 0) = false := by simp
            generalize (codeL p).getD i 0 = y at g2 hcc ⊢
            go_wp2
            go_roundg (n0 - (i + 1))
            case measure => omega
            case rel => exact ⟨i + 1, t + t2, by omega, by omega, by go_num, by rw [HWQ.out, HW.out, World.drewN_drewN]⟩
      · have hin : i = n0 := by omega
        subst hin
        have hf0 := HF0.out
        have hrk := HRK.out
        have HB8 : Hid (Below w.heap.size w w8) := by rw [HW.out]; exact below_drewN HB4.out t
        go_wp2_with fail
        refine (factorial_ok i _ hn10).mono ?_
        rintro e w' ⟨rfl, rfl⟩
        have heq : (((rk p : Nat) : Int) == ((fact i : Nat) : Int) - 1) = true := by have := HLA.out; rw [← this]; simp
        go_wp2
        go_ret
        exact ⟨rfl, HB8.out⟩

set_option maxHeartbeats 2000000 in
set_option maxRecDepth 100000 in
theorem rankSays_KM (A0 : Option Addr) (n0 c0 : Nat) (p : List Int) (n : Nat) (k : Int) (w : World) (h0 : Ints w A0 n0 p) (hc0 : n0 ≤ c0) (_hm0 : c0 ≤ 9223372036854775807) (hn : n ≤ 10) (hk : k < 0 ∨ ((fact n : Nat) : Int) ≤ k) (hp : permErr p = 0) (hl : rk p + 1 < fact n0) :
    Calls Try.prog 3 #[.slice A0 n0 c0, .int .i64 (n : Int), .int .i64 k] w fun e w' => e = .returned (.bool true) ∧ Below w.heap.size w w' := by
  have hn10 : n0 ≤ 10 := by rw [← h0.len]; exact (permErr_ok.1 hp).1
  have HPP := hid (permErr_ok.1 hp).2
  have HLA := hid hl
  have HL := hid h0.len
  have hrk : rk p < fact n0 := by have := rk_lt p; rwa [h0.len] at this
  have hf0 := fact_ten hn10
  have HRK := hid hrk
  have HF0 := hid hf0
  clear hl hrk hf0
  have HPE := hid hp
  clear hp
  have HK := hid hk
  have HFN := hid (fact_ten hn)
  clear hk
  have HB0 := hid (Below.refl w.heap.size w)
  have HA0 : Hid (All w [(A0, n0, p)]) := ⟨h0, trivial⟩
  clear h0
  go_enter Try.func3, Try.ntmps3
  go_wp2_with fail
  refine (code_ok A0 n0 c0 p _ HA0.out.1 HPE.out hc0).mono ?_
  rintro e w1 ⟨B, nB, cB, rfl, hb, hI, hcap⟩
  obtain rfl : n0 = nB := by rw [← hI.len, length_codeL, HL.out]
  have HB1 := hid (below_step HB0.out (Nat.le_refl _) hb)
  have HA1 : Hid (All w1 [(B, n0, codeL p), (A0, n0, p)]) := ⟨hI, HA0.out.keep hb⟩
  clear HA0 HB0
  clear hb hI hcap
  go_wp2_with fail
  refine (of_ok A0 n0 c0 p _ HA1.out.2.1 HPE.out hc0).mono ?_
  rintro e w2 ⟨rfl, hb⟩
  have HB2 := hid (below_step HB1.out (Nat.le_refl _) hb)
  have HA2 : Hid (All w2 [(B, n0, codeL p), (A0, n0, p)]) := HA1.out.keep hb
  clear HA1 HB1
  clear hb
  go_wp2_with fail
  refine (next_ok A0 n0 c0 p _ HA2.out.2.1 HPE.out HLA.out).mono ?_
  rintro e w3 ⟨Q, cQ, q, rfl, hI, hcap, hb, hpm, hrq⟩
  rw [HL.out] at hI hcap
  rw [HL.out]
  have HCQ := hid (hcap.1)
  have HPM := hid (hpm)
  have HRQ := hid (hrq)
  have HB3 := hid (below_step HB2.out (Nat.le_refl _) hb)
  have HA3 : Hid (All w3 [(Q, n0, q), (B, n0, codeL p), (A0, n0, p)]) := ⟨hI, HA2.out.keep hb⟩
  clear HA2 HB2
  clear hb hI hcap hrq hpm
  go_wp2_with fail
  refine (count_ok n _ hn).mono ?_
  rintro e w' ⟨rfl, rfl⟩
  go_wp2_with fail
  refine (at_bad2 n k _ hn HK.out).mono ?_
  rintro e w' ⟨rfl, rfl⟩
  have hFN := HFN.out
  go_wp2_with fail
  refine (factorial_ok n _ hn).mono ?_
  rintro e w' ⟨rfl, rfl⟩
  have hK := HK.out
  rcases hK with hK | hK
  all_goals
    go_wp2_with fail
    refine (refErr_any A0 n0 c0 p _ HA3.out.2.2.1 (by omega)).mono ?_
    rintro e w' ⟨rfl, rfl⟩
    rw [HPE.out]
    go_wp2_with fail
    refine (rankOf_ok n0 A0 c0 p _ HA3.out.2.2.1 HPP.out hn10 hc0).mono ?_
    rintro e w7 ⟨rfl, hb⟩
    have HB4 := hid (below_step HB3.out (Nat.le_refl _) hb)
    have HA4 : Hid (All w7 [(Q, n0, q), (B, n0, codeL p), (A0, n0, p)]) := HA3.out.keep hb
    clear HA3 HB3
    clear hb
    have HIP := hid (show Ints w7 A0 n0 p from HA4.out.2.2.1)
    have HIC := hid (show Ints w7 B n0 (codeL p) from HA4.out.2.1)
    have HIQ := hid (show Ints w7 Q n0 q from HA4.out.1)
    go_wp2_with fail
    go_loopg [160] n0 (fun g s wr => ∃ i t : Nat, i ≤ n0 ∧ n0 - i ≤ g ∧ s = .int .i64 i ∧ wr = w7.drewN t)
    case atStart => exact ⟨0, 0, Nat.zero_le _, by omega, rfl, rfl⟩
    case round =>
      obtain ⟨i, t, hi, hg, rfl, hwr⟩ := hrel
      obtain ⟨w8, rfl⟩ : ∃ w8, w8 = wr := ⟨wr, rfl⟩
      have HW := hid hwr
      clear hwr
      by_cases hlt : i < n0
      · have hIP : Ints w8 A0 n0 p := by rw [HW.out]; exact HIP.out.drewN t
        have hIC : Ints w8 B n0 (codeL p) := by rw [HW.out]; exact HIC.out.drewN t
        obtain ⟨b, o, rfl, hb, hcell⟩ := hIP.row (by omega)
        obtain ⟨b2, o2, rfl, hb2, hcell2⟩ := hIC.row (by omega)
        have HG1 := hid (hcell i hlt)
        have HG2 := hid (hcell2 i hlt)
        have HC := hid hcell
        have HCD := hid (getD_codeL p i (by rw [HL.out]; exact hlt))
        clear hcell hb hIP hIC hb2 hcell2
        go_wp2_with fail
        go_loopg [19, 20] n0 (fun g u s wq => ∃ j t2 : Nat, i + 1 + j ≤ n0 ∧ n0 - j ≤ g ∧ u = .int .i64 (less (p.getD i 0) ((p.drop (i + 1)).take j) : Int) ∧ s = .int .i64 ((i : Int) + 1 + j) ∧ wq = w8.drewN t2)
        case atStart => exact ⟨0, 0, by omega, by omega, rfl, by go_num, rfl⟩
        case round =>
          obtain ⟨j, t2, hj, hgj, rfl, rfl, hwq⟩ := hrel
          have HWQ := hid hwq
          have g1 : wr.cell? ⟨b, o + i, none⟩ = some (.int .i64 (p.getD i 0)) := by rw [hwq]; exact HG1.out
          have g2 : wr.cell? ⟨b2, o2 + i, none⟩ = some (.int .i64 ((codeL p).getD i 0)) := by rw [hwq]; exact HG2.out
          have hle : less (p.getD i 0) ((p.drop (i + 1)).take j) ≤ n0 := by
            have := less_le (p.getD i 0) ((p.drop (i + 1)).take j)
            have h2 := List.length_take_le j (p.drop (i + 1))
            omega
          clear hwq
          by_cases hjl : i + 1 + j < n0
          · have g3 : wr.cell? ⟨b, o + (i + 1 + j), none⟩ = some (.int .i64 (p.getD (i + 1 + j) 0)) := by rw [HWQ.out]; exact HC.out (i + 1 + j) hjl
            have HS := hid (less_step (p := p) (k := i) (m := j) (by rw [HL.out]; exact hjl))
            have hz0 : (0 : Int) ≤ (i : Int) + 1 + j := by omega
            have hz1 : ((i : Int) + 1 + j).toNat = i + 1 + j := by omega
            have hz2 : (i : Int) + 1 + j < (n0 : Int) := by omega
            clear g2
            generalize hx : p.getD i 0 = x at g1 HS hle ⊢
            have HX := hid hx
            clear hx
            generalize p.getD (i + 1 + j) 0 = y at g3 HS
            generalize less x ((p.drop (i + 1)).take j) = L at HS hle ⊢
            by_cases hyx : y < x
            · rw [if_pos hyx] at HS
              go_wp2_with fail
              go_region
              go_wp2
              go_roundg (n0 - (j + 1))
              case measure => omega
              case rel => exact ⟨j + 1, t2 + 1, by omega, by omega, by rw [HX.out, HS.out]; go_num, by go_num, by rw [HWQ.out]; rfl⟩
            · rw [if_neg hyx] at HS
              go_wp2_with fail
              go_region
              go_wp2
              go_roundg (n0 - (j + 1))
              case measure => omega
              case rel => exact ⟨j + 1, t2 + 1, by omega, by omega, by rw [HX.out, HS.out]; rfl, by go_num, by rw [HWQ.out]; rfl⟩
          · have HJE : Hid ((less (p.getD i 0) ((p.drop (i + 1)).take j) : Int) = (codeL p).getD i 0) := by
              rw [HCD.out, List.take_of_length_le (by rw [List.length_drop, HL.out]; omega)]; exact rfl
            rw [HJE.out] at *
            have hz2 : ¬ (i : Int) + 1 + j < (n0 : Int) := by omega
            have hcc : ((codeL p).getD i 0 != (codeL p).getD i 0) = false := by simp
            generalize (codeL p).getD i 0 = y at g2 hcc ⊢
            go_wp2
            go_roundg (n0 - (i + 1))
            case measure => omega
            case rel => exact ⟨i + 1, t + t2, by omega, by omega, by go_num, by rw [HWQ.out, HW.out, World.drewN_drewN]⟩
      · have hin : i = n0 := by omega
        subst hin
        have hf0 := HF0.out
        have hrk := HRK.out
        have HB8 : Hid (Below w.heap.size w w8) := by rw [HW.out]; exact below_drewN HB4.out t
        go_wp2_with fail
        refine (factorial_ok i _ hn10).mono ?_
        rintro e w' ⟨rfl, rfl⟩
        have heq : (((rk p : Nat) : Int) == ((fact i : Nat) : Int) - 1) = false := by have := HLA.out; simp; omega
        have hIQ : Ints w8 Q i q := by rw [HW.out]; exact HIQ.out.drewN t
        have HIQ2 := hid hIQ
        have HLQ := hid hIQ.len
        have HPQ : Hid (IsPerm q) := by show IsPerm q; unfold IsPerm; rw [HLQ.out, ← HL.out]; exact HPM.out.trans HPP.out
        clear hIQ
        go_wp2_with fail
        refine (refErr_any Q i cQ q _ HIQ2.out (by omega)).mono ?_
        rintro e w' ⟨rfl, rfl⟩
        rw [permErr_of HPQ.out (by rw [HLQ.out]; exact hn10)]
        go_wp2_with fail
        refine (rankOf_ok i Q cQ q _ HIQ2.out HPQ.out hn10 HCQ.out).mono ?_
        rintro e w9 ⟨rfl, hb9⟩
        have HB9 := hid (below_step HB8.out (Nat.le_refl _) hb9)
        rw [HRQ.out]
        have hee : (((rk p + 1 : Nat) : Int) == ((rk p : Nat) : Int) + 1) = true := by simp
        clear hb9
        go_wp2
        go_ret
        exact ⟨rfl, HB9.out⟩

set_option maxHeartbeats 2000000 in
set_option maxRecDepth 100000 in
theorem rankSays_GE (A0 : Option Addr) (n0 c0 : Nat) (p : List Int) (n k : Nat) (w : World) (h0 : Ints w A0 n0 p) (_hc0 : n0 ≤ c0) (_hm0 : c0 ≤ 9223372036854775807) (hn : n ≤ 10) (hk : k < fact n) (hp : permErr p ≠ 0) :
    Calls Try.prog 3 #[.slice A0 n0 c0, .int .i64 (n : Int), .int .i64 (k : Int)] w fun e w' => e = .returned (.bool true) ∧ Below w.heap.size w w' := by
  have HPE := hid hp
  clear hp
  have HK := hid hk
  have HFN := hid (fact_ten hn)
  clear hk
  have HB0 := hid (Below.refl w.heap.size w)
  have HA0 : Hid (All w [(A0, n0, p)]) := ⟨h0, trivial⟩
  clear h0
  go_enter Try.func3, Try.ntmps3
  go_wp2_with fail
  refine (code_err A0 n0 c0 p _ HA0.out.1 HPE.out (by omega)).mono ?_
  rintro e w1 ⟨rfl, hb⟩
  have HB1 := hid (below_step HB0.out (Nat.le_refl _) hb)
  have HA1 : Hid (All w1 [(A0, n0, p)]) := HA0.out.keep hb
  clear HA0 HB0
  clear hb
  go_wp2_with fail
  refine (of_err A0 n0 c0 p _ HA1.out.1 HPE.out (by omega)).mono ?_
  rintro e w2 ⟨rfl, hb⟩
  have HB2 := hid (below_step HB1.out (Nat.le_refl _) hb)
  have HA2 : Hid (All w2 [(A0, n0, p)]) := HA1.out.keep hb
  clear HA1 HB1
  clear hb
  go_wp2_with fail
  refine (next_err A0 n0 c0 p _ HA2.out.1 HPE.out (by omega)).mono ?_
  rintro e w3 ⟨rfl, hb⟩
  have HB3 := hid (below_step HB2.out (Nat.le_refl _) hb)
  have HA3 : Hid (All w3 [(A0, n0, p)]) := HA2.out.keep hb
  clear HA2 HB2
  clear hb
  go_wp2_with fail
  refine (count_ok n _ hn).mono ?_
  rintro e w' ⟨rfl, rfl⟩
  go_wp2_with fail
  refine (at_ok n k _ hn HK.out).mono ?_
  rintro e w5 ⟨gA, rfl, hI, hb⟩
  have HB4 := hid (below_step HB3.out (Nat.le_refl _) hb)
  have HA4 : Hid (All w5 [((some ⟨gA, 0, none⟩ : Option Addr), n, atL n k), (A0, n0, p)]) := ⟨hI, HA3.out.keep hb⟩
  clear HA3 HB3
  clear hb hI
  have hFN := HFN.out
  go_wp2_with fail
  refine (factorial_ok n _ hn).mono ?_
  rintro e w' ⟨rfl, rfl⟩
  have hK : (k : Int) < ((fact n : Nat) : Int) := by have := HK.out; omega
  go_wp2_with fail
  refine (refErr_any _ n n (atL n k) _ HA4.out.1 (by omega)).mono ?_
  rintro e w' ⟨rfl, rfl⟩
  rw [permErr_of (isPerm_atL n k) (by rw [length_atL]; exact hn)]
  go_wp2_with fail
  refine (rankOf_ok n _ n (atL n k) _ HA4.out.1 (isPerm_atL n k) hn (Nat.le_refl _)).mono ?_
  rintro e w6 ⟨rfl, hb⟩
  rw [rk_atL HK.out]
  have HB5 := hid (below_step HB4.out (Nat.le_refl _) hb)
  have HA5 : Hid (All w6 [((some ⟨gA, 0, none⟩ : Option Addr), n, atL n k), (A0, n0, p)]) := HA4.out.keep hb
  clear HA4 HB4
  clear hb
  go_wp2_with fail
  refine (refErr_any A0 n0 c0 p _ HA5.out.2.1 (by omega)).mono ?_
  rintro e w' ⟨rfl, rfl⟩
  have hne : (permErr p != 0) = true := by simpa using HPE.out
  have hee : (permErr p == permErr p) = true := by simp
  go_wp2
  go_ret
  exact ⟨rfl, HB5.out⟩

set_option maxHeartbeats 2000000 in
set_option maxRecDepth 100000 in
theorem rankSays_GL (A0 : Option Addr) (n0 c0 : Nat) (p : List Int) (n k : Nat) (w : World) (h0 : Ints w A0 n0 p) (hc0 : n0 ≤ c0) (_hm0 : c0 ≤ 9223372036854775807) (hn : n ≤ 10) (hk : k < fact n) (hp : permErr p = 0) (hl : rk p + 1 = fact n0) :
    Calls Try.prog 3 #[.slice A0 n0 c0, .int .i64 (n : Int), .int .i64 (k : Int)] w fun e w' => e = .returned (.bool true) ∧ Below w.heap.size w w' := by
  have hn10 : n0 ≤ 10 := by rw [← h0.len]; exact (permErr_ok.1 hp).1
  have HPP := hid (permErr_ok.1 hp).2
  have HLA := hid hl
  have HL := hid h0.len
  have hrk : rk p < fact n0 := by have := rk_lt p; rwa [h0.len] at this
  have hf0 := fact_ten hn10
  have HRK := hid hrk
  have HF0 := hid hf0
  clear hl hrk hf0
  have HPE := hid hp
  clear hp
  have HK := hid hk
  have HFN := hid (fact_ten hn)
  clear hk
  have HB0 := hid (Below.refl w.heap.size w)
  have HA0 : Hid (All w [(A0, n0, p)]) := ⟨h0, trivial⟩
  clear h0
  go_enter Try.func3, Try.ntmps3
  go_wp2_with fail
  refine (code_ok A0 n0 c0 p _ HA0.out.1 HPE.out hc0).mono ?_
  rintro e w1 ⟨B, nB, cB, rfl, hb, hI, hcap⟩
  obtain rfl : n0 = nB := by rw [← hI.len, length_codeL, HL.out]
  have HB1 := hid (below_step HB0.out (Nat.le_refl _) hb)
  have HA1 : Hid (All w1 [(B, n0, codeL p), (A0, n0, p)]) := ⟨hI, HA0.out.keep hb⟩
  clear HA0 HB0
  clear hb hI hcap
  go_wp2_with fail
  refine (of_ok A0 n0 c0 p _ HA1.out.2.1 HPE.out hc0).mono ?_
  rintro e w2 ⟨rfl, hb⟩
  have HB2 := hid (below_step HB1.out (Nat.le_refl _) hb)
  have HA2 : Hid (All w2 [(B, n0, codeL p), (A0, n0, p)]) := HA1.out.keep hb
  clear HA1 HB1
  clear hb
  go_wp2_with fail
  refine (next_last A0 n0 c0 p _ HA2.out.2.1 HPE.out HLA.out).mono ?_
  rintro e w3 ⟨rfl, hb⟩
  have HB3 := hid (below_step HB2.out (Nat.le_refl _) hb)
  have HA3 : Hid (All w3 [(B, n0, codeL p), (A0, n0, p)]) := HA2.out.keep hb
  clear HA2 HB2
  clear hb
  go_wp2_with fail
  refine (count_ok n _ hn).mono ?_
  rintro e w' ⟨rfl, rfl⟩
  go_wp2_with fail
  refine (at_ok n k _ hn HK.out).mono ?_
  rintro e w5 ⟨gA, rfl, hI, hb⟩
  have HB4 := hid (below_step HB3.out (Nat.le_refl _) hb)
  have HA4 : Hid (All w5 [((some ⟨gA, 0, none⟩ : Option Addr), n, atL n k), (B, n0, codeL p), (A0, n0, p)]) := ⟨hI, HA3.out.keep hb⟩
  clear HA3 HB3
  clear hb hI
  have hFN := HFN.out
  go_wp2_with fail
  refine (factorial_ok n _ hn).mono ?_
  rintro e w' ⟨rfl, rfl⟩
  have hK : (k : Int) < ((fact n : Nat) : Int) := by have := HK.out; omega
  go_wp2_with fail
  refine (refErr_any _ n n (atL n k) _ HA4.out.1 (by omega)).mono ?_
  rintro e w' ⟨rfl, rfl⟩
  rw [permErr_of (isPerm_atL n k) (by rw [length_atL]; exact hn)]
  go_wp2_with fail
  refine (rankOf_ok n _ n (atL n k) _ HA4.out.1 (isPerm_atL n k) hn (Nat.le_refl _)).mono ?_
  rintro e w6 ⟨rfl, hb⟩
  rw [rk_atL HK.out]
  have HB5 := hid (below_step HB4.out (Nat.le_refl _) hb)
  have HA5 : Hid (All w6 [((some ⟨gA, 0, none⟩ : Option Addr), n, atL n k), (B, n0, codeL p), (A0, n0, p)]) := HA4.out.keep hb
  clear HA4 HB4
  clear hb
  go_wp2_with fail
  refine (refErr_any A0 n0 c0 p _ HA5.out.2.2.1 (by omega)).mono ?_
  rintro e w' ⟨rfl, rfl⟩
  rw [HPE.out]
  go_wp2_with fail
  refine (rankOf_ok n0 A0 c0 p _ HA5.out.2.2.1 HPP.out hn10 hc0).mono ?_
  rintro e w7 ⟨rfl, hb⟩
  have HB6 := hid (below_step HB5.out (Nat.le_refl _) hb)
  have HA6 : Hid (All w7 [((some ⟨gA, 0, none⟩ : Option Addr), n, atL n k), (B, n0, codeL p), (A0, n0, p)]) := HA5.out.keep hb
  clear HA5 HB5
  clear hb
  have HIP := hid (show Ints w7 A0 n0 p from HA6.out.2.2.1)
  have HIC := hid (show Ints w7 B n0 (codeL p) from HA6.out.2.1)
  go_wp2_with fail
  go_loopg [160] n0 (fun g s wr => ∃ i t : Nat, i ≤ n0 ∧ n0 - i ≤ g ∧ s = .int .i64 i ∧ wr = w7.drewN t)
  case atStart => exact ⟨0, 0, Nat.zero_le _, by omega, rfl, rfl⟩
  case round =>
    obtain ⟨i, t, hi, hg, rfl, hwr⟩ := hrel
    obtain ⟨w8, rfl⟩ : ∃ w8, w8 = wr := ⟨wr, rfl⟩
    have HW := hid hwr
    clear hwr
    by_cases hlt : i < n0
    · have hIP : Ints w8 A0 n0 p := by rw [HW.out]; exact HIP.out.drewN t
      have hIC : Ints w8 B n0 (codeL p) := by rw [HW.out]; exact HIC.out.drewN t
      obtain ⟨b, o, rfl, hb, hcell⟩ := hIP.row (by omega)
      obtain ⟨b2, o2, rfl, hb2, hcell2⟩ := hIC.row (by omega)
      have HG1 := hid (hcell i hlt)
      have HG2 := hid (hcell2 i hlt)
      have HC := hid hcell
      have HCD := hid (getD_codeL p i (by rw [HL.out]; exact hlt))
      clear hcell hb hIP hIC hb2 hcell2
      go_wp2_with fail
      go_loopg [19, 20] n0 (fun g u s wq => ∃ j t2 : Nat, i + 1 + j ≤ n0 ∧ n0 - j ≤ g ∧ u = .int .i64 (less (p.getD i 0) ((p.drop (i + 1)).take j) : Int) ∧ s = .int .i64 ((i : Int) + 1 + j) ∧ wq = w8.drewN t2)
      case atStart => exact ⟨0, 0, by omega, by omega, rfl, by go_num, rfl⟩
      case round =>
        obtain ⟨j, t2, hj, hgj, rfl, rfl, hwq⟩ := hrel
        have HWQ := hid hwq
        have g1 : wr.cell? ⟨b, o + i, none⟩ = some (.int .i64 (p.getD i 0)) := by rw [hwq]; exact HG1.out
        have g2 : wr.cell? ⟨b2, o2 + i, none⟩ = some (.int .i64 ((codeL p).getD i 0)) := by rw [hwq]; exact HG2.out
        have hle : less (p.getD i 0) ((p.drop (i + 1)).take j) ≤ n0 := by
          have := less_le (p.getD i 0) ((p.drop (i + 1)).take j)
          have h2 := List.length_take_le j (p.drop (i + 1))
          omega
        clear hwq
        by_cases hjl : i + 1 + j < n0
        · have g3 : wr.cell? ⟨b, o + (i + 1 + j), none⟩ = some (.int .i64 (p.getD (i + 1 + j) 0)) := by rw [HWQ.out]; exact HC.out (i + 1 + j) hjl
          have HS := hid (less_step (p := p) (k := i) (m := j) (by rw [HL.out]; exact hjl))
          have hz0 : (0 : Int) ≤ (i : Int) + 1 + j := by omega
          have hz1 : ((i : Int) + 1 + j).toNat = i + 1 + j := by omega
          have hz2 : (i : Int) + 1 + j < (n0 : Int) := by omega
          clear g2
          generalize hx : p.getD i 0 = x at g1 HS hle ⊢
          have HX := hid hx
          clear hx
          generalize p.getD (i + 1 + j) 0 = y at g3 HS
          generalize less x ((p.drop (i + 1)).take j) = L at HS hle ⊢
          by_cases hyx : y < x
          · rw [if_pos hyx] at HS
            go_wp2_with fail
            go_region
            go_wp2
            go_roundg (n0 - (j + 1))
            case measure => omega
            case rel => exact ⟨j + 1, t2 + 1, by omega, by omega, by rw [HX.out, HS.out]; go_num, by go_num, by rw [HWQ.out]; rfl⟩
          · rw [if_neg hyx] at HS
            go_wp2_with fail
            go_region
            go_wp2
            go_roundg (n0 - (j + 1))
            case measure => omega
            case rel => exact ⟨j + 1, t2 + 1, by omega, by omega, by rw [HX.out, HS.out]; rfl, by go_num, by rw [HWQ.out]; rfl⟩
        · have HJE : Hid ((less (p.getD i 0) ((p.drop (i + 1)).take j) : Int) = (codeL p).getD i 0) := by
            rw [HCD.out, List.take_of_length_le (by rw [List.length_drop, HL.out]; omega)]; exact rfl
          rw [HJE.out] at *
          have hz2 : ¬ (i : Int) + 1 + j < (n0 : Int) := by omega
          have hcc : ((codeL p).getD i 0 != (codeL p).getD i 0) = false := by simp
          generalize (codeL p).getD i 0 = y at g2 hcc ⊢
          go_wp2
          go_roundg (n0 - (i + 1))
          case measure => omega
          case rel => exact ⟨i + 1, t + t2, by omega, by omega, by go_num, by rw [HWQ.out, HW.out, World.drewN_drewN]⟩
    · have hin : i = n0 := by omega
      subst hin
      have hf0 := HF0.out
      have hrk := HRK.out
      have HB8 : Hid (Below w.heap.size w w8) := by rw [HW.out]; exact below_drewN HB6.out t
      go_wp2_with fail
      refine (factorial_ok i _ hn10).mono ?_
      rintro e w' ⟨rfl, rfl⟩
      have heq : (((rk p : Nat) : Int) == ((fact i : Nat) : Int) - 1) = true := by have := HLA.out; rw [← this]; simp
      go_wp2
      go_ret
      exact ⟨rfl, HB8.out⟩

set_option maxHeartbeats 2000000 in
set_option maxRecDepth 100000 in
theorem rankSays_GM (A0 : Option Addr) (n0 c0 : Nat) (p : List Int) (n k : Nat) (w : World) (h0 : Ints w A0 n0 p) (hc0 : n0 ≤ c0) (_hm0 : c0 ≤ 9223372036854775807) (hn : n ≤ 10) (hk : k < fact n) (hp : permErr p = 0) (hl : rk p + 1 < fact n0) :
    Calls Try.prog 3 #[.slice A0 n0 c0, .int .i64 (n : Int), .int .i64 (k : Int)] w fun e w' => e = .returned (.bool true) ∧ Below w.heap.size w w' := by
  have hn10 : n0 ≤ 10 := by rw [← h0.len]; exact (permErr_ok.1 hp).1
  have HPP := hid (permErr_ok.1 hp).2
  have HLA := hid hl
  have HL := hid h0.len
  have hrk : rk p < fact n0 := by have := rk_lt p; rwa [h0.len] at this
  have hf0 := fact_ten hn10
  have HRK := hid hrk
  have HF0 := hid hf0
  clear hl hrk hf0
  have HPE := hid hp
  clear hp
  have HK := hid hk
  have HFN := hid (fact_ten hn)
  clear hk
  have HB0 := hid (Below.refl w.heap.size w)
  have HA0 : Hid (All w [(A0, n0, p)]) := ⟨h0, trivial⟩
  clear h0
  go_enter Try.func3, Try.ntmps3
  go_wp2_with fail
  refine (code_ok A0 n0 c0 p _ HA0.out.1 HPE.out hc0).mono ?_
  rintro e w1 ⟨B, nB, cB, rfl, hb, hI, hcap⟩
  obtain rfl : n0 = nB := by rw [← hI.len, length_codeL, HL.out]
  have HB1 := hid (below_step HB0.out (Nat.le_refl _) hb)
  have HA1 : Hid (All w1 [(B, n0, codeL p), (A0, n0, p)]) := ⟨hI, HA0.out.keep hb⟩
  clear HA0 HB0
  clear hb hI hcap
  go_wp2_with fail
  refine (of_ok A0 n0 c0 p _ HA1.out.2.1 HPE.out hc0).mono ?_
  rintro e w2 ⟨rfl, hb⟩
  have HB2 := hid (below_step HB1.out (Nat.le_refl _) hb)
  have HA2 : Hid (All w2 [(B, n0, codeL p), (A0, n0, p)]) := HA1.out.keep hb
  clear HA1 HB1
  clear hb
  go_wp2_with fail
  refine (next_ok A0 n0 c0 p _ HA2.out.2.1 HPE.out HLA.out).mono ?_
  rintro e w3 ⟨Q, cQ, q, rfl, hI, hcap, hb, hpm, hrq⟩
  rw [HL.out] at hI hcap
  rw [HL.out]
  have HCQ := hid (hcap.1)
  have HPM := hid (hpm)
  have HRQ := hid (hrq)
  have HB3 := hid (below_step HB2.out (Nat.le_refl _) hb)
  have HA3 : Hid (All w3 [(Q, n0, q), (B, n0, codeL p), (A0, n0, p)]) := ⟨hI, HA2.out.keep hb⟩
  clear HA2 HB2
  clear hb hI hcap hrq hpm
  go_wp2_with fail
  refine (count_ok n _ hn).mono ?_
  rintro e w' ⟨rfl, rfl⟩
  go_wp2_with fail
  refine (at_ok n k _ hn HK.out).mono ?_
  rintro e w5 ⟨gA, rfl, hI, hb⟩
  have HB4 := hid (below_step HB3.out (Nat.le_refl _) hb)
  have HA4 : Hid (All w5 [((some ⟨gA, 0, none⟩ : Option Addr), n, atL n k), (Q, n0, q), (B, n0, codeL p), (A0, n0, p)]) := ⟨hI, HA3.out.keep hb⟩
  clear HA3 HB3
  clear hb hI
  have hFN := HFN.out
  go_wp2_with fail
  refine (factorial_ok n _ hn).mono ?_
  rintro e w' ⟨rfl, rfl⟩
  have hK : (k : Int) < ((fact n : Nat) : Int) := by have := HK.out; omega
  go_wp2_with fail
  refine (refErr_any _ n n (atL n k) _ HA4.out.1 (by omega)).mono ?_
  rintro e w' ⟨rfl, rfl⟩
  rw [permErr_of (isPerm_atL n k) (by rw [length_atL]; exact hn)]
  go_wp2_with fail
  refine (rankOf_ok n _ n (atL n k) _ HA4.out.1 (isPerm_atL n k) hn (Nat.le_refl _)).mono ?_
  rintro e w6 ⟨rfl, hb⟩
  rw [rk_atL HK.out]
  have HB5 := hid (below_step HB4.out (Nat.le_refl _) hb)
  have HA5 : Hid (All w6 [((some ⟨gA, 0, none⟩ : Option Addr), n, atL n k), (Q, n0, q), (B, n0, codeL p), (A0, n0, p)]) := HA4.out.keep hb
  clear HA4 HB4
  clear hb
  go_wp2_with fail
  refine (refErr_any A0 n0 c0 p _ HA5.out.2.2.2.1 (by omega)).mono ?_
  rintro e w' ⟨rfl, rfl⟩
  rw [HPE.out]
  go_wp2_with fail
  refine (rankOf_ok n0 A0 c0 p _ HA5.out.2.2.2.1 HPP.out hn10 hc0).mono ?_
  rintro e w7 ⟨rfl, hb⟩
  have HB6 := hid (below_step HB5.out (Nat.le_refl _) hb)
  have HA6 : Hid (All w7 [((some ⟨gA, 0, none⟩ : Option Addr), n, atL n k), (Q, n0, q), (B, n0, codeL p), (A0, n0, p)]) := HA5.out.keep hb
  clear HA5 HB5
  clear hb
  have HIP := hid (show Ints w7 A0 n0 p from HA6.out.2.2.2.1)
  have HIC := hid (show Ints w7 B n0 (codeL p) from HA6.out.2.2.1)
  have HIQ := hid (show Ints w7 Q n0 q from HA6.out.2.1)
  go_wp2_with fail
  go_loopg [160] n0 (fun g s wr => ∃ i t : Nat, i ≤ n0 ∧ n0 - i ≤ g ∧ s = .int .i64 i ∧ wr = w7.drewN t)
  case atStart => exact ⟨0, 0, Nat.zero_le _, by omega, rfl, rfl⟩
  case round =>
    obtain ⟨i, t, hi, hg, rfl, hwr⟩ := hrel
    obtain ⟨w8, rfl⟩ : ∃ w8, w8 = wr := ⟨wr, rfl⟩
    have HW := hid hwr
    clear hwr
    by_cases hlt : i < n0
    · have hIP : Ints w8 A0 n0 p := by rw [HW.out]; exact HIP.out.drewN t
      have hIC : Ints w8 B n0 (codeL p) := by rw [HW.out]; exact HIC.out.drewN t
      obtain ⟨b, o, rfl, hb, hcell⟩ := hIP.row (by omega)
      obtain ⟨b2, o2, rfl, hb2, hcell2⟩ := hIC.row (by omega)
      have HG1 := hid (hcell i hlt)
      have HG2 := hid (hcell2 i hlt)
      have HC := hid hcell
      have HCD := hid (getD_codeL p i (by rw [HL.out]; exact hlt))
      clear hcell hb hIP hIC hb2 hcell2
      go_wp2_with fail
      go_loopg [19, 20] n0 (fun g u s wq => ∃ j t2 : Nat, i + 1 + j ≤ n0 ∧ n0 - j ≤ g ∧ u = .int .i64 (less (p.getD i 0) ((p.drop (i + 1)).take j) : Int) ∧ s = .int .i64 ((i : Int) + 1 + j) ∧ wq = w8.drewN t2)
      case atStart => exact ⟨0, 0, by omega, by omega, rfl, by go_num, rfl⟩
      case round =>
        obtain ⟨j, t2, hj, hgj, rfl, rfl, hwq⟩ := hrel
        have HWQ := hid hwq
        have g1 : wr.cell? ⟨b, o + i, none⟩ = some (.int .i64 (p.getD i 0)) := by rw [hwq]; exact HG1.out
        have g2 : wr.cell? ⟨b2, o2 + i, none⟩ = some (.int .i64 ((codeL p).getD i 0)) := by rw [hwq]; exact HG2.out
        have hle : less (p.getD i 0) ((p.drop (i + 1)).take j) ≤ n0 := by
          have := less_le (p.getD i 0) ((p.drop (i + 1)).take j)
          have h2 := List.length_take_le j (p.drop (i + 1))
          omega
        clear hwq
        by_cases hjl : i + 1 + j < n0
        · have g3 : wr.cell? ⟨b, o + (i + 1 + j), none⟩ = some (.int .i64 (p.getD (i + 1 + j) 0)) := by rw [HWQ.out]; exact HC.out (i + 1 + j) hjl
          have HS := hid (less_step (p := p) (k := i) (m := j) (by rw [HL.out]; exact hjl))
          have hz0 : (0 : Int) ≤ (i : Int) + 1 + j := by omega
          have hz1 : ((i : Int) + 1 + j).toNat = i + 1 + j := by omega
          have hz2 : (i : Int) + 1 + j < (n0 : Int) := by omega
          clear g2
          generalize hx : p.getD i 0 = x at g1 HS hle ⊢
          have HX := hid hx
          clear hx
          generalize p.getD (i + 1 + j) 0 = y at g3 HS
          generalize less x ((p.drop (i + 1)).take j) = L at HS hle ⊢
          by_cases hyx : y < x
          · rw [if_pos hyx] at HS
            go_wp2_with fail
            go_region
            go_wp2
            go_roundg (n0 - (j + 1))
            case measure => omega
            case rel => exact ⟨j + 1, t2 + 1, by omega, by omega, by rw [HX.out, HS.out]; go_num, by go_num, by rw [HWQ.out]; rfl⟩
          · rw [if_neg hyx] at HS
            go_wp2_with fail
            go_region
            go_wp2
            go_roundg (n0 - (j + 1))
            case measure => omega
            case rel => exact ⟨j + 1, t2 + 1, by omega, by omega, by rw [HX.out, HS.out]; rfl, by go_num, by rw [HWQ.out]; rfl⟩
        · have HJE : Hid ((less (p.getD i 0) ((p.drop (i + 1)).take j) : Int) = (codeL p).getD i 0) := by
            rw [HCD.out, List.take_of_length_le (by rw [List.length_drop, HL.out]; omega)]; exact rfl
          rw [HJE.out] at *
          have hz2 : ¬ (i : Int) + 1 + j < (n0 : Int) := by omega
          have hcc : ((codeL p).getD i 0 != (codeL p).getD i 0) = false := by simp
          generalize (codeL p).getD i 0 = y at g2 hcc ⊢
          go_wp2
          go_roundg (n0 - (i + 1))
          case measure => omega
          case rel => exact ⟨i + 1, t + t2, by omega, by omega, by go_num, by rw [HWQ.out, HW.out, World.drewN_drewN]⟩
    · have hin : i = n0 := by omega
      subst hin
      have hf0 := HF0.out
      have hrk := HRK.out
      have HB8 : Hid (Below w.heap.size w w8) := by rw [HW.out]; exact below_drewN HB6.out t
      go_wp2_with fail
      refine (factorial_ok i _ hn10).mono ?_
      rintro e w' ⟨rfl, rfl⟩
      have heq : (((rk p : Nat) : Int) == ((fact i : Nat) : Int) - 1) = false := by have := HLA.out; simp; omega
      have hIQ : Ints w8 Q i q := by rw [HW.out]; exact HIQ.out.drewN t
      have HIQ2 := hid hIQ
      have HLQ := hid hIQ.len
      have HPQ : Hid (IsPerm q) := by show IsPerm q; unfold IsPerm; rw [HLQ.out, ← HL.out]; exact HPM.out.trans HPP.out
      clear hIQ
      go_wp2_with fail
      refine (refErr_any Q i cQ q _ HIQ2.out (by omega)).mono ?_
      rintro e w' ⟨rfl, rfl⟩
      rw [permErr_of HPQ.out (by rw [HLQ.out]; exact hn10)]
      go_wp2_with fail
      refine (rankOf_ok i Q cQ q _ HIQ2.out HPQ.out hn10 HCQ.out).mono ?_
      rintro e w9 ⟨rfl, hb9⟩
      have HB9 := hid (below_step HB8.out (Nat.le_refl _) hb9)
      rw [HRQ.out]
      have hee : (((rk p + 1 : Nat) : Int) == ((rk p : Nat) : Int) + 1) = true := by simp
      clear hb9
      go_wp2
      go_ret
      exact ⟨rfl, HB9.out⟩

theorem rankSays_any (A0 : Option Addr) (n0 c0 : Nat) (p : List Int) (n k : Int) (w : World) (h0 : Ints w A0 n0 p) (hc0 : n0 ≤ c0) (hm0 : c0 ≤ maxLen) :
    Calls Try.prog 3 #[.slice A0 n0 c0, .int .i64 n, .int .i64 k] w fun e w' => e = .returned (.bool true) ∧ Below w.heap.size w w' := by
  unfold maxLen at hm0
  have hm1 : c0 ≤ 9223372036854775807 := by omega
  have hcases : permErr p ≠ 0 ∨ (permErr p = 0 ∧ rk p + 1 = fact n0) ∨ (permErr p = 0 ∧ rk p + 1 < fact n0) := by
    have := rk_lt p
    rw [h0.len] at this
    omega
  by_cases hn : n < 0 ∨ 10 < n
  · rcases hcases with hp | ⟨hp, hl⟩ | ⟨hp, hl⟩
    · exact rankSays_BE A0 n0 c0 p n k w h0 hc0 hm1 hn hp
    · exact rankSays_BL A0 n0 c0 p n k w h0 hc0 hm1 hn hp hl
    · exact rankSays_BM A0 n0 c0 p n k w h0 hc0 hm1 hn hp hl
  · obtain ⟨m, rfl⟩ := Int.eq_ofNat_of_zero_le (show 0 ≤ n by omega)
    have hm : m ≤ 10 := by omega
    by_cases hk : k < 0 ∨ ((fact m : Nat) : Int) ≤ k
    · rcases hcases with hp | ⟨hp, hl⟩ | ⟨hp, hl⟩
      · exact rankSays_KE A0 n0 c0 p m k w h0 hc0 hm1 hm hk hp
      · exact rankSays_KL A0 n0 c0 p m k w h0 hc0 hm1 hm hk hp hl
      · exact rankSays_KM A0 n0 c0 p m k w h0 hc0 hm1 hm hk hp hl
    · obtain ⟨j, rfl⟩ := Int.eq_ofNat_of_zero_le (show 0 ≤ k by omega)
      have hj : j < fact m := by omega
      rcases hcases with hp | ⟨hp, hl⟩ | ⟨hp, hl⟩
      · exact rankSays_GE A0 n0 c0 p m j w h0 hc0 hm1 hm hj hp
      · exact rankSays_GL A0 n0 c0 p m j w h0 hc0 hm1 hm hj hp hl
      · exact rankSays_GM A0 n0 c0 p m j w h0 hc0 hm1 hm hj hp hl

end Go.Proofs.Ytclhglbkgjgafaa
