/-
  castkeep.PermSigns: the walk.
-/
import Derived.Test.YtheogajhclhlhaaSgnSwap
namespace Go.Proofs.Ytheogajhclhlhaa
open Go.RowKit

set_option maxHeartbeats 4000000 in
set_option maxRecDepth 100000 in
theorem permSigns_any (A0 : Option Addr) (n0 c0 : Nat) (x0 : List Int) (A1 : Option Addr) (n1 c1 : Nat) (x1 : List Int) (i k : Int) (w : World)
    (h0 : Ints w A0 n0 x0) (h1 : Ints w A1 n1 x1) (hc0 : n0 ≤ c0) (hc1 : n1 ≤ c1) (hm0 : c0 ≤ maxLen) (hm1 : c1 ≤ maxLen) :
    Calls Try.prog 6 #[.slice A0 n0 c0, .slice A1 n1 c1, .int .i64 i, .int .i64 k] w fun e w' => e = .returned (.bool true) ∧ Below w.heap.size w w' := by
  unfold maxLen at hm0 hm1
  obtain ⟨m, hm⟩ : ∃ m, m = min (min n0 n1) 10 := ⟨_, rfl⟩
  have hmin := run_min3 (P := Try.prog) n0 n1 m hm
  have q0 : m ≤ n0 := by omega
  have q1 : m ≤ n1 := by omega
  have hm10 : m ≤ 10 := by omega
  clear hm
  go_enter Try.func6, Try.ntmps6
  go_wp2_with fail
  refine (sign_perm _ 2 2 [1, 0] _ (ints_lit w _ _ 2 [1, 0] rfl rfl) (by decide) (by omega) ⟨Nat.le_refl _, by omega⟩).mono ?_
  rintro e w0 ⟨rfl, hb⟩
  rw [show sgn [1, 0] = -1 by decide]
  have HB := hid (below_step (below_alloc w _) (Nat.le_refl _) hb)
  clear hb
  go_wp2_with fail
  refine (perms_any _).mono ?_
  rintro e w1 ⟨rfl, hb⟩
  have HB0 := hid (below_step HB.out (Nat.le_refl _) hb)
  have HA0 : Hid (All w1 [(A0, n0, x0), (A1, n1, x1)]) := ⟨h0.keep HB0.out, h1.keep HB0.out, trivial⟩
  clear hb h0 h1 HB
  go_wp2_with fail
  refine (permOf_perm A0 n0 c0 m x0 _ HA0.out.1 hc0 q0 hm10).mono ?_
  rintro e w_a ⟨A_a, c_a, p_a, rfl, hp_a, hI, hcap_a, hb⟩
  have HP_a := hid hp_a
  have HB1 := hid (below_step HB0.out (Nat.le_refl _) hb)
  have HA1 : Hid (All w_a [(A_a, m, p_a), (A0, n0, x0), (A1, n1, x1)]) := ⟨hI, HA0.out.keep hb⟩
  clear HA0 HB0
  clear hp_a hI hb
  go_wp2_with fail
  refine (permOf_perm A1 n1 c1 m x1 _ HA1.out.2.2.1 hc1 q1 hm10).mono ?_
  rintro e w_b ⟨A_b, c_b, p_b, rfl, hp_b, hI, hcap_b, hb⟩
  have HP_b := hid hp_b
  have HB2 := hid (below_step HB1.out (Nat.le_refl _) hb)
  have HA2 : Hid (All w_b [(A_b, m, p_b), (A_a, m, p_a), (A0, n0, x0), (A1, n1, x1)]) := ⟨hI, HA1.out.keep hb⟩
  clear HA1 HB1
  clear hp_b hI hb
  go_wp2_with fail
  refine (times_perm A_a m c_a A_b c_b (p_a) (p_b) _ HA2.out.2.1 HA2.out.1 HP_a.out HP_b.out hm10).mono ?_
  rintro e w_ab ⟨A_ab, c_ab, rfl, hI, hcap_ab, hb⟩
  have HP_ab := hid (isPerm_times HP_a.out HP_b.out (by rw [(HA2.out.2.1).len, (HA2.out.1).len]))
  have HB3 := hid (below_step HB2.out (Nat.le_refl _) hb)
  have HA3 : Hid (All w_ab [(A_ab, m, times (p_a) (p_b)), (A_b, m, p_b), (A_a, m, p_a), (A0, n0, x0), (A1, n1, x1)]) := ⟨hI, HA2.out.keep hb⟩
  clear HA2 HB2
  clear hI hb
  go_wp2_with fail
  refine (inverse_perm A_a m c_a (p_a) _ HA3.out.2.2.1 HP_a.out hm10).mono ?_
  rintro e w_va ⟨p_va, hinv, A_va, c_va, rfl, hI, hcap_va, hb⟩
  have HV_va := hid hinv
  have HP_va := hid (hinv.isPerm HP_a.out)
  have HB4 := hid (below_step HB3.out (Nat.le_refl _) hb)
  have HA4 : Hid (All w_va [(A_va, m, p_va), (A_ab, m, times (p_a) (p_b)), (A_b, m, p_b), (A_a, m, p_a), (A0, n0, x0), (A1, n1, x1)]) := ⟨hI, HA3.out.keep hb⟩
  clear HA3 HB3
  clear hI hb hinv
  go_wp2_with fail
  refine (sign_perm A_a m c_a (p_a) _ HA4.out.2.2.2.1 HP_a.out hm10 hcap_a).mono ?_
  rintro e w_sa ⟨rfl, hb⟩
  have HB5 := hid (below_step HB4.out (Nat.le_refl _) hb)
  have HA5 : Hid (All w_sa [(A_va, m, p_va), (A_ab, m, times (p_a) (p_b)), (A_b, m, p_b), (A_a, m, p_a), (A0, n0, x0), (A1, n1, x1)]) := HA4.out.keep hb
  clear HA4 HB4
  clear hb
  go_wp2_with fail
  refine (sign_perm A_b m c_b (p_b) _ HA5.out.2.2.1 HP_b.out hm10 hcap_b).mono ?_
  rintro e w_sb ⟨rfl, hb⟩
  have HB6 := hid (below_step HB5.out (Nat.le_refl _) hb)
  have HA6 : Hid (All w_sb [(A_va, m, p_va), (A_ab, m, times (p_a) (p_b)), (A_b, m, p_b), (A_a, m, p_a), (A0, n0, x0), (A1, n1, x1)]) := HA5.out.keep hb
  clear HA5 HB5
  clear hb
  go_wp2_with fail
  refine (sign_perm A_ab m c_ab (times (p_a) (p_b)) _ HA6.out.2.1 HP_ab.out hm10 hcap_ab).mono ?_
  rintro e w_sab ⟨rfl, hb⟩
  have HB7 := hid (below_step HB6.out (Nat.le_refl _) hb)
  have HA7 : Hid (All w_sab [(A_va, m, p_va), (A_ab, m, times (p_a) (p_b)), (A_b, m, p_b), (A_a, m, p_a), (A0, n0, x0), (A1, n1, x1)]) := HA6.out.keep hb
  clear HA6 HB6
  clear hb
  go_wp2_with fail
  refine (sign_perm A_va m c_va (p_va) _ HA7.out.1 HP_va.out hm10 hcap_va).mono ?_
  rintro e w_sva ⟨rfl, hb⟩
  have HB8 := hid (below_step HB7.out (Nat.le_refl _) hb)
  have HA8 : Hid (All w_sva [(A_va, m, p_va), (A_ab, m, times (p_a) (p_b)), (A_b, m, p_b), (A_a, m, p_a), (A0, n0, x0), (A1, n1, x1)]) := HA7.out.keep hb
  clear HA7 HB7
  clear hb
  have HL := hid (And.intro HA8.out.2.2.2.1.len HA8.out.2.2.1.len)
  have HT := hid (sgn_times HP_a.out HP_b.out (by rw [HL.out.1, HL.out.2]))
  have HI := hid (sgn_inv HV_va.out HP_a.out)
  rw [HT.out, HI.out]
  have hsa := sgn_bd p_a
  have hsb := sgn_bd p_b
  have HSA := hid hsa
  have hpr : -1 ≤ sgn p_a * sgn p_b ∧ sgn p_a * sgn p_b ≤ 1 := by rcases hsa with h | h <;> rcases hsb with h' | h' <;> rw [h, h'] <;> decide
  have e1 : (sgn p_a * sgn p_b != sgn p_a * sgn p_b) = false := by simp
  have e2 : (sgn p_a != sgn p_a) = false := by simp
  have sa1 : -1 ≤ sgn p_a := by omega
  have sa2 : sgn p_a ≤ 1 := by omega
  clear hsa hsb
  go_wp2_with fail
  refine (good_bel w_sva _ _ 6 [0, 0, 0, 0, 0, 0] rfl rfl (by omega)).mono ?_
  rintro e w_good1 ⟨rfl, hb⟩
  rw [show allOK [0, 0, 0, 0, 0, 0] = true by decide]
  have HB9 := hid (below_step HB8.out (Nat.le_refl _) hb)
  have HA9 : Hid (All w_good1 [(A_va, m, p_va), (A_ab, m, times (p_a) (p_b)), (A_b, m, p_b), (A_a, m, p_a), (A0, n0, x0), (A1, n1, x1)]) := HA8.out.keep hb
  clear HA8 HB8
  clear hb
  by_cases hm2 : m < 2
  · have HS := hid (sgn_short (show p_a.length < 2 by rw [HL.out.1]; exact hm2))
    have e3 : (sgn p_a == 1) = true := by rw [HS.out]; rfl
    go_wp2
    go_ret
    exact ⟨rfl, HB9.out⟩
  · obtain ⟨ii, hii, hil⟩ : ∃ ii : Nat, i % (m : Int) = ii ∧ ii < m := ⟨(i % (m : Int)).toNat, by have h1 := Int.emod_nonneg i (show (m : Int) ≠ 0 by omega); omega, by have h1 := Int.emod_nonneg i (show (m : Int) ≠ 0 by omega); have h2 := Int.emod_lt_of_pos i (show 0 < (m : Int) by omega); omega⟩
    obtain ⟨kk, hkk, hkl⟩ : ∃ kk : Nat, k % (m : Int) = kk ∧ kk < m := ⟨(k % (m : Int)).toNat, by have h1 := Int.emod_nonneg k (show (m : Int) ≠ 0 by omega); omega, by have h1 := Int.emod_nonneg k (show (m : Int) ≠ 0 by omega); have h2 := Int.emod_lt_of_pos k (show 0 < (m : Int) by omega); omega⟩
    have HII := hid hii
    have HKK := hid hkk
    clear hii hkk
    go_wp2_with fail
    refine (within_any i m _ (by omega) (by omega)).mono ?_
    rintro e wt ⟨rfl, rfl⟩
    rw [HII.out]
    go_wp2_with fail
    refine (within_any k m _ (by omega) (by omega)).mono ?_
    rintro e wt ⟨rfl, rfl⟩
    rw [HKK.out]
    go_wp2_with fail
    refine (clone_any A_a m c_a p_a _ HA9.out.2.2.2.1 (by omega)).mono ?_
    rintro e wc ⟨vc, rfl, hownc, hbc⟩
    have HBC := hid (below_step HB9.out (Nat.le_refl _) hbc)
    have hlen : p_a.length = m := HL.out.1
    obtain ⟨gc, capc, hv, hgb, hglt, hcapc⟩ := hownc.form (by omega)
    have hown2 : OwnInts wc w_good1.heap.size (.slice (some ⟨gc, 0, none⟩) p_a.length capc) p_a := by rw [← hv]; exact hownc
    have gi : wc.cell? ⟨gc, ii, none⟩ = some (.int .i64 (p_a.getD ii 0)) := hown2.cell (by omega)
    have gk : wc.cell? ⟨gc, kk, none⟩ = some (.int .i64 (p_a.getD kk 0)) := hown2.cell (by omega)
    have fi : wc.frozen? ⟨gc, ii, none⟩ = false := hown2.frozen ii
    have fk : wc.frozen? ⟨gc, kk, none⟩ = false := hown2.frozen kk
    have HO2 := hid hown2
    rw [hlen] at hv hcapc
    subst hv
    have hgbw : w.heap.size ≤ gc := Nat.le_trans HB9.out.size hgb
    clear hownc hbc hown2
    have HSW : Hid (swapAt p_a ii kk = (p_a.set ii (p_a.getD kk 0)).set kk (p_a.getD ii 0)) := rfl
    have HLN := hid hlen
    clear hlen
    generalize hy : p_a.getD kk 0 = y at gk HSW
    generalize hx : p_a.getD ii 0 = x at gi HSW
    have HX := hid hx
    have HY := hid hy
    clear hx hy
    by_cases hik : ii = kk
    · subst hik
      have hxy : x = y := HX.out.symm.trans HY.out
      subst hxy
      clear gk fk
      go_wp2_with fail
      go_region
      go_wp2_with fail
      have HO3 : Hid (OwnInts ((wc.setCell ⟨gc, ii, none⟩ (.int .i64 x)).setCell ⟨gc, ii, none⟩ (.int .i64 x)).drew w_good1.heap.size (.slice (some ⟨gc, 0, none⟩) m capc) (swapAt p_a ii ii)) := by
        rw [HSW.out]
        have h := HO2.out
        rw [HLN.out] at h
        exact ((h.set HLN.out.symm ii x).set (by rw [List.length_set]; exact HLN.out.symm) ii x).drew
      have HS1 : Hid (sgn (swapAt p_a ii ii) = sgn p_a) := by rw [swapAt_self (by rw [HLN.out]; exact hil)]; exact rfl
      have e3 : (sgn p_a == - sgn p_a) = false := by rcases HSA.out with h | h <;> rw [h] <;> decide
      have e4 : ((ii : Int) != (ii : Int)) = false := by simp
      obtain ⟨A3, c3, hv3, hI3, hcap3⟩ := HO3.out.ints
      rw [length_swapAt, HLN.out] at hv3 hI3 hcap3
      rw [hv3]
      refine (sign_perm A3 m c3 _ _ hI3 (isPerm_swapAt HP_a.out (by rw [HLN.out]; exact hil) (by rw [HLN.out]; omega)) hm10 hcap3).mono ?_
      rintro e wz ⟨rfl, hbz⟩
      have HBZ := hid (below_step ((HBC.out.setCell (by exact hgbw) _).setCell (by exact hgbw) _).drew (Nat.le_refl _) hbz)
      clear hI3 hbz hcap3
      rw [HS1.out]
      go_wp2
      go_ret
      exact ⟨rfl, HBZ.out⟩
    · have e4 : ((ii : Int) != (kk : Int)) = true := by simp; omega
      go_wp2_with fail
      go_region
      go_wp2_with fail
      have HO3 : Hid (OwnInts ((wc.setCell ⟨gc, ii, none⟩ (.int .i64 y)).setCell ⟨gc, kk, none⟩ (.int .i64 x)).drew w_good1.heap.size (.slice (some ⟨gc, 0, none⟩) m capc) (swapAt p_a ii kk)) := by
        rw [HSW.out]
        have h := HO2.out
        rw [HLN.out] at h
        exact ((h.set HLN.out.symm ii y).set (by rw [List.length_set]; exact HLN.out.symm) kk x).drew
      have HS1 : Hid (sgn (swapAt p_a ii kk) = - sgn p_a) := sgn_swapAt HP_a.out.nodup (by rw [HLN.out]; exact hil) (by rw [HLN.out]; exact hkl) hik
      have e3 : (- sgn p_a == - sgn p_a) = true := by simp
      obtain ⟨A3, c3, hv3, hI3, hcap3⟩ := HO3.out.ints
      rw [length_swapAt, HLN.out] at hv3 hI3 hcap3
      rw [hv3]
      refine (sign_perm A3 m c3 _ _ hI3 (isPerm_swapAt HP_a.out (by rw [HLN.out]; exact hil) (by rw [HLN.out]; omega)) hm10 hcap3).mono ?_
      rintro e wz ⟨rfl, hbz⟩
      have HBZ := hid (below_step ((HBC.out.setCell (by exact hgbw) _).setCell (by exact hgbw) _).drew (Nat.le_refl _) hbz)
      clear hI3 hbz hcap3
      rw [HS1.out]
      go_wp2
      go_ret
      exact ⟨rfl, HBZ.out⟩

end Go.Proofs.Ytheogajhclhlhaa
