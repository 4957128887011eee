/-
  castkeep.OddsBernoulli, walked, once for each number of coins.
-/
import Derived.Test.YthdjbmogdlodcaaOddD
import Derived.Test.YthdjbmogdlodcaaBernM
import Derived.Test.YthdjbmogdlodcaaSubA
import Derived.Test.YthdjbmogdlodcaaTill
import Derived.Deep.RegionHeld3
namespace Go.Proofs.Ythdjbmogdlodcaa
open Go.RowKit

set_option maxHeartbeats 4000000 in
set_option maxRecDepth 100000 in
theorem bern_1 (N K : Int) (hN : N % 3 = 0) (w : World) :
    Calls Try.prog 8 #[.int .i64 N, .int .i64 K] w fun e w' => e = .returned (.bool true) ∧ Below w.heap.size w w' := by
  go_enter Try.func8, Try.ntmps8
  go_wp2_with fail
  refine (oddsLive_any _).mono ?_
  rintro e w1 ⟨rfl, hb⟩
  have HB1 := hid hb
  clear hb
  go_wp2_with fail
  refine (within_any _ _ _ (by omega) (by omega)).mono ?_
  rintro e w' ⟨rfl, rfl⟩
  rw [hN]
  go_wp2_with fail
  refine (within_any _ _ _ (by omega) (by omega)).mono ?_
  rintro e w' ⟨rfl, rfl⟩
  obtain ⟨k, hkK⟩ : ∃ k : Nat, K % 3 = k := ⟨(K % 3).toNat, by omega⟩
  have hk : k ≤ 2 := by omega
  rw [hkK]
  clear hkK hN
  obtain ⟨w2, hw2⟩ : ∃ w2, w2 = (((w1.alloc (.cells #[.int .i64 0, .int .i64 1] 3)).alloc (.cells #[.int .i64 1, .int .i64 1] 3)).alloc (.cells #[.slice (some ⟨w1.heap.size, 0, none⟩) 2 2, .slice (some ⟨w1.heap.size + 1, 0, none⟩) 2 2] 24)) := ⟨_, rfl⟩
  have HC2 : Hid (OddsAt w2 (w1.heap.size + 2) (some ⟨w1.heap.size, 0, none⟩) 2 2 (some ⟨w1.heap.size + 1, 0, none⟩) 2 2) := by
    rw [hw2]
    have h := OddsAt.new ((w1.alloc (.cells #[.int .i64 0, .int .i64 1] 3)).alloc (.cells #[.int .i64 1, .int .i64 1] 3)) 24 (some ⟨w1.heap.size, 0, none⟩) 2 2 (some ⟨w1.heap.size + 1, 0, none⟩) 2 2
    rwa [show ((w1.alloc (.cells #[.int .i64 0, .int .i64 1] 3)).alloc (.cells #[.int .i64 1, .int .i64 1] 3)).heap.size = w1.heap.size + 2 by simp] at h
  have HL2 : Hid (Ints w2 (some ⟨w1.heap.size, 0, none⟩) 2 (vsL coin1) ∧ Ints w2 (some ⟨w1.heap.size + 1, 0, none⟩) 2 (wsL coin1)) := by
    rw [hw2]
    obtain ⟨a, b⟩ := two_lits w1 #[.int .i64 0, .int .i64 1] #[.int .i64 1, .int .i64 1] 3 2 2 [0, 1] [1, 1] rfl rfl rfl rfl
    exact ⟨a.keep (below_alloc _ _), b.keep (below_alloc _ _)⟩
  have HS2 : Hid (w2.heap.size = w1.heap.size + 3) := by rw [hw2]; show _ = _; simp
  have HB2 : Hid (Below w.heap.size w w2) := by rw [hw2]; exact below_step HB1.out (Nat.le_refl _) (three_alloc _ _ _ _)
  obtain ⟨bo, hbo⟩ : ∃ bo, bo = w1.heap.size + 3 := ⟨_, rfl⟩
  have HBO := hid hbo
  rw [← hbo] at HS2
  clear HB1 hbo
  go_wp2_with fail
  rw [← hw2]
  clear hw2
  obtain ⟨w3, hw3⟩ : ∃ w3, w3 = w2.alloc (.cells #[.slice (some ⟨w1.heap.size, 0, none⟩) 2 2, .slice (some ⟨w1.heap.size + 1, 0, none⟩) 2 2] 24) := ⟨_, rfl⟩
  have HO3 : Hid (OddsAt w3 bo (some ⟨w1.heap.size, 0, none⟩) 2 2 (some ⟨w1.heap.size + 1, 0, none⟩) 2 2) := by rw [hw3, ← HS2.out]; exact OddsAt.new w2 _ _ _ _ _ _ _
  have HB3 : Hid (Below bo w2 w3) := by rw [hw3, ← HS2.out]; exact below_alloc w2 _
  have HB3w : Hid (Below w2.heap.size w2 w3) := by rw [hw3]; exact below_alloc w2 _
  have HI3 : Hid (IntsOff w3 bo (some ⟨w1.heap.size, 0, none⟩) 2 (vsL (coinL 0))) := ⟨HL2.out.1.keep HB3w.out, fun b off e => by cases e; have := HBO.out; omega⟩
  have HJ3 : Hid (IntsOff w3 bo (some ⟨w1.heap.size + 1, 0, none⟩) 2 (wsL (coinL 0))) := ⟨HL2.out.2.keep HB3w.out, fun b off e => by cases e; have := HBO.out; omega⟩
  rw [← hw3]
  simp only [show w1.heap.size + 1 + 1 + 1 = bo from HBO.out.symm]
  clear hw3 HB3w
  go_loopg [34] 0 (fun g s wr => ∃ (j : Nat) (A : Option Addr) (a c : Nat) (B : Option Addr) (m d : Nat), j ≤ 0 ∧ 0 - j ≤ g ∧ s = .int .i64 (j : Int) ∧ OddsAt wr bo A a c B m d ∧ IntsOff wr bo A a (vsL (coinL j)) ∧ IntsOff wr bo B m (wsL (coinL j)) ∧ Below bo w2 wr)
  case atStart => exact ⟨0, _, _, _, _, _, _, Nat.zero_le _, by omega, rfl, HO3.out, HI3.out, HJ3.out, HB3.out⟩
  case round =>
    clear HO3 HI3 HJ3 HB3
    obtain ⟨j, A, a, c, B, m, d, hj, hg, rfl, ho, hi, hjj, hbel⟩ := hrel
    have HO := hid ho
    have HI := hid hi
    have HJ := hid hjj
    have HBE := hid hbel
    have hbelw : Below w2.heap.size w2 wr := by rw [HS2.out]; exact hbel
    have HC := hid (HC2.out.keep hbelw)
    have HCI := hid (HL2.out.1.keep hbelw)
    have HCJ := hid (HL2.out.2.keep hbelw)
    have HBW := hid (below_step HB2.out (Nat.le_refl _) hbelw)
    clear ho hi hjj hbel hbelw
    have g0 := HO.out.p0
    have g1 := HO.out.p1
    have g2 := HC.out.p0
    have g3 := HC.out.p1
    by_cases hlt : j < 0
    · exact absurd hlt (Nat.not_lt_zero _)
    · obtain rfl : j = 0 := by omega
      have HG := hid (coin_good (j := 0) (by omega))
      have HBY : Hid (∀ W, Below wr.heap.size wr W → Calls Try.prog 12 #[.agg #[.slice A a c, .slice B m d], .int .i64 (k : Int)] W (RetR W (coinP 1 k).num ((coinP 1 k).den : Int) 0)) := fun W hb => obeyond_ok _ _ _ _ _ _ k _ W (HI.out.1.keep hb) (HJ.out.1.keep hb) HG.out
      have HM : Hid (∀ W, Below wr.heap.size wr W → Calls Try.prog 10 #[.agg #[.slice A a c, .slice B m d]] W (RetR W (mean (coinL 0)).num ((mean (coinL 0)).den : Int) 0)) := fun W hb => omean_ok _ _ _ _ _ _ _ W (HI.out.1.keep hb) (HJ.out.1.keep hb) HG.out
      have HSP : Hid (∀ W, Below wr.heap.size wr W → Calls Try.prog 11 #[.agg #[.slice A a c, .slice B m d]] W (RetR W (var (coinL 0)).num ((var (coinL 0)).den : Int) 0)) := fun W hb => ospread_ok _ _ _ _ _ _ _ W (HI.out.1.keep hb) (HJ.out.1.keep hb) HG.out
      have HN1 := hid (coin_num (n := 1) (k := k) (by omega) (by omega) hk)
      have hn2 : 2 * (mean (coinL 0)).num = 1 * ((mean (coinL 0)).den : Int) := coin_mean (n := 1) (by omega) (by omega)
      have hn3 : 4 * (var (coinL 0)).num = 1 * ((var (coinL 0)).den : Int) := coin_var (n := 1) (by omega) (by omega)
      have HN2 := hid hn2
      have HN3 := hid hn3
      have b1 : RB (coinP 1 k) 1200 1200 := beyond_bd k HG.out
      have b2 := mean_bd HG.out
      have b3 := var_bd HG.out
      unfold RB at b1 b2 b3
      obtain ⟨P1, hP1⟩ : ∃ x, (coinP 1 k).num = x := ⟨_, rfl⟩
      obtain ⟨Q1, hQ1⟩ : ∃ x, ((coinP 1 k).den : Int) = x := ⟨_, rfl⟩
      obtain ⟨P2, hP2⟩ : ∃ x, (mean (coinL 0)).num = x := ⟨_, rfl⟩
      obtain ⟨Q2, hQ2⟩ : ∃ x, ((mean (coinL 0)).den : Int) = x := ⟨_, rfl⟩
      obtain ⟨P3, hP3⟩ : ∃ x, (var (coinL 0)).num = x := ⟨_, rfl⟩
      obtain ⟨Q3, hQ3⟩ : ∃ x, ((var (coinL 0)).den : Int) = x := ⟨_, rfl⟩
      have c1 : -1200 ≤ P1 ∧ P1 ≤ 1200 ∧ 0 ≤ Q1 ∧ Q1 ≤ 1200 := by omega
      have c2 : -24000 ≤ P2 ∧ P2 ≤ 24000 ∧ 0 ≤ Q2 ∧ Q2 ≤ 1200 := by omega
      have c3 : -576000000 ≤ P3 ∧ P3 ≤ 576000000 ∧ 0 ≤ Q3 ∧ Q3 ≤ 1440000 := by omega
      rw [hP1, hQ1] at HBY HN1
      rw [hP2, hQ2] at HM HN2
      rw [hP3, hQ3] at HSP HN3
      obtain ⟨c11, c12, c13, c14⟩ := c1
      obtain ⟨c21, c22, c23, c24⟩ := c2
      obtain ⟨c31, c32, c33, c34⟩ := c3
      clear hP1 hQ1 hP2 hQ2 hP3 hQ3 b1 b2 b3 hn2 hn3 HC HCI HCJ HBE HG HI HJ g2 g3
      go_wp2_with fail
      refine (HBY.out _ (Below.refl _ _)).mono ?_
      rintro e w5 ⟨rfl, hb⟩
      have HO5 := hid (HO.out.keep hb)
      have HB5 := hid (bstep hb (below_alloc w5 (.cells #[.int .i64 P1, .int .i64 Q1] 26)))
      have HX5 := hid (RatAt.new w5 26 P1 Q1)
      clear g0 g1 hb HO HBY
      have g0 := HO5.out.p0
      have g1 := HO5.out.p1
      have gl := HO5.out.lt
      go_wp2_with fail
      refine (HM.out _ HB5.out).mono ?_
      rintro e w6 ⟨rfl, hb⟩
      have HO6 := hid ((HO5.out.keep_alloc (.cells #[.int .i64 P1, .int .i64 Q1] 26)).keep hb)
      have HX6 := hid ((HX5.out.keep hb).keep_alloc (.cells #[.int .i64 P2, .int .i64 Q2] 26))
      have HY6 := hid (RatAt.new w6 26 P2 Q2)
      have HB6 := hid (bstep (bstep HB5.out hb) (below_alloc w6 (.cells #[.int .i64 P2, .int .i64 Q2] 26)))
      clear g0 g1 gl hb HO5 HX5 HB5 HM
      have g0 := HO6.out.p0
      have g1 := HO6.out.p1
      have gl := HO6.out.lt
      go_wp2_with fail
      refine (HSP.out _ HB6.out).mono ?_
      rintro e w7 ⟨rfl, hb⟩
      have HX7 := hid ((HX6.out.keep hb).keep_alloc (.cells #[.int .i64 P3, .int .i64 Q3] 26))
      have HY7 := hid ((HY6.out.keep hb).keep_alloc (.cells #[.int .i64 P3, .int .i64 Q3] 26))
      have HZ7 := hid (RatAt.new w7 26 P3 Q3)
      have HB7 := hid (bstep (bstep HB6.out hb) (below_alloc w7 (.cells #[.int .i64 P3, .int .i64 Q3] 26)))
      clear g0 g1 gl hb HO6 HX6 HY6 HB6 HSP
      have HCH : Hid (∀ (i : Nat) W, i ≤ 1 → Calls Try.prog 28 #[.int .i64 1, .int .i64 (i : Int)] W fun e w' => e = .returned (.tuple #[.int .i64 ((cho 1 i : Nat) : Int), .int .i64 0]) ∧ W = w') := fun i W hi => chooseF_ok 1 i W (by omega) (by omega)
      go_wp2_with fail
      obtain ⟨w8, hw8⟩ : ∃ w8, w8 = w7.alloc (.cells #[.int .i64 P3, .int .i64 Q3] 26) := ⟨_, rfl⟩
      obtain ⟨b5, hb5⟩ : ∃ b5, b5 = w5.heap.size := ⟨_, rfl⟩
      obtain ⟨b6, hb6⟩ : ∃ b6, b6 = w6.heap.size := ⟨_, rfl⟩
      obtain ⟨b7, hb7⟩ : ∃ b7, b7 = w7.heap.size := ⟨_, rfl⟩
      rw [← hw8] at HX7 HY7 HZ7 HB7 ⊢
      rw [← hb5] at HX7
      rw [← hb6] at HY7
      rw [← hb7] at HZ7
      simp only [← hb5, ← hb6, ← hb7]
      clear hw8 hb5 hb6 hb7
      go_loopg [15, 16, 17, 18] 3 (fun g s i _ _ wq => ∃ t : Nat, t ≤ 2 - k ∧ 2 - k - t ≤ g ∧ s = .int .i64 ((waysN 1 k t : Nat) : Int) ∧ i = .int .i64 ((k : Int) + (t : Int)) ∧ w8 = wq)
      case atStart => exact ⟨0, by omega, by omega, rfl, by go_num, rfl⟩
      case round =>
        obtain ⟨t, ht, hgt, rfl, rfl, rfl⟩ := hrel
        have hwb := ways_bd (n := 1) (k := k) (t := t) (by omega) (by omega) (by omega)
        have hwc := ways_bd (n := 1) (k := k) (t := t + 1) (by omega) (by omega) (by omega)
        have HWS : Hid (waysN 1 k (t + 1) = waysN 1 k t + cho 1 (k + t)) := rfl
        rw [HWS.out] at hwc
        by_cases hlt2 : k + t ≤ 1
        · have hltI : (k : Int) + (t : Int) ≤ 1 := by omega
          have HCK := hid (fun W => HCH.out (k + t) W hlt2)
          rw [show ((k + t : Nat) : Int) = (k : Int) + (t : Int) by omega] at HCK
          generalize cho 1 (k + t) = y at *
          generalize waysN 1 k t = s at *
          go_wp2_with fail
          refine (HCK.out _).mono ?_
          rintro e w' ⟨rfl, rfl⟩
          go_wp2
          go_roundg (2 - k - (t + 1))
          case measure => omega
          case rel => exact ⟨t + 1, by omega, by omega, by rw [HWS.out]; go_num, by go_num, rfl⟩
        · have hte : t = 2 - k := by omega
          have hge : ¬ (k : Int) + (t : Int) ≤ 1 := by omega
          have HN1' := HN1.out
          rw [← hte] at HN1'
          generalize waysN 1 k t = s at *
          have hs1 : (s : Int) ≤ 100 := by omega
          have hs0 : 0 ≤ (s : Int) := by omega
          have p1 : -(100 * 1200) ≤ (s : Int) * Q1 ∧ (s : Int) * Q1 ≤ 100 * 1200 := mul_bd (A := 100) (B := 1200) (by omega) hs1 (by omega) c14
          have hN1 : P1 * 2 = (s : Int) * Q1 := HN1'
          have HNA := hid hN1
          have x0 := HX7.out.p0
          have x1 := HX7.out.p1
          have y0 := HY7.out.p0
          have y1 := HY7.out.p1
          have z0 := HZ7.out.p0
          have z1 := HZ7.out.p1
          have HKEEP : Hid (∀ W : World, Below w8.heap.size w8 W → W.cell? ⟨b5, 0, none⟩ = some (.int .i64 P1) ∧ W.cell? ⟨b5, 1, none⟩ = some (.int .i64 Q1) ∧ W.cell? ⟨b6, 0, none⟩ = some (.int .i64 P2) ∧ W.cell? ⟨b6, 1, none⟩ = some (.int .i64 Q2) ∧ W.cell? ⟨b7, 0, none⟩ = some (.int .i64 P3) ∧ W.cell? ⟨b7, 1, none⟩ = some (.int .i64 Q3)) := fun W hb => ⟨(HX7.out.keep hb).p0, (HX7.out.keep hb).p1, (HY7.out.keep hb).p0, (HY7.out.keep hb).p1, (HZ7.out.keep hb).p0, (HZ7.out.keep hb).p1⟩
          clear HWS hwb hwc hN1 hte hlt2 HN1 HN1' x0 x1 y0 y1 z0 z1
          have hq1 : IntKind.i64.wrap ((s : Int) * Q1) = (s : Int) * Q1 := IntWalk.i64_in _ (by omega)
          have hq2 : IntKind.i64.wrap (2 * P2) = 2 * P2 := IntWalk.i64_in _ (by omega)
          have hq0 : IntKind.i64.wrap (P1 * 2) = P1 * 2 := IntWalk.i64_in _ (by omega)
          have hq3 : IntKind.i64.wrap (Q2) = Q2 := IntWalk.i64_in _ (by omega)
          have hq4 : IntKind.i64.wrap (4 * P3) = 4 * P3 := IntWalk.i64_in _ (by omega)
          have hq5 : IntKind.i64.wrap (Q3) = Q3 := IntWalk.i64_in _ (by omega)
          have hr1 : (P1 * 2 == (s : Int) * Q1) = true := by simpa using HNA.out
          have hr2 : (2 * P2 == Q2) = true := by have := HN2.out; simp; omega
          have hr3 : (4 * P3 == Q3) = true := by have := HN3.out; simp; omega
          go_wp2_with fail
          go_region_held3 (fun u => u.cell? ⟨b5, 0, none⟩ = some (.int .i64 P1) ∧ u.cell? ⟨b5, 1, none⟩ = some (.int .i64 Q1) ∧ u.cell? ⟨b6, 0, none⟩ = some (.int .i64 P2) ∧ u.cell? ⟨b6, 1, none⟩ = some (.int .i64 Q2) ∧ u.cell? ⟨b7, 0, none⟩ = some (.int .i64 P3) ∧ u.cell? ⟨b7, 1, none⟩ = some (.int .i64 Q3)) (first | exact hk9 | exact HKEEP.out _ (below_drewN (Below.refl _ _) 1) | exact HKEEP.out _ ((below_drewN (Below.refl _ _) 1).trans (below_alloc w8.drew _))) (first | (go_at_call 23; refine (good_bel w8.drew _ _ 3 [0, 0, 0] rfl rfl (by omega)).mono ?_; rintro e w9 ⟨rfl, hb0⟩; rw [show allOK [0, 0, 0] = true by decide]; have hb : Below w8.heap.size w8 w9 := (below_drewN (Below.refl w8.heap.size w8) 1).trans hb0; have hk9 := HKEEP.out _ hb; clear hb0))
          go_wp2
          go_ret
          exact ⟨rfl, (HBW.out.trans (HB7.out.mono HBW.out.size)).trans (hb.mono (Nat.le_trans HBW.out.size HB7.out.size))⟩
set_option maxHeartbeats 4000000 in
set_option maxRecDepth 100000 in
theorem bern_2 (N K : Int) (hN : N % 3 = 1) (w : World) :
    Calls Try.prog 8 #[.int .i64 N, .int .i64 K] w fun e w' => e = .returned (.bool true) ∧ Below w.heap.size w w' := by
  go_enter Try.func8, Try.ntmps8
  go_wp2_with fail
  refine (oddsLive_any _).mono ?_
  rintro e w1 ⟨rfl, hb⟩
  have HB1 := hid hb
  clear hb
  go_wp2_with fail
  refine (within_any _ _ _ (by omega) (by omega)).mono ?_
  rintro e w' ⟨rfl, rfl⟩
  rw [hN]
  go_wp2_with fail
  refine (within_any _ _ _ (by omega) (by omega)).mono ?_
  rintro e w' ⟨rfl, rfl⟩
  obtain ⟨k, hkK⟩ : ∃ k : Nat, K % 4 = k := ⟨(K % 4).toNat, by omega⟩
  have hk : k ≤ 3 := by omega
  rw [hkK]
  clear hkK hN
  obtain ⟨w2, hw2⟩ : ∃ w2, w2 = (((w1.alloc (.cells #[.int .i64 0, .int .i64 1] 3)).alloc (.cells #[.int .i64 1, .int .i64 1] 3)).alloc (.cells #[.slice (some ⟨w1.heap.size, 0, none⟩) 2 2, .slice (some ⟨w1.heap.size + 1, 0, none⟩) 2 2] 24)) := ⟨_, rfl⟩
  have HC2 : Hid (OddsAt w2 (w1.heap.size + 2) (some ⟨w1.heap.size, 0, none⟩) 2 2 (some ⟨w1.heap.size + 1, 0, none⟩) 2 2) := by
    rw [hw2]
    have h := OddsAt.new ((w1.alloc (.cells #[.int .i64 0, .int .i64 1] 3)).alloc (.cells #[.int .i64 1, .int .i64 1] 3)) 24 (some ⟨w1.heap.size, 0, none⟩) 2 2 (some ⟨w1.heap.size + 1, 0, none⟩) 2 2
    rwa [show ((w1.alloc (.cells #[.int .i64 0, .int .i64 1] 3)).alloc (.cells #[.int .i64 1, .int .i64 1] 3)).heap.size = w1.heap.size + 2 by simp] at h
  have HL2 : Hid (Ints w2 (some ⟨w1.heap.size, 0, none⟩) 2 (vsL coin1) ∧ Ints w2 (some ⟨w1.heap.size + 1, 0, none⟩) 2 (wsL coin1)) := by
    rw [hw2]
    obtain ⟨a, b⟩ := two_lits w1 #[.int .i64 0, .int .i64 1] #[.int .i64 1, .int .i64 1] 3 2 2 [0, 1] [1, 1] rfl rfl rfl rfl
    exact ⟨a.keep (below_alloc _ _), b.keep (below_alloc _ _)⟩
  have HS2 : Hid (w2.heap.size = w1.heap.size + 3) := by rw [hw2]; show _ = _; simp
  have HB2 : Hid (Below w.heap.size w w2) := by rw [hw2]; exact below_step HB1.out (Nat.le_refl _) (three_alloc _ _ _ _)
  obtain ⟨bo, hbo⟩ : ∃ bo, bo = w1.heap.size + 3 := ⟨_, rfl⟩
  have HBO := hid hbo
  rw [← hbo] at HS2
  clear HB1 hbo
  go_wp2_with fail
  rw [← hw2]
  clear hw2
  obtain ⟨w3, hw3⟩ : ∃ w3, w3 = w2.alloc (.cells #[.slice (some ⟨w1.heap.size, 0, none⟩) 2 2, .slice (some ⟨w1.heap.size + 1, 0, none⟩) 2 2] 24) := ⟨_, rfl⟩
  have HO3 : Hid (OddsAt w3 bo (some ⟨w1.heap.size, 0, none⟩) 2 2 (some ⟨w1.heap.size + 1, 0, none⟩) 2 2) := by rw [hw3, ← HS2.out]; exact OddsAt.new w2 _ _ _ _ _ _ _
  have HB3 : Hid (Below bo w2 w3) := by rw [hw3, ← HS2.out]; exact below_alloc w2 _
  have HB3w : Hid (Below w2.heap.size w2 w3) := by rw [hw3]; exact below_alloc w2 _
  have HI3 : Hid (IntsOff w3 bo (some ⟨w1.heap.size, 0, none⟩) 2 (vsL (coinL 0))) := ⟨HL2.out.1.keep HB3w.out, fun b off e => by cases e; have := HBO.out; omega⟩
  have HJ3 : Hid (IntsOff w3 bo (some ⟨w1.heap.size + 1, 0, none⟩) 2 (wsL (coinL 0))) := ⟨HL2.out.2.keep HB3w.out, fun b off e => by cases e; have := HBO.out; omega⟩
  rw [← hw3]
  simp only [show w1.heap.size + 1 + 1 + 1 = bo from HBO.out.symm]
  clear hw3 HB3w
  go_loopg [34] 1 (fun g s wr => ∃ (j : Nat) (A : Option Addr) (a c : Nat) (B : Option Addr) (m d : Nat), j ≤ 1 ∧ 1 - j ≤ g ∧ s = .int .i64 (j : Int) ∧ OddsAt wr bo A a c B m d ∧ IntsOff wr bo A a (vsL (coinL j)) ∧ IntsOff wr bo B m (wsL (coinL j)) ∧ Below bo w2 wr)
  case atStart => exact ⟨0, _, _, _, _, _, _, Nat.zero_le _, by omega, rfl, HO3.out, HI3.out, HJ3.out, HB3.out⟩
  case round =>
    clear HO3 HI3 HJ3 HB3
    obtain ⟨j, A, a, c, B, m, d, hj, hg, rfl, ho, hi, hjj, hbel⟩ := hrel
    have HO := hid ho
    have HI := hid hi
    have HJ := hid hjj
    have HBE := hid hbel
    have hbelw : Below w2.heap.size w2 wr := by rw [HS2.out]; exact hbel
    have HC := hid (HC2.out.keep hbelw)
    have HCI := hid (HL2.out.1.keep hbelw)
    have HCJ := hid (HL2.out.2.keep hbelw)
    have HBW := hid (below_step HB2.out (Nat.le_refl _) hbelw)
    clear ho hi hjj hbel hbelw
    have g0 := HO.out.p0
    have g1 := HO.out.p1
    have g2 := HC.out.p0
    have g3 := HC.out.p1
    by_cases hlt : j < 1
    · have HGJ := hid (coin_good (j := j) (by omega))
      have HGN := hid (coin_good (j := j + 1) (by omega))
      have HG0 := hid (coin_good (j := 0) (by omega))
      have hjI : (j : Int) < 1 := by omega
      have hbw : bo < wr.heap.size := HO.out.lt
      go_wp2_with fail
      refine (oboth_ok A a c B m d (some ⟨w1.heap.size, 0, none⟩) 2 2 (some ⟨w1.heap.size + 1, 0, none⟩) 2 2 (coinL j) coin1 _ HI.out.1 HJ.out.1 HCI.out HCJ.out HGJ.out HG0.out).mono ?_
      rintro e w4 ⟨hb, (⟨_, A', a', c', B', m', d', rfl, hI', hJ', _, _⟩ | ⟨hng, _⟩)⟩
      rotate_left
      · exact absurd HGN.out hng
      have HI4 := hid (IntsOff.of_own (bo := bo) hI' hbw)
      have HJ4 := hid (IntsOff.of_own (bo := bo) hJ' hbw)
      have HO4 := hid (HO.out.keep hb)
      have HB4 : Hid (Below bo w2 w4) := HBE.out.trans (hb.mono (Nat.le_of_lt hbw))
      have h4l : bo < w4.heap.size := Nat.lt_of_lt_of_le hbw hb.size
      have hne : w4.heap.size ≠ bo := by omega
      clear g0 g1 g2 g3 hb hI' hJ' HI HJ HO HBE HC HCI HCJ HBW
      have f0 := HO4.out.f0
      have f1 := HO4.out.f1
      have e0 := HO4.out.p0
      have e1 := HO4.out.p1
      go_wp2
      go_roundg (1 - (j + 1))
      case measure => omega
      case rel =>
        have hI := (HI4.out.set 0 (.slice A' a' c')).set 1 (.slice B' m' d')
        have hJ := (HJ4.out.set 0 (.slice A' a' c')).set 1 (.slice B' m' d')
        have hsz : bo ≤ ((w4.setCell ⟨bo, 0, none⟩ (.slice A' a' c')).setCell ⟨bo, 1, none⟩ (.slice B' m' d')).heap.size := by simp [World.setCell]; omega
        exact ⟨j + 1, A', a', c', B', m', d', by omega, by omega, by go_num, (HO4.out.put A' a' c' B' m' d').keep_alloc _, ⟨hI.1.keep (below_alloc _ _), hI.2⟩, ⟨hJ.1.keep (below_alloc _ _), hJ.2⟩, ((HB4.out.setCell (Nat.le_refl _) _).setCell (Nat.le_refl _) _).trans ((below_alloc _ _).mono hsz)⟩
    · obtain rfl : j = 1 := by omega
      have HG := hid (coin_good (j := 1) (by omega))
      have HBY : Hid (∀ W, Below wr.heap.size wr W → Calls Try.prog 12 #[.agg #[.slice A a c, .slice B m d], .int .i64 (k : Int)] W (RetR W (coinP 2 k).num ((coinP 2 k).den : Int) 0)) := fun W hb => obeyond_ok _ _ _ _ _ _ k _ W (HI.out.1.keep hb) (HJ.out.1.keep hb) HG.out
      have HM : Hid (∀ W, Below wr.heap.size wr W → Calls Try.prog 10 #[.agg #[.slice A a c, .slice B m d]] W (RetR W (mean (coinL 1)).num ((mean (coinL 1)).den : Int) 0)) := fun W hb => omean_ok _ _ _ _ _ _ _ W (HI.out.1.keep hb) (HJ.out.1.keep hb) HG.out
      have HSP : Hid (∀ W, Below wr.heap.size wr W → Calls Try.prog 11 #[.agg #[.slice A a c, .slice B m d]] W (RetR W (var (coinL 1)).num ((var (coinL 1)).den : Int) 0)) := fun W hb => ospread_ok _ _ _ _ _ _ _ W (HI.out.1.keep hb) (HJ.out.1.keep hb) HG.out
      have HN1 := hid (coin_num (n := 2) (k := k) (by omega) (by omega) hk)
      have hn2 : 2 * (mean (coinL 1)).num = 2 * ((mean (coinL 1)).den : Int) := coin_mean (n := 2) (by omega) (by omega)
      have hn3 : 4 * (var (coinL 1)).num = 2 * ((var (coinL 1)).den : Int) := coin_var (n := 2) (by omega) (by omega)
      have HN2 := hid hn2
      have HN3 := hid hn3
      have b1 : RB (coinP 2 k) 1200 1200 := beyond_bd k HG.out
      have b2 := mean_bd HG.out
      have b3 := var_bd HG.out
      unfold RB at b1 b2 b3
      obtain ⟨P1, hP1⟩ : ∃ x, (coinP 2 k).num = x := ⟨_, rfl⟩
      obtain ⟨Q1, hQ1⟩ : ∃ x, ((coinP 2 k).den : Int) = x := ⟨_, rfl⟩
      obtain ⟨P2, hP2⟩ : ∃ x, (mean (coinL 1)).num = x := ⟨_, rfl⟩
      obtain ⟨Q2, hQ2⟩ : ∃ x, ((mean (coinL 1)).den : Int) = x := ⟨_, rfl⟩
      obtain ⟨P3, hP3⟩ : ∃ x, (var (coinL 1)).num = x := ⟨_, rfl⟩
      obtain ⟨Q3, hQ3⟩ : ∃ x, ((var (coinL 1)).den : Int) = x := ⟨_, rfl⟩
      have c1 : -1200 ≤ P1 ∧ P1 ≤ 1200 ∧ 0 ≤ Q1 ∧ Q1 ≤ 1200 := by omega
      have c2 : -24000 ≤ P2 ∧ P2 ≤ 24000 ∧ 0 ≤ Q2 ∧ Q2 ≤ 1200 := by omega
      have c3 : -576000000 ≤ P3 ∧ P3 ≤ 576000000 ∧ 0 ≤ Q3 ∧ Q3 ≤ 1440000 := by omega
      rw [hP1, hQ1] at HBY HN1
      rw [hP2, hQ2] at HM HN2
      rw [hP3, hQ3] at HSP HN3
      obtain ⟨c11, c12, c13, c14⟩ := c1
      obtain ⟨c21, c22, c23, c24⟩ := c2
      obtain ⟨c31, c32, c33, c34⟩ := c3
      clear hP1 hQ1 hP2 hQ2 hP3 hQ3 b1 b2 b3 hn2 hn3 HC HCI HCJ HBE HG HI HJ g2 g3
      go_wp2_with fail
      refine (HBY.out _ (Below.refl _ _)).mono ?_
      rintro e w5 ⟨rfl, hb⟩
      have HO5 := hid (HO.out.keep hb)
      have HB5 := hid (bstep hb (below_alloc w5 (.cells #[.int .i64 P1, .int .i64 Q1] 26)))
      have HX5 := hid (RatAt.new w5 26 P1 Q1)
      clear g0 g1 hb HO HBY
      have g0 := HO5.out.p0
      have g1 := HO5.out.p1
      have gl := HO5.out.lt
      go_wp2_with fail
      refine (HM.out _ HB5.out).mono ?_
      rintro e w6 ⟨rfl, hb⟩
      have HO6 := hid ((HO5.out.keep_alloc (.cells #[.int .i64 P1, .int .i64 Q1] 26)).keep hb)
      have HX6 := hid ((HX5.out.keep hb).keep_alloc (.cells #[.int .i64 P2, .int .i64 Q2] 26))
      have HY6 := hid (RatAt.new w6 26 P2 Q2)
      have HB6 := hid (bstep (bstep HB5.out hb) (below_alloc w6 (.cells #[.int .i64 P2, .int .i64 Q2] 26)))
      clear g0 g1 gl hb HO5 HX5 HB5 HM
      have g0 := HO6.out.p0
      have g1 := HO6.out.p1
      have gl := HO6.out.lt
      go_wp2_with fail
      refine (HSP.out _ HB6.out).mono ?_
      rintro e w7 ⟨rfl, hb⟩
      have HX7 := hid ((HX6.out.keep hb).keep_alloc (.cells #[.int .i64 P3, .int .i64 Q3] 26))
      have HY7 := hid ((HY6.out.keep hb).keep_alloc (.cells #[.int .i64 P3, .int .i64 Q3] 26))
      have HZ7 := hid (RatAt.new w7 26 P3 Q3)
      have HB7 := hid (bstep (bstep HB6.out hb) (below_alloc w7 (.cells #[.int .i64 P3, .int .i64 Q3] 26)))
      clear g0 g1 gl hb HO6 HX6 HY6 HB6 HSP
      have HCH : Hid (∀ (i : Nat) W, i ≤ 2 → Calls Try.prog 28 #[.int .i64 2, .int .i64 (i : Int)] W fun e w' => e = .returned (.tuple #[.int .i64 ((cho 2 i : Nat) : Int), .int .i64 0]) ∧ W = w') := fun i W hi => chooseF_ok 2 i W (by omega) (by omega)
      go_wp2_with fail
      obtain ⟨w8, hw8⟩ : ∃ w8, w8 = w7.alloc (.cells #[.int .i64 P3, .int .i64 Q3] 26) := ⟨_, rfl⟩
      obtain ⟨b5, hb5⟩ : ∃ b5, b5 = w5.heap.size := ⟨_, rfl⟩
      obtain ⟨b6, hb6⟩ : ∃ b6, b6 = w6.heap.size := ⟨_, rfl⟩
      obtain ⟨b7, hb7⟩ : ∃ b7, b7 = w7.heap.size := ⟨_, rfl⟩
      rw [← hw8] at HX7 HY7 HZ7 HB7 ⊢
      rw [← hb5] at HX7
      rw [← hb6] at HY7
      rw [← hb7] at HZ7
      simp only [← hb5, ← hb6, ← hb7]
      clear hw8 hb5 hb6 hb7
      go_loopg [15, 16, 17, 18] 4 (fun g s i _ _ wq => ∃ t : Nat, t ≤ 3 - k ∧ 3 - k - t ≤ g ∧ s = .int .i64 ((waysN 2 k t : Nat) : Int) ∧ i = .int .i64 ((k : Int) + (t : Int)) ∧ w8 = wq)
      case atStart => exact ⟨0, by omega, by omega, rfl, by go_num, rfl⟩
      case round =>
        obtain ⟨t, ht, hgt, rfl, rfl, rfl⟩ := hrel
        have hwb := ways_bd (n := 2) (k := k) (t := t) (by omega) (by omega) (by omega)
        have hwc := ways_bd (n := 2) (k := k) (t := t + 1) (by omega) (by omega) (by omega)
        have HWS : Hid (waysN 2 k (t + 1) = waysN 2 k t + cho 2 (k + t)) := rfl
        rw [HWS.out] at hwc
        by_cases hlt2 : k + t ≤ 2
        · have hltI : (k : Int) + (t : Int) ≤ 2 := by omega
          have HCK := hid (fun W => HCH.out (k + t) W hlt2)
          rw [show ((k + t : Nat) : Int) = (k : Int) + (t : Int) by omega] at HCK
          generalize cho 2 (k + t) = y at *
          generalize waysN 2 k t = s at *
          go_wp2_with fail
          refine (HCK.out _).mono ?_
          rintro e w' ⟨rfl, rfl⟩
          go_wp2
          go_roundg (3 - k - (t + 1))
          case measure => omega
          case rel => exact ⟨t + 1, by omega, by omega, by rw [HWS.out]; go_num, by go_num, rfl⟩
        · have hte : t = 3 - k := by omega
          have hge : ¬ (k : Int) + (t : Int) ≤ 2 := by omega
          have HN1' := HN1.out
          rw [← hte] at HN1'
          generalize waysN 2 k t = s at *
          have hs1 : (s : Int) ≤ 100 := by omega
          have hs0 : 0 ≤ (s : Int) := by omega
          have p1 : -(100 * 1200) ≤ (s : Int) * Q1 ∧ (s : Int) * Q1 ≤ 100 * 1200 := mul_bd (A := 100) (B := 1200) (by omega) hs1 (by omega) c14
          have hN1 : P1 * 4 = (s : Int) * Q1 := HN1'
          have HNA := hid hN1
          have x0 := HX7.out.p0
          have x1 := HX7.out.p1
          have y0 := HY7.out.p0
          have y1 := HY7.out.p1
          have z0 := HZ7.out.p0
          have z1 := HZ7.out.p1
          have HKEEP : Hid (∀ W : World, Below w8.heap.size w8 W → W.cell? ⟨b5, 0, none⟩ = some (.int .i64 P1) ∧ W.cell? ⟨b5, 1, none⟩ = some (.int .i64 Q1) ∧ W.cell? ⟨b6, 0, none⟩ = some (.int .i64 P2) ∧ W.cell? ⟨b6, 1, none⟩ = some (.int .i64 Q2) ∧ W.cell? ⟨b7, 0, none⟩ = some (.int .i64 P3) ∧ W.cell? ⟨b7, 1, none⟩ = some (.int .i64 Q3)) := fun W hb => ⟨(HX7.out.keep hb).p0, (HX7.out.keep hb).p1, (HY7.out.keep hb).p0, (HY7.out.keep hb).p1, (HZ7.out.keep hb).p0, (HZ7.out.keep hb).p1⟩
          clear HWS hwb hwc hN1 hte hlt2 HN1 HN1' x0 x1 y0 y1 z0 z1
          have hq1 : IntKind.i64.wrap ((s : Int) * Q1) = (s : Int) * Q1 := IntWalk.i64_in _ (by omega)
          have hq2 : IntKind.i64.wrap (2 * P2) = 2 * P2 := IntWalk.i64_in _ (by omega)
          have hq0 : IntKind.i64.wrap (P1 * 4) = P1 * 4 := IntWalk.i64_in _ (by omega)
          have hq3 : IntKind.i64.wrap (2 * Q2) = 2 * Q2 := IntWalk.i64_in _ (by omega)
          have hq4 : IntKind.i64.wrap (4 * P3) = 4 * P3 := IntWalk.i64_in _ (by omega)
          have hq5 : IntKind.i64.wrap (2 * Q3) = 2 * Q3 := IntWalk.i64_in _ (by omega)
          have hr1 : (P1 * 4 == (s : Int) * Q1) = true := by simpa using HNA.out
          have hr2 : (2 * P2 == 2 * Q2) = true := by have := HN2.out; simp; omega
          have hr3 : (4 * P3 == 2 * Q3) = true := by have := HN3.out; simp; omega
          go_wp2_with fail
          go_region_held3 (fun u => u.cell? ⟨b5, 0, none⟩ = some (.int .i64 P1) ∧ u.cell? ⟨b5, 1, none⟩ = some (.int .i64 Q1) ∧ u.cell? ⟨b6, 0, none⟩ = some (.int .i64 P2) ∧ u.cell? ⟨b6, 1, none⟩ = some (.int .i64 Q2) ∧ u.cell? ⟨b7, 0, none⟩ = some (.int .i64 P3) ∧ u.cell? ⟨b7, 1, none⟩ = some (.int .i64 Q3)) (first | exact hk9 | exact HKEEP.out _ (below_drewN (Below.refl _ _) 1) | exact HKEEP.out _ ((below_drewN (Below.refl _ _) 1).trans (below_alloc w8.drew _))) (first | (go_at_call 23; refine (good_bel w8.drew _ _ 3 [0, 0, 0] rfl rfl (by omega)).mono ?_; rintro e w9 ⟨rfl, hb0⟩; rw [show allOK [0, 0, 0] = true by decide]; have hb : Below w8.heap.size w8 w9 := (below_drewN (Below.refl w8.heap.size w8) 1).trans hb0; have hk9 := HKEEP.out _ hb; clear hb0))
          go_wp2
          go_ret
          exact ⟨rfl, (HBW.out.trans (HB7.out.mono HBW.out.size)).trans (hb.mono (Nat.le_trans HBW.out.size HB7.out.size))⟩
set_option maxHeartbeats 4000000 in
set_option maxRecDepth 100000 in
theorem bern_3 (N K : Int) (hN : N % 3 = 2) (w : World) :
    Calls Try.prog 8 #[.int .i64 N, .int .i64 K] w fun e w' => e = .returned (.bool true) ∧ Below w.heap.size w w' := by
  go_enter Try.func8, Try.ntmps8
  go_wp2_with fail
  refine (oddsLive_any _).mono ?_
  rintro e w1 ⟨rfl, hb⟩
  have HB1 := hid hb
  clear hb
  go_wp2_with fail
  refine (within_any _ _ _ (by omega) (by omega)).mono ?_
  rintro e w' ⟨rfl, rfl⟩
  rw [hN]
  go_wp2_with fail
  refine (within_any _ _ _ (by omega) (by omega)).mono ?_
  rintro e w' ⟨rfl, rfl⟩
  obtain ⟨k, hkK⟩ : ∃ k : Nat, K % 5 = k := ⟨(K % 5).toNat, by omega⟩
  have hk : k ≤ 4 := by omega
  rw [hkK]
  clear hkK hN
  obtain ⟨w2, hw2⟩ : ∃ w2, w2 = (((w1.alloc (.cells #[.int .i64 0, .int .i64 1] 3)).alloc (.cells #[.int .i64 1, .int .i64 1] 3)).alloc (.cells #[.slice (some ⟨w1.heap.size, 0, none⟩) 2 2, .slice (some ⟨w1.heap.size + 1, 0, none⟩) 2 2] 24)) := ⟨_, rfl⟩
  have HC2 : Hid (OddsAt w2 (w1.heap.size + 2) (some ⟨w1.heap.size, 0, none⟩) 2 2 (some ⟨w1.heap.size + 1, 0, none⟩) 2 2) := by
    rw [hw2]
    have h := OddsAt.new ((w1.alloc (.cells #[.int .i64 0, .int .i64 1] 3)).alloc (.cells #[.int .i64 1, .int .i64 1] 3)) 24 (some ⟨w1.heap.size, 0, none⟩) 2 2 (some ⟨w1.heap.size + 1, 0, none⟩) 2 2
    rwa [show ((w1.alloc (.cells #[.int .i64 0, .int .i64 1] 3)).alloc (.cells #[.int .i64 1, .int .i64 1] 3)).heap.size = w1.heap.size + 2 by simp] at h
  have HL2 : Hid (Ints w2 (some ⟨w1.heap.size, 0, none⟩) 2 (vsL coin1) ∧ Ints w2 (some ⟨w1.heap.size + 1, 0, none⟩) 2 (wsL coin1)) := by
    rw [hw2]
    obtain ⟨a, b⟩ := two_lits w1 #[.int .i64 0, .int .i64 1] #[.int .i64 1, .int .i64 1] 3 2 2 [0, 1] [1, 1] rfl rfl rfl rfl
    exact ⟨a.keep (below_alloc _ _), b.keep (below_alloc _ _)⟩
  have HS2 : Hid (w2.heap.size = w1.heap.size + 3) := by rw [hw2]; show _ = _; simp
  have HB2 : Hid (Below w.heap.size w w2) := by rw [hw2]; exact below_step HB1.out (Nat.le_refl _) (three_alloc _ _ _ _)
  obtain ⟨bo, hbo⟩ : ∃ bo, bo = w1.heap.size + 3 := ⟨_, rfl⟩
  have HBO := hid hbo
  rw [← hbo] at HS2
  clear HB1 hbo
  go_wp2_with fail
  rw [← hw2]
  clear hw2
  obtain ⟨w3, hw3⟩ : ∃ w3, w3 = w2.alloc (.cells #[.slice (some ⟨w1.heap.size, 0, none⟩) 2 2, .slice (some ⟨w1.heap.size + 1, 0, none⟩) 2 2] 24) := ⟨_, rfl⟩
  have HO3 : Hid (OddsAt w3 bo (some ⟨w1.heap.size, 0, none⟩) 2 2 (some ⟨w1.heap.size + 1, 0, none⟩) 2 2) := by rw [hw3, ← HS2.out]; exact OddsAt.new w2 _ _ _ _ _ _ _
  have HB3 : Hid (Below bo w2 w3) := by rw [hw3, ← HS2.out]; exact below_alloc w2 _
  have HB3w : Hid (Below w2.heap.size w2 w3) := by rw [hw3]; exact below_alloc w2 _
  have HI3 : Hid (IntsOff w3 bo (some ⟨w1.heap.size, 0, none⟩) 2 (vsL (coinL 0))) := ⟨HL2.out.1.keep HB3w.out, fun b off e => by cases e; have := HBO.out; omega⟩
  have HJ3 : Hid (IntsOff w3 bo (some ⟨w1.heap.size + 1, 0, none⟩) 2 (wsL (coinL 0))) := ⟨HL2.out.2.keep HB3w.out, fun b off e => by cases e; have := HBO.out; omega⟩
  rw [← hw3]
  simp only [show w1.heap.size + 1 + 1 + 1 = bo from HBO.out.symm]
  clear hw3 HB3w
  go_loopg [34] 2 (fun g s wr => ∃ (j : Nat) (A : Option Addr) (a c : Nat) (B : Option Addr) (m d : Nat), j ≤ 2 ∧ 2 - j ≤ g ∧ s = .int .i64 (j : Int) ∧ OddsAt wr bo A a c B m d ∧ IntsOff wr bo A a (vsL (coinL j)) ∧ IntsOff wr bo B m (wsL (coinL j)) ∧ Below bo w2 wr)
  case atStart => exact ⟨0, _, _, _, _, _, _, Nat.zero_le _, by omega, rfl, HO3.out, HI3.out, HJ3.out, HB3.out⟩
  case round =>
    clear HO3 HI3 HJ3 HB3
    obtain ⟨j, A, a, c, B, m, d, hj, hg, rfl, ho, hi, hjj, hbel⟩ := hrel
    have HO := hid ho
    have HI := hid hi
    have HJ := hid hjj
    have HBE := hid hbel
    have hbelw : Below w2.heap.size w2 wr := by rw [HS2.out]; exact hbel
    have HC := hid (HC2.out.keep hbelw)
    have HCI := hid (HL2.out.1.keep hbelw)
    have HCJ := hid (HL2.out.2.keep hbelw)
    have HBW := hid (below_step HB2.out (Nat.le_refl _) hbelw)
    clear ho hi hjj hbel hbelw
    have g0 := HO.out.p0
    have g1 := HO.out.p1
    have g2 := HC.out.p0
    have g3 := HC.out.p1
    by_cases hlt : j < 2
    · have HGJ := hid (coin_good (j := j) (by omega))
      have HGN := hid (coin_good (j := j + 1) (by omega))
      have HG0 := hid (coin_good (j := 0) (by omega))
      have hjI : (j : Int) < 2 := by omega
      have hbw : bo < wr.heap.size := HO.out.lt
      go_wp2_with fail
      refine (oboth_ok A a c B m d (some ⟨w1.heap.size, 0, none⟩) 2 2 (some ⟨w1.heap.size + 1, 0, none⟩) 2 2 (coinL j) coin1 _ HI.out.1 HJ.out.1 HCI.out HCJ.out HGJ.out HG0.out).mono ?_
      rintro e w4 ⟨hb, (⟨_, A', a', c', B', m', d', rfl, hI', hJ', _, _⟩ | ⟨hng, _⟩)⟩
      rotate_left
      · exact absurd HGN.out hng
      have HI4 := hid (IntsOff.of_own (bo := bo) hI' hbw)
      have HJ4 := hid (IntsOff.of_own (bo := bo) hJ' hbw)
      have HO4 := hid (HO.out.keep hb)
      have HB4 : Hid (Below bo w2 w4) := HBE.out.trans (hb.mono (Nat.le_of_lt hbw))
      have h4l : bo < w4.heap.size := Nat.lt_of_lt_of_le hbw hb.size
      have hne : w4.heap.size ≠ bo := by omega
      clear g0 g1 g2 g3 hb hI' hJ' HI HJ HO HBE HC HCI HCJ HBW
      have f0 := HO4.out.f0
      have f1 := HO4.out.f1
      have e0 := HO4.out.p0
      have e1 := HO4.out.p1
      go_wp2
      go_roundg (2 - (j + 1))
      case measure => omega
      case rel =>
        have hI := (HI4.out.set 0 (.slice A' a' c')).set 1 (.slice B' m' d')
        have hJ := (HJ4.out.set 0 (.slice A' a' c')).set 1 (.slice B' m' d')
        have hsz : bo ≤ ((w4.setCell ⟨bo, 0, none⟩ (.slice A' a' c')).setCell ⟨bo, 1, none⟩ (.slice B' m' d')).heap.size := by simp [World.setCell]; omega
        exact ⟨j + 1, A', a', c', B', m', d', by omega, by omega, by go_num, (HO4.out.put A' a' c' B' m' d').keep_alloc _, ⟨hI.1.keep (below_alloc _ _), hI.2⟩, ⟨hJ.1.keep (below_alloc _ _), hJ.2⟩, ((HB4.out.setCell (Nat.le_refl _) _).setCell (Nat.le_refl _) _).trans ((below_alloc _ _).mono hsz)⟩
    · obtain rfl : j = 2 := by omega
      have HG := hid (coin_good (j := 2) (by omega))
      have HBY : Hid (∀ W, Below wr.heap.size wr W → Calls Try.prog 12 #[.agg #[.slice A a c, .slice B m d], .int .i64 (k : Int)] W (RetR W (coinP 3 k).num ((coinP 3 k).den : Int) 0)) := fun W hb => obeyond_ok _ _ _ _ _ _ k _ W (HI.out.1.keep hb) (HJ.out.1.keep hb) HG.out
      have HM : Hid (∀ W, Below wr.heap.size wr W → Calls Try.prog 10 #[.agg #[.slice A a c, .slice B m d]] W (RetR W (mean (coinL 2)).num ((mean (coinL 2)).den : Int) 0)) := fun W hb => omean_ok _ _ _ _ _ _ _ W (HI.out.1.keep hb) (HJ.out.1.keep hb) HG.out
      have HSP : Hid (∀ W, Below wr.heap.size wr W → Calls Try.prog 11 #[.agg #[.slice A a c, .slice B m d]] W (RetR W (var (coinL 2)).num ((var (coinL 2)).den : Int) 0)) := fun W hb => ospread_ok _ _ _ _ _ _ _ W (HI.out.1.keep hb) (HJ.out.1.keep hb) HG.out
      have HN1 := hid (coin_num (n := 3) (k := k) (by omega) (by omega) hk)
      have hn2 : 2 * (mean (coinL 2)).num = 3 * ((mean (coinL 2)).den : Int) := coin_mean (n := 3) (by omega) (by omega)
      have hn3 : 4 * (var (coinL 2)).num = 3 * ((var (coinL 2)).den : Int) := coin_var (n := 3) (by omega) (by omega)
      have HN2 := hid hn2
      have HN3 := hid hn3
      have b1 : RB (coinP 3 k) 1200 1200 := beyond_bd k HG.out
      have b2 := mean_bd HG.out
      have b3 := var_bd HG.out
      unfold RB at b1 b2 b3
      obtain ⟨P1, hP1⟩ : ∃ x, (coinP 3 k).num = x := ⟨_, rfl⟩
      obtain ⟨Q1, hQ1⟩ : ∃ x, ((coinP 3 k).den : Int) = x := ⟨_, rfl⟩
      obtain ⟨P2, hP2⟩ : ∃ x, (mean (coinL 2)).num = x := ⟨_, rfl⟩
      obtain ⟨Q2, hQ2⟩ : ∃ x, ((mean (coinL 2)).den : Int) = x := ⟨_, rfl⟩
      obtain ⟨P3, hP3⟩ : ∃ x, (var (coinL 2)).num = x := ⟨_, rfl⟩
      obtain ⟨Q3, hQ3⟩ : ∃ x, ((var (coinL 2)).den : Int) = x := ⟨_, rfl⟩
      have c1 : -1200 ≤ P1 ∧ P1 ≤ 1200 ∧ 0 ≤ Q1 ∧ Q1 ≤ 1200 := by omega
      have c2 : -24000 ≤ P2 ∧ P2 ≤ 24000 ∧ 0 ≤ Q2 ∧ Q2 ≤ 1200 := by omega
      have c3 : -576000000 ≤ P3 ∧ P3 ≤ 576000000 ∧ 0 ≤ Q3 ∧ Q3 ≤ 1440000 := by omega
      rw [hP1, hQ1] at HBY HN1
      rw [hP2, hQ2] at HM HN2
      rw [hP3, hQ3] at HSP HN3
      obtain ⟨c11, c12, c13, c14⟩ := c1
      obtain ⟨c21, c22, c23, c24⟩ := c2
      obtain ⟨c31, c32, c33, c34⟩ := c3
      clear hP1 hQ1 hP2 hQ2 hP3 hQ3 b1 b2 b3 hn2 hn3 HC HCI HCJ HBE HG HI HJ g2 g3
      go_wp2_with fail
      refine (HBY.out _ (Below.refl _ _)).mono ?_
      rintro e w5 ⟨rfl, hb⟩
      have HO5 := hid (HO.out.keep hb)
      have HB5 := hid (bstep hb (below_alloc w5 (.cells #[.int .i64 P1, .int .i64 Q1] 26)))
      have HX5 := hid (RatAt.new w5 26 P1 Q1)
      clear g0 g1 hb HO HBY
      have g0 := HO5.out.p0
      have g1 := HO5.out.p1
      have gl := HO5.out.lt
      go_wp2_with fail
      refine (HM.out _ HB5.out).mono ?_
      rintro e w6 ⟨rfl, hb⟩
      have HO6 := hid ((HO5.out.keep_alloc (.cells #[.int .i64 P1, .int .i64 Q1] 26)).keep hb)
      have HX6 := hid ((HX5.out.keep hb).keep_alloc (.cells #[.int .i64 P2, .int .i64 Q2] 26))
      have HY6 := hid (RatAt.new w6 26 P2 Q2)
      have HB6 := hid (bstep (bstep HB5.out hb) (below_alloc w6 (.cells #[.int .i64 P2, .int .i64 Q2] 26)))
      clear g0 g1 gl hb HO5 HX5 HB5 HM
      have g0 := HO6.out.p0
      have g1 := HO6.out.p1
      have gl := HO6.out.lt
      go_wp2_with fail
      refine (HSP.out _ HB6.out).mono ?_
      rintro e w7 ⟨rfl, hb⟩
      have HX7 := hid ((HX6.out.keep hb).keep_alloc (.cells #[.int .i64 P3, .int .i64 Q3] 26))
      have HY7 := hid ((HY6.out.keep hb).keep_alloc (.cells #[.int .i64 P3, .int .i64 Q3] 26))
      have HZ7 := hid (RatAt.new w7 26 P3 Q3)
      have HB7 := hid (bstep (bstep HB6.out hb) (below_alloc w7 (.cells #[.int .i64 P3, .int .i64 Q3] 26)))
      clear g0 g1 gl hb HO6 HX6 HY6 HB6 HSP
      have HCH : Hid (∀ (i : Nat) W, i ≤ 3 → Calls Try.prog 28 #[.int .i64 3, .int .i64 (i : Int)] W fun e w' => e = .returned (.tuple #[.int .i64 ((cho 3 i : Nat) : Int), .int .i64 0]) ∧ W = w') := fun i W hi => chooseF_ok 3 i W (by omega) (by omega)
      go_wp2_with fail
      obtain ⟨w8, hw8⟩ : ∃ w8, w8 = w7.alloc (.cells #[.int .i64 P3, .int .i64 Q3] 26) := ⟨_, rfl⟩
      obtain ⟨b5, hb5⟩ : ∃ b5, b5 = w5.heap.size := ⟨_, rfl⟩
      obtain ⟨b6, hb6⟩ : ∃ b6, b6 = w6.heap.size := ⟨_, rfl⟩
      obtain ⟨b7, hb7⟩ : ∃ b7, b7 = w7.heap.size := ⟨_, rfl⟩
      rw [← hw8] at HX7 HY7 HZ7 HB7 ⊢
      rw [← hb5] at HX7
      rw [← hb6] at HY7
      rw [← hb7] at HZ7
      simp only [← hb5, ← hb6, ← hb7]
      clear hw8 hb5 hb6 hb7
      go_loopg [15, 16, 17, 18] 5 (fun g s i _ _ wq => ∃ t : Nat, t ≤ 4 - k ∧ 4 - k - t ≤ g ∧ s = .int .i64 ((waysN 3 k t : Nat) : Int) ∧ i = .int .i64 ((k : Int) + (t : Int)) ∧ w8 = wq)
      case atStart => exact ⟨0, by omega, by omega, rfl, by go_num, rfl⟩
      case round =>
        obtain ⟨t, ht, hgt, rfl, rfl, rfl⟩ := hrel
        have hwb := ways_bd (n := 3) (k := k) (t := t) (by omega) (by omega) (by omega)
        have hwc := ways_bd (n := 3) (k := k) (t := t + 1) (by omega) (by omega) (by omega)
        have HWS : Hid (waysN 3 k (t + 1) = waysN 3 k t + cho 3 (k + t)) := rfl
        rw [HWS.out] at hwc
        by_cases hlt2 : k + t ≤ 3
        · have hltI : (k : Int) + (t : Int) ≤ 3 := by omega
          have HCK := hid (fun W => HCH.out (k + t) W hlt2)
          rw [show ((k + t : Nat) : Int) = (k : Int) + (t : Int) by omega] at HCK
          generalize cho 3 (k + t) = y at *
          generalize waysN 3 k t = s at *
          go_wp2_with fail
          refine (HCK.out _).mono ?_
          rintro e w' ⟨rfl, rfl⟩
          go_wp2
          go_roundg (4 - k - (t + 1))
          case measure => omega
          case rel => exact ⟨t + 1, by omega, by omega, by rw [HWS.out]; go_num, by go_num, rfl⟩
        · have hte : t = 4 - k := by omega
          have hge : ¬ (k : Int) + (t : Int) ≤ 3 := by omega
          have HN1' := HN1.out
          rw [← hte] at HN1'
          generalize waysN 3 k t = s at *
          have hs1 : (s : Int) ≤ 100 := by omega
          have hs0 : 0 ≤ (s : Int) := by omega
          have p1 : -(100 * 1200) ≤ (s : Int) * Q1 ∧ (s : Int) * Q1 ≤ 100 * 1200 := mul_bd (A := 100) (B := 1200) (by omega) hs1 (by omega) c14
          have hN1 : P1 * 8 = (s : Int) * Q1 := HN1'
          have HNA := hid hN1
          have x0 := HX7.out.p0
          have x1 := HX7.out.p1
          have y0 := HY7.out.p0
          have y1 := HY7.out.p1
          have z0 := HZ7.out.p0
          have z1 := HZ7.out.p1
          have HKEEP : Hid (∀ W : World, Below w8.heap.size w8 W → W.cell? ⟨b5, 0, none⟩ = some (.int .i64 P1) ∧ W.cell? ⟨b5, 1, none⟩ = some (.int .i64 Q1) ∧ W.cell? ⟨b6, 0, none⟩ = some (.int .i64 P2) ∧ W.cell? ⟨b6, 1, none⟩ = some (.int .i64 Q2) ∧ W.cell? ⟨b7, 0, none⟩ = some (.int .i64 P3) ∧ W.cell? ⟨b7, 1, none⟩ = some (.int .i64 Q3)) := fun W hb => ⟨(HX7.out.keep hb).p0, (HX7.out.keep hb).p1, (HY7.out.keep hb).p0, (HY7.out.keep hb).p1, (HZ7.out.keep hb).p0, (HZ7.out.keep hb).p1⟩
          clear HWS hwb hwc hN1 hte hlt2 HN1 HN1' x0 x1 y0 y1 z0 z1
          have hq1 : IntKind.i64.wrap ((s : Int) * Q1) = (s : Int) * Q1 := IntWalk.i64_in _ (by omega)
          have hq2 : IntKind.i64.wrap (2 * P2) = 2 * P2 := IntWalk.i64_in _ (by omega)
          have hq0 : IntKind.i64.wrap (P1 * 8) = P1 * 8 := IntWalk.i64_in _ (by omega)
          have hq3 : IntKind.i64.wrap (3 * Q2) = 3 * Q2 := IntWalk.i64_in _ (by omega)
          have hq4 : IntKind.i64.wrap (4 * P3) = 4 * P3 := IntWalk.i64_in _ (by omega)
          have hq5 : IntKind.i64.wrap (3 * Q3) = 3 * Q3 := IntWalk.i64_in _ (by omega)
          have hr1 : (P1 * 8 == (s : Int) * Q1) = true := by simpa using HNA.out
          have hr2 : (2 * P2 == 3 * Q2) = true := by have := HN2.out; simp; omega
          have hr3 : (4 * P3 == 3 * Q3) = true := by have := HN3.out; simp; omega
          go_wp2_with fail
          go_region_held3 (fun u => u.cell? ⟨b5, 0, none⟩ = some (.int .i64 P1) ∧ u.cell? ⟨b5, 1, none⟩ = some (.int .i64 Q1) ∧ u.cell? ⟨b6, 0, none⟩ = some (.int .i64 P2) ∧ u.cell? ⟨b6, 1, none⟩ = some (.int .i64 Q2) ∧ u.cell? ⟨b7, 0, none⟩ = some (.int .i64 P3) ∧ u.cell? ⟨b7, 1, none⟩ = some (.int .i64 Q3)) (first | exact hk9 | exact HKEEP.out _ (below_drewN (Below.refl _ _) 1) | exact HKEEP.out _ ((below_drewN (Below.refl _ _) 1).trans (below_alloc w8.drew _))) (first | (go_at_call 23; refine (good_bel w8.drew _ _ 3 [0, 0, 0] rfl rfl (by omega)).mono ?_; rintro e w9 ⟨rfl, hb0⟩; rw [show allOK [0, 0, 0] = true by decide]; have hb : Below w8.heap.size w8 w9 := (below_drewN (Below.refl w8.heap.size w8) 1).trans hb0; have hk9 := HKEEP.out _ hb; clear hb0))
          go_wp2
          go_ret
          exact ⟨rfl, (HBW.out.trans (HB7.out.mono HBW.out.size)).trans (hb.mono (Nat.le_trans HBW.out.size HB7.out.size))⟩
end Go.Proofs.Ythdjbmogdlodcaa
