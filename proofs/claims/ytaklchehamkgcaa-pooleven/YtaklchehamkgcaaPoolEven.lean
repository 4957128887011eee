/-
  castkeep.PoolEven, walked.
-/
import Derived.Test.YtaklchehamkgcaaPoolC
import Derived.Test.YtaklchehamkgcaaPoolD
namespace Go.Proofs.Ytaklchehamkgcaa
open Go.RowKit Go.Maps Go.WideMaps

set_option maxHeartbeats 4000000 in
set_option maxRecDepth 100000 in
theorem poolEven_any (n0 k0 : Int) (w : World) :
    Calls Try.prog 4 #[.int .i64 n0, .int .i64 k0] w fun e w' => e = .returned (.bool true) ∧ Below w.heap.size w w' := by
  have b1 := Int.emod_nonneg k0 (show (7 : Int) ≠ 0 by omega)
  have b2 := Int.emod_lt_of_pos k0 (show 0 < (7 : Int) by omega)
  obtain ⟨n, hn⟩ : ∃ n : Nat, n0 % 7 = (n : Int) := ⟨(n0 % 7).toNat, by have := Int.emod_nonneg n0 (show (7 : Int) ≠ 0 by omega); omega⟩
  have hn6 : n < 7 := by have := Int.emod_lt_of_pos n0 (show 0 < (7 : Int) by omega); omega
  obtain ⟨k, hk⟩ : ∃ k : Nat, 1 + k0 % 7 = (k : Int) := ⟨(1 + k0 % 7).toNat, by omega⟩
  have hk6 : 1 ≤ k ∧ k ≤ 7 := by omega
  have HW1 := hid (fun W => within_any n0 7 W (by omega) (by omega))
  have HW2 := hid (fun W => within_any k0 7 W (by omega) (by omega))
  rw [hn] at HW1
  generalize k0 % 7 = q2 at *
  have HK := hid hk
  have HCN := hid (fun W => count_ok n W (by omega))
  have HWY := hid (fun W => ways_ok n k W (by omega) (by omega))
  have HCH := hid (fun W => chooseF_ok (max n k) k W (by omega) (by omega))
  have HG := hid (fun W : World => good_bel W #[.int .i64 0, .int .i64 0, .int .i64 0] 23 3 [0, 0, 0] rfl rfl (by omega))
  rw [show allOK [0, 0, 0] = true by decide] at HG
  have hmax := run_maxNN (P := Try.prog) n k (max n k) rfl
  have hmin := run_minNN (P := Try.prog) n k (min n k) rfl
  have hF1 := fact_pos n
  have hF2 : fact n ≤ 720 := Nat.le_trans (fact_mono (show n ≤ 6 by omega)) (by decide)
  have hwy : wyN n k ≤ 720 := Nat.le_trans (Nat.div_le_self _ _) hF2
  have HEV := hid (fun s (hs : s < 2 ^ n) => even_each (n := n) (k := k) hn6 hk6 hs)
  have HTOT := hid (smP_all (fP_lt n k) (fact n))
  have HCHO := hid (fun (x : Nat) (A : Option Addr) (c : Nat) (W : World) (h : Ints W A n (ptL n x)) => chosen_row n k x A c W h (by omega) (by omega))
  have HCL := hid (fun x => show (upL (pN k (ptL n x) n)).length = min n k by rw [upL_len, pN_len])
  have HND := hid (fun x => upL_nodup (pN_nodup k (ptL n x) n))
  have HBD := hid (fun x (v : Int) (h : v ∈ upL (pN k (ptL n x) n)) => pN_bd k (ptL n x) n v (upL_mem.1 h))
  have HFP := hid (fun x => fP_eq n k x)
  have HFL := hid (fun x => fP_lt n k x)
  have HCNL := hid (fun x s => cnP_le (fP n k) s x)
  have HCNS := hid (fun x => show cnP (fP n k) (x + 1) = (fun t => cnP (fP n k) x t + if fP n k x = t then 1 else 0) from rfl)
  have HLAST : Hid ((k ≤ n → wyN n k * cho (max n k) k = fact n) ∧ (n < k → wyN n k = fact n)) := by
    refine ⟨fun h => ?_, fun h => wyN_few (by omega) (by omega) h⟩
    rw [show max n k = n by omega]
    exact wyN_times (by omega) h
  have HCB : Hid (cho (max n k) k ≤ 5040) := by
    have : ∀ n : Fin 7, ∀ k : Fin 8, cho (max n.1 k.1) k.1 ≤ 5040 := by decide +kernel
    exact this ⟨n, hn6⟩ ⟨k, by omega⟩
  have h2n : 2 ^ n ≤ 64 := Nat.pow_le_pow_right (n := 2) (by omega) (show n ≤ 6 by omega)
  have hp2 : IntKind.u16.wrap ((2 : Int) ^ n) = ((2 ^ n : Nat) : Int) := wrap_powP (by omega)
  have hmk : min n k ≤ 6 := by omega
  clear hn hk
  obtain ⟨hk1, hk2⟩ := hk6
  have hmm := @run_makeMap Try.prog
  generalize cho (max n k) k = CH at *
  generalize max n k = ma at *
  generalize fact n = F at *
  go_enter Try.func4, Try.ntmps4
  go_wp2_with fail
  refine (pools_any w).mono ?_
  rintro e w1 ⟨rfl, hb⟩
  have HB1 := hid hb
  clear hb
  go_wp2_with fail
  refine (HW1.out w1).mono ?_
  rintro e w' ⟨rfl, rfl⟩
  clear HW1
  go_wp2_with fail
  refine (HW2.out w1).mono ?_
  rintro e w' ⟨rfl, rfl⟩
  clear HW2
  go_wp2_with fail
  rw [HK.out]
  clear b1 b2 HK
  refine (HCN.out w1).mono ?_
  rintro e w' ⟨rfl, rfl⟩
  clear HCN
  go_wp2_with fail
  refine (HWY.out w1).mono ?_
  rintro e w' ⟨rfl, rfl⟩
  clear HWY
  go_wp2_with fail
  refine (HCH.out w1).mono ?_
  rintro e w' ⟨rfl, rfl⟩
  clear HCH hmax
  go_wp2_with fail
  refine (HG.out w1).mono ?_
  rintro e w2 ⟨rfl, hb⟩
  have HB2 := hid (below_step HB1.out (Nat.le_refl _) hb)
  clear hb HG HB1
  have HM0 := hid (MapAt.made w2 (fP n k))
  have HB3 := hid (below_step HB2.out (Nat.le_refl _) (below_alloc w2 (.map #[] 0)))
  have hsz : w.heap.size ≤ w2.heap.size := HB2.out.size
  go_wp2_with fail
  clear HB2
  go_loopg [56] F (fun g xv wr => ∃ x : Nat, x ≤ F ∧ F - x ≤ g ∧ xv = .int .i64 (x : Int) ∧ MapAt wr w2.heap.size x (cnP (fP n k) x) ∧ Below w.heap.size w wr)
  case atStart => exact ⟨0, by omega, by omega, rfl, HM0.out, HB3.out⟩
  case round =>
    obtain ⟨x, hx, hg, rfl, ha, hb⟩ := hrel
    have HA := hid ha
    have HB := hid hb
    clear ha hb HM0 HB3 hmm
    by_cases hlt : x < F
    · obtain ⟨wx, rfl⟩ : ∃ wx, wx = wr := ⟨_, rfl⟩
      clear HEV HTOT HLAST HCB
      go_wp2_with fail
      go_loopg [12, 13, 60] n (fun g sv lv iv wq => ∃ i : Nat, i ≤ n ∧ n - i ≤ g ∧ iv = .int .i64 (i : Int) ∧ sv = .int .i64 ((x / fact i : Nat) : Int) ∧ OwnInts wq wx.heap.size lv (ptL i x) ∧ Below wx.heap.size wx wq)
      case atStart => exact ⟨0, by omega, by omega, rfl, by rw [show fact 0 = 1 from rfl, Nat.div_one], OwnInts.nil _ _, Below.refl _ _⟩
      case round =>
        obtain ⟨i, hi, hgi, rfl, rfl, ho, hb⟩ := hrel
        have HO := hid ho
        have HBQ := hid hb
        clear ho hb
        by_cases hin : i < n
        · have HX := hid (ptL_step i x)
          have HD := hid (ptL_len i x)
          have HF := hid (fact_step x i)
          have hq : x / fact i ≤ 720 := Nat.le_trans (Nat.div_le_self _ _) (by omega)
          generalize x / fact i = q at *
          generalize ptL i x = L at *
          have HQ1 : Hid ((q : Int) % ((i : Int) + 1) = ((q % (i + 1) : Nat) : Int)) := by simp [Hid]
          have hq2 : x / fact (i + 1) ≤ 720 := by rw [← HF.out]; exact Nat.le_trans (Nat.div_le_self _ _) hq
          have HQ2 : Hid ((q : Int) / ((i : Int) + 1) = ((x / fact (i + 1) : Nat) : Int)) := by rw [← HF.out]; simp [Hid]
          have hb1 : 0 ≤ (q : Int) / ((i : Int) + 1) := by rw [HQ2.out]; exact Int.natCast_nonneg _
          have hb2 : (q : Int) / ((i : Int) + 1) ≤ 720 := by rw [HQ2.out]; omega
          clear HF hq2
          go_wp2_with (at_builtin; refine wpList_app1 _ rfl (.tmp 63) (.tmp 68) rfl wx.heap.size _ L ((q : Int) % ((i : Int) + 1)) rfl rfl HO.out (by rw [HD.out]; omega) HBQ.out.size ?_)
          intro v' w4 ho1 _ hb4
          rw [HQ1.out, ← HX.out] at ho1
          have HO1 := hid ho1
          have HB4 := hid (HBQ.out.trans hb4)
          clear ho1 hb4
          go_wp2
          go_roundg (n - (i + 1))
          case measure => omega
          case rel => exact ⟨i + 1, by omega, by omega, by go_num, by rw [← HQ2.out], HO1.out, HB4.out⟩
        · obtain rfl : i = n := by omega
          have HBW := hid (below_step HB.out (Nat.le_refl _) HBQ.out)
          have HAQ := hid (HA.out.keep HBQ.out)
          obtain ⟨A5, c5, rfl, hI5, -⟩ := HO.out.ints
          rw [ptL_len] at hI5 ⊢
          have HDL := hid (HCHO.out x A5 c5 wr hI5)
          have hl := HCL.out x
          have HNDx := hid (HND.out x)
          have HBDx := hid (HBD.out x)
          have HFPx := hid (HFP.out x)
          have hfl := HFL.out x
          have hcl := HCNL.out x (fP i k x)
          have HCS := hid (HCNS.out x)
          clear hI5 HO HBQ HB HA HCHO HCL HND HBD HFP HFL HCNL HCNS
          generalize upL (pN k (ptL i x) i) = p at *
          generalize fP i k x = f at *
          generalize min i k = mi at *
          go_wp2_with fail
          refine HDL.out.mono ?_
          rintro e w5 ⟨v5, rfl, ho, hb⟩
          have HB5 := hid (below_step HBW.out (Nat.le_refl _) hb)
          have HA5 := hid (HAQ.out.keep hb)
          obtain ⟨A6, c6, rfl, hI6, hk6⟩ := ho.ints
          rw [hl] at hI6 ⊢
          have HI6 := hid hI6
          clear ho hb hI6 hk6 HDL HBW HAQ
          have hnn : ((mi : Int) != (mi : Int)) = false := by simp
          go_wp2_with fail
          go_loopg [17, 93] mi (fun g sv jv wq => ∃ j : Nat, j ≤ mi ∧ mi - j ≤ g ∧ jv = .int .i64 (j : Int) ∧ sv = .int .u16 ((mkF (p.take j) : Nat) : Int) ∧ wq = w5)
          case atStart => exact ⟨0, by omega, by omega, rfl, rfl, rfl⟩
          case round =>
            obtain ⟨j, hj, hgj, rfl, rfl, rfl⟩ := hrel
            by_cases hjm : j < mi
            · obtain ⟨b, o, rfl, hb, hc⟩ := HI6.out.row (by omega)
              have g1 := hc j hjm
              have hjl : j < p.length := by omega
              have hbd := HBDx.out _ (getD_mem hjl)
              have HSN := hid (mkF_snoc hjl)
              have HOF := hid (fun v hv => mkF_off (v := v) HNDx.out (fun u hu => (HBDx.out u hu).1) hjl hv)
              have hm64 : mkF (p.take j) < 2 ^ i := mkF_lt fun u hu => HBDx.out u (List.mem_of_mem_take hu)
              clear hc hjl
              generalize p.getD j 0 = y at *
              obtain ⟨v, rfl⟩ := Int.eq_ofNat_of_zero_le hbd.1
              have hvi : v < i := by omega
              have hviI : (v : Int) < (i : Int) := by omega
              have hof := HOF.out v rfl
              rw [Int.toNat_natCast] at HSN
              clear HOF hbd
              generalize mkF (p.take j) = s at *
              have h1 := shr_oneP (s := s) (k := v) (by omega)
              rw [hof] at h1
              have h2 : 2 ^ v ≤ 64 := Nat.pow_le_pow_right (n := 2) (by omega) (show v ≤ 6 by omega)
              have h3 : IntKind.u16.wrap ((2 : Int) ^ v) = ((2 ^ v : Nat) : Int) := wrap_powP (by omega)
              have h4 : bits .or .u16 (s : Int) ((2 ^ v : Nat) : Int) = ((s ||| 2 ^ v : Nat) : Int) := u16_or_nat _ _ (by omega) (by omega)
              rw [← h3] at h4
              clear h2 h3 hof
              go_wp2
              go_roundg (mi - (j + 1))
              case measure => omega
              case rel => exact ⟨j + 1, by omega, by omega, by go_num, by rw [HSN.out], rfl⟩
            · obtain rfl : j = mi := by omega
              have HE : Hid (mkF (p.take j) = f) := by rw [List.take_of_length_le (by omega)]; exact HFPx.out
              rw [HE.out]
              have hlk := HA5.out.look (s := f) (by omega)
              go_wp2_with (at_mapUpdate; refine wpList_seen _ rfl _ _ _ rfl w2.heap.size x _ rfl HA5.out (by omega) f (by omega) (by omega) rfl rfl ?_; intro w6 hm6 hgrow)
              rw [← HCS.out] at hm6
              have HM6 := hid hm6
              have HB6 : Hid (Below w.heap.size w w6) := HB5.out.grown hgrow HB5.out.size (fun q hq => by cases hq; exact hsz)
              clear hm6 hgrow hlk
              go_roundg (F - (x + 1))
              case measure => omega
              case rel => exact ⟨x + 1, by omega, by omega, by go_num, HM6.out, HB6.out⟩
    · obtain rfl : x = F := by omega
      obtain ⟨wx, rfl⟩ : ∃ wx, wx = wr := ⟨_, rfl⟩
      have HSM := hid (fun s (hs : s ≤ 2 ^ n) => smP_mono (cnP (fP n k) x) hs)
      have HSS := hid (fun s => show smP (cnP (fP n k) x) (s + 1) = smP (cnP (fP n k) x) s + cnP (fP n k) x s from rfl)
      have HS0 : Hid (smP (cnP (fP n k) x) 0 = 0) := rfl
      have hlast := HLAST.out
      have hch := HCB.out
      clear HCHO HCL HND HBD HFP HFL HCNS HLAST HCB
      generalize cnP (fP n k) x = G at *
      generalize wyN n k = W at *
      generalize 2 ^ n = M at *
      have fin : ∀ (al : Nat), al * W = x → al ≤ 5040 → IntKind.i64.wrap ((al : Int) * (W : Int)) = (al : Int) * (W : Int) ∧ ((al : Int) * (W : Int) == (x : Int)) = true := fun al h1 h2 => by
        have h3 : (al : Int) * (W : Int) = ((al * W : Nat) : Int) := (Int.natCast_mul _ _).symm
        rw [h3, h1]
        exact ⟨IntWalk.i64_in _ (by omega), by simp⟩
      have HFIN := hid fin
      clear fin
      by_cases hnk : n < k
      · have hnkI : (n : Int) < (k : Int) := by omega
        have HAL : Hid (((W : Int) == (x : Int)) = true) := by rw [Hid, hlast.2 hnk]; simp
        clear hlast HFIN
        go_wp2_with fail
        go_loopg [20, 126] M (fun g tv sv wq => ∃ s : Nat, s ≤ M ∧ M - s ≤ g ∧ sv = .int .u16 (s : Int) ∧ tv = .int .i64 ((smP G s : Nat) : Int) ∧ wq = wx)
        case atStart => exact ⟨0, by omega, by omega, rfl, by rw [HS0.out]; rfl, rfl⟩
        case round =>
          obtain ⟨s, hs, hgs, rfl, rfl, rfl⟩ := hrel
          have hsm := HSM.out s hs
          rw [HTOT.out] at hsm
          by_cases hlt2 : s < M
          · have hlk := HA.out.look (s := s) (by omega)
            have hev := HEV.out s hlt2
            have hc := HCNL.out x s
            have HNX := hid (HSS.out s)
            have hsm2 := HSM.out (s + 1) hlt2
            rw [HTOT.out, HSS.out] at hsm2
            generalize G s = c at *
            generalize smP G s = t at *
            have hltI : (s : Int) < (M : Int) := by omega
            by_cases hc0 : c = 0
            · subst hc0
              go_wp2
              go_roundg (M - (s + 1))
              case measure => omega
              case rel => exact ⟨s + 1, by omega, by omega, by go_num, by rw [HNX.out]; go_num, rfl⟩
            · obtain rfl : c = W := by omega
              have hz : ((c : Int) != (c : Int)) = false := by simp
              have hpos : (c : Int) > 0 := by omega
              go_wp2
              go_roundg (M - (s + 1))
              case measure => omega
              case rel => exact ⟨s + 1, by omega, by omega, by go_num, by rw [HNX.out]; go_num, rfl⟩
          · obtain rfl : s = M := by omega
            have ht := HTOT.out
            rw [ht]
            have f2 := HAL.out
            have hz : ((x : Int) == (x : Int)) = true := by simp
            go_wp2
            go_ret
            exact ⟨rfl, HB.out⟩
      · have hnkI : ¬ (n : Int) < (k : Int) := by omega
        have HAL := hid (HFIN.out CH (by rw [Nat.mul_comm]; exact hlast.1 (by omega)) hch)
        clear hlast HFIN
        go_wp2_with fail
        go_loopg [20, 126] M (fun g tv sv wq => ∃ s : Nat, s ≤ M ∧ M - s ≤ g ∧ sv = .int .u16 (s : Int) ∧ tv = .int .i64 ((smP G s : Nat) : Int) ∧ wq = wx)
        case atStart => exact ⟨0, by omega, by omega, rfl, by rw [HS0.out]; rfl, rfl⟩
        case round =>
          obtain ⟨s, hs, hgs, rfl, rfl, rfl⟩ := hrel
          have hsm := HSM.out s hs
          rw [HTOT.out] at hsm
          by_cases hlt2 : s < M
          · have hlk := HA.out.look (s := s) (by omega)
            have hev := HEV.out s hlt2
            have hc := HCNL.out x s
            have HNX := hid (HSS.out s)
            have hsm2 := HSM.out (s + 1) hlt2
            rw [HTOT.out, HSS.out] at hsm2
            generalize G s = c at *
            generalize smP G s = t at *
            have hltI : (s : Int) < (M : Int) := by omega
            by_cases hc0 : c = 0
            · subst hc0
              go_wp2
              go_roundg (M - (s + 1))
              case measure => omega
              case rel => exact ⟨s + 1, by omega, by omega, by go_num, by rw [HNX.out]; go_num, rfl⟩
            · obtain rfl : c = W := by omega
              have hz : ((c : Int) != (c : Int)) = false := by simp
              have hpos : (c : Int) > 0 := by omega
              go_wp2
              go_roundg (M - (s + 1))
              case measure => omega
              case rel => exact ⟨s + 1, by omega, by omega, by go_num, by rw [HNX.out]; go_num, rfl⟩
          · obtain rfl : s = M := by omega
            have ht := HTOT.out
            rw [ht]
            obtain ⟨f1, f2⟩ := HAL.out
            have hz : ((x : Int) == (x : Int)) = true := by simp
            go_wp2
            go_ret
            exact ⟨rfl, HB.out⟩

end Go.Proofs.Ytaklchehamkgcaa
