/-
  castkeep.OddsChebyshev, walked.
-/
import Derived.Test.YthdjbmogdlodcaaOddD
import Derived.Test.YthdjbmogdlodcaaOddP
namespace Go.Proofs.Ythdjbmogdlodcaa
open Go.RowKit

set_option maxHeartbeats 2000000 in
set_option maxRecDepth 100000 in
theorem oddsCheb_no (A : Option Addr) (n c : Nat) (B : Option Addr) (m d : Nat) (far : Int) (w : World) (er : Int) (he : er ≠ 0) (h1 : ∀ W, Below w.heap.size w W → Calls Try.prog 10 #[.agg #[.slice A n c, .slice B m d]] W (RetR W 0 0 er)) (h2 : ∀ W, Below w.heap.size w W → Calls Try.prog 11 #[.agg #[.slice A n c, .slice B m d]] W (RetR W 0 0 er)) :
    Calls Try.prog 6 #[.agg #[.slice A n c, .slice B m d], .int .i64 far] w fun e w' => e = .returned (.bool true) ∧ Below w.heap.size w w' := by
  have hne : (er != 0) = true := by simpa using he
  clear he
  have h1' := hid h1
  clear h1
  have h2' := hid h2
  clear h2
  have HB0 := hid (Below.refl w.heap.size w)
  go_enter Try.func6, Try.ntmps6
  go_wp2_with fail
  obtain ⟨w1, hw1⟩ : ∃ w1, w1 = (w.alloc (.cells #[.slice (A) n c, .slice (B) m d] 24)) := ⟨_, rfl⟩
  have R1_o : Hid (OddsAt w1 w.heap.size (A) n c (B) m d) := by
    rw [hw1]
    have h := (OddsAt.new w 24 (A) n c (B) m d)
    exact h
  have HBx : Hid (Below w.heap.size w w1) := by
    rw [hw1]
    exact below_alloc w _
  rw [← hw1]
  clear hw1 HB0
  have HB1 := HBx
  clear HBx
  refine (oddsLive_any _).mono ?_
  rintro e w2 ⟨rfl, hb⟩
  have R2_o := hid ((R1_o.out).keep hb)
  have HB2 := hid (below_step HB1.out (Nat.le_refl _) hb)
  clear hb HB1 R1_o
  have g0_o := R2_o.out.p0
  have g1_o := R2_o.out.p1
  have gl_o := R2_o.out.lt
  go_wp2_with fail
  refine (h1'.out _ HB2.out).mono ?_
  rintro e w3 ⟨rfl, hb⟩
  clear g0_o g1_o gl_o
  have R3_o := hid ((R2_o.out).keep hb)
  have HB3 := hid (below_step HB2.out (Nat.le_refl _) hb)
  clear hb HB2 R2_o
  have g0_o := R3_o.out.p0
  have g1_o := R3_o.out.p1
  have gl_o := R3_o.out.lt
  have HB3b := hid (below_step HB3.out (Nat.le_refl _) (below_alloc w3 (.cells #[.int .i64 (0), .int .i64 (0)] 26)))
  go_wp2_with fail
  refine (h2'.out _ HB3b.out).mono ?_
  rintro e w4 ⟨rfl, hb⟩
  clear g0_o g1_o gl_o
  have R4_o := hid (((R3_o.out).keep_alloc (.cells #[.int .i64 (0), .int .i64 (0)] 26)).keep hb)
  have HB4 := hid (below_step (below_step HB3.out (Nat.le_refl _) (below_alloc w3 (.cells #[.int .i64 (0), .int .i64 (0)] 26))) (Nat.le_refl _) hb)
  have R4_x := hid ((RatAt.new w3 26 (0) (0)).keep hb)
  clear hb HB3 R3_o
  clear HB3b
  go_wp2
  go_ret
  exact ⟨rfl, below_step HB4.out (Nat.le_refl _) (below_alloc w4 (.cells #[.int .i64 (0), .int .i64 (0)] 26))⟩

set_option maxHeartbeats 4000000 in
set_option maxRecDepth 100000 in
theorem oddsCheb_yes (A : Option Addr) (n c : Nat) (B : Option Addr) (m d : Nat) (far : Int) (w : World) (l : List (Int × Int)) (hI : Ints w A n (vsL l)) (hJ : Ints w B m (wsL l)) (hG : GoodD l) :
    Calls Try.prog 6 #[.agg #[.slice A n c, .slice B m d], .int .i64 far] w fun e w' => e = .returned (.bool true) ∧ Below w.heap.size w w' := by
  have HB0 := hid (Below.refl w.heap.size w)
  have h1' : Hid (∀ W, Below w.heap.size w W → Calls Try.prog 10 #[.agg #[.slice A n c, .slice B m d]] W (RetR W (mean l).num ((mean l).den : Int) 0)) := fun W hb => omean_ok A n c B m d l W (hI.keep hb) (hJ.keep hb) hG
  have h2' : Hid (∀ W, Below w.heap.size w W → Calls Try.prog 11 #[.agg #[.slice A n c, .slice B m d]] W (RetR W (var l).num ((var l).den : Int) 0)) := fun W hb => ospread_ok A n c B m d l W (hI.keep hb) (hJ.keep hb) hG
  have hn : n = l.length := by rw [← hI.len, vsL_len]
  have hm : m = l.length := by rw [← hJ.len, wsL_len]
  have hnm := hn.trans hm.symm
  subst hnm
  have HN := hid hn
  have HF := hid hG.2
  have HI := hid hI
  have HJ := hid hJ
  have hl2 : n ≤ 12 := by rw [hn]; exact hG.2.1
  have HCH := hid (fun far => chebyshev hG far)
  have hv0 := var_nonneg hG
  have b1 := mean_bd hG
  have b2 := var_bd hG
  have hd1 := (mean l).den_pos
  have hd2 := (var l).den_pos
  unfold RB at b1 b2
  clear hI hJ hG hn hm
  obtain ⟨P1, hP1⟩ : ∃ P, (mean l).num = P := ⟨_, rfl⟩
  obtain ⟨Q1, hQ1⟩ : ∃ Q, ((mean l).den : Int) = Q := ⟨_, rfl⟩
  obtain ⟨P2, hP2⟩ : ∃ P, (var l).num = P := ⟨_, rfl⟩
  obtain ⟨Q2, hQ2⟩ : ∃ Q, ((var l).den : Int) = Q := ⟨_, rfl⟩
  have c1 : 0 < Q1 ∧ Q1 ≤ 1200 := by omega
  have c2 : 0 < Q2 ∧ Q2 ≤ 1440000 := by omega
  have c3 : -24000 ≤ P1 ∧ P1 ≤ 24000 := by omega
  have c4 : 0 ≤ P2 ∧ P2 ≤ 576000000 := by omega
  rw [hP1, hQ1] at h1' HCH
  rw [hP2, hQ2] at h2' HCH
  obtain ⟨c11, c12⟩ := c1
  obtain ⟨c21, c22⟩ := c2
  obtain ⟨c31, c32⟩ := c3
  obtain ⟨c41, c42⟩ := c4
  clear hP1 hQ1 hP2 hQ2 b1 b2 hd1 hd2 hv0
  go_enter Try.func6, Try.ntmps6
  go_wp2_with fail
  obtain ⟨w1, hw1⟩ : ∃ w1, w1 = (w.alloc (.cells #[.slice (A) n c, .slice (B) n d] 24)) := ⟨_, rfl⟩
  have R1_o : Hid (OddsAt w1 w.heap.size (A) n c (B) n d) := by
    rw [hw1]
    have h := (OddsAt.new w 24 (A) n c (B) n d)
    exact h
  have HBx : Hid (Below w.heap.size w w1) := by
    rw [hw1]
    exact below_alloc w _
  rw [← hw1]
  clear hw1 HB0
  have HB1 := HBx
  clear HBx
  refine (oddsLive_any _).mono ?_
  rintro e w2 ⟨rfl, hb⟩
  have R2_o := hid ((R1_o.out).keep hb)
  have HB2 := hid (below_step HB1.out (Nat.le_refl _) hb)
  clear hb HB1 R1_o
  have g0_o := R2_o.out.p0
  have g1_o := R2_o.out.p1
  have gl_o := R2_o.out.lt
  go_wp2_with fail
  refine (h1'.out _ HB2.out).mono ?_
  rintro e w3 ⟨rfl, hb⟩
  clear g0_o g1_o gl_o
  have R3_o := hid ((R2_o.out).keep hb)
  have HB3 := hid (below_step HB2.out (Nat.le_refl _) hb)
  clear hb HB2 R2_o
  have g0_o := R3_o.out.p0
  have g1_o := R3_o.out.p1
  have gl_o := R3_o.out.lt
  have HB3b := hid (below_step HB3.out (Nat.le_refl _) (below_alloc w3 (.cells #[.int .i64 (P1), .int .i64 (Q1)] 26)))
  go_wp2_with fail
  refine (h2'.out _ HB3b.out).mono ?_
  rintro e w4 ⟨rfl, hb⟩
  clear g0_o g1_o gl_o
  have R4_o := hid (((R3_o.out).keep_alloc (.cells #[.int .i64 (P1), .int .i64 (Q1)] 26)).keep hb)
  have HB4 := hid (below_step (below_step HB3.out (Nat.le_refl _) (below_alloc w3 (.cells #[.int .i64 (P1), .int .i64 (Q1)] 26))) (Nat.le_refl _) hb)
  have R4_x := hid ((RatAt.new w3 26 (P1) (Q1)).keep hb)
  clear hb HB3 R3_o
  have g0_o := R4_o.out.p0
  have g1_o := R4_o.out.p1
  have gl_o := R4_o.out.lt
  clear HB3b
  obtain ⟨wz, hwz⟩ : ∃ wz, wz = w4.alloc (.cells #[.int .i64 (P2), .int .i64 (Q2)] 26) := ⟨_, rfl⟩
  have HBA : Hid (Below w4.heap.size w4 wz) := by rw [hwz]; exact below_alloc _ _
  have HY : Hid (RatAt wz w4.heap.size P2 Q2) := by rw [hwz]; exact RatAt.new w4 _ P2 Q2
  have HO := hid (R4_o.out.keep HBA.out)
  have HX := hid (R4_x.out.keep HBA.out)
  have HBZ := hid (below_step HB4.out (Nat.le_refl _) HBA.out)
  have HI9 := hid (HI.out.keep HBZ.out)
  have HJ9 := hid (HJ.out.keep HBZ.out)
  clear HB4 HBA R4_o R4_x HI HJ
  go_wp2_with fail
  refine (within_any _ _ _ (by omega) (by omega)).mono ?_
  rintro e w' ⟨rfl, rfl⟩
  rw [← hwz]
  clear g0_o g1_o gl_o hwz
  have hf1 : 0 ≤ far % 30 := by omega
  have hf2 : far % 30 < 30 := by omega
  have HC2 := hid (HCH.out (1 + far % 30) (by omega))
  generalize far % 30 = f0 at *
  have g0 := HO.out.p0
  have g1 := HO.out.p1
  obtain ⟨f, hf⟩ : ∃ f, 1 + f0 = f := ⟨_, rfl⟩
  rw [hf] at HC2
  have hfa : 1 ≤ f := by omega
  have hfb : f ≤ 30 := by omega
  have p1 : -36000 ≤ f * Q1 ∧ f * Q1 ≤ 36000 := mul_bd (A := 30) (B := 1200) (by omega) (by omega) (by omega) (by omega)
  obtain ⟨p1, p1'⟩ := p1
  clear HCH h1' h2'
  go_wp2_with fail
  clear hf hf1 hf2
  go_loopg [46, 9, 10, 11, 12, 13] n (fun g s a t _ _ _ wr => ∃ k : Nat, k ≤ n ∧ n - k ≤ g ∧ s = .int .i64 k ∧ a = .int .i64 (E (farI (f * Q1) Q1 P1) (l.take k)) ∧ t = .int .i64 (E one (l.take k)) ∧ wz = wr)
  case atStart => exact ⟨0, Nat.zero_le _, by omega, rfl, rfl, rfl, rfl⟩
  case round =>
    obtain ⟨k, hk, hg, rfl, rfl, rfl, rfl⟩ := hrel
    by_cases hlt : k < n
    · obtain ⟨b1, o1, rfl, hb1, hc1⟩ := HI9.out.row (by omega)
      obtain ⟨b2, o2, rfl, hb2, hc2⟩ := HJ9.out.row (by omega)
      have g2 := hc1 k hlt
      have g3 := hc2 k hlt
      rw [vsL_at] at g2
      rw [wsL_at] at g3
      have g4 := HX.out.p0
      have g5 := HX.out.p1
      have hkl : k < l.length := by rw [← HN.out]; exact hlt
      have hat := HF.out.at hkl
      have HE1 := hid (E_take (farI (f * Q1) Q1 P1) l hkl)
      have HE2 := hid (E_take one l hkl)
      have c2 := E_one_bd (HF.out.take (k + 1))
      have c4 := E_one_bd (HF.out.take k)
      have c1 : 0 ≤ E (farI (f * Q1) Q1 P1) (l.take (k + 1)) ∧ E (farI (f * Q1) Q1 P1) (l.take (k + 1)) ≤ 1200 := by have := E_bd _ 0 1 (by omega) (by omega) _ (HF.out.take (k + 1)) (fun p _ => farI_bd (f * Q1) Q1 P1 p.1); omega
      have c3 : 0 ≤ E (farI (f * Q1) Q1 P1) (l.take k) ∧ E (farI (f * Q1) Q1 P1) (l.take k) ≤ 1200 := by have := E_bd _ 0 1 (by omega) (by omega) _ (HF.out.take k) (fun p _ => farI_bd (f * Q1) Q1 P1 p.1); omega
      rw [HE1.out] at c1
      rw [HE2.out] at c2
      have hkI : (k : Int) < (n : Int) := by omega
      clear hc1 hc2 hkl
      generalize (l.getD k (0, 0)).1 = x at *
      generalize (l.getD k (0, 0)).2 = y at *
      obtain ⟨h1, h2, h3, h4⟩ := hat
      rw [show y * one x = y from Int.mul_one y] at c2 HE2
      have p2 : -24000 ≤ x * Q1 ∧ x * Q1 ≤ 24000 := mul_bd (A := 20) (B := 1200) (by omega) (by omega) (by omega) (by omega)
      obtain ⟨p2, p2'⟩ := p2
      generalize E one (l.take k) = t at *
      obtain ⟨c21, c22⟩ := c2
      obtain ⟨c31, c32⟩ := c3
      obtain ⟨c41, c42⟩ := c4
      by_cases q1 : f * Q1 ≤ x * Q1 - P1
      · have HE3 : Hid (E (farI (f * Q1) Q1 P1) (l.take (k + 1)) = E (farI (f * Q1) Q1 P1) (l.take k) + y) := by show _ = _; rw [HE1.out, show farI (f * Q1) Q1 P1 x = 1 from if_pos (.inl q1), Int.mul_one]
        rw [show farI (f * Q1) Q1 P1 x = 1 from if_pos (.inl q1), Int.mul_one] at c1
        obtain ⟨c11, c12⟩ := c1
        generalize E (farI (f * Q1) Q1 P1) (l.take k) = s at *
        have d1 : decide (f * Q1 ≤ x * Q1 - P1) = true := decide_eq_true q1
        go_wp2
        go_roundg (n - (k + 1))
        case measure => omega
        case rel => exact ⟨k + 1, by omega, by omega, by go_num, by rw [HE3.out], by rw [HE2.out], rfl⟩
      · have d1 : decide (f * Q1 ≤ x * Q1 - P1) = false := decide_eq_false q1
        by_cases q2 : f * Q1 ≤ -(x * Q1 - P1)
        · have HE3 : Hid (E (farI (f * Q1) Q1 P1) (l.take (k + 1)) = E (farI (f * Q1) Q1 P1) (l.take k) + y) := by show _ = _; rw [HE1.out, show farI (f * Q1) Q1 P1 x = 1 from if_pos (.inr q2), Int.mul_one]
          rw [show farI (f * Q1) Q1 P1 x = 1 from if_pos (.inr q2), Int.mul_one] at c1
          obtain ⟨c11, c12⟩ := c1
          generalize E (farI (f * Q1) Q1 P1) (l.take k) = s at *
          have d2 : decide (f * Q1 ≤ -(x * Q1 - P1)) = true := decide_eq_true q2
          go_wp2
          go_roundg (n - (k + 1))
          case measure => omega
          case rel => exact ⟨k + 1, by omega, by omega, by go_num, by rw [HE3.out], by rw [HE2.out], rfl⟩
        · have HE3 : Hid (E (farI (f * Q1) Q1 P1) (l.take (k + 1)) = E (farI (f * Q1) Q1 P1) (l.take k)) := by show _ = _; rw [HE1.out, show farI (f * Q1) Q1 P1 x = 0 from if_neg (by omega), Int.mul_zero, Int.add_zero]
          clear c1
          generalize E (farI (f * Q1) Q1 P1) (l.take k) = s at *
          have d2 : decide (f * Q1 ≤ -(x * Q1 - P1)) = false := decide_eq_false q2
          go_wp2
          go_roundg (n - (k + 1))
          case measure => omega
          case rel => exact ⟨k + 1, by omega, by omega, by go_num, by rw [HE3.out], by rw [HE2.out], rfl⟩
    · obtain rfl : k = n := by omega
      have HT : Hid (l.take k = l) := by rw [HN.out]; exact List.take_length
      rw [HT.out]
      have g4 := HX.out.p0
      have g5 := HX.out.p1
      have g6 := HY.out.p0
      have g7 := HY.out.p1
      have c2 := E_one_bd HF.out
      have c1 : 0 ≤ E (farI (f * Q1) Q1 P1) l ∧ E (farI (f * Q1) Q1 P1) l ≤ 1200 := by have := E_bd _ 0 1 (by omega) (by omega) _ HF.out (fun p _ => farI_bd (f * Q1) Q1 P1 p.1); omega
      have hch := HC2.out
      generalize E (farI (f * Q1) Q1 P1) l = s at *
      generalize E one l = t at *
      have p2 : -36000 ≤ s * f ∧ s * f ≤ 36000 := mul_bd (A := 1200) (B := 30) (by omega) (by omega) (by omega) (by omega)
      have p3 : -1080000 ≤ s * f * f ∧ s * f * f ≤ 1080000 := mul_bd (A := 36000) (B := 30) p2.1 p2.2 (by omega) (by omega)
      have p4 : -1555200000000 ≤ s * f * f * Q2 ∧ s * f * f * Q2 ≤ 1555200000000 := mul_bd (A := 1080000) (B := 1440000) p3.1 p3.2 (by omega) (by omega)
      have p5 : -691200000000 ≤ t * P2 ∧ t * P2 ≤ 691200000000 := mul_bd (A := 1200) (B := 576000000) (by omega) (by omega) (by omega) (by omega)
      obtain ⟨p2, p2'⟩ := p2
      obtain ⟨p3, p3'⟩ := p3
      obtain ⟨p4, p4'⟩ := p4
      obtain ⟨p5, p5'⟩ := p5
      have d1 : decide (s * f * f * Q2 ≤ t * P2) = true := decide_eq_true hch
      go_wp2
      go_ret
      exact ⟨rfl, HBZ.out⟩

theorem oddsCheb_any (A : Option Addr) (n c : Nat) (B : Option Addr) (m d : Nat) (far : Int) (vs ws : List Int) (w : World) (hI : Ints w A n vs) (hJ : Ints w B m ws) :
    Calls Try.prog 6 #[.agg #[.slice A n c, .slice B m d], .int .i64 far] w fun e w' => e = .returned (.bool true) ∧ Below w.heap.size w w' := by
  by_cases h1 : oddErr vs ws = 0
  · obtain ⟨l, hl, rfl, rfl⟩ := oddErr_zero h1
    exact oddsCheb_yes A n c B m d far w l hI hJ hl
  · exact oddsCheb_no A n c B m d far w _ h1 (fun W hb => omean_bad A n c B m d vs ws W (hI.keep hb) (hJ.keep hb) h1) (fun W hb => ospread_bad A n c B m d vs ws W (hI.keep hb) (hJ.keep hb) h1)
end Go.Proofs.Ythdjbmogdlodcaa
