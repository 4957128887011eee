/-
  castlaw.OddsSay, walked: both are good, and what they make together is not.
-/
import Derived.Test.YthdjbmogdlodcaaOddC
import Derived.Test.YthdjbmogdlodcaaOddE
import Derived.Test.YthdjbmogdlodcaaOddF
import Derived.Test.YthdjbmogdlodcaaOddG
import Derived.Test.YthdjbmogdlodcaaOddQ
import Derived.Test.YthdjbmogdlodcaaOddS
import Derived.Test.YthdjbmogdlodcaaRatF
import Derived.Test.YthdjbmogdlodcaaTill
import Derived.Test.YthdjbmogdlodcaaGen
import Derived.Deep.RegionHeld3
namespace Go.Proofs.Ythdjbmogdlodcaa
open Go.RowKit

set_option maxHeartbeats 16000000 in
set_option maxRecDepth 100000 in
theorem oddsSay_d (A : Option Addr) (n c : Nat) (B : Option Addr) (m d : Nat) (A' : Option Addr) (n' c' : Nat) (B' : Option Addr) (m' d' : Nat) (least : Int) (w : World) (l : List (Int × Int)) (hI : Ints w A n (vsL l)) (hJ : Ints w B m (wsL l)) (hG : GoodD l) (l' : List (Int × Int)) (hI2 : Ints w A' n' (vsL l')) (hJ2 : Ints w B' m' (wsL l')) (hG2 : GoodD l') (hB : ¬ GoodD (bothL l l')) :
    Calls Try.prog 3 #[.agg #[.slice A n c, .slice B m d], .agg #[.slice A' n' c', .slice B' m' d'], .int .i64 least] w fun e w' => e = .returned (.bool true) ∧ Below w.heap.size w w' := by
  have hmn' : n' = m' := by rw [← hI2.len, ← hJ2.len, vsL_len, wsL_len]
  subst hmn'
  have hGB := hid hB
  have h4' : Hid (∀ W, Below w.heap.size w W → Calls Try.prog 13 #[.agg #[.slice A n c, .slice B m d], .agg #[.slice A' n' c', .slice B' n' d']] W (RetBoth W (bothL l l'))) := fun W hb => oboth_ok _ _ _ _ _ _ _ _ _ _ _ _ l l' W (hI.keep hb) (hJ.keep hb) (hI2.keep hb) (hJ2.keep hb) hG hG2
  have h11' : Hid (∀ W, Below w.heap.size w W → Calls Try.prog 14 #[.agg #[.slice A' n' c', .slice B' n' d']] W (RetE W 0)) := fun W hb => by
    have k := refOddsErr_any A' n' c' B' n' d' _ _ W (hI2.keep hb) (hJ2.keep hb)
    rwa [oddErr_of hG2] at k
  have HI2 := hid hI2
  have HJ2 := hid hJ2
  have HG2 := hid hG2
  clear hI2 hJ2 hG2 hB
  have HB0 := hid (Below.refl w.heap.size w)
  have hn : n = l.length := by rw [← hI.len, vsL_len]
  have hm : m = l.length := by rw [← hJ.len, wsL_len]
  have hmn := hn.trans hm.symm
  subst hmn
  have HN := hid hn
  have HF := hid hG.2
  have hl1 : 1 ≤ n := by rw [hn]; exact hG.1
  have hl2 : n ≤ 12 := by rw [hn]; exact hG.2.1
  have HI := hid hI
  have HJ := hid hJ
  have e1 := E_id_bd hG.2
  have e2 := E_one_bd hG.2
  have e3 := E_one_pos hG
  have e4 := E_ge_bd least hG.2
  have b1 := out_fits ((mean_bd hG).fits (by omega) (by omega))
  have b3 := out_fits ((beyond_bd least hG).fits (by omega) (by omega))
  have h1' : Hid (∀ W, Below w.heap.size w W → Calls Try.prog 10 #[.agg #[.slice A n c, .slice B n d]] W (RetR W (mean l).num ((mean l).den : Int) 0)) := fun W hb => omean_ok _ _ _ _ _ _ l W (hI.keep hb) (hJ.keep hb) hG
  have h2' : Hid (∀ W, Below w.heap.size w W → Calls Try.prog 11 #[.agg #[.slice A n c, .slice B n d]] W (RetR W (var l).num ((var l).den : Int) 0)) := fun W hb => ospread_ok _ _ _ _ _ _ l W (hI.keep hb) (hJ.keep hb) hG
  have h3' : Hid (∀ W, Below w.heap.size w W → Calls Try.prog 12 #[.agg #[.slice A n c, .slice B n d], .int .i64 least] W (RetR W (Rat.divInt (E (geI least) l) (E one l)).num ((Rat.divInt (E (geI least) l) (E one l)).den : Int) 0)) := fun W hb => obeyond_ok _ _ _ _ _ _ least l W (hI.keep hb) (hJ.keep hb) hG
  have h5' : Hid (∀ W, Below w.heap.size w W → Calls Try.prog 14 #[.agg #[.slice A n c, .slice B n d]] W (RetE W 0)) := fun W hb => by
    have k := refOddsErr_any A n c B n d _ _ W (hI.keep hb) (hJ.keep hb)
    rwa [oddErr_of hG] at k
  have h6' : Hid (∀ W, Below w.heap.size w W → Calls Try.prog 15 #[.agg #[.slice A n c, .slice B n d]] W (RetE W 0)) := fun W hb => by
    have k := ocheck_any A n c B n d _ _ W (hI.keep hb) (hJ.keep hb)
    rwa [oddErr_of hG] at k
  have h7' : Hid (∀ W, Below w.heap.size w W → Calls Try.prog 16 #[.agg #[.slice A n c, .slice B n d]] W (fun e w' => e = .returned (.tuple #[.int .i64 (E one l), .int .i64 (E idI l)]) ∧ Below W.heap.size W w')) := fun W hb => refOddsSum_ok _ _ _ _ _ _ l W (hI.keep hb) (hJ.keep hb) hG.2
  have h8' : Hid (∀ W, Calls Try.prog 17 #[.int .i64 (E idI l), .int .i64 (E one l)] W fun e w' => e = .returned (.agg #[.int .i64 (mean l).num, .int .i64 ((mean l).den : Int)]) ∧ Below W.heap.size W w') := fun W => by
    have k := whole_any (E idI l) (E one l) W ⟨by omega, by omega⟩ ⟨by omega, by omega⟩ (by omega)
    rw [show outP (Rat.divInt (E idI l) (E one l)) = (mean l).num from b1.1, show outQ (Rat.divInt (E idI l) (E one l)) = ((mean l).den : Int) from b1.2.1] at k
    exact k
  have h9' : Hid (∀ W, Calls Try.prog 17 #[.int .i64 (E (geI least) l), .int .i64 (E one l)] W fun e w' => e = .returned (.agg #[.int .i64 (Rat.divInt (E (geI least) l) (E one l)).num, .int .i64 ((Rat.divInt (E (geI least) l) (E one l)).den : Int)]) ∧ Below W.heap.size W w') := fun W => by
    have k := whole_any (E (geI least) l) (E one l) W ⟨by omega, by omega⟩ ⟨by omega, by omega⟩ (by omega)
    rw [b3.1, b3.2.1] at k
    exact k
  have h10' : Hid (∀ W, Below w.heap.size w W → Calls Try.prog 18 #[.agg #[.slice A n c, .slice B n d]] W (fun e w' => e = .returned (.agg #[.int .i64 (var l).num, .int .i64 ((var l).den : Int)]) ∧ Below W.heap.size W w')) := fun W hb => refSpreadOf_ok _ _ _ _ _ _ l W (hI.keep hb) (hJ.keep hb) hG
  have HG := hid hG
  obtain ⟨P1, hP1⟩ : ∃ x, (mean l).num = x := ⟨_, rfl⟩
  obtain ⟨Q1, hQ1⟩ : ∃ x, ((mean l).den : Int) = x := ⟨_, rfl⟩
  obtain ⟨P2, hP2⟩ : ∃ x, (var l).num = x := ⟨_, rfl⟩
  obtain ⟨Q2, hQ2⟩ : ∃ x, ((var l).den : Int) = x := ⟨_, rfl⟩
  obtain ⟨P3, hP3⟩ : ∃ x, (Rat.divInt (E (geI least) l) (E one l)).num = x := ⟨_, rfl⟩
  obtain ⟨Q3, hQ3⟩ : ∃ x, ((Rat.divInt (E (geI least) l) (E one l)).den : Int) = x := ⟨_, rfl⟩
  rw [hP1, hQ1] at h1' h8'
  rw [hP2, hQ2] at h2' h10'
  rw [hP3, hQ3] at h3' h9'
  clear hP1 hQ1 hP2 hQ2 hP3 hQ3 b1 b3 hI hJ hG hn hm
  obtain ⟨S, hS⟩ : ∃ x, E idI l = x := ⟨_, rfl⟩
  obtain ⟨T, hT⟩ : ∃ x, E one l = x := ⟨_, rfl⟩
  rw [hS] at h7' h8' e1
  rw [hT] at h7' h8' h9' e2 e3
  clear hS hT
  obtain ⟨e11, e12⟩ := e1
  obtain ⟨e21, e22⟩ := e2
  go_enter Try.func3, Try.ntmps3
  go_wp2_with fail
  obtain ⟨w1, hw1⟩ : ∃ w1, w1 = ((w.alloc (.cells #[.slice (A) n c, .slice (B) n d] 24)).alloc (.cells #[.slice (A') n' c', .slice (B') n' d'] 24)) := ⟨_, rfl⟩
  have R1_a : Hid (OddsAt w1 w.heap.size (A) n c (B) n d) := by
    rw [hw1]
    have h := (OddsAt.new w 24 (A) n c (B) n d)
    exact (h).keep_alloc _
  have R1_b : Hid (OddsAt w1 (w.heap.size + 1) (A') n' c' (B') n' d') := by
    rw [hw1]
    have h := (OddsAt.new (w.alloc (.cells #[.slice (A) n c, .slice (B) n d] 24)) 24 (A') n' c' (B') n' d')
    rw [show (w.alloc (.cells #[.slice (A) n c, .slice (B) n d] 24)).heap.size = w.heap.size + 1 by simp] at h
    exact h
  have HBx : Hid (Below w.heap.size w w1) := by
    rw [hw1]
    exact two_alloc w _ _
  rw [← hw1]
  clear hw1 HB0
  have HB1 := HBx
  clear HBx
  refine (h1'.out _ HB1.out).mono ?_
  rintro e w2 ⟨rfl, hb⟩
  have R2_a := hid ((R1_a.out).keep hb)
  have R2_b := hid ((R1_b.out).keep hb)
  have HB2 := hid (below_step HB1.out (Nat.le_refl _) hb)
  clear hb HB1 R1_a R1_b
  have g0_a := R2_a.out.p0
  have g1_a := R2_a.out.p1
  have gl_a := R2_a.out.lt
  have HBb := hid (below_step HB2.out (Nat.le_refl _) (below_alloc w2 (.cells #[.int .i64 (P1), .int .i64 (Q1)] 26)))
  go_wp2_with fail
  refine (h2'.out _ HBb.out).mono ?_
  rintro e w3 ⟨rfl, hb⟩
  clear g0_a g1_a gl_a
  have R3_a := hid (((R2_a.out).keep_alloc (.cells #[.int .i64 (P1), .int .i64 (Q1)] 26)).keep hb)
  have R3_b := hid (((R2_b.out).keep_alloc (.cells #[.int .i64 (P1), .int .i64 (Q1)] 26)).keep hb)
  have HB3 := hid (below_step (below_step HB2.out (Nat.le_refl _) (below_alloc w2 (.cells #[.int .i64 (P1), .int .i64 (Q1)] 26))) (Nat.le_refl _) hb)
  have R3_m := hid ((RatAt.new w2 26 (P1) (Q1)).keep hb)
  clear hb HB2 R2_a R2_b
  have g0_a := R3_a.out.p0
  have g1_a := R3_a.out.p1
  have gl_a := R3_a.out.lt
  clear HBb
  have HBb := hid (below_step HB3.out (Nat.le_refl _) (below_alloc w3 (.cells #[.int .i64 (P2), .int .i64 (Q2)] 26)))
  go_wp2_with fail
  refine (h3'.out _ HBb.out).mono ?_
  rintro e w4 ⟨rfl, hb⟩
  clear g0_a g1_a gl_a
  have R4_a := hid (((R3_a.out).keep_alloc (.cells #[.int .i64 (P2), .int .i64 (Q2)] 26)).keep hb)
  have R4_b := hid (((R3_b.out).keep_alloc (.cells #[.int .i64 (P2), .int .i64 (Q2)] 26)).keep hb)
  have R4_m := hid (((R3_m.out).keep_alloc (.cells #[.int .i64 (P2), .int .i64 (Q2)] 26)).keep hb)
  have HB4 := hid (below_step (below_step HB3.out (Nat.le_refl _) (below_alloc w3 (.cells #[.int .i64 (P2), .int .i64 (Q2)] 26))) (Nat.le_refl _) hb)
  have R4_s := hid ((RatAt.new w3 26 (P2) (Q2)).keep hb)
  clear hb HB3 R3_a R3_b R3_m
  have g0_a := R4_a.out.p0
  have g1_a := R4_a.out.p1
  have gl_a := R4_a.out.lt
  have g0_b := R4_b.out.p0
  have g1_b := R4_b.out.p1
  have gl_b := R4_b.out.lt
  clear HBb
  have HBb := hid (below_step HB4.out (Nat.le_refl _) (below_alloc w4 (.cells #[.int .i64 (P3), .int .i64 (Q3)] 26)))
  go_wp2_with fail
  refine (h4'.out _ HBb.out).mono ?_
  rintro e w5 ⟨hb, (⟨hng, _⟩ | ⟨_, rfl⟩)⟩
  · exact absurd hng hGB.out
  clear g0_a g1_a gl_a g0_b g1_b gl_b
  have R5_a := hid (((R4_a.out).keep_alloc (.cells #[.int .i64 (P3), .int .i64 (Q3)] 26)).keep hb)
  have R5_b := hid (((R4_b.out).keep_alloc (.cells #[.int .i64 (P3), .int .i64 (Q3)] 26)).keep hb)
  have R5_m := hid (((R4_m.out).keep_alloc (.cells #[.int .i64 (P3), .int .i64 (Q3)] 26)).keep hb)
  have R5_s := hid (((R4_s.out).keep_alloc (.cells #[.int .i64 (P3), .int .i64 (Q3)] 26)).keep hb)
  have HB5 := hid (below_step (below_step HB4.out (Nat.le_refl _) (below_alloc w4 (.cells #[.int .i64 (P3), .int .i64 (Q3)] 26))) (Nat.le_refl _) hb)
  have R5_x := hid ((RatAt.new w4 26 (P3) (Q3)).keep hb)
  clear hb HB4 R4_a R4_b R4_m R4_s
  have g0_a := R5_a.out.p0
  have g1_a := R5_a.out.p1
  have gl_a := R5_a.out.lt
  clear HBb
  have HBb := hid (below_step HB5.out (Nat.le_refl _) (below_alloc w5 (.cells #[.slice (none) 0 0, .slice (none) 0 0] 24)))
  go_wp2_with fail
  refine (h5'.out _ HBb.out).mono ?_
  rintro e w6 ⟨rfl, hb⟩
  clear g0_a g1_a gl_a
  have R6_a := hid (((R5_a.out).keep_alloc (.cells #[.slice (none) 0 0, .slice (none) 0 0] 24)).keep hb)
  have R6_b := hid (((R5_b.out).keep_alloc (.cells #[.slice (none) 0 0, .slice (none) 0 0] 24)).keep hb)
  have R6_m := hid (((R5_m.out).keep_alloc (.cells #[.slice (none) 0 0, .slice (none) 0 0] 24)).keep hb)
  have R6_s := hid (((R5_s.out).keep_alloc (.cells #[.slice (none) 0 0, .slice (none) 0 0] 24)).keep hb)
  have R6_x := hid (((R5_x.out).keep_alloc (.cells #[.slice (none) 0 0, .slice (none) 0 0] 24)).keep hb)
  have HB6 := hid (below_step (below_step HB5.out (Nat.le_refl _) (below_alloc w5 (.cells #[.slice (none) 0 0, .slice (none) 0 0] 24))) (Nat.le_refl _) hb)
  have R6_o := hid ((OddsAt.new w5 24 (none) 0 0 (none) 0 0).keep hb)
  clear hb HB5 R5_a R5_b R5_m R5_s R5_x
  have g0_a := R6_a.out.p0
  have g1_a := R6_a.out.p1
  have gl_a := R6_a.out.lt
  clear HBb
  go_wp2_with fail
  refine (h6'.out _ HB6.out).mono ?_
  rintro e w7 ⟨rfl, hb⟩
  clear g0_a g1_a gl_a
  have R7_a := hid ((R6_a.out).keep hb)
  have R7_b := hid ((R6_b.out).keep hb)
  have R7_m := hid ((R6_m.out).keep hb)
  have R7_s := hid ((R6_s.out).keep hb)
  have R7_x := hid ((R6_x.out).keep hb)
  have R7_o := hid ((R6_o.out).keep hb)
  have HB7 := hid (below_step HB6.out (Nat.le_refl _) hb)
  clear hb HB6 R6_a R6_b R6_m R6_s R6_x R6_o
  have g0_a := R7_a.out.p0
  have g1_a := R7_a.out.p1
  have gl_a := R7_a.out.lt
  go_wp2_with fail
  refine (h7'.out _ HB7.out).mono ?_
  rintro e w8 ⟨rfl, hb⟩
  clear g0_a g1_a gl_a
  have R8_a := hid ((R7_a.out).keep hb)
  have R8_b := hid ((R7_b.out).keep hb)
  have R8_m := hid ((R7_m.out).keep hb)
  have R8_s := hid ((R7_s.out).keep hb)
  have R8_x := hid ((R7_x.out).keep hb)
  have R8_o := hid ((R7_o.out).keep hb)
  have HB8 := hid (below_step HB7.out (Nat.le_refl _) hb)
  clear hb HB7 R7_a R7_b R7_m R7_s R7_x R7_o
  have g0_a := R8_a.out.p0
  have g1_a := R8_a.out.p1
  have gl_a := R8_a.out.lt
  have HI9 := hid (HI.out.keep HB8.out)
  have HJ9 := hid (HJ.out.keep HB8.out)
  clear HI HJ h1' h2' h3' h5' h6' h7'
  go_wp2_with fail
  go_loopg [105, 18, 19, 20] n (fun g s a _ _ wr => ∃ k : Nat, k ≤ n ∧ n - k ≤ g ∧ s = .int .i64 k ∧ a = .int .i64 (E (geI least) (l.take k)) ∧ w8 = wr)
  case atStart => exact ⟨0, Nat.zero_le _, by omega, rfl, rfl, rfl⟩
  case round =>
    obtain ⟨k, hk, hg, rfl, rfl, rfl⟩ := hrel
    by_cases hlt : k < n
    · obtain ⟨b1, o1, rfl, hb1, hc1⟩ := HI9.out.row (by omega)
      obtain ⟨b2, o2, rfl, hb2, hc2⟩ := HJ9.out.row (by omega)
      have g2 := hc1 k hlt
      have g3 := hc2 k hlt
      rw [vsL_at] at g2
      rw [wsL_at] at g3
      have hkl : k < l.length := by rw [← HN.out]; exact hlt
      have hat := HF.out.at hkl
      have HE1 := hid (E_take (geI least) l hkl)
      have c1 := E_ge_bd least (HF.out.take (k + 1))
      have c3 := E_ge_bd least (HF.out.take k)
      rw [HE1.out] at c1
      have hkI : (k : Int) < (n : Int) := by omega
      clear hc1 hc2 hkl
      generalize (l.getD k (0, 0)).1 = x at *
      generalize (l.getD k (0, 0)).2 = y at *
      obtain ⟨h1, h2, h3, h4⟩ := hat
      obtain ⟨c31, c32⟩ := c3
      by_cases hx : least ≤ x
      · rw [show geI least x = 1 from if_pos hx, Int.mul_one] at HE1 c1
        obtain ⟨c11, c12⟩ := c1
        generalize E (geI least) (l.take k) = s at *
        go_wp2
        go_roundg (n - (k + 1))
        case measure => omega
        case rel => exact ⟨k + 1, by omega, by omega, by go_num, by rw [HE1.out], rfl⟩
      · rw [show geI least x = 0 from if_neg hx, Int.mul_zero, Int.add_zero] at HE1 c1
        obtain ⟨c11, c12⟩ := c1
        generalize E (geI least) (l.take k) = s at *
        go_wp2
        go_roundg (n - (k + 1))
        case measure => omega
        case rel => exact ⟨k + 1, by omega, by omega, by go_num, by rw [HE1.out], rfl⟩
    · obtain rfl : k = n := by omega
      have HT : Hid (l.take k = l) := by rw [HN.out]; exact List.take_length
      rw [HT.out]
      generalize E (geI least) l = R at *
      clear g0_a g1_a gl_a
      have HKP : Hid (∀ u : World, Below w8.heap.size w8 u → (fun u => u.cell? ⟨w.heap.size, 0, none⟩ = some (.slice A k c) ∧ u.cell? ⟨w.heap.size, 1, none⟩ = some (.slice B k d) ∧ u.cell? ⟨w2.heap.size, 0, none⟩ = some (.int .i64 P1) ∧ u.cell? ⟨w2.heap.size, 1, none⟩ = some (.int .i64 Q1) ∧ u.cell? ⟨w3.heap.size, 0, none⟩ = some (.int .i64 P2) ∧ u.cell? ⟨w3.heap.size, 1, none⟩ = some (.int .i64 Q2) ∧ u.cell? ⟨w4.heap.size, 0, none⟩ = some (.int .i64 P3) ∧ u.cell? ⟨w4.heap.size, 1, none⟩ = some (.int .i64 Q3)) u) := fun u hb => ⟨(R8_a.out.keep hb).p0, (R8_a.out.keep hb).p1, (R8_m.out.keep hb).p0, (R8_m.out.keep hb).p1, (R8_s.out.keep hb).p0, (R8_s.out.keep hb).p1, (R8_x.out.keep hb).p0, (R8_x.out.keep hb).p1⟩
      go_wp2_with fail
      go_region_held3 (fun u => u.cell? ⟨w.heap.size, 0, none⟩ = some (.slice A k c) ∧ u.cell? ⟨w.heap.size, 1, none⟩ = some (.slice B k d) ∧ u.cell? ⟨w2.heap.size, 0, none⟩ = some (.int .i64 P1) ∧ u.cell? ⟨w2.heap.size, 1, none⟩ = some (.int .i64 Q1) ∧ u.cell? ⟨w3.heap.size, 0, none⟩ = some (.int .i64 P2) ∧ u.cell? ⟨w3.heap.size, 1, none⟩ = some (.int .i64 Q2) ∧ u.cell? ⟨w4.heap.size, 0, none⟩ = some (.int .i64 P3) ∧ u.cell? ⟨w4.heap.size, 1, none⟩ = some (.int .i64 Q3)) (first | exact hkC | exact hkB | exact hkA | exact HKP.out _ (below_drewN (Below.refl _ _) 1)) (first | (go_at_call_of 17 (Value.int .i64 S); refine (h8'.out _).mono ?_; rintro e wA ⟨rfl, hb0⟩; have hbA : Below w8.heap.size w8 wA := (below_drewN (Below.refl w8.heap.size w8) 1).trans hb0; have hkA := HKP.out _ hbA; clear hb0) | (go_at_call 18; refine (h10'.out _ (HB8.out.trans (hbA.mono HB8.out.size))).mono ?_; rintro e wB ⟨rfl, hb0⟩; have hbB := bstep hbA hb0; have hkB := HKP.out _ hbB; clear hb0) | (go_at_call_of 17 (Value.int .i64 R); refine (h9'.out _).mono ?_; rintro e wC ⟨rfl, hb0⟩; have hbC := bstep hbB hb0; have hkC := HKP.out _ hbC; clear hb0))
      have HBC := hid (HB8.out.trans (hbC.mono HB8.out.size))
      have HRA := hid (R8_a.out.keep hbC)
      have HRB := hid (R8_b.out.keep hbC)
      have HRO := hid (R8_o.out.keep hbC)
      have HVI := hid (HI9.out.keep hbC)
      have HVJ := hid (HJ9.out.keep hbC)
      clear hbA hbB hbC hkA hkB hkC HKP R8_a R8_b R8_o R8_m R8_s R8_x HI9 HJ9 h8' h9' h10'
      have b0 := HRB.out.p0
      have b1 := HRB.out.p1
      have bl := HRB.out.lt
      go_wp2_with fail
      refine (h11'.out _ HBC.out).mono ?_
      rintro e wD ⟨rfl, hb⟩
      have HDA := hid (HRA.out.keep hb)
      have HDB := hid (HRB.out.keep hb)
      have HDO := hid (HRO.out.keep hb)
      have HDI := hid (HVI.out.keep hb)
      have HDJ := hid (HVJ.out.keep hb)
      have HBD := hid (HBC.out.trans (hb.mono HBC.out.size))
      clear b0 b1 bl hb HRA HRB HRO HVI HVJ HBC h11'
      have HDI' := hid (HI2.out.keep HBD.out)
      have HDJ' := hid (HJ2.out.keep HBD.out)
      have hgl' := HG2.out.1
      have hgl'2 := HG2.out.2.1
      have hnl : n' = l'.length := by rw [← HDI'.out.len, vsL_len]
      have hn1 : 1 ≤ n' := by omega
      have hn12 : n' ≤ 12 := by omega
      have HM := hid hnl
      clear hnl
      obtain ⟨b1, o1, rfl, hb1, hc1⟩ := HDI.out.row (by omega)
      obtain ⟨b2, o2, rfl, hb2, hc2⟩ := HDI'.out.row (by omega)
      obtain ⟨b3, o3, rfl, hb3, hc3⟩ := HDJ.out.row (by omega)
      obtain ⟨b4, o4, rfl, hb4, hc4⟩ := HDJ'.out.row (by omega)
      obtain ⟨bs, hbs⟩ : ∃ bs, bs = wD.heap.size := ⟨_, rfl⟩
      have HBS := hid hbs
      have HCB : Hid (∀ u : World, Below bs wD u → u.cell? ⟨w.heap.size, 0, none⟩ = some (.slice (some ⟨b1, o1, none⟩) k c) ∧ u.cell? ⟨w.heap.size, 1, none⟩ = some (.slice (some ⟨b3, o3, none⟩) k d) ∧ u.cell? ⟨w.heap.size + 1, 0, none⟩ = some (.slice (some ⟨b2, o2, none⟩) n' c') ∧ u.cell? ⟨w.heap.size + 1, 1, none⟩ = some (.slice (some ⟨b4, o4, none⟩) n' d')) := fun u hb => by
        rw [hbs] at hb
        exact ⟨(HDA.out.keep hb).p0, (HDA.out.keep hb).p1, (HDB.out.keep hb).p0, (HDB.out.keep hb).p1⟩
      have HE1 : Hid (∀ (u : World) (i : Nat), Below bs wD u → i < k → u.cell? ⟨b1, o1 + i, none⟩ = some (.int .i64 (l.getD i (0, 0)).1)) := fun u i hb hi => by
        rw [hbs] at hb
        rw [← vsL_at]
        exact (hb.cell (p := ⟨b1, o1 + i, none⟩) hb1).trans (hc1 i hi)
      have HE2 : Hid (∀ (u : World) (i : Nat), Below bs wD u → i < n' → u.cell? ⟨b2, o2 + i, none⟩ = some (.int .i64 (l'.getD i (0, 0)).1)) := fun u i hb hi => by
        rw [hbs] at hb
        rw [← vsL_at]
        exact (hb.cell (p := ⟨b2, o2 + i, none⟩) hb2).trans (hc2 i hi)
      have HE3 : Hid (∀ (u : World) (i : Nat), Below bs wD u → i < k → u.cell? ⟨b3, o3 + i, none⟩ = some (.int .i64 (l.getD i (0, 0)).2)) := fun u i hb hi => by
        rw [hbs] at hb
        rw [← wsL_at]
        exact (hb.cell (p := ⟨b3, o3 + i, none⟩) hb3).trans (hc3 i hi)
      have HE4 : Hid (∀ (u : World) (i : Nat), Below bs wD u → i < n' → u.cell? ⟨b4, o4 + i, none⟩ = some (.int .i64 (l'.getD i (0, 0)).2)) := fun u i hb hi => by
        rw [hbs] at hb
        rw [← wsL_at]
        exact (hb.cell (p := ⟨b4, o4 + i, none⟩) hb4).trans (hc4 i hi)
      have HS0 : Hid (SumsAt (wD.alloc (.cells #[.slice none 0 0, .slice none 0 0] 24)) bs (bs + 1) (.slice none 0 0) (.slice none 0 0) (vsL (partL l l' 0 0)) (wsL (partL l l' 0 0))) := by
        rw [hbs, partL_zero]
        exact SumsAt.new wD _
      have HL0 : Hid (Below bs wD (wD.alloc (.cells #[.slice none 0 0, .slice none 0 0] 24))) := by rw [hbs]; exact below_alloc wD _
      have q0 := HDA.out.p0
      have q1 := HDA.out.p1
      have ql := HDA.out.lt
      have HAL : Hid (w.heap.size + 1 < bs) := by rw [hbs]; exact HDB.out.lt
      clear hbs hb1 hb2 hb3 hb4 hc1 hc2 hc3 hc4 HDI HDJ HDI' HDJ' HI2 HJ2 HDA HDB
      go_wp2_with fail
      obtain ⟨w8b, hw8⟩ : ∃ w8b, w8b = wD.alloc (.cells #[.slice none 0 0, .slice none 0 0] 24) := ⟨_, rfl⟩
      rw [← hw8] at HS0 HL0 ⊢
      simp only [← HBS.out]
      clear hw8 q0 q1 ql
      go_loopg [171] k (fun g t wr => ∃ (i : Nat) (v u : Value), i ≤ k ∧ k - i ≤ g ∧ t = .int .i64 (i : Int) ∧ SumsAt wr bs (bs + 1) v u (vsL (partL l l' i 0)) (wsL (partL l l' i 0)) ∧ Below bs wD wr)
      case atStart => exact ⟨0, _, _, Nat.zero_le _, by omega, rfl, HS0.out, HL0.out⟩
      case round =>
        clear HS0 HL0
        obtain ⟨i, v, u, hi, hg, rfl, hs, hbel⟩ := hrel
        have HS := hid hs
        have HBEL := hid hbel
        clear hs hbel
        by_cases hlt : i < k
        · have hil : i < l.length := by rw [← HN.out]; exact hlt
          have hati := HF.out.at hil
          have HIK : Hid (i < k) := hlt
          have hiI : (i : Int) < (k : Int) := by omega
          have HIL := hid hil
          have q0 := (HCB.out _ HBEL.out).2.2.1
          obtain ⟨x, hx⟩ : ∃ x, x = (l.getD i (0, 0)).1 := ⟨_, rfl⟩
          obtain ⟨wt, hwt⟩ : ∃ wt, wt = (l.getD i (0, 0)).2 := ⟨_, rfl⟩
          rw [← hx, ← hwt] at hati
          have HXE := hid hx
          have HWE := hid hwt
          obtain ⟨x1, x2, x3, x4⟩ := hati
          clear hx hwt hil
          go_wp2_with fail
          obtain ⟨w9, hw9⟩ : ∃ w9, w9 = wr := ⟨_, rfl⟩
          rw [← hw9] at HS HBEL ⊢
          clear q0 hw9
          go_loopg [177] n' (fun g t wr => ∃ (j : Nat) (v u : Value), j ≤ n' ∧ n' - j ≤ g ∧ t = .int .i64 (j : Int) ∧ SumsAt wr bs (bs + 1) v u (vsL (partL l l' i j)) (wsL (partL l l' i j)) ∧ Below bs wD wr)
          case atStart => exact ⟨0, _, _, Nat.zero_le _, by omega, rfl, HS.out, HBEL.out⟩
          case round =>
            clear HS HBEL
            obtain ⟨j, v1, u1, hj, hg1, rfl, hs, hbel⟩ := hrel
            have HS := hid hs
            have HBEL := hid hbel
            clear hs hbel
            by_cases hlt' : j < n'
            · have hjl : j < l'.length := by rw [← HM.out]; exact hlt'
              have HJK : Hid (j < n') := hlt'
              have hatj := HG2.out.2.at hjl
              obtain ⟨y, hy⟩ : ∃ y, y = (l'.getD j (0, 0)).1 := ⟨_, rfl⟩
              obtain ⟨z, hz⟩ : ∃ z, z = (l'.getD j (0, 0)).2 := ⟨_, rfl⟩
              rw [← hy, ← hz] at hatj
              obtain ⟨y1, y2, y3, y4⟩ := hatj
              have HYE := hid hy
              have HZE := hid hz
              have HP1 : Hid (vsL (partL l l' i (j + 1)) = vsL (partL l l' i j) ++ [x + y]) := by rw [partL_step l l' i hjl, vsL_append, ← HXE.out, ← hy]; rfl
              have HP2 : Hid (wsL (partL l l' i (j + 1)) = wsL (partL l l' i j) ++ [wt * z]) := by rw [partL_step l l' i hjl, wsL_append, ← HWE.out, ← hz]; rfl
              have hlen : (partL l l' i j).length ≤ 1000 := by
                rw [partL_len l l' (by rw [← HN.out]; exact hi) (by rw [← HM.out]; exact hj)]
                have h1 : i ≤ 12 := by omega
                have h2 : l'.length ≤ 12 := hgl'2
                have := Nat.mul_le_mul h1 h2
                have h3 : j ≤ 12 := by omega
                omega
              have HLXS : Hid ((vsL (partL l l' i j)).length ≤ 1000000000000) := by show _ ≤ _; rw [vsL_len]; omega
              have HLYS : Hid ((wsL (partL l l' i j)).length ≤ 1000000000000) := by show _ ≤ _; rw [wsL_len]; omega
              have hjI : (j : Int) < (n' : Int) := by omega
              obtain ⟨p1, p2⟩ := ww_bd x3 x4 y3 y4
              have hwr1 : IntKind.i64.wrap (x + y) = x + y := IntWalk.i64_in _ (by omega)
              have hwr2 : IntKind.i64.wrap (wt * z) = wt * z := IntWalk.i64_in _ (by omega)
              have hal1 : w.heap.size < bs := by have := HAL.out; omega
              clear hy hz hjl hlen
              generalize vsL (partL l l' i j) = XS at *
              generalize wsL (partL l l' i j) = YS at *
              have HKA : Hid (∀ u : World, Below (bs + 1) wr.drew u → (fun u => u.cell? ⟨w.heap.size, 0, none⟩ = some (.slice (some ⟨b1, o1, none⟩) k c) ∧ u.cell? ⟨w.heap.size + 1, 0, none⟩ = some (.slice (some ⟨b2, o2, none⟩) n' c') ∧ u.cell? ⟨b1, o1 + i, none⟩ = some (.int .i64 x) ∧ u.cell? ⟨b2, o2 + j, none⟩ = some (.int .i64 y) ∧ u.cell? ⟨bs, 0, none⟩ = some v1) u) := fun u hb => by
                have hb0 : Below bs wD u := ((HBEL.out.trans (below_drewN (Below.refl bs wr) 1)).trans (hb.mono (Nat.le_succ _)))
                exact ⟨(HCB.out u hb0).1, (HCB.out u hb0).2.2.1, (HE1.out u i hb0 HIK.out).trans (by rw [HXE.out]), (HE2.out u j hb0 HJK.out).trans (by rw [HYE.out]), (hb.cell (p := ⟨bs, 0, none⟩) (Nat.lt_succ_self _)).trans HS.out.c0⟩
              have hleA : bs + 1 ≤ wr.heap.size := by have := HS.out.lt; omega
              go_wp2_with fail
              refine region_till (fun u => u.cell? ⟨w.heap.size, 0, none⟩ = some (.slice (some ⟨b1, o1, none⟩) k c) ∧ u.cell? ⟨w.heap.size + 1, 0, none⟩ = some (.slice (some ⟨b2, o2, none⟩) n' c') ∧ u.cell? ⟨b1, o1 + i, none⟩ = some (.int .i64 x) ∧ u.cell? ⟨b2, o2 + j, none⟩ = some (.int .i64 y) ∧ u.cell? ⟨bs, 0, none⟩ = some v1) [16] (by kernel_rfl) (HKA.out _ (Below.refl _ _)) (fun hHeld => ?_)
              refine till_take0 (i := 0) (o := { dst := some 180, op := Op.fieldAddr 24 (Operand.tmp 21) 0, type := 0, pos := "law.go:506", after := #[], guard := none }) (x := ?v35) rfl (by kernel_rfl) (by kernel_rfl) (by kernel_rfl) (by kernel_rfl) (fun _ _ _ h => h) (Or.inl ⟨by rfl, ?hy35⟩) (by assumption) ?rest35
              case hy35 => (intro w9 _; go_simp; try with_reducible rfl)
              try simp only [Act.put, List.setIfInBounds_toArray, List.set_cons_zero, List.set_cons_succ]
              refine till_take0 (i := 2) (o := { dst := some 182, op := Op.fieldAddr 24 (Operand.tmp 3) 0, type := 0, pos := "law.go:506", after := #[], guard := none }) (x := ?v36) rfl (by kernel_rfl) (by kernel_rfl) (by kernel_rfl) (by kernel_rfl) (fun _ _ _ h => h) (Or.inl ⟨by rfl, ?hy36⟩) (by assumption) ?rest36
              case hy36 => (intro w9 _; go_simp; try with_reducible rfl)
              try simp only [Act.put, List.setIfInBounds_toArray, List.set_cons_zero, List.set_cons_succ]
              refine till_take0 (i := 4) (o := { dst := some 184, op := Op.move (Operand.tmp 22), type := 3, pos := "law.go:506", after := #[], guard := none }) (x := ?v37) rfl (by kernel_rfl) (by kernel_rfl) (by kernel_rfl) (by kernel_rfl) (fun _ _ _ h => h) (Or.inl ⟨by rfl, ?hy37⟩) (by assumption) ?rest37
              case hy37 => (intro w9 _; go_simp; try with_reducible rfl)
              try simp only [Act.put, List.setIfInBounds_toArray, List.set_cons_zero, List.set_cons_succ]
              refine till_take0 (i := 7) (o := { dst := some 187, op := Op.fieldAddr 24 (Operand.tmp 4) 0, type := 0, pos := "law.go:506", after := #[], guard := none }) (x := ?v38) rfl (by kernel_rfl) (by kernel_rfl) (by kernel_rfl) (by kernel_rfl) (fun _ _ _ h => h) (Or.inl ⟨by rfl, ?hy38⟩) (by assumption) ?rest38
              case hy38 => (intro w9 _; go_simp; try with_reducible rfl)
              try simp only [Act.put, List.setIfInBounds_toArray, List.set_cons_zero, List.set_cons_succ]
              refine till_take0 (i := 9) (o := { dst := some 189, op := Op.move (Operand.tmp 23), type := 3, pos := "law.go:506", after := #[], guard := none }) (x := ?v39) rfl (by kernel_rfl) (by kernel_rfl) (by kernel_rfl) (by kernel_rfl) (fun _ _ _ h => h) (Or.inl ⟨by rfl, ?hy39⟩) (by assumption) ?rest39
              case hy39 => (intro w9 _; go_simp; try with_reducible rfl)
              try simp only [Act.put, List.setIfInBounds_toArray, List.set_cons_zero, List.set_cons_succ]
              refine till_take (i := 1) (o := { dst := some 181, op := Op.load 22 (Operand.tmp 180), type := 22, pos := "law.go:506", after := #[{ on := 0, ground := Ground.data }], guard := none }) (x := ?v40) rfl (by kernel_rfl) (by kernel_rfl) (by kernel_rfl) (by kernel_rfl) (by kernel_rfl) (fun _ _ _ h => h) (Or.inl ⟨by rfl, ?hy40⟩) (by assumption) ?rest40
              case hy40 => (intro w9 hSw; (try dsimp only at hSw); go_simp; try with_reducible rfl)
              try simp only [Act.put, List.setIfInBounds_toArray, List.set_cons_zero, List.set_cons_succ]
              refine till_take (i := 3) (o := { dst := some 183, op := Op.load 22 (Operand.tmp 182), type := 22, pos := "law.go:506", after := #[{ on := 2, ground := Ground.data }], guard := none }) (x := ?v41) rfl (by kernel_rfl) (by kernel_rfl) (by kernel_rfl) (by kernel_rfl) (by kernel_rfl) (fun _ _ _ h => h) (Or.inl ⟨by rfl, ?hy41⟩) (by assumption) ?rest41
              case hy41 => (intro w9 hSw; (try dsimp only at hSw); go_simp; try with_reducible rfl)
              try simp only [Act.put, List.setIfInBounds_toArray, List.set_cons_zero, List.set_cons_succ]
              refine till_take (i := 8) (o := { dst := some 188, op := Op.load 22 (Operand.tmp 187), type := 22, pos := "law.go:506", after := #[{ on := 7, ground := Ground.data }], guard := none }) (x := ?v42) rfl (by kernel_rfl) (by kernel_rfl) (by kernel_rfl) (by kernel_rfl) (by kernel_rfl) (fun _ _ _ h => h) (Or.inl ⟨by rfl, ?hy42⟩) (by assumption) ?rest42
              case hy42 => (intro w9 hSw; (try dsimp only at hSw); go_simp; try with_reducible rfl)
              try simp only [Act.put, List.setIfInBounds_toArray, List.set_cons_zero, List.set_cons_succ]
              refine till_take (i := 5) (o := { dst := some 185, op := Op.indexAddr 22 (Operand.tmp 183) (Operand.tmp 184), type := 0, pos := "law.go:506", after := #[{ on := 3, ground := Ground.data }, { on := 4, ground := Ground.data }], guard := none }) (x := ?v43) rfl (by kernel_rfl) (by kernel_rfl) (by kernel_rfl) (by kernel_rfl) (by kernel_rfl) (fun _ _ _ h => h) (Or.inl ⟨by rfl, ?hy43⟩) (by assumption) ?rest43
              case hy43 => (intro w9 hSw; (try dsimp only at hSw); go_simp; try with_reducible rfl)
              try simp only [Act.put, List.setIfInBounds_toArray, List.set_cons_zero, List.set_cons_succ]
              refine till_take (i := 10) (o := { dst := some 190, op := Op.indexAddr 22 (Operand.tmp 188) (Operand.tmp 189), type := 0, pos := "law.go:506", after := #[{ on := 8, ground := Ground.data }, { on := 9, ground := Ground.data }], guard := none }) (x := ?v44) rfl (by kernel_rfl) (by kernel_rfl) (by kernel_rfl) (by kernel_rfl) (by kernel_rfl) (fun _ _ _ h => h) (Or.inl ⟨by rfl, ?hy44⟩) (by assumption) ?rest44
              case hy44 => (intro w9 hSw; (try dsimp only at hSw); go_simp; try with_reducible rfl)
              try simp only [Act.put, List.setIfInBounds_toArray, List.set_cons_zero, List.set_cons_succ]
              refine till_take (i := 6) (o := { dst := some 186, op := Op.load 3 (Operand.tmp 185), type := 3, pos := "law.go:506", after := #[{ on := 5, ground := Ground.data }], guard := none }) (x := ?v45) rfl (by kernel_rfl) (by kernel_rfl) (by kernel_rfl) (by kernel_rfl) (by kernel_rfl) (fun _ _ _ h => h) (Or.inl ⟨by rfl, ?hy45⟩) (by assumption) ?rest45
              case hy45 => (intro w9 hSw; (try dsimp only at hSw); go_simp; try with_reducible rfl)
              try simp only [Act.put, List.setIfInBounds_toArray, List.set_cons_zero, List.set_cons_succ]
              refine till_take (i := 11) (o := { dst := some 191, op := Op.load 3 (Operand.tmp 190), type := 3, pos := "law.go:506", after := #[{ on := 10, ground := Ground.data }], guard := none }) (x := ?v46) rfl (by kernel_rfl) (by kernel_rfl) (by kernel_rfl) (by kernel_rfl) (by kernel_rfl) (fun _ _ _ h => h) (Or.inl ⟨by rfl, ?hy46⟩) (by assumption) ?rest46
              case hy46 => (intro w9 hSw; (try dsimp only at hSw); go_simp; try with_reducible rfl)
              try simp only [Act.put, List.setIfInBounds_toArray, List.set_cons_zero, List.set_cons_succ]
              refine till_take0 (i := 12) (o := { dst := some 192, op := Op.binOp BinOp.add 3 (Operand.tmp 186) (Operand.tmp 191) 3, type := 3, pos := "law.go:506", after := #[{ on := 6, ground := Ground.data }, { on := 11, ground := Ground.data }], guard := none }) (x := ?v47) rfl (by kernel_rfl) (by kernel_rfl) (by kernel_rfl) (by kernel_rfl) (fun _ _ _ h => h) (Or.inl ⟨by rfl, ?hy47⟩) (by assumption) ?rest47
              case hy47 => (intro w9 _; go_simp; try with_reducible rfl)
              try simp only [Act.put, List.setIfInBounds_toArray, List.set_cons_zero, List.set_cons_succ]
              refine till_next (rs := [13]) (by kernel_rfl) (by simp) ?_
              refine TillNext.cons (o := { dst := some 193, op := Op.buildSlice 22 1 #[(0, Operand.tmp 192)], type := 22, pos := "law.go:506", after := #[{ on := 12, ground := Ground.data }], guard := none }) rfl (fun K hK => ?_) TillNext.nil
              go_simp
              refine hK.out _ _ ?hS48 (fun hHeld => ?rest48)
              case hS48 => (try dsimp only); (exact HKA.out _ ((below_alloc wr.drew _).mono hleA))
              clear hK K
              try simp only [Act.put, List.setIfInBounds_toArray, List.set_cons_zero, List.set_cons_succ]
              refine till_next (rs := [14]) (by kernel_rfl) (by simp) ?_
              refine TillNext.cons (o := { dst := some 194, op := Op.call { callee := Callee.builtin Builtin.append, args := #[Operand.tmp 181, Operand.tmp 193], argTypes := #[22, 22] }, type := 22, pos := "law.go:506", after := #[{ on := 1, ground := Ground.data }, { on := 13, ground := Ground.data }], guard := none }) rfl (fun K hK => ?_) TillNext.nil
              refine step_appK wr.drew rfl (.tmp 181) (.tmp 193) rfl (bs + 1) v1 XS (x + y) rfl rfl (HS.out.drewN 1).v0 HLXS.out hleA ?_
              intro gA cA wA hoA hgA hpA
              have EA : Below (bs + 1) wr.drew wA := grown_below (HS.out.drewN 1).v0 hleA hgA
              obtain ⟨hSA, hBA, a0, a1⟩ := (HS.out.drewN 1).grow0 _ hoA hgA hpA
              have HSA := hid hSA
              have HBA := hid hBA
              clear hSA hBA hoA hgA hpA
              refine hK.out _ _ ?hS49 (fun hHeld => ?rest49)
              case hS49 => (try dsimp only); (exact HKA.out _ EA)
              clear hK K
              try simp only [Act.put, List.setIfInBounds_toArray, List.set_cons_zero, List.set_cons_succ]
              refine till_take0 (i := 15) (o := { dst := some 195, op := Op.fieldAddr 24 (Operand.tmp 21) 0, type := 0, pos := "law.go:506", after := #[{ on := 0, ground := Ground.phase }, { on := 1, ground := Ground.phase }, { on := 2, ground := Ground.phase }, { on := 3, ground := Ground.phase }, { on := 4, ground := Ground.phase }, { on := 5, ground := Ground.phase }, { on := 6, ground := Ground.phase }, { on := 7, ground := Ground.phase }, { on := 8, ground := Ground.phase }, { on := 9, ground := Ground.phase }, { on := 10, ground := Ground.phase }, { on := 11, ground := Ground.phase }, { on := 12, ground := Ground.phase }, { on := 13, ground := Ground.phase }, { on := 14, ground := Ground.phase }], guard := none }) (x := ?v50) rfl (by kernel_rfl) (by kernel_rfl) (by kernel_rfl) (by kernel_rfl) (fun _ _ _ h => h) (Or.inl ⟨by rfl, ?hy50⟩) (by assumption) ?rest50
              case hy50 => (intro w9 _; go_simp; try with_reducible rfl)
              try simp only [Act.put, List.setIfInBounds_toArray, List.set_cons_zero, List.set_cons_succ]
              refine till_next (rs := [16]) (by kernel_rfl) (by simp) ?_
              refine TillNext.done (o := { dst := none, op := Op.store 22 (Operand.tmp 195) (Operand.tmp 194), type := 0, pos := "law.go:506", after := #[{ on := 15, ground := Ground.data }, { on := 14, ground := Ground.data }, { on := 14, ground := Ground.chain }, { on := 0, ground := Ground.phase }, { on := 1, ground := Ground.phase }, { on := 2, ground := Ground.phase }, { on := 3, ground := Ground.phase }, { on := 4, ground := Ground.phase }, { on := 5, ground := Ground.phase }, { on := 6, ground := Ground.phase }, { on := 7, ground := Ground.phase }, { on := 8, ground := Ground.phase }, { on := 9, ground := Ground.phase }, { on := 10, ground := Ground.phase }, { on := 11, ground := Ground.phase }, { on := 12, ground := Ground.phase }, { on := 13, ground := Ground.phase }, { on := 14, ground := Ground.phase }], guard := none }) rfl (by kernel_rfl) (fun K hK => ?_) TillNext.nil
              go_simp
              refine hK.out _ _ ?rest51
              clear hK K
              try simp only [Act.put, List.setIfInBounds_toArray, List.set_cons_zero, List.set_cons_succ]
              refine till_done (by kernel_rfl) ?_ _
              obtain ⟨wP, hwP⟩ : ∃ wP, wP = wA.setCell ⟨bs, 0, none⟩ (.slice (some ⟨gA, 0, none⟩) (XS.length + 1) cA) := ⟨_, rfl⟩
              have HSP := HSA
              rw [← hwP] at HSP
              have HBEP : Hid (Below bs wD wP) := by rw [hwP]; exact (HBEL.out.trans (below_drewN (Below.refl bs wr) 1)).trans HBA.out
              rw [← hwP]
              clear hwP a0 a1 HSA HBA EA HKA HS HBEL hHeld
              have HKQ : Hid (∀ u : World, Below (bs + 1) wP.drew u → (fun u => u.cell? ⟨w.heap.size, 1, none⟩ = some (.slice (some ⟨b3, o3, none⟩) k d) ∧ u.cell? ⟨w.heap.size + 1, 1, none⟩ = some (.slice (some ⟨b4, o4, none⟩) n' d') ∧ u.cell? ⟨b3, o3 + i, none⟩ = some (.int .i64 wt) ∧ u.cell? ⟨b4, o4 + j, none⟩ = some (.int .i64 z) ∧ u.cell? ⟨bs, 1, none⟩ = some u1) u) := fun u hb => by
                have hb0 : Below bs wD u := ((HBEP.out.trans (below_drewN (Below.refl bs wP) 1)).trans (hb.mono (Nat.le_succ _)))
                exact ⟨(HCB.out u hb0).2.1, (HCB.out u hb0).2.2.2, (HE3.out u i hb0 HIK.out).trans (by rw [HWE.out]), (HE4.out u j hb0 HJK.out).trans (by rw [HZE.out]), (hb.cell (p := ⟨bs, 1, none⟩) (Nat.lt_succ_self _)).trans HSP.out.c1⟩
              have hleQ : bs + 1 ≤ wP.heap.size := by have := HSP.out.lt; omega
              go_wp2_with fail
              refine region_till (fun u => u.cell? ⟨w.heap.size, 1, none⟩ = some (.slice (some ⟨b3, o3, none⟩) k d) ∧ u.cell? ⟨w.heap.size + 1, 1, none⟩ = some (.slice (some ⟨b4, o4, none⟩) n' d') ∧ u.cell? ⟨b3, o3 + i, none⟩ = some (.int .i64 wt) ∧ u.cell? ⟨b4, o4 + j, none⟩ = some (.int .i64 z) ∧ u.cell? ⟨bs, 1, none⟩ = some u1) [16] (by kernel_rfl) (HKQ.out _ (Below.refl _ _)) (fun hHeld => ?_)
              refine till_take0 (i := 0) (o := { dst := some 196, op := Op.fieldAddr 24 (Operand.tmp 21) 1, type := 0, pos := "law.go:507", after := #[], guard := none }) (x := ?v52) rfl (by kernel_rfl) (by kernel_rfl) (by kernel_rfl) (by kernel_rfl) (fun _ _ _ h => h) (Or.inl ⟨by rfl, ?hy52⟩) (by assumption) ?rest52
              case hy52 => (intro w9 _; go_simp; try with_reducible rfl)
              try simp only [Act.put, List.setIfInBounds_toArray, List.set_cons_zero, List.set_cons_succ]
              refine till_take0 (i := 2) (o := { dst := some 198, op := Op.fieldAddr 24 (Operand.tmp 3) 1, type := 0, pos := "law.go:507", after := #[], guard := none }) (x := ?v53) rfl (by kernel_rfl) (by kernel_rfl) (by kernel_rfl) (by kernel_rfl) (fun _ _ _ h => h) (Or.inl ⟨by rfl, ?hy53⟩) (by assumption) ?rest53
              case hy53 => (intro w9 _; go_simp; try with_reducible rfl)
              try simp only [Act.put, List.setIfInBounds_toArray, List.set_cons_zero, List.set_cons_succ]
              refine till_take0 (i := 4) (o := { dst := some 200, op := Op.move (Operand.tmp 22), type := 3, pos := "law.go:507", after := #[], guard := none }) (x := ?v54) rfl (by kernel_rfl) (by kernel_rfl) (by kernel_rfl) (by kernel_rfl) (fun _ _ _ h => h) (Or.inl ⟨by rfl, ?hy54⟩) (by assumption) ?rest54
              case hy54 => (intro w9 _; go_simp; try with_reducible rfl)
              try simp only [Act.put, List.setIfInBounds_toArray, List.set_cons_zero, List.set_cons_succ]
              refine till_take0 (i := 7) (o := { dst := some 203, op := Op.fieldAddr 24 (Operand.tmp 4) 1, type := 0, pos := "law.go:507", after := #[], guard := none }) (x := ?v55) rfl (by kernel_rfl) (by kernel_rfl) (by kernel_rfl) (by kernel_rfl) (fun _ _ _ h => h) (Or.inl ⟨by rfl, ?hy55⟩) (by assumption) ?rest55
              case hy55 => (intro w9 _; go_simp; try with_reducible rfl)
              try simp only [Act.put, List.setIfInBounds_toArray, List.set_cons_zero, List.set_cons_succ]
              refine till_take0 (i := 9) (o := { dst := some 205, op := Op.move (Operand.tmp 23), type := 3, pos := "law.go:507", after := #[], guard := none }) (x := ?v56) rfl (by kernel_rfl) (by kernel_rfl) (by kernel_rfl) (by kernel_rfl) (fun _ _ _ h => h) (Or.inl ⟨by rfl, ?hy56⟩) (by assumption) ?rest56
              case hy56 => (intro w9 _; go_simp; try with_reducible rfl)
              try simp only [Act.put, List.setIfInBounds_toArray, List.set_cons_zero, List.set_cons_succ]
              refine till_take (i := 1) (o := { dst := some 197, op := Op.load 22 (Operand.tmp 196), type := 22, pos := "law.go:507", after := #[{ on := 0, ground := Ground.data }], guard := none }) (x := ?v57) rfl (by kernel_rfl) (by kernel_rfl) (by kernel_rfl) (by kernel_rfl) (by kernel_rfl) (fun _ _ _ h => h) (Or.inl ⟨by rfl, ?hy57⟩) (by assumption) ?rest57
              case hy57 => (intro w9 hSw; (try dsimp only at hSw); go_simp; try with_reducible rfl)
              try simp only [Act.put, List.setIfInBounds_toArray, List.set_cons_zero, List.set_cons_succ]
              refine till_take (i := 3) (o := { dst := some 199, op := Op.load 22 (Operand.tmp 198), type := 22, pos := "law.go:507", after := #[{ on := 2, ground := Ground.data }], guard := none }) (x := ?v58) rfl (by kernel_rfl) (by kernel_rfl) (by kernel_rfl) (by kernel_rfl) (by kernel_rfl) (fun _ _ _ h => h) (Or.inl ⟨by rfl, ?hy58⟩) (by assumption) ?rest58
              case hy58 => (intro w9 hSw; (try dsimp only at hSw); go_simp; try with_reducible rfl)
              try simp only [Act.put, List.setIfInBounds_toArray, List.set_cons_zero, List.set_cons_succ]
              refine till_take (i := 8) (o := { dst := some 204, op := Op.load 22 (Operand.tmp 203), type := 22, pos := "law.go:507", after := #[{ on := 7, ground := Ground.data }], guard := none }) (x := ?v59) rfl (by kernel_rfl) (by kernel_rfl) (by kernel_rfl) (by kernel_rfl) (by kernel_rfl) (fun _ _ _ h => h) (Or.inl ⟨by rfl, ?hy59⟩) (by assumption) ?rest59
              case hy59 => (intro w9 hSw; (try dsimp only at hSw); go_simp; try with_reducible rfl)
              try simp only [Act.put, List.setIfInBounds_toArray, List.set_cons_zero, List.set_cons_succ]
              refine till_take (i := 5) (o := { dst := some 201, op := Op.indexAddr 22 (Operand.tmp 199) (Operand.tmp 200), type := 0, pos := "law.go:507", after := #[{ on := 3, ground := Ground.data }, { on := 4, ground := Ground.data }], guard := none }) (x := ?v60) rfl (by kernel_rfl) (by kernel_rfl) (by kernel_rfl) (by kernel_rfl) (by kernel_rfl) (fun _ _ _ h => h) (Or.inl ⟨by rfl, ?hy60⟩) (by assumption) ?rest60
              case hy60 => (intro w9 hSw; (try dsimp only at hSw); go_simp; try with_reducible rfl)
              try simp only [Act.put, List.setIfInBounds_toArray, List.set_cons_zero, List.set_cons_succ]
              refine till_take (i := 10) (o := { dst := some 206, op := Op.indexAddr 22 (Operand.tmp 204) (Operand.tmp 205), type := 0, pos := "law.go:507", after := #[{ on := 8, ground := Ground.data }, { on := 9, ground := Ground.data }], guard := none }) (x := ?v61) rfl (by kernel_rfl) (by kernel_rfl) (by kernel_rfl) (by kernel_rfl) (by kernel_rfl) (fun _ _ _ h => h) (Or.inl ⟨by rfl, ?hy61⟩) (by assumption) ?rest61
              case hy61 => (intro w9 hSw; (try dsimp only at hSw); go_simp; try with_reducible rfl)
              try simp only [Act.put, List.setIfInBounds_toArray, List.set_cons_zero, List.set_cons_succ]
              refine till_take (i := 6) (o := { dst := some 202, op := Op.load 3 (Operand.tmp 201), type := 3, pos := "law.go:507", after := #[{ on := 5, ground := Ground.data }], guard := none }) (x := ?v62) rfl (by kernel_rfl) (by kernel_rfl) (by kernel_rfl) (by kernel_rfl) (by kernel_rfl) (fun _ _ _ h => h) (Or.inl ⟨by rfl, ?hy62⟩) (by assumption) ?rest62
              case hy62 => (intro w9 hSw; (try dsimp only at hSw); go_simp; try with_reducible rfl)
              try simp only [Act.put, List.setIfInBounds_toArray, List.set_cons_zero, List.set_cons_succ]
              refine till_take (i := 11) (o := { dst := some 207, op := Op.load 3 (Operand.tmp 206), type := 3, pos := "law.go:507", after := #[{ on := 10, ground := Ground.data }], guard := none }) (x := ?v63) rfl (by kernel_rfl) (by kernel_rfl) (by kernel_rfl) (by kernel_rfl) (by kernel_rfl) (fun _ _ _ h => h) (Or.inl ⟨by rfl, ?hy63⟩) (by assumption) ?rest63
              case hy63 => (intro w9 hSw; (try dsimp only at hSw); go_simp; try with_reducible rfl)
              try simp only [Act.put, List.setIfInBounds_toArray, List.set_cons_zero, List.set_cons_succ]
              refine till_take0 (i := 12) (o := { dst := some 208, op := Op.binOp BinOp.mul 3 (Operand.tmp 202) (Operand.tmp 207) 3, type := 3, pos := "law.go:507", after := #[{ on := 6, ground := Ground.data }, { on := 11, ground := Ground.data }], guard := none }) (x := ?v64) rfl (by kernel_rfl) (by kernel_rfl) (by kernel_rfl) (by kernel_rfl) (fun _ _ _ h => h) (Or.inl ⟨by rfl, ?hy64⟩) (by assumption) ?rest64
              case hy64 => (intro w9 _; go_simp; try with_reducible rfl)
              try simp only [Act.put, List.setIfInBounds_toArray, List.set_cons_zero, List.set_cons_succ]
              refine till_next (rs := [13]) (by kernel_rfl) (by simp) ?_
              refine TillNext.cons (o := { dst := some 209, op := Op.buildSlice 22 1 #[(0, Operand.tmp 208)], type := 22, pos := "law.go:507", after := #[{ on := 12, ground := Ground.data }], guard := none }) rfl (fun K hK => ?_) TillNext.nil
              go_simp
              refine hK.out _ _ ?hS65 (fun hHeld => ?rest65)
              case hS65 => (try dsimp only); (exact HKQ.out _ ((below_alloc wP.drew _).mono hleQ))
              clear hK K
              try simp only [Act.put, List.setIfInBounds_toArray, List.set_cons_zero, List.set_cons_succ]
              refine till_next (rs := [14]) (by kernel_rfl) (by simp) ?_
              refine TillNext.cons (o := { dst := some 210, op := Op.call { callee := Callee.builtin Builtin.append, args := #[Operand.tmp 197, Operand.tmp 209], argTypes := #[22, 22] }, type := 22, pos := "law.go:507", after := #[{ on := 1, ground := Ground.data }, { on := 13, ground := Ground.data }], guard := none }) rfl (fun K hK => ?_) TillNext.nil
              refine step_appK wP.drew rfl (.tmp 197) (.tmp 209) rfl (bs + 1) u1 YS (wt * z) rfl rfl (HSP.out.drewN 1).u0 HLYS.out hleQ ?_
              intro gQ cQ wQ hoQ hgQ hpQ
              have EQ : Below (bs + 1) wP.drew wQ := grown_below (HSP.out.drewN 1).u0 hleQ hgQ
              obtain ⟨hSQ, hBQ, a0, a1⟩ := (HSP.out.drewN 1).grow1 _ hoQ hgQ hpQ
              have HSQ := hid hSQ
              have HBQ := hid hBQ
              clear hSQ hBQ hoQ hgQ hpQ
              refine hK.out _ _ ?hS66 (fun hHeld => ?rest66)
              case hS66 => (try dsimp only); (exact HKQ.out _ EQ)
              clear hK K
              try simp only [Act.put, List.setIfInBounds_toArray, List.set_cons_zero, List.set_cons_succ]
              refine till_take0 (i := 15) (o := { dst := some 211, op := Op.fieldAddr 24 (Operand.tmp 21) 1, type := 0, pos := "law.go:507", after := #[{ on := 0, ground := Ground.phase }, { on := 1, ground := Ground.phase }, { on := 2, ground := Ground.phase }, { on := 3, ground := Ground.phase }, { on := 4, ground := Ground.phase }, { on := 5, ground := Ground.phase }, { on := 6, ground := Ground.phase }, { on := 7, ground := Ground.phase }, { on := 8, ground := Ground.phase }, { on := 9, ground := Ground.phase }, { on := 10, ground := Ground.phase }, { on := 11, ground := Ground.phase }, { on := 12, ground := Ground.phase }, { on := 13, ground := Ground.phase }, { on := 14, ground := Ground.phase }], guard := none }) (x := ?v67) rfl (by kernel_rfl) (by kernel_rfl) (by kernel_rfl) (by kernel_rfl) (fun _ _ _ h => h) (Or.inl ⟨by rfl, ?hy67⟩) (by assumption) ?rest67
              case hy67 => (intro w9 _; go_simp; try with_reducible rfl)
              try simp only [Act.put, List.setIfInBounds_toArray, List.set_cons_zero, List.set_cons_succ]
              refine till_next (rs := [16]) (by kernel_rfl) (by simp) ?_
              refine TillNext.done (o := { dst := none, op := Op.store 22 (Operand.tmp 211) (Operand.tmp 210), type := 0, pos := "law.go:507", after := #[{ on := 15, ground := Ground.data }, { on := 14, ground := Ground.data }, { on := 14, ground := Ground.chain }, { on := 0, ground := Ground.phase }, { on := 1, ground := Ground.phase }, { on := 2, ground := Ground.phase }, { on := 3, ground := Ground.phase }, { on := 4, ground := Ground.phase }, { on := 5, ground := Ground.phase }, { on := 6, ground := Ground.phase }, { on := 7, ground := Ground.phase }, { on := 8, ground := Ground.phase }, { on := 9, ground := Ground.phase }, { on := 10, ground := Ground.phase }, { on := 11, ground := Ground.phase }, { on := 12, ground := Ground.phase }, { on := 13, ground := Ground.phase }, { on := 14, ground := Ground.phase }], guard := none }) rfl (by kernel_rfl) (fun K hK => ?_) TillNext.nil
              go_simp
              refine hK.out _ _ ?rest68
              clear hK K
              try simp only [Act.put, List.setIfInBounds_toArray, List.set_cons_zero, List.set_cons_succ]
              refine till_done (by kernel_rfl) ?_ _
              go_wp2
              go_roundg (n' - (j + 1))
              case measure => omega
              case rel =>
                exact ⟨j + 1, .slice (some ⟨gA, 0, none⟩) (XS.length + 1) cA, .slice (some ⟨gQ, 0, none⟩) (YS.length + 1) cQ, by omega, by omega, by go_num, by rw [HP1.out, HP2.out]; exact HSQ.out, (HBEP.out.trans (below_drewN (Below.refl bs wP) 1)).trans HBQ.out⟩
            · obtain rfl : j = n' := by omega
              have HROW : Hid (partL l l' i j = partL l l' (i + 1) 0) := by rw [HM.out]; exact partL_row l l' HIL.out
              go_wp2
              go_roundg (k - (i + 1))
              case measure => omega
              case rel =>
                exact ⟨i + 1, v1, u1, by omega, by omega, by go_num, by rw [← HROW.out]; exact HS.out, HBEL.out⟩
        · obtain rfl : i = k := by omega
          have HALL : Hid (partL l l' i 0 = bothL l l') := by rw [HN.out]; exact partL_all l l'
          rw [HALL.out] at HS
          obtain ⟨A7, c7, rfl, hI7, hC7⟩ := HS.out.v0.ints
          obtain ⟨A8, c8, rfl, hI8, hC8⟩ := HS.out.u0.ints
          obtain ⟨k7, hk7⟩ : ∃ k7, k7 = (vsL (bothL l l')).length := ⟨_, rfl⟩
          obtain ⟨k8, hk8⟩ : ∃ k8, k8 = (wsL (bothL l l')).length := ⟨_, rfl⟩
          rw [← hk7] at HS hI7
          rw [← hk8] at HS hI8
          have HI7 := hid hI7
          have HI8 := hid hI8
          have HSO : Hid (OddsAt wr bs A7 k7 c7 A8 k8 c8) := ⟨HS.out.c0, HS.out.c1, HS.out.f0, HS.out.f1, HS.out.lt⟩
          have hbelw : Below wD.heap.size wD wr := by rw [← HBS.out]; exact HBEL.out
          have HO9 := hid (HDO.out.keep hbelw)
          have HBF := hid (HBD.out.trans (hbelw.mono HBD.out.size))
          have HOER : Hid (∀ u : World, Below wr.heap.size wr u → Calls Try.prog 14 #[.agg #[.slice A7 k7 c7, .slice A8 k8 c8]] u (RetE u (oddErr (vsL (bothL l l')) (wsL (bothL l l'))))) := fun u hb => refOddsErr_any A7 k7 c7 A8 k8 c8 _ _ u (HI7.out.keep hb) (HI8.out.keep hb)
          have hne : (oddErr (vsL (bothL l l')) (wsL (bothL l l')) != 0) = true := by simpa using fun h => hGB.out (good_of_err h)
          generalize oddErr (vsL (bothL l l')) (wsL (bothL l l')) = er at *
          clear hI7 hI8 hC7 hC8 hk7 hk8 HS HBEL HDO HBD hbelw HCB HE1 HE2 HE3 HE4
          have q0 := HSO.out.p0
          have q1 := HSO.out.p1
          go_wp2_with fail
          refine (HOER.out _ (Below.refl _ _)).mono ?_
          rintro e wE ⟨rfl, hb⟩
          have HOE := hid (HO9.out.keep hb)
          have HBE := hid (HBF.out.trans (hb.mono HBF.out.size))
          clear q0 q1 hb HSO HO9 HI7 HI8 HOER HBF
          have q2 := HOE.out.p0
          have q3 := HOE.out.p1
          go_wp2
          go_ret
          exact ⟨rfl, HBE.out⟩

end Go.Proofs.Ythdjbmogdlodcaa
