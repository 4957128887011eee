/-
  castlaw.OddsSay, walked: the second one is refused.
-/
import Derived.Test.YthdjbmogdlodcaaOddC
import Derived.Test.YthdjbmogdlodcaaOddE
import Derived.Test.YthdjbmogdlodcaaOddF
import Derived.Test.YthdjbmogdlodcaaOddG
import Derived.Test.YthdjbmogdlodcaaOddQ
import Derived.Test.YthdjbmogdlodcaaRatF
import Derived.Deep.RegionHeld3
namespace Go.Proofs.Ythdjbmogdlodcaa
open Go.RowKit

set_option maxHeartbeats 16000000 in
set_option maxRecDepth 100000 in
theorem oddsSay_b (A : Option Addr) (n c : Nat) (B : Option Addr) (m d : Nat) (A' : Option Addr) (n' c' : Nat) (B' : Option Addr) (m' d' : Nat) (least : Int) (w : World) (l : List (Int × Int)) (hI : Ints w A n (vsL l)) (hJ : Ints w B m (wsL l)) (hG : GoodD l) (er : Int) (he : er ≠ 0) (h4 : ∀ W, Below w.heap.size w W → Calls Try.prog 13 #[.agg #[.slice A n c, .slice B m d], .agg #[.slice A' n' c', .slice B' m' d']] W (fun e w' => e = .returned (.tuple #[.agg #[.slice none 0 0, .slice none 0 0], .int .i64 er]) ∧ Below W.heap.size W w')) (h11 : ∀ W, Below w.heap.size w W → Calls Try.prog 14 #[.agg #[.slice A' n' c', .slice B' m' d']] W (RetE W er)) :
    Calls Try.prog 3 #[.agg #[.slice A n c, .slice B m d], .agg #[.slice A' n' c', .slice B' m' d'], .int .i64 least] w fun e w' => e = .returned (.bool true) ∧ Below w.heap.size w w' := by
  have hne : (er != 0) = true := by simpa using he
  clear he
  have h4' := hid h4
  clear h4
  have h11' := hid h11
  clear h11
  have HB0 := hid (Below.refl w.heap.size w)
  have hn : n = l.length := by rw [← hI.len, vsL_len]
  have hm : m = l.length := by rw [← hJ.len, wsL_len]
  have hmn := hn.trans hm.symm
  subst hmn
  have HN := hid hn
  have HF := hid hG.2
  have hl1 : 1 ≤ n := by rw [hn]; exact hG.1
  have hl2 : n ≤ 12 := by rw [hn]; exact hG.2.1
  have HI := hid hI
  have HJ := hid hJ
  have e1 := E_id_bd hG.2
  have e2 := E_one_bd hG.2
  have e3 := E_one_pos hG
  have e4 := E_ge_bd least hG.2
  have b1 := out_fits ((mean_bd hG).fits (by omega) (by omega))
  have b3 := out_fits ((beyond_bd least hG).fits (by omega) (by omega))
  have h1' : Hid (∀ W, Below w.heap.size w W → Calls Try.prog 10 #[.agg #[.slice A n c, .slice B n d]] W (RetR W (mean l).num ((mean l).den : Int) 0)) := fun W hb => omean_ok _ _ _ _ _ _ l W (hI.keep hb) (hJ.keep hb) hG
  have h2' : Hid (∀ W, Below w.heap.size w W → Calls Try.prog 11 #[.agg #[.slice A n c, .slice B n d]] W (RetR W (var l).num ((var l).den : Int) 0)) := fun W hb => ospread_ok _ _ _ _ _ _ l W (hI.keep hb) (hJ.keep hb) hG
  have h3' : Hid (∀ W, Below w.heap.size w W → Calls Try.prog 12 #[.agg #[.slice A n c, .slice B n d], .int .i64 least] W (RetR W (Rat.divInt (E (geI least) l) (E one l)).num ((Rat.divInt (E (geI least) l) (E one l)).den : Int) 0)) := fun W hb => obeyond_ok _ _ _ _ _ _ least l W (hI.keep hb) (hJ.keep hb) hG
  have h5' : Hid (∀ W, Below w.heap.size w W → Calls Try.prog 14 #[.agg #[.slice A n c, .slice B n d]] W (RetE W 0)) := fun W hb => by
    have k := refOddsErr_any A n c B n d _ _ W (hI.keep hb) (hJ.keep hb)
    rwa [oddErr_of hG] at k
  have h6' : Hid (∀ W, Below w.heap.size w W → Calls Try.prog 15 #[.agg #[.slice A n c, .slice B n d]] W (RetE W 0)) := fun W hb => by
    have k := ocheck_any A n c B n d _ _ W (hI.keep hb) (hJ.keep hb)
    rwa [oddErr_of hG] at k
  have h7' : Hid (∀ W, Below w.heap.size w W → Calls Try.prog 16 #[.agg #[.slice A n c, .slice B n d]] W (fun e w' => e = .returned (.tuple #[.int .i64 (E one l), .int .i64 (E idI l)]) ∧ Below W.heap.size W w')) := fun W hb => refOddsSum_ok _ _ _ _ _ _ l W (hI.keep hb) (hJ.keep hb) hG.2
  have h8' : Hid (∀ W, Calls Try.prog 17 #[.int .i64 (E idI l), .int .i64 (E one l)] W fun e w' => e = .returned (.agg #[.int .i64 (mean l).num, .int .i64 ((mean l).den : Int)]) ∧ Below W.heap.size W w') := fun W => by
    have k := whole_any (E idI l) (E one l) W ⟨by omega, by omega⟩ ⟨by omega, by omega⟩ (by omega)
    rw [show outP (Rat.divInt (E idI l) (E one l)) = (mean l).num from b1.1, show outQ (Rat.divInt (E idI l) (E one l)) = ((mean l).den : Int) from b1.2.1] at k
    exact k
  have h9' : Hid (∀ W, Calls Try.prog 17 #[.int .i64 (E (geI least) l), .int .i64 (E one l)] W fun e w' => e = .returned (.agg #[.int .i64 (Rat.divInt (E (geI least) l) (E one l)).num, .int .i64 ((Rat.divInt (E (geI least) l) (E one l)).den : Int)]) ∧ Below W.heap.size W w') := fun W => by
    have k := whole_any (E (geI least) l) (E one l) W ⟨by omega, by omega⟩ ⟨by omega, by omega⟩ (by omega)
    rw [b3.1, b3.2.1] at k
    exact k
  have h10' : Hid (∀ W, Below w.heap.size w W → Calls Try.prog 18 #[.agg #[.slice A n c, .slice B n d]] W (fun e w' => e = .returned (.agg #[.int .i64 (var l).num, .int .i64 ((var l).den : Int)]) ∧ Below W.heap.size W w')) := fun W hb => refSpreadOf_ok _ _ _ _ _ _ l W (hI.keep hb) (hJ.keep hb) hG
  have HG := hid hG
  obtain ⟨P1, hP1⟩ : ∃ x, (mean l).num = x := ⟨_, rfl⟩
  obtain ⟨Q1, hQ1⟩ : ∃ x, ((mean l).den : Int) = x := ⟨_, rfl⟩
  obtain ⟨P2, hP2⟩ : ∃ x, (var l).num = x := ⟨_, rfl⟩
  obtain ⟨Q2, hQ2⟩ : ∃ x, ((var l).den : Int) = x := ⟨_, rfl⟩
  obtain ⟨P3, hP3⟩ : ∃ x, (Rat.divInt (E (geI least) l) (E one l)).num = x := ⟨_, rfl⟩
  obtain ⟨Q3, hQ3⟩ : ∃ x, ((Rat.divInt (E (geI least) l) (E one l)).den : Int) = x := ⟨_, rfl⟩
  rw [hP1, hQ1] at h1' h8'
  rw [hP2, hQ2] at h2' h10'
  rw [hP3, hQ3] at h3' h9'
  clear hP1 hQ1 hP2 hQ2 hP3 hQ3 b1 b3 hI hJ hG hn hm
  obtain ⟨S, hS⟩ : ∃ x, E idI l = x := ⟨_, rfl⟩
  obtain ⟨T, hT⟩ : ∃ x, E one l = x := ⟨_, rfl⟩
  rw [hS] at h7' h8' e1
  rw [hT] at h7' h8' h9' e2 e3
  clear hS hT
  obtain ⟨e11, e12⟩ := e1
  obtain ⟨e21, e22⟩ := e2
  go_enter Try.func3, Try.ntmps3
  go_wp2_with fail
  obtain ⟨w1, hw1⟩ : ∃ w1, w1 = ((w.alloc (.cells #[.slice (A) n c, .slice (B) n d] 24)).alloc (.cells #[.slice (A') n' c', .slice (B') m' d'] 24)) := ⟨_, rfl⟩
  have R1_a : Hid (OddsAt w1 w.heap.size (A) n c (B) n d) := by
    rw [hw1]
    have h := (OddsAt.new w 24 (A) n c (B) n d)
    exact (h).keep_alloc _
  have R1_b : Hid (OddsAt w1 (w.heap.size + 1) (A') n' c' (B') m' d') := by
    rw [hw1]
    have h := (OddsAt.new (w.alloc (.cells #[.slice (A) n c, .slice (B) n d] 24)) 24 (A') n' c' (B') m' d')
    rw [show (w.alloc (.cells #[.slice (A) n c, .slice (B) n d] 24)).heap.size = w.heap.size + 1 by simp] at h
    exact h
  have HBx : Hid (Below w.heap.size w w1) := by
    rw [hw1]
    exact two_alloc w _ _
  rw [← hw1]
  clear hw1 HB0
  have HB1 := HBx
  clear HBx
  refine (h1'.out _ HB1.out).mono ?_
  rintro e w2 ⟨rfl, hb⟩
  have R2_a := hid ((R1_a.out).keep hb)
  have R2_b := hid ((R1_b.out).keep hb)
  have HB2 := hid (below_step HB1.out (Nat.le_refl _) hb)
  clear hb HB1 R1_a R1_b
  have g0_a := R2_a.out.p0
  have g1_a := R2_a.out.p1
  have gl_a := R2_a.out.lt
  have HBb := hid (below_step HB2.out (Nat.le_refl _) (below_alloc w2 (.cells #[.int .i64 (P1), .int .i64 (Q1)] 26)))
  go_wp2_with fail
  refine (h2'.out _ HBb.out).mono ?_
  rintro e w3 ⟨rfl, hb⟩
  clear g0_a g1_a gl_a
  have R3_a := hid (((R2_a.out).keep_alloc (.cells #[.int .i64 (P1), .int .i64 (Q1)] 26)).keep hb)
  have R3_b := hid (((R2_b.out).keep_alloc (.cells #[.int .i64 (P1), .int .i64 (Q1)] 26)).keep hb)
  have HB3 := hid (below_step (below_step HB2.out (Nat.le_refl _) (below_alloc w2 (.cells #[.int .i64 (P1), .int .i64 (Q1)] 26))) (Nat.le_refl _) hb)
  have R3_m := hid ((RatAt.new w2 26 (P1) (Q1)).keep hb)
  clear hb HB2 R2_a R2_b
  have g0_a := R3_a.out.p0
  have g1_a := R3_a.out.p1
  have gl_a := R3_a.out.lt
  clear HBb
  have HBb := hid (below_step HB3.out (Nat.le_refl _) (below_alloc w3 (.cells #[.int .i64 (P2), .int .i64 (Q2)] 26)))
  go_wp2_with fail
  refine (h3'.out _ HBb.out).mono ?_
  rintro e w4 ⟨rfl, hb⟩
  clear g0_a g1_a gl_a
  have R4_a := hid (((R3_a.out).keep_alloc (.cells #[.int .i64 (P2), .int .i64 (Q2)] 26)).keep hb)
  have R4_b := hid (((R3_b.out).keep_alloc (.cells #[.int .i64 (P2), .int .i64 (Q2)] 26)).keep hb)
  have R4_m := hid (((R3_m.out).keep_alloc (.cells #[.int .i64 (P2), .int .i64 (Q2)] 26)).keep hb)
  have HB4 := hid (below_step (below_step HB3.out (Nat.le_refl _) (below_alloc w3 (.cells #[.int .i64 (P2), .int .i64 (Q2)] 26))) (Nat.le_refl _) hb)
  have R4_s := hid ((RatAt.new w3 26 (P2) (Q2)).keep hb)
  clear hb HB3 R3_a R3_b R3_m
  have g0_a := R4_a.out.p0
  have g1_a := R4_a.out.p1
  have gl_a := R4_a.out.lt
  have g0_b := R4_b.out.p0
  have g1_b := R4_b.out.p1
  have gl_b := R4_b.out.lt
  clear HBb
  have HBb := hid (below_step HB4.out (Nat.le_refl _) (below_alloc w4 (.cells #[.int .i64 (P3), .int .i64 (Q3)] 26)))
  go_wp2_with fail
  refine (h4'.out _ HBb.out).mono ?_
  rintro e w5 ⟨rfl, hb⟩
  clear g0_a g1_a gl_a g0_b g1_b gl_b
  have R5_a := hid (((R4_a.out).keep_alloc (.cells #[.int .i64 (P3), .int .i64 (Q3)] 26)).keep hb)
  have R5_b := hid (((R4_b.out).keep_alloc (.cells #[.int .i64 (P3), .int .i64 (Q3)] 26)).keep hb)
  have R5_m := hid (((R4_m.out).keep_alloc (.cells #[.int .i64 (P3), .int .i64 (Q3)] 26)).keep hb)
  have R5_s := hid (((R4_s.out).keep_alloc (.cells #[.int .i64 (P3), .int .i64 (Q3)] 26)).keep hb)
  have HB5 := hid (below_step (below_step HB4.out (Nat.le_refl _) (below_alloc w4 (.cells #[.int .i64 (P3), .int .i64 (Q3)] 26))) (Nat.le_refl _) hb)
  have R5_x := hid ((RatAt.new w4 26 (P3) (Q3)).keep hb)
  clear hb HB4 R4_a R4_b R4_m R4_s
  have g0_a := R5_a.out.p0
  have g1_a := R5_a.out.p1
  have gl_a := R5_a.out.lt
  clear HBb
  have HBb := hid (below_step HB5.out (Nat.le_refl _) (below_alloc w5 (.cells #[.slice (none) 0 0, .slice (none) 0 0] 24)))
  go_wp2_with fail
  refine (h5'.out _ HBb.out).mono ?_
  rintro e w6 ⟨rfl, hb⟩
  clear g0_a g1_a gl_a
  have R6_a := hid (((R5_a.out).keep_alloc (.cells #[.slice (none) 0 0, .slice (none) 0 0] 24)).keep hb)
  have R6_b := hid (((R5_b.out).keep_alloc (.cells #[.slice (none) 0 0, .slice (none) 0 0] 24)).keep hb)
  have R6_m := hid (((R5_m.out).keep_alloc (.cells #[.slice (none) 0 0, .slice (none) 0 0] 24)).keep hb)
  have R6_s := hid (((R5_s.out).keep_alloc (.cells #[.slice (none) 0 0, .slice (none) 0 0] 24)).keep hb)
  have R6_x := hid (((R5_x.out).keep_alloc (.cells #[.slice (none) 0 0, .slice (none) 0 0] 24)).keep hb)
  have HB6 := hid (below_step (below_step HB5.out (Nat.le_refl _) (below_alloc w5 (.cells #[.slice (none) 0 0, .slice (none) 0 0] 24))) (Nat.le_refl _) hb)
  have R6_o := hid ((OddsAt.new w5 24 (none) 0 0 (none) 0 0).keep hb)
  clear hb HB5 R5_a R5_b R5_m R5_s R5_x
  have g0_a := R6_a.out.p0
  have g1_a := R6_a.out.p1
  have gl_a := R6_a.out.lt
  clear HBb
  go_wp2_with fail
  refine (h6'.out _ HB6.out).mono ?_
  rintro e w7 ⟨rfl, hb⟩
  clear g0_a g1_a gl_a
  have R7_a := hid ((R6_a.out).keep hb)
  have R7_b := hid ((R6_b.out).keep hb)
  have R7_m := hid ((R6_m.out).keep hb)
  have R7_s := hid ((R6_s.out).keep hb)
  have R7_x := hid ((R6_x.out).keep hb)
  have R7_o := hid ((R6_o.out).keep hb)
  have HB7 := hid (below_step HB6.out (Nat.le_refl _) hb)
  clear hb HB6 R6_a R6_b R6_m R6_s R6_x R6_o
  have g0_a := R7_a.out.p0
  have g1_a := R7_a.out.p1
  have gl_a := R7_a.out.lt
  go_wp2_with fail
  refine (h7'.out _ HB7.out).mono ?_
  rintro e w8 ⟨rfl, hb⟩
  clear g0_a g1_a gl_a
  have R8_a := hid ((R7_a.out).keep hb)
  have R8_b := hid ((R7_b.out).keep hb)
  have R8_m := hid ((R7_m.out).keep hb)
  have R8_s := hid ((R7_s.out).keep hb)
  have R8_x := hid ((R7_x.out).keep hb)
  have R8_o := hid ((R7_o.out).keep hb)
  have HB8 := hid (below_step HB7.out (Nat.le_refl _) hb)
  clear hb HB7 R7_a R7_b R7_m R7_s R7_x R7_o
  have g0_a := R8_a.out.p0
  have g1_a := R8_a.out.p1
  have gl_a := R8_a.out.lt
  have HI9 := hid (HI.out.keep HB8.out)
  have HJ9 := hid (HJ.out.keep HB8.out)
  clear HI HJ h1' h2' h3' h5' h6' h7'
  go_wp2_with fail
  go_loopg [105, 18, 19, 20] n (fun g s a _ _ wr => ∃ k : Nat, k ≤ n ∧ n - k ≤ g ∧ s = .int .i64 k ∧ a = .int .i64 (E (geI least) (l.take k)) ∧ w8 = wr)
  case atStart => exact ⟨0, Nat.zero_le _, by omega, rfl, rfl, rfl⟩
  case round =>
    obtain ⟨k, hk, hg, rfl, rfl, rfl⟩ := hrel
    by_cases hlt : k < n
    · obtain ⟨b1, o1, rfl, hb1, hc1⟩ := HI9.out.row (by omega)
      obtain ⟨b2, o2, rfl, hb2, hc2⟩ := HJ9.out.row (by omega)
      have g2 := hc1 k hlt
      have g3 := hc2 k hlt
      rw [vsL_at] at g2
      rw [wsL_at] at g3
      have hkl : k < l.length := by rw [← HN.out]; exact hlt
      have hat := HF.out.at hkl
      have HE1 := hid (E_take (geI least) l hkl)
      have c1 := E_ge_bd least (HF.out.take (k + 1))
      have c3 := E_ge_bd least (HF.out.take k)
      rw [HE1.out] at c1
      have hkI : (k : Int) < (n : Int) := by omega
      clear hc1 hc2 hkl
      generalize (l.getD k (0, 0)).1 = x at *
      generalize (l.getD k (0, 0)).2 = y at *
      obtain ⟨h1, h2, h3, h4⟩ := hat
      obtain ⟨c31, c32⟩ := c3
      by_cases hx : least ≤ x
      · rw [show geI least x = 1 from if_pos hx, Int.mul_one] at HE1 c1
        obtain ⟨c11, c12⟩ := c1
        generalize E (geI least) (l.take k) = s at *
        go_wp2
        go_roundg (n - (k + 1))
        case measure => omega
        case rel => exact ⟨k + 1, by omega, by omega, by go_num, by rw [HE1.out], rfl⟩
      · rw [show geI least x = 0 from if_neg hx, Int.mul_zero, Int.add_zero] at HE1 c1
        obtain ⟨c11, c12⟩ := c1
        generalize E (geI least) (l.take k) = s at *
        go_wp2
        go_roundg (n - (k + 1))
        case measure => omega
        case rel => exact ⟨k + 1, by omega, by omega, by go_num, by rw [HE1.out], rfl⟩
    · obtain rfl : k = n := by omega
      have HT : Hid (l.take k = l) := by rw [HN.out]; exact List.take_length
      rw [HT.out]
      generalize E (geI least) l = R at *
      clear g0_a g1_a gl_a
      have HKP : Hid (∀ u : World, Below w8.heap.size w8 u → (fun u => u.cell? ⟨w.heap.size, 0, none⟩ = some (.slice A k c) ∧ u.cell? ⟨w.heap.size, 1, none⟩ = some (.slice B k d) ∧ u.cell? ⟨w2.heap.size, 0, none⟩ = some (.int .i64 P1) ∧ u.cell? ⟨w2.heap.size, 1, none⟩ = some (.int .i64 Q1) ∧ u.cell? ⟨w3.heap.size, 0, none⟩ = some (.int .i64 P2) ∧ u.cell? ⟨w3.heap.size, 1, none⟩ = some (.int .i64 Q2) ∧ u.cell? ⟨w4.heap.size, 0, none⟩ = some (.int .i64 P3) ∧ u.cell? ⟨w4.heap.size, 1, none⟩ = some (.int .i64 Q3)) u) := fun u hb => ⟨(R8_a.out.keep hb).p0, (R8_a.out.keep hb).p1, (R8_m.out.keep hb).p0, (R8_m.out.keep hb).p1, (R8_s.out.keep hb).p0, (R8_s.out.keep hb).p1, (R8_x.out.keep hb).p0, (R8_x.out.keep hb).p1⟩
      go_wp2_with fail
      go_region_held3 (fun u => u.cell? ⟨w.heap.size, 0, none⟩ = some (.slice A k c) ∧ u.cell? ⟨w.heap.size, 1, none⟩ = some (.slice B k d) ∧ u.cell? ⟨w2.heap.size, 0, none⟩ = some (.int .i64 P1) ∧ u.cell? ⟨w2.heap.size, 1, none⟩ = some (.int .i64 Q1) ∧ u.cell? ⟨w3.heap.size, 0, none⟩ = some (.int .i64 P2) ∧ u.cell? ⟨w3.heap.size, 1, none⟩ = some (.int .i64 Q2) ∧ u.cell? ⟨w4.heap.size, 0, none⟩ = some (.int .i64 P3) ∧ u.cell? ⟨w4.heap.size, 1, none⟩ = some (.int .i64 Q3)) (first | exact hkC | exact hkB | exact hkA | exact HKP.out _ (below_drewN (Below.refl _ _) 1)) (first | (go_at_call_of 17 (Value.int .i64 S); refine (h8'.out _).mono ?_; rintro e wA ⟨rfl, hb0⟩; have hbA : Below w8.heap.size w8 wA := (below_drewN (Below.refl w8.heap.size w8) 1).trans hb0; have hkA := HKP.out _ hbA; clear hb0) | (go_at_call 18; refine (h10'.out _ (HB8.out.trans (hbA.mono HB8.out.size))).mono ?_; rintro e wB ⟨rfl, hb0⟩; have hbB := bstep hbA hb0; have hkB := HKP.out _ hbB; clear hb0) | (go_at_call_of 17 (Value.int .i64 R); refine (h9'.out _).mono ?_; rintro e wC ⟨rfl, hb0⟩; have hbC := bstep hbB hb0; have hkC := HKP.out _ hbC; clear hb0))
      have HBC := hid (HB8.out.trans (hbC.mono HB8.out.size))
      have HRB := hid (R8_b.out.keep hbC)
      have HRO := hid (R8_o.out.keep hbC)
      clear hbA hbB hbC hkA hkB hkC HKP
      have b0 := HRB.out.p0
      have b1 := HRB.out.p1
      go_wp2_with fail
      refine (h11'.out _ HBC.out).mono ?_
      rintro e wD ⟨rfl, hb⟩
      have q0 := (HRO.out.keep hb).p0
      have q1 := (HRO.out.keep hb).p1
      have HBD := hid (HBC.out.trans (hb.mono HBC.out.size))
      clear b0 b1 hb
      go_wp2
      go_ret
      exact ⟨rfl, HBD.out⟩

end Go.Proofs.Ythdjbmogdlodcaa
