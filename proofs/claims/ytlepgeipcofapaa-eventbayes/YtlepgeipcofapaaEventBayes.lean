/-
  castkeep.EventBayes, walked.
-/
import Derived.Test.YtlepgeipcofapaaEvE
namespace Go.Proofs.Ytlepgeipcofapaa
open Go.RowKit

set_option maxHeartbeats 4000000 in
set_option maxRecDepth 100000 in
theorem bayes_no (A : Option Addr) (n c a b : Nat) (w : World) (P1 Q1 e1 P2 Q2 e2 P3 Q3 e3 P4 Q4 e4 : Int) (h1 : ∀ W, Below w.heap.size w W → Calls Try.prog 8 #[.slice A n c, .int .u16 (a)] W (RetR W (P1) (Q1) (e1))) (h2 : ∀ W, Below w.heap.size w W → Calls Try.prog 8 #[.slice A n c, .int .u16 (b)] W (RetR W (P2) (Q2) (e2))) (h3 : ∀ W, Below w.heap.size w W → Calls Try.prog 9 #[.slice A n c, .int .u16 (a), .int .u16 (b)] W (RetR W (P3) (Q3) (e3))) (h4 : ∀ W, Below w.heap.size w W → Calls Try.prog 9 #[.slice A n c, .int .u16 (b), .int .u16 (a)] W (RetR W (P4) (Q4) (e4))) (h5 : allOK [e1, e2, e3, e4] = false) (hE : e1 ≠ 0 ∨ (e1 = 0 ∧ e2 ≠ 0) ∨ (e1 = 0 ∧ e2 = 0 ∧ a = 0) ∨ (e1 = 0 ∧ e2 = 0 ∧ a ≠ 0 ∧ b = 0)) :
    Calls Try.prog 4 #[.slice A n c, .int .u16 (a : Int), .int .u16 (b : Int)] w fun e w' => e = .returned (.bool true) ∧ Below w.heap.size w w' := by
  have h1' := hid h1
  clear h1
  have h2' := hid h2
  clear h2
  have h3' := hid h3
  clear h3
  have h4' := hid h4
  clear h4
  have h5' := hid h5
  clear h5
  have hE' := hid hE
  clear hE
  have HB0 := hid (Below.refl w.heap.size w)
  go_enter Try.func4, Try.ntmps4
  go_wp2_with fail
  refine (events_any _).mono ?_
  rintro e w1 ⟨rfl, hb⟩
  have HB1 := hid (below_step HB0.out (Nat.le_refl _) hb)
  clear hb HB0 
  go_wp2_with fail
  refine (ratios_any _).mono ?_
  rintro e w2 ⟨rfl, hb⟩
  have HB2 := hid (below_step HB1.out (Nat.le_refl _) hb)
  clear hb HB1 
  go_wp2_with fail
  have HBN := hid (HB2.out)
  refine (h1'.out _ HBN.out).mono ?_
  rintro e w3 ⟨rfl, hb⟩
  have HB3 := hid (below_step HB2.out (Nat.le_refl _) hb)
  clear hb HB2 
  clear HBN
  go_wp2_with fail
  have HBN := hid (below_step HB3.out (Nat.le_refl _) (below_alloc w3 (.cells #[.int .i64 (P1), .int .i64 (Q1)] 26)))
  refine (h2'.out _ HBN.out).mono ?_
  rintro e w4 ⟨rfl, hb⟩
  have HB4 := hid (below_step (below_step HB3.out (Nat.le_refl _) (below_alloc w3 (.cells #[.int .i64 (P1), .int .i64 (Q1)] 26))) (Nat.le_refl _) hb)
  clear hb HB3 
  clear HBN
  go_wp2_with fail
  have HBN := hid (below_step HB4.out (Nat.le_refl _) (below_alloc w4 (.cells #[.int .i64 (P2), .int .i64 (Q2)] 26)))
  refine (h3'.out _ HBN.out).mono ?_
  rintro e w5 ⟨rfl, hb⟩
  have HB5 := hid (below_step (below_step HB4.out (Nat.le_refl _) (below_alloc w4 (.cells #[.int .i64 (P2), .int .i64 (Q2)] 26))) (Nat.le_refl _) hb)
  clear hb HB4 
  clear HBN
  go_wp2_with fail
  have HBN := hid (below_step HB5.out (Nat.le_refl _) (below_alloc w5 (.cells #[.int .i64 (P3), .int .i64 (Q3)] 26)))
  refine (h4'.out _ HBN.out).mono ?_
  rintro e w6 ⟨rfl, hb⟩
  have HB6 := hid (below_step (below_step HB5.out (Nat.le_refl _) (below_alloc w5 (.cells #[.int .i64 (P3), .int .i64 (Q3)] 26))) (Nat.le_refl _) hb)
  clear hb HB5 
  clear HBN
  go_wp2_with fail
  refine (good_bel1 _ _ _ _ 4 [e1, e2, e3, e4] rfl rfl (by omega)).mono ?_
  rintro e w7 ⟨rfl, hb⟩
  rw [h5'.out]
  have HB7 := hid (below_step (below_step HB6.out (Nat.le_refl _) (below_alloc w6 (.cells #[.int .i64 (P4), .int .i64 (Q4)] 26))) (Nat.le_refl _) hb)
  clear hb HB6 
  rcases hE'.out with hh | ⟨hh, hk⟩ | ⟨hh, hk, hl⟩ | ⟨hh, hk, hl, hm⟩
  · have d1 : (e1 != 0) = true := by simpa using hh
    clear hh
    clear h1' h2' h3' h4' h5' hE'
    go_wp2
    go_ret
    exact ⟨rfl, HB7.out⟩
  · have d1 : (e1 != 0) = false := by simpa using hh
    have d2 : (e2 != 0) = true := by simpa using hk
    clear hh hk
    clear h1' h2' h3' h4' h5' hE'
    go_wp2
    go_ret
    exact ⟨rfl, HB7.out⟩
  · have d1 : (e1 != 0) = false := by simpa using hh
    have d2 : (e2 != 0) = false := by simpa using hk
    have d3 : ((a : Int) == 0) = true := by rw [hl]; rfl
    clear hh hk hl
    clear h1' h2' h3' h4' h5' hE'
    go_wp2
    go_ret
    exact ⟨rfl, HB7.out⟩
  · have d1 : (e1 != 0) = false := by simpa using hh
    have d2 : (e2 != 0) = false := by simpa using hk
    have d3 : ((a : Int) == 0) = false := by simpa using hl
    have d4 : ((b : Int) == 0) = true := by rw [hm]; rfl
    clear hh hk hl hm
    clear h1' h2' h3' h4' h5' hE'
    go_wp2
    go_ret
    exact ⟨rfl, HB7.out⟩

set_option maxHeartbeats 4000000 in
set_option maxRecDepth 100000 in
theorem bayes_yes (A : Option Addr) (n c a b : Nat) (w : World) (P1 Q1 P2 Q2 P3 Q3 P4 Q4 P5 Q5 : Int) (h1 : ∀ W, Below w.heap.size w W → Calls Try.prog 8 #[.slice A n c, .int .u16 (a)] W (RetR W (P1) (Q1) (0))) (h2 : ∀ W, Below w.heap.size w W → Calls Try.prog 8 #[.slice A n c, .int .u16 (b)] W (RetR W (P2) (Q2) (0))) (h3 : ∀ W, Below w.heap.size w W → Calls Try.prog 9 #[.slice A n c, .int .u16 (a), .int .u16 (b)] W (RetR W (P3) (Q3) (0))) (h4 : ∀ W, Below w.heap.size w W → Calls Try.prog 9 #[.slice A n c, .int .u16 (b), .int .u16 (a)] W (RetR W (P4) (Q4) (0))) (h5 : ∀ W, Below w.heap.size w W → Calls Try.prog 8 #[.slice A n c, .int .u16 ((a &&& b : Nat))] W (RetR W (P5) (Q5) (0))) (h6 : bits .and .u16 (a : Int) (b : Int) = ((a &&& b : Nat) : Int)) (h7 : ∀ W, Calls Try.prog 19 #[.agg #[.int .i64 (P3), .int .i64 (Q3)], .agg #[.int .i64 (P2), .int .i64 (Q2)]] W (RetR W P5 Q5 0)) (h8 : ∀ W, Calls Try.prog 19 #[.agg #[.int .i64 (P4), .int .i64 (Q4)], .agg #[.int .i64 (P1), .int .i64 (Q1)]] W (RetR W P5 Q5 0)) :
    Calls Try.prog 4 #[.slice A n c, .int .u16 (a : Int), .int .u16 (b : Int)] w fun e w' => e = .returned (.bool true) ∧ Below w.heap.size w w' := by
  have h1' := hid h1
  clear h1
  have h2' := hid h2
  clear h2
  have h3' := hid h3
  clear h3
  have h4' := hid h4
  clear h4
  have h5' := hid h5
  clear h5
  have h6' := hid h6
  clear h6
  have h7' := hid h7
  clear h7
  have h8' := hid h8
  clear h8
  have HB0 := hid (Below.refl w.heap.size w)
  go_enter Try.func4, Try.ntmps4
  go_wp2_with fail
  refine (events_any _).mono ?_
  rintro e w1 ⟨rfl, hb⟩
  have HB1 := hid (below_step HB0.out (Nat.le_refl _) hb)
  clear hb HB0 
  go_wp2_with fail
  refine (ratios_any _).mono ?_
  rintro e w2 ⟨rfl, hb⟩
  have HB2 := hid (below_step HB1.out (Nat.le_refl _) hb)
  clear hb HB1 
  go_wp2_with fail
  have HBN := hid (HB2.out)
  refine (h1'.out _ HBN.out).mono ?_
  rintro e w3 ⟨rfl, hb⟩
  have HB3 := hid (below_step HB2.out (Nat.le_refl _) hb)
  clear hb HB2 
  clear HBN
  go_wp2_with fail
  have HBN := hid (below_step HB3.out (Nat.le_refl _) (below_alloc w3 (.cells #[.int .i64 (P1), .int .i64 (Q1)] 26)))
  refine (h2'.out _ HBN.out).mono ?_
  rintro e w4 ⟨rfl, hb⟩
  have HB4 := hid (below_step (below_step HB3.out (Nat.le_refl _) (below_alloc w3 (.cells #[.int .i64 (P1), .int .i64 (Q1)] 26))) (Nat.le_refl _) hb)
  have R4_x := hid ((RatAt.new w3 26 (P1) (Q1)).keep hb)
  clear hb HB3 
  clear HBN
  go_wp2_with fail
  have HBN := hid (below_step HB4.out (Nat.le_refl _) (below_alloc w4 (.cells #[.int .i64 (P2), .int .i64 (Q2)] 26)))
  refine (h3'.out _ HBN.out).mono ?_
  rintro e w5 ⟨rfl, hb⟩
  have R5_x := hid (((R4_x.out).keep_alloc (.cells #[.int .i64 (P2), .int .i64 (Q2)] 26)).keep hb)
  have HB5 := hid (below_step (below_step HB4.out (Nat.le_refl _) (below_alloc w4 (.cells #[.int .i64 (P2), .int .i64 (Q2)] 26))) (Nat.le_refl _) hb)
  have R5_y := hid ((RatAt.new w4 26 (P2) (Q2)).keep hb)
  clear hb HB4 R4_x
  clear HBN
  go_wp2_with fail
  have HBN := hid (below_step HB5.out (Nat.le_refl _) (below_alloc w5 (.cells #[.int .i64 (P3), .int .i64 (Q3)] 26)))
  refine (h4'.out _ HBN.out).mono ?_
  rintro e w6 ⟨rfl, hb⟩
  have R6_x := hid (((R5_x.out).keep_alloc (.cells #[.int .i64 (P3), .int .i64 (Q3)] 26)).keep hb)
  have R6_y := hid (((R5_y.out).keep_alloc (.cells #[.int .i64 (P3), .int .i64 (Q3)] 26)).keep hb)
  have HB6 := hid (below_step (below_step HB5.out (Nat.le_refl _) (below_alloc w5 (.cells #[.int .i64 (P3), .int .i64 (Q3)] 26))) (Nat.le_refl _) hb)
  have R6_g := hid ((RatAt.new w5 26 (P3) (Q3)).keep hb)
  clear hb HB5 R5_x R5_y
  clear HBN
  go_wp2_with fail
  refine (good_bel1 _ _ _ _ 4 [0, 0, 0, 0] rfl rfl (by omega)).mono ?_
  rintro e w7 ⟨rfl, hb⟩
  rw [show allOK [0, 0, 0, 0] = true by decide]
  have R7_x := hid (((R6_x.out).keep_alloc (.cells #[.int .i64 (P4), .int .i64 (Q4)] 26)).keep hb)
  have R7_y := hid (((R6_y.out).keep_alloc (.cells #[.int .i64 (P4), .int .i64 (Q4)] 26)).keep hb)
  have R7_g := hid (((R6_g.out).keep_alloc (.cells #[.int .i64 (P4), .int .i64 (Q4)] 26)).keep hb)
  have HB7 := hid (below_step (below_step HB6.out (Nat.le_refl _) (below_alloc w6 (.cells #[.int .i64 (P4), .int .i64 (Q4)] 26))) (Nat.le_refl _) hb)
  have R7_h := hid ((RatAt.new w6 26 (P4) (Q4)).keep hb)
  clear hb HB6 R6_x R6_y R6_g
  go_wp2_with fail
  rw [h6'.out]
  have HBN := hid (HB7.out)
  refine (h5'.out _ HBN.out).mono ?_
  rintro e w8 ⟨rfl, hb⟩
  have R8_x := hid ((R7_x.out).keep hb)
  have R8_y := hid ((R7_y.out).keep hb)
  have R8_g := hid ((R7_g.out).keep hb)
  have R8_h := hid ((R7_h.out).keep hb)
  have HB8 := hid (below_step HB7.out (Nat.le_refl _) hb)
  clear hb HB7 R7_x R7_y R7_g R7_h
  have g0_g := R8_g.out.p0
  have g1_g := R8_g.out.p1
  have gl_g := R8_g.out.lt
  have g0_y := R8_y.out.p0
  have g1_y := R8_y.out.p1
  have gl_y := R8_y.out.lt
  clear HBN
  go_wp2_with fail
  refine (h7'.out _).mono ?_
  rintro e w9 ⟨rfl, hb⟩
  clear g0_g g1_g gl_g g0_y g1_y gl_y
  have R9_x := hid (((R8_x.out).keep_alloc (.cells #[.int .i64 (P5), .int .i64 (Q5)] 26)).keep hb)
  have R9_y := hid (((R8_y.out).keep_alloc (.cells #[.int .i64 (P5), .int .i64 (Q5)] 26)).keep hb)
  have R9_g := hid (((R8_g.out).keep_alloc (.cells #[.int .i64 (P5), .int .i64 (Q5)] 26)).keep hb)
  have R9_h := hid (((R8_h.out).keep_alloc (.cells #[.int .i64 (P5), .int .i64 (Q5)] 26)).keep hb)
  have HB9 := hid (below_step (below_step HB8.out (Nat.le_refl _) (below_alloc w8 (.cells #[.int .i64 (P5), .int .i64 (Q5)] 26))) (Nat.le_refl _) hb)
  have R9_z := hid ((RatAt.new w8 26 (P5) (Q5)).keep hb)
  clear hb HB8 R8_x R8_y R8_g R8_h
  have g0_h := R9_h.out.p0
  have g1_h := R9_h.out.p1
  have gl_h := R9_h.out.lt
  have g0_x := R9_x.out.p0
  have g1_x := R9_x.out.p1
  have gl_x := R9_x.out.lt
  go_wp2_with fail
  refine (h8'.out _).mono ?_
  rintro e w10 ⟨rfl, hb⟩
  clear g0_h g1_h gl_h g0_x g1_x gl_x
  have R10_x := hid (((R9_x.out).keep_alloc (.cells #[.int .i64 (P5), .int .i64 (Q5)] 26)).keep hb)
  have R10_y := hid (((R9_y.out).keep_alloc (.cells #[.int .i64 (P5), .int .i64 (Q5)] 26)).keep hb)
  have R10_g := hid (((R9_g.out).keep_alloc (.cells #[.int .i64 (P5), .int .i64 (Q5)] 26)).keep hb)
  have R10_h := hid (((R9_h.out).keep_alloc (.cells #[.int .i64 (P5), .int .i64 (Q5)] 26)).keep hb)
  have R10_z := hid (((R9_z.out).keep_alloc (.cells #[.int .i64 (P5), .int .i64 (Q5)] 26)).keep hb)
  have HB10 := hid (below_step (below_step HB9.out (Nat.le_refl _) (below_alloc w9 (.cells #[.int .i64 (P5), .int .i64 (Q5)] 26))) (Nat.le_refl _) hb)
  have R10_u := hid ((RatAt.new w9 26 (P5) (Q5)).keep hb)
  clear hb HB9 R9_x R9_y R9_g R9_h R9_z
  go_wp2_with fail
  refine (good_bel1 _ _ _ _ 3 [0, 0, 0] rfl rfl (by omega)).mono ?_
  rintro e w11 ⟨rfl, hb⟩
  rw [show allOK [0, 0, 0] = true by decide]
  have R11_x := hid (((R10_x.out).keep_alloc (.cells #[.int .i64 (P5), .int .i64 (Q5)] 26)).keep hb)
  have R11_y := hid (((R10_y.out).keep_alloc (.cells #[.int .i64 (P5), .int .i64 (Q5)] 26)).keep hb)
  have R11_g := hid (((R10_g.out).keep_alloc (.cells #[.int .i64 (P5), .int .i64 (Q5)] 26)).keep hb)
  have R11_h := hid (((R10_h.out).keep_alloc (.cells #[.int .i64 (P5), .int .i64 (Q5)] 26)).keep hb)
  have R11_z := hid (((R10_z.out).keep_alloc (.cells #[.int .i64 (P5), .int .i64 (Q5)] 26)).keep hb)
  have R11_u := hid (((R10_u.out).keep_alloc (.cells #[.int .i64 (P5), .int .i64 (Q5)] 26)).keep hb)
  have HB11 := hid (below_step (below_step HB10.out (Nat.le_refl _) (below_alloc w10 (.cells #[.int .i64 (P5), .int .i64 (Q5)] 26))) (Nat.le_refl _) hb)
  have R11_v := hid ((RatAt.new w10 26 (P5) (Q5)).keep hb)
  clear hb HB10 R10_x R10_y R10_g R10_h R10_z R10_u
  have g0_u := R11_u.out.p0
  have g1_u := R11_u.out.p1
  have gl_u := R11_u.out.lt
  have g0_v := R11_v.out.p0
  have g1_v := R11_v.out.p1
  have gl_v := R11_v.out.lt
  have g0_z := R11_z.out.p0
  have g1_z := R11_z.out.p1
  have gl_z := R11_z.out.lt
  clear h1' h2' h3' h4' h5' h6' h7' h8'
  go_wp2
  go_ret
  exact ⟨rfl, HB11.out⟩

set_option maxHeartbeats 1600000 in
theorem bayes_any (A : Option Addr) (n c : Nat) (ws : List Int) (a b : Nat) (w : World) (hI : Ints w A n ws) (ha : a < 65536) (hb : b < 65536) :
    Calls Try.prog 4 #[.slice A n c, .int .u16 (a : Int), .int .u16 (b : Int)] w fun e w' => e = .returned (.bool true) ∧ Below w.heap.size w w' := by
  have hl := hI.len
  subst hl
  by_cases hok : casesErr ws [a, b] = 0
  · obtain ⟨hS, hab⟩ := casesErr_zero hok
    have ha2 : a < 2 ^ ws.length := hab a (by simp)
    have hb2 : b < 2 ^ ws.length := hab b (by simp)
    by_cases ha0 : a = 0
    · have hz : casesErr ws [b, a] = 0 := casesErr_space hS (by simp; omega)
      by_cases hb0 : b = 0
      · refine bayes_no A _ c a b w _ _ 0 _ _ 0 0 0 5 0 0 5 (fun W hb => evChance_ok A _ c ws a W (hI.keep hb) hS (by omega)) (fun W hb => evChance_ok A _ c ws b W (hI.keep hb) hS (by omega)) ?_ ?_ (by decide) (.inr (.inr (.inl ⟨rfl, rfl, ha0⟩)))
        · intro W hw
          subst hb0
          exact evGiven_zero A _ c ws a W (hI.keep hw) ha hok
        · intro W hw
          subst ha0
          exact evGiven_zero A _ c ws b W (hI.keep hw) hb hz
      · refine bayes_no A _ c a b w _ _ 0 _ _ 0 _ _ 0 0 0 5 (fun W hb => evChance_ok A _ c ws a W (hI.keep hb) hS (by omega)) (fun W hb => evChance_ok A _ c ws b W (hI.keep hb) hS (by omega)) (fun W hw => evGiven_ok A _ c ws a b W (hI.keep hw) hS (by omega) (by omega) hb0) ?_ (by decide) (.inr (.inr (.inl ⟨rfl, rfl, ha0⟩)))
        intro W hw
        subst ha0
        exact evGiven_zero A _ c ws b W (hI.keep hw) hb hz
    · by_cases hb0 : b = 0
      · refine bayes_no A _ c a b w _ _ 0 _ _ 0 0 0 5 _ _ 0 (fun W hb => evChance_ok A _ c ws a W (hI.keep hb) hS (by omega)) (fun W hb => evChance_ok A _ c ws b W (hI.keep hb) hS (by omega)) ?_ (fun W hw => evGiven_ok A _ c ws b a W (hI.keep hw) hS (by omega) (by omega) ha0) (by decide) (.inr (.inr (.inr ⟨rfl, rfl, ha0, hb0⟩)))
        intro W hw
        subst hb0
        exact evGiven_zero A _ c ws a W (hI.keep hw) ha hok
      · have hp := wgt_pos hS.w ha2 ha0
        have hq := wgt_pos hS.w hb2 hb0
        have ht := hS.tot
        have e1 : gvR ws a b * chR ws b = chR ws (a &&& b) := divInt_chain _ _ _ (by omega)
        have e2 : gvR ws b a * chR ws a = chR ws (a &&& b) := by rw [Nat.and_comm a b]; exact divInt_chain _ _ _ (by omega)
        have f5 := (chR_bd hS (a &&& b)).fits (by omega) (by omega)
        refine bayes_yes A _ c a b w _ _ _ _ _ _ _ _ _ _ (fun W hb => evChance_ok A _ c ws a W (hI.keep hb) hS (by omega)) (fun W hb => evChance_ok A _ c ws b W (hI.keep hb) hS (by omega)) (fun W hw => evGiven_ok A _ c ws a b W (hI.keep hw) hS (by omega) (by omega) hb0) (fun W hw => evGiven_ok A _ c ws b a W (hI.keep hw) hS (by omega) (by omega) ha0)
          (fun W hb => evChance_ok A _ c ws (a &&& b) W (hI.keep hb) hS (and_lt ha2)) (u16_and_nat a b ha hb) (fun W => ?_) (fun W => ?_)
        · have k := mul_good ((gvR_bd hS a hb2 hb0).fits (by omega) (by omega)) ((chR_bd hS b).fits (by omega) (by omega)) (by rw [e1]; exact f5) W
          rw [e1] at k
          exact k
        · have k := mul_good ((gvR_bd hS b ha2 ha0).fits (by omega) (by omega)) ((chR_bd hS a).fits (by omega) (by omega)) (by rw [e2]; exact f5) W
          rw [e2] at k
          exact k
  · have hno : casesErr ws [b, a] ≠ 0 := by rw [casesErr_swap]; exact hok
    by_cases c1 : casesErr ws [a] = 0
    · by_cases c2 : casesErr ws [b] = 0
      · exact absurd (casesErr_two c1 c2) hok
      · obtain ⟨hS, hab⟩ := casesErr_zero c1
        have ha2 : a < 2 ^ ws.length := hab a (by simp)
        exact bayes_no A _ c a b w _ _ 0 _ _ _ _ _ _ _ _ _ (fun W hb => evChance_ok A _ c ws a W (hI.keep hb) hS (by omega)) (fun W hw => evChance_bad A _ c ws b W (hI.keep hw) hb c2) (fun W hw => evGiven_bad A _ c ws a b W (hI.keep hw) ha hb hok) (fun W hw => evGiven_bad A _ c ws b a W (hI.keep hw) hb ha hno) (allOK_ne (i := 2) (by simpa using hok)) (.inr (.inl ⟨rfl, c2⟩))
    · by_cases c2 : casesErr ws [b] = 0
      · obtain ⟨hS, hab⟩ := casesErr_zero c2
        have hb2 : b < 2 ^ ws.length := hab b (by simp)
        exact bayes_no A _ c a b w _ _ _ _ _ 0 _ _ _ _ _ _ (fun W hw => evChance_bad A _ c ws a W (hI.keep hw) ha c1) (fun W hw => evChance_ok A _ c ws b W (hI.keep hw) hS (by omega)) (fun W hw => evGiven_bad A _ c ws a b W (hI.keep hw) ha hb hok) (fun W hw => evGiven_bad A _ c ws b a W (hI.keep hw) hb ha hno) (allOK_ne (i := 2) (by simpa using hok)) (.inl c1)
      · exact bayes_no A _ c a b w _ _ _ _ _ _ _ _ _ _ _ _ (fun W hw => evChance_bad A _ c ws a W (hI.keep hw) ha c1) (fun W hw => evChance_bad A _ c ws b W (hI.keep hw) hb c2) (fun W hw => evGiven_bad A _ c ws a b W (hI.keep hw) ha hb hok) (fun W hw => evGiven_bad A _ c ws b a W (hI.keep hw) hb ha hno) (allOK_ne (i := 2) (by simpa using hok)) (.inl c1)
end Go.Proofs.Ytlepgeipcofapaa
