/-
  castkeep.RatioOrder, walked.
-/
import Derived.Test.YtcnljljgdkjndaaRatI
namespace Go.Proofs.Ytcnljljgdkjndaa
open Go.RowKit

theorem third_half (W : World) : Calls Try.prog 14 #[.agg #[.int .i64 1, .int .i64 3], .agg #[.int .i64 1, .int .i64 2]] W (RetB W true 0) := by
  have h := rless_of (P := 1) (Q := 3) (P' := 1) (Q' := 2) (Rat.divInt 1 3) (Rat.divInt 1 2) (by decide +kernel) (by decide +kernel) (by decide +kernel) (by decide +kernel) W (by decide +kernel) (by decide +kernel)
  rwa [show decide (Rat.divInt 1 3 < Rat.divInt 1 2) = true by decide +kernel] at h

set_option maxHeartbeats 2000000 in
set_option maxRecDepth 100000 in
theorem ratioOrder_xy (P1 Q1 P2 Q2 P3 Q3 : Int) (c d : Bool) (e1 e2 e3 e4 : Int) (he : e1 ≠ 0) (h1 : (∀ W, Calls Try.prog 14 #[.agg #[.int .i64 P1, .int .i64 Q1], .agg #[.int .i64 P2, .int .i64 Q2]] W (RetB W false e1))) (h2 : (∀ W, Calls Try.prog 14 #[.agg #[.int .i64 P2, .int .i64 Q2], .agg #[.int .i64 P1, .int .i64 Q1]] W (RetB W false e2))) (h3 : (∀ W, Calls Try.prog 14 #[.agg #[.int .i64 P2, .int .i64 Q2], .agg #[.int .i64 P3, .int .i64 Q3]] W (RetB W c e3))) (h4 : (∀ W, Calls Try.prog 14 #[.agg #[.int .i64 P1, .int .i64 Q1], .agg #[.int .i64 P3, .int .i64 Q3]] W (RetB W d e4))) (w : World) :
    Calls Try.prog 6 #[.agg #[.int .i64 P1, .int .i64 Q1], .agg #[.int .i64 P2, .int .i64 Q2], .agg #[.int .i64 P3, .int .i64 Q3]] w fun e w' => e = .returned (.bool true) ∧ Below w.heap.size w w' := by
  have hg : Hid (allOK [e1, e2, e3, e4] = false) := by
    show _ = _
    have h : (e1 == 0) = false := by simpa using he
    simp [allOK, h]
  clear he
  have h1' := hid h1
  clear h1
  have h2' := hid h2
  clear h2
  have h3' := hid h3
  clear h3
  have h4' := hid h4
  clear h4
  have HB0 := hid (Below.refl w.heap.size w)
  have R0_x : Hid (RatAt (((w.alloc (.cells #[.int .i64 P1, .int .i64 Q1] 23)).alloc (.cells #[.int .i64 P2, .int .i64 Q2] 23)).alloc (.cells #[.int .i64 P3, .int .i64 Q3] 23)) w.heap.size (P1) (Q1)) := ((RatAt.new w 23 (P1) (Q1)).keep_alloc (.cells #[.int .i64 (P2), .int .i64 (Q2)] 23)).keep_alloc (.cells #[.int .i64 (P3), .int .i64 (Q3)] 23)
  have R0_y : Hid (RatAt (((w.alloc (.cells #[.int .i64 P1, .int .i64 Q1] 23)).alloc (.cells #[.int .i64 P2, .int .i64 Q2] 23)).alloc (.cells #[.int .i64 P3, .int .i64 Q3] 23)) (w.heap.size + 1) (P2) (Q2)) := (rat_second w _ 23 (P2) (Q2)).keep_alloc (.cells #[.int .i64 (P3), .int .i64 (Q3)] 23)
  have R0_z : Hid (RatAt (((w.alloc (.cells #[.int .i64 P1, .int .i64 Q1] 23)).alloc (.cells #[.int .i64 P2, .int .i64 Q2] 23)).alloc (.cells #[.int .i64 P3, .int .i64 Q3] 23)) (w.heap.size + 2) (P3) (Q3)) := rat_third w _ _ 23 (P3) (Q3)
  have HBx : Hid (Below w.heap.size w (((w.alloc (.cells #[.int .i64 P1, .int .i64 Q1] 23)).alloc (.cells #[.int .i64 P2, .int .i64 Q2] 23)).alloc (.cells #[.int .i64 P3, .int .i64 Q3] 23))) := three_alloc w _ _ _
  clear HB0
  have HB0 := HBx
  clear HBx
  go_enter Try.func6, Try.ntmps6
  go_wp2_with fail
  refine (third_half _).mono ?_
  rintro e w1 ⟨rfl, hb⟩
  have R1_x := hid ((R0_x.out).keep hb)
  have R1_y := hid ((R0_y.out).keep hb)
  have R1_z := hid ((R0_z.out).keep hb)
  have HB1 := hid (below_step HB0.out (Nat.le_refl _) hb)
  clear hb HB0 R0_x R0_y R0_z
  have g0_x := R1_x.out.p0
  have g1_x := R1_x.out.p1
  have gl_x := R1_x.out.lt
  have g0_y := R1_y.out.p0
  have g1_y := R1_y.out.p1
  have gl_y := R1_y.out.lt
  have g0_z := R1_z.out.p0
  have g1_z := R1_z.out.p1
  have gl_z := R1_z.out.lt
  go_wp2_with fail
  refine (ratios_any _).mono ?_
  rintro e w2 ⟨rfl, hb⟩
  clear g0_x g1_x gl_x g0_y g1_y gl_y g0_z g1_z gl_z
  have R2_x := hid ((R1_x.out).keep hb)
  have R2_y := hid ((R1_y.out).keep hb)
  have R2_z := hid ((R1_z.out).keep hb)
  have HB2 := hid (below_step HB1.out (Nat.le_refl _) hb)
  clear hb HB1 R1_x R1_y R1_z
  have g0_x := R2_x.out.p0
  have g1_x := R2_x.out.p1
  have gl_x := R2_x.out.lt
  have g0_y := R2_y.out.p0
  have g1_y := R2_y.out.p1
  have gl_y := R2_y.out.lt
  have g0_z := R2_z.out.p0
  have g1_z := R2_z.out.p1
  have gl_z := R2_z.out.lt
  go_wp2_with fail
  refine (h1'.out _).mono ?_
  rintro e w3 ⟨rfl, hb⟩
  clear g0_x g1_x gl_x g0_y g1_y gl_y g0_z g1_z gl_z
  have R3_x := hid ((R2_x.out).keep hb)
  have R3_y := hid ((R2_y.out).keep hb)
  have R3_z := hid ((R2_z.out).keep hb)
  have HB3 := hid (below_step HB2.out (Nat.le_refl _) hb)
  clear hb HB2 R2_x R2_y R2_z
  have g0_x := R3_x.out.p0
  have g1_x := R3_x.out.p1
  have gl_x := R3_x.out.lt
  have g0_y := R3_y.out.p0
  have g1_y := R3_y.out.p1
  have gl_y := R3_y.out.lt
  have g0_z := R3_z.out.p0
  have g1_z := R3_z.out.p1
  have gl_z := R3_z.out.lt
  go_wp2_with fail
  refine (h2'.out _).mono ?_
  rintro e w4 ⟨rfl, hb⟩
  clear g0_x g1_x gl_x g0_y g1_y gl_y g0_z g1_z gl_z
  have R4_x := hid ((R3_x.out).keep hb)
  have R4_y := hid ((R3_y.out).keep hb)
  have R4_z := hid ((R3_z.out).keep hb)
  have HB4 := hid (below_step HB3.out (Nat.le_refl _) hb)
  clear hb HB3 R3_x R3_y R3_z
  have g0_x := R4_x.out.p0
  have g1_x := R4_x.out.p1
  have gl_x := R4_x.out.lt
  have g0_y := R4_y.out.p0
  have g1_y := R4_y.out.p1
  have gl_y := R4_y.out.lt
  have g0_z := R4_z.out.p0
  have g1_z := R4_z.out.p1
  have gl_z := R4_z.out.lt
  go_wp2_with fail
  refine (h3'.out _).mono ?_
  rintro e w5 ⟨rfl, hb⟩
  clear g0_x g1_x gl_x g0_y g1_y gl_y g0_z g1_z gl_z
  have R5_x := hid ((R4_x.out).keep hb)
  have R5_y := hid ((R4_y.out).keep hb)
  have R5_z := hid ((R4_z.out).keep hb)
  have HB5 := hid (below_step HB4.out (Nat.le_refl _) hb)
  clear hb HB4 R4_x R4_y R4_z
  have g0_x := R5_x.out.p0
  have g1_x := R5_x.out.p1
  have gl_x := R5_x.out.lt
  have g0_y := R5_y.out.p0
  have g1_y := R5_y.out.p1
  have gl_y := R5_y.out.lt
  have g0_z := R5_z.out.p0
  have g1_z := R5_z.out.p1
  have gl_z := R5_z.out.lt
  go_wp2_with fail
  refine (h4'.out _).mono ?_
  rintro e w6 ⟨rfl, hb⟩
  clear g0_x g1_x gl_x g0_y g1_y gl_y g0_z g1_z gl_z
  have R6_x := hid ((R5_x.out).keep hb)
  have R6_y := hid ((R5_y.out).keep hb)
  have R6_z := hid ((R5_z.out).keep hb)
  have HB6 := hid (below_step HB5.out (Nat.le_refl _) hb)
  clear hb HB5 R5_x R5_y R5_z
  have g0_x := R6_x.out.p0
  have g1_x := R6_x.out.p1
  have gl_x := R6_x.out.lt
  have g0_y := R6_y.out.p0
  have g1_y := R6_y.out.p1
  have gl_y := R6_y.out.lt
  have g0_z := R6_z.out.p0
  have g1_z := R6_z.out.p1
  have gl_z := R6_z.out.lt
  go_wp2_with fail
  refine (good_bel _ _ _ 4 [e1, e2, e3, e4] rfl rfl (by omega)).mono ?_
  rintro e w7 ⟨rfl, hb⟩
  clear g0_x g1_x gl_x g0_y g1_y gl_y g0_z g1_z gl_z
  rw [hg.out]
  have R7_x := hid ((R6_x.out).keep hb)
  have R7_y := hid ((R6_y.out).keep hb)
  have R7_z := hid ((R6_z.out).keep hb)
  have HB7 := hid (below_step HB6.out (Nat.le_refl _) hb)
  clear hb HB6 R6_x R6_y R6_z
  have g0_x := R7_x.out.p0
  have g1_x := R7_x.out.p1
  have gl_x := R7_x.out.lt
  have g0_y := R7_y.out.p0
  have g1_y := R7_y.out.p1
  have gl_y := R7_y.out.lt
  have g0_z := R7_z.out.p0
  have g1_z := R7_z.out.p1
  have gl_z := R7_z.out.lt
  go_wp2
  go_ret
  exact ⟨rfl, HB7.out⟩

set_option maxHeartbeats 2000000 in
set_option maxRecDepth 100000 in
theorem ratioOrder_z_true_true (P1 Q1 P2 Q2 P3 Q3 : Int) (c d : Bool) (e3 e4 : Int) (he : e3 ≠ 0) (h1 : (∀ W, Calls Try.prog 14 #[.agg #[.int .i64 P1, .int .i64 Q1], .agg #[.int .i64 P2, .int .i64 Q2]] W (RetB W true 0))) (h2 : (∀ W, Calls Try.prog 14 #[.agg #[.int .i64 P2, .int .i64 Q2], .agg #[.int .i64 P1, .int .i64 Q1]] W (RetB W true 0))) (h3 : (∀ W, Calls Try.prog 14 #[.agg #[.int .i64 P2, .int .i64 Q2], .agg #[.int .i64 P3, .int .i64 Q3]] W (RetB W c e3))) (h4 : (∀ W, Calls Try.prog 14 #[.agg #[.int .i64 P1, .int .i64 Q1], .agg #[.int .i64 P3, .int .i64 Q3]] W (RetB W d e4))) (w : World) :
    Calls Try.prog 6 #[.agg #[.int .i64 P1, .int .i64 Q1], .agg #[.int .i64 P2, .int .i64 Q2], .agg #[.int .i64 P3, .int .i64 Q3]] w fun e w' => e = .returned (.bool true) ∧ Below w.heap.size w w' := by
  have hg : Hid (allOK [0, 0, e3, e4] = false) := by
    show _ = _
    have h : (e3 == 0) = false := by simpa using he
    simp [allOK, h]
  clear he
  have h1' := hid h1
  clear h1
  have h2' := hid h2
  clear h2
  have h3' := hid h3
  clear h3
  have h4' := hid h4
  clear h4
  have HB0 := hid (Below.refl w.heap.size w)
  have R0_x : Hid (RatAt (((w.alloc (.cells #[.int .i64 P1, .int .i64 Q1] 23)).alloc (.cells #[.int .i64 P2, .int .i64 Q2] 23)).alloc (.cells #[.int .i64 P3, .int .i64 Q3] 23)) w.heap.size (P1) (Q1)) := ((RatAt.new w 23 (P1) (Q1)).keep_alloc (.cells #[.int .i64 (P2), .int .i64 (Q2)] 23)).keep_alloc (.cells #[.int .i64 (P3), .int .i64 (Q3)] 23)
  have R0_y : Hid (RatAt (((w.alloc (.cells #[.int .i64 P1, .int .i64 Q1] 23)).alloc (.cells #[.int .i64 P2, .int .i64 Q2] 23)).alloc (.cells #[.int .i64 P3, .int .i64 Q3] 23)) (w.heap.size + 1) (P2) (Q2)) := (rat_second w _ 23 (P2) (Q2)).keep_alloc (.cells #[.int .i64 (P3), .int .i64 (Q3)] 23)
  have R0_z : Hid (RatAt (((w.alloc (.cells #[.int .i64 P1, .int .i64 Q1] 23)).alloc (.cells #[.int .i64 P2, .int .i64 Q2] 23)).alloc (.cells #[.int .i64 P3, .int .i64 Q3] 23)) (w.heap.size + 2) (P3) (Q3)) := rat_third w _ _ 23 (P3) (Q3)
  have HBx : Hid (Below w.heap.size w (((w.alloc (.cells #[.int .i64 P1, .int .i64 Q1] 23)).alloc (.cells #[.int .i64 P2, .int .i64 Q2] 23)).alloc (.cells #[.int .i64 P3, .int .i64 Q3] 23))) := three_alloc w _ _ _
  clear HB0
  have HB0 := HBx
  clear HBx
  go_enter Try.func6, Try.ntmps6
  go_wp2_with fail
  refine (third_half _).mono ?_
  rintro e w1 ⟨rfl, hb⟩
  have R1_x := hid ((R0_x.out).keep hb)
  have R1_y := hid ((R0_y.out).keep hb)
  have R1_z := hid ((R0_z.out).keep hb)
  have HB1 := hid (below_step HB0.out (Nat.le_refl _) hb)
  clear hb HB0 R0_x R0_y R0_z
  have g0_x := R1_x.out.p0
  have g1_x := R1_x.out.p1
  have gl_x := R1_x.out.lt
  have g0_y := R1_y.out.p0
  have g1_y := R1_y.out.p1
  have gl_y := R1_y.out.lt
  have g0_z := R1_z.out.p0
  have g1_z := R1_z.out.p1
  have gl_z := R1_z.out.lt
  go_wp2_with fail
  refine (ratios_any _).mono ?_
  rintro e w2 ⟨rfl, hb⟩
  clear g0_x g1_x gl_x g0_y g1_y gl_y g0_z g1_z gl_z
  have R2_x := hid ((R1_x.out).keep hb)
  have R2_y := hid ((R1_y.out).keep hb)
  have R2_z := hid ((R1_z.out).keep hb)
  have HB2 := hid (below_step HB1.out (Nat.le_refl _) hb)
  clear hb HB1 R1_x R1_y R1_z
  have g0_x := R2_x.out.p0
  have g1_x := R2_x.out.p1
  have gl_x := R2_x.out.lt
  have g0_y := R2_y.out.p0
  have g1_y := R2_y.out.p1
  have gl_y := R2_y.out.lt
  have g0_z := R2_z.out.p0
  have g1_z := R2_z.out.p1
  have gl_z := R2_z.out.lt
  go_wp2_with fail
  refine (h1'.out _).mono ?_
  rintro e w3 ⟨rfl, hb⟩
  clear g0_x g1_x gl_x g0_y g1_y gl_y g0_z g1_z gl_z
  have R3_x := hid ((R2_x.out).keep hb)
  have R3_y := hid ((R2_y.out).keep hb)
  have R3_z := hid ((R2_z.out).keep hb)
  have HB3 := hid (below_step HB2.out (Nat.le_refl _) hb)
  clear hb HB2 R2_x R2_y R2_z
  have g0_x := R3_x.out.p0
  have g1_x := R3_x.out.p1
  have gl_x := R3_x.out.lt
  have g0_y := R3_y.out.p0
  have g1_y := R3_y.out.p1
  have gl_y := R3_y.out.lt
  have g0_z := R3_z.out.p0
  have g1_z := R3_z.out.p1
  have gl_z := R3_z.out.lt
  go_wp2_with fail
  refine (h2'.out _).mono ?_
  rintro e w4 ⟨rfl, hb⟩
  clear g0_x g1_x gl_x g0_y g1_y gl_y g0_z g1_z gl_z
  have R4_x := hid ((R3_x.out).keep hb)
  have R4_y := hid ((R3_y.out).keep hb)
  have R4_z := hid ((R3_z.out).keep hb)
  have HB4 := hid (below_step HB3.out (Nat.le_refl _) hb)
  clear hb HB3 R3_x R3_y R3_z
  have g0_x := R4_x.out.p0
  have g1_x := R4_x.out.p1
  have gl_x := R4_x.out.lt
  have g0_y := R4_y.out.p0
  have g1_y := R4_y.out.p1
  have gl_y := R4_y.out.lt
  have g0_z := R4_z.out.p0
  have g1_z := R4_z.out.p1
  have gl_z := R4_z.out.lt
  go_wp2_with fail
  refine (h3'.out _).mono ?_
  rintro e w5 ⟨rfl, hb⟩
  clear g0_x g1_x gl_x g0_y g1_y gl_y g0_z g1_z gl_z
  have R5_x := hid ((R4_x.out).keep hb)
  have R5_y := hid ((R4_y.out).keep hb)
  have R5_z := hid ((R4_z.out).keep hb)
  have HB5 := hid (below_step HB4.out (Nat.le_refl _) hb)
  clear hb HB4 R4_x R4_y R4_z
  have g0_x := R5_x.out.p0
  have g1_x := R5_x.out.p1
  have gl_x := R5_x.out.lt
  have g0_y := R5_y.out.p0
  have g1_y := R5_y.out.p1
  have gl_y := R5_y.out.lt
  have g0_z := R5_z.out.p0
  have g1_z := R5_z.out.p1
  have gl_z := R5_z.out.lt
  go_wp2_with fail
  refine (h4'.out _).mono ?_
  rintro e w6 ⟨rfl, hb⟩
  clear g0_x g1_x gl_x g0_y g1_y gl_y g0_z g1_z gl_z
  have R6_x := hid ((R5_x.out).keep hb)
  have R6_y := hid ((R5_y.out).keep hb)
  have R6_z := hid ((R5_z.out).keep hb)
  have HB6 := hid (below_step HB5.out (Nat.le_refl _) hb)
  clear hb HB5 R5_x R5_y R5_z
  have g0_x := R6_x.out.p0
  have g1_x := R6_x.out.p1
  have gl_x := R6_x.out.lt
  have g0_y := R6_y.out.p0
  have g1_y := R6_y.out.p1
  have gl_y := R6_y.out.lt
  have g0_z := R6_z.out.p0
  have g1_z := R6_z.out.p1
  have gl_z := R6_z.out.lt
  go_wp2_with fail
  refine (good_bel _ _ _ 4 [0, 0, e3, e4] rfl rfl (by omega)).mono ?_
  rintro e w7 ⟨rfl, hb⟩
  clear g0_x g1_x gl_x g0_y g1_y gl_y g0_z g1_z gl_z
  rw [hg.out]
  have R7_x := hid ((R6_x.out).keep hb)
  have R7_y := hid ((R6_y.out).keep hb)
  have R7_z := hid ((R6_z.out).keep hb)
  have HB7 := hid (below_step HB6.out (Nat.le_refl _) hb)
  clear hb HB6 R6_x R6_y R6_z
  have g0_x := R7_x.out.p0
  have g1_x := R7_x.out.p1
  have gl_x := R7_x.out.lt
  have g0_y := R7_y.out.p0
  have g1_y := R7_y.out.p1
  have gl_y := R7_y.out.lt
  have g0_z := R7_z.out.p0
  have g1_z := R7_z.out.p1
  have gl_z := R7_z.out.lt
  go_wp2
  go_ret
  exact ⟨rfl, HB7.out⟩

set_option maxHeartbeats 2000000 in
set_option maxRecDepth 100000 in
theorem ratioOrder_z_true_false (P1 Q1 P2 Q2 P3 Q3 : Int) (c d : Bool) (e3 e4 : Int) (he : e3 ≠ 0) (h1 : (∀ W, Calls Try.prog 14 #[.agg #[.int .i64 P1, .int .i64 Q1], .agg #[.int .i64 P2, .int .i64 Q2]] W (RetB W true 0))) (h2 : (∀ W, Calls Try.prog 14 #[.agg #[.int .i64 P2, .int .i64 Q2], .agg #[.int .i64 P1, .int .i64 Q1]] W (RetB W false 0))) (h3 : (∀ W, Calls Try.prog 14 #[.agg #[.int .i64 P2, .int .i64 Q2], .agg #[.int .i64 P3, .int .i64 Q3]] W (RetB W c e3))) (h4 : (∀ W, Calls Try.prog 14 #[.agg #[.int .i64 P1, .int .i64 Q1], .agg #[.int .i64 P3, .int .i64 Q3]] W (RetB W d e4))) (w : World) :
    Calls Try.prog 6 #[.agg #[.int .i64 P1, .int .i64 Q1], .agg #[.int .i64 P2, .int .i64 Q2], .agg #[.int .i64 P3, .int .i64 Q3]] w fun e w' => e = .returned (.bool true) ∧ Below w.heap.size w w' := by
  have hg : Hid (allOK [0, 0, e3, e4] = false) := by
    show _ = _
    have h : (e3 == 0) = false := by simpa using he
    simp [allOK, h]
  clear he
  have h1' := hid h1
  clear h1
  have h2' := hid h2
  clear h2
  have h3' := hid h3
  clear h3
  have h4' := hid h4
  clear h4
  have HB0 := hid (Below.refl w.heap.size w)
  have R0_x : Hid (RatAt (((w.alloc (.cells #[.int .i64 P1, .int .i64 Q1] 23)).alloc (.cells #[.int .i64 P2, .int .i64 Q2] 23)).alloc (.cells #[.int .i64 P3, .int .i64 Q3] 23)) w.heap.size (P1) (Q1)) := ((RatAt.new w 23 (P1) (Q1)).keep_alloc (.cells #[.int .i64 (P2), .int .i64 (Q2)] 23)).keep_alloc (.cells #[.int .i64 (P3), .int .i64 (Q3)] 23)
  have R0_y : Hid (RatAt (((w.alloc (.cells #[.int .i64 P1, .int .i64 Q1] 23)).alloc (.cells #[.int .i64 P2, .int .i64 Q2] 23)).alloc (.cells #[.int .i64 P3, .int .i64 Q3] 23)) (w.heap.size + 1) (P2) (Q2)) := (rat_second w _ 23 (P2) (Q2)).keep_alloc (.cells #[.int .i64 (P3), .int .i64 (Q3)] 23)
  have R0_z : Hid (RatAt (((w.alloc (.cells #[.int .i64 P1, .int .i64 Q1] 23)).alloc (.cells #[.int .i64 P2, .int .i64 Q2] 23)).alloc (.cells #[.int .i64 P3, .int .i64 Q3] 23)) (w.heap.size + 2) (P3) (Q3)) := rat_third w _ _ 23 (P3) (Q3)
  have HBx : Hid (Below w.heap.size w (((w.alloc (.cells #[.int .i64 P1, .int .i64 Q1] 23)).alloc (.cells #[.int .i64 P2, .int .i64 Q2] 23)).alloc (.cells #[.int .i64 P3, .int .i64 Q3] 23))) := three_alloc w _ _ _
  clear HB0
  have HB0 := HBx
  clear HBx
  go_enter Try.func6, Try.ntmps6
  go_wp2_with fail
  refine (third_half _).mono ?_
  rintro e w1 ⟨rfl, hb⟩
  have R1_x := hid ((R0_x.out).keep hb)
  have R1_y := hid ((R0_y.out).keep hb)
  have R1_z := hid ((R0_z.out).keep hb)
  have HB1 := hid (below_step HB0.out (Nat.le_refl _) hb)
  clear hb HB0 R0_x R0_y R0_z
  have g0_x := R1_x.out.p0
  have g1_x := R1_x.out.p1
  have gl_x := R1_x.out.lt
  have g0_y := R1_y.out.p0
  have g1_y := R1_y.out.p1
  have gl_y := R1_y.out.lt
  have g0_z := R1_z.out.p0
  have g1_z := R1_z.out.p1
  have gl_z := R1_z.out.lt
  go_wp2_with fail
  refine (ratios_any _).mono ?_
  rintro e w2 ⟨rfl, hb⟩
  clear g0_x g1_x gl_x g0_y g1_y gl_y g0_z g1_z gl_z
  have R2_x := hid ((R1_x.out).keep hb)
  have R2_y := hid ((R1_y.out).keep hb)
  have R2_z := hid ((R1_z.out).keep hb)
  have HB2 := hid (below_step HB1.out (Nat.le_refl _) hb)
  clear hb HB1 R1_x R1_y R1_z
  have g0_x := R2_x.out.p0
  have g1_x := R2_x.out.p1
  have gl_x := R2_x.out.lt
  have g0_y := R2_y.out.p0
  have g1_y := R2_y.out.p1
  have gl_y := R2_y.out.lt
  have g0_z := R2_z.out.p0
  have g1_z := R2_z.out.p1
  have gl_z := R2_z.out.lt
  go_wp2_with fail
  refine (h1'.out _).mono ?_
  rintro e w3 ⟨rfl, hb⟩
  clear g0_x g1_x gl_x g0_y g1_y gl_y g0_z g1_z gl_z
  have R3_x := hid ((R2_x.out).keep hb)
  have R3_y := hid ((R2_y.out).keep hb)
  have R3_z := hid ((R2_z.out).keep hb)
  have HB3 := hid (below_step HB2.out (Nat.le_refl _) hb)
  clear hb HB2 R2_x R2_y R2_z
  have g0_x := R3_x.out.p0
  have g1_x := R3_x.out.p1
  have gl_x := R3_x.out.lt
  have g0_y := R3_y.out.p0
  have g1_y := R3_y.out.p1
  have gl_y := R3_y.out.lt
  have g0_z := R3_z.out.p0
  have g1_z := R3_z.out.p1
  have gl_z := R3_z.out.lt
  go_wp2_with fail
  refine (h2'.out _).mono ?_
  rintro e w4 ⟨rfl, hb⟩
  clear g0_x g1_x gl_x g0_y g1_y gl_y g0_z g1_z gl_z
  have R4_x := hid ((R3_x.out).keep hb)
  have R4_y := hid ((R3_y.out).keep hb)
  have R4_z := hid ((R3_z.out).keep hb)
  have HB4 := hid (below_step HB3.out (Nat.le_refl _) hb)
  clear hb HB3 R3_x R3_y R3_z
  have g0_x := R4_x.out.p0
  have g1_x := R4_x.out.p1
  have gl_x := R4_x.out.lt
  have g0_y := R4_y.out.p0
  have g1_y := R4_y.out.p1
  have gl_y := R4_y.out.lt
  have g0_z := R4_z.out.p0
  have g1_z := R4_z.out.p1
  have gl_z := R4_z.out.lt
  go_wp2_with fail
  refine (h3'.out _).mono ?_
  rintro e w5 ⟨rfl, hb⟩
  clear g0_x g1_x gl_x g0_y g1_y gl_y g0_z g1_z gl_z
  have R5_x := hid ((R4_x.out).keep hb)
  have R5_y := hid ((R4_y.out).keep hb)
  have R5_z := hid ((R4_z.out).keep hb)
  have HB5 := hid (below_step HB4.out (Nat.le_refl _) hb)
  clear hb HB4 R4_x R4_y R4_z
  have g0_x := R5_x.out.p0
  have g1_x := R5_x.out.p1
  have gl_x := R5_x.out.lt
  have g0_y := R5_y.out.p0
  have g1_y := R5_y.out.p1
  have gl_y := R5_y.out.lt
  have g0_z := R5_z.out.p0
  have g1_z := R5_z.out.p1
  have gl_z := R5_z.out.lt
  go_wp2_with fail
  refine (h4'.out _).mono ?_
  rintro e w6 ⟨rfl, hb⟩
  clear g0_x g1_x gl_x g0_y g1_y gl_y g0_z g1_z gl_z
  have R6_x := hid ((R5_x.out).keep hb)
  have R6_y := hid ((R5_y.out).keep hb)
  have R6_z := hid ((R5_z.out).keep hb)
  have HB6 := hid (below_step HB5.out (Nat.le_refl _) hb)
  clear hb HB5 R5_x R5_y R5_z
  have g0_x := R6_x.out.p0
  have g1_x := R6_x.out.p1
  have gl_x := R6_x.out.lt
  have g0_y := R6_y.out.p0
  have g1_y := R6_y.out.p1
  have gl_y := R6_y.out.lt
  have g0_z := R6_z.out.p0
  have g1_z := R6_z.out.p1
  have gl_z := R6_z.out.lt
  go_wp2_with fail
  refine (good_bel _ _ _ 4 [0, 0, e3, e4] rfl rfl (by omega)).mono ?_
  rintro e w7 ⟨rfl, hb⟩
  clear g0_x g1_x gl_x g0_y g1_y gl_y g0_z g1_z gl_z
  rw [hg.out]
  have R7_x := hid ((R6_x.out).keep hb)
  have R7_y := hid ((R6_y.out).keep hb)
  have R7_z := hid ((R6_z.out).keep hb)
  have HB7 := hid (below_step HB6.out (Nat.le_refl _) hb)
  clear hb HB6 R6_x R6_y R6_z
  have g0_x := R7_x.out.p0
  have g1_x := R7_x.out.p1
  have gl_x := R7_x.out.lt
  have g0_y := R7_y.out.p0
  have g1_y := R7_y.out.p1
  have gl_y := R7_y.out.lt
  have g0_z := R7_z.out.p0
  have g1_z := R7_z.out.p1
  have gl_z := R7_z.out.lt
  go_wp2
  go_ret
  exact ⟨rfl, HB7.out⟩

set_option maxHeartbeats 2000000 in
set_option maxRecDepth 100000 in
theorem ratioOrder_z_false_true (P1 Q1 P2 Q2 P3 Q3 : Int) (c d : Bool) (e3 e4 : Int) (he : e3 ≠ 0) (h1 : (∀ W, Calls Try.prog 14 #[.agg #[.int .i64 P1, .int .i64 Q1], .agg #[.int .i64 P2, .int .i64 Q2]] W (RetB W false 0))) (h2 : (∀ W, Calls Try.prog 14 #[.agg #[.int .i64 P2, .int .i64 Q2], .agg #[.int .i64 P1, .int .i64 Q1]] W (RetB W true 0))) (h3 : (∀ W, Calls Try.prog 14 #[.agg #[.int .i64 P2, .int .i64 Q2], .agg #[.int .i64 P3, .int .i64 Q3]] W (RetB W c e3))) (h4 : (∀ W, Calls Try.prog 14 #[.agg #[.int .i64 P1, .int .i64 Q1], .agg #[.int .i64 P3, .int .i64 Q3]] W (RetB W d e4))) (w : World) :
    Calls Try.prog 6 #[.agg #[.int .i64 P1, .int .i64 Q1], .agg #[.int .i64 P2, .int .i64 Q2], .agg #[.int .i64 P3, .int .i64 Q3]] w fun e w' => e = .returned (.bool true) ∧ Below w.heap.size w w' := by
  have hg : Hid (allOK [0, 0, e3, e4] = false) := by
    show _ = _
    have h : (e3 == 0) = false := by simpa using he
    simp [allOK, h]
  clear he
  have h1' := hid h1
  clear h1
  have h2' := hid h2
  clear h2
  have h3' := hid h3
  clear h3
  have h4' := hid h4
  clear h4
  have HB0 := hid (Below.refl w.heap.size w)
  have R0_x : Hid (RatAt (((w.alloc (.cells #[.int .i64 P1, .int .i64 Q1] 23)).alloc (.cells #[.int .i64 P2, .int .i64 Q2] 23)).alloc (.cells #[.int .i64 P3, .int .i64 Q3] 23)) w.heap.size (P1) (Q1)) := ((RatAt.new w 23 (P1) (Q1)).keep_alloc (.cells #[.int .i64 (P2), .int .i64 (Q2)] 23)).keep_alloc (.cells #[.int .i64 (P3), .int .i64 (Q3)] 23)
  have R0_y : Hid (RatAt (((w.alloc (.cells #[.int .i64 P1, .int .i64 Q1] 23)).alloc (.cells #[.int .i64 P2, .int .i64 Q2] 23)).alloc (.cells #[.int .i64 P3, .int .i64 Q3] 23)) (w.heap.size + 1) (P2) (Q2)) := (rat_second w _ 23 (P2) (Q2)).keep_alloc (.cells #[.int .i64 (P3), .int .i64 (Q3)] 23)
  have R0_z : Hid (RatAt (((w.alloc (.cells #[.int .i64 P1, .int .i64 Q1] 23)).alloc (.cells #[.int .i64 P2, .int .i64 Q2] 23)).alloc (.cells #[.int .i64 P3, .int .i64 Q3] 23)) (w.heap.size + 2) (P3) (Q3)) := rat_third w _ _ 23 (P3) (Q3)
  have HBx : Hid (Below w.heap.size w (((w.alloc (.cells #[.int .i64 P1, .int .i64 Q1] 23)).alloc (.cells #[.int .i64 P2, .int .i64 Q2] 23)).alloc (.cells #[.int .i64 P3, .int .i64 Q3] 23))) := three_alloc w _ _ _
  clear HB0
  have HB0 := HBx
  clear HBx
  go_enter Try.func6, Try.ntmps6
  go_wp2_with fail
  refine (third_half _).mono ?_
  rintro e w1 ⟨rfl, hb⟩
  have R1_x := hid ((R0_x.out).keep hb)
  have R1_y := hid ((R0_y.out).keep hb)
  have R1_z := hid ((R0_z.out).keep hb)
  have HB1 := hid (below_step HB0.out (Nat.le_refl _) hb)
  clear hb HB0 R0_x R0_y R0_z
  have g0_x := R1_x.out.p0
  have g1_x := R1_x.out.p1
  have gl_x := R1_x.out.lt
  have g0_y := R1_y.out.p0
  have g1_y := R1_y.out.p1
  have gl_y := R1_y.out.lt
  have g0_z := R1_z.out.p0
  have g1_z := R1_z.out.p1
  have gl_z := R1_z.out.lt
  go_wp2_with fail
  refine (ratios_any _).mono ?_
  rintro e w2 ⟨rfl, hb⟩
  clear g0_x g1_x gl_x g0_y g1_y gl_y g0_z g1_z gl_z
  have R2_x := hid ((R1_x.out).keep hb)
  have R2_y := hid ((R1_y.out).keep hb)
  have R2_z := hid ((R1_z.out).keep hb)
  have HB2 := hid (below_step HB1.out (Nat.le_refl _) hb)
  clear hb HB1 R1_x R1_y R1_z
  have g0_x := R2_x.out.p0
  have g1_x := R2_x.out.p1
  have gl_x := R2_x.out.lt
  have g0_y := R2_y.out.p0
  have g1_y := R2_y.out.p1
  have gl_y := R2_y.out.lt
  have g0_z := R2_z.out.p0
  have g1_z := R2_z.out.p1
  have gl_z := R2_z.out.lt
  go_wp2_with fail
  refine (h1'.out _).mono ?_
  rintro e w3 ⟨rfl, hb⟩
  clear g0_x g1_x gl_x g0_y g1_y gl_y g0_z g1_z gl_z
  have R3_x := hid ((R2_x.out).keep hb)
  have R3_y := hid ((R2_y.out).keep hb)
  have R3_z := hid ((R2_z.out).keep hb)
  have HB3 := hid (below_step HB2.out (Nat.le_refl _) hb)
  clear hb HB2 R2_x R2_y R2_z
  have g0_x := R3_x.out.p0
  have g1_x := R3_x.out.p1
  have gl_x := R3_x.out.lt
  have g0_y := R3_y.out.p0
  have g1_y := R3_y.out.p1
  have gl_y := R3_y.out.lt
  have g0_z := R3_z.out.p0
  have g1_z := R3_z.out.p1
  have gl_z := R3_z.out.lt
  go_wp2_with fail
  refine (h2'.out _).mono ?_
  rintro e w4 ⟨rfl, hb⟩
  clear g0_x g1_x gl_x g0_y g1_y gl_y g0_z g1_z gl_z
  have R4_x := hid ((R3_x.out).keep hb)
  have R4_y := hid ((R3_y.out).keep hb)
  have R4_z := hid ((R3_z.out).keep hb)
  have HB4 := hid (below_step HB3.out (Nat.le_refl _) hb)
  clear hb HB3 R3_x R3_y R3_z
  have g0_x := R4_x.out.p0
  have g1_x := R4_x.out.p1
  have gl_x := R4_x.out.lt
  have g0_y := R4_y.out.p0
  have g1_y := R4_y.out.p1
  have gl_y := R4_y.out.lt
  have g0_z := R4_z.out.p0
  have g1_z := R4_z.out.p1
  have gl_z := R4_z.out.lt
  go_wp2_with fail
  refine (h3'.out _).mono ?_
  rintro e w5 ⟨rfl, hb⟩
  clear g0_x g1_x gl_x g0_y g1_y gl_y g0_z g1_z gl_z
  have R5_x := hid ((R4_x.out).keep hb)
  have R5_y := hid ((R4_y.out).keep hb)
  have R5_z := hid ((R4_z.out).keep hb)
  have HB5 := hid (below_step HB4.out (Nat.le_refl _) hb)
  clear hb HB4 R4_x R4_y R4_z
  have g0_x := R5_x.out.p0
  have g1_x := R5_x.out.p1
  have gl_x := R5_x.out.lt
  have g0_y := R5_y.out.p0
  have g1_y := R5_y.out.p1
  have gl_y := R5_y.out.lt
  have g0_z := R5_z.out.p0
  have g1_z := R5_z.out.p1
  have gl_z := R5_z.out.lt
  go_wp2_with fail
  refine (h4'.out _).mono ?_
  rintro e w6 ⟨rfl, hb⟩
  clear g0_x g1_x gl_x g0_y g1_y gl_y g0_z g1_z gl_z
  have R6_x := hid ((R5_x.out).keep hb)
  have R6_y := hid ((R5_y.out).keep hb)
  have R6_z := hid ((R5_z.out).keep hb)
  have HB6 := hid (below_step HB5.out (Nat.le_refl _) hb)
  clear hb HB5 R5_x R5_y R5_z
  have g0_x := R6_x.out.p0
  have g1_x := R6_x.out.p1
  have gl_x := R6_x.out.lt
  have g0_y := R6_y.out.p0
  have g1_y := R6_y.out.p1
  have gl_y := R6_y.out.lt
  have g0_z := R6_z.out.p0
  have g1_z := R6_z.out.p1
  have gl_z := R6_z.out.lt
  go_wp2_with fail
  refine (good_bel _ _ _ 4 [0, 0, e3, e4] rfl rfl (by omega)).mono ?_
  rintro e w7 ⟨rfl, hb⟩
  clear g0_x g1_x gl_x g0_y g1_y gl_y g0_z g1_z gl_z
  rw [hg.out]
  have R7_x := hid ((R6_x.out).keep hb)
  have R7_y := hid ((R6_y.out).keep hb)
  have R7_z := hid ((R6_z.out).keep hb)
  have HB7 := hid (below_step HB6.out (Nat.le_refl _) hb)
  clear hb HB6 R6_x R6_y R6_z
  have g0_x := R7_x.out.p0
  have g1_x := R7_x.out.p1
  have gl_x := R7_x.out.lt
  have g0_y := R7_y.out.p0
  have g1_y := R7_y.out.p1
  have gl_y := R7_y.out.lt
  have g0_z := R7_z.out.p0
  have g1_z := R7_z.out.p1
  have gl_z := R7_z.out.lt
  go_wp2
  go_ret
  exact ⟨rfl, HB7.out⟩

set_option maxHeartbeats 2000000 in
set_option maxRecDepth 100000 in
theorem ratioOrder_z_false_false (P1 Q1 P2 Q2 P3 Q3 : Int) (c d : Bool) (e3 e4 : Int) (he : e3 ≠ 0) (h1 : (∀ W, Calls Try.prog 14 #[.agg #[.int .i64 P1, .int .i64 Q1], .agg #[.int .i64 P2, .int .i64 Q2]] W (RetB W false 0))) (h2 : (∀ W, Calls Try.prog 14 #[.agg #[.int .i64 P2, .int .i64 Q2], .agg #[.int .i64 P1, .int .i64 Q1]] W (RetB W false 0))) (h3 : (∀ W, Calls Try.prog 14 #[.agg #[.int .i64 P2, .int .i64 Q2], .agg #[.int .i64 P3, .int .i64 Q3]] W (RetB W c e3))) (h4 : (∀ W, Calls Try.prog 14 #[.agg #[.int .i64 P1, .int .i64 Q1], .agg #[.int .i64 P3, .int .i64 Q3]] W (RetB W d e4))) (w : World) :
    Calls Try.prog 6 #[.agg #[.int .i64 P1, .int .i64 Q1], .agg #[.int .i64 P2, .int .i64 Q2], .agg #[.int .i64 P3, .int .i64 Q3]] w fun e w' => e = .returned (.bool true) ∧ Below w.heap.size w w' := by
  have hg : Hid (allOK [0, 0, e3, e4] = false) := by
    show _ = _
    have h : (e3 == 0) = false := by simpa using he
    simp [allOK, h]
  clear he
  have h1' := hid h1
  clear h1
  have h2' := hid h2
  clear h2
  have h3' := hid h3
  clear h3
  have h4' := hid h4
  clear h4
  have HB0 := hid (Below.refl w.heap.size w)
  have R0_x : Hid (RatAt (((w.alloc (.cells #[.int .i64 P1, .int .i64 Q1] 23)).alloc (.cells #[.int .i64 P2, .int .i64 Q2] 23)).alloc (.cells #[.int .i64 P3, .int .i64 Q3] 23)) w.heap.size (P1) (Q1)) := ((RatAt.new w 23 (P1) (Q1)).keep_alloc (.cells #[.int .i64 (P2), .int .i64 (Q2)] 23)).keep_alloc (.cells #[.int .i64 (P3), .int .i64 (Q3)] 23)
  have R0_y : Hid (RatAt (((w.alloc (.cells #[.int .i64 P1, .int .i64 Q1] 23)).alloc (.cells #[.int .i64 P2, .int .i64 Q2] 23)).alloc (.cells #[.int .i64 P3, .int .i64 Q3] 23)) (w.heap.size + 1) (P2) (Q2)) := (rat_second w _ 23 (P2) (Q2)).keep_alloc (.cells #[.int .i64 (P3), .int .i64 (Q3)] 23)
  have R0_z : Hid (RatAt (((w.alloc (.cells #[.int .i64 P1, .int .i64 Q1] 23)).alloc (.cells #[.int .i64 P2, .int .i64 Q2] 23)).alloc (.cells #[.int .i64 P3, .int .i64 Q3] 23)) (w.heap.size + 2) (P3) (Q3)) := rat_third w _ _ 23 (P3) (Q3)
  have HBx : Hid (Below w.heap.size w (((w.alloc (.cells #[.int .i64 P1, .int .i64 Q1] 23)).alloc (.cells #[.int .i64 P2, .int .i64 Q2] 23)).alloc (.cells #[.int .i64 P3, .int .i64 Q3] 23))) := three_alloc w _ _ _
  clear HB0
  have HB0 := HBx
  clear HBx
  go_enter Try.func6, Try.ntmps6
  go_wp2_with fail
  refine (third_half _).mono ?_
  rintro e w1 ⟨rfl, hb⟩
  have R1_x := hid ((R0_x.out).keep hb)
  have R1_y := hid ((R0_y.out).keep hb)
  have R1_z := hid ((R0_z.out).keep hb)
  have HB1 := hid (below_step HB0.out (Nat.le_refl _) hb)
  clear hb HB0 R0_x R0_y R0_z
  have g0_x := R1_x.out.p0
  have g1_x := R1_x.out.p1
  have gl_x := R1_x.out.lt
  have g0_y := R1_y.out.p0
  have g1_y := R1_y.out.p1
  have gl_y := R1_y.out.lt
  have g0_z := R1_z.out.p0
  have g1_z := R1_z.out.p1
  have gl_z := R1_z.out.lt
  go_wp2_with fail
  refine (ratios_any _).mono ?_
  rintro e w2 ⟨rfl, hb⟩
  clear g0_x g1_x gl_x g0_y g1_y gl_y g0_z g1_z gl_z
  have R2_x := hid ((R1_x.out).keep hb)
  have R2_y := hid ((R1_y.out).keep hb)
  have R2_z := hid ((R1_z.out).keep hb)
  have HB2 := hid (below_step HB1.out (Nat.le_refl _) hb)
  clear hb HB1 R1_x R1_y R1_z
  have g0_x := R2_x.out.p0
  have g1_x := R2_x.out.p1
  have gl_x := R2_x.out.lt
  have g0_y := R2_y.out.p0
  have g1_y := R2_y.out.p1
  have gl_y := R2_y.out.lt
  have g0_z := R2_z.out.p0
  have g1_z := R2_z.out.p1
  have gl_z := R2_z.out.lt
  go_wp2_with fail
  refine (h1'.out _).mono ?_
  rintro e w3 ⟨rfl, hb⟩
  clear g0_x g1_x gl_x g0_y g1_y gl_y g0_z g1_z gl_z
  have R3_x := hid ((R2_x.out).keep hb)
  have R3_y := hid ((R2_y.out).keep hb)
  have R3_z := hid ((R2_z.out).keep hb)
  have HB3 := hid (below_step HB2.out (Nat.le_refl _) hb)
  clear hb HB2 R2_x R2_y R2_z
  have g0_x := R3_x.out.p0
  have g1_x := R3_x.out.p1
  have gl_x := R3_x.out.lt
  have g0_y := R3_y.out.p0
  have g1_y := R3_y.out.p1
  have gl_y := R3_y.out.lt
  have g0_z := R3_z.out.p0
  have g1_z := R3_z.out.p1
  have gl_z := R3_z.out.lt
  go_wp2_with fail
  refine (h2'.out _).mono ?_
  rintro e w4 ⟨rfl, hb⟩
  clear g0_x g1_x gl_x g0_y g1_y gl_y g0_z g1_z gl_z
  have R4_x := hid ((R3_x.out).keep hb)
  have R4_y := hid ((R3_y.out).keep hb)
  have R4_z := hid ((R3_z.out).keep hb)
  have HB4 := hid (below_step HB3.out (Nat.le_refl _) hb)
  clear hb HB3 R3_x R3_y R3_z
  have g0_x := R4_x.out.p0
  have g1_x := R4_x.out.p1
  have gl_x := R4_x.out.lt
  have g0_y := R4_y.out.p0
  have g1_y := R4_y.out.p1
  have gl_y := R4_y.out.lt
  have g0_z := R4_z.out.p0
  have g1_z := R4_z.out.p1
  have gl_z := R4_z.out.lt
  go_wp2_with fail
  refine (h3'.out _).mono ?_
  rintro e w5 ⟨rfl, hb⟩
  clear g0_x g1_x gl_x g0_y g1_y gl_y g0_z g1_z gl_z
  have R5_x := hid ((R4_x.out).keep hb)
  have R5_y := hid ((R4_y.out).keep hb)
  have R5_z := hid ((R4_z.out).keep hb)
  have HB5 := hid (below_step HB4.out (Nat.le_refl _) hb)
  clear hb HB4 R4_x R4_y R4_z
  have g0_x := R5_x.out.p0
  have g1_x := R5_x.out.p1
  have gl_x := R5_x.out.lt
  have g0_y := R5_y.out.p0
  have g1_y := R5_y.out.p1
  have gl_y := R5_y.out.lt
  have g0_z := R5_z.out.p0
  have g1_z := R5_z.out.p1
  have gl_z := R5_z.out.lt
  go_wp2_with fail
  refine (h4'.out _).mono ?_
  rintro e w6 ⟨rfl, hb⟩
  clear g0_x g1_x gl_x g0_y g1_y gl_y g0_z g1_z gl_z
  have R6_x := hid ((R5_x.out).keep hb)
  have R6_y := hid ((R5_y.out).keep hb)
  have R6_z := hid ((R5_z.out).keep hb)
  have HB6 := hid (below_step HB5.out (Nat.le_refl _) hb)
  clear hb HB5 R5_x R5_y R5_z
  have g0_x := R6_x.out.p0
  have g1_x := R6_x.out.p1
  have gl_x := R6_x.out.lt
  have g0_y := R6_y.out.p0
  have g1_y := R6_y.out.p1
  have gl_y := R6_y.out.lt
  have g0_z := R6_z.out.p0
  have g1_z := R6_z.out.p1
  have gl_z := R6_z.out.lt
  go_wp2_with fail
  refine (good_bel _ _ _ 4 [0, 0, e3, e4] rfl rfl (by omega)).mono ?_
  rintro e w7 ⟨rfl, hb⟩
  clear g0_x g1_x gl_x g0_y g1_y gl_y g0_z g1_z gl_z
  rw [hg.out]
  have R7_x := hid ((R6_x.out).keep hb)
  have R7_y := hid ((R6_y.out).keep hb)
  have R7_z := hid ((R6_z.out).keep hb)
  have HB7 := hid (below_step HB6.out (Nat.le_refl _) hb)
  clear hb HB6 R6_x R6_y R6_z
  have g0_x := R7_x.out.p0
  have g1_x := R7_x.out.p1
  have gl_x := R7_x.out.lt
  have g0_y := R7_y.out.p0
  have g1_y := R7_y.out.p1
  have gl_y := R7_y.out.lt
  have g0_z := R7_z.out.p0
  have g1_z := R7_z.out.p1
  have gl_z := R7_z.out.lt
  go_wp2
  go_ret
  exact ⟨rfl, HB7.out⟩

set_option maxHeartbeats 2000000 in
set_option maxRecDepth 100000 in
theorem ratioOrder_tff_not (P1 Q1 P2 Q2 P3 Q3 : Int) (P4 Q4 P5 Q5 e5 e6 : Int) (d : Bool) (he : e5 ≠ 0 ∨ e6 ≠ 0) (hxy : ¬ (P1 = P2 ∧ Q1 = Q2)) (h1 : (∀ W, Calls Try.prog 14 #[.agg #[.int .i64 P1, .int .i64 Q1], .agg #[.int .i64 P2, .int .i64 Q2]] W (RetB W true 0))) (h2 : (∀ W, Calls Try.prog 14 #[.agg #[.int .i64 P2, .int .i64 Q2], .agg #[.int .i64 P1, .int .i64 Q1]] W (RetB W false 0))) (h3 : (∀ W, Calls Try.prog 14 #[.agg #[.int .i64 P2, .int .i64 Q2], .agg #[.int .i64 P3, .int .i64 Q3]] W (RetB W false 0))) (h4 : (∀ W, Calls Try.prog 14 #[.agg #[.int .i64 P1, .int .i64 Q1], .agg #[.int .i64 P3, .int .i64 Q3]] W (RetB W d 0))) (h5 : (∀ W, Calls Try.prog 11 #[.agg #[.int .i64 P1, .int .i64 Q1], .agg #[.int .i64 P3, .int .i64 Q3]] W (RetR W P4 Q4 e5))) (h6 : (∀ W, Calls Try.prog 11 #[.agg #[.int .i64 P2, .int .i64 Q2], .agg #[.int .i64 P3, .int .i64 Q3]] W (RetR W P5 Q5 e6))) (w : World) :
    Calls Try.prog 6 #[.agg #[.int .i64 P1, .int .i64 Q1], .agg #[.int .i64 P2, .int .i64 Q2], .agg #[.int .i64 P3, .int .i64 Q3]] w fun e w' => e = .returned (.bool true) ∧ Below w.heap.size w w' := by
  have HNE : Hid ((P1 == P2 && Q1 == Q2) = false) := by
    show _ = _
    simp
    omega
  clear hxy
  have hg : Hid (allOK [e5, e6] = false) := by
    show _ = _
    by_cases h : e5 = 0
    · have h' : (e6 == 0) = false := by simp; omega
      simp [allOK, h']
    · have h' : (e5 == 0) = false := by simpa using h
      simp [allOK, h']
  clear he
  have h1' := hid h1
  clear h1
  have h2' := hid h2
  clear h2
  have h3' := hid h3
  clear h3
  have h4' := hid h4
  clear h4
  have h5' := hid h5
  clear h5
  have h6' := hid h6
  clear h6
  have HB0 := hid (Below.refl w.heap.size w)
  have R0_x : Hid (RatAt (((w.alloc (.cells #[.int .i64 P1, .int .i64 Q1] 23)).alloc (.cells #[.int .i64 P2, .int .i64 Q2] 23)).alloc (.cells #[.int .i64 P3, .int .i64 Q3] 23)) w.heap.size (P1) (Q1)) := ((RatAt.new w 23 (P1) (Q1)).keep_alloc (.cells #[.int .i64 (P2), .int .i64 (Q2)] 23)).keep_alloc (.cells #[.int .i64 (P3), .int .i64 (Q3)] 23)
  have R0_y : Hid (RatAt (((w.alloc (.cells #[.int .i64 P1, .int .i64 Q1] 23)).alloc (.cells #[.int .i64 P2, .int .i64 Q2] 23)).alloc (.cells #[.int .i64 P3, .int .i64 Q3] 23)) (w.heap.size + 1) (P2) (Q2)) := (rat_second w _ 23 (P2) (Q2)).keep_alloc (.cells #[.int .i64 (P3), .int .i64 (Q3)] 23)
  have R0_z : Hid (RatAt (((w.alloc (.cells #[.int .i64 P1, .int .i64 Q1] 23)).alloc (.cells #[.int .i64 P2, .int .i64 Q2] 23)).alloc (.cells #[.int .i64 P3, .int .i64 Q3] 23)) (w.heap.size + 2) (P3) (Q3)) := rat_third w _ _ 23 (P3) (Q3)
  have HBx : Hid (Below w.heap.size w (((w.alloc (.cells #[.int .i64 P1, .int .i64 Q1] 23)).alloc (.cells #[.int .i64 P2, .int .i64 Q2] 23)).alloc (.cells #[.int .i64 P3, .int .i64 Q3] 23))) := three_alloc w _ _ _
  clear HB0
  have HB0 := HBx
  clear HBx
  go_enter Try.func6, Try.ntmps6
  go_wp2_with fail
  refine (third_half _).mono ?_
  rintro e w1 ⟨rfl, hb⟩
  have R1_x := hid ((R0_x.out).keep hb)
  have R1_y := hid ((R0_y.out).keep hb)
  have R1_z := hid ((R0_z.out).keep hb)
  have HB1 := hid (below_step HB0.out (Nat.le_refl _) hb)
  clear hb HB0 R0_x R0_y R0_z
  have g0_x := R1_x.out.p0
  have g1_x := R1_x.out.p1
  have gl_x := R1_x.out.lt
  have g0_y := R1_y.out.p0
  have g1_y := R1_y.out.p1
  have gl_y := R1_y.out.lt
  have g0_z := R1_z.out.p0
  have g1_z := R1_z.out.p1
  have gl_z := R1_z.out.lt
  go_wp2_with fail
  refine (ratios_any _).mono ?_
  rintro e w2 ⟨rfl, hb⟩
  clear g0_x g1_x gl_x g0_y g1_y gl_y g0_z g1_z gl_z
  have R2_x := hid ((R1_x.out).keep hb)
  have R2_y := hid ((R1_y.out).keep hb)
  have R2_z := hid ((R1_z.out).keep hb)
  have HB2 := hid (below_step HB1.out (Nat.le_refl _) hb)
  clear hb HB1 R1_x R1_y R1_z
  have g0_x := R2_x.out.p0
  have g1_x := R2_x.out.p1
  have gl_x := R2_x.out.lt
  have g0_y := R2_y.out.p0
  have g1_y := R2_y.out.p1
  have gl_y := R2_y.out.lt
  have g0_z := R2_z.out.p0
  have g1_z := R2_z.out.p1
  have gl_z := R2_z.out.lt
  go_wp2_with fail
  refine (h1'.out _).mono ?_
  rintro e w3 ⟨rfl, hb⟩
  clear g0_x g1_x gl_x g0_y g1_y gl_y g0_z g1_z gl_z
  have R3_x := hid ((R2_x.out).keep hb)
  have R3_y := hid ((R2_y.out).keep hb)
  have R3_z := hid ((R2_z.out).keep hb)
  have HB3 := hid (below_step HB2.out (Nat.le_refl _) hb)
  clear hb HB2 R2_x R2_y R2_z
  have g0_x := R3_x.out.p0
  have g1_x := R3_x.out.p1
  have gl_x := R3_x.out.lt
  have g0_y := R3_y.out.p0
  have g1_y := R3_y.out.p1
  have gl_y := R3_y.out.lt
  have g0_z := R3_z.out.p0
  have g1_z := R3_z.out.p1
  have gl_z := R3_z.out.lt
  go_wp2_with fail
  refine (h2'.out _).mono ?_
  rintro e w4 ⟨rfl, hb⟩
  clear g0_x g1_x gl_x g0_y g1_y gl_y g0_z g1_z gl_z
  have R4_x := hid ((R3_x.out).keep hb)
  have R4_y := hid ((R3_y.out).keep hb)
  have R4_z := hid ((R3_z.out).keep hb)
  have HB4 := hid (below_step HB3.out (Nat.le_refl _) hb)
  clear hb HB3 R3_x R3_y R3_z
  have g0_x := R4_x.out.p0
  have g1_x := R4_x.out.p1
  have gl_x := R4_x.out.lt
  have g0_y := R4_y.out.p0
  have g1_y := R4_y.out.p1
  have gl_y := R4_y.out.lt
  have g0_z := R4_z.out.p0
  have g1_z := R4_z.out.p1
  have gl_z := R4_z.out.lt
  go_wp2_with fail
  refine (h3'.out _).mono ?_
  rintro e w5 ⟨rfl, hb⟩
  clear g0_x g1_x gl_x g0_y g1_y gl_y g0_z g1_z gl_z
  have R5_x := hid ((R4_x.out).keep hb)
  have R5_y := hid ((R4_y.out).keep hb)
  have R5_z := hid ((R4_z.out).keep hb)
  have HB5 := hid (below_step HB4.out (Nat.le_refl _) hb)
  clear hb HB4 R4_x R4_y R4_z
  have g0_x := R5_x.out.p0
  have g1_x := R5_x.out.p1
  have gl_x := R5_x.out.lt
  have g0_y := R5_y.out.p0
  have g1_y := R5_y.out.p1
  have gl_y := R5_y.out.lt
  have g0_z := R5_z.out.p0
  have g1_z := R5_z.out.p1
  have gl_z := R5_z.out.lt
  go_wp2_with fail
  refine (h4'.out _).mono ?_
  rintro e w6 ⟨rfl, hb⟩
  clear g0_x g1_x gl_x g0_y g1_y gl_y g0_z g1_z gl_z
  have R6_x := hid ((R5_x.out).keep hb)
  have R6_y := hid ((R5_y.out).keep hb)
  have R6_z := hid ((R5_z.out).keep hb)
  have HB6 := hid (below_step HB5.out (Nat.le_refl _) hb)
  clear hb HB5 R5_x R5_y R5_z
  have g0_x := R6_x.out.p0
  have g1_x := R6_x.out.p1
  have gl_x := R6_x.out.lt
  have g0_y := R6_y.out.p0
  have g1_y := R6_y.out.p1
  have gl_y := R6_y.out.lt
  have g0_z := R6_z.out.p0
  have g1_z := R6_z.out.p1
  have gl_z := R6_z.out.lt
  go_wp2_with fail
  refine (good_bel _ _ _ 4 [0, 0, 0, 0] rfl rfl (by omega)).mono ?_
  rintro e w7 ⟨rfl, hb⟩
  clear g0_x g1_x gl_x g0_y g1_y gl_y g0_z g1_z gl_z
  rw [show allOK [0, 0, 0, 0] = true by decide]
  have R7_x := hid ((R6_x.out).keep hb)
  have R7_y := hid ((R6_y.out).keep hb)
  have R7_z := hid ((R6_z.out).keep hb)
  have HB7 := hid (below_step HB6.out (Nat.le_refl _) hb)
  clear hb HB6 R6_x R6_y R6_z
  have g0_x := R7_x.out.p0
  have g1_x := R7_x.out.p1
  have gl_x := R7_x.out.lt
  have g0_y := R7_y.out.p0
  have g1_y := R7_y.out.p1
  have gl_y := R7_y.out.lt
  have g0_z := R7_z.out.p0
  have g1_z := R7_z.out.p1
  have gl_z := R7_z.out.lt
  go_wp2_with fail
  refine (h5'.out _).mono ?_
  rintro e w8 ⟨rfl, hb⟩
  clear g0_x g1_x gl_x g0_y g1_y gl_y g0_z g1_z gl_z
  have R8_x := hid ((R7_x.out).keep hb)
  have R8_y := hid ((R7_y.out).keep hb)
  have R8_z := hid ((R7_z.out).keep hb)
  have HB8 := hid (below_step HB7.out (Nat.le_refl _) hb)
  clear hb HB7 R7_x R7_y R7_z
  have g0_x := R8_x.out.p0
  have g1_x := R8_x.out.p1
  have gl_x := R8_x.out.lt
  have g0_y := R8_y.out.p0
  have g1_y := R8_y.out.p1
  have gl_y := R8_y.out.lt
  have g0_z := R8_z.out.p0
  have g1_z := R8_z.out.p1
  have gl_z := R8_z.out.lt
  go_wp2_with fail
  refine (h6'.out _).mono ?_
  rintro e w9 ⟨rfl, hb⟩
  clear g0_x g1_x gl_x g0_y g1_y gl_y g0_z g1_z gl_z
  have R9_x := hid (((R8_x.out).keep_alloc (.cells #[.int .i64 (P4), .int .i64 (Q4)] 23)).keep hb)
  have R9_y := hid (((R8_y.out).keep_alloc (.cells #[.int .i64 (P4), .int .i64 (Q4)] 23)).keep hb)
  have R9_z := hid (((R8_z.out).keep_alloc (.cells #[.int .i64 (P4), .int .i64 (Q4)] 23)).keep hb)
  have R9_u := hid ((RatAt.new w8 23 (P4) (Q4)).keep hb)
  have HB9 := hid (below_step (below_step HB8.out (Nat.le_refl _) (below_alloc w8 (.cells #[.int .i64 (P4), .int .i64 (Q4)] 23))) (Nat.le_refl _) hb)
  clear hb HB8 R8_x R8_y R8_z
  have g0_x := R9_x.out.p0
  have g1_x := R9_x.out.p1
  have gl_x := R9_x.out.lt
  have g0_y := R9_y.out.p0
  have g1_y := R9_y.out.p1
  have gl_y := R9_y.out.lt
  have g0_z := R9_z.out.p0
  have g1_z := R9_z.out.p1
  have gl_z := R9_z.out.lt
  have g0_u := R9_u.out.p0
  have g1_u := R9_u.out.p1
  have gl_u := R9_u.out.lt
  go_wp2_with fail
  refine (good_bel1 _ _ _ _ 2 [e5, e6] rfl rfl (by omega)).mono ?_
  rintro e w10 ⟨rfl, hb⟩
  clear g0_x g1_x gl_x g0_y g1_y gl_y g0_z g1_z gl_z g0_u g1_u gl_u
  rw [hg.out]
  have R10_x := hid (((R9_x.out).keep_alloc (.cells #[.int .i64 (P5), .int .i64 (Q5)] 23)).keep hb)
  have R10_y := hid (((R9_y.out).keep_alloc (.cells #[.int .i64 (P5), .int .i64 (Q5)] 23)).keep hb)
  have R10_z := hid (((R9_z.out).keep_alloc (.cells #[.int .i64 (P5), .int .i64 (Q5)] 23)).keep hb)
  have R10_u := hid (((R9_u.out).keep_alloc (.cells #[.int .i64 (P5), .int .i64 (Q5)] 23)).keep hb)
  have R10_v := hid ((RatAt.new w9 23 (P5) (Q5)).keep hb)
  have HB10 := hid (below_step (below_step HB9.out (Nat.le_refl _) (below_alloc w9 (.cells #[.int .i64 (P5), .int .i64 (Q5)] 23))) (Nat.le_refl _) hb)
  clear hb HB9 R9_x R9_y R9_z R9_u
  have g0_x := R10_x.out.p0
  have g1_x := R10_x.out.p1
  have gl_x := R10_x.out.lt
  have g0_y := R10_y.out.p0
  have g1_y := R10_y.out.p1
  have gl_y := R10_y.out.lt
  have g0_z := R10_z.out.p0
  have g1_z := R10_z.out.p1
  have gl_z := R10_z.out.lt
  have g0_u := R10_u.out.p0
  have g1_u := R10_u.out.p1
  have gl_u := R10_u.out.lt
  have g0_v := R10_v.out.p0
  have g1_v := R10_v.out.p1
  have gl_v := R10_v.out.lt
  go_wp2
  all_goals first | (exfalso; have hcc := HNE.out; simp only [*] at hcc; simp at hcc; done) | (go_ret; exact ⟨rfl, HB10.out⟩)

set_option maxHeartbeats 2000000 in
set_option maxRecDepth 100000 in
theorem ratioOrder_tff_fit (P1 Q1 P2 Q2 P3 Q3 : Int) (P4 Q4 P5 Q5 : Int) (d : Bool) (hxy : ¬ (P1 = P2 ∧ Q1 = Q2)) (h1 : (∀ W, Calls Try.prog 14 #[.agg #[.int .i64 P1, .int .i64 Q1], .agg #[.int .i64 P2, .int .i64 Q2]] W (RetB W true 0))) (h2 : (∀ W, Calls Try.prog 14 #[.agg #[.int .i64 P2, .int .i64 Q2], .agg #[.int .i64 P1, .int .i64 Q1]] W (RetB W false 0))) (h3 : (∀ W, Calls Try.prog 14 #[.agg #[.int .i64 P2, .int .i64 Q2], .agg #[.int .i64 P3, .int .i64 Q3]] W (RetB W false 0))) (h4 : (∀ W, Calls Try.prog 14 #[.agg #[.int .i64 P1, .int .i64 Q1], .agg #[.int .i64 P3, .int .i64 Q3]] W (RetB W d 0))) (h5 : (∀ W, Calls Try.prog 11 #[.agg #[.int .i64 P1, .int .i64 Q1], .agg #[.int .i64 P3, .int .i64 Q3]] W (RetR W P4 Q4 0))) (h6 : (∀ W, Calls Try.prog 11 #[.agg #[.int .i64 P2, .int .i64 Q2], .agg #[.int .i64 P3, .int .i64 Q3]] W (RetR W P5 Q5 0))) (h7 : (∀ W, Calls Try.prog 14 #[.agg #[.int .i64 P4, .int .i64 Q4], .agg #[.int .i64 P5, .int .i64 Q5]] W (RetB W true 0))) (w : World) :
    Calls Try.prog 6 #[.agg #[.int .i64 P1, .int .i64 Q1], .agg #[.int .i64 P2, .int .i64 Q2], .agg #[.int .i64 P3, .int .i64 Q3]] w fun e w' => e = .returned (.bool true) ∧ Below w.heap.size w w' := by
  have HNE : Hid ((P1 == P2 && Q1 == Q2) = false) := by
    show _ = _
    simp
    omega
  clear hxy
  have h1' := hid h1
  clear h1
  have h2' := hid h2
  clear h2
  have h3' := hid h3
  clear h3
  have h4' := hid h4
  clear h4
  have h5' := hid h5
  clear h5
  have h6' := hid h6
  clear h6
  have h7' := hid h7
  clear h7
  have HB0 := hid (Below.refl w.heap.size w)
  have R0_x : Hid (RatAt (((w.alloc (.cells #[.int .i64 P1, .int .i64 Q1] 23)).alloc (.cells #[.int .i64 P2, .int .i64 Q2] 23)).alloc (.cells #[.int .i64 P3, .int .i64 Q3] 23)) w.heap.size (P1) (Q1)) := ((RatAt.new w 23 (P1) (Q1)).keep_alloc (.cells #[.int .i64 (P2), .int .i64 (Q2)] 23)).keep_alloc (.cells #[.int .i64 (P3), .int .i64 (Q3)] 23)
  have R0_y : Hid (RatAt (((w.alloc (.cells #[.int .i64 P1, .int .i64 Q1] 23)).alloc (.cells #[.int .i64 P2, .int .i64 Q2] 23)).alloc (.cells #[.int .i64 P3, .int .i64 Q3] 23)) (w.heap.size + 1) (P2) (Q2)) := (rat_second w _ 23 (P2) (Q2)).keep_alloc (.cells #[.int .i64 (P3), .int .i64 (Q3)] 23)
  have R0_z : Hid (RatAt (((w.alloc (.cells #[.int .i64 P1, .int .i64 Q1] 23)).alloc (.cells #[.int .i64 P2, .int .i64 Q2] 23)).alloc (.cells #[.int .i64 P3, .int .i64 Q3] 23)) (w.heap.size + 2) (P3) (Q3)) := rat_third w _ _ 23 (P3) (Q3)
  have HBx : Hid (Below w.heap.size w (((w.alloc (.cells #[.int .i64 P1, .int .i64 Q1] 23)).alloc (.cells #[.int .i64 P2, .int .i64 Q2] 23)).alloc (.cells #[.int .i64 P3, .int .i64 Q3] 23))) := three_alloc w _ _ _
  clear HB0
  have HB0 := HBx
  clear HBx
  go_enter Try.func6, Try.ntmps6
  go_wp2_with fail
  refine (third_half _).mono ?_
  rintro e w1 ⟨rfl, hb⟩
  have R1_x := hid ((R0_x.out).keep hb)
  have R1_y := hid ((R0_y.out).keep hb)
  have R1_z := hid ((R0_z.out).keep hb)
  have HB1 := hid (below_step HB0.out (Nat.le_refl _) hb)
  clear hb HB0 R0_x R0_y R0_z
  have g0_x := R1_x.out.p0
  have g1_x := R1_x.out.p1
  have gl_x := R1_x.out.lt
  have g0_y := R1_y.out.p0
  have g1_y := R1_y.out.p1
  have gl_y := R1_y.out.lt
  have g0_z := R1_z.out.p0
  have g1_z := R1_z.out.p1
  have gl_z := R1_z.out.lt
  go_wp2_with fail
  refine (ratios_any _).mono ?_
  rintro e w2 ⟨rfl, hb⟩
  clear g0_x g1_x gl_x g0_y g1_y gl_y g0_z g1_z gl_z
  have R2_x := hid ((R1_x.out).keep hb)
  have R2_y := hid ((R1_y.out).keep hb)
  have R2_z := hid ((R1_z.out).keep hb)
  have HB2 := hid (below_step HB1.out (Nat.le_refl _) hb)
  clear hb HB1 R1_x R1_y R1_z
  have g0_x := R2_x.out.p0
  have g1_x := R2_x.out.p1
  have gl_x := R2_x.out.lt
  have g0_y := R2_y.out.p0
  have g1_y := R2_y.out.p1
  have gl_y := R2_y.out.lt
  have g0_z := R2_z.out.p0
  have g1_z := R2_z.out.p1
  have gl_z := R2_z.out.lt
  go_wp2_with fail
  refine (h1'.out _).mono ?_
  rintro e w3 ⟨rfl, hb⟩
  clear g0_x g1_x gl_x g0_y g1_y gl_y g0_z g1_z gl_z
  have R3_x := hid ((R2_x.out).keep hb)
  have R3_y := hid ((R2_y.out).keep hb)
  have R3_z := hid ((R2_z.out).keep hb)
  have HB3 := hid (below_step HB2.out (Nat.le_refl _) hb)
  clear hb HB2 R2_x R2_y R2_z
  have g0_x := R3_x.out.p0
  have g1_x := R3_x.out.p1
  have gl_x := R3_x.out.lt
  have g0_y := R3_y.out.p0
  have g1_y := R3_y.out.p1
  have gl_y := R3_y.out.lt
  have g0_z := R3_z.out.p0
  have g1_z := R3_z.out.p1
  have gl_z := R3_z.out.lt
  go_wp2_with fail
  refine (h2'.out _).mono ?_
  rintro e w4 ⟨rfl, hb⟩
  clear g0_x g1_x gl_x g0_y g1_y gl_y g0_z g1_z gl_z
  have R4_x := hid ((R3_x.out).keep hb)
  have R4_y := hid ((R3_y.out).keep hb)
  have R4_z := hid ((R3_z.out).keep hb)
  have HB4 := hid (below_step HB3.out (Nat.le_refl _) hb)
  clear hb HB3 R3_x R3_y R3_z
  have g0_x := R4_x.out.p0
  have g1_x := R4_x.out.p1
  have gl_x := R4_x.out.lt
  have g0_y := R4_y.out.p0
  have g1_y := R4_y.out.p1
  have gl_y := R4_y.out.lt
  have g0_z := R4_z.out.p0
  have g1_z := R4_z.out.p1
  have gl_z := R4_z.out.lt
  go_wp2_with fail
  refine (h3'.out _).mono ?_
  rintro e w5 ⟨rfl, hb⟩
  clear g0_x g1_x gl_x g0_y g1_y gl_y g0_z g1_z gl_z
  have R5_x := hid ((R4_x.out).keep hb)
  have R5_y := hid ((R4_y.out).keep hb)
  have R5_z := hid ((R4_z.out).keep hb)
  have HB5 := hid (below_step HB4.out (Nat.le_refl _) hb)
  clear hb HB4 R4_x R4_y R4_z
  have g0_x := R5_x.out.p0
  have g1_x := R5_x.out.p1
  have gl_x := R5_x.out.lt
  have g0_y := R5_y.out.p0
  have g1_y := R5_y.out.p1
  have gl_y := R5_y.out.lt
  have g0_z := R5_z.out.p0
  have g1_z := R5_z.out.p1
  have gl_z := R5_z.out.lt
  go_wp2_with fail
  refine (h4'.out _).mono ?_
  rintro e w6 ⟨rfl, hb⟩
  clear g0_x g1_x gl_x g0_y g1_y gl_y g0_z g1_z gl_z
  have R6_x := hid ((R5_x.out).keep hb)
  have R6_y := hid ((R5_y.out).keep hb)
  have R6_z := hid ((R5_z.out).keep hb)
  have HB6 := hid (below_step HB5.out (Nat.le_refl _) hb)
  clear hb HB5 R5_x R5_y R5_z
  have g0_x := R6_x.out.p0
  have g1_x := R6_x.out.p1
  have gl_x := R6_x.out.lt
  have g0_y := R6_y.out.p0
  have g1_y := R6_y.out.p1
  have gl_y := R6_y.out.lt
  have g0_z := R6_z.out.p0
  have g1_z := R6_z.out.p1
  have gl_z := R6_z.out.lt
  go_wp2_with fail
  refine (good_bel _ _ _ 4 [0, 0, 0, 0] rfl rfl (by omega)).mono ?_
  rintro e w7 ⟨rfl, hb⟩
  clear g0_x g1_x gl_x g0_y g1_y gl_y g0_z g1_z gl_z
  rw [show allOK [0, 0, 0, 0] = true by decide]
  have R7_x := hid ((R6_x.out).keep hb)
  have R7_y := hid ((R6_y.out).keep hb)
  have R7_z := hid ((R6_z.out).keep hb)
  have HB7 := hid (below_step HB6.out (Nat.le_refl _) hb)
  clear hb HB6 R6_x R6_y R6_z
  have g0_x := R7_x.out.p0
  have g1_x := R7_x.out.p1
  have gl_x := R7_x.out.lt
  have g0_y := R7_y.out.p0
  have g1_y := R7_y.out.p1
  have gl_y := R7_y.out.lt
  have g0_z := R7_z.out.p0
  have g1_z := R7_z.out.p1
  have gl_z := R7_z.out.lt
  go_wp2_with fail
  refine (h5'.out _).mono ?_
  rintro e w8 ⟨rfl, hb⟩
  clear g0_x g1_x gl_x g0_y g1_y gl_y g0_z g1_z gl_z
  have R8_x := hid ((R7_x.out).keep hb)
  have R8_y := hid ((R7_y.out).keep hb)
  have R8_z := hid ((R7_z.out).keep hb)
  have HB8 := hid (below_step HB7.out (Nat.le_refl _) hb)
  clear hb HB7 R7_x R7_y R7_z
  have g0_x := R8_x.out.p0
  have g1_x := R8_x.out.p1
  have gl_x := R8_x.out.lt
  have g0_y := R8_y.out.p0
  have g1_y := R8_y.out.p1
  have gl_y := R8_y.out.lt
  have g0_z := R8_z.out.p0
  have g1_z := R8_z.out.p1
  have gl_z := R8_z.out.lt
  go_wp2_with fail
  refine (h6'.out _).mono ?_
  rintro e w9 ⟨rfl, hb⟩
  clear g0_x g1_x gl_x g0_y g1_y gl_y g0_z g1_z gl_z
  have R9_x := hid (((R8_x.out).keep_alloc (.cells #[.int .i64 (P4), .int .i64 (Q4)] 23)).keep hb)
  have R9_y := hid (((R8_y.out).keep_alloc (.cells #[.int .i64 (P4), .int .i64 (Q4)] 23)).keep hb)
  have R9_z := hid (((R8_z.out).keep_alloc (.cells #[.int .i64 (P4), .int .i64 (Q4)] 23)).keep hb)
  have R9_u := hid ((RatAt.new w8 23 (P4) (Q4)).keep hb)
  have HB9 := hid (below_step (below_step HB8.out (Nat.le_refl _) (below_alloc w8 (.cells #[.int .i64 (P4), .int .i64 (Q4)] 23))) (Nat.le_refl _) hb)
  clear hb HB8 R8_x R8_y R8_z
  have g0_x := R9_x.out.p0
  have g1_x := R9_x.out.p1
  have gl_x := R9_x.out.lt
  have g0_y := R9_y.out.p0
  have g1_y := R9_y.out.p1
  have gl_y := R9_y.out.lt
  have g0_z := R9_z.out.p0
  have g1_z := R9_z.out.p1
  have gl_z := R9_z.out.lt
  have g0_u := R9_u.out.p0
  have g1_u := R9_u.out.p1
  have gl_u := R9_u.out.lt
  go_wp2_with fail
  refine (good_bel1 _ _ _ _ 2 [0, 0] rfl rfl (by omega)).mono ?_
  rintro e w10 ⟨rfl, hb⟩
  clear g0_x g1_x gl_x g0_y g1_y gl_y g0_z g1_z gl_z g0_u g1_u gl_u
  rw [show allOK [0, 0] = true by decide]
  have R10_x := hid (((R9_x.out).keep_alloc (.cells #[.int .i64 (P5), .int .i64 (Q5)] 23)).keep hb)
  have R10_y := hid (((R9_y.out).keep_alloc (.cells #[.int .i64 (P5), .int .i64 (Q5)] 23)).keep hb)
  have R10_z := hid (((R9_z.out).keep_alloc (.cells #[.int .i64 (P5), .int .i64 (Q5)] 23)).keep hb)
  have R10_u := hid (((R9_u.out).keep_alloc (.cells #[.int .i64 (P5), .int .i64 (Q5)] 23)).keep hb)
  have R10_v := hid ((RatAt.new w9 23 (P5) (Q5)).keep hb)
  have HB10 := hid (below_step (below_step HB9.out (Nat.le_refl _) (below_alloc w9 (.cells #[.int .i64 (P5), .int .i64 (Q5)] 23))) (Nat.le_refl _) hb)
  clear hb HB9 R9_x R9_y R9_z R9_u
  have g0_x := R10_x.out.p0
  have g1_x := R10_x.out.p1
  have gl_x := R10_x.out.lt
  have g0_y := R10_y.out.p0
  have g1_y := R10_y.out.p1
  have gl_y := R10_y.out.lt
  have g0_z := R10_z.out.p0
  have g1_z := R10_z.out.p1
  have gl_z := R10_z.out.lt
  have g0_u := R10_u.out.p0
  have g1_u := R10_u.out.p1
  have gl_u := R10_u.out.lt
  have g0_v := R10_v.out.p0
  have g1_v := R10_v.out.p1
  have gl_v := R10_v.out.lt
  go_wp2_with fail
  refine (h7'.out _).mono ?_
  rintro e w11 ⟨rfl, hb⟩
  clear g0_x g1_x gl_x g0_y g1_y gl_y g0_z g1_z gl_z g0_u g1_u gl_u g0_v g1_v gl_v
  have R11_x := hid ((R10_x.out).keep hb)
  have R11_y := hid ((R10_y.out).keep hb)
  have R11_z := hid ((R10_z.out).keep hb)
  have R11_u := hid ((R10_u.out).keep hb)
  have R11_v := hid ((R10_v.out).keep hb)
  have HB11 := hid (below_step HB10.out (Nat.le_refl _) hb)
  clear hb HB10 R10_x R10_y R10_z R10_u R10_v
  have g0_x := R11_x.out.p0
  have g1_x := R11_x.out.p1
  have gl_x := R11_x.out.lt
  have g0_y := R11_y.out.p0
  have g1_y := R11_y.out.p1
  have gl_y := R11_y.out.lt
  have g0_z := R11_z.out.p0
  have g1_z := R11_z.out.p1
  have gl_z := R11_z.out.lt
  have g0_u := R11_u.out.p0
  have g1_u := R11_u.out.p1
  have gl_u := R11_u.out.lt
  have g0_v := R11_v.out.p0
  have g1_v := R11_v.out.p1
  have gl_v := R11_v.out.lt
  go_wp2
  all_goals first | (exfalso; have hcc := HNE.out; simp only [*] at hcc; simp at hcc; done) | (go_ret; exact ⟨rfl, HB11.out⟩)

set_option maxHeartbeats 2000000 in
set_option maxRecDepth 100000 in
theorem ratioOrder_tft_not (P1 Q1 P2 Q2 P3 Q3 : Int) (P4 Q4 P5 Q5 e5 e6 : Int)  (he : e5 ≠ 0 ∨ e6 ≠ 0) (hxy : ¬ (P1 = P2 ∧ Q1 = Q2)) (h1 : (∀ W, Calls Try.prog 14 #[.agg #[.int .i64 P1, .int .i64 Q1], .agg #[.int .i64 P2, .int .i64 Q2]] W (RetB W true 0))) (h2 : (∀ W, Calls Try.prog 14 #[.agg #[.int .i64 P2, .int .i64 Q2], .agg #[.int .i64 P1, .int .i64 Q1]] W (RetB W false 0))) (h3 : (∀ W, Calls Try.prog 14 #[.agg #[.int .i64 P2, .int .i64 Q2], .agg #[.int .i64 P3, .int .i64 Q3]] W (RetB W true 0))) (h4 : (∀ W, Calls Try.prog 14 #[.agg #[.int .i64 P1, .int .i64 Q1], .agg #[.int .i64 P3, .int .i64 Q3]] W (RetB W true 0))) (h5 : (∀ W, Calls Try.prog 11 #[.agg #[.int .i64 P1, .int .i64 Q1], .agg #[.int .i64 P3, .int .i64 Q3]] W (RetR W P4 Q4 e5))) (h6 : (∀ W, Calls Try.prog 11 #[.agg #[.int .i64 P2, .int .i64 Q2], .agg #[.int .i64 P3, .int .i64 Q3]] W (RetR W P5 Q5 e6))) (w : World) :
    Calls Try.prog 6 #[.agg #[.int .i64 P1, .int .i64 Q1], .agg #[.int .i64 P2, .int .i64 Q2], .agg #[.int .i64 P3, .int .i64 Q3]] w fun e w' => e = .returned (.bool true) ∧ Below w.heap.size w w' := by
  have HNE : Hid ((P1 == P2 && Q1 == Q2) = false) := by
    show _ = _
    simp
    omega
  clear hxy
  have hg : Hid (allOK [e5, e6] = false) := by
    show _ = _
    by_cases h : e5 = 0
    · have h' : (e6 == 0) = false := by simp; omega
      simp [allOK, h']
    · have h' : (e5 == 0) = false := by simpa using h
      simp [allOK, h']
  clear he
  have h1' := hid h1
  clear h1
  have h2' := hid h2
  clear h2
  have h3' := hid h3
  clear h3
  have h4' := hid h4
  clear h4
  have h5' := hid h5
  clear h5
  have h6' := hid h6
  clear h6
  have HB0 := hid (Below.refl w.heap.size w)
  have R0_x : Hid (RatAt (((w.alloc (.cells #[.int .i64 P1, .int .i64 Q1] 23)).alloc (.cells #[.int .i64 P2, .int .i64 Q2] 23)).alloc (.cells #[.int .i64 P3, .int .i64 Q3] 23)) w.heap.size (P1) (Q1)) := ((RatAt.new w 23 (P1) (Q1)).keep_alloc (.cells #[.int .i64 (P2), .int .i64 (Q2)] 23)).keep_alloc (.cells #[.int .i64 (P3), .int .i64 (Q3)] 23)
  have R0_y : Hid (RatAt (((w.alloc (.cells #[.int .i64 P1, .int .i64 Q1] 23)).alloc (.cells #[.int .i64 P2, .int .i64 Q2] 23)).alloc (.cells #[.int .i64 P3, .int .i64 Q3] 23)) (w.heap.size + 1) (P2) (Q2)) := (rat_second w _ 23 (P2) (Q2)).keep_alloc (.cells #[.int .i64 (P3), .int .i64 (Q3)] 23)
  have R0_z : Hid (RatAt (((w.alloc (.cells #[.int .i64 P1, .int .i64 Q1] 23)).alloc (.cells #[.int .i64 P2, .int .i64 Q2] 23)).alloc (.cells #[.int .i64 P3, .int .i64 Q3] 23)) (w.heap.size + 2) (P3) (Q3)) := rat_third w _ _ 23 (P3) (Q3)
  have HBx : Hid (Below w.heap.size w (((w.alloc (.cells #[.int .i64 P1, .int .i64 Q1] 23)).alloc (.cells #[.int .i64 P2, .int .i64 Q2] 23)).alloc (.cells #[.int .i64 P3, .int .i64 Q3] 23))) := three_alloc w _ _ _
  clear HB0
  have HB0 := HBx
  clear HBx
  go_enter Try.func6, Try.ntmps6
  go_wp2_with fail
  refine (third_half _).mono ?_
  rintro e w1 ⟨rfl, hb⟩
  have R1_x := hid ((R0_x.out).keep hb)
  have R1_y := hid ((R0_y.out).keep hb)
  have R1_z := hid ((R0_z.out).keep hb)
  have HB1 := hid (below_step HB0.out (Nat.le_refl _) hb)
  clear hb HB0 R0_x R0_y R0_z
  have g0_x := R1_x.out.p0
  have g1_x := R1_x.out.p1
  have gl_x := R1_x.out.lt
  have g0_y := R1_y.out.p0
  have g1_y := R1_y.out.p1
  have gl_y := R1_y.out.lt
  have g0_z := R1_z.out.p0
  have g1_z := R1_z.out.p1
  have gl_z := R1_z.out.lt
  go_wp2_with fail
  refine (ratios_any _).mono ?_
  rintro e w2 ⟨rfl, hb⟩
  clear g0_x g1_x gl_x g0_y g1_y gl_y g0_z g1_z gl_z
  have R2_x := hid ((R1_x.out).keep hb)
  have R2_y := hid ((R1_y.out).keep hb)
  have R2_z := hid ((R1_z.out).keep hb)
  have HB2 := hid (below_step HB1.out (Nat.le_refl _) hb)
  clear hb HB1 R1_x R1_y R1_z
  have g0_x := R2_x.out.p0
  have g1_x := R2_x.out.p1
  have gl_x := R2_x.out.lt
  have g0_y := R2_y.out.p0
  have g1_y := R2_y.out.p1
  have gl_y := R2_y.out.lt
  have g0_z := R2_z.out.p0
  have g1_z := R2_z.out.p1
  have gl_z := R2_z.out.lt
  go_wp2_with fail
  refine (h1'.out _).mono ?_
  rintro e w3 ⟨rfl, hb⟩
  clear g0_x g1_x gl_x g0_y g1_y gl_y g0_z g1_z gl_z
  have R3_x := hid ((R2_x.out).keep hb)
  have R3_y := hid ((R2_y.out).keep hb)
  have R3_z := hid ((R2_z.out).keep hb)
  have HB3 := hid (below_step HB2.out (Nat.le_refl _) hb)
  clear hb HB2 R2_x R2_y R2_z
  have g0_x := R3_x.out.p0
  have g1_x := R3_x.out.p1
  have gl_x := R3_x.out.lt
  have g0_y := R3_y.out.p0
  have g1_y := R3_y.out.p1
  have gl_y := R3_y.out.lt
  have g0_z := R3_z.out.p0
  have g1_z := R3_z.out.p1
  have gl_z := R3_z.out.lt
  go_wp2_with fail
  refine (h2'.out _).mono ?_
  rintro e w4 ⟨rfl, hb⟩
  clear g0_x g1_x gl_x g0_y g1_y gl_y g0_z g1_z gl_z
  have R4_x := hid ((R3_x.out).keep hb)
  have R4_y := hid ((R3_y.out).keep hb)
  have R4_z := hid ((R3_z.out).keep hb)
  have HB4 := hid (below_step HB3.out (Nat.le_refl _) hb)
  clear hb HB3 R3_x R3_y R3_z
  have g0_x := R4_x.out.p0
  have g1_x := R4_x.out.p1
  have gl_x := R4_x.out.lt
  have g0_y := R4_y.out.p0
  have g1_y := R4_y.out.p1
  have gl_y := R4_y.out.lt
  have g0_z := R4_z.out.p0
  have g1_z := R4_z.out.p1
  have gl_z := R4_z.out.lt
  go_wp2_with fail
  refine (h3'.out _).mono ?_
  rintro e w5 ⟨rfl, hb⟩
  clear g0_x g1_x gl_x g0_y g1_y gl_y g0_z g1_z gl_z
  have R5_x := hid ((R4_x.out).keep hb)
  have R5_y := hid ((R4_y.out).keep hb)
  have R5_z := hid ((R4_z.out).keep hb)
  have HB5 := hid (below_step HB4.out (Nat.le_refl _) hb)
  clear hb HB4 R4_x R4_y R4_z
  have g0_x := R5_x.out.p0
  have g1_x := R5_x.out.p1
  have gl_x := R5_x.out.lt
  have g0_y := R5_y.out.p0
  have g1_y := R5_y.out.p1
  have gl_y := R5_y.out.lt
  have g0_z := R5_z.out.p0
  have g1_z := R5_z.out.p1
  have gl_z := R5_z.out.lt
  go_wp2_with fail
  refine (h4'.out _).mono ?_
  rintro e w6 ⟨rfl, hb⟩
  clear g0_x g1_x gl_x g0_y g1_y gl_y g0_z g1_z gl_z
  have R6_x := hid ((R5_x.out).keep hb)
  have R6_y := hid ((R5_y.out).keep hb)
  have R6_z := hid ((R5_z.out).keep hb)
  have HB6 := hid (below_step HB5.out (Nat.le_refl _) hb)
  clear hb HB5 R5_x R5_y R5_z
  have g0_x := R6_x.out.p0
  have g1_x := R6_x.out.p1
  have gl_x := R6_x.out.lt
  have g0_y := R6_y.out.p0
  have g1_y := R6_y.out.p1
  have gl_y := R6_y.out.lt
  have g0_z := R6_z.out.p0
  have g1_z := R6_z.out.p1
  have gl_z := R6_z.out.lt
  go_wp2_with fail
  refine (good_bel _ _ _ 4 [0, 0, 0, 0] rfl rfl (by omega)).mono ?_
  rintro e w7 ⟨rfl, hb⟩
  clear g0_x g1_x gl_x g0_y g1_y gl_y g0_z g1_z gl_z
  rw [show allOK [0, 0, 0, 0] = true by decide]
  have R7_x := hid ((R6_x.out).keep hb)
  have R7_y := hid ((R6_y.out).keep hb)
  have R7_z := hid ((R6_z.out).keep hb)
  have HB7 := hid (below_step HB6.out (Nat.le_refl _) hb)
  clear hb HB6 R6_x R6_y R6_z
  have g0_x := R7_x.out.p0
  have g1_x := R7_x.out.p1
  have gl_x := R7_x.out.lt
  have g0_y := R7_y.out.p0
  have g1_y := R7_y.out.p1
  have gl_y := R7_y.out.lt
  have g0_z := R7_z.out.p0
  have g1_z := R7_z.out.p1
  have gl_z := R7_z.out.lt
  go_wp2_with fail
  refine (h5'.out _).mono ?_
  rintro e w8 ⟨rfl, hb⟩
  clear g0_x g1_x gl_x g0_y g1_y gl_y g0_z g1_z gl_z
  have R8_x := hid ((R7_x.out).keep hb)
  have R8_y := hid ((R7_y.out).keep hb)
  have R8_z := hid ((R7_z.out).keep hb)
  have HB8 := hid (below_step HB7.out (Nat.le_refl _) hb)
  clear hb HB7 R7_x R7_y R7_z
  have g0_x := R8_x.out.p0
  have g1_x := R8_x.out.p1
  have gl_x := R8_x.out.lt
  have g0_y := R8_y.out.p0
  have g1_y := R8_y.out.p1
  have gl_y := R8_y.out.lt
  have g0_z := R8_z.out.p0
  have g1_z := R8_z.out.p1
  have gl_z := R8_z.out.lt
  go_wp2_with fail
  refine (h6'.out _).mono ?_
  rintro e w9 ⟨rfl, hb⟩
  clear g0_x g1_x gl_x g0_y g1_y gl_y g0_z g1_z gl_z
  have R9_x := hid (((R8_x.out).keep_alloc (.cells #[.int .i64 (P4), .int .i64 (Q4)] 23)).keep hb)
  have R9_y := hid (((R8_y.out).keep_alloc (.cells #[.int .i64 (P4), .int .i64 (Q4)] 23)).keep hb)
  have R9_z := hid (((R8_z.out).keep_alloc (.cells #[.int .i64 (P4), .int .i64 (Q4)] 23)).keep hb)
  have R9_u := hid ((RatAt.new w8 23 (P4) (Q4)).keep hb)
  have HB9 := hid (below_step (below_step HB8.out (Nat.le_refl _) (below_alloc w8 (.cells #[.int .i64 (P4), .int .i64 (Q4)] 23))) (Nat.le_refl _) hb)
  clear hb HB8 R8_x R8_y R8_z
  have g0_x := R9_x.out.p0
  have g1_x := R9_x.out.p1
  have gl_x := R9_x.out.lt
  have g0_y := R9_y.out.p0
  have g1_y := R9_y.out.p1
  have gl_y := R9_y.out.lt
  have g0_z := R9_z.out.p0
  have g1_z := R9_z.out.p1
  have gl_z := R9_z.out.lt
  have g0_u := R9_u.out.p0
  have g1_u := R9_u.out.p1
  have gl_u := R9_u.out.lt
  go_wp2_with fail
  refine (good_bel1 _ _ _ _ 2 [e5, e6] rfl rfl (by omega)).mono ?_
  rintro e w10 ⟨rfl, hb⟩
  clear g0_x g1_x gl_x g0_y g1_y gl_y g0_z g1_z gl_z g0_u g1_u gl_u
  rw [hg.out]
  have R10_x := hid (((R9_x.out).keep_alloc (.cells #[.int .i64 (P5), .int .i64 (Q5)] 23)).keep hb)
  have R10_y := hid (((R9_y.out).keep_alloc (.cells #[.int .i64 (P5), .int .i64 (Q5)] 23)).keep hb)
  have R10_z := hid (((R9_z.out).keep_alloc (.cells #[.int .i64 (P5), .int .i64 (Q5)] 23)).keep hb)
  have R10_u := hid (((R9_u.out).keep_alloc (.cells #[.int .i64 (P5), .int .i64 (Q5)] 23)).keep hb)
  have R10_v := hid ((RatAt.new w9 23 (P5) (Q5)).keep hb)
  have HB10 := hid (below_step (below_step HB9.out (Nat.le_refl _) (below_alloc w9 (.cells #[.int .i64 (P5), .int .i64 (Q5)] 23))) (Nat.le_refl _) hb)
  clear hb HB9 R9_x R9_y R9_z R9_u
  have g0_x := R10_x.out.p0
  have g1_x := R10_x.out.p1
  have gl_x := R10_x.out.lt
  have g0_y := R10_y.out.p0
  have g1_y := R10_y.out.p1
  have gl_y := R10_y.out.lt
  have g0_z := R10_z.out.p0
  have g1_z := R10_z.out.p1
  have gl_z := R10_z.out.lt
  have g0_u := R10_u.out.p0
  have g1_u := R10_u.out.p1
  have gl_u := R10_u.out.lt
  have g0_v := R10_v.out.p0
  have g1_v := R10_v.out.p1
  have gl_v := R10_v.out.lt
  go_wp2
  all_goals first | (exfalso; have hcc := HNE.out; simp only [*] at hcc; simp at hcc; done) | (go_ret; exact ⟨rfl, HB10.out⟩)

set_option maxHeartbeats 2000000 in
set_option maxRecDepth 100000 in
theorem ratioOrder_tft_fit (P1 Q1 P2 Q2 P3 Q3 : Int) (P4 Q4 P5 Q5 : Int)  (hxy : ¬ (P1 = P2 ∧ Q1 = Q2)) (h1 : (∀ W, Calls Try.prog 14 #[.agg #[.int .i64 P1, .int .i64 Q1], .agg #[.int .i64 P2, .int .i64 Q2]] W (RetB W true 0))) (h2 : (∀ W, Calls Try.prog 14 #[.agg #[.int .i64 P2, .int .i64 Q2], .agg #[.int .i64 P1, .int .i64 Q1]] W (RetB W false 0))) (h3 : (∀ W, Calls Try.prog 14 #[.agg #[.int .i64 P2, .int .i64 Q2], .agg #[.int .i64 P3, .int .i64 Q3]] W (RetB W true 0))) (h4 : (∀ W, Calls Try.prog 14 #[.agg #[.int .i64 P1, .int .i64 Q1], .agg #[.int .i64 P3, .int .i64 Q3]] W (RetB W true 0))) (h5 : (∀ W, Calls Try.prog 11 #[.agg #[.int .i64 P1, .int .i64 Q1], .agg #[.int .i64 P3, .int .i64 Q3]] W (RetR W P4 Q4 0))) (h6 : (∀ W, Calls Try.prog 11 #[.agg #[.int .i64 P2, .int .i64 Q2], .agg #[.int .i64 P3, .int .i64 Q3]] W (RetR W P5 Q5 0))) (h7 : (∀ W, Calls Try.prog 14 #[.agg #[.int .i64 P4, .int .i64 Q4], .agg #[.int .i64 P5, .int .i64 Q5]] W (RetB W true 0))) (w : World) :
    Calls Try.prog 6 #[.agg #[.int .i64 P1, .int .i64 Q1], .agg #[.int .i64 P2, .int .i64 Q2], .agg #[.int .i64 P3, .int .i64 Q3]] w fun e w' => e = .returned (.bool true) ∧ Below w.heap.size w w' := by
  have HNE : Hid ((P1 == P2 && Q1 == Q2) = false) := by
    show _ = _
    simp
    omega
  clear hxy
  have h1' := hid h1
  clear h1
  have h2' := hid h2
  clear h2
  have h3' := hid h3
  clear h3
  have h4' := hid h4
  clear h4
  have h5' := hid h5
  clear h5
  have h6' := hid h6
  clear h6
  have h7' := hid h7
  clear h7
  have HB0 := hid (Below.refl w.heap.size w)
  have R0_x : Hid (RatAt (((w.alloc (.cells #[.int .i64 P1, .int .i64 Q1] 23)).alloc (.cells #[.int .i64 P2, .int .i64 Q2] 23)).alloc (.cells #[.int .i64 P3, .int .i64 Q3] 23)) w.heap.size (P1) (Q1)) := ((RatAt.new w 23 (P1) (Q1)).keep_alloc (.cells #[.int .i64 (P2), .int .i64 (Q2)] 23)).keep_alloc (.cells #[.int .i64 (P3), .int .i64 (Q3)] 23)
  have R0_y : Hid (RatAt (((w.alloc (.cells #[.int .i64 P1, .int .i64 Q1] 23)).alloc (.cells #[.int .i64 P2, .int .i64 Q2] 23)).alloc (.cells #[.int .i64 P3, .int .i64 Q3] 23)) (w.heap.size + 1) (P2) (Q2)) := (rat_second w _ 23 (P2) (Q2)).keep_alloc (.cells #[.int .i64 (P3), .int .i64 (Q3)] 23)
  have R0_z : Hid (RatAt (((w.alloc (.cells #[.int .i64 P1, .int .i64 Q1] 23)).alloc (.cells #[.int .i64 P2, .int .i64 Q2] 23)).alloc (.cells #[.int .i64 P3, .int .i64 Q3] 23)) (w.heap.size + 2) (P3) (Q3)) := rat_third w _ _ 23 (P3) (Q3)
  have HBx : Hid (Below w.heap.size w (((w.alloc (.cells #[.int .i64 P1, .int .i64 Q1] 23)).alloc (.cells #[.int .i64 P2, .int .i64 Q2] 23)).alloc (.cells #[.int .i64 P3, .int .i64 Q3] 23))) := three_alloc w _ _ _
  clear HB0
  have HB0 := HBx
  clear HBx
  go_enter Try.func6, Try.ntmps6
  go_wp2_with fail
  refine (third_half _).mono ?_
  rintro e w1 ⟨rfl, hb⟩
  have R1_x := hid ((R0_x.out).keep hb)
  have R1_y := hid ((R0_y.out).keep hb)
  have R1_z := hid ((R0_z.out).keep hb)
  have HB1 := hid (below_step HB0.out (Nat.le_refl _) hb)
  clear hb HB0 R0_x R0_y R0_z
  have g0_x := R1_x.out.p0
  have g1_x := R1_x.out.p1
  have gl_x := R1_x.out.lt
  have g0_y := R1_y.out.p0
  have g1_y := R1_y.out.p1
  have gl_y := R1_y.out.lt
  have g0_z := R1_z.out.p0
  have g1_z := R1_z.out.p1
  have gl_z := R1_z.out.lt
  go_wp2_with fail
  refine (ratios_any _).mono ?_
  rintro e w2 ⟨rfl, hb⟩
  clear g0_x g1_x gl_x g0_y g1_y gl_y g0_z g1_z gl_z
  have R2_x := hid ((R1_x.out).keep hb)
  have R2_y := hid ((R1_y.out).keep hb)
  have R2_z := hid ((R1_z.out).keep hb)
  have HB2 := hid (below_step HB1.out (Nat.le_refl _) hb)
  clear hb HB1 R1_x R1_y R1_z
  have g0_x := R2_x.out.p0
  have g1_x := R2_x.out.p1
  have gl_x := R2_x.out.lt
  have g0_y := R2_y.out.p0
  have g1_y := R2_y.out.p1
  have gl_y := R2_y.out.lt
  have g0_z := R2_z.out.p0
  have g1_z := R2_z.out.p1
  have gl_z := R2_z.out.lt
  go_wp2_with fail
  refine (h1'.out _).mono ?_
  rintro e w3 ⟨rfl, hb⟩
  clear g0_x g1_x gl_x g0_y g1_y gl_y g0_z g1_z gl_z
  have R3_x := hid ((R2_x.out).keep hb)
  have R3_y := hid ((R2_y.out).keep hb)
  have R3_z := hid ((R2_z.out).keep hb)
  have HB3 := hid (below_step HB2.out (Nat.le_refl _) hb)
  clear hb HB2 R2_x R2_y R2_z
  have g0_x := R3_x.out.p0
  have g1_x := R3_x.out.p1
  have gl_x := R3_x.out.lt
  have g0_y := R3_y.out.p0
  have g1_y := R3_y.out.p1
  have gl_y := R3_y.out.lt
  have g0_z := R3_z.out.p0
  have g1_z := R3_z.out.p1
  have gl_z := R3_z.out.lt
  go_wp2_with fail
  refine (h2'.out _).mono ?_
  rintro e w4 ⟨rfl, hb⟩
  clear g0_x g1_x gl_x g0_y g1_y gl_y g0_z g1_z gl_z
  have R4_x := hid ((R3_x.out).keep hb)
  have R4_y := hid ((R3_y.out).keep hb)
  have R4_z := hid ((R3_z.out).keep hb)
  have HB4 := hid (below_step HB3.out (Nat.le_refl _) hb)
  clear hb HB3 R3_x R3_y R3_z
  have g0_x := R4_x.out.p0
  have g1_x := R4_x.out.p1
  have gl_x := R4_x.out.lt
  have g0_y := R4_y.out.p0
  have g1_y := R4_y.out.p1
  have gl_y := R4_y.out.lt
  have g0_z := R4_z.out.p0
  have g1_z := R4_z.out.p1
  have gl_z := R4_z.out.lt
  go_wp2_with fail
  refine (h3'.out _).mono ?_
  rintro e w5 ⟨rfl, hb⟩
  clear g0_x g1_x gl_x g0_y g1_y gl_y g0_z g1_z gl_z
  have R5_x := hid ((R4_x.out).keep hb)
  have R5_y := hid ((R4_y.out).keep hb)
  have R5_z := hid ((R4_z.out).keep hb)
  have HB5 := hid (below_step HB4.out (Nat.le_refl _) hb)
  clear hb HB4 R4_x R4_y R4_z
  have g0_x := R5_x.out.p0
  have g1_x := R5_x.out.p1
  have gl_x := R5_x.out.lt
  have g0_y := R5_y.out.p0
  have g1_y := R5_y.out.p1
  have gl_y := R5_y.out.lt
  have g0_z := R5_z.out.p0
  have g1_z := R5_z.out.p1
  have gl_z := R5_z.out.lt
  go_wp2_with fail
  refine (h4'.out _).mono ?_
  rintro e w6 ⟨rfl, hb⟩
  clear g0_x g1_x gl_x g0_y g1_y gl_y g0_z g1_z gl_z
  have R6_x := hid ((R5_x.out).keep hb)
  have R6_y := hid ((R5_y.out).keep hb)
  have R6_z := hid ((R5_z.out).keep hb)
  have HB6 := hid (below_step HB5.out (Nat.le_refl _) hb)
  clear hb HB5 R5_x R5_y R5_z
  have g0_x := R6_x.out.p0
  have g1_x := R6_x.out.p1
  have gl_x := R6_x.out.lt
  have g0_y := R6_y.out.p0
  have g1_y := R6_y.out.p1
  have gl_y := R6_y.out.lt
  have g0_z := R6_z.out.p0
  have g1_z := R6_z.out.p1
  have gl_z := R6_z.out.lt
  go_wp2_with fail
  refine (good_bel _ _ _ 4 [0, 0, 0, 0] rfl rfl (by omega)).mono ?_
  rintro e w7 ⟨rfl, hb⟩
  clear g0_x g1_x gl_x g0_y g1_y gl_y g0_z g1_z gl_z
  rw [show allOK [0, 0, 0, 0] = true by decide]
  have R7_x := hid ((R6_x.out).keep hb)
  have R7_y := hid ((R6_y.out).keep hb)
  have R7_z := hid ((R6_z.out).keep hb)
  have HB7 := hid (below_step HB6.out (Nat.le_refl _) hb)
  clear hb HB6 R6_x R6_y R6_z
  have g0_x := R7_x.out.p0
  have g1_x := R7_x.out.p1
  have gl_x := R7_x.out.lt
  have g0_y := R7_y.out.p0
  have g1_y := R7_y.out.p1
  have gl_y := R7_y.out.lt
  have g0_z := R7_z.out.p0
  have g1_z := R7_z.out.p1
  have gl_z := R7_z.out.lt
  go_wp2_with fail
  refine (h5'.out _).mono ?_
  rintro e w8 ⟨rfl, hb⟩
  clear g0_x g1_x gl_x g0_y g1_y gl_y g0_z g1_z gl_z
  have R8_x := hid ((R7_x.out).keep hb)
  have R8_y := hid ((R7_y.out).keep hb)
  have R8_z := hid ((R7_z.out).keep hb)
  have HB8 := hid (below_step HB7.out (Nat.le_refl _) hb)
  clear hb HB7 R7_x R7_y R7_z
  have g0_x := R8_x.out.p0
  have g1_x := R8_x.out.p1
  have gl_x := R8_x.out.lt
  have g0_y := R8_y.out.p0
  have g1_y := R8_y.out.p1
  have gl_y := R8_y.out.lt
  have g0_z := R8_z.out.p0
  have g1_z := R8_z.out.p1
  have gl_z := R8_z.out.lt
  go_wp2_with fail
  refine (h6'.out _).mono ?_
  rintro e w9 ⟨rfl, hb⟩
  clear g0_x g1_x gl_x g0_y g1_y gl_y g0_z g1_z gl_z
  have R9_x := hid (((R8_x.out).keep_alloc (.cells #[.int .i64 (P4), .int .i64 (Q4)] 23)).keep hb)
  have R9_y := hid (((R8_y.out).keep_alloc (.cells #[.int .i64 (P4), .int .i64 (Q4)] 23)).keep hb)
  have R9_z := hid (((R8_z.out).keep_alloc (.cells #[.int .i64 (P4), .int .i64 (Q4)] 23)).keep hb)
  have R9_u := hid ((RatAt.new w8 23 (P4) (Q4)).keep hb)
  have HB9 := hid (below_step (below_step HB8.out (Nat.le_refl _) (below_alloc w8 (.cells #[.int .i64 (P4), .int .i64 (Q4)] 23))) (Nat.le_refl _) hb)
  clear hb HB8 R8_x R8_y R8_z
  have g0_x := R9_x.out.p0
  have g1_x := R9_x.out.p1
  have gl_x := R9_x.out.lt
  have g0_y := R9_y.out.p0
  have g1_y := R9_y.out.p1
  have gl_y := R9_y.out.lt
  have g0_z := R9_z.out.p0
  have g1_z := R9_z.out.p1
  have gl_z := R9_z.out.lt
  have g0_u := R9_u.out.p0
  have g1_u := R9_u.out.p1
  have gl_u := R9_u.out.lt
  go_wp2_with fail
  refine (good_bel1 _ _ _ _ 2 [0, 0] rfl rfl (by omega)).mono ?_
  rintro e w10 ⟨rfl, hb⟩
  clear g0_x g1_x gl_x g0_y g1_y gl_y g0_z g1_z gl_z g0_u g1_u gl_u
  rw [show allOK [0, 0] = true by decide]
  have R10_x := hid (((R9_x.out).keep_alloc (.cells #[.int .i64 (P5), .int .i64 (Q5)] 23)).keep hb)
  have R10_y := hid (((R9_y.out).keep_alloc (.cells #[.int .i64 (P5), .int .i64 (Q5)] 23)).keep hb)
  have R10_z := hid (((R9_z.out).keep_alloc (.cells #[.int .i64 (P5), .int .i64 (Q5)] 23)).keep hb)
  have R10_u := hid (((R9_u.out).keep_alloc (.cells #[.int .i64 (P5), .int .i64 (Q5)] 23)).keep hb)
  have R10_v := hid ((RatAt.new w9 23 (P5) (Q5)).keep hb)
  have HB10 := hid (below_step (below_step HB9.out (Nat.le_refl _) (below_alloc w9 (.cells #[.int .i64 (P5), .int .i64 (Q5)] 23))) (Nat.le_refl _) hb)
  clear hb HB9 R9_x R9_y R9_z R9_u
  have g0_x := R10_x.out.p0
  have g1_x := R10_x.out.p1
  have gl_x := R10_x.out.lt
  have g0_y := R10_y.out.p0
  have g1_y := R10_y.out.p1
  have gl_y := R10_y.out.lt
  have g0_z := R10_z.out.p0
  have g1_z := R10_z.out.p1
  have gl_z := R10_z.out.lt
  have g0_u := R10_u.out.p0
  have g1_u := R10_u.out.p1
  have gl_u := R10_u.out.lt
  have g0_v := R10_v.out.p0
  have g1_v := R10_v.out.p1
  have gl_v := R10_v.out.lt
  go_wp2_with fail
  refine (h7'.out _).mono ?_
  rintro e w11 ⟨rfl, hb⟩
  clear g0_x g1_x gl_x g0_y g1_y gl_y g0_z g1_z gl_z g0_u g1_u gl_u g0_v g1_v gl_v
  have R11_x := hid ((R10_x.out).keep hb)
  have R11_y := hid ((R10_y.out).keep hb)
  have R11_z := hid ((R10_z.out).keep hb)
  have R11_u := hid ((R10_u.out).keep hb)
  have R11_v := hid ((R10_v.out).keep hb)
  have HB11 := hid (below_step HB10.out (Nat.le_refl _) hb)
  clear hb HB10 R10_x R10_y R10_z R10_u R10_v
  have g0_x := R11_x.out.p0
  have g1_x := R11_x.out.p1
  have gl_x := R11_x.out.lt
  have g0_y := R11_y.out.p0
  have g1_y := R11_y.out.p1
  have gl_y := R11_y.out.lt
  have g0_z := R11_z.out.p0
  have g1_z := R11_z.out.p1
  have gl_z := R11_z.out.lt
  have g0_u := R11_u.out.p0
  have g1_u := R11_u.out.p1
  have gl_u := R11_u.out.lt
  have g0_v := R11_v.out.p0
  have g1_v := R11_v.out.p1
  have gl_v := R11_v.out.lt
  go_wp2
  all_goals first | (exfalso; have hcc := HNE.out; simp only [*] at hcc; simp at hcc; done) | (go_ret; exact ⟨rfl, HB11.out⟩)

set_option maxHeartbeats 2000000 in
set_option maxRecDepth 100000 in
theorem ratioOrder_ftc_not (P1 Q1 P2 Q2 P3 Q3 : Int) (P4 Q4 P5 Q5 e5 e6 : Int) (c : Bool) (d : Bool) (he : e5 ≠ 0 ∨ e6 ≠ 0) (hxy : ¬ (P1 = P2 ∧ Q1 = Q2)) (h1 : (∀ W, Calls Try.prog 14 #[.agg #[.int .i64 P1, .int .i64 Q1], .agg #[.int .i64 P2, .int .i64 Q2]] W (RetB W false 0))) (h2 : (∀ W, Calls Try.prog 14 #[.agg #[.int .i64 P2, .int .i64 Q2], .agg #[.int .i64 P1, .int .i64 Q1]] W (RetB W true 0))) (h3 : (∀ W, Calls Try.prog 14 #[.agg #[.int .i64 P2, .int .i64 Q2], .agg #[.int .i64 P3, .int .i64 Q3]] W (RetB W c 0))) (h4 : (∀ W, Calls Try.prog 14 #[.agg #[.int .i64 P1, .int .i64 Q1], .agg #[.int .i64 P3, .int .i64 Q3]] W (RetB W d 0))) (h5 : (∀ W, Calls Try.prog 11 #[.agg #[.int .i64 P1, .int .i64 Q1], .agg #[.int .i64 P3, .int .i64 Q3]] W (RetR W P4 Q4 e5))) (h6 : (∀ W, Calls Try.prog 11 #[.agg #[.int .i64 P2, .int .i64 Q2], .agg #[.int .i64 P3, .int .i64 Q3]] W (RetR W P5 Q5 e6))) (w : World) :
    Calls Try.prog 6 #[.agg #[.int .i64 P1, .int .i64 Q1], .agg #[.int .i64 P2, .int .i64 Q2], .agg #[.int .i64 P3, .int .i64 Q3]] w fun e w' => e = .returned (.bool true) ∧ Below w.heap.size w w' := by
  have HNE : Hid ((P1 == P2 && Q1 == Q2) = false) := by
    show _ = _
    simp
    omega
  clear hxy
  have hg : Hid (allOK [e5, e6] = false) := by
    show _ = _
    by_cases h : e5 = 0
    · have h' : (e6 == 0) = false := by simp; omega
      simp [allOK, h']
    · have h' : (e5 == 0) = false := by simpa using h
      simp [allOK, h']
  clear he
  have h1' := hid h1
  clear h1
  have h2' := hid h2
  clear h2
  have h3' := hid h3
  clear h3
  have h4' := hid h4
  clear h4
  have h5' := hid h5
  clear h5
  have h6' := hid h6
  clear h6
  have HB0 := hid (Below.refl w.heap.size w)
  have R0_x : Hid (RatAt (((w.alloc (.cells #[.int .i64 P1, .int .i64 Q1] 23)).alloc (.cells #[.int .i64 P2, .int .i64 Q2] 23)).alloc (.cells #[.int .i64 P3, .int .i64 Q3] 23)) w.heap.size (P1) (Q1)) := ((RatAt.new w 23 (P1) (Q1)).keep_alloc (.cells #[.int .i64 (P2), .int .i64 (Q2)] 23)).keep_alloc (.cells #[.int .i64 (P3), .int .i64 (Q3)] 23)
  have R0_y : Hid (RatAt (((w.alloc (.cells #[.int .i64 P1, .int .i64 Q1] 23)).alloc (.cells #[.int .i64 P2, .int .i64 Q2] 23)).alloc (.cells #[.int .i64 P3, .int .i64 Q3] 23)) (w.heap.size + 1) (P2) (Q2)) := (rat_second w _ 23 (P2) (Q2)).keep_alloc (.cells #[.int .i64 (P3), .int .i64 (Q3)] 23)
  have R0_z : Hid (RatAt (((w.alloc (.cells #[.int .i64 P1, .int .i64 Q1] 23)).alloc (.cells #[.int .i64 P2, .int .i64 Q2] 23)).alloc (.cells #[.int .i64 P3, .int .i64 Q3] 23)) (w.heap.size + 2) (P3) (Q3)) := rat_third w _ _ 23 (P3) (Q3)
  have HBx : Hid (Below w.heap.size w (((w.alloc (.cells #[.int .i64 P1, .int .i64 Q1] 23)).alloc (.cells #[.int .i64 P2, .int .i64 Q2] 23)).alloc (.cells #[.int .i64 P3, .int .i64 Q3] 23))) := three_alloc w _ _ _
  clear HB0
  have HB0 := HBx
  clear HBx
  go_enter Try.func6, Try.ntmps6
  go_wp2_with fail
  refine (third_half _).mono ?_
  rintro e w1 ⟨rfl, hb⟩
  have R1_x := hid ((R0_x.out).keep hb)
  have R1_y := hid ((R0_y.out).keep hb)
  have R1_z := hid ((R0_z.out).keep hb)
  have HB1 := hid (below_step HB0.out (Nat.le_refl _) hb)
  clear hb HB0 R0_x R0_y R0_z
  have g0_x := R1_x.out.p0
  have g1_x := R1_x.out.p1
  have gl_x := R1_x.out.lt
  have g0_y := R1_y.out.p0
  have g1_y := R1_y.out.p1
  have gl_y := R1_y.out.lt
  have g0_z := R1_z.out.p0
  have g1_z := R1_z.out.p1
  have gl_z := R1_z.out.lt
  go_wp2_with fail
  refine (ratios_any _).mono ?_
  rintro e w2 ⟨rfl, hb⟩
  clear g0_x g1_x gl_x g0_y g1_y gl_y g0_z g1_z gl_z
  have R2_x := hid ((R1_x.out).keep hb)
  have R2_y := hid ((R1_y.out).keep hb)
  have R2_z := hid ((R1_z.out).keep hb)
  have HB2 := hid (below_step HB1.out (Nat.le_refl _) hb)
  clear hb HB1 R1_x R1_y R1_z
  have g0_x := R2_x.out.p0
  have g1_x := R2_x.out.p1
  have gl_x := R2_x.out.lt
  have g0_y := R2_y.out.p0
  have g1_y := R2_y.out.p1
  have gl_y := R2_y.out.lt
  have g0_z := R2_z.out.p0
  have g1_z := R2_z.out.p1
  have gl_z := R2_z.out.lt
  go_wp2_with fail
  refine (h1'.out _).mono ?_
  rintro e w3 ⟨rfl, hb⟩
  clear g0_x g1_x gl_x g0_y g1_y gl_y g0_z g1_z gl_z
  have R3_x := hid ((R2_x.out).keep hb)
  have R3_y := hid ((R2_y.out).keep hb)
  have R3_z := hid ((R2_z.out).keep hb)
  have HB3 := hid (below_step HB2.out (Nat.le_refl _) hb)
  clear hb HB2 R2_x R2_y R2_z
  have g0_x := R3_x.out.p0
  have g1_x := R3_x.out.p1
  have gl_x := R3_x.out.lt
  have g0_y := R3_y.out.p0
  have g1_y := R3_y.out.p1
  have gl_y := R3_y.out.lt
  have g0_z := R3_z.out.p0
  have g1_z := R3_z.out.p1
  have gl_z := R3_z.out.lt
  go_wp2_with fail
  refine (h2'.out _).mono ?_
  rintro e w4 ⟨rfl, hb⟩
  clear g0_x g1_x gl_x g0_y g1_y gl_y g0_z g1_z gl_z
  have R4_x := hid ((R3_x.out).keep hb)
  have R4_y := hid ((R3_y.out).keep hb)
  have R4_z := hid ((R3_z.out).keep hb)
  have HB4 := hid (below_step HB3.out (Nat.le_refl _) hb)
  clear hb HB3 R3_x R3_y R3_z
  have g0_x := R4_x.out.p0
  have g1_x := R4_x.out.p1
  have gl_x := R4_x.out.lt
  have g0_y := R4_y.out.p0
  have g1_y := R4_y.out.p1
  have gl_y := R4_y.out.lt
  have g0_z := R4_z.out.p0
  have g1_z := R4_z.out.p1
  have gl_z := R4_z.out.lt
  go_wp2_with fail
  refine (h3'.out _).mono ?_
  rintro e w5 ⟨rfl, hb⟩
  clear g0_x g1_x gl_x g0_y g1_y gl_y g0_z g1_z gl_z
  have R5_x := hid ((R4_x.out).keep hb)
  have R5_y := hid ((R4_y.out).keep hb)
  have R5_z := hid ((R4_z.out).keep hb)
  have HB5 := hid (below_step HB4.out (Nat.le_refl _) hb)
  clear hb HB4 R4_x R4_y R4_z
  have g0_x := R5_x.out.p0
  have g1_x := R5_x.out.p1
  have gl_x := R5_x.out.lt
  have g0_y := R5_y.out.p0
  have g1_y := R5_y.out.p1
  have gl_y := R5_y.out.lt
  have g0_z := R5_z.out.p0
  have g1_z := R5_z.out.p1
  have gl_z := R5_z.out.lt
  go_wp2_with fail
  refine (h4'.out _).mono ?_
  rintro e w6 ⟨rfl, hb⟩
  clear g0_x g1_x gl_x g0_y g1_y gl_y g0_z g1_z gl_z
  have R6_x := hid ((R5_x.out).keep hb)
  have R6_y := hid ((R5_y.out).keep hb)
  have R6_z := hid ((R5_z.out).keep hb)
  have HB6 := hid (below_step HB5.out (Nat.le_refl _) hb)
  clear hb HB5 R5_x R5_y R5_z
  have g0_x := R6_x.out.p0
  have g1_x := R6_x.out.p1
  have gl_x := R6_x.out.lt
  have g0_y := R6_y.out.p0
  have g1_y := R6_y.out.p1
  have gl_y := R6_y.out.lt
  have g0_z := R6_z.out.p0
  have g1_z := R6_z.out.p1
  have gl_z := R6_z.out.lt
  go_wp2_with fail
  refine (good_bel _ _ _ 4 [0, 0, 0, 0] rfl rfl (by omega)).mono ?_
  rintro e w7 ⟨rfl, hb⟩
  clear g0_x g1_x gl_x g0_y g1_y gl_y g0_z g1_z gl_z
  rw [show allOK [0, 0, 0, 0] = true by decide]
  have R7_x := hid ((R6_x.out).keep hb)
  have R7_y := hid ((R6_y.out).keep hb)
  have R7_z := hid ((R6_z.out).keep hb)
  have HB7 := hid (below_step HB6.out (Nat.le_refl _) hb)
  clear hb HB6 R6_x R6_y R6_z
  have g0_x := R7_x.out.p0
  have g1_x := R7_x.out.p1
  have gl_x := R7_x.out.lt
  have g0_y := R7_y.out.p0
  have g1_y := R7_y.out.p1
  have gl_y := R7_y.out.lt
  have g0_z := R7_z.out.p0
  have g1_z := R7_z.out.p1
  have gl_z := R7_z.out.lt
  go_wp2_with fail
  refine (h5'.out _).mono ?_
  rintro e w8 ⟨rfl, hb⟩
  clear g0_x g1_x gl_x g0_y g1_y gl_y g0_z g1_z gl_z
  have R8_x := hid ((R7_x.out).keep hb)
  have R8_y := hid ((R7_y.out).keep hb)
  have R8_z := hid ((R7_z.out).keep hb)
  have HB8 := hid (below_step HB7.out (Nat.le_refl _) hb)
  clear hb HB7 R7_x R7_y R7_z
  have g0_x := R8_x.out.p0
  have g1_x := R8_x.out.p1
  have gl_x := R8_x.out.lt
  have g0_y := R8_y.out.p0
  have g1_y := R8_y.out.p1
  have gl_y := R8_y.out.lt
  have g0_z := R8_z.out.p0
  have g1_z := R8_z.out.p1
  have gl_z := R8_z.out.lt
  go_wp2_with fail
  refine (h6'.out _).mono ?_
  rintro e w9 ⟨rfl, hb⟩
  clear g0_x g1_x gl_x g0_y g1_y gl_y g0_z g1_z gl_z
  have R9_x := hid (((R8_x.out).keep_alloc (.cells #[.int .i64 (P4), .int .i64 (Q4)] 23)).keep hb)
  have R9_y := hid (((R8_y.out).keep_alloc (.cells #[.int .i64 (P4), .int .i64 (Q4)] 23)).keep hb)
  have R9_z := hid (((R8_z.out).keep_alloc (.cells #[.int .i64 (P4), .int .i64 (Q4)] 23)).keep hb)
  have R9_u := hid ((RatAt.new w8 23 (P4) (Q4)).keep hb)
  have HB9 := hid (below_step (below_step HB8.out (Nat.le_refl _) (below_alloc w8 (.cells #[.int .i64 (P4), .int .i64 (Q4)] 23))) (Nat.le_refl _) hb)
  clear hb HB8 R8_x R8_y R8_z
  have g0_x := R9_x.out.p0
  have g1_x := R9_x.out.p1
  have gl_x := R9_x.out.lt
  have g0_y := R9_y.out.p0
  have g1_y := R9_y.out.p1
  have gl_y := R9_y.out.lt
  have g0_z := R9_z.out.p0
  have g1_z := R9_z.out.p1
  have gl_z := R9_z.out.lt
  have g0_u := R9_u.out.p0
  have g1_u := R9_u.out.p1
  have gl_u := R9_u.out.lt
  go_wp2_with fail
  refine (good_bel1 _ _ _ _ 2 [e5, e6] rfl rfl (by omega)).mono ?_
  rintro e w10 ⟨rfl, hb⟩
  clear g0_x g1_x gl_x g0_y g1_y gl_y g0_z g1_z gl_z g0_u g1_u gl_u
  rw [hg.out]
  have R10_x := hid (((R9_x.out).keep_alloc (.cells #[.int .i64 (P5), .int .i64 (Q5)] 23)).keep hb)
  have R10_y := hid (((R9_y.out).keep_alloc (.cells #[.int .i64 (P5), .int .i64 (Q5)] 23)).keep hb)
  have R10_z := hid (((R9_z.out).keep_alloc (.cells #[.int .i64 (P5), .int .i64 (Q5)] 23)).keep hb)
  have R10_u := hid (((R9_u.out).keep_alloc (.cells #[.int .i64 (P5), .int .i64 (Q5)] 23)).keep hb)
  have R10_v := hid ((RatAt.new w9 23 (P5) (Q5)).keep hb)
  have HB10 := hid (below_step (below_step HB9.out (Nat.le_refl _) (below_alloc w9 (.cells #[.int .i64 (P5), .int .i64 (Q5)] 23))) (Nat.le_refl _) hb)
  clear hb HB9 R9_x R9_y R9_z R9_u
  have g0_x := R10_x.out.p0
  have g1_x := R10_x.out.p1
  have gl_x := R10_x.out.lt
  have g0_y := R10_y.out.p0
  have g1_y := R10_y.out.p1
  have gl_y := R10_y.out.lt
  have g0_z := R10_z.out.p0
  have g1_z := R10_z.out.p1
  have gl_z := R10_z.out.lt
  have g0_u := R10_u.out.p0
  have g1_u := R10_u.out.p1
  have gl_u := R10_u.out.lt
  have g0_v := R10_v.out.p0
  have g1_v := R10_v.out.p1
  have gl_v := R10_v.out.lt
  go_wp2
  all_goals first | (exfalso; have hcc := HNE.out; simp only [*] at hcc; simp at hcc; done) | (go_ret; exact ⟨rfl, HB10.out⟩)

set_option maxHeartbeats 2000000 in
set_option maxRecDepth 100000 in
theorem ratioOrder_ftc_fit (P1 Q1 P2 Q2 P3 Q3 : Int) (P4 Q4 P5 Q5 : Int) (c : Bool) (d : Bool) (hxy : ¬ (P1 = P2 ∧ Q1 = Q2)) (h1 : (∀ W, Calls Try.prog 14 #[.agg #[.int .i64 P1, .int .i64 Q1], .agg #[.int .i64 P2, .int .i64 Q2]] W (RetB W false 0))) (h2 : (∀ W, Calls Try.prog 14 #[.agg #[.int .i64 P2, .int .i64 Q2], .agg #[.int .i64 P1, .int .i64 Q1]] W (RetB W true 0))) (h3 : (∀ W, Calls Try.prog 14 #[.agg #[.int .i64 P2, .int .i64 Q2], .agg #[.int .i64 P3, .int .i64 Q3]] W (RetB W c 0))) (h4 : (∀ W, Calls Try.prog 14 #[.agg #[.int .i64 P1, .int .i64 Q1], .agg #[.int .i64 P3, .int .i64 Q3]] W (RetB W d 0))) (h5 : (∀ W, Calls Try.prog 11 #[.agg #[.int .i64 P1, .int .i64 Q1], .agg #[.int .i64 P3, .int .i64 Q3]] W (RetR W P4 Q4 0))) (h6 : (∀ W, Calls Try.prog 11 #[.agg #[.int .i64 P2, .int .i64 Q2], .agg #[.int .i64 P3, .int .i64 Q3]] W (RetR W P5 Q5 0))) (h7 : (∀ W, Calls Try.prog 14 #[.agg #[.int .i64 P4, .int .i64 Q4], .agg #[.int .i64 P5, .int .i64 Q5]] W (RetB W false 0))) (w : World) :
    Calls Try.prog 6 #[.agg #[.int .i64 P1, .int .i64 Q1], .agg #[.int .i64 P2, .int .i64 Q2], .agg #[.int .i64 P3, .int .i64 Q3]] w fun e w' => e = .returned (.bool true) ∧ Below w.heap.size w w' := by
  have HNE : Hid ((P1 == P2 && Q1 == Q2) = false) := by
    show _ = _
    simp
    omega
  clear hxy
  have h1' := hid h1
  clear h1
  have h2' := hid h2
  clear h2
  have h3' := hid h3
  clear h3
  have h4' := hid h4
  clear h4
  have h5' := hid h5
  clear h5
  have h6' := hid h6
  clear h6
  have h7' := hid h7
  clear h7
  have HB0 := hid (Below.refl w.heap.size w)
  have R0_x : Hid (RatAt (((w.alloc (.cells #[.int .i64 P1, .int .i64 Q1] 23)).alloc (.cells #[.int .i64 P2, .int .i64 Q2] 23)).alloc (.cells #[.int .i64 P3, .int .i64 Q3] 23)) w.heap.size (P1) (Q1)) := ((RatAt.new w 23 (P1) (Q1)).keep_alloc (.cells #[.int .i64 (P2), .int .i64 (Q2)] 23)).keep_alloc (.cells #[.int .i64 (P3), .int .i64 (Q3)] 23)
  have R0_y : Hid (RatAt (((w.alloc (.cells #[.int .i64 P1, .int .i64 Q1] 23)).alloc (.cells #[.int .i64 P2, .int .i64 Q2] 23)).alloc (.cells #[.int .i64 P3, .int .i64 Q3] 23)) (w.heap.size + 1) (P2) (Q2)) := (rat_second w _ 23 (P2) (Q2)).keep_alloc (.cells #[.int .i64 (P3), .int .i64 (Q3)] 23)
  have R0_z : Hid (RatAt (((w.alloc (.cells #[.int .i64 P1, .int .i64 Q1] 23)).alloc (.cells #[.int .i64 P2, .int .i64 Q2] 23)).alloc (.cells #[.int .i64 P3, .int .i64 Q3] 23)) (w.heap.size + 2) (P3) (Q3)) := rat_third w _ _ 23 (P3) (Q3)
  have HBx : Hid (Below w.heap.size w (((w.alloc (.cells #[.int .i64 P1, .int .i64 Q1] 23)).alloc (.cells #[.int .i64 P2, .int .i64 Q2] 23)).alloc (.cells #[.int .i64 P3, .int .i64 Q3] 23))) := three_alloc w _ _ _
  clear HB0
  have HB0 := HBx
  clear HBx
  go_enter Try.func6, Try.ntmps6
  go_wp2_with fail
  refine (third_half _).mono ?_
  rintro e w1 ⟨rfl, hb⟩
  have R1_x := hid ((R0_x.out).keep hb)
  have R1_y := hid ((R0_y.out).keep hb)
  have R1_z := hid ((R0_z.out).keep hb)
  have HB1 := hid (below_step HB0.out (Nat.le_refl _) hb)
  clear hb HB0 R0_x R0_y R0_z
  have g0_x := R1_x.out.p0
  have g1_x := R1_x.out.p1
  have gl_x := R1_x.out.lt
  have g0_y := R1_y.out.p0
  have g1_y := R1_y.out.p1
  have gl_y := R1_y.out.lt
  have g0_z := R1_z.out.p0
  have g1_z := R1_z.out.p1
  have gl_z := R1_z.out.lt
  go_wp2_with fail
  refine (ratios_any _).mono ?_
  rintro e w2 ⟨rfl, hb⟩
  clear g0_x g1_x gl_x g0_y g1_y gl_y g0_z g1_z gl_z
  have R2_x := hid ((R1_x.out).keep hb)
  have R2_y := hid ((R1_y.out).keep hb)
  have R2_z := hid ((R1_z.out).keep hb)
  have HB2 := hid (below_step HB1.out (Nat.le_refl _) hb)
  clear hb HB1 R1_x R1_y R1_z
  have g0_x := R2_x.out.p0
  have g1_x := R2_x.out.p1
  have gl_x := R2_x.out.lt
  have g0_y := R2_y.out.p0
  have g1_y := R2_y.out.p1
  have gl_y := R2_y.out.lt
  have g0_z := R2_z.out.p0
  have g1_z := R2_z.out.p1
  have gl_z := R2_z.out.lt
  go_wp2_with fail
  refine (h1'.out _).mono ?_
  rintro e w3 ⟨rfl, hb⟩
  clear g0_x g1_x gl_x g0_y g1_y gl_y g0_z g1_z gl_z
  have R3_x := hid ((R2_x.out).keep hb)
  have R3_y := hid ((R2_y.out).keep hb)
  have R3_z := hid ((R2_z.out).keep hb)
  have HB3 := hid (below_step HB2.out (Nat.le_refl _) hb)
  clear hb HB2 R2_x R2_y R2_z
  have g0_x := R3_x.out.p0
  have g1_x := R3_x.out.p1
  have gl_x := R3_x.out.lt
  have g0_y := R3_y.out.p0
  have g1_y := R3_y.out.p1
  have gl_y := R3_y.out.lt
  have g0_z := R3_z.out.p0
  have g1_z := R3_z.out.p1
  have gl_z := R3_z.out.lt
  go_wp2_with fail
  refine (h2'.out _).mono ?_
  rintro e w4 ⟨rfl, hb⟩
  clear g0_x g1_x gl_x g0_y g1_y gl_y g0_z g1_z gl_z
  have R4_x := hid ((R3_x.out).keep hb)
  have R4_y := hid ((R3_y.out).keep hb)
  have R4_z := hid ((R3_z.out).keep hb)
  have HB4 := hid (below_step HB3.out (Nat.le_refl _) hb)
  clear hb HB3 R3_x R3_y R3_z
  have g0_x := R4_x.out.p0
  have g1_x := R4_x.out.p1
  have gl_x := R4_x.out.lt
  have g0_y := R4_y.out.p0
  have g1_y := R4_y.out.p1
  have gl_y := R4_y.out.lt
  have g0_z := R4_z.out.p0
  have g1_z := R4_z.out.p1
  have gl_z := R4_z.out.lt
  go_wp2_with fail
  refine (h3'.out _).mono ?_
  rintro e w5 ⟨rfl, hb⟩
  clear g0_x g1_x gl_x g0_y g1_y gl_y g0_z g1_z gl_z
  have R5_x := hid ((R4_x.out).keep hb)
  have R5_y := hid ((R4_y.out).keep hb)
  have R5_z := hid ((R4_z.out).keep hb)
  have HB5 := hid (below_step HB4.out (Nat.le_refl _) hb)
  clear hb HB4 R4_x R4_y R4_z
  have g0_x := R5_x.out.p0
  have g1_x := R5_x.out.p1
  have gl_x := R5_x.out.lt
  have g0_y := R5_y.out.p0
  have g1_y := R5_y.out.p1
  have gl_y := R5_y.out.lt
  have g0_z := R5_z.out.p0
  have g1_z := R5_z.out.p1
  have gl_z := R5_z.out.lt
  go_wp2_with fail
  refine (h4'.out _).mono ?_
  rintro e w6 ⟨rfl, hb⟩
  clear g0_x g1_x gl_x g0_y g1_y gl_y g0_z g1_z gl_z
  have R6_x := hid ((R5_x.out).keep hb)
  have R6_y := hid ((R5_y.out).keep hb)
  have R6_z := hid ((R5_z.out).keep hb)
  have HB6 := hid (below_step HB5.out (Nat.le_refl _) hb)
  clear hb HB5 R5_x R5_y R5_z
  have g0_x := R6_x.out.p0
  have g1_x := R6_x.out.p1
  have gl_x := R6_x.out.lt
  have g0_y := R6_y.out.p0
  have g1_y := R6_y.out.p1
  have gl_y := R6_y.out.lt
  have g0_z := R6_z.out.p0
  have g1_z := R6_z.out.p1
  have gl_z := R6_z.out.lt
  go_wp2_with fail
  refine (good_bel _ _ _ 4 [0, 0, 0, 0] rfl rfl (by omega)).mono ?_
  rintro e w7 ⟨rfl, hb⟩
  clear g0_x g1_x gl_x g0_y g1_y gl_y g0_z g1_z gl_z
  rw [show allOK [0, 0, 0, 0] = true by decide]
  have R7_x := hid ((R6_x.out).keep hb)
  have R7_y := hid ((R6_y.out).keep hb)
  have R7_z := hid ((R6_z.out).keep hb)
  have HB7 := hid (below_step HB6.out (Nat.le_refl _) hb)
  clear hb HB6 R6_x R6_y R6_z
  have g0_x := R7_x.out.p0
  have g1_x := R7_x.out.p1
  have gl_x := R7_x.out.lt
  have g0_y := R7_y.out.p0
  have g1_y := R7_y.out.p1
  have gl_y := R7_y.out.lt
  have g0_z := R7_z.out.p0
  have g1_z := R7_z.out.p1
  have gl_z := R7_z.out.lt
  go_wp2_with fail
  refine (h5'.out _).mono ?_
  rintro e w8 ⟨rfl, hb⟩
  clear g0_x g1_x gl_x g0_y g1_y gl_y g0_z g1_z gl_z
  have R8_x := hid ((R7_x.out).keep hb)
  have R8_y := hid ((R7_y.out).keep hb)
  have R8_z := hid ((R7_z.out).keep hb)
  have HB8 := hid (below_step HB7.out (Nat.le_refl _) hb)
  clear hb HB7 R7_x R7_y R7_z
  have g0_x := R8_x.out.p0
  have g1_x := R8_x.out.p1
  have gl_x := R8_x.out.lt
  have g0_y := R8_y.out.p0
  have g1_y := R8_y.out.p1
  have gl_y := R8_y.out.lt
  have g0_z := R8_z.out.p0
  have g1_z := R8_z.out.p1
  have gl_z := R8_z.out.lt
  go_wp2_with fail
  refine (h6'.out _).mono ?_
  rintro e w9 ⟨rfl, hb⟩
  clear g0_x g1_x gl_x g0_y g1_y gl_y g0_z g1_z gl_z
  have R9_x := hid (((R8_x.out).keep_alloc (.cells #[.int .i64 (P4), .int .i64 (Q4)] 23)).keep hb)
  have R9_y := hid (((R8_y.out).keep_alloc (.cells #[.int .i64 (P4), .int .i64 (Q4)] 23)).keep hb)
  have R9_z := hid (((R8_z.out).keep_alloc (.cells #[.int .i64 (P4), .int .i64 (Q4)] 23)).keep hb)
  have R9_u := hid ((RatAt.new w8 23 (P4) (Q4)).keep hb)
  have HB9 := hid (below_step (below_step HB8.out (Nat.le_refl _) (below_alloc w8 (.cells #[.int .i64 (P4), .int .i64 (Q4)] 23))) (Nat.le_refl _) hb)
  clear hb HB8 R8_x R8_y R8_z
  have g0_x := R9_x.out.p0
  have g1_x := R9_x.out.p1
  have gl_x := R9_x.out.lt
  have g0_y := R9_y.out.p0
  have g1_y := R9_y.out.p1
  have gl_y := R9_y.out.lt
  have g0_z := R9_z.out.p0
  have g1_z := R9_z.out.p1
  have gl_z := R9_z.out.lt
  have g0_u := R9_u.out.p0
  have g1_u := R9_u.out.p1
  have gl_u := R9_u.out.lt
  go_wp2_with fail
  refine (good_bel1 _ _ _ _ 2 [0, 0] rfl rfl (by omega)).mono ?_
  rintro e w10 ⟨rfl, hb⟩
  clear g0_x g1_x gl_x g0_y g1_y gl_y g0_z g1_z gl_z g0_u g1_u gl_u
  rw [show allOK [0, 0] = true by decide]
  have R10_x := hid (((R9_x.out).keep_alloc (.cells #[.int .i64 (P5), .int .i64 (Q5)] 23)).keep hb)
  have R10_y := hid (((R9_y.out).keep_alloc (.cells #[.int .i64 (P5), .int .i64 (Q5)] 23)).keep hb)
  have R10_z := hid (((R9_z.out).keep_alloc (.cells #[.int .i64 (P5), .int .i64 (Q5)] 23)).keep hb)
  have R10_u := hid (((R9_u.out).keep_alloc (.cells #[.int .i64 (P5), .int .i64 (Q5)] 23)).keep hb)
  have R10_v := hid ((RatAt.new w9 23 (P5) (Q5)).keep hb)
  have HB10 := hid (below_step (below_step HB9.out (Nat.le_refl _) (below_alloc w9 (.cells #[.int .i64 (P5), .int .i64 (Q5)] 23))) (Nat.le_refl _) hb)
  clear hb HB9 R9_x R9_y R9_z R9_u
  have g0_x := R10_x.out.p0
  have g1_x := R10_x.out.p1
  have gl_x := R10_x.out.lt
  have g0_y := R10_y.out.p0
  have g1_y := R10_y.out.p1
  have gl_y := R10_y.out.lt
  have g0_z := R10_z.out.p0
  have g1_z := R10_z.out.p1
  have gl_z := R10_z.out.lt
  have g0_u := R10_u.out.p0
  have g1_u := R10_u.out.p1
  have gl_u := R10_u.out.lt
  have g0_v := R10_v.out.p0
  have g1_v := R10_v.out.p1
  have gl_v := R10_v.out.lt
  go_wp2_with fail
  refine (h7'.out _).mono ?_
  rintro e w11 ⟨rfl, hb⟩
  clear g0_x g1_x gl_x g0_y g1_y gl_y g0_z g1_z gl_z g0_u g1_u gl_u g0_v g1_v gl_v
  have R11_x := hid ((R10_x.out).keep hb)
  have R11_y := hid ((R10_y.out).keep hb)
  have R11_z := hid ((R10_z.out).keep hb)
  have R11_u := hid ((R10_u.out).keep hb)
  have R11_v := hid ((R10_v.out).keep hb)
  have HB11 := hid (below_step HB10.out (Nat.le_refl _) hb)
  clear hb HB10 R10_x R10_y R10_z R10_u R10_v
  have g0_x := R11_x.out.p0
  have g1_x := R11_x.out.p1
  have gl_x := R11_x.out.lt
  have g0_y := R11_y.out.p0
  have g1_y := R11_y.out.p1
  have gl_y := R11_y.out.lt
  have g0_z := R11_z.out.p0
  have g1_z := R11_z.out.p1
  have gl_z := R11_z.out.lt
  have g0_u := R11_u.out.p0
  have g1_u := R11_u.out.p1
  have gl_u := R11_u.out.lt
  have g0_v := R11_v.out.p0
  have g1_v := R11_v.out.p1
  have gl_v := R11_v.out.lt
  go_wp2
  all_goals first | (exfalso; have hcc := HNE.out; simp only [*] at hcc; simp at hcc; done) | (go_ret; exact ⟨rfl, HB11.out⟩)

set_option maxHeartbeats 2000000 in
set_option maxRecDepth 100000 in
theorem ratioOrder_ffc_not (P1 Q1 P2 Q2 P3 Q3 : Int) (P4 Q4 P5 Q5 e5 e6 : Int) (c : Bool) (d : Bool) (he : e5 ≠ 0 ∨ e6 ≠ 0) (hxy : P1 = P2 ∧ Q1 = Q2) (h1 : (∀ W, Calls Try.prog 14 #[.agg #[.int .i64 P1, .int .i64 Q1], .agg #[.int .i64 P2, .int .i64 Q2]] W (RetB W false 0))) (h2 : (∀ W, Calls Try.prog 14 #[.agg #[.int .i64 P2, .int .i64 Q2], .agg #[.int .i64 P1, .int .i64 Q1]] W (RetB W false 0))) (h3 : (∀ W, Calls Try.prog 14 #[.agg #[.int .i64 P2, .int .i64 Q2], .agg #[.int .i64 P3, .int .i64 Q3]] W (RetB W c 0))) (h4 : (∀ W, Calls Try.prog 14 #[.agg #[.int .i64 P1, .int .i64 Q1], .agg #[.int .i64 P3, .int .i64 Q3]] W (RetB W d 0))) (h5 : (∀ W, Calls Try.prog 11 #[.agg #[.int .i64 P1, .int .i64 Q1], .agg #[.int .i64 P3, .int .i64 Q3]] W (RetR W P4 Q4 e5))) (h6 : (∀ W, Calls Try.prog 11 #[.agg #[.int .i64 P2, .int .i64 Q2], .agg #[.int .i64 P3, .int .i64 Q3]] W (RetR W P5 Q5 e6))) (w : World) :
    Calls Try.prog 6 #[.agg #[.int .i64 P1, .int .i64 Q1], .agg #[.int .i64 P2, .int .i64 Q2], .agg #[.int .i64 P3, .int .i64 Q3]] w fun e w' => e = .returned (.bool true) ∧ Below w.heap.size w w' := by
  obtain ⟨hp, hq⟩ := hxy
  subst hp
  subst hq
  have hg : Hid (allOK [e5, e6] = false) := by
    show _ = _
    by_cases h : e5 = 0
    · have h' : (e6 == 0) = false := by simp; omega
      simp [allOK, h']
    · have h' : (e5 == 0) = false := by simpa using h
      simp [allOK, h']
  clear he
  have h1' := hid h1
  clear h1
  have h2' := hid h2
  clear h2
  have h3' := hid h3
  clear h3
  have h4' := hid h4
  clear h4
  have h5' := hid h5
  clear h5
  have h6' := hid h6
  clear h6
  have HB0 := hid (Below.refl w.heap.size w)
  have R0_x : Hid (RatAt (((w.alloc (.cells #[.int .i64 P1, .int .i64 Q1] 23)).alloc (.cells #[.int .i64 P1, .int .i64 Q1] 23)).alloc (.cells #[.int .i64 P3, .int .i64 Q3] 23)) w.heap.size (P1) (Q1)) := ((RatAt.new w 23 (P1) (Q1)).keep_alloc (.cells #[.int .i64 (P1), .int .i64 (Q1)] 23)).keep_alloc (.cells #[.int .i64 (P3), .int .i64 (Q3)] 23)
  have R0_y : Hid (RatAt (((w.alloc (.cells #[.int .i64 P1, .int .i64 Q1] 23)).alloc (.cells #[.int .i64 P1, .int .i64 Q1] 23)).alloc (.cells #[.int .i64 P3, .int .i64 Q3] 23)) (w.heap.size + 1) (P1) (Q1)) := (rat_second w _ 23 (P1) (Q1)).keep_alloc (.cells #[.int .i64 (P3), .int .i64 (Q3)] 23)
  have R0_z : Hid (RatAt (((w.alloc (.cells #[.int .i64 P1, .int .i64 Q1] 23)).alloc (.cells #[.int .i64 P1, .int .i64 Q1] 23)).alloc (.cells #[.int .i64 P3, .int .i64 Q3] 23)) (w.heap.size + 2) (P3) (Q3)) := rat_third w _ _ 23 (P3) (Q3)
  have HBx : Hid (Below w.heap.size w (((w.alloc (.cells #[.int .i64 P1, .int .i64 Q1] 23)).alloc (.cells #[.int .i64 P1, .int .i64 Q1] 23)).alloc (.cells #[.int .i64 P3, .int .i64 Q3] 23))) := three_alloc w _ _ _
  clear HB0
  have HB0 := HBx
  clear HBx
  go_enter Try.func6, Try.ntmps6
  go_wp2_with fail
  refine (third_half _).mono ?_
  rintro e w1 ⟨rfl, hb⟩
  have R1_x := hid ((R0_x.out).keep hb)
  have R1_y := hid ((R0_y.out).keep hb)
  have R1_z := hid ((R0_z.out).keep hb)
  have HB1 := hid (below_step HB0.out (Nat.le_refl _) hb)
  clear hb HB0 R0_x R0_y R0_z
  have g0_x := R1_x.out.p0
  have g1_x := R1_x.out.p1
  have gl_x := R1_x.out.lt
  have g0_y := R1_y.out.p0
  have g1_y := R1_y.out.p1
  have gl_y := R1_y.out.lt
  have g0_z := R1_z.out.p0
  have g1_z := R1_z.out.p1
  have gl_z := R1_z.out.lt
  go_wp2_with fail
  refine (ratios_any _).mono ?_
  rintro e w2 ⟨rfl, hb⟩
  clear g0_x g1_x gl_x g0_y g1_y gl_y g0_z g1_z gl_z
  have R2_x := hid ((R1_x.out).keep hb)
  have R2_y := hid ((R1_y.out).keep hb)
  have R2_z := hid ((R1_z.out).keep hb)
  have HB2 := hid (below_step HB1.out (Nat.le_refl _) hb)
  clear hb HB1 R1_x R1_y R1_z
  have g0_x := R2_x.out.p0
  have g1_x := R2_x.out.p1
  have gl_x := R2_x.out.lt
  have g0_y := R2_y.out.p0
  have g1_y := R2_y.out.p1
  have gl_y := R2_y.out.lt
  have g0_z := R2_z.out.p0
  have g1_z := R2_z.out.p1
  have gl_z := R2_z.out.lt
  go_wp2_with fail
  refine (h1'.out _).mono ?_
  rintro e w3 ⟨rfl, hb⟩
  clear g0_x g1_x gl_x g0_y g1_y gl_y g0_z g1_z gl_z
  have R3_x := hid ((R2_x.out).keep hb)
  have R3_y := hid ((R2_y.out).keep hb)
  have R3_z := hid ((R2_z.out).keep hb)
  have HB3 := hid (below_step HB2.out (Nat.le_refl _) hb)
  clear hb HB2 R2_x R2_y R2_z
  have g0_x := R3_x.out.p0
  have g1_x := R3_x.out.p1
  have gl_x := R3_x.out.lt
  have g0_y := R3_y.out.p0
  have g1_y := R3_y.out.p1
  have gl_y := R3_y.out.lt
  have g0_z := R3_z.out.p0
  have g1_z := R3_z.out.p1
  have gl_z := R3_z.out.lt
  go_wp2_with fail
  refine (h2'.out _).mono ?_
  rintro e w4 ⟨rfl, hb⟩
  clear g0_x g1_x gl_x g0_y g1_y gl_y g0_z g1_z gl_z
  have R4_x := hid ((R3_x.out).keep hb)
  have R4_y := hid ((R3_y.out).keep hb)
  have R4_z := hid ((R3_z.out).keep hb)
  have HB4 := hid (below_step HB3.out (Nat.le_refl _) hb)
  clear hb HB3 R3_x R3_y R3_z
  have g0_x := R4_x.out.p0
  have g1_x := R4_x.out.p1
  have gl_x := R4_x.out.lt
  have g0_y := R4_y.out.p0
  have g1_y := R4_y.out.p1
  have gl_y := R4_y.out.lt
  have g0_z := R4_z.out.p0
  have g1_z := R4_z.out.p1
  have gl_z := R4_z.out.lt
  go_wp2_with fail
  refine (h3'.out _).mono ?_
  rintro e w5 ⟨rfl, hb⟩
  clear g0_x g1_x gl_x g0_y g1_y gl_y g0_z g1_z gl_z
  have R5_x := hid ((R4_x.out).keep hb)
  have R5_y := hid ((R4_y.out).keep hb)
  have R5_z := hid ((R4_z.out).keep hb)
  have HB5 := hid (below_step HB4.out (Nat.le_refl _) hb)
  clear hb HB4 R4_x R4_y R4_z
  have g0_x := R5_x.out.p0
  have g1_x := R5_x.out.p1
  have gl_x := R5_x.out.lt
  have g0_y := R5_y.out.p0
  have g1_y := R5_y.out.p1
  have gl_y := R5_y.out.lt
  have g0_z := R5_z.out.p0
  have g1_z := R5_z.out.p1
  have gl_z := R5_z.out.lt
  go_wp2_with fail
  refine (h4'.out _).mono ?_
  rintro e w6 ⟨rfl, hb⟩
  clear g0_x g1_x gl_x g0_y g1_y gl_y g0_z g1_z gl_z
  have R6_x := hid ((R5_x.out).keep hb)
  have R6_y := hid ((R5_y.out).keep hb)
  have R6_z := hid ((R5_z.out).keep hb)
  have HB6 := hid (below_step HB5.out (Nat.le_refl _) hb)
  clear hb HB5 R5_x R5_y R5_z
  have g0_x := R6_x.out.p0
  have g1_x := R6_x.out.p1
  have gl_x := R6_x.out.lt
  have g0_y := R6_y.out.p0
  have g1_y := R6_y.out.p1
  have gl_y := R6_y.out.lt
  have g0_z := R6_z.out.p0
  have g1_z := R6_z.out.p1
  have gl_z := R6_z.out.lt
  go_wp2_with fail
  refine (good_bel _ _ _ 4 [0, 0, 0, 0] rfl rfl (by omega)).mono ?_
  rintro e w7 ⟨rfl, hb⟩
  clear g0_x g1_x gl_x g0_y g1_y gl_y g0_z g1_z gl_z
  rw [show allOK [0, 0, 0, 0] = true by decide]
  have R7_x := hid ((R6_x.out).keep hb)
  have R7_y := hid ((R6_y.out).keep hb)
  have R7_z := hid ((R6_z.out).keep hb)
  have HB7 := hid (below_step HB6.out (Nat.le_refl _) hb)
  clear hb HB6 R6_x R6_y R6_z
  have g0_x := R7_x.out.p0
  have g1_x := R7_x.out.p1
  have gl_x := R7_x.out.lt
  have g0_y := R7_y.out.p0
  have g1_y := R7_y.out.p1
  have gl_y := R7_y.out.lt
  have g0_z := R7_z.out.p0
  have g1_z := R7_z.out.p1
  have gl_z := R7_z.out.lt
  go_wp2_with fail
  refine (h5'.out _).mono ?_
  rintro e w8 ⟨rfl, hb⟩
  clear g0_x g1_x gl_x g0_y g1_y gl_y g0_z g1_z gl_z
  have R8_x := hid ((R7_x.out).keep hb)
  have R8_y := hid ((R7_y.out).keep hb)
  have R8_z := hid ((R7_z.out).keep hb)
  have HB8 := hid (below_step HB7.out (Nat.le_refl _) hb)
  clear hb HB7 R7_x R7_y R7_z
  have g0_x := R8_x.out.p0
  have g1_x := R8_x.out.p1
  have gl_x := R8_x.out.lt
  have g0_y := R8_y.out.p0
  have g1_y := R8_y.out.p1
  have gl_y := R8_y.out.lt
  have g0_z := R8_z.out.p0
  have g1_z := R8_z.out.p1
  have gl_z := R8_z.out.lt
  go_wp2_with fail
  refine (h6'.out _).mono ?_
  rintro e w9 ⟨rfl, hb⟩
  clear g0_x g1_x gl_x g0_y g1_y gl_y g0_z g1_z gl_z
  have R9_x := hid (((R8_x.out).keep_alloc (.cells #[.int .i64 (P4), .int .i64 (Q4)] 23)).keep hb)
  have R9_y := hid (((R8_y.out).keep_alloc (.cells #[.int .i64 (P4), .int .i64 (Q4)] 23)).keep hb)
  have R9_z := hid (((R8_z.out).keep_alloc (.cells #[.int .i64 (P4), .int .i64 (Q4)] 23)).keep hb)
  have R9_u := hid ((RatAt.new w8 23 (P4) (Q4)).keep hb)
  have HB9 := hid (below_step (below_step HB8.out (Nat.le_refl _) (below_alloc w8 (.cells #[.int .i64 (P4), .int .i64 (Q4)] 23))) (Nat.le_refl _) hb)
  clear hb HB8 R8_x R8_y R8_z
  have g0_x := R9_x.out.p0
  have g1_x := R9_x.out.p1
  have gl_x := R9_x.out.lt
  have g0_y := R9_y.out.p0
  have g1_y := R9_y.out.p1
  have gl_y := R9_y.out.lt
  have g0_z := R9_z.out.p0
  have g1_z := R9_z.out.p1
  have gl_z := R9_z.out.lt
  have g0_u := R9_u.out.p0
  have g1_u := R9_u.out.p1
  have gl_u := R9_u.out.lt
  go_wp2_with fail
  refine (good_bel1 _ _ _ _ 2 [e5, e6] rfl rfl (by omega)).mono ?_
  rintro e w10 ⟨rfl, hb⟩
  clear g0_x g1_x gl_x g0_y g1_y gl_y g0_z g1_z gl_z g0_u g1_u gl_u
  rw [hg.out]
  have R10_x := hid (((R9_x.out).keep_alloc (.cells #[.int .i64 (P5), .int .i64 (Q5)] 23)).keep hb)
  have R10_y := hid (((R9_y.out).keep_alloc (.cells #[.int .i64 (P5), .int .i64 (Q5)] 23)).keep hb)
  have R10_z := hid (((R9_z.out).keep_alloc (.cells #[.int .i64 (P5), .int .i64 (Q5)] 23)).keep hb)
  have R10_u := hid (((R9_u.out).keep_alloc (.cells #[.int .i64 (P5), .int .i64 (Q5)] 23)).keep hb)
  have R10_v := hid ((RatAt.new w9 23 (P5) (Q5)).keep hb)
  have HB10 := hid (below_step (below_step HB9.out (Nat.le_refl _) (below_alloc w9 (.cells #[.int .i64 (P5), .int .i64 (Q5)] 23))) (Nat.le_refl _) hb)
  clear hb HB9 R9_x R9_y R9_z R9_u
  have g0_x := R10_x.out.p0
  have g1_x := R10_x.out.p1
  have gl_x := R10_x.out.lt
  have g0_y := R10_y.out.p0
  have g1_y := R10_y.out.p1
  have gl_y := R10_y.out.lt
  have g0_z := R10_z.out.p0
  have g1_z := R10_z.out.p1
  have gl_z := R10_z.out.lt
  have g0_u := R10_u.out.p0
  have g1_u := R10_u.out.p1
  have gl_u := R10_u.out.lt
  have g0_v := R10_v.out.p0
  have g1_v := R10_v.out.p1
  have gl_v := R10_v.out.lt
  go_wp2
  go_ret
  exact ⟨rfl, HB10.out⟩

set_option maxHeartbeats 2000000 in
set_option maxRecDepth 100000 in
theorem ratioOrder_ffc_fit (P1 Q1 P2 Q2 P3 Q3 : Int) (P4 Q4 P5 Q5 : Int) (c : Bool) (d : Bool) (hxy : P1 = P2 ∧ Q1 = Q2) (h1 : (∀ W, Calls Try.prog 14 #[.agg #[.int .i64 P1, .int .i64 Q1], .agg #[.int .i64 P2, .int .i64 Q2]] W (RetB W false 0))) (h2 : (∀ W, Calls Try.prog 14 #[.agg #[.int .i64 P2, .int .i64 Q2], .agg #[.int .i64 P1, .int .i64 Q1]] W (RetB W false 0))) (h3 : (∀ W, Calls Try.prog 14 #[.agg #[.int .i64 P2, .int .i64 Q2], .agg #[.int .i64 P3, .int .i64 Q3]] W (RetB W c 0))) (h4 : (∀ W, Calls Try.prog 14 #[.agg #[.int .i64 P1, .int .i64 Q1], .agg #[.int .i64 P3, .int .i64 Q3]] W (RetB W d 0))) (h5 : (∀ W, Calls Try.prog 11 #[.agg #[.int .i64 P1, .int .i64 Q1], .agg #[.int .i64 P3, .int .i64 Q3]] W (RetR W P4 Q4 0))) (h6 : (∀ W, Calls Try.prog 11 #[.agg #[.int .i64 P2, .int .i64 Q2], .agg #[.int .i64 P3, .int .i64 Q3]] W (RetR W P5 Q5 0))) (h7 : (∀ W, Calls Try.prog 14 #[.agg #[.int .i64 P4, .int .i64 Q4], .agg #[.int .i64 P5, .int .i64 Q5]] W (RetB W false 0))) (w : World) :
    Calls Try.prog 6 #[.agg #[.int .i64 P1, .int .i64 Q1], .agg #[.int .i64 P2, .int .i64 Q2], .agg #[.int .i64 P3, .int .i64 Q3]] w fun e w' => e = .returned (.bool true) ∧ Below w.heap.size w w' := by
  obtain ⟨hp, hq⟩ := hxy
  subst hp
  subst hq
  have h1' := hid h1
  clear h1
  have h2' := hid h2
  clear h2
  have h3' := hid h3
  clear h3
  have h4' := hid h4
  clear h4
  have h5' := hid h5
  clear h5
  have h6' := hid h6
  clear h6
  have h7' := hid h7
  clear h7
  have HB0 := hid (Below.refl w.heap.size w)
  have R0_x : Hid (RatAt (((w.alloc (.cells #[.int .i64 P1, .int .i64 Q1] 23)).alloc (.cells #[.int .i64 P1, .int .i64 Q1] 23)).alloc (.cells #[.int .i64 P3, .int .i64 Q3] 23)) w.heap.size (P1) (Q1)) := ((RatAt.new w 23 (P1) (Q1)).keep_alloc (.cells #[.int .i64 (P1), .int .i64 (Q1)] 23)).keep_alloc (.cells #[.int .i64 (P3), .int .i64 (Q3)] 23)
  have R0_y : Hid (RatAt (((w.alloc (.cells #[.int .i64 P1, .int .i64 Q1] 23)).alloc (.cells #[.int .i64 P1, .int .i64 Q1] 23)).alloc (.cells #[.int .i64 P3, .int .i64 Q3] 23)) (w.heap.size + 1) (P1) (Q1)) := (rat_second w _ 23 (P1) (Q1)).keep_alloc (.cells #[.int .i64 (P3), .int .i64 (Q3)] 23)
  have R0_z : Hid (RatAt (((w.alloc (.cells #[.int .i64 P1, .int .i64 Q1] 23)).alloc (.cells #[.int .i64 P1, .int .i64 Q1] 23)).alloc (.cells #[.int .i64 P3, .int .i64 Q3] 23)) (w.heap.size + 2) (P3) (Q3)) := rat_third w _ _ 23 (P3) (Q3)
  have HBx : Hid (Below w.heap.size w (((w.alloc (.cells #[.int .i64 P1, .int .i64 Q1] 23)).alloc (.cells #[.int .i64 P1, .int .i64 Q1] 23)).alloc (.cells #[.int .i64 P3, .int .i64 Q3] 23))) := three_alloc w _ _ _
  clear HB0
  have HB0 := HBx
  clear HBx
  go_enter Try.func6, Try.ntmps6
  go_wp2_with fail
  refine (third_half _).mono ?_
  rintro e w1 ⟨rfl, hb⟩
  have R1_x := hid ((R0_x.out).keep hb)
  have R1_y := hid ((R0_y.out).keep hb)
  have R1_z := hid ((R0_z.out).keep hb)
  have HB1 := hid (below_step HB0.out (Nat.le_refl _) hb)
  clear hb HB0 R0_x R0_y R0_z
  have g0_x := R1_x.out.p0
  have g1_x := R1_x.out.p1
  have gl_x := R1_x.out.lt
  have g0_y := R1_y.out.p0
  have g1_y := R1_y.out.p1
  have gl_y := R1_y.out.lt
  have g0_z := R1_z.out.p0
  have g1_z := R1_z.out.p1
  have gl_z := R1_z.out.lt
  go_wp2_with fail
  refine (ratios_any _).mono ?_
  rintro e w2 ⟨rfl, hb⟩
  clear g0_x g1_x gl_x g0_y g1_y gl_y g0_z g1_z gl_z
  have R2_x := hid ((R1_x.out).keep hb)
  have R2_y := hid ((R1_y.out).keep hb)
  have R2_z := hid ((R1_z.out).keep hb)
  have HB2 := hid (below_step HB1.out (Nat.le_refl _) hb)
  clear hb HB1 R1_x R1_y R1_z
  have g0_x := R2_x.out.p0
  have g1_x := R2_x.out.p1
  have gl_x := R2_x.out.lt
  have g0_y := R2_y.out.p0
  have g1_y := R2_y.out.p1
  have gl_y := R2_y.out.lt
  have g0_z := R2_z.out.p0
  have g1_z := R2_z.out.p1
  have gl_z := R2_z.out.lt
  go_wp2_with fail
  refine (h1'.out _).mono ?_
  rintro e w3 ⟨rfl, hb⟩
  clear g0_x g1_x gl_x g0_y g1_y gl_y g0_z g1_z gl_z
  have R3_x := hid ((R2_x.out).keep hb)
  have R3_y := hid ((R2_y.out).keep hb)
  have R3_z := hid ((R2_z.out).keep hb)
  have HB3 := hid (below_step HB2.out (Nat.le_refl _) hb)
  clear hb HB2 R2_x R2_y R2_z
  have g0_x := R3_x.out.p0
  have g1_x := R3_x.out.p1
  have gl_x := R3_x.out.lt
  have g0_y := R3_y.out.p0
  have g1_y := R3_y.out.p1
  have gl_y := R3_y.out.lt
  have g0_z := R3_z.out.p0
  have g1_z := R3_z.out.p1
  have gl_z := R3_z.out.lt
  go_wp2_with fail
  refine (h2'.out _).mono ?_
  rintro e w4 ⟨rfl, hb⟩
  clear g0_x g1_x gl_x g0_y g1_y gl_y g0_z g1_z gl_z
  have R4_x := hid ((R3_x.out).keep hb)
  have R4_y := hid ((R3_y.out).keep hb)
  have R4_z := hid ((R3_z.out).keep hb)
  have HB4 := hid (below_step HB3.out (Nat.le_refl _) hb)
  clear hb HB3 R3_x R3_y R3_z
  have g0_x := R4_x.out.p0
  have g1_x := R4_x.out.p1
  have gl_x := R4_x.out.lt
  have g0_y := R4_y.out.p0
  have g1_y := R4_y.out.p1
  have gl_y := R4_y.out.lt
  have g0_z := R4_z.out.p0
  have g1_z := R4_z.out.p1
  have gl_z := R4_z.out.lt
  go_wp2_with fail
  refine (h3'.out _).mono ?_
  rintro e w5 ⟨rfl, hb⟩
  clear g0_x g1_x gl_x g0_y g1_y gl_y g0_z g1_z gl_z
  have R5_x := hid ((R4_x.out).keep hb)
  have R5_y := hid ((R4_y.out).keep hb)
  have R5_z := hid ((R4_z.out).keep hb)
  have HB5 := hid (below_step HB4.out (Nat.le_refl _) hb)
  clear hb HB4 R4_x R4_y R4_z
  have g0_x := R5_x.out.p0
  have g1_x := R5_x.out.p1
  have gl_x := R5_x.out.lt
  have g0_y := R5_y.out.p0
  have g1_y := R5_y.out.p1
  have gl_y := R5_y.out.lt
  have g0_z := R5_z.out.p0
  have g1_z := R5_z.out.p1
  have gl_z := R5_z.out.lt
  go_wp2_with fail
  refine (h4'.out _).mono ?_
  rintro e w6 ⟨rfl, hb⟩
  clear g0_x g1_x gl_x g0_y g1_y gl_y g0_z g1_z gl_z
  have R6_x := hid ((R5_x.out).keep hb)
  have R6_y := hid ((R5_y.out).keep hb)
  have R6_z := hid ((R5_z.out).keep hb)
  have HB6 := hid (below_step HB5.out (Nat.le_refl _) hb)
  clear hb HB5 R5_x R5_y R5_z
  have g0_x := R6_x.out.p0
  have g1_x := R6_x.out.p1
  have gl_x := R6_x.out.lt
  have g0_y := R6_y.out.p0
  have g1_y := R6_y.out.p1
  have gl_y := R6_y.out.lt
  have g0_z := R6_z.out.p0
  have g1_z := R6_z.out.p1
  have gl_z := R6_z.out.lt
  go_wp2_with fail
  refine (good_bel _ _ _ 4 [0, 0, 0, 0] rfl rfl (by omega)).mono ?_
  rintro e w7 ⟨rfl, hb⟩
  clear g0_x g1_x gl_x g0_y g1_y gl_y g0_z g1_z gl_z
  rw [show allOK [0, 0, 0, 0] = true by decide]
  have R7_x := hid ((R6_x.out).keep hb)
  have R7_y := hid ((R6_y.out).keep hb)
  have R7_z := hid ((R6_z.out).keep hb)
  have HB7 := hid (below_step HB6.out (Nat.le_refl _) hb)
  clear hb HB6 R6_x R6_y R6_z
  have g0_x := R7_x.out.p0
  have g1_x := R7_x.out.p1
  have gl_x := R7_x.out.lt
  have g0_y := R7_y.out.p0
  have g1_y := R7_y.out.p1
  have gl_y := R7_y.out.lt
  have g0_z := R7_z.out.p0
  have g1_z := R7_z.out.p1
  have gl_z := R7_z.out.lt
  go_wp2_with fail
  refine (h5'.out _).mono ?_
  rintro e w8 ⟨rfl, hb⟩
  clear g0_x g1_x gl_x g0_y g1_y gl_y g0_z g1_z gl_z
  have R8_x := hid ((R7_x.out).keep hb)
  have R8_y := hid ((R7_y.out).keep hb)
  have R8_z := hid ((R7_z.out).keep hb)
  have HB8 := hid (below_step HB7.out (Nat.le_refl _) hb)
  clear hb HB7 R7_x R7_y R7_z
  have g0_x := R8_x.out.p0
  have g1_x := R8_x.out.p1
  have gl_x := R8_x.out.lt
  have g0_y := R8_y.out.p0
  have g1_y := R8_y.out.p1
  have gl_y := R8_y.out.lt
  have g0_z := R8_z.out.p0
  have g1_z := R8_z.out.p1
  have gl_z := R8_z.out.lt
  go_wp2_with fail
  refine (h6'.out _).mono ?_
  rintro e w9 ⟨rfl, hb⟩
  clear g0_x g1_x gl_x g0_y g1_y gl_y g0_z g1_z gl_z
  have R9_x := hid (((R8_x.out).keep_alloc (.cells #[.int .i64 (P4), .int .i64 (Q4)] 23)).keep hb)
  have R9_y := hid (((R8_y.out).keep_alloc (.cells #[.int .i64 (P4), .int .i64 (Q4)] 23)).keep hb)
  have R9_z := hid (((R8_z.out).keep_alloc (.cells #[.int .i64 (P4), .int .i64 (Q4)] 23)).keep hb)
  have R9_u := hid ((RatAt.new w8 23 (P4) (Q4)).keep hb)
  have HB9 := hid (below_step (below_step HB8.out (Nat.le_refl _) (below_alloc w8 (.cells #[.int .i64 (P4), .int .i64 (Q4)] 23))) (Nat.le_refl _) hb)
  clear hb HB8 R8_x R8_y R8_z
  have g0_x := R9_x.out.p0
  have g1_x := R9_x.out.p1
  have gl_x := R9_x.out.lt
  have g0_y := R9_y.out.p0
  have g1_y := R9_y.out.p1
  have gl_y := R9_y.out.lt
  have g0_z := R9_z.out.p0
  have g1_z := R9_z.out.p1
  have gl_z := R9_z.out.lt
  have g0_u := R9_u.out.p0
  have g1_u := R9_u.out.p1
  have gl_u := R9_u.out.lt
  go_wp2_with fail
  refine (good_bel1 _ _ _ _ 2 [0, 0] rfl rfl (by omega)).mono ?_
  rintro e w10 ⟨rfl, hb⟩
  clear g0_x g1_x gl_x g0_y g1_y gl_y g0_z g1_z gl_z g0_u g1_u gl_u
  rw [show allOK [0, 0] = true by decide]
  have R10_x := hid (((R9_x.out).keep_alloc (.cells #[.int .i64 (P5), .int .i64 (Q5)] 23)).keep hb)
  have R10_y := hid (((R9_y.out).keep_alloc (.cells #[.int .i64 (P5), .int .i64 (Q5)] 23)).keep hb)
  have R10_z := hid (((R9_z.out).keep_alloc (.cells #[.int .i64 (P5), .int .i64 (Q5)] 23)).keep hb)
  have R10_u := hid (((R9_u.out).keep_alloc (.cells #[.int .i64 (P5), .int .i64 (Q5)] 23)).keep hb)
  have R10_v := hid ((RatAt.new w9 23 (P5) (Q5)).keep hb)
  have HB10 := hid (below_step (below_step HB9.out (Nat.le_refl _) (below_alloc w9 (.cells #[.int .i64 (P5), .int .i64 (Q5)] 23))) (Nat.le_refl _) hb)
  clear hb HB9 R9_x R9_y R9_z R9_u
  have g0_x := R10_x.out.p0
  have g1_x := R10_x.out.p1
  have gl_x := R10_x.out.lt
  have g0_y := R10_y.out.p0
  have g1_y := R10_y.out.p1
  have gl_y := R10_y.out.lt
  have g0_z := R10_z.out.p0
  have g1_z := R10_z.out.p1
  have gl_z := R10_z.out.lt
  have g0_u := R10_u.out.p0
  have g1_u := R10_u.out.p1
  have gl_u := R10_u.out.lt
  have g0_v := R10_v.out.p0
  have g1_v := R10_v.out.p1
  have gl_v := R10_v.out.lt
  go_wp2_with fail
  refine (h7'.out _).mono ?_
  rintro e w11 ⟨rfl, hb⟩
  clear g0_x g1_x gl_x g0_y g1_y gl_y g0_z g1_z gl_z g0_u g1_u gl_u g0_v g1_v gl_v
  have R11_x := hid ((R10_x.out).keep hb)
  have R11_y := hid ((R10_y.out).keep hb)
  have R11_z := hid ((R10_z.out).keep hb)
  have R11_u := hid ((R10_u.out).keep hb)
  have R11_v := hid ((R10_v.out).keep hb)
  have HB11 := hid (below_step HB10.out (Nat.le_refl _) hb)
  clear hb HB10 R10_x R10_y R10_z R10_u R10_v
  have g0_x := R11_x.out.p0
  have g1_x := R11_x.out.p1
  have gl_x := R11_x.out.lt
  have g0_y := R11_y.out.p0
  have g1_y := R11_y.out.p1
  have gl_y := R11_y.out.lt
  have g0_z := R11_z.out.p0
  have g1_z := R11_z.out.p1
  have gl_z := R11_z.out.lt
  have g0_u := R11_u.out.p0
  have g1_u := R11_u.out.p1
  have gl_u := R11_u.out.lt
  have g0_v := R11_v.out.p0
  have g1_v := R11_v.out.p1
  have gl_v := R11_v.out.lt
  go_wp2
  go_ret
  exact ⟨rfl, HB11.out⟩


theorem bothErr_left {P Q P' Q' : Int} (h : ratioErr P Q ≠ 0) : bothErr P Q P' Q' ≠ 0 := by
  unfold bothErr
  rwa [if_pos h]
theorem bothErr_right {P Q P' Q' : Int} (h : ratioErr P' Q' ≠ 0) : bothErr P Q P' Q' ≠ 0 := by
  unfold bothErr
  split
  · assumption
  · exact h
theorem bothErr_zero {P Q P' Q' : Int} (h : bothErr P Q P' Q' = 0) : ratioErr P Q = 0 ∧ ratioErr P' Q' = 0 := by
  by_cases h1 : ratioErr P Q = 0
  · by_cases h2 : ratioErr P' Q' = 0
    · exact ⟨h1, h2⟩
    · exact absurd h (bothErr_right h2)
  · exact absurd h (bothErr_left h1)

theorem rless_some (P Q P' Q' : Int) : ∃ b e, ∀ W, Calls Try.prog 14 #[.agg #[.int .i64 P, .int .i64 Q], .agg #[.int .i64 P', .int .i64 Q']] W (RetB W b e) := by
  by_cases h : bothErr P Q P' Q' = 0
  · obtain ⟨h1, h2⟩ := bothErr_zero h
    obtain ⟨x, hx, rfl, rfl⟩ := ratioErr_zero h1
    obtain ⟨y, hy, rfl, rfl⟩ := ratioErr_zero h2
    exact ⟨_, _, fun W => rless_ok x y W hx hy⟩
  · exact ⟨_, _, fun W => rless_bad P Q P' Q' W h⟩

theorem agg_ne {x y : Rat} (h : x ≠ y) : ¬ (x.num = y.num ∧ (x.den : Int) = (y.den : Int)) := fun ⟨a, b⟩ => h (Rat.ext a (by omega))

theorem rless_is {x y : Rat} (b : Bool) (h : decide (x < y) = b) (hx : RFits x) (hy : RFits y) (W : World) : Calls Try.prog 14 #[.agg #[.int .i64 x.num, .int .i64 (x.den : Int)], .agg #[.int .i64 y.num, .int .i64 (y.den : Int)]] W (RetB W b 0) := h ▸ rless_ok x y W hx hy

theorem fits_or (x y : Rat) : (RFits x ∧ RFits y) ∨ (outE x ≠ 0 ∨ outE y ≠ 0) := by
  by_cases hx : RFits x
  · by_cases hy : RFits y
    · exact .inl ⟨hx, hy⟩
    · exact .inr (.inr (by rw [(out_not hy).2.2]; omega))
  · exact .inr (.inl (by rw [(out_not hx).2.2]; omega))

theorem ratioOrder_any (P1 Q1 P2 Q2 P3 Q3 : Int) (w : World) :
    Calls Try.prog 6 #[.agg #[.int .i64 P1, .int .i64 Q1], .agg #[.int .i64 P2, .int .i64 Q2], .agg #[.int .i64 P3, .int .i64 Q3]] w fun e w' => e = .returned (.bool true) ∧ Below w.heap.size w w' := by
  obtain ⟨c, e3, h3⟩ := rless_some P2 Q2 P3 Q3
  obtain ⟨d, e4, h4⟩ := rless_some P1 Q1 P3 Q3
  by_cases hx : ratioErr P1 Q1 = 0
  · by_cases hy : ratioErr P2 Q2 = 0
    · obtain ⟨x, fx, rfl, rfl⟩ := ratioErr_zero hx
      obtain ⟨y, fy, rfl, rfl⟩ := ratioErr_zero hy
      by_cases hz : ratioErr P3 Q3 = 0
      · obtain ⟨z, fz, rfl, rfl⟩ := ratioErr_zero hz
        clear h3 h4
        have k3 := fun W => rless_ok y z W fy fz
        have k4 := fun W => rless_ok x z W fx fz
        have k5 := fun W => radd_ok x z W fx fz
        have k6 := fun W => radd_ok y z W fy fz
        have h7 : ∀ b, decide (x < y) = b → RFits (x + z) → RFits (y + z) → ∀ W, Calls Try.prog 14 #[.agg #[.int .i64 (outP (x + z)), .int .i64 (outQ (x + z))], .agg #[.int .i64 (outP (y + z)), .int .i64 (outQ (y + z))]] W (RetB W b 0) := fun b hb f1 f2 W => by
          obtain ⟨a1, a2, _⟩ := out_fits f1
          obtain ⟨b1, b2, _⟩ := out_fits f2
          rw [a1, a2, b1, b2]
          exact rless_is b (by rw [← hb]; congr 1; exact propext Rat.add_lt_add_right) f1 f2 W
        have hfo := fits_or (x + z) (y + z)
        have hq1 : ∀ {r : Rat}, RFits r → outE r = 0 := fun h => (out_fits h).2.2
        rcases (show x < y ∨ y < x ∨ x = y by grind) with hxy | hxy | hxy
        · have k1 := rless_is true (decide_eq_true hxy) fx fy
          have k2 := rless_is false (decide_eq_false (by grind)) fy fx
          have hne := agg_ne (Rat.ne_of_lt hxy)
          by_cases hc : y < z
          · have k3 := rless_is true (decide_eq_true hc) fy fz
            have k4 := rless_is true (decide_eq_true (show x < z by grind)) fx fz
            rcases hfo with ⟨f1, f2⟩ | hno
            · rw [hq1 f1] at k5
              rw [hq1 f2] at k6
              exact ratioOrder_tft_fit _ _ _ _ _ _ _ _ _ _ hne k1 k2 k3 k4 k5 k6 (h7 true (decide_eq_true hxy) f1 f2) w
            · exact ratioOrder_tft_not _ _ _ _ _ _ _ _ _ _ _ _ hno hne k1 k2 k3 k4 k5 k6 w
          · have k3 := rless_is false (decide_eq_false hc) fy fz
            rcases hfo with ⟨f1, f2⟩ | hno
            · rw [hq1 f1] at k5
              rw [hq1 f2] at k6
              exact ratioOrder_tff_fit _ _ _ _ _ _ _ _ _ _ _ hne k1 k2 k3 k4 k5 k6 (h7 true (decide_eq_true hxy) f1 f2) w
            · exact ratioOrder_tff_not _ _ _ _ _ _ _ _ _ _ _ _ _ hno hne k1 k2 k3 k4 k5 k6 w
        · have k1 := rless_is false (decide_eq_false (show ¬ x < y by grind)) fx fy
          have k2 := rless_is true (decide_eq_true hxy) fy fx
          have hne := agg_ne (Rat.ne_of_gt hxy)
          rcases hfo with ⟨f1, f2⟩ | hno
          · rw [hq1 f1] at k5
            rw [hq1 f2] at k6
            exact ratioOrder_ftc_fit _ _ _ _ _ _ _ _ _ _ _ _ hne k1 k2 k3 k4 k5 k6 (h7 false (decide_eq_false (show ¬ x < y by grind)) f1 f2) w
          · exact ratioOrder_ftc_not _ _ _ _ _ _ _ _ _ _ _ _ _ _ hno hne k1 k2 k3 k4 k5 k6 w
        · subst hxy
          have k1 := rless_is false (decide_eq_false (show ¬ x < x from Rat.lt_irrefl)) fx fy
          rcases hfo with ⟨f1, f2⟩ | hno
          · rw [hq1 f1] at k5
            exact ratioOrder_ffc_fit _ _ _ _ _ _ _ _ _ _ _ _ ⟨rfl, rfl⟩ k1 k1 k3 k4 k5 k5 (h7 false (decide_eq_false (show ¬ x < x from Rat.lt_irrefl)) f1 f2) w
          · exact ratioOrder_ffc_not _ _ _ _ _ _ _ _ _ _ _ _ _ _ hno ⟨rfl, rfl⟩ k1 k1 k3 k4 k5 k6 w
      · have k3 := fun W => rless_bad y.num (y.den : Int) P3 Q3 W (bothErr_right hz)
        have k1 := fun W => rless_ok x y W fx fy
        have k2 := fun W => rless_ok y x W fy fx
        have he : bothErr y.num (y.den : Int) P3 Q3 ≠ 0 := bothErr_right hz
        cases ha : decide (x < y)
        · rw [ha] at k1
          cases hb : decide (y < x)
          · rw [hb] at k2
            exact ratioOrder_z_false_false _ _ _ _ _ _ _ _ _ _ he k1 k2 k3 h4 w
          · rw [hb] at k2
            exact ratioOrder_z_false_true _ _ _ _ _ _ _ _ _ _ he k1 k2 k3 h4 w
        · rw [ha] at k1
          cases hb : decide (y < x)
          · rw [hb] at k2
            exact ratioOrder_z_true_false _ _ _ _ _ _ _ _ _ _ he k1 k2 k3 h4 w
          · rw [hb] at k2
            exact ratioOrder_z_true_true _ _ _ _ _ _ _ _ _ _ he k1 k2 k3 h4 w
    · exact ratioOrder_xy _ _ _ _ _ _ _ _ _ _ _ _ (bothErr_right hy) (fun W => rless_bad _ _ _ _ W (bothErr_right hy)) (fun W => rless_bad _ _ _ _ W (bothErr_left hy)) h3 h4 w
  · exact ratioOrder_xy _ _ _ _ _ _ _ _ _ _ _ _ (bothErr_left hx) (fun W => rless_bad _ _ _ _ W (bothErr_left hx)) (fun W => rless_bad _ _ _ _ W (bothErr_right hx)) h3 h4 w
end Go.Proofs.Ytcnljljgdkjndaa
