/-
  castlaw.RatioSays, walked: p and q are right.
-/
import Derived.Test.YtcnljljgdkjndaaRatF
import Derived.Test.YtcnljljgdkjndaaRats
import Derived.Deep.RegionHeld3
namespace Go.Proofs.Ytcnljljgdkjndaa
open Go.RowKit

set_option maxHeartbeats 4000000 in
set_option maxRecDepth 100000 in
theorem ratioSays_ok_bx (p q M N P1 Q1 P2 Q2 : Int) (hM : M = if q > p then q else p) (hN : N = if q < p then q else p) (hs : M ≤ 1000000000) (hs' : -1000000000 ≤ N) (h0 : q ≠ 0) (mp mq : Int) (er : Int) (he : er ≠ 0) (h1 : (∀ W, Calls Try.prog 10 #[.int .i64 p, .int .i64 q] W (RetR W mp mq 0))) (h2 : (∀ W, Calls Try.prog 11 #[.agg #[.int .i64 P1, .int .i64 Q1], .agg #[.int .i64 P2, .int .i64 Q2]] W (RetR W 0 0 er))) (h3 : (∀ W, Calls Try.prog 12 #[.agg #[.int .i64 P1, .int .i64 Q1], .agg #[.int .i64 P2, .int .i64 Q2]] W (RetR W 0 0 er))) (h4 : (∀ W, Calls Try.prog 13 #[.agg #[.int .i64 P1, .int .i64 Q1], .agg #[.int .i64 P2, .int .i64 Q2]] W (RetR W 0 0 er))) (h5 : (∀ W, Calls Try.prog 14 #[.agg #[.int .i64 P1, .int .i64 Q1], .agg #[.int .i64 P2, .int .i64 Q2]] W (RetB W false er))) (h6 : (∀ W, Calls Try.prog 15 #[.int .i64 p, .int .i64 q] W (fun e w' => e = .returned (.agg #[.int .i64 mp, .int .i64 mq]) ∧ Below W.heap.size W w'))) (h7 : (∀ W, Calls Try.prog 16 #[.agg #[.int .i64 P1, .int .i64 Q1]] W (RetE W er))) (h8 : (∀ W, Calls Try.prog 17 #[.agg #[.int .i64 P1, .int .i64 Q1]] W (RetE W er))) (w : World) :
    Calls Try.prog 3 #[.int .i64 p, .int .i64 q, .agg #[.int .i64 P1, .int .i64 Q1], .agg #[.int .i64 P2, .int .i64 Q2]] w fun e w' => e = .returned (.bool true) ∧ Below w.heap.size w w' := by
  have hmax := run_maxMM (P := Try.prog) p q M hM
  have hmin := run_minMM (P := Try.prog) p q N hN
  have hq0 : (q == 0) = false := by simpa using h0
  have d0 : decide (1000000000 < M) = false := by simp; omega
  have d1 : decide (N < -1000000000) = false := by simp; omega
  clear hM hN hs hs' h0
  have hne : (er != 0) = true := by simpa using he
  have hne2 : (er == 0) = false := by simpa using he
  clear he
  have h1' := hid h1
  clear h1
  have h2' := hid h2
  clear h2
  have h3' := hid h3
  clear h3
  have h4' := hid h4
  clear h4
  have h5' := hid h5
  clear h5
  have h6' := hid h6
  clear h6
  have h7' := hid h7
  clear h7
  have h8' := hid h8
  clear h8
  have HB0 := hid (Below.refl w.heap.size w)
  have R0_x : Hid (RatAt ((w.alloc (.cells #[.int .i64 P1, .int .i64 Q1] 23)).alloc (.cells #[.int .i64 P2, .int .i64 Q2] 23)) w.heap.size (P1) (Q1)) := (RatAt.new w 23 (P1) (Q1)).keep_alloc (.cells #[.int .i64 (P2), .int .i64 (Q2)] 23)
  have R0_y : Hid (RatAt ((w.alloc (.cells #[.int .i64 P1, .int .i64 Q1] 23)).alloc (.cells #[.int .i64 P2, .int .i64 Q2] 23)) (w.heap.size + 1) (P2) (Q2)) := rat_second w _ 23 (P2) (Q2)
  have HBx : Hid (Below w.heap.size w ((w.alloc (.cells #[.int .i64 P1, .int .i64 Q1] 23)).alloc (.cells #[.int .i64 P2, .int .i64 Q2] 23))) := two_alloc w _ _
  clear HB0
  have HB0 := HBx
  clear HBx
  go_enter Try.func3, Try.ntmps3
  go_wp2_with fail
  refine (h1'.out _).mono ?_
  rintro e w1 ⟨rfl, hb⟩
  have R1_x := hid ((R0_x.out).keep hb)
  have R1_y := hid ((R0_y.out).keep hb)
  have HB1 := hid (below_step HB0.out (Nat.le_refl _) hb)
  clear hb HB0 R0_x R0_y
  have g0_x := R1_x.out.p0
  have g1_x := R1_x.out.p1
  have gl_x := R1_x.out.lt
  have g0_y := R1_y.out.p0
  have g1_y := R1_y.out.p1
  have gl_y := R1_y.out.lt
  go_wp2_with fail
  refine (h2'.out _).mono ?_
  rintro e w2 ⟨rfl, hb⟩
  clear g0_x g1_x gl_x g0_y g1_y gl_y
  have R2_x := hid (((R1_x.out).keep_alloc (.cells #[.int .i64 (mp), .int .i64 (mq)] 23)).keep hb)
  have R2_y := hid (((R1_y.out).keep_alloc (.cells #[.int .i64 (mp), .int .i64 (mq)] 23)).keep hb)
  have R2_m := hid ((RatAt.new w1 23 (mp) (mq)).keep hb)
  have HB2 := hid (below_step (below_step HB1.out (Nat.le_refl _) (below_alloc w1 (.cells #[.int .i64 (mp), .int .i64 (mq)] 23))) (Nat.le_refl _) hb)
  clear hb HB1 R1_x R1_y
  have g0_x := R2_x.out.p0
  have g1_x := R2_x.out.p1
  have gl_x := R2_x.out.lt
  have g0_y := R2_y.out.p0
  have g1_y := R2_y.out.p1
  have gl_y := R2_y.out.lt
  have g0_m := R2_m.out.p0
  have g1_m := R2_m.out.p1
  have gl_m := R2_m.out.lt
  go_wp2_with fail
  refine (h3'.out _).mono ?_
  rintro e w3 ⟨rfl, hb⟩
  clear g0_x g1_x gl_x g0_y g1_y gl_y g0_m g1_m gl_m
  have R3_x := hid (((R2_x.out).keep_alloc (.cells #[.int .i64 (0), .int .i64 (0)] 23)).keep hb)
  have R3_y := hid (((R2_y.out).keep_alloc (.cells #[.int .i64 (0), .int .i64 (0)] 23)).keep hb)
  have R3_m := hid (((R2_m.out).keep_alloc (.cells #[.int .i64 (0), .int .i64 (0)] 23)).keep hb)
  have R3_a := hid ((RatAt.new w2 23 (0) (0)).keep hb)
  have HB3 := hid (below_step (below_step HB2.out (Nat.le_refl _) (below_alloc w2 (.cells #[.int .i64 (0), .int .i64 (0)] 23))) (Nat.le_refl _) hb)
  clear hb HB2 R2_x R2_y R2_m
  have g0_x := R3_x.out.p0
  have g1_x := R3_x.out.p1
  have gl_x := R3_x.out.lt
  have g0_y := R3_y.out.p0
  have g1_y := R3_y.out.p1
  have gl_y := R3_y.out.lt
  have g0_m := R3_m.out.p0
  have g1_m := R3_m.out.p1
  have gl_m := R3_m.out.lt
  have g0_a := R3_a.out.p0
  have g1_a := R3_a.out.p1
  have gl_a := R3_a.out.lt
  go_wp2_with fail
  refine (h4'.out _).mono ?_
  rintro e w4 ⟨rfl, hb⟩
  clear g0_x g1_x gl_x g0_y g1_y gl_y g0_m g1_m gl_m g0_a g1_a gl_a
  have R4_x := hid (((R3_x.out).keep_alloc (.cells #[.int .i64 (0), .int .i64 (0)] 23)).keep hb)
  have R4_y := hid (((R3_y.out).keep_alloc (.cells #[.int .i64 (0), .int .i64 (0)] 23)).keep hb)
  have R4_m := hid (((R3_m.out).keep_alloc (.cells #[.int .i64 (0), .int .i64 (0)] 23)).keep hb)
  have R4_a := hid (((R3_a.out).keep_alloc (.cells #[.int .i64 (0), .int .i64 (0)] 23)).keep hb)
  have R4_t := hid ((RatAt.new w3 23 (0) (0)).keep hb)
  have HB4 := hid (below_step (below_step HB3.out (Nat.le_refl _) (below_alloc w3 (.cells #[.int .i64 (0), .int .i64 (0)] 23))) (Nat.le_refl _) hb)
  clear hb HB3 R3_x R3_y R3_m R3_a
  have g0_x := R4_x.out.p0
  have g1_x := R4_x.out.p1
  have gl_x := R4_x.out.lt
  have g0_y := R4_y.out.p0
  have g1_y := R4_y.out.p1
  have gl_y := R4_y.out.lt
  have g0_m := R4_m.out.p0
  have g1_m := R4_m.out.p1
  have gl_m := R4_m.out.lt
  have g0_a := R4_a.out.p0
  have g1_a := R4_a.out.p1
  have gl_a := R4_a.out.lt
  have g0_t := R4_t.out.p0
  have g1_t := R4_t.out.p1
  have gl_t := R4_t.out.lt
  go_wp2_with fail
  refine (h5'.out _).mono ?_
  rintro e w5 ⟨rfl, hb⟩
  clear g0_x g1_x gl_x g0_y g1_y gl_y g0_m g1_m gl_m g0_a g1_a gl_a g0_t g1_t gl_t
  have R5_x := hid (((R4_x.out).keep_alloc (.cells #[.int .i64 (0), .int .i64 (0)] 23)).keep hb)
  have R5_y := hid (((R4_y.out).keep_alloc (.cells #[.int .i64 (0), .int .i64 (0)] 23)).keep hb)
  have R5_m := hid (((R4_m.out).keep_alloc (.cells #[.int .i64 (0), .int .i64 (0)] 23)).keep hb)
  have R5_a := hid (((R4_a.out).keep_alloc (.cells #[.int .i64 (0), .int .i64 (0)] 23)).keep hb)
  have R5_t := hid (((R4_t.out).keep_alloc (.cells #[.int .i64 (0), .int .i64 (0)] 23)).keep hb)
  have R5_d := hid ((RatAt.new w4 23 (0) (0)).keep hb)
  have HB5 := hid (below_step (below_step HB4.out (Nat.le_refl _) (below_alloc w4 (.cells #[.int .i64 (0), .int .i64 (0)] 23))) (Nat.le_refl _) hb)
  clear hb HB4 R4_x R4_y R4_m R4_a R4_t
  have g0_x := R5_x.out.p0
  have g1_x := R5_x.out.p1
  have gl_x := R5_x.out.lt
  have g0_y := R5_y.out.p0
  have g1_y := R5_y.out.p1
  have gl_y := R5_y.out.lt
  have g0_m := R5_m.out.p0
  have g1_m := R5_m.out.p1
  have gl_m := R5_m.out.lt
  have g0_a := R5_a.out.p0
  have g1_a := R5_a.out.p1
  have gl_a := R5_a.out.lt
  have g0_t := R5_t.out.p0
  have g1_t := R5_t.out.p1
  have gl_t := R5_t.out.lt
  have g0_d := R5_d.out.p0
  have g1_d := R5_d.out.p1
  have gl_d := R5_d.out.lt
  go_wp2_with fail
  go_region_held3 (fun u => u.cell? ⟨w1.heap.size, 0, none⟩ = some (.int .i64 mp) ∧ u.cell? ⟨w1.heap.size, 1, none⟩ = some (.int .i64 mq)) (first | exact ⟨g0_m, g1_m⟩ | exact ⟨k0_m, k1_m⟩) (first | (go_at_call 15; refine (h6'.out _).mono ?_; rintro e w6 ⟨rfl, hb0⟩; have hb : Below w5.heap.size w5 w6 := (below_drewN (Below.refl w5.heap.size w5) 1).trans hb0; have k0_m := (R5_m.out.keep hb).p0; have k1_m := (R5_m.out.keep hb).p1; clear hb0))
  clear g0_x g1_x gl_x g0_y g1_y gl_y g0_m g1_m gl_m g0_a g1_a gl_a g0_t g1_t gl_t g0_d g1_d gl_d
  have R6_x := hid (R5_x.out.keep hb)
  have R6_y := hid (R5_y.out.keep hb)
  have R6_m := hid (R5_m.out.keep hb)
  have R6_a := hid (R5_a.out.keep hb)
  have R6_t := hid (R5_t.out.keep hb)
  have R6_d := hid (R5_d.out.keep hb)
  have HB6 := hid (below_step HB5.out (Nat.le_refl _) hb)
  clear hb HB5 R5_x R5_y R5_m R5_a R5_t R5_d k0_m k1_m
  have g0_x := R6_x.out.p0
  have g1_x := R6_x.out.p1
  have gl_x := R6_x.out.lt
  have g0_y := R6_y.out.p0
  have g1_y := R6_y.out.p1
  have gl_y := R6_y.out.lt
  have g0_m := R6_m.out.p0
  have g1_m := R6_m.out.p1
  have gl_m := R6_m.out.lt
  have g0_a := R6_a.out.p0
  have g1_a := R6_a.out.p1
  have gl_a := R6_a.out.lt
  have g0_t := R6_t.out.p0
  have g1_t := R6_t.out.p1
  have gl_t := R6_t.out.lt
  have g0_d := R6_d.out.p0
  have g1_d := R6_d.out.p1
  have gl_d := R6_d.out.lt
  go_wp2_with fail
  refine (h7'.out _).mono ?_
  rintro e w7 ⟨rfl, hb⟩
  clear g0_x g1_x gl_x g0_y g1_y gl_y g0_m g1_m gl_m g0_a g1_a gl_a g0_t g1_t gl_t g0_d g1_d gl_d
  have R7_x := hid ((R6_x.out).keep hb)
  have R7_y := hid ((R6_y.out).keep hb)
  have R7_a := hid ((R6_a.out).keep hb)
  have R7_t := hid ((R6_t.out).keep hb)
  have R7_d := hid ((R6_d.out).keep hb)
  have HB7 := hid (below_step HB6.out (Nat.le_refl _) hb)
  clear hb HB6 R6_x R6_y R6_m R6_a R6_t R6_d
  have g0_x := R7_x.out.p0
  have g1_x := R7_x.out.p1
  have gl_x := R7_x.out.lt
  have g0_y := R7_y.out.p0
  have g1_y := R7_y.out.p1
  have gl_y := R7_y.out.lt
  have g0_a := R7_a.out.p0
  have g1_a := R7_a.out.p1
  have gl_a := R7_a.out.lt
  have g0_t := R7_t.out.p0
  have g1_t := R7_t.out.p1
  have gl_t := R7_t.out.lt
  have g0_d := R7_d.out.p0
  have g1_d := R7_d.out.p1
  have gl_d := R7_d.out.lt
  go_wp2_with fail
  refine (h8'.out _).mono ?_
  rintro e w8 ⟨rfl, hb⟩
  clear g0_x g1_x gl_x g0_y g1_y gl_y g0_a g1_a gl_a g0_t g1_t gl_t g0_d g1_d gl_d
  have R8_x := hid ((R7_x.out).keep hb)
  have R8_y := hid ((R7_y.out).keep hb)
  have R8_a := hid ((R7_a.out).keep hb)
  have R8_t := hid ((R7_t.out).keep hb)
  have R8_d := hid ((R7_d.out).keep hb)
  have HB8 := hid (below_step HB7.out (Nat.le_refl _) hb)
  clear hb HB7 R7_x R7_y R7_a R7_t R7_d
  have g0_x := R8_x.out.p0
  have g1_x := R8_x.out.p1
  have gl_x := R8_x.out.lt
  have g0_y := R8_y.out.p0
  have g1_y := R8_y.out.p1
  have gl_y := R8_y.out.lt
  have g0_a := R8_a.out.p0
  have g1_a := R8_a.out.p1
  have gl_a := R8_a.out.lt
  have g0_t := R8_t.out.p0
  have g1_t := R8_t.out.p1
  have gl_t := R8_t.out.lt
  have g0_d := R8_d.out.p0
  have g1_d := R8_d.out.p1
  have gl_d := R8_d.out.lt
  go_wp2
  go_ret
  exact ⟨rfl, HB8.out⟩

set_option maxHeartbeats 4000000 in
set_option maxRecDepth 100000 in
theorem ratioSays_ok_by (p q M N P1 Q1 P2 Q2 : Int) (hM : M = if q > p then q else p) (hN : N = if q < p then q else p) (hs : M ≤ 1000000000) (hs' : -1000000000 ≤ N) (h0 : q ≠ 0) (mp mq : Int) (er : Int) (he : er ≠ 0) (h1 : (∀ W, Calls Try.prog 10 #[.int .i64 p, .int .i64 q] W (RetR W mp mq 0))) (h2 : (∀ W, Calls Try.prog 11 #[.agg #[.int .i64 P1, .int .i64 Q1], .agg #[.int .i64 P2, .int .i64 Q2]] W (RetR W 0 0 er))) (h3 : (∀ W, Calls Try.prog 12 #[.agg #[.int .i64 P1, .int .i64 Q1], .agg #[.int .i64 P2, .int .i64 Q2]] W (RetR W 0 0 er))) (h4 : (∀ W, Calls Try.prog 13 #[.agg #[.int .i64 P1, .int .i64 Q1], .agg #[.int .i64 P2, .int .i64 Q2]] W (RetR W 0 0 er))) (h5 : (∀ W, Calls Try.prog 14 #[.agg #[.int .i64 P1, .int .i64 Q1], .agg #[.int .i64 P2, .int .i64 Q2]] W (RetB W false er))) (h6 : (∀ W, Calls Try.prog 15 #[.int .i64 p, .int .i64 q] W (fun e w' => e = .returned (.agg #[.int .i64 mp, .int .i64 mq]) ∧ Below W.heap.size W w'))) (h7 : (∀ W, Calls Try.prog 16 #[.agg #[.int .i64 P1, .int .i64 Q1]] W (RetE W 0))) (h8 : (∀ W, Calls Try.prog 17 #[.agg #[.int .i64 P1, .int .i64 Q1]] W (RetE W 0))) (h9 : (∀ W, Calls Try.prog 16 #[.agg #[.int .i64 P2, .int .i64 Q2]] W (RetE W er))) (w : World) :
    Calls Try.prog 3 #[.int .i64 p, .int .i64 q, .agg #[.int .i64 P1, .int .i64 Q1], .agg #[.int .i64 P2, .int .i64 Q2]] w fun e w' => e = .returned (.bool true) ∧ Below w.heap.size w w' := by
  have hmax := run_maxMM (P := Try.prog) p q M hM
  have hmin := run_minMM (P := Try.prog) p q N hN
  have hq0 : (q == 0) = false := by simpa using h0
  have d0 : decide (1000000000 < M) = false := by simp; omega
  have d1 : decide (N < -1000000000) = false := by simp; omega
  clear hM hN hs hs' h0
  have hne : (er != 0) = true := by simpa using he
  have hne2 : (er == 0) = false := by simpa using he
  clear he
  have h1' := hid h1
  clear h1
  have h2' := hid h2
  clear h2
  have h3' := hid h3
  clear h3
  have h4' := hid h4
  clear h4
  have h5' := hid h5
  clear h5
  have h6' := hid h6
  clear h6
  have h7' := hid h7
  clear h7
  have h8' := hid h8
  clear h8
  have h9' := hid h9
  clear h9
  have HB0 := hid (Below.refl w.heap.size w)
  have R0_x : Hid (RatAt ((w.alloc (.cells #[.int .i64 P1, .int .i64 Q1] 23)).alloc (.cells #[.int .i64 P2, .int .i64 Q2] 23)) w.heap.size (P1) (Q1)) := (RatAt.new w 23 (P1) (Q1)).keep_alloc (.cells #[.int .i64 (P2), .int .i64 (Q2)] 23)
  have R0_y : Hid (RatAt ((w.alloc (.cells #[.int .i64 P1, .int .i64 Q1] 23)).alloc (.cells #[.int .i64 P2, .int .i64 Q2] 23)) (w.heap.size + 1) (P2) (Q2)) := rat_second w _ 23 (P2) (Q2)
  have HBx : Hid (Below w.heap.size w ((w.alloc (.cells #[.int .i64 P1, .int .i64 Q1] 23)).alloc (.cells #[.int .i64 P2, .int .i64 Q2] 23))) := two_alloc w _ _
  clear HB0
  have HB0 := HBx
  clear HBx
  go_enter Try.func3, Try.ntmps3
  go_wp2_with fail
  refine (h1'.out _).mono ?_
  rintro e w1 ⟨rfl, hb⟩
  have R1_x := hid ((R0_x.out).keep hb)
  have R1_y := hid ((R0_y.out).keep hb)
  have HB1 := hid (below_step HB0.out (Nat.le_refl _) hb)
  clear hb HB0 R0_x R0_y
  have g0_x := R1_x.out.p0
  have g1_x := R1_x.out.p1
  have gl_x := R1_x.out.lt
  have g0_y := R1_y.out.p0
  have g1_y := R1_y.out.p1
  have gl_y := R1_y.out.lt
  go_wp2_with fail
  refine (h2'.out _).mono ?_
  rintro e w2 ⟨rfl, hb⟩
  clear g0_x g1_x gl_x g0_y g1_y gl_y
  have R2_x := hid (((R1_x.out).keep_alloc (.cells #[.int .i64 (mp), .int .i64 (mq)] 23)).keep hb)
  have R2_y := hid (((R1_y.out).keep_alloc (.cells #[.int .i64 (mp), .int .i64 (mq)] 23)).keep hb)
  have R2_m := hid ((RatAt.new w1 23 (mp) (mq)).keep hb)
  have HB2 := hid (below_step (below_step HB1.out (Nat.le_refl _) (below_alloc w1 (.cells #[.int .i64 (mp), .int .i64 (mq)] 23))) (Nat.le_refl _) hb)
  clear hb HB1 R1_x R1_y
  have g0_x := R2_x.out.p0
  have g1_x := R2_x.out.p1
  have gl_x := R2_x.out.lt
  have g0_y := R2_y.out.p0
  have g1_y := R2_y.out.p1
  have gl_y := R2_y.out.lt
  have g0_m := R2_m.out.p0
  have g1_m := R2_m.out.p1
  have gl_m := R2_m.out.lt
  go_wp2_with fail
  refine (h3'.out _).mono ?_
  rintro e w3 ⟨rfl, hb⟩
  clear g0_x g1_x gl_x g0_y g1_y gl_y g0_m g1_m gl_m
  have R3_x := hid (((R2_x.out).keep_alloc (.cells #[.int .i64 (0), .int .i64 (0)] 23)).keep hb)
  have R3_y := hid (((R2_y.out).keep_alloc (.cells #[.int .i64 (0), .int .i64 (0)] 23)).keep hb)
  have R3_m := hid (((R2_m.out).keep_alloc (.cells #[.int .i64 (0), .int .i64 (0)] 23)).keep hb)
  have R3_a := hid ((RatAt.new w2 23 (0) (0)).keep hb)
  have HB3 := hid (below_step (below_step HB2.out (Nat.le_refl _) (below_alloc w2 (.cells #[.int .i64 (0), .int .i64 (0)] 23))) (Nat.le_refl _) hb)
  clear hb HB2 R2_x R2_y R2_m
  have g0_x := R3_x.out.p0
  have g1_x := R3_x.out.p1
  have gl_x := R3_x.out.lt
  have g0_y := R3_y.out.p0
  have g1_y := R3_y.out.p1
  have gl_y := R3_y.out.lt
  have g0_m := R3_m.out.p0
  have g1_m := R3_m.out.p1
  have gl_m := R3_m.out.lt
  have g0_a := R3_a.out.p0
  have g1_a := R3_a.out.p1
  have gl_a := R3_a.out.lt
  go_wp2_with fail
  refine (h4'.out _).mono ?_
  rintro e w4 ⟨rfl, hb⟩
  clear g0_x g1_x gl_x g0_y g1_y gl_y g0_m g1_m gl_m g0_a g1_a gl_a
  have R4_x := hid (((R3_x.out).keep_alloc (.cells #[.int .i64 (0), .int .i64 (0)] 23)).keep hb)
  have R4_y := hid (((R3_y.out).keep_alloc (.cells #[.int .i64 (0), .int .i64 (0)] 23)).keep hb)
  have R4_m := hid (((R3_m.out).keep_alloc (.cells #[.int .i64 (0), .int .i64 (0)] 23)).keep hb)
  have R4_a := hid (((R3_a.out).keep_alloc (.cells #[.int .i64 (0), .int .i64 (0)] 23)).keep hb)
  have R4_t := hid ((RatAt.new w3 23 (0) (0)).keep hb)
  have HB4 := hid (below_step (below_step HB3.out (Nat.le_refl _) (below_alloc w3 (.cells #[.int .i64 (0), .int .i64 (0)] 23))) (Nat.le_refl _) hb)
  clear hb HB3 R3_x R3_y R3_m R3_a
  have g0_x := R4_x.out.p0
  have g1_x := R4_x.out.p1
  have gl_x := R4_x.out.lt
  have g0_y := R4_y.out.p0
  have g1_y := R4_y.out.p1
  have gl_y := R4_y.out.lt
  have g0_m := R4_m.out.p0
  have g1_m := R4_m.out.p1
  have gl_m := R4_m.out.lt
  have g0_a := R4_a.out.p0
  have g1_a := R4_a.out.p1
  have gl_a := R4_a.out.lt
  have g0_t := R4_t.out.p0
  have g1_t := R4_t.out.p1
  have gl_t := R4_t.out.lt
  go_wp2_with fail
  refine (h5'.out _).mono ?_
  rintro e w5 ⟨rfl, hb⟩
  clear g0_x g1_x gl_x g0_y g1_y gl_y g0_m g1_m gl_m g0_a g1_a gl_a g0_t g1_t gl_t
  have R5_x := hid (((R4_x.out).keep_alloc (.cells #[.int .i64 (0), .int .i64 (0)] 23)).keep hb)
  have R5_y := hid (((R4_y.out).keep_alloc (.cells #[.int .i64 (0), .int .i64 (0)] 23)).keep hb)
  have R5_m := hid (((R4_m.out).keep_alloc (.cells #[.int .i64 (0), .int .i64 (0)] 23)).keep hb)
  have R5_a := hid (((R4_a.out).keep_alloc (.cells #[.int .i64 (0), .int .i64 (0)] 23)).keep hb)
  have R5_t := hid (((R4_t.out).keep_alloc (.cells #[.int .i64 (0), .int .i64 (0)] 23)).keep hb)
  have R5_d := hid ((RatAt.new w4 23 (0) (0)).keep hb)
  have HB5 := hid (below_step (below_step HB4.out (Nat.le_refl _) (below_alloc w4 (.cells #[.int .i64 (0), .int .i64 (0)] 23))) (Nat.le_refl _) hb)
  clear hb HB4 R4_x R4_y R4_m R4_a R4_t
  have g0_x := R5_x.out.p0
  have g1_x := R5_x.out.p1
  have gl_x := R5_x.out.lt
  have g0_y := R5_y.out.p0
  have g1_y := R5_y.out.p1
  have gl_y := R5_y.out.lt
  have g0_m := R5_m.out.p0
  have g1_m := R5_m.out.p1
  have gl_m := R5_m.out.lt
  have g0_a := R5_a.out.p0
  have g1_a := R5_a.out.p1
  have gl_a := R5_a.out.lt
  have g0_t := R5_t.out.p0
  have g1_t := R5_t.out.p1
  have gl_t := R5_t.out.lt
  have g0_d := R5_d.out.p0
  have g1_d := R5_d.out.p1
  have gl_d := R5_d.out.lt
  go_wp2_with fail
  go_region_held3 (fun u => u.cell? ⟨w1.heap.size, 0, none⟩ = some (.int .i64 mp) ∧ u.cell? ⟨w1.heap.size, 1, none⟩ = some (.int .i64 mq)) (first | exact ⟨g0_m, g1_m⟩ | exact ⟨k0_m, k1_m⟩) (first | (go_at_call 15; refine (h6'.out _).mono ?_; rintro e w6 ⟨rfl, hb0⟩; have hb : Below w5.heap.size w5 w6 := (below_drewN (Below.refl w5.heap.size w5) 1).trans hb0; have k0_m := (R5_m.out.keep hb).p0; have k1_m := (R5_m.out.keep hb).p1; clear hb0))
  clear g0_x g1_x gl_x g0_y g1_y gl_y g0_m g1_m gl_m g0_a g1_a gl_a g0_t g1_t gl_t g0_d g1_d gl_d
  have R6_x := hid (R5_x.out.keep hb)
  have R6_y := hid (R5_y.out.keep hb)
  have R6_m := hid (R5_m.out.keep hb)
  have R6_a := hid (R5_a.out.keep hb)
  have R6_t := hid (R5_t.out.keep hb)
  have R6_d := hid (R5_d.out.keep hb)
  have HB6 := hid (below_step HB5.out (Nat.le_refl _) hb)
  clear hb HB5 R5_x R5_y R5_m R5_a R5_t R5_d k0_m k1_m
  have g0_x := R6_x.out.p0
  have g1_x := R6_x.out.p1
  have gl_x := R6_x.out.lt
  have g0_y := R6_y.out.p0
  have g1_y := R6_y.out.p1
  have gl_y := R6_y.out.lt
  have g0_m := R6_m.out.p0
  have g1_m := R6_m.out.p1
  have gl_m := R6_m.out.lt
  have g0_a := R6_a.out.p0
  have g1_a := R6_a.out.p1
  have gl_a := R6_a.out.lt
  have g0_t := R6_t.out.p0
  have g1_t := R6_t.out.p1
  have gl_t := R6_t.out.lt
  have g0_d := R6_d.out.p0
  have g1_d := R6_d.out.p1
  have gl_d := R6_d.out.lt
  go_wp2_with fail
  refine (h7'.out _).mono ?_
  rintro e w7 ⟨rfl, hb⟩
  clear g0_x g1_x gl_x g0_y g1_y gl_y g0_m g1_m gl_m g0_a g1_a gl_a g0_t g1_t gl_t g0_d g1_d gl_d
  have R7_x := hid ((R6_x.out).keep hb)
  have R7_y := hid ((R6_y.out).keep hb)
  have R7_a := hid ((R6_a.out).keep hb)
  have R7_t := hid ((R6_t.out).keep hb)
  have R7_d := hid ((R6_d.out).keep hb)
  have HB7 := hid (below_step HB6.out (Nat.le_refl _) hb)
  clear hb HB6 R6_x R6_y R6_m R6_a R6_t R6_d
  have g0_x := R7_x.out.p0
  have g1_x := R7_x.out.p1
  have gl_x := R7_x.out.lt
  have g0_y := R7_y.out.p0
  have g1_y := R7_y.out.p1
  have gl_y := R7_y.out.lt
  have g0_a := R7_a.out.p0
  have g1_a := R7_a.out.p1
  have gl_a := R7_a.out.lt
  have g0_t := R7_t.out.p0
  have g1_t := R7_t.out.p1
  have gl_t := R7_t.out.lt
  have g0_d := R7_d.out.p0
  have g1_d := R7_d.out.p1
  have gl_d := R7_d.out.lt
  go_wp2_with fail
  refine (h8'.out _).mono ?_
  rintro e w8 ⟨rfl, hb⟩
  clear g0_x g1_x gl_x g0_y g1_y gl_y g0_a g1_a gl_a g0_t g1_t gl_t g0_d g1_d gl_d
  have R8_x := hid ((R7_x.out).keep hb)
  have R8_y := hid ((R7_y.out).keep hb)
  have R8_a := hid ((R7_a.out).keep hb)
  have R8_t := hid ((R7_t.out).keep hb)
  have R8_d := hid ((R7_d.out).keep hb)
  have HB8 := hid (below_step HB7.out (Nat.le_refl _) hb)
  clear hb HB7 R7_x R7_y R7_a R7_t R7_d
  have g0_x := R8_x.out.p0
  have g1_x := R8_x.out.p1
  have gl_x := R8_x.out.lt
  have g0_y := R8_y.out.p0
  have g1_y := R8_y.out.p1
  have gl_y := R8_y.out.lt
  have g0_a := R8_a.out.p0
  have g1_a := R8_a.out.p1
  have gl_a := R8_a.out.lt
  have g0_t := R8_t.out.p0
  have g1_t := R8_t.out.p1
  have gl_t := R8_t.out.lt
  have g0_d := R8_d.out.p0
  have g1_d := R8_d.out.p1
  have gl_d := R8_d.out.lt
  go_wp2_with fail
  refine (h9'.out _).mono ?_
  rintro e w9 ⟨rfl, hb⟩
  clear g0_x g1_x gl_x g0_y g1_y gl_y g0_a g1_a gl_a g0_t g1_t gl_t g0_d g1_d gl_d
  have R9_x := hid ((R8_x.out).keep hb)
  have R9_y := hid ((R8_y.out).keep hb)
  have R9_a := hid ((R8_a.out).keep hb)
  have R9_t := hid ((R8_t.out).keep hb)
  have R9_d := hid ((R8_d.out).keep hb)
  have HB9 := hid (below_step HB8.out (Nat.le_refl _) hb)
  clear hb HB8 R8_x R8_y R8_a R8_t R8_d
  have g0_x := R9_x.out.p0
  have g1_x := R9_x.out.p1
  have gl_x := R9_x.out.lt
  have g0_y := R9_y.out.p0
  have g1_y := R9_y.out.p1
  have gl_y := R9_y.out.lt
  have g0_a := R9_a.out.p0
  have g1_a := R9_a.out.p1
  have gl_a := R9_a.out.lt
  have g0_t := R9_t.out.p0
  have g1_t := R9_t.out.p1
  have gl_t := R9_t.out.lt
  have g0_d := R9_d.out.p0
  have g1_d := R9_d.out.p1
  have gl_d := R9_d.out.lt
  go_wp2
  go_ret
  exact ⟨rfl, HB9.out⟩

set_option maxHeartbeats 4000000 in
set_option maxRecDepth 100000 in
theorem ratioSays_ok_y0 (p q M N P1 Q1 : Int) (hM : M = if q > p then q else p) (hN : N = if q < p then q else p) (hs : M ≤ 1000000000) (hs' : -1000000000 ≤ N) (h0 : q ≠ 0) (mp mq : Int) (ap aq ae tp tq te : Int) (l : Bool) (x1 : -1000000000 ≤ P1) (x2 : P1 ≤ 1000000000) (hl : decide (P1 < 0) = l) (h1 : (∀ W, Calls Try.prog 10 #[.int .i64 p, .int .i64 q] W (RetR W mp mq 0))) (h2 : (∀ W, Calls Try.prog 11 #[.agg #[.int .i64 P1, .int .i64 Q1], .agg #[.int .i64 0, .int .i64 1]] W (RetR W ap aq ae))) (h3 : (∀ W, Calls Try.prog 12 #[.agg #[.int .i64 P1, .int .i64 Q1], .agg #[.int .i64 0, .int .i64 1]] W (RetR W tp tq te))) (h4 : (∀ W, Calls Try.prog 13 #[.agg #[.int .i64 P1, .int .i64 Q1], .agg #[.int .i64 0, .int .i64 1]] W (RetR W 0 0 5))) (h5 : (∀ W, Calls Try.prog 14 #[.agg #[.int .i64 P1, .int .i64 Q1], .agg #[.int .i64 0, .int .i64 1]] W (RetB W l 0))) (h6 : (∀ W, Calls Try.prog 15 #[.int .i64 p, .int .i64 q] W (fun e w' => e = .returned (.agg #[.int .i64 mp, .int .i64 mq]) ∧ Below W.heap.size W w'))) (h7 : (∀ W, Calls Try.prog 16 #[.agg #[.int .i64 P1, .int .i64 Q1]] W (RetE W 0))) (h8 : (∀ W, Calls Try.prog 17 #[.agg #[.int .i64 P1, .int .i64 Q1]] W (RetE W 0))) (h9 : (∀ W, Calls Try.prog 16 #[.agg #[.int .i64 0, .int .i64 1]] W (RetE W 0))) (h10 : (∀ W, Calls Try.prog 18 #[.agg #[.int .i64 P1, .int .i64 Q1], .agg #[.int .i64 0, .int .i64 1]] W (RetR W ap aq ae))) (h11 : (∀ W, Calls Try.prog 19 #[.agg #[.int .i64 P1, .int .i64 Q1], .agg #[.int .i64 0, .int .i64 1]] W (RetR W tp tq te))) (w : World) :
    Calls Try.prog 3 #[.int .i64 p, .int .i64 q, .agg #[.int .i64 P1, .int .i64 Q1], .agg #[.int .i64 0, .int .i64 1]] w fun e w' => e = .returned (.bool true) ∧ Below w.heap.size w w' := by
  have hmax := run_maxMM (P := Try.prog) p q M hM
  have hmin := run_minMM (P := Try.prog) p q N hN
  have hq0 : (q == 0) = false := by simpa using h0
  have d0 : decide (1000000000 < M) = false := by simp; omega
  have d1 : decide (N < -1000000000) = false := by simp; omega
  clear hM hN hs hs' h0
  have hll : (l != l) = false := bne_self_eq_false _
  have h1' := hid h1
  clear h1
  have h2' := hid h2
  clear h2
  have h3' := hid h3
  clear h3
  have h4' := hid h4
  clear h4
  have h5' := hid h5
  clear h5
  have h6' := hid h6
  clear h6
  have h7' := hid h7
  clear h7
  have h8' := hid h8
  clear h8
  have h9' := hid h9
  clear h9
  have h10' := hid h10
  clear h10
  have h11' := hid h11
  clear h11
  have HB0 := hid (Below.refl w.heap.size w)
  have R0_x : Hid (RatAt ((w.alloc (.cells #[.int .i64 P1, .int .i64 Q1] 23)).alloc (.cells #[.int .i64 0, .int .i64 1] 23)) w.heap.size (P1) (Q1)) := (RatAt.new w 23 (P1) (Q1)).keep_alloc (.cells #[.int .i64 (0), .int .i64 (1)] 23)
  have R0_y : Hid (RatAt ((w.alloc (.cells #[.int .i64 P1, .int .i64 Q1] 23)).alloc (.cells #[.int .i64 0, .int .i64 1] 23)) (w.heap.size + 1) (0) (1)) := rat_second w _ 23 (0) (1)
  have HBx : Hid (Below w.heap.size w ((w.alloc (.cells #[.int .i64 P1, .int .i64 Q1] 23)).alloc (.cells #[.int .i64 0, .int .i64 1] 23))) := two_alloc w _ _
  clear HB0
  have HB0 := HBx
  clear HBx
  go_enter Try.func3, Try.ntmps3
  go_wp2_with fail
  refine (h1'.out _).mono ?_
  rintro e w1 ⟨rfl, hb⟩
  have R1_x := hid ((R0_x.out).keep hb)
  have R1_y := hid ((R0_y.out).keep hb)
  have HB1 := hid (below_step HB0.out (Nat.le_refl _) hb)
  clear hb HB0 R0_x R0_y
  have g0_x := R1_x.out.p0
  have g1_x := R1_x.out.p1
  have gl_x := R1_x.out.lt
  have g0_y := R1_y.out.p0
  have g1_y := R1_y.out.p1
  have gl_y := R1_y.out.lt
  go_wp2_with fail
  refine (h2'.out _).mono ?_
  rintro e w2 ⟨rfl, hb⟩
  clear g0_x g1_x gl_x g0_y g1_y gl_y
  have R2_x := hid (((R1_x.out).keep_alloc (.cells #[.int .i64 (mp), .int .i64 (mq)] 23)).keep hb)
  have R2_y := hid (((R1_y.out).keep_alloc (.cells #[.int .i64 (mp), .int .i64 (mq)] 23)).keep hb)
  have R2_m := hid ((RatAt.new w1 23 (mp) (mq)).keep hb)
  have HB2 := hid (below_step (below_step HB1.out (Nat.le_refl _) (below_alloc w1 (.cells #[.int .i64 (mp), .int .i64 (mq)] 23))) (Nat.le_refl _) hb)
  clear hb HB1 R1_x R1_y
  have g0_x := R2_x.out.p0
  have g1_x := R2_x.out.p1
  have gl_x := R2_x.out.lt
  have g0_y := R2_y.out.p0
  have g1_y := R2_y.out.p1
  have gl_y := R2_y.out.lt
  have g0_m := R2_m.out.p0
  have g1_m := R2_m.out.p1
  have gl_m := R2_m.out.lt
  go_wp2_with fail
  refine (h3'.out _).mono ?_
  rintro e w3 ⟨rfl, hb⟩
  clear g0_x g1_x gl_x g0_y g1_y gl_y g0_m g1_m gl_m
  have R3_x := hid (((R2_x.out).keep_alloc (.cells #[.int .i64 (ap), .int .i64 (aq)] 23)).keep hb)
  have R3_y := hid (((R2_y.out).keep_alloc (.cells #[.int .i64 (ap), .int .i64 (aq)] 23)).keep hb)
  have R3_m := hid (((R2_m.out).keep_alloc (.cells #[.int .i64 (ap), .int .i64 (aq)] 23)).keep hb)
  have R3_a := hid ((RatAt.new w2 23 (ap) (aq)).keep hb)
  have HB3 := hid (below_step (below_step HB2.out (Nat.le_refl _) (below_alloc w2 (.cells #[.int .i64 (ap), .int .i64 (aq)] 23))) (Nat.le_refl _) hb)
  clear hb HB2 R2_x R2_y R2_m
  have g0_x := R3_x.out.p0
  have g1_x := R3_x.out.p1
  have gl_x := R3_x.out.lt
  have g0_y := R3_y.out.p0
  have g1_y := R3_y.out.p1
  have gl_y := R3_y.out.lt
  have g0_m := R3_m.out.p0
  have g1_m := R3_m.out.p1
  have gl_m := R3_m.out.lt
  have g0_a := R3_a.out.p0
  have g1_a := R3_a.out.p1
  have gl_a := R3_a.out.lt
  go_wp2_with fail
  refine (h4'.out _).mono ?_
  rintro e w4 ⟨rfl, hb⟩
  clear g0_x g1_x gl_x g0_y g1_y gl_y g0_m g1_m gl_m g0_a g1_a gl_a
  have R4_x := hid (((R3_x.out).keep_alloc (.cells #[.int .i64 (tp), .int .i64 (tq)] 23)).keep hb)
  have R4_y := hid (((R3_y.out).keep_alloc (.cells #[.int .i64 (tp), .int .i64 (tq)] 23)).keep hb)
  have R4_m := hid (((R3_m.out).keep_alloc (.cells #[.int .i64 (tp), .int .i64 (tq)] 23)).keep hb)
  have R4_a := hid (((R3_a.out).keep_alloc (.cells #[.int .i64 (tp), .int .i64 (tq)] 23)).keep hb)
  have R4_t := hid ((RatAt.new w3 23 (tp) (tq)).keep hb)
  have HB4 := hid (below_step (below_step HB3.out (Nat.le_refl _) (below_alloc w3 (.cells #[.int .i64 (tp), .int .i64 (tq)] 23))) (Nat.le_refl _) hb)
  clear hb HB3 R3_x R3_y R3_m R3_a
  have g0_x := R4_x.out.p0
  have g1_x := R4_x.out.p1
  have gl_x := R4_x.out.lt
  have g0_y := R4_y.out.p0
  have g1_y := R4_y.out.p1
  have gl_y := R4_y.out.lt
  have g0_m := R4_m.out.p0
  have g1_m := R4_m.out.p1
  have gl_m := R4_m.out.lt
  have g0_a := R4_a.out.p0
  have g1_a := R4_a.out.p1
  have gl_a := R4_a.out.lt
  have g0_t := R4_t.out.p0
  have g1_t := R4_t.out.p1
  have gl_t := R4_t.out.lt
  go_wp2_with fail
  refine (h5'.out _).mono ?_
  rintro e w5 ⟨rfl, hb⟩
  clear g0_x g1_x gl_x g0_y g1_y gl_y g0_m g1_m gl_m g0_a g1_a gl_a g0_t g1_t gl_t
  have R5_x := hid (((R4_x.out).keep_alloc (.cells #[.int .i64 (0), .int .i64 (0)] 23)).keep hb)
  have R5_y := hid (((R4_y.out).keep_alloc (.cells #[.int .i64 (0), .int .i64 (0)] 23)).keep hb)
  have R5_m := hid (((R4_m.out).keep_alloc (.cells #[.int .i64 (0), .int .i64 (0)] 23)).keep hb)
  have R5_a := hid (((R4_a.out).keep_alloc (.cells #[.int .i64 (0), .int .i64 (0)] 23)).keep hb)
  have R5_t := hid (((R4_t.out).keep_alloc (.cells #[.int .i64 (0), .int .i64 (0)] 23)).keep hb)
  have R5_d := hid ((RatAt.new w4 23 (0) (0)).keep hb)
  have HB5 := hid (below_step (below_step HB4.out (Nat.le_refl _) (below_alloc w4 (.cells #[.int .i64 (0), .int .i64 (0)] 23))) (Nat.le_refl _) hb)
  clear hb HB4 R4_x R4_y R4_m R4_a R4_t
  have g0_x := R5_x.out.p0
  have g1_x := R5_x.out.p1
  have gl_x := R5_x.out.lt
  have g0_y := R5_y.out.p0
  have g1_y := R5_y.out.p1
  have gl_y := R5_y.out.lt
  have g0_m := R5_m.out.p0
  have g1_m := R5_m.out.p1
  have gl_m := R5_m.out.lt
  have g0_a := R5_a.out.p0
  have g1_a := R5_a.out.p1
  have gl_a := R5_a.out.lt
  have g0_t := R5_t.out.p0
  have g1_t := R5_t.out.p1
  have gl_t := R5_t.out.lt
  have g0_d := R5_d.out.p0
  have g1_d := R5_d.out.p1
  have gl_d := R5_d.out.lt
  go_wp2_with fail
  go_region_held3 (fun u => u.cell? ⟨w1.heap.size, 0, none⟩ = some (.int .i64 mp) ∧ u.cell? ⟨w1.heap.size, 1, none⟩ = some (.int .i64 mq)) (first | exact ⟨g0_m, g1_m⟩ | exact ⟨k0_m, k1_m⟩) (first | (go_at_call 15; refine (h6'.out _).mono ?_; rintro e w6 ⟨rfl, hb0⟩; have hb : Below w5.heap.size w5 w6 := (below_drewN (Below.refl w5.heap.size w5) 1).trans hb0; have k0_m := (R5_m.out.keep hb).p0; have k1_m := (R5_m.out.keep hb).p1; clear hb0))
  clear g0_x g1_x gl_x g0_y g1_y gl_y g0_m g1_m gl_m g0_a g1_a gl_a g0_t g1_t gl_t g0_d g1_d gl_d
  have R6_x := hid (R5_x.out.keep hb)
  have R6_y := hid (R5_y.out.keep hb)
  have R6_m := hid (R5_m.out.keep hb)
  have R6_a := hid (R5_a.out.keep hb)
  have R6_t := hid (R5_t.out.keep hb)
  have R6_d := hid (R5_d.out.keep hb)
  have HB6 := hid (below_step HB5.out (Nat.le_refl _) hb)
  clear hb HB5 R5_x R5_y R5_m R5_a R5_t R5_d k0_m k1_m
  have g0_x := R6_x.out.p0
  have g1_x := R6_x.out.p1
  have gl_x := R6_x.out.lt
  have g0_y := R6_y.out.p0
  have g1_y := R6_y.out.p1
  have gl_y := R6_y.out.lt
  have g0_m := R6_m.out.p0
  have g1_m := R6_m.out.p1
  have gl_m := R6_m.out.lt
  have g0_a := R6_a.out.p0
  have g1_a := R6_a.out.p1
  have gl_a := R6_a.out.lt
  have g0_t := R6_t.out.p0
  have g1_t := R6_t.out.p1
  have gl_t := R6_t.out.lt
  have g0_d := R6_d.out.p0
  have g1_d := R6_d.out.p1
  have gl_d := R6_d.out.lt
  go_wp2_with fail
  refine (h7'.out _).mono ?_
  rintro e w7 ⟨rfl, hb⟩
  clear g0_x g1_x gl_x g0_y g1_y gl_y g0_m g1_m gl_m g0_a g1_a gl_a g0_t g1_t gl_t g0_d g1_d gl_d
  have R7_x := hid ((R6_x.out).keep hb)
  have R7_y := hid ((R6_y.out).keep hb)
  have R7_a := hid ((R6_a.out).keep hb)
  have R7_t := hid ((R6_t.out).keep hb)
  have R7_d := hid ((R6_d.out).keep hb)
  have HB7 := hid (below_step HB6.out (Nat.le_refl _) hb)
  clear hb HB6 R6_x R6_y R6_m R6_a R6_t R6_d
  have g0_x := R7_x.out.p0
  have g1_x := R7_x.out.p1
  have gl_x := R7_x.out.lt
  have g0_y := R7_y.out.p0
  have g1_y := R7_y.out.p1
  have gl_y := R7_y.out.lt
  have g0_a := R7_a.out.p0
  have g1_a := R7_a.out.p1
  have gl_a := R7_a.out.lt
  have g0_t := R7_t.out.p0
  have g1_t := R7_t.out.p1
  have gl_t := R7_t.out.lt
  have g0_d := R7_d.out.p0
  have g1_d := R7_d.out.p1
  have gl_d := R7_d.out.lt
  go_wp2_with fail
  refine (h8'.out _).mono ?_
  rintro e w8 ⟨rfl, hb⟩
  clear g0_x g1_x gl_x g0_y g1_y gl_y g0_a g1_a gl_a g0_t g1_t gl_t g0_d g1_d gl_d
  have R8_x := hid ((R7_x.out).keep hb)
  have R8_y := hid ((R7_y.out).keep hb)
  have R8_a := hid ((R7_a.out).keep hb)
  have R8_t := hid ((R7_t.out).keep hb)
  have R8_d := hid ((R7_d.out).keep hb)
  have HB8 := hid (below_step HB7.out (Nat.le_refl _) hb)
  clear hb HB7 R7_x R7_y R7_a R7_t R7_d
  have g0_x := R8_x.out.p0
  have g1_x := R8_x.out.p1
  have gl_x := R8_x.out.lt
  have g0_y := R8_y.out.p0
  have g1_y := R8_y.out.p1
  have gl_y := R8_y.out.lt
  have g0_a := R8_a.out.p0
  have g1_a := R8_a.out.p1
  have gl_a := R8_a.out.lt
  have g0_t := R8_t.out.p0
  have g1_t := R8_t.out.p1
  have gl_t := R8_t.out.lt
  have g0_d := R8_d.out.p0
  have g1_d := R8_d.out.p1
  have gl_d := R8_d.out.lt
  go_wp2_with fail
  refine (h9'.out _).mono ?_
  rintro e w9 ⟨rfl, hb⟩
  clear g0_x g1_x gl_x g0_y g1_y gl_y g0_a g1_a gl_a g0_t g1_t gl_t g0_d g1_d gl_d
  have R9_x := hid ((R8_x.out).keep hb)
  have R9_y := hid ((R8_y.out).keep hb)
  have R9_a := hid ((R8_a.out).keep hb)
  have R9_t := hid ((R8_t.out).keep hb)
  have R9_d := hid ((R8_d.out).keep hb)
  have HB9 := hid (below_step HB8.out (Nat.le_refl _) hb)
  clear hb HB8 R8_x R8_y R8_a R8_t R8_d
  have g0_x := R9_x.out.p0
  have g1_x := R9_x.out.p1
  have gl_x := R9_x.out.lt
  have g0_y := R9_y.out.p0
  have g1_y := R9_y.out.p1
  have gl_y := R9_y.out.lt
  have g0_a := R9_a.out.p0
  have g1_a := R9_a.out.p1
  have gl_a := R9_a.out.lt
  have g0_t := R9_t.out.p0
  have g1_t := R9_t.out.p1
  have gl_t := R9_t.out.lt
  have g0_d := R9_d.out.p0
  have g1_d := R9_d.out.p1
  have gl_d := R9_d.out.lt
  go_wp2_with fail
  refine (h10'.out _).mono ?_
  rintro e w10 ⟨rfl, hb⟩
  clear g0_x g1_x gl_x g0_y g1_y gl_y g0_a g1_a gl_a g0_t g1_t gl_t g0_d g1_d gl_d
  have R10_x := hid ((R9_x.out).keep hb)
  have R10_y := hid ((R9_y.out).keep hb)
  have R10_a := hid ((R9_a.out).keep hb)
  have R10_t := hid ((R9_t.out).keep hb)
  have R10_d := hid ((R9_d.out).keep hb)
  have HB10 := hid (below_step HB9.out (Nat.le_refl _) hb)
  clear hb HB9 R9_x R9_y R9_a R9_t R9_d
  have g0_x := R10_x.out.p0
  have g1_x := R10_x.out.p1
  have gl_x := R10_x.out.lt
  have g0_y := R10_y.out.p0
  have g1_y := R10_y.out.p1
  have gl_y := R10_y.out.lt
  have g0_a := R10_a.out.p0
  have g1_a := R10_a.out.p1
  have gl_a := R10_a.out.lt
  have g0_t := R10_t.out.p0
  have g1_t := R10_t.out.p1
  have gl_t := R10_t.out.lt
  have g0_d := R10_d.out.p0
  have g1_d := R10_d.out.p1
  have gl_d := R10_d.out.lt
  go_wp2_with fail
  refine (h11'.out _).mono ?_
  rintro e w11 ⟨rfl, hb⟩
  clear g0_x g1_x gl_x g0_y g1_y gl_y g0_a g1_a gl_a g0_t g1_t gl_t g0_d g1_d gl_d
  have R11_x := hid (((R10_x.out).keep_alloc (.cells #[.int .i64 (ap), .int .i64 (aq)] 23)).keep hb)
  have R11_y := hid (((R10_y.out).keep_alloc (.cells #[.int .i64 (ap), .int .i64 (aq)] 23)).keep hb)
  have R11_a := hid (((R10_a.out).keep_alloc (.cells #[.int .i64 (ap), .int .i64 (aq)] 23)).keep hb)
  have R11_t := hid (((R10_t.out).keep_alloc (.cells #[.int .i64 (ap), .int .i64 (aq)] 23)).keep hb)
  have R11_d := hid (((R10_d.out).keep_alloc (.cells #[.int .i64 (ap), .int .i64 (aq)] 23)).keep hb)
  have R11_b := hid ((RatAt.new w10 23 (ap) (aq)).keep hb)
  have HB11 := hid (below_step (below_step HB10.out (Nat.le_refl _) (below_alloc w10 (.cells #[.int .i64 (ap), .int .i64 (aq)] 23))) (Nat.le_refl _) hb)
  clear hb HB10 R10_x R10_y R10_a R10_t R10_d
  have g0_x := R11_x.out.p0
  have g1_x := R11_x.out.p1
  have gl_x := R11_x.out.lt
  have g0_y := R11_y.out.p0
  have g1_y := R11_y.out.p1
  have gl_y := R11_y.out.lt
  have g0_a := R11_a.out.p0
  have g1_a := R11_a.out.p1
  have gl_a := R11_a.out.lt
  have g0_t := R11_t.out.p0
  have g1_t := R11_t.out.p1
  have gl_t := R11_t.out.lt
  have g0_d := R11_d.out.p0
  have g1_d := R11_d.out.p1
  have gl_d := R11_d.out.lt
  have g0_b := R11_b.out.p0
  have g1_b := R11_b.out.p1
  have gl_b := R11_b.out.lt
  go_wp2
  go_ret
  exact ⟨rfl, below_step HB11.out (Nat.le_refl _) (below_alloc w11 (.cells #[.int .i64 (tp), .int .i64 (tq)] 23))⟩

set_option maxHeartbeats 4000000 in
set_option maxRecDepth 100000 in
theorem ratioSays_ok_ok (p q M N P1 Q1 P2 Q2 : Int) (hM : M = if q > p then q else p) (hN : N = if q < p then q else p) (hs : M ≤ 1000000000) (hs' : -1000000000 ≤ N) (h0 : q ≠ 0) (mp mq : Int) (ap aq ae tp tq te dp dq de : Int) (l : Bool) (x1 : -1000000000 ≤ P1) (x2 : P1 ≤ 1000000000) (x3 : 1 ≤ Q1) (x4 : Q1 ≤ 1000000000) (y1 : -1000000000 ≤ P2) (y2 : P2 ≤ 1000000000) (y3 : 1 ≤ Q2) (y4 : Q2 ≤ 1000000000) (hp : P2 ≠ 0) (hl : decide (P1 * Q2 < P2 * Q1) = l) (h1 : (∀ W, Calls Try.prog 10 #[.int .i64 p, .int .i64 q] W (RetR W mp mq 0))) (h2 : (∀ W, Calls Try.prog 11 #[.agg #[.int .i64 P1, .int .i64 Q1], .agg #[.int .i64 P2, .int .i64 Q2]] W (RetR W ap aq ae))) (h3 : (∀ W, Calls Try.prog 12 #[.agg #[.int .i64 P1, .int .i64 Q1], .agg #[.int .i64 P2, .int .i64 Q2]] W (RetR W tp tq te))) (h4 : (∀ W, Calls Try.prog 13 #[.agg #[.int .i64 P1, .int .i64 Q1], .agg #[.int .i64 P2, .int .i64 Q2]] W (RetR W dp dq de))) (h5 : (∀ W, Calls Try.prog 14 #[.agg #[.int .i64 P1, .int .i64 Q1], .agg #[.int .i64 P2, .int .i64 Q2]] W (RetB W l 0))) (h6 : (∀ W, Calls Try.prog 15 #[.int .i64 p, .int .i64 q] W (fun e w' => e = .returned (.agg #[.int .i64 mp, .int .i64 mq]) ∧ Below W.heap.size W w'))) (h7 : (∀ W, Calls Try.prog 16 #[.agg #[.int .i64 P1, .int .i64 Q1]] W (RetE W 0))) (h8 : (∀ W, Calls Try.prog 17 #[.agg #[.int .i64 P1, .int .i64 Q1]] W (RetE W 0))) (h9 : (∀ W, Calls Try.prog 16 #[.agg #[.int .i64 P2, .int .i64 Q2]] W (RetE W 0))) (h10 : (∀ W, Calls Try.prog 18 #[.agg #[.int .i64 P1, .int .i64 Q1], .agg #[.int .i64 P2, .int .i64 Q2]] W (RetR W ap aq ae))) (h11 : (∀ W, Calls Try.prog 19 #[.agg #[.int .i64 P1, .int .i64 Q1], .agg #[.int .i64 P2, .int .i64 Q2]] W (RetR W tp tq te))) (h12 : (∀ W, Calls Try.prog 20 #[.int .i64 (P1 * Q2), .int .i64 (Q1 * P2)] W (RetR W dp dq de))) (w : World) :
    Calls Try.prog 3 #[.int .i64 p, .int .i64 q, .agg #[.int .i64 P1, .int .i64 Q1], .agg #[.int .i64 P2, .int .i64 Q2]] w fun e w' => e = .returned (.bool true) ∧ Below w.heap.size w w' := by
  have hmax := run_maxMM (P := Try.prog) p q M hM
  have hmin := run_minMM (P := Try.prog) p q N hN
  have hq0 : (q == 0) = false := by simpa using h0
  have d0 : decide (1000000000 < M) = false := by simp; omega
  have d1 : decide (N < -1000000000) = false := by simp; omega
  clear hM hN hs hs' h0
  have hp2 : (P2 == 0) = false := by simpa using hp
  obtain ⟨m1, m1'⟩ : -1000000000000000000 ≤ P1 * Q2 ∧ P1 * Q2 ≤ 1000000000000000000 := mul_bd18 (by omega) (by omega) (by omega) (by omega)
  obtain ⟨m2, m2'⟩ : -1000000000000000000 ≤ P2 * Q1 ∧ P2 * Q1 ≤ 1000000000000000000 := mul_bd18 (by omega) (by omega) (by omega) (by omega)
  obtain ⟨m3, m3'⟩ : -1000000000000000000 ≤ Q1 * P2 ∧ Q1 * P2 ≤ 1000000000000000000 := mul_bd18 (by omega) (by omega) (by omega) (by omega)
  have hll : (l != l) = false := bne_self_eq_false _
  have h1' := hid h1
  clear h1
  have h2' := hid h2
  clear h2
  have h3' := hid h3
  clear h3
  have h4' := hid h4
  clear h4
  have h5' := hid h5
  clear h5
  have h6' := hid h6
  clear h6
  have h7' := hid h7
  clear h7
  have h8' := hid h8
  clear h8
  have h9' := hid h9
  clear h9
  have h10' := hid h10
  clear h10
  have h11' := hid h11
  clear h11
  have h12' := hid h12
  clear h12
  have HB0 := hid (Below.refl w.heap.size w)
  have R0_x : Hid (RatAt ((w.alloc (.cells #[.int .i64 P1, .int .i64 Q1] 23)).alloc (.cells #[.int .i64 P2, .int .i64 Q2] 23)) w.heap.size (P1) (Q1)) := (RatAt.new w 23 (P1) (Q1)).keep_alloc (.cells #[.int .i64 (P2), .int .i64 (Q2)] 23)
  have R0_y : Hid (RatAt ((w.alloc (.cells #[.int .i64 P1, .int .i64 Q1] 23)).alloc (.cells #[.int .i64 P2, .int .i64 Q2] 23)) (w.heap.size + 1) (P2) (Q2)) := rat_second w _ 23 (P2) (Q2)
  have HBx : Hid (Below w.heap.size w ((w.alloc (.cells #[.int .i64 P1, .int .i64 Q1] 23)).alloc (.cells #[.int .i64 P2, .int .i64 Q2] 23))) := two_alloc w _ _
  clear HB0
  have HB0 := HBx
  clear HBx
  go_enter Try.func3, Try.ntmps3
  go_wp2_with fail
  refine (h1'.out _).mono ?_
  rintro e w1 ⟨rfl, hb⟩
  have R1_x := hid ((R0_x.out).keep hb)
  have R1_y := hid ((R0_y.out).keep hb)
  have HB1 := hid (below_step HB0.out (Nat.le_refl _) hb)
  clear hb HB0 R0_x R0_y
  have g0_x := R1_x.out.p0
  have g1_x := R1_x.out.p1
  have gl_x := R1_x.out.lt
  have g0_y := R1_y.out.p0
  have g1_y := R1_y.out.p1
  have gl_y := R1_y.out.lt
  go_wp2_with fail
  refine (h2'.out _).mono ?_
  rintro e w2 ⟨rfl, hb⟩
  clear g0_x g1_x gl_x g0_y g1_y gl_y
  have R2_x := hid (((R1_x.out).keep_alloc (.cells #[.int .i64 (mp), .int .i64 (mq)] 23)).keep hb)
  have R2_y := hid (((R1_y.out).keep_alloc (.cells #[.int .i64 (mp), .int .i64 (mq)] 23)).keep hb)
  have R2_m := hid ((RatAt.new w1 23 (mp) (mq)).keep hb)
  have HB2 := hid (below_step (below_step HB1.out (Nat.le_refl _) (below_alloc w1 (.cells #[.int .i64 (mp), .int .i64 (mq)] 23))) (Nat.le_refl _) hb)
  clear hb HB1 R1_x R1_y
  have g0_x := R2_x.out.p0
  have g1_x := R2_x.out.p1
  have gl_x := R2_x.out.lt
  have g0_y := R2_y.out.p0
  have g1_y := R2_y.out.p1
  have gl_y := R2_y.out.lt
  have g0_m := R2_m.out.p0
  have g1_m := R2_m.out.p1
  have gl_m := R2_m.out.lt
  go_wp2_with fail
  refine (h3'.out _).mono ?_
  rintro e w3 ⟨rfl, hb⟩
  clear g0_x g1_x gl_x g0_y g1_y gl_y g0_m g1_m gl_m
  have R3_x := hid (((R2_x.out).keep_alloc (.cells #[.int .i64 (ap), .int .i64 (aq)] 23)).keep hb)
  have R3_y := hid (((R2_y.out).keep_alloc (.cells #[.int .i64 (ap), .int .i64 (aq)] 23)).keep hb)
  have R3_m := hid (((R2_m.out).keep_alloc (.cells #[.int .i64 (ap), .int .i64 (aq)] 23)).keep hb)
  have R3_a := hid ((RatAt.new w2 23 (ap) (aq)).keep hb)
  have HB3 := hid (below_step (below_step HB2.out (Nat.le_refl _) (below_alloc w2 (.cells #[.int .i64 (ap), .int .i64 (aq)] 23))) (Nat.le_refl _) hb)
  clear hb HB2 R2_x R2_y R2_m
  have g0_x := R3_x.out.p0
  have g1_x := R3_x.out.p1
  have gl_x := R3_x.out.lt
  have g0_y := R3_y.out.p0
  have g1_y := R3_y.out.p1
  have gl_y := R3_y.out.lt
  have g0_m := R3_m.out.p0
  have g1_m := R3_m.out.p1
  have gl_m := R3_m.out.lt
  have g0_a := R3_a.out.p0
  have g1_a := R3_a.out.p1
  have gl_a := R3_a.out.lt
  go_wp2_with fail
  refine (h4'.out _).mono ?_
  rintro e w4 ⟨rfl, hb⟩
  clear g0_x g1_x gl_x g0_y g1_y gl_y g0_m g1_m gl_m g0_a g1_a gl_a
  have R4_x := hid (((R3_x.out).keep_alloc (.cells #[.int .i64 (tp), .int .i64 (tq)] 23)).keep hb)
  have R4_y := hid (((R3_y.out).keep_alloc (.cells #[.int .i64 (tp), .int .i64 (tq)] 23)).keep hb)
  have R4_m := hid (((R3_m.out).keep_alloc (.cells #[.int .i64 (tp), .int .i64 (tq)] 23)).keep hb)
  have R4_a := hid (((R3_a.out).keep_alloc (.cells #[.int .i64 (tp), .int .i64 (tq)] 23)).keep hb)
  have R4_t := hid ((RatAt.new w3 23 (tp) (tq)).keep hb)
  have HB4 := hid (below_step (below_step HB3.out (Nat.le_refl _) (below_alloc w3 (.cells #[.int .i64 (tp), .int .i64 (tq)] 23))) (Nat.le_refl _) hb)
  clear hb HB3 R3_x R3_y R3_m R3_a
  have g0_x := R4_x.out.p0
  have g1_x := R4_x.out.p1
  have gl_x := R4_x.out.lt
  have g0_y := R4_y.out.p0
  have g1_y := R4_y.out.p1
  have gl_y := R4_y.out.lt
  have g0_m := R4_m.out.p0
  have g1_m := R4_m.out.p1
  have gl_m := R4_m.out.lt
  have g0_a := R4_a.out.p0
  have g1_a := R4_a.out.p1
  have gl_a := R4_a.out.lt
  have g0_t := R4_t.out.p0
  have g1_t := R4_t.out.p1
  have gl_t := R4_t.out.lt
  go_wp2_with fail
  refine (h5'.out _).mono ?_
  rintro e w5 ⟨rfl, hb⟩
  clear g0_x g1_x gl_x g0_y g1_y gl_y g0_m g1_m gl_m g0_a g1_a gl_a g0_t g1_t gl_t
  have R5_x := hid (((R4_x.out).keep_alloc (.cells #[.int .i64 (dp), .int .i64 (dq)] 23)).keep hb)
  have R5_y := hid (((R4_y.out).keep_alloc (.cells #[.int .i64 (dp), .int .i64 (dq)] 23)).keep hb)
  have R5_m := hid (((R4_m.out).keep_alloc (.cells #[.int .i64 (dp), .int .i64 (dq)] 23)).keep hb)
  have R5_a := hid (((R4_a.out).keep_alloc (.cells #[.int .i64 (dp), .int .i64 (dq)] 23)).keep hb)
  have R5_t := hid (((R4_t.out).keep_alloc (.cells #[.int .i64 (dp), .int .i64 (dq)] 23)).keep hb)
  have R5_d := hid ((RatAt.new w4 23 (dp) (dq)).keep hb)
  have HB5 := hid (below_step (below_step HB4.out (Nat.le_refl _) (below_alloc w4 (.cells #[.int .i64 (dp), .int .i64 (dq)] 23))) (Nat.le_refl _) hb)
  clear hb HB4 R4_x R4_y R4_m R4_a R4_t
  have g0_x := R5_x.out.p0
  have g1_x := R5_x.out.p1
  have gl_x := R5_x.out.lt
  have g0_y := R5_y.out.p0
  have g1_y := R5_y.out.p1
  have gl_y := R5_y.out.lt
  have g0_m := R5_m.out.p0
  have g1_m := R5_m.out.p1
  have gl_m := R5_m.out.lt
  have g0_a := R5_a.out.p0
  have g1_a := R5_a.out.p1
  have gl_a := R5_a.out.lt
  have g0_t := R5_t.out.p0
  have g1_t := R5_t.out.p1
  have gl_t := R5_t.out.lt
  have g0_d := R5_d.out.p0
  have g1_d := R5_d.out.p1
  have gl_d := R5_d.out.lt
  go_wp2_with fail
  go_region_held3 (fun u => u.cell? ⟨w1.heap.size, 0, none⟩ = some (.int .i64 mp) ∧ u.cell? ⟨w1.heap.size, 1, none⟩ = some (.int .i64 mq)) (first | exact ⟨g0_m, g1_m⟩ | exact ⟨k0_m, k1_m⟩) (first | (go_at_call 15; refine (h6'.out _).mono ?_; rintro e w6 ⟨rfl, hb0⟩; have hb : Below w5.heap.size w5 w6 := (below_drewN (Below.refl w5.heap.size w5) 1).trans hb0; have k0_m := (R5_m.out.keep hb).p0; have k1_m := (R5_m.out.keep hb).p1; clear hb0))
  clear g0_x g1_x gl_x g0_y g1_y gl_y g0_m g1_m gl_m g0_a g1_a gl_a g0_t g1_t gl_t g0_d g1_d gl_d
  have R6_x := hid (R5_x.out.keep hb)
  have R6_y := hid (R5_y.out.keep hb)
  have R6_m := hid (R5_m.out.keep hb)
  have R6_a := hid (R5_a.out.keep hb)
  have R6_t := hid (R5_t.out.keep hb)
  have R6_d := hid (R5_d.out.keep hb)
  have HB6 := hid (below_step HB5.out (Nat.le_refl _) hb)
  clear hb HB5 R5_x R5_y R5_m R5_a R5_t R5_d k0_m k1_m
  have g0_x := R6_x.out.p0
  have g1_x := R6_x.out.p1
  have gl_x := R6_x.out.lt
  have g0_y := R6_y.out.p0
  have g1_y := R6_y.out.p1
  have gl_y := R6_y.out.lt
  have g0_m := R6_m.out.p0
  have g1_m := R6_m.out.p1
  have gl_m := R6_m.out.lt
  have g0_a := R6_a.out.p0
  have g1_a := R6_a.out.p1
  have gl_a := R6_a.out.lt
  have g0_t := R6_t.out.p0
  have g1_t := R6_t.out.p1
  have gl_t := R6_t.out.lt
  have g0_d := R6_d.out.p0
  have g1_d := R6_d.out.p1
  have gl_d := R6_d.out.lt
  go_wp2_with fail
  refine (h7'.out _).mono ?_
  rintro e w7 ⟨rfl, hb⟩
  clear g0_x g1_x gl_x g0_y g1_y gl_y g0_m g1_m gl_m g0_a g1_a gl_a g0_t g1_t gl_t g0_d g1_d gl_d
  have R7_x := hid ((R6_x.out).keep hb)
  have R7_y := hid ((R6_y.out).keep hb)
  have R7_a := hid ((R6_a.out).keep hb)
  have R7_t := hid ((R6_t.out).keep hb)
  have R7_d := hid ((R6_d.out).keep hb)
  have HB7 := hid (below_step HB6.out (Nat.le_refl _) hb)
  clear hb HB6 R6_x R6_y R6_m R6_a R6_t R6_d
  have g0_x := R7_x.out.p0
  have g1_x := R7_x.out.p1
  have gl_x := R7_x.out.lt
  have g0_y := R7_y.out.p0
  have g1_y := R7_y.out.p1
  have gl_y := R7_y.out.lt
  have g0_a := R7_a.out.p0
  have g1_a := R7_a.out.p1
  have gl_a := R7_a.out.lt
  have g0_t := R7_t.out.p0
  have g1_t := R7_t.out.p1
  have gl_t := R7_t.out.lt
  have g0_d := R7_d.out.p0
  have g1_d := R7_d.out.p1
  have gl_d := R7_d.out.lt
  go_wp2_with fail
  refine (h8'.out _).mono ?_
  rintro e w8 ⟨rfl, hb⟩
  clear g0_x g1_x gl_x g0_y g1_y gl_y g0_a g1_a gl_a g0_t g1_t gl_t g0_d g1_d gl_d
  have R8_x := hid ((R7_x.out).keep hb)
  have R8_y := hid ((R7_y.out).keep hb)
  have R8_a := hid ((R7_a.out).keep hb)
  have R8_t := hid ((R7_t.out).keep hb)
  have R8_d := hid ((R7_d.out).keep hb)
  have HB8 := hid (below_step HB7.out (Nat.le_refl _) hb)
  clear hb HB7 R7_x R7_y R7_a R7_t R7_d
  have g0_x := R8_x.out.p0
  have g1_x := R8_x.out.p1
  have gl_x := R8_x.out.lt
  have g0_y := R8_y.out.p0
  have g1_y := R8_y.out.p1
  have gl_y := R8_y.out.lt
  have g0_a := R8_a.out.p0
  have g1_a := R8_a.out.p1
  have gl_a := R8_a.out.lt
  have g0_t := R8_t.out.p0
  have g1_t := R8_t.out.p1
  have gl_t := R8_t.out.lt
  have g0_d := R8_d.out.p0
  have g1_d := R8_d.out.p1
  have gl_d := R8_d.out.lt
  go_wp2_with fail
  refine (h9'.out _).mono ?_
  rintro e w9 ⟨rfl, hb⟩
  clear g0_x g1_x gl_x g0_y g1_y gl_y g0_a g1_a gl_a g0_t g1_t gl_t g0_d g1_d gl_d
  have R9_x := hid ((R8_x.out).keep hb)
  have R9_y := hid ((R8_y.out).keep hb)
  have R9_a := hid ((R8_a.out).keep hb)
  have R9_t := hid ((R8_t.out).keep hb)
  have R9_d := hid ((R8_d.out).keep hb)
  have HB9 := hid (below_step HB8.out (Nat.le_refl _) hb)
  clear hb HB8 R8_x R8_y R8_a R8_t R8_d
  have g0_x := R9_x.out.p0
  have g1_x := R9_x.out.p1
  have gl_x := R9_x.out.lt
  have g0_y := R9_y.out.p0
  have g1_y := R9_y.out.p1
  have gl_y := R9_y.out.lt
  have g0_a := R9_a.out.p0
  have g1_a := R9_a.out.p1
  have gl_a := R9_a.out.lt
  have g0_t := R9_t.out.p0
  have g1_t := R9_t.out.p1
  have gl_t := R9_t.out.lt
  have g0_d := R9_d.out.p0
  have g1_d := R9_d.out.p1
  have gl_d := R9_d.out.lt
  go_wp2_with fail
  refine (h10'.out _).mono ?_
  rintro e w10 ⟨rfl, hb⟩
  clear g0_x g1_x gl_x g0_y g1_y gl_y g0_a g1_a gl_a g0_t g1_t gl_t g0_d g1_d gl_d
  have R10_x := hid ((R9_x.out).keep hb)
  have R10_y := hid ((R9_y.out).keep hb)
  have R10_a := hid ((R9_a.out).keep hb)
  have R10_t := hid ((R9_t.out).keep hb)
  have R10_d := hid ((R9_d.out).keep hb)
  have HB10 := hid (below_step HB9.out (Nat.le_refl _) hb)
  clear hb HB9 R9_x R9_y R9_a R9_t R9_d
  have g0_x := R10_x.out.p0
  have g1_x := R10_x.out.p1
  have gl_x := R10_x.out.lt
  have g0_y := R10_y.out.p0
  have g1_y := R10_y.out.p1
  have gl_y := R10_y.out.lt
  have g0_a := R10_a.out.p0
  have g1_a := R10_a.out.p1
  have gl_a := R10_a.out.lt
  have g0_t := R10_t.out.p0
  have g1_t := R10_t.out.p1
  have gl_t := R10_t.out.lt
  have g0_d := R10_d.out.p0
  have g1_d := R10_d.out.p1
  have gl_d := R10_d.out.lt
  go_wp2_with fail
  refine (h11'.out _).mono ?_
  rintro e w11 ⟨rfl, hb⟩
  clear g0_x g1_x gl_x g0_y g1_y gl_y g0_a g1_a gl_a g0_t g1_t gl_t g0_d g1_d gl_d
  have R11_x := hid (((R10_x.out).keep_alloc (.cells #[.int .i64 (ap), .int .i64 (aq)] 23)).keep hb)
  have R11_y := hid (((R10_y.out).keep_alloc (.cells #[.int .i64 (ap), .int .i64 (aq)] 23)).keep hb)
  have R11_a := hid (((R10_a.out).keep_alloc (.cells #[.int .i64 (ap), .int .i64 (aq)] 23)).keep hb)
  have R11_t := hid (((R10_t.out).keep_alloc (.cells #[.int .i64 (ap), .int .i64 (aq)] 23)).keep hb)
  have R11_d := hid (((R10_d.out).keep_alloc (.cells #[.int .i64 (ap), .int .i64 (aq)] 23)).keep hb)
  have R11_b := hid ((RatAt.new w10 23 (ap) (aq)).keep hb)
  have HB11 := hid (below_step (below_step HB10.out (Nat.le_refl _) (below_alloc w10 (.cells #[.int .i64 (ap), .int .i64 (aq)] 23))) (Nat.le_refl _) hb)
  clear hb HB10 R10_x R10_y R10_a R10_t R10_d
  have g0_x := R11_x.out.p0
  have g1_x := R11_x.out.p1
  have gl_x := R11_x.out.lt
  have g0_y := R11_y.out.p0
  have g1_y := R11_y.out.p1
  have gl_y := R11_y.out.lt
  have g0_a := R11_a.out.p0
  have g1_a := R11_a.out.p1
  have gl_a := R11_a.out.lt
  have g0_t := R11_t.out.p0
  have g1_t := R11_t.out.p1
  have gl_t := R11_t.out.lt
  have g0_d := R11_d.out.p0
  have g1_d := R11_d.out.p1
  have gl_d := R11_d.out.lt
  have g0_b := R11_b.out.p0
  have g1_b := R11_b.out.p1
  have gl_b := R11_b.out.lt
  go_wp2_with fail
  refine (h12'.out _).mono ?_
  rintro e w12 ⟨rfl, hb⟩
  clear g0_x g1_x gl_x g0_y g1_y gl_y g0_a g1_a gl_a g0_t g1_t gl_t g0_d g1_d gl_d g0_b g1_b gl_b
  have R12_x := hid (((R11_x.out).keep_alloc (.cells #[.int .i64 (tp), .int .i64 (tq)] 23)).keep hb)
  have R12_y := hid (((R11_y.out).keep_alloc (.cells #[.int .i64 (tp), .int .i64 (tq)] 23)).keep hb)
  have R12_a := hid (((R11_a.out).keep_alloc (.cells #[.int .i64 (tp), .int .i64 (tq)] 23)).keep hb)
  have R12_t := hid (((R11_t.out).keep_alloc (.cells #[.int .i64 (tp), .int .i64 (tq)] 23)).keep hb)
  have R12_d := hid (((R11_d.out).keep_alloc (.cells #[.int .i64 (tp), .int .i64 (tq)] 23)).keep hb)
  have R12_b := hid (((R11_b.out).keep_alloc (.cells #[.int .i64 (tp), .int .i64 (tq)] 23)).keep hb)
  have R12_u := hid ((RatAt.new w11 23 (tp) (tq)).keep hb)
  have HB12 := hid (below_step (below_step HB11.out (Nat.le_refl _) (below_alloc w11 (.cells #[.int .i64 (tp), .int .i64 (tq)] 23))) (Nat.le_refl _) hb)
  clear hb HB11 R11_x R11_y R11_a R11_t R11_d R11_b
  have g0_x := R12_x.out.p0
  have g1_x := R12_x.out.p1
  have gl_x := R12_x.out.lt
  have g0_y := R12_y.out.p0
  have g1_y := R12_y.out.p1
  have gl_y := R12_y.out.lt
  have g0_a := R12_a.out.p0
  have g1_a := R12_a.out.p1
  have gl_a := R12_a.out.lt
  have g0_t := R12_t.out.p0
  have g1_t := R12_t.out.p1
  have gl_t := R12_t.out.lt
  have g0_d := R12_d.out.p0
  have g1_d := R12_d.out.p1
  have gl_d := R12_d.out.lt
  have g0_b := R12_b.out.p0
  have g1_b := R12_b.out.p1
  have gl_b := R12_b.out.lt
  have g0_u := R12_u.out.p0
  have g1_u := R12_u.out.p1
  have gl_u := R12_u.out.lt
  go_wp2
  go_ret
  exact ⟨rfl, below_step HB12.out (Nat.le_refl _) (below_alloc w12 (.cells #[.int .i64 (dp), .int .i64 (dq)] 23))⟩
end Go.Proofs.Ytcnljljgdkjndaa
