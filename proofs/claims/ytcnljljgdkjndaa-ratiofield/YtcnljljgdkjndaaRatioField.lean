/-
  castkeep.RatioField, walked.
-/
import Derived.Test.YtcnljljgdkjndaaRatI
namespace Go.Proofs.Ytcnljljgdkjndaa
open Go.RowKit

set_option maxHeartbeats 2000000 in
set_option maxRecDepth 100000 in
theorem ratioField_zero (a b c d e f xn xd yn yd zn zd sn sd ln ld rn rd pn pd qn qd tn td : Int) (h1 : (∀ W, Calls Try.prog 10 #[.int .i64 (a % 201 - 100), .int .i64 (1 + b % 100)] W (RetR W xn xd 0))) (h2 : (∀ W, Calls Try.prog 10 #[.int .i64 (c % 201 - 100), .int .i64 (1 + d % 100)] W (RetR W yn yd 0))) (h3 : (∀ W, Calls Try.prog 10 #[.int .i64 (e % 201 - 100), .int .i64 (1 + f % 100)] W (RetR W zn zd 0))) (h4 : (∀ W, Calls Try.prog 11 #[.agg #[.int .i64 xn, .int .i64 xd], .agg #[.int .i64 yn, .int .i64 yd]] W (RetR W sn sd 0))) (h5 : (∀ W, Calls Try.prog 11 #[.agg #[.int .i64 yn, .int .i64 yd], .agg #[.int .i64 xn, .int .i64 xd]] W (RetR W sn sd 0))) (h6 : (∀ W, Calls Try.prog 11 #[.agg #[.int .i64 sn, .int .i64 sd], .agg #[.int .i64 zn, .int .i64 zd]] W (RetR W ln ld 0))) (h7 : (∀ W, Calls Try.prog 11 #[.agg #[.int .i64 yn, .int .i64 yd], .agg #[.int .i64 zn, .int .i64 zd]] W (RetR W rn rd 0))) (h8 : (∀ W, Calls Try.prog 11 #[.agg #[.int .i64 xn, .int .i64 xd], .agg #[.int .i64 rn, .int .i64 rd]] W (RetR W ln ld 0))) (h9 : (∀ W, Calls Try.prog 12 #[.agg #[.int .i64 xn, .int .i64 xd], .agg #[.int .i64 yn, .int .i64 yd]] W (RetR W pn pd 0))) (h10 : (∀ W, Calls Try.prog 12 #[.agg #[.int .i64 xn, .int .i64 xd], .agg #[.int .i64 zn, .int .i64 zd]] W (RetR W qn qd 0))) (h11 : (∀ W, Calls Try.prog 11 #[.agg #[.int .i64 pn, .int .i64 pd], .agg #[.int .i64 qn, .int .i64 qd]] W (RetR W tn td 0))) (h12 : (∀ W, Calls Try.prog 12 #[.agg #[.int .i64 xn, .int .i64 xd], .agg #[.int .i64 rn, .int .i64 rd]] W (RetR W tn td 0))) (h13 : (∀ W, Calls Try.prog 13 #[.agg #[.int .i64 pn, .int .i64 pd], .agg #[.int .i64 yn, .int .i64 yd]] W (RetR W 0 0 5))) (hz : yn = 0) (w : World) :
    Calls Try.prog 4 #[.int .i64 a, .int .i64 b, .int .i64 c, .int .i64 d, .int .i64 e, .int .i64 f] w fun e w' => e = .returned (.bool true) ∧ Below w.heap.size w w' := by
  subst hz
  have h1' := hid h1
  clear h1
  have h2' := hid h2
  clear h2
  have h3' := hid h3
  clear h3
  have h4' := hid h4
  clear h4
  have h5' := hid h5
  clear h5
  have h6' := hid h6
  clear h6
  have h7' := hid h7
  clear h7
  have h8' := hid h8
  clear h8
  have h9' := hid h9
  clear h9
  have h10' := hid h10
  clear h10
  have h11' := hid h11
  clear h11
  have h12' := hid h12
  clear h12
  have h13' := hid h13
  clear h13
  have HB0 := hid (Below.refl w.heap.size w)
  go_enter Try.func4, Try.ntmps4
  go_wp2_with fail
  refine (ratios_any _).mono ?_
  rintro e w1 ⟨rfl, hb⟩
  have HB1 := hid (below_step HB0.out (Nat.le_refl _) hb)
  clear hb HB0 
  go_wp2_with fail
  refine (within_any _ _ _ (by omega) (by omega)).mono ?_
  rintro e w' ⟨rfl, rfl⟩
  have uh1 : 0 ≤ a % 201 := by omega
  have uh1' : a % 201 < 201 := by omega
  go_wp2_with fail
  refine (within_any _ _ _ (by omega) (by omega)).mono ?_
  rintro e w' ⟨rfl, rfl⟩
  have vh1 : 0 ≤ b % 100 := by omega
  have vh1' : b % 100 < 100 := by omega
  go_wp2_with fail
  refine (h1'.out _).mono ?_
  rintro e w2 ⟨rfl, hb⟩
  have HB2 := hid (below_step HB1.out (Nat.le_refl _) hb)
  clear hb HB1 
  clear uh1 uh1' vh1 vh1'
  go_wp2_with fail
  refine (within_any _ _ _ (by omega) (by omega)).mono ?_
  rintro e w' ⟨rfl, rfl⟩
  have uh2 : 0 ≤ c % 201 := by omega
  have uh2' : c % 201 < 201 := by omega
  go_wp2_with fail
  refine (within_any _ _ _ (by omega) (by omega)).mono ?_
  rintro e w' ⟨rfl, rfl⟩
  have vh2 : 0 ≤ d % 100 := by omega
  have vh2' : d % 100 < 100 := by omega
  go_wp2_with fail
  refine (h2'.out _).mono ?_
  rintro e w3 ⟨rfl, hb⟩
  have R3_x := hid ((RatAt.new w2 23 (xn) (xd)).keep hb)
  have HB3 := hid (below_step (below_step HB2.out (Nat.le_refl _) (below_alloc w2 (.cells #[.int .i64 (xn), .int .i64 (xd)] 23))) (Nat.le_refl _) hb)
  clear hb HB2 
  have g0_x := R3_x.out.p0
  have g1_x := R3_x.out.p1
  have gl_x := R3_x.out.lt
  clear uh2 uh2' vh2 vh2'
  go_wp2_with fail
  refine (within_any _ _ _ (by omega) (by omega)).mono ?_
  rintro e w' ⟨rfl, rfl⟩
  have uh3 : 0 ≤ e % 201 := by omega
  have uh3' : e % 201 < 201 := by omega
  go_wp2_with fail
  refine (within_any _ _ _ (by omega) (by omega)).mono ?_
  rintro e w' ⟨rfl, rfl⟩
  have vh3 : 0 ≤ f % 100 := by omega
  have vh3' : f % 100 < 100 := by omega
  go_wp2_with fail
  refine (h3'.out _).mono ?_
  rintro e w4 ⟨rfl, hb⟩
  clear g0_x g1_x gl_x
  have R4_x := hid (((R3_x.out).keep_alloc (.cells #[.int .i64 (0), .int .i64 (yd)] 23)).keep hb)
  have R4_y := hid ((RatAt.new w3 23 (0) (yd)).keep hb)
  have HB4 := hid (below_step (below_step HB3.out (Nat.le_refl _) (below_alloc w3 (.cells #[.int .i64 (0), .int .i64 (yd)] 23))) (Nat.le_refl _) hb)
  clear hb HB3 R3_x
  have g0_x := R4_x.out.p0
  have g1_x := R4_x.out.p1
  have gl_x := R4_x.out.lt
  have g0_y := R4_y.out.p0
  have g1_y := R4_y.out.p1
  have gl_y := R4_y.out.lt
  clear uh3 uh3' vh3 vh3'
  go_wp2_with fail
  refine (h4'.out _).mono ?_
  rintro e w5 ⟨rfl, hb⟩
  clear g0_x g1_x gl_x g0_y g1_y gl_y
  have R5_x := hid (((R4_x.out).keep_alloc (.cells #[.int .i64 (zn), .int .i64 (zd)] 23)).keep hb)
  have R5_y := hid (((R4_y.out).keep_alloc (.cells #[.int .i64 (zn), .int .i64 (zd)] 23)).keep hb)
  have R5_z := hid ((RatAt.new w4 23 (zn) (zd)).keep hb)
  have HB5 := hid (below_step (below_step HB4.out (Nat.le_refl _) (below_alloc w4 (.cells #[.int .i64 (zn), .int .i64 (zd)] 23))) (Nat.le_refl _) hb)
  clear hb HB4 R4_x R4_y
  have g0_x := R5_x.out.p0
  have g1_x := R5_x.out.p1
  have gl_x := R5_x.out.lt
  have g0_y := R5_y.out.p0
  have g1_y := R5_y.out.p1
  have gl_y := R5_y.out.lt
  have g0_z := R5_z.out.p0
  have g1_z := R5_z.out.p1
  have gl_z := R5_z.out.lt
  go_wp2_with fail
  refine (h5'.out _).mono ?_
  rintro e w6 ⟨rfl, hb⟩
  clear g0_x g1_x gl_x g0_y g1_y gl_y g0_z g1_z gl_z
  have R6_x := hid (((R5_x.out).keep_alloc (.cells #[.int .i64 (sn), .int .i64 (sd)] 23)).keep hb)
  have R6_y := hid (((R5_y.out).keep_alloc (.cells #[.int .i64 (sn), .int .i64 (sd)] 23)).keep hb)
  have R6_z := hid (((R5_z.out).keep_alloc (.cells #[.int .i64 (sn), .int .i64 (sd)] 23)).keep hb)
  have R6_xy := hid ((RatAt.new w5 23 (sn) (sd)).keep hb)
  have HB6 := hid (below_step (below_step HB5.out (Nat.le_refl _) (below_alloc w5 (.cells #[.int .i64 (sn), .int .i64 (sd)] 23))) (Nat.le_refl _) hb)
  clear hb HB5 R5_x R5_y R5_z
  have g0_x := R6_x.out.p0
  have g1_x := R6_x.out.p1
  have gl_x := R6_x.out.lt
  have g0_y := R6_y.out.p0
  have g1_y := R6_y.out.p1
  have gl_y := R6_y.out.lt
  have g0_z := R6_z.out.p0
  have g1_z := R6_z.out.p1
  have gl_z := R6_z.out.lt
  have g0_xy := R6_xy.out.p0
  have g1_xy := R6_xy.out.p1
  have gl_xy := R6_xy.out.lt
  go_wp2_with fail
  refine (h6'.out _).mono ?_
  rintro e w7 ⟨rfl, hb⟩
  clear g0_x g1_x gl_x g0_y g1_y gl_y g0_z g1_z gl_z g0_xy g1_xy gl_xy
  have R7_x := hid (((R6_x.out).keep_alloc (.cells #[.int .i64 (sn), .int .i64 (sd)] 23)).keep hb)
  have R7_y := hid (((R6_y.out).keep_alloc (.cells #[.int .i64 (sn), .int .i64 (sd)] 23)).keep hb)
  have R7_z := hid (((R6_z.out).keep_alloc (.cells #[.int .i64 (sn), .int .i64 (sd)] 23)).keep hb)
  have R7_xy := hid (((R6_xy.out).keep_alloc (.cells #[.int .i64 (sn), .int .i64 (sd)] 23)).keep hb)
  have R7_yx := hid ((RatAt.new w6 23 (sn) (sd)).keep hb)
  have HB7 := hid (below_step (below_step HB6.out (Nat.le_refl _) (below_alloc w6 (.cells #[.int .i64 (sn), .int .i64 (sd)] 23))) (Nat.le_refl _) hb)
  clear hb HB6 R6_x R6_y R6_z R6_xy
  have g0_x := R7_x.out.p0
  have g1_x := R7_x.out.p1
  have gl_x := R7_x.out.lt
  have g0_y := R7_y.out.p0
  have g1_y := R7_y.out.p1
  have gl_y := R7_y.out.lt
  have g0_z := R7_z.out.p0
  have g1_z := R7_z.out.p1
  have gl_z := R7_z.out.lt
  have g0_xy := R7_xy.out.p0
  have g1_xy := R7_xy.out.p1
  have gl_xy := R7_xy.out.lt
  have g0_yx := R7_yx.out.p0
  have g1_yx := R7_yx.out.p1
  have gl_yx := R7_yx.out.lt
  go_wp2_with fail
  refine (h7'.out _).mono ?_
  rintro e w8 ⟨rfl, hb⟩
  clear g0_x g1_x gl_x g0_y g1_y gl_y g0_z g1_z gl_z g0_xy g1_xy gl_xy g0_yx g1_yx gl_yx
  have R8_x := hid (((R7_x.out).keep_alloc (.cells #[.int .i64 (ln), .int .i64 (ld)] 23)).keep hb)
  have R8_y := hid (((R7_y.out).keep_alloc (.cells #[.int .i64 (ln), .int .i64 (ld)] 23)).keep hb)
  have R8_z := hid (((R7_z.out).keep_alloc (.cells #[.int .i64 (ln), .int .i64 (ld)] 23)).keep hb)
  have R8_xy := hid (((R7_xy.out).keep_alloc (.cells #[.int .i64 (ln), .int .i64 (ld)] 23)).keep hb)
  have R8_yx := hid (((R7_yx.out).keep_alloc (.cells #[.int .i64 (ln), .int .i64 (ld)] 23)).keep hb)
  have R8_l := hid ((RatAt.new w7 23 (ln) (ld)).keep hb)
  have HB8 := hid (below_step (below_step HB7.out (Nat.le_refl _) (below_alloc w7 (.cells #[.int .i64 (ln), .int .i64 (ld)] 23))) (Nat.le_refl _) hb)
  clear hb HB7 R7_x R7_y R7_z R7_xy R7_yx
  have g0_x := R8_x.out.p0
  have g1_x := R8_x.out.p1
  have gl_x := R8_x.out.lt
  have g0_y := R8_y.out.p0
  have g1_y := R8_y.out.p1
  have gl_y := R8_y.out.lt
  have g0_z := R8_z.out.p0
  have g1_z := R8_z.out.p1
  have gl_z := R8_z.out.lt
  have g0_xy := R8_xy.out.p0
  have g1_xy := R8_xy.out.p1
  have gl_xy := R8_xy.out.lt
  have g0_yx := R8_yx.out.p0
  have g1_yx := R8_yx.out.p1
  have gl_yx := R8_yx.out.lt
  have g0_l := R8_l.out.p0
  have g1_l := R8_l.out.p1
  have gl_l := R8_l.out.lt
  go_wp2_with fail
  refine (h8'.out _).mono ?_
  rintro e w9 ⟨rfl, hb⟩
  clear g0_x g1_x gl_x g0_y g1_y gl_y g0_z g1_z gl_z g0_xy g1_xy gl_xy g0_yx g1_yx gl_yx g0_l g1_l gl_l
  have R9_x := hid (((R8_x.out).keep_alloc (.cells #[.int .i64 (rn), .int .i64 (rd)] 23)).keep hb)
  have R9_y := hid (((R8_y.out).keep_alloc (.cells #[.int .i64 (rn), .int .i64 (rd)] 23)).keep hb)
  have R9_z := hid (((R8_z.out).keep_alloc (.cells #[.int .i64 (rn), .int .i64 (rd)] 23)).keep hb)
  have R9_xy := hid (((R8_xy.out).keep_alloc (.cells #[.int .i64 (rn), .int .i64 (rd)] 23)).keep hb)
  have R9_yx := hid (((R8_yx.out).keep_alloc (.cells #[.int .i64 (rn), .int .i64 (rd)] 23)).keep hb)
  have R9_l := hid (((R8_l.out).keep_alloc (.cells #[.int .i64 (rn), .int .i64 (rd)] 23)).keep hb)
  have R9_yz := hid ((RatAt.new w8 23 (rn) (rd)).keep hb)
  have HB9 := hid (below_step (below_step HB8.out (Nat.le_refl _) (below_alloc w8 (.cells #[.int .i64 (rn), .int .i64 (rd)] 23))) (Nat.le_refl _) hb)
  clear hb HB8 R8_x R8_y R8_z R8_xy R8_yx R8_l
  have g0_x := R9_x.out.p0
  have g1_x := R9_x.out.p1
  have gl_x := R9_x.out.lt
  have g0_y := R9_y.out.p0
  have g1_y := R9_y.out.p1
  have gl_y := R9_y.out.lt
  have g0_z := R9_z.out.p0
  have g1_z := R9_z.out.p1
  have gl_z := R9_z.out.lt
  have g0_xy := R9_xy.out.p0
  have g1_xy := R9_xy.out.p1
  have gl_xy := R9_xy.out.lt
  have g0_yx := R9_yx.out.p0
  have g1_yx := R9_yx.out.p1
  have gl_yx := R9_yx.out.lt
  have g0_l := R9_l.out.p0
  have g1_l := R9_l.out.p1
  have gl_l := R9_l.out.lt
  have g0_yz := R9_yz.out.p0
  have g1_yz := R9_yz.out.p1
  have gl_yz := R9_yz.out.lt
  go_wp2_with fail
  refine (good_bel1 _ _ _ _ 8 [0, 0, 0, 0, 0, 0, 0, 0] rfl rfl (by omega)).mono ?_
  rintro e w10 ⟨rfl, hb⟩
  clear g0_x g1_x gl_x g0_y g1_y gl_y g0_z g1_z gl_z g0_xy g1_xy gl_xy g0_yx g1_yx gl_yx g0_l g1_l gl_l g0_yz g1_yz gl_yz
  rw [show allOK [0, 0, 0, 0, 0, 0, 0, 0] = true by decide]
  have R10_x := hid (((R9_x.out).keep_alloc (.cells #[.int .i64 (ln), .int .i64 (ld)] 23)).keep hb)
  have R10_y := hid (((R9_y.out).keep_alloc (.cells #[.int .i64 (ln), .int .i64 (ld)] 23)).keep hb)
  have R10_z := hid (((R9_z.out).keep_alloc (.cells #[.int .i64 (ln), .int .i64 (ld)] 23)).keep hb)
  have R10_xy := hid (((R9_xy.out).keep_alloc (.cells #[.int .i64 (ln), .int .i64 (ld)] 23)).keep hb)
  have R10_yx := hid (((R9_yx.out).keep_alloc (.cells #[.int .i64 (ln), .int .i64 (ld)] 23)).keep hb)
  have R10_l := hid (((R9_l.out).keep_alloc (.cells #[.int .i64 (ln), .int .i64 (ld)] 23)).keep hb)
  have R10_yz := hid (((R9_yz.out).keep_alloc (.cells #[.int .i64 (ln), .int .i64 (ld)] 23)).keep hb)
  have R10_r := hid ((RatAt.new w9 23 (ln) (ld)).keep hb)
  have HB10 := hid (below_step (below_step HB9.out (Nat.le_refl _) (below_alloc w9 (.cells #[.int .i64 (ln), .int .i64 (ld)] 23))) (Nat.le_refl _) hb)
  clear hb HB9 R9_x R9_y R9_z R9_xy R9_yx R9_l R9_yz
  have g0_x := R10_x.out.p0
  have g1_x := R10_x.out.p1
  have gl_x := R10_x.out.lt
  have g0_y := R10_y.out.p0
  have g1_y := R10_y.out.p1
  have gl_y := R10_y.out.lt
  have g0_z := R10_z.out.p0
  have g1_z := R10_z.out.p1
  have gl_z := R10_z.out.lt
  have g0_xy := R10_xy.out.p0
  have g1_xy := R10_xy.out.p1
  have gl_xy := R10_xy.out.lt
  have g0_yx := R10_yx.out.p0
  have g1_yx := R10_yx.out.p1
  have gl_yx := R10_yx.out.lt
  have g0_l := R10_l.out.p0
  have g1_l := R10_l.out.p1
  have gl_l := R10_l.out.lt
  have g0_yz := R10_yz.out.p0
  have g1_yz := R10_yz.out.p1
  have gl_yz := R10_yz.out.lt
  have g0_r := R10_r.out.p0
  have g1_r := R10_r.out.p1
  have gl_r := R10_r.out.lt
  go_wp2_with fail
  refine (h9'.out _).mono ?_
  rintro e w11 ⟨rfl, hb⟩
  clear g0_x g1_x gl_x g0_y g1_y gl_y g0_z g1_z gl_z g0_xy g1_xy gl_xy g0_yx g1_yx gl_yx g0_l g1_l gl_l g0_yz g1_yz gl_yz g0_r g1_r gl_r
  have R11_x := hid ((R10_x.out).keep hb)
  have R11_y := hid ((R10_y.out).keep hb)
  have R11_z := hid ((R10_z.out).keep hb)
  have R11_yz := hid ((R10_yz.out).keep hb)
  have HB11 := hid (below_step HB10.out (Nat.le_refl _) hb)
  clear hb HB10 R10_x R10_y R10_z R10_xy R10_yx R10_l R10_yz R10_r
  have g0_x := R11_x.out.p0
  have g1_x := R11_x.out.p1
  have gl_x := R11_x.out.lt
  have g0_y := R11_y.out.p0
  have g1_y := R11_y.out.p1
  have gl_y := R11_y.out.lt
  have g0_z := R11_z.out.p0
  have g1_z := R11_z.out.p1
  have gl_z := R11_z.out.lt
  have g0_yz := R11_yz.out.p0
  have g1_yz := R11_yz.out.p1
  have gl_yz := R11_yz.out.lt
  go_wp2_with fail
  refine (h10'.out _).mono ?_
  rintro e w12 ⟨rfl, hb⟩
  clear g0_x g1_x gl_x g0_y g1_y gl_y g0_z g1_z gl_z g0_yz g1_yz gl_yz
  have R12_x := hid (((R11_x.out).keep_alloc (.cells #[.int .i64 (pn), .int .i64 (pd)] 23)).keep hb)
  have R12_y := hid (((R11_y.out).keep_alloc (.cells #[.int .i64 (pn), .int .i64 (pd)] 23)).keep hb)
  have R12_z := hid (((R11_z.out).keep_alloc (.cells #[.int .i64 (pn), .int .i64 (pd)] 23)).keep hb)
  have R12_yz := hid (((R11_yz.out).keep_alloc (.cells #[.int .i64 (pn), .int .i64 (pd)] 23)).keep hb)
  have R12_p := hid ((RatAt.new w11 23 (pn) (pd)).keep hb)
  have HB12 := hid (below_step (below_step HB11.out (Nat.le_refl _) (below_alloc w11 (.cells #[.int .i64 (pn), .int .i64 (pd)] 23))) (Nat.le_refl _) hb)
  clear hb HB11 R11_x R11_y R11_z R11_yz
  have g0_x := R12_x.out.p0
  have g1_x := R12_x.out.p1
  have gl_x := R12_x.out.lt
  have g0_y := R12_y.out.p0
  have g1_y := R12_y.out.p1
  have gl_y := R12_y.out.lt
  have g0_z := R12_z.out.p0
  have g1_z := R12_z.out.p1
  have gl_z := R12_z.out.lt
  have g0_yz := R12_yz.out.p0
  have g1_yz := R12_yz.out.p1
  have gl_yz := R12_yz.out.lt
  have g0_p := R12_p.out.p0
  have g1_p := R12_p.out.p1
  have gl_p := R12_p.out.lt
  go_wp2_with fail
  refine (h11'.out _).mono ?_
  rintro e w13 ⟨rfl, hb⟩
  clear g0_x g1_x gl_x g0_y g1_y gl_y g0_z g1_z gl_z g0_yz g1_yz gl_yz g0_p g1_p gl_p
  have R13_x := hid (((R12_x.out).keep_alloc (.cells #[.int .i64 (qn), .int .i64 (qd)] 23)).keep hb)
  have R13_y := hid (((R12_y.out).keep_alloc (.cells #[.int .i64 (qn), .int .i64 (qd)] 23)).keep hb)
  have R13_z := hid (((R12_z.out).keep_alloc (.cells #[.int .i64 (qn), .int .i64 (qd)] 23)).keep hb)
  have R13_yz := hid (((R12_yz.out).keep_alloc (.cells #[.int .i64 (qn), .int .i64 (qd)] 23)).keep hb)
  have R13_p := hid (((R12_p.out).keep_alloc (.cells #[.int .i64 (qn), .int .i64 (qd)] 23)).keep hb)
  have R13_q := hid ((RatAt.new w12 23 (qn) (qd)).keep hb)
  have HB13 := hid (below_step (below_step HB12.out (Nat.le_refl _) (below_alloc w12 (.cells #[.int .i64 (qn), .int .i64 (qd)] 23))) (Nat.le_refl _) hb)
  clear hb HB12 R12_x R12_y R12_z R12_yz R12_p
  have g0_x := R13_x.out.p0
  have g1_x := R13_x.out.p1
  have gl_x := R13_x.out.lt
  have g0_y := R13_y.out.p0
  have g1_y := R13_y.out.p1
  have gl_y := R13_y.out.lt
  have g0_z := R13_z.out.p0
  have g1_z := R13_z.out.p1
  have gl_z := R13_z.out.lt
  have g0_yz := R13_yz.out.p0
  have g1_yz := R13_yz.out.p1
  have gl_yz := R13_yz.out.lt
  have g0_p := R13_p.out.p0
  have g1_p := R13_p.out.p1
  have gl_p := R13_p.out.lt
  have g0_q := R13_q.out.p0
  have g1_q := R13_q.out.p1
  have gl_q := R13_q.out.lt
  go_wp2_with fail
  refine (h12'.out _).mono ?_
  rintro e w14 ⟨rfl, hb⟩
  clear g0_x g1_x gl_x g0_y g1_y gl_y g0_z g1_z gl_z g0_yz g1_yz gl_yz g0_p g1_p gl_p g0_q g1_q gl_q
  have R14_x := hid (((R13_x.out).keep_alloc (.cells #[.int .i64 (tn), .int .i64 (td)] 23)).keep hb)
  have R14_y := hid (((R13_y.out).keep_alloc (.cells #[.int .i64 (tn), .int .i64 (td)] 23)).keep hb)
  have R14_yz := hid (((R13_yz.out).keep_alloc (.cells #[.int .i64 (tn), .int .i64 (td)] 23)).keep hb)
  have R14_p := hid (((R13_p.out).keep_alloc (.cells #[.int .i64 (tn), .int .i64 (td)] 23)).keep hb)
  have R14_q := hid (((R13_q.out).keep_alloc (.cells #[.int .i64 (tn), .int .i64 (td)] 23)).keep hb)
  have R14_s := hid ((RatAt.new w13 23 (tn) (td)).keep hb)
  have HB14 := hid (below_step (below_step HB13.out (Nat.le_refl _) (below_alloc w13 (.cells #[.int .i64 (tn), .int .i64 (td)] 23))) (Nat.le_refl _) hb)
  clear hb HB13 R13_x R13_y R13_z R13_yz R13_p R13_q
  have g0_x := R14_x.out.p0
  have g1_x := R14_x.out.p1
  have gl_x := R14_x.out.lt
  have g0_y := R14_y.out.p0
  have g1_y := R14_y.out.p1
  have gl_y := R14_y.out.lt
  have g0_yz := R14_yz.out.p0
  have g1_yz := R14_yz.out.p1
  have gl_yz := R14_yz.out.lt
  have g0_p := R14_p.out.p0
  have g1_p := R14_p.out.p1
  have gl_p := R14_p.out.lt
  have g0_q := R14_q.out.p0
  have g1_q := R14_q.out.p1
  have gl_q := R14_q.out.lt
  have g0_s := R14_s.out.p0
  have g1_s := R14_s.out.p1
  have gl_s := R14_s.out.lt
  go_wp2_with fail
  refine (h13'.out _).mono ?_
  rintro e w15 ⟨rfl, hb⟩
  clear g0_x g1_x gl_x g0_y g1_y gl_y g0_yz g1_yz gl_yz g0_p g1_p gl_p g0_q g1_q gl_q g0_s g1_s gl_s
  have R15_x := hid (((R14_x.out).keep_alloc (.cells #[.int .i64 (tn), .int .i64 (td)] 23)).keep hb)
  have R15_y := hid (((R14_y.out).keep_alloc (.cells #[.int .i64 (tn), .int .i64 (td)] 23)).keep hb)
  have R15_yz := hid (((R14_yz.out).keep_alloc (.cells #[.int .i64 (tn), .int .i64 (td)] 23)).keep hb)
  have R15_p := hid (((R14_p.out).keep_alloc (.cells #[.int .i64 (tn), .int .i64 (td)] 23)).keep hb)
  have R15_q := hid (((R14_q.out).keep_alloc (.cells #[.int .i64 (tn), .int .i64 (td)] 23)).keep hb)
  have R15_s := hid (((R14_s.out).keep_alloc (.cells #[.int .i64 (tn), .int .i64 (td)] 23)).keep hb)
  have R15_t := hid ((RatAt.new w14 23 (tn) (td)).keep hb)
  have HB15 := hid (below_step (below_step HB14.out (Nat.le_refl _) (below_alloc w14 (.cells #[.int .i64 (tn), .int .i64 (td)] 23))) (Nat.le_refl _) hb)
  clear hb HB14 R14_x R14_y R14_yz R14_p R14_q R14_s
  have g0_x := R15_x.out.p0
  have g1_x := R15_x.out.p1
  have gl_x := R15_x.out.lt
  have g0_y := R15_y.out.p0
  have g1_y := R15_y.out.p1
  have gl_y := R15_y.out.lt
  have g0_yz := R15_yz.out.p0
  have g1_yz := R15_yz.out.p1
  have gl_yz := R15_yz.out.lt
  have g0_p := R15_p.out.p0
  have g1_p := R15_p.out.p1
  have gl_p := R15_p.out.lt
  have g0_q := R15_q.out.p0
  have g1_q := R15_q.out.p1
  have gl_q := R15_q.out.lt
  have g0_s := R15_s.out.p0
  have g1_s := R15_s.out.p1
  have gl_s := R15_s.out.lt
  have g0_t := R15_t.out.p0
  have g1_t := R15_t.out.p1
  have gl_t := R15_t.out.lt
  go_wp2
  go_ret
  exact ⟨rfl, below_step HB15.out (Nat.le_refl _) (below_alloc w15 (.cells #[.int .i64 (0), .int .i64 (0)] 23))⟩

set_option maxHeartbeats 2000000 in
set_option maxRecDepth 100000 in
theorem ratioField_walk (a b c d e f xn xd yn yd zn zd sn sd ln ld rn rd pn pd qn qd tn td : Int) (h1 : (∀ W, Calls Try.prog 10 #[.int .i64 (a % 201 - 100), .int .i64 (1 + b % 100)] W (RetR W xn xd 0))) (h2 : (∀ W, Calls Try.prog 10 #[.int .i64 (c % 201 - 100), .int .i64 (1 + d % 100)] W (RetR W yn yd 0))) (h3 : (∀ W, Calls Try.prog 10 #[.int .i64 (e % 201 - 100), .int .i64 (1 + f % 100)] W (RetR W zn zd 0))) (h4 : (∀ W, Calls Try.prog 11 #[.agg #[.int .i64 xn, .int .i64 xd], .agg #[.int .i64 yn, .int .i64 yd]] W (RetR W sn sd 0))) (h5 : (∀ W, Calls Try.prog 11 #[.agg #[.int .i64 yn, .int .i64 yd], .agg #[.int .i64 xn, .int .i64 xd]] W (RetR W sn sd 0))) (h6 : (∀ W, Calls Try.prog 11 #[.agg #[.int .i64 sn, .int .i64 sd], .agg #[.int .i64 zn, .int .i64 zd]] W (RetR W ln ld 0))) (h7 : (∀ W, Calls Try.prog 11 #[.agg #[.int .i64 yn, .int .i64 yd], .agg #[.int .i64 zn, .int .i64 zd]] W (RetR W rn rd 0))) (h8 : (∀ W, Calls Try.prog 11 #[.agg #[.int .i64 xn, .int .i64 xd], .agg #[.int .i64 rn, .int .i64 rd]] W (RetR W ln ld 0))) (h9 : (∀ W, Calls Try.prog 12 #[.agg #[.int .i64 xn, .int .i64 xd], .agg #[.int .i64 yn, .int .i64 yd]] W (RetR W pn pd 0))) (h10 : (∀ W, Calls Try.prog 12 #[.agg #[.int .i64 xn, .int .i64 xd], .agg #[.int .i64 zn, .int .i64 zd]] W (RetR W qn qd 0))) (h11 : (∀ W, Calls Try.prog 11 #[.agg #[.int .i64 pn, .int .i64 pd], .agg #[.int .i64 qn, .int .i64 qd]] W (RetR W tn td 0))) (h12 : (∀ W, Calls Try.prog 12 #[.agg #[.int .i64 xn, .int .i64 xd], .agg #[.int .i64 rn, .int .i64 rd]] W (RetR W tn td 0))) (h13 : (∀ W, Calls Try.prog 13 #[.agg #[.int .i64 pn, .int .i64 pd], .agg #[.int .i64 yn, .int .i64 yd]] W (RetR W xn xd 0))) (hz : yn ≠ 0) (w : World) :
    Calls Try.prog 4 #[.int .i64 a, .int .i64 b, .int .i64 c, .int .i64 d, .int .i64 e, .int .i64 f] w fun e w' => e = .returned (.bool true) ∧ Below w.heap.size w w' := by
  have hz1 : (yn == 0) = false := by simpa using hz
  have hz2 : (yn != 0) = true := by simpa using hz
  clear hz
  have h1' := hid h1
  clear h1
  have h2' := hid h2
  clear h2
  have h3' := hid h3
  clear h3
  have h4' := hid h4
  clear h4
  have h5' := hid h5
  clear h5
  have h6' := hid h6
  clear h6
  have h7' := hid h7
  clear h7
  have h8' := hid h8
  clear h8
  have h9' := hid h9
  clear h9
  have h10' := hid h10
  clear h10
  have h11' := hid h11
  clear h11
  have h12' := hid h12
  clear h12
  have h13' := hid h13
  clear h13
  have HB0 := hid (Below.refl w.heap.size w)
  go_enter Try.func4, Try.ntmps4
  go_wp2_with fail
  refine (ratios_any _).mono ?_
  rintro e w1 ⟨rfl, hb⟩
  have HB1 := hid (below_step HB0.out (Nat.le_refl _) hb)
  clear hb HB0 
  go_wp2_with fail
  refine (within_any _ _ _ (by omega) (by omega)).mono ?_
  rintro e w' ⟨rfl, rfl⟩
  have uh1 : 0 ≤ a % 201 := by omega
  have uh1' : a % 201 < 201 := by omega
  go_wp2_with fail
  refine (within_any _ _ _ (by omega) (by omega)).mono ?_
  rintro e w' ⟨rfl, rfl⟩
  have vh1 : 0 ≤ b % 100 := by omega
  have vh1' : b % 100 < 100 := by omega
  go_wp2_with fail
  refine (h1'.out _).mono ?_
  rintro e w2 ⟨rfl, hb⟩
  have HB2 := hid (below_step HB1.out (Nat.le_refl _) hb)
  clear hb HB1 
  clear uh1 uh1' vh1 vh1'
  go_wp2_with fail
  refine (within_any _ _ _ (by omega) (by omega)).mono ?_
  rintro e w' ⟨rfl, rfl⟩
  have uh2 : 0 ≤ c % 201 := by omega
  have uh2' : c % 201 < 201 := by omega
  go_wp2_with fail
  refine (within_any _ _ _ (by omega) (by omega)).mono ?_
  rintro e w' ⟨rfl, rfl⟩
  have vh2 : 0 ≤ d % 100 := by omega
  have vh2' : d % 100 < 100 := by omega
  go_wp2_with fail
  refine (h2'.out _).mono ?_
  rintro e w3 ⟨rfl, hb⟩
  have R3_x := hid ((RatAt.new w2 23 (xn) (xd)).keep hb)
  have HB3 := hid (below_step (below_step HB2.out (Nat.le_refl _) (below_alloc w2 (.cells #[.int .i64 (xn), .int .i64 (xd)] 23))) (Nat.le_refl _) hb)
  clear hb HB2 
  have g0_x := R3_x.out.p0
  have g1_x := R3_x.out.p1
  have gl_x := R3_x.out.lt
  clear uh2 uh2' vh2 vh2'
  go_wp2_with fail
  refine (within_any _ _ _ (by omega) (by omega)).mono ?_
  rintro e w' ⟨rfl, rfl⟩
  have uh3 : 0 ≤ e % 201 := by omega
  have uh3' : e % 201 < 201 := by omega
  go_wp2_with fail
  refine (within_any _ _ _ (by omega) (by omega)).mono ?_
  rintro e w' ⟨rfl, rfl⟩
  have vh3 : 0 ≤ f % 100 := by omega
  have vh3' : f % 100 < 100 := by omega
  go_wp2_with fail
  refine (h3'.out _).mono ?_
  rintro e w4 ⟨rfl, hb⟩
  clear g0_x g1_x gl_x
  have R4_x := hid (((R3_x.out).keep_alloc (.cells #[.int .i64 (yn), .int .i64 (yd)] 23)).keep hb)
  have R4_y := hid ((RatAt.new w3 23 (yn) (yd)).keep hb)
  have HB4 := hid (below_step (below_step HB3.out (Nat.le_refl _) (below_alloc w3 (.cells #[.int .i64 (yn), .int .i64 (yd)] 23))) (Nat.le_refl _) hb)
  clear hb HB3 R3_x
  have g0_x := R4_x.out.p0
  have g1_x := R4_x.out.p1
  have gl_x := R4_x.out.lt
  have g0_y := R4_y.out.p0
  have g1_y := R4_y.out.p1
  have gl_y := R4_y.out.lt
  clear uh3 uh3' vh3 vh3'
  go_wp2_with fail
  refine (h4'.out _).mono ?_
  rintro e w5 ⟨rfl, hb⟩
  clear g0_x g1_x gl_x g0_y g1_y gl_y
  have R5_x := hid (((R4_x.out).keep_alloc (.cells #[.int .i64 (zn), .int .i64 (zd)] 23)).keep hb)
  have R5_y := hid (((R4_y.out).keep_alloc (.cells #[.int .i64 (zn), .int .i64 (zd)] 23)).keep hb)
  have R5_z := hid ((RatAt.new w4 23 (zn) (zd)).keep hb)
  have HB5 := hid (below_step (below_step HB4.out (Nat.le_refl _) (below_alloc w4 (.cells #[.int .i64 (zn), .int .i64 (zd)] 23))) (Nat.le_refl _) hb)
  clear hb HB4 R4_x R4_y
  have g0_x := R5_x.out.p0
  have g1_x := R5_x.out.p1
  have gl_x := R5_x.out.lt
  have g0_y := R5_y.out.p0
  have g1_y := R5_y.out.p1
  have gl_y := R5_y.out.lt
  have g0_z := R5_z.out.p0
  have g1_z := R5_z.out.p1
  have gl_z := R5_z.out.lt
  go_wp2_with fail
  refine (h5'.out _).mono ?_
  rintro e w6 ⟨rfl, hb⟩
  clear g0_x g1_x gl_x g0_y g1_y gl_y g0_z g1_z gl_z
  have R6_x := hid (((R5_x.out).keep_alloc (.cells #[.int .i64 (sn), .int .i64 (sd)] 23)).keep hb)
  have R6_y := hid (((R5_y.out).keep_alloc (.cells #[.int .i64 (sn), .int .i64 (sd)] 23)).keep hb)
  have R6_z := hid (((R5_z.out).keep_alloc (.cells #[.int .i64 (sn), .int .i64 (sd)] 23)).keep hb)
  have R6_xy := hid ((RatAt.new w5 23 (sn) (sd)).keep hb)
  have HB6 := hid (below_step (below_step HB5.out (Nat.le_refl _) (below_alloc w5 (.cells #[.int .i64 (sn), .int .i64 (sd)] 23))) (Nat.le_refl _) hb)
  clear hb HB5 R5_x R5_y R5_z
  have g0_x := R6_x.out.p0
  have g1_x := R6_x.out.p1
  have gl_x := R6_x.out.lt
  have g0_y := R6_y.out.p0
  have g1_y := R6_y.out.p1
  have gl_y := R6_y.out.lt
  have g0_z := R6_z.out.p0
  have g1_z := R6_z.out.p1
  have gl_z := R6_z.out.lt
  have g0_xy := R6_xy.out.p0
  have g1_xy := R6_xy.out.p1
  have gl_xy := R6_xy.out.lt
  go_wp2_with fail
  refine (h6'.out _).mono ?_
  rintro e w7 ⟨rfl, hb⟩
  clear g0_x g1_x gl_x g0_y g1_y gl_y g0_z g1_z gl_z g0_xy g1_xy gl_xy
  have R7_x := hid (((R6_x.out).keep_alloc (.cells #[.int .i64 (sn), .int .i64 (sd)] 23)).keep hb)
  have R7_y := hid (((R6_y.out).keep_alloc (.cells #[.int .i64 (sn), .int .i64 (sd)] 23)).keep hb)
  have R7_z := hid (((R6_z.out).keep_alloc (.cells #[.int .i64 (sn), .int .i64 (sd)] 23)).keep hb)
  have R7_xy := hid (((R6_xy.out).keep_alloc (.cells #[.int .i64 (sn), .int .i64 (sd)] 23)).keep hb)
  have R7_yx := hid ((RatAt.new w6 23 (sn) (sd)).keep hb)
  have HB7 := hid (below_step (below_step HB6.out (Nat.le_refl _) (below_alloc w6 (.cells #[.int .i64 (sn), .int .i64 (sd)] 23))) (Nat.le_refl _) hb)
  clear hb HB6 R6_x R6_y R6_z R6_xy
  have g0_x := R7_x.out.p0
  have g1_x := R7_x.out.p1
  have gl_x := R7_x.out.lt
  have g0_y := R7_y.out.p0
  have g1_y := R7_y.out.p1
  have gl_y := R7_y.out.lt
  have g0_z := R7_z.out.p0
  have g1_z := R7_z.out.p1
  have gl_z := R7_z.out.lt
  have g0_xy := R7_xy.out.p0
  have g1_xy := R7_xy.out.p1
  have gl_xy := R7_xy.out.lt
  have g0_yx := R7_yx.out.p0
  have g1_yx := R7_yx.out.p1
  have gl_yx := R7_yx.out.lt
  go_wp2_with fail
  refine (h7'.out _).mono ?_
  rintro e w8 ⟨rfl, hb⟩
  clear g0_x g1_x gl_x g0_y g1_y gl_y g0_z g1_z gl_z g0_xy g1_xy gl_xy g0_yx g1_yx gl_yx
  have R8_x := hid (((R7_x.out).keep_alloc (.cells #[.int .i64 (ln), .int .i64 (ld)] 23)).keep hb)
  have R8_y := hid (((R7_y.out).keep_alloc (.cells #[.int .i64 (ln), .int .i64 (ld)] 23)).keep hb)
  have R8_z := hid (((R7_z.out).keep_alloc (.cells #[.int .i64 (ln), .int .i64 (ld)] 23)).keep hb)
  have R8_xy := hid (((R7_xy.out).keep_alloc (.cells #[.int .i64 (ln), .int .i64 (ld)] 23)).keep hb)
  have R8_yx := hid (((R7_yx.out).keep_alloc (.cells #[.int .i64 (ln), .int .i64 (ld)] 23)).keep hb)
  have R8_l := hid ((RatAt.new w7 23 (ln) (ld)).keep hb)
  have HB8 := hid (below_step (below_step HB7.out (Nat.le_refl _) (below_alloc w7 (.cells #[.int .i64 (ln), .int .i64 (ld)] 23))) (Nat.le_refl _) hb)
  clear hb HB7 R7_x R7_y R7_z R7_xy R7_yx
  have g0_x := R8_x.out.p0
  have g1_x := R8_x.out.p1
  have gl_x := R8_x.out.lt
  have g0_y := R8_y.out.p0
  have g1_y := R8_y.out.p1
  have gl_y := R8_y.out.lt
  have g0_z := R8_z.out.p0
  have g1_z := R8_z.out.p1
  have gl_z := R8_z.out.lt
  have g0_xy := R8_xy.out.p0
  have g1_xy := R8_xy.out.p1
  have gl_xy := R8_xy.out.lt
  have g0_yx := R8_yx.out.p0
  have g1_yx := R8_yx.out.p1
  have gl_yx := R8_yx.out.lt
  have g0_l := R8_l.out.p0
  have g1_l := R8_l.out.p1
  have gl_l := R8_l.out.lt
  go_wp2_with fail
  refine (h8'.out _).mono ?_
  rintro e w9 ⟨rfl, hb⟩
  clear g0_x g1_x gl_x g0_y g1_y gl_y g0_z g1_z gl_z g0_xy g1_xy gl_xy g0_yx g1_yx gl_yx g0_l g1_l gl_l
  have R9_x := hid (((R8_x.out).keep_alloc (.cells #[.int .i64 (rn), .int .i64 (rd)] 23)).keep hb)
  have R9_y := hid (((R8_y.out).keep_alloc (.cells #[.int .i64 (rn), .int .i64 (rd)] 23)).keep hb)
  have R9_z := hid (((R8_z.out).keep_alloc (.cells #[.int .i64 (rn), .int .i64 (rd)] 23)).keep hb)
  have R9_xy := hid (((R8_xy.out).keep_alloc (.cells #[.int .i64 (rn), .int .i64 (rd)] 23)).keep hb)
  have R9_yx := hid (((R8_yx.out).keep_alloc (.cells #[.int .i64 (rn), .int .i64 (rd)] 23)).keep hb)
  have R9_l := hid (((R8_l.out).keep_alloc (.cells #[.int .i64 (rn), .int .i64 (rd)] 23)).keep hb)
  have R9_yz := hid ((RatAt.new w8 23 (rn) (rd)).keep hb)
  have HB9 := hid (below_step (below_step HB8.out (Nat.le_refl _) (below_alloc w8 (.cells #[.int .i64 (rn), .int .i64 (rd)] 23))) (Nat.le_refl _) hb)
  clear hb HB8 R8_x R8_y R8_z R8_xy R8_yx R8_l
  have g0_x := R9_x.out.p0
  have g1_x := R9_x.out.p1
  have gl_x := R9_x.out.lt
  have g0_y := R9_y.out.p0
  have g1_y := R9_y.out.p1
  have gl_y := R9_y.out.lt
  have g0_z := R9_z.out.p0
  have g1_z := R9_z.out.p1
  have gl_z := R9_z.out.lt
  have g0_xy := R9_xy.out.p0
  have g1_xy := R9_xy.out.p1
  have gl_xy := R9_xy.out.lt
  have g0_yx := R9_yx.out.p0
  have g1_yx := R9_yx.out.p1
  have gl_yx := R9_yx.out.lt
  have g0_l := R9_l.out.p0
  have g1_l := R9_l.out.p1
  have gl_l := R9_l.out.lt
  have g0_yz := R9_yz.out.p0
  have g1_yz := R9_yz.out.p1
  have gl_yz := R9_yz.out.lt
  go_wp2_with fail
  refine (good_bel1 _ _ _ _ 8 [0, 0, 0, 0, 0, 0, 0, 0] rfl rfl (by omega)).mono ?_
  rintro e w10 ⟨rfl, hb⟩
  clear g0_x g1_x gl_x g0_y g1_y gl_y g0_z g1_z gl_z g0_xy g1_xy gl_xy g0_yx g1_yx gl_yx g0_l g1_l gl_l g0_yz g1_yz gl_yz
  rw [show allOK [0, 0, 0, 0, 0, 0, 0, 0] = true by decide]
  have R10_x := hid (((R9_x.out).keep_alloc (.cells #[.int .i64 (ln), .int .i64 (ld)] 23)).keep hb)
  have R10_y := hid (((R9_y.out).keep_alloc (.cells #[.int .i64 (ln), .int .i64 (ld)] 23)).keep hb)
  have R10_z := hid (((R9_z.out).keep_alloc (.cells #[.int .i64 (ln), .int .i64 (ld)] 23)).keep hb)
  have R10_xy := hid (((R9_xy.out).keep_alloc (.cells #[.int .i64 (ln), .int .i64 (ld)] 23)).keep hb)
  have R10_yx := hid (((R9_yx.out).keep_alloc (.cells #[.int .i64 (ln), .int .i64 (ld)] 23)).keep hb)
  have R10_l := hid (((R9_l.out).keep_alloc (.cells #[.int .i64 (ln), .int .i64 (ld)] 23)).keep hb)
  have R10_yz := hid (((R9_yz.out).keep_alloc (.cells #[.int .i64 (ln), .int .i64 (ld)] 23)).keep hb)
  have R10_r := hid ((RatAt.new w9 23 (ln) (ld)).keep hb)
  have HB10 := hid (below_step (below_step HB9.out (Nat.le_refl _) (below_alloc w9 (.cells #[.int .i64 (ln), .int .i64 (ld)] 23))) (Nat.le_refl _) hb)
  clear hb HB9 R9_x R9_y R9_z R9_xy R9_yx R9_l R9_yz
  have g0_x := R10_x.out.p0
  have g1_x := R10_x.out.p1
  have gl_x := R10_x.out.lt
  have g0_y := R10_y.out.p0
  have g1_y := R10_y.out.p1
  have gl_y := R10_y.out.lt
  have g0_z := R10_z.out.p0
  have g1_z := R10_z.out.p1
  have gl_z := R10_z.out.lt
  have g0_xy := R10_xy.out.p0
  have g1_xy := R10_xy.out.p1
  have gl_xy := R10_xy.out.lt
  have g0_yx := R10_yx.out.p0
  have g1_yx := R10_yx.out.p1
  have gl_yx := R10_yx.out.lt
  have g0_l := R10_l.out.p0
  have g1_l := R10_l.out.p1
  have gl_l := R10_l.out.lt
  have g0_yz := R10_yz.out.p0
  have g1_yz := R10_yz.out.p1
  have gl_yz := R10_yz.out.lt
  have g0_r := R10_r.out.p0
  have g1_r := R10_r.out.p1
  have gl_r := R10_r.out.lt
  go_wp2_with fail
  refine (h9'.out _).mono ?_
  rintro e w11 ⟨rfl, hb⟩
  clear g0_x g1_x gl_x g0_y g1_y gl_y g0_z g1_z gl_z g0_xy g1_xy gl_xy g0_yx g1_yx gl_yx g0_l g1_l gl_l g0_yz g1_yz gl_yz g0_r g1_r gl_r
  have R11_x := hid ((R10_x.out).keep hb)
  have R11_y := hid ((R10_y.out).keep hb)
  have R11_z := hid ((R10_z.out).keep hb)
  have R11_yz := hid ((R10_yz.out).keep hb)
  have HB11 := hid (below_step HB10.out (Nat.le_refl _) hb)
  clear hb HB10 R10_x R10_y R10_z R10_xy R10_yx R10_l R10_yz R10_r
  have g0_x := R11_x.out.p0
  have g1_x := R11_x.out.p1
  have gl_x := R11_x.out.lt
  have g0_y := R11_y.out.p0
  have g1_y := R11_y.out.p1
  have gl_y := R11_y.out.lt
  have g0_z := R11_z.out.p0
  have g1_z := R11_z.out.p1
  have gl_z := R11_z.out.lt
  have g0_yz := R11_yz.out.p0
  have g1_yz := R11_yz.out.p1
  have gl_yz := R11_yz.out.lt
  go_wp2_with fail
  refine (h10'.out _).mono ?_
  rintro e w12 ⟨rfl, hb⟩
  clear g0_x g1_x gl_x g0_y g1_y gl_y g0_z g1_z gl_z g0_yz g1_yz gl_yz
  have R12_x := hid (((R11_x.out).keep_alloc (.cells #[.int .i64 (pn), .int .i64 (pd)] 23)).keep hb)
  have R12_y := hid (((R11_y.out).keep_alloc (.cells #[.int .i64 (pn), .int .i64 (pd)] 23)).keep hb)
  have R12_z := hid (((R11_z.out).keep_alloc (.cells #[.int .i64 (pn), .int .i64 (pd)] 23)).keep hb)
  have R12_yz := hid (((R11_yz.out).keep_alloc (.cells #[.int .i64 (pn), .int .i64 (pd)] 23)).keep hb)
  have R12_p := hid ((RatAt.new w11 23 (pn) (pd)).keep hb)
  have HB12 := hid (below_step (below_step HB11.out (Nat.le_refl _) (below_alloc w11 (.cells #[.int .i64 (pn), .int .i64 (pd)] 23))) (Nat.le_refl _) hb)
  clear hb HB11 R11_x R11_y R11_z R11_yz
  have g0_x := R12_x.out.p0
  have g1_x := R12_x.out.p1
  have gl_x := R12_x.out.lt
  have g0_y := R12_y.out.p0
  have g1_y := R12_y.out.p1
  have gl_y := R12_y.out.lt
  have g0_z := R12_z.out.p0
  have g1_z := R12_z.out.p1
  have gl_z := R12_z.out.lt
  have g0_yz := R12_yz.out.p0
  have g1_yz := R12_yz.out.p1
  have gl_yz := R12_yz.out.lt
  have g0_p := R12_p.out.p0
  have g1_p := R12_p.out.p1
  have gl_p := R12_p.out.lt
  go_wp2_with fail
  refine (h11'.out _).mono ?_
  rintro e w13 ⟨rfl, hb⟩
  clear g0_x g1_x gl_x g0_y g1_y gl_y g0_z g1_z gl_z g0_yz g1_yz gl_yz g0_p g1_p gl_p
  have R13_x := hid (((R12_x.out).keep_alloc (.cells #[.int .i64 (qn), .int .i64 (qd)] 23)).keep hb)
  have R13_y := hid (((R12_y.out).keep_alloc (.cells #[.int .i64 (qn), .int .i64 (qd)] 23)).keep hb)
  have R13_z := hid (((R12_z.out).keep_alloc (.cells #[.int .i64 (qn), .int .i64 (qd)] 23)).keep hb)
  have R13_yz := hid (((R12_yz.out).keep_alloc (.cells #[.int .i64 (qn), .int .i64 (qd)] 23)).keep hb)
  have R13_p := hid (((R12_p.out).keep_alloc (.cells #[.int .i64 (qn), .int .i64 (qd)] 23)).keep hb)
  have R13_q := hid ((RatAt.new w12 23 (qn) (qd)).keep hb)
  have HB13 := hid (below_step (below_step HB12.out (Nat.le_refl _) (below_alloc w12 (.cells #[.int .i64 (qn), .int .i64 (qd)] 23))) (Nat.le_refl _) hb)
  clear hb HB12 R12_x R12_y R12_z R12_yz R12_p
  have g0_x := R13_x.out.p0
  have g1_x := R13_x.out.p1
  have gl_x := R13_x.out.lt
  have g0_y := R13_y.out.p0
  have g1_y := R13_y.out.p1
  have gl_y := R13_y.out.lt
  have g0_z := R13_z.out.p0
  have g1_z := R13_z.out.p1
  have gl_z := R13_z.out.lt
  have g0_yz := R13_yz.out.p0
  have g1_yz := R13_yz.out.p1
  have gl_yz := R13_yz.out.lt
  have g0_p := R13_p.out.p0
  have g1_p := R13_p.out.p1
  have gl_p := R13_p.out.lt
  have g0_q := R13_q.out.p0
  have g1_q := R13_q.out.p1
  have gl_q := R13_q.out.lt
  go_wp2_with fail
  refine (h12'.out _).mono ?_
  rintro e w14 ⟨rfl, hb⟩
  clear g0_x g1_x gl_x g0_y g1_y gl_y g0_z g1_z gl_z g0_yz g1_yz gl_yz g0_p g1_p gl_p g0_q g1_q gl_q
  have R14_x := hid (((R13_x.out).keep_alloc (.cells #[.int .i64 (tn), .int .i64 (td)] 23)).keep hb)
  have R14_y := hid (((R13_y.out).keep_alloc (.cells #[.int .i64 (tn), .int .i64 (td)] 23)).keep hb)
  have R14_yz := hid (((R13_yz.out).keep_alloc (.cells #[.int .i64 (tn), .int .i64 (td)] 23)).keep hb)
  have R14_p := hid (((R13_p.out).keep_alloc (.cells #[.int .i64 (tn), .int .i64 (td)] 23)).keep hb)
  have R14_q := hid (((R13_q.out).keep_alloc (.cells #[.int .i64 (tn), .int .i64 (td)] 23)).keep hb)
  have R14_s := hid ((RatAt.new w13 23 (tn) (td)).keep hb)
  have HB14 := hid (below_step (below_step HB13.out (Nat.le_refl _) (below_alloc w13 (.cells #[.int .i64 (tn), .int .i64 (td)] 23))) (Nat.le_refl _) hb)
  clear hb HB13 R13_x R13_y R13_z R13_yz R13_p R13_q
  have g0_x := R14_x.out.p0
  have g1_x := R14_x.out.p1
  have gl_x := R14_x.out.lt
  have g0_y := R14_y.out.p0
  have g1_y := R14_y.out.p1
  have gl_y := R14_y.out.lt
  have g0_yz := R14_yz.out.p0
  have g1_yz := R14_yz.out.p1
  have gl_yz := R14_yz.out.lt
  have g0_p := R14_p.out.p0
  have g1_p := R14_p.out.p1
  have gl_p := R14_p.out.lt
  have g0_q := R14_q.out.p0
  have g1_q := R14_q.out.p1
  have gl_q := R14_q.out.lt
  have g0_s := R14_s.out.p0
  have g1_s := R14_s.out.p1
  have gl_s := R14_s.out.lt
  go_wp2_with fail
  refine (h13'.out _).mono ?_
  rintro e w15 ⟨rfl, hb⟩
  clear g0_x g1_x gl_x g0_y g1_y gl_y g0_yz g1_yz gl_yz g0_p g1_p gl_p g0_q g1_q gl_q g0_s g1_s gl_s
  have R15_x := hid (((R14_x.out).keep_alloc (.cells #[.int .i64 (tn), .int .i64 (td)] 23)).keep hb)
  have R15_y := hid (((R14_y.out).keep_alloc (.cells #[.int .i64 (tn), .int .i64 (td)] 23)).keep hb)
  have R15_yz := hid (((R14_yz.out).keep_alloc (.cells #[.int .i64 (tn), .int .i64 (td)] 23)).keep hb)
  have R15_p := hid (((R14_p.out).keep_alloc (.cells #[.int .i64 (tn), .int .i64 (td)] 23)).keep hb)
  have R15_q := hid (((R14_q.out).keep_alloc (.cells #[.int .i64 (tn), .int .i64 (td)] 23)).keep hb)
  have R15_s := hid (((R14_s.out).keep_alloc (.cells #[.int .i64 (tn), .int .i64 (td)] 23)).keep hb)
  have R15_t := hid ((RatAt.new w14 23 (tn) (td)).keep hb)
  have HB15 := hid (below_step (below_step HB14.out (Nat.le_refl _) (below_alloc w14 (.cells #[.int .i64 (tn), .int .i64 (td)] 23))) (Nat.le_refl _) hb)
  clear hb HB14 R14_x R14_y R14_yz R14_p R14_q R14_s
  have g0_x := R15_x.out.p0
  have g1_x := R15_x.out.p1
  have gl_x := R15_x.out.lt
  have g0_y := R15_y.out.p0
  have g1_y := R15_y.out.p1
  have gl_y := R15_y.out.lt
  have g0_yz := R15_yz.out.p0
  have g1_yz := R15_yz.out.p1
  have gl_yz := R15_yz.out.lt
  have g0_p := R15_p.out.p0
  have g1_p := R15_p.out.p1
  have gl_p := R15_p.out.lt
  have g0_q := R15_q.out.p0
  have g1_q := R15_q.out.p1
  have gl_q := R15_q.out.lt
  have g0_s := R15_s.out.p0
  have g1_s := R15_s.out.p1
  have gl_s := R15_s.out.lt
  have g0_t := R15_t.out.p0
  have g1_t := R15_t.out.p1
  have gl_t := R15_t.out.lt
  go_wp2
  go_ret
  exact ⟨rfl, below_step HB15.out (Nat.le_refl _) (below_alloc w15 (.cells #[.int .i64 (xn), .int .i64 (xd)] 23))⟩

theorem ratioField_any (a b c d e f : Int) (w : World) :
    Calls Try.prog 4 #[.int .i64 a, .int .i64 b, .int .i64 c, .int .i64 d, .int .i64 e, .int .i64 f] w fun e w' => e = .returned (.bool true) ∧ Below w.heap.size w w' := by
  have bx : RB (Rat.divInt (a % 201 - 100) (1 + b % 100)) 100 100 := RB.make (by omega) (by omega) (by omega)
  have bY : RB (Rat.divInt (c % 201 - 100) (1 + d % 100)) 100 100 := RB.make (by omega) (by omega) (by omega)
  have bz : RB (Rat.divInt (e % 201 - 100) (1 + f % 100)) 100 100 := RB.make (by omega) (by omega) (by omega)
  have m1 := fun W => rmake_ok (a % 201 - 100) (1 + b % 100) W (by omega) (by omega) (by omega) (by omega) (by omega)
  have m2 := fun W => rmake_ok (c % 201 - 100) (1 + d % 100) W (by omega) (by omega) (by omega) (by omega) (by omega)
  have m3 := fun W => rmake_ok (e % 201 - 100) (1 + f % 100) W (by omega) (by omega) (by omega) (by omega) (by omega)
  generalize Rat.divInt (a % 201 - 100) (1 + b % 100) = x at *
  generalize Rat.divInt (c % 201 - 100) (1 + d % 100) = y at *
  generalize Rat.divInt (e % 201 - 100) (1 + f % 100) = z at *
  have fx := bx.fits (by omega) (by omega)
  have fy := bY.fits (by omega) (by omega)
  have fz := bz.fits (by omega) (by omega)
  have fxy := (bx.add bY).fits (by omega) (by omega)
  have fl := ((bx.add bY).add bz).fits (by omega) (by omega)
  have fyz := (bY.add bz).fits (by omega) (by omega)
  have fp := (bx.mul bY).fits (by omega) (by omega)
  have fq := (bx.mul bz).fits (by omega) (by omega)
  have ft := ((bx.mul bY).add (bx.mul bz)).fits (by omega) (by omega)
  have h5 := add_good fy fx (by rw [Rat.add_comm]; exact fxy)
  rw [Rat.add_comm y x] at h5
  have h8 := add_good fx fyz (by rw [← Rat.add_assoc]; exact fl)
  rw [← Rat.add_assoc] at h8
  have h12 := mul_good fx fyz (by rw [Rat.mul_add]; exact ft)
  rw [Rat.mul_add] at h12
  by_cases h0 : y = 0
  · have hd : (y.den : Int) = 1 := by rw [h0]; rfl
    have hn : y.num = 0 := by rw [h0]; rfl
    refine ratioField_zero a b c d e f _ _ _ _ _ _ _ _ _ _ _ _ _ _ _ _ _ _ m1 m2 m3 (add_good fx fy fxy) h5 (add_good fxy fz fl) (add_good fy fz fyz) h8 (mul_good fx fy fp) (mul_good fx fz fq) (add_good fp fq ft) h12 (fun W => ?_) hn w
    rw [hd, hn]
    exact rdiv_zero _ W fp
  · have hdv : x * y / y = x := Rat.mul_div_cancel h0
    have h13 := div_good fp fy h0 (by rw [hdv]; exact fx)
    rw [hdv] at h13
    exact ratioField_walk a b c d e f _ _ _ _ _ _ _ _ _ _ _ _ _ _ _ _ _ _ m1 m2 m3 (add_good fx fy fxy) h5 (add_good fxy fz fl) (add_good fy fz fyz) h8 (mul_good fx fy fp) (mul_good fx fz fq) (add_good fp fq ft) h12 h13 (fun e => h0 (Rat.num_eq_zero.1 e)) w
end Go.Proofs.Ytcnljljgdkjndaa
