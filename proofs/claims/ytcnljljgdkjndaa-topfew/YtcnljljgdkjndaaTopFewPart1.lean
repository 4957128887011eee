/-
  Texts joined: RatD, RatG, TopA, TabM, Inverse, Grp, Fct, Cmp, RankM, SubM, Pas, NestM, FewM.
-/
import Derived.Test.YtcnljljgdkjndaaTopFewPart0
import Derived.Lib.TrailingZeros

/-
  ratio.Make, Add, Mul, Div, Less.
-/
namespace Go.Proofs.Ytcnljljgdkjndaa
open Go.RowKit

/-- What is said of a call that hands out yes or no, and an error. -/
def RetB (w : World) (b : Bool) (er : Int) (e : Ending) (w' : World) : Prop := e = .returned (.tuple #[.bool b, .int .i64 er]) ∧ Below w.heap.size w w'

theorem bothErr_ok {x y : Rat} (hx : RFits x) (hy : RFits y) : bothErr x.num (x.den : Int) y.num (y.den : Int) = 0 := by
  unfold bothErr
  rw [ratioErr_of hx, ratioErr_of hy]
  rfl
theorem div_ne {y : Rat} (h : y ≠ 0) (x : Rat) : (x.den : Int) * y.num ≠ 0 := by
  have h1 := x.den_pos
  exact Int.mul_ne_zero (by omega) (fun e => h (Rat.num_eq_zero.1 e))
theorem two_alloc (w : World) (o1 o2 : Obj) : Below w.heap.size w ((w.alloc o1).alloc o2) := below_step (below_alloc w _) (Nat.le_refl _) (below_alloc _ _)
theorem rat_second (w : World) (o : Obj) (t : TypeId) (P Q : Int) : RatAt ((w.alloc o).alloc (.cells #[.int .i64 P, .int .i64 Q] t)) (w.heap.size + 1) P Q := by
  have h := RatAt.new (w.alloc o) t P Q
  rwa [show (w.alloc o).heap.size = w.heap.size + 1 by simp] at h
theorem rat_third (w : World) (o o2 : Obj) (t : TypeId) (P Q : Int) : RatAt (((w.alloc o).alloc o2).alloc (.cells #[.int .i64 P, .int .i64 Q] t)) (w.heap.size + 2) P Q := by
  have h := RatAt.new ((w.alloc o).alloc o2) t P Q
  rwa [show ((w.alloc o).alloc o2).heap.size = w.heap.size + 2 by simp] at h
theorem three_alloc (w : World) (o1 o2 o3 : Obj) : Below w.heap.size w (((w.alloc o1).alloc o2).alloc o3) := below_step (two_alloc w o1 o2) (Nat.le_refl _) (below_alloc _ _)

set_option maxHeartbeats 800000 in
theorem radd_bad (P Q P' Q' : Int) (w : World) (h : bothErr P Q P' Q' ≠ 0) :
    Calls Try.prog 11 #[.agg #[.int .i64 P, .int .i64 Q], .agg #[.int .i64 P', .int .i64 Q']] w (RetR w 0 0 (bothErr P Q P' Q')) := by
  have HB0 : Hid (Below w.heap.size w (((w.alloc (.cells #[.int .i64 P, .int .i64 Q] 23)).alloc (.cells #[.int .i64 P', .int .i64 Q'] 23)).alloc (.cells #[.int .i64 0, .int .i64 0] 23))) := three_alloc w _ _ _
  have HZ : Hid (RatAt (((w.alloc (.cells #[.int .i64 P, .int .i64 Q] 23)).alloc (.cells #[.int .i64 P', .int .i64 Q'] 23)).alloc (.cells #[.int .i64 0, .int .i64 0] 23)) (w.heap.size + 2) 0 0) := rat_third w _ _ _ 0 0
  have hne : (bothErr P Q P' Q' != 0) = true := by simpa using h
  clear h
  go_enter Try.func11, Try.ntmps11
  go_wp2_with fail
  refine (checkBoth_any _ _ _ _ _).mono ?_
  rintro e w1 ⟨rfl, hb⟩
  have hz := HZ.out.keep hb
  have g0 := hz.p0
  have g1 := hz.p1
  have f0 := hz.f0
  have f1 := hz.f1
  have HB1 := hid (below_step HB0.out (by simp) hb)
  clear hz hb HB0 HZ
  generalize bothErr P Q P' Q' = er at *
  go_wp2
  (try simp only [Exit.inBlock, Exit.then])
  refine bodyPost_ret (v := .tuple #[.agg #[.int .i64 0, .int .i64 0], .int .i64 er]) ?_ rfl ⟨rfl, HB1.out.trans (below_set2 (by omega))⟩
  rw [results_cell_tmp rfl]
  go_simp

set_option maxHeartbeats 800000 in
theorem radd_ok (x y : Rat) (w : World) (hx : RFits x) (hy : RFits y) :
    Calls Try.prog 11 #[.agg #[.int .i64 x.num, .int .i64 (x.den : Int)], .agg #[.int .i64 y.num, .int .i64 (y.den : Int)]] w (RetR w (outP (x + y)) (outQ (x + y)) (outE (x + y))) := by
  have HE := hid (bothErr_ok hx hy)
  have HQ := hid (add_eq x y)
  have h0 := den_ne x y
  obtain ⟨x1, x2, x3⟩ := hx
  obtain ⟨y1, y2, y3⟩ := hy
  have x4 : (1 : Int) ≤ (x.den : Int) := by have := x.den_pos; omega
  have y4 : (1 : Int) ≤ (y.den : Int) := by have := y.den_pos; omega
  generalize hr : x + y = r at *
  clear hr
  generalize x.num = P at *
  generalize (x.den : Int) = Q at *
  generalize y.num = P' at *
  generalize (y.den : Int) = Q' at *
  obtain ⟨m1, m1'⟩ : -1000000000000000000 ≤ P * Q' ∧ P * Q' ≤ 1000000000000000000 := mul_bd18 (by omega) (by omega) (by omega) (by omega)
  obtain ⟨m2, m2'⟩ : -1000000000000000000 ≤ P' * Q ∧ P' * Q ≤ 1000000000000000000 := mul_bd18 (by omega) (by omega) (by omega) (by omega)
  obtain ⟨m3, m3'⟩ : -1000000000000000000 ≤ Q * Q' ∧ Q * Q' ≤ 1000000000000000000 := mul_bd18 (by omega) (by omega) (by omega) (by omega)
  have HB0 : Hid (Below w.heap.size w (((w.alloc (.cells #[.int .i64 P, .int .i64 Q] 23)).alloc (.cells #[.int .i64 P', .int .i64 Q'] 23)).alloc (.cells #[.int .i64 0, .int .i64 0] 23))) := three_alloc w _ _ _
  have HX : Hid (RatAt (((w.alloc (.cells #[.int .i64 P, .int .i64 Q] 23)).alloc (.cells #[.int .i64 P', .int .i64 Q'] 23)).alloc (.cells #[.int .i64 0, .int .i64 0] 23)) w.heap.size P Q) := ((RatAt.new w 23 P Q).keep_alloc (.cells #[.int .i64 P', .int .i64 Q'] 23)).keep_alloc (.cells #[.int .i64 0, .int .i64 0] 23)
  have HY : Hid (RatAt (((w.alloc (.cells #[.int .i64 P, .int .i64 Q] 23)).alloc (.cells #[.int .i64 P', .int .i64 Q'] 23)).alloc (.cells #[.int .i64 0, .int .i64 0] 23)) (w.heap.size + 1) P' Q') := (rat_second w (.cells #[.int .i64 P, .int .i64 Q] 23) 23 P' Q').keep_alloc (.cells #[.int .i64 0, .int .i64 0] 23)
  have HZ : Hid (RatAt (((w.alloc (.cells #[.int .i64 P, .int .i64 Q] 23)).alloc (.cells #[.int .i64 P', .int .i64 Q'] 23)).alloc (.cells #[.int .i64 0, .int .i64 0] 23)) (w.heap.size + 2) 0 0) := rat_third w _ _ _ 0 0
  go_enter Try.func11, Try.ntmps11
  go_wp2_with fail
  refine (checkBoth_any _ _ _ _ _).mono ?_
  rintro e w1 ⟨rfl, hb⟩
  rw [HE.out]
  have g0 := (HX.out.keep hb).p0
  have g1 := (HX.out.keep hb).p1
  have g2 := (HY.out.keep hb).p0
  have g3 := (HY.out.keep hb).p1
  have HZ1 := hid (HZ.out.keep hb)
  have HB1 := hid (below_step HB0.out (by simp) hb)
  clear hb HB0 HZ HX HY HE
  go_wp2_with fail
  refine (lowest_any (P * Q' + P' * Q) (Q * Q') w1 ⟨by omega, by omega⟩ ⟨by omega, by omega⟩ h0).mono ?_
  rintro e w2 ⟨rfl, hb⟩
  rw [HQ.out]
  clear g0 g1 g2 g3
  have hz := HZ1.out.keep hb
  have g0 := hz.p0
  have g1 := hz.p1
  have f0 := hz.f0
  have f1 := hz.f1
  have HB2 := hid (below_step HB1.out (Nat.le_refl _) hb)
  clear hz hb HB1 HZ1
  generalize outP r = n at *
  generalize outQ r = d at *
  generalize outE r = er at *
  go_wp2
  (try simp only [Exit.inBlock, Exit.then])
  refine bodyPost_ret (v := .tuple #[.agg #[.int .i64 n, .int .i64 d], .int .i64 er]) ?_ rfl ⟨rfl, HB2.out.trans (below_set2 (by omega))⟩
  rw [results_cell_tmp rfl]
  go_simp

set_option maxHeartbeats 800000 in
theorem rmul_bad (P Q P' Q' : Int) (w : World) (h : bothErr P Q P' Q' ≠ 0) :
    Calls Try.prog 12 #[.agg #[.int .i64 P, .int .i64 Q], .agg #[.int .i64 P', .int .i64 Q']] w (RetR w 0 0 (bothErr P Q P' Q')) := by
  have HB0 : Hid (Below w.heap.size w (((w.alloc (.cells #[.int .i64 P, .int .i64 Q] 23)).alloc (.cells #[.int .i64 P', .int .i64 Q'] 23)).alloc (.cells #[.int .i64 0, .int .i64 0] 23))) := three_alloc w _ _ _
  have HZ : Hid (RatAt (((w.alloc (.cells #[.int .i64 P, .int .i64 Q] 23)).alloc (.cells #[.int .i64 P', .int .i64 Q'] 23)).alloc (.cells #[.int .i64 0, .int .i64 0] 23)) (w.heap.size + 2) 0 0) := rat_third w _ _ _ 0 0
  have hne : (bothErr P Q P' Q' != 0) = true := by simpa using h
  clear h
  go_enter Try.func12, Try.ntmps12
  go_wp2_with fail
  refine (checkBoth_any _ _ _ _ _).mono ?_
  rintro e w1 ⟨rfl, hb⟩
  have hz := HZ.out.keep hb
  have g0 := hz.p0
  have g1 := hz.p1
  have f0 := hz.f0
  have f1 := hz.f1
  have HB1 := hid (below_step HB0.out (by simp) hb)
  clear hz hb HB0 HZ
  generalize bothErr P Q P' Q' = er at *
  go_wp2
  (try simp only [Exit.inBlock, Exit.then])
  refine bodyPost_ret (v := .tuple #[.agg #[.int .i64 0, .int .i64 0], .int .i64 er]) ?_ rfl ⟨rfl, HB1.out.trans (below_set2 (by omega))⟩
  rw [results_cell_tmp rfl]
  go_simp

set_option maxHeartbeats 800000 in
theorem rmul_ok (x y : Rat) (w : World) (hx : RFits x) (hy : RFits y) :
    Calls Try.prog 12 #[.agg #[.int .i64 x.num, .int .i64 (x.den : Int)], .agg #[.int .i64 y.num, .int .i64 (y.den : Int)]] w (RetR w (outP (x * y)) (outQ (x * y)) (outE (x * y))) := by
  have HE := hid (bothErr_ok hx hy)
  have HQ := hid (mul_eq x y)
  have h0 := den_ne x y
  obtain ⟨x1, x2, x3⟩ := hx
  obtain ⟨y1, y2, y3⟩ := hy
  have x4 : (1 : Int) ≤ (x.den : Int) := by have := x.den_pos; omega
  have y4 : (1 : Int) ≤ (y.den : Int) := by have := y.den_pos; omega
  generalize hr : x * y = r at *
  clear hr
  generalize x.num = P at *
  generalize (x.den : Int) = Q at *
  generalize y.num = P' at *
  generalize (y.den : Int) = Q' at *
  obtain ⟨m1, m1'⟩ : -1000000000000000000 ≤ P * P' ∧ P * P' ≤ 1000000000000000000 := mul_bd18 (by omega) (by omega) (by omega) (by omega)
  obtain ⟨m3, m3'⟩ : -1000000000000000000 ≤ Q * Q' ∧ Q * Q' ≤ 1000000000000000000 := mul_bd18 (by omega) (by omega) (by omega) (by omega)
  have HB0 : Hid (Below w.heap.size w (((w.alloc (.cells #[.int .i64 P, .int .i64 Q] 23)).alloc (.cells #[.int .i64 P', .int .i64 Q'] 23)).alloc (.cells #[.int .i64 0, .int .i64 0] 23))) := three_alloc w _ _ _
  have HX : Hid (RatAt (((w.alloc (.cells #[.int .i64 P, .int .i64 Q] 23)).alloc (.cells #[.int .i64 P', .int .i64 Q'] 23)).alloc (.cells #[.int .i64 0, .int .i64 0] 23)) w.heap.size P Q) := ((RatAt.new w 23 P Q).keep_alloc (.cells #[.int .i64 P', .int .i64 Q'] 23)).keep_alloc (.cells #[.int .i64 0, .int .i64 0] 23)
  have HY : Hid (RatAt (((w.alloc (.cells #[.int .i64 P, .int .i64 Q] 23)).alloc (.cells #[.int .i64 P', .int .i64 Q'] 23)).alloc (.cells #[.int .i64 0, .int .i64 0] 23)) (w.heap.size + 1) P' Q') := (rat_second w (.cells #[.int .i64 P, .int .i64 Q] 23) 23 P' Q').keep_alloc (.cells #[.int .i64 0, .int .i64 0] 23)
  have HZ : Hid (RatAt (((w.alloc (.cells #[.int .i64 P, .int .i64 Q] 23)).alloc (.cells #[.int .i64 P', .int .i64 Q'] 23)).alloc (.cells #[.int .i64 0, .int .i64 0] 23)) (w.heap.size + 2) 0 0) := rat_third w _ _ _ 0 0
  go_enter Try.func12, Try.ntmps12
  go_wp2_with fail
  refine (checkBoth_any _ _ _ _ _).mono ?_
  rintro e w1 ⟨rfl, hb⟩
  rw [HE.out]
  have g0 := (HX.out.keep hb).p0
  have g1 := (HX.out.keep hb).p1
  have g2 := (HY.out.keep hb).p0
  have g3 := (HY.out.keep hb).p1
  have HZ1 := hid (HZ.out.keep hb)
  have HB1 := hid (below_step HB0.out (by simp) hb)
  clear hb HB0 HZ HX HY HE
  go_wp2_with fail
  refine (lowest_any (P * P') (Q * Q') w1 ⟨by omega, by omega⟩ ⟨by omega, by omega⟩ h0).mono ?_
  rintro e w2 ⟨rfl, hb⟩
  rw [HQ.out]
  clear g0 g1 g2 g3
  have hz := HZ1.out.keep hb
  have g0 := hz.p0
  have g1 := hz.p1
  have f0 := hz.f0
  have f1 := hz.f1
  have HB2 := hid (below_step HB1.out (Nat.le_refl _) hb)
  clear hz hb HB1 HZ1
  generalize outP r = n at *
  generalize outQ r = d at *
  generalize outE r = er at *
  go_wp2
  (try simp only [Exit.inBlock, Exit.then])
  refine bodyPost_ret (v := .tuple #[.agg #[.int .i64 n, .int .i64 d], .int .i64 er]) ?_ rfl ⟨rfl, HB2.out.trans (below_set2 (by omega))⟩
  rw [results_cell_tmp rfl]
  go_simp

set_option maxHeartbeats 800000 in
theorem rdiv_bad (P Q P' Q' : Int) (w : World) (h : bothErr P Q P' Q' ≠ 0) :
    Calls Try.prog 13 #[.agg #[.int .i64 P, .int .i64 Q], .agg #[.int .i64 P', .int .i64 Q']] w (RetR w 0 0 (bothErr P Q P' Q')) := by
  have HB0 : Hid (Below w.heap.size w (((w.alloc (.cells #[.int .i64 P, .int .i64 Q] 23)).alloc (.cells #[.int .i64 P', .int .i64 Q'] 23)).alloc (.cells #[.int .i64 0, .int .i64 0] 23))) := three_alloc w _ _ _
  have HZ : Hid (RatAt (((w.alloc (.cells #[.int .i64 P, .int .i64 Q] 23)).alloc (.cells #[.int .i64 P', .int .i64 Q'] 23)).alloc (.cells #[.int .i64 0, .int .i64 0] 23)) (w.heap.size + 2) 0 0) := rat_third w _ _ _ 0 0
  have hne : (bothErr P Q P' Q' != 0) = true := by simpa using h
  clear h
  go_enter Try.func13, Try.ntmps13
  go_wp2_with fail
  refine (checkBoth_any _ _ _ _ _).mono ?_
  rintro e w1 ⟨rfl, hb⟩
  have hz := HZ.out.keep hb
  have g0 := hz.p0
  have g1 := hz.p1
  have f0 := hz.f0
  have f1 := hz.f1
  have HB1 := hid (below_step HB0.out (by simp) hb)
  clear hz hb HB0 HZ
  generalize bothErr P Q P' Q' = er at *
  go_wp2
  (try simp only [Exit.inBlock, Exit.then])
  refine bodyPost_ret (v := .tuple #[.agg #[.int .i64 0, .int .i64 0], .int .i64 er]) ?_ rfl ⟨rfl, HB1.out.trans (below_set2 (by omega))⟩
  rw [results_cell_tmp rfl]
  go_simp

set_option maxHeartbeats 800000 in
theorem rdiv_ok (x y : Rat) (w : World) (hx : RFits x) (hy : RFits y) (h : y ≠ 0) :
    Calls Try.prog 13 #[.agg #[.int .i64 x.num, .int .i64 (x.den : Int)], .agg #[.int .i64 y.num, .int .i64 (y.den : Int)]] w (RetR w (outP (x / y)) (outQ (x / y)) (outE (x / y))) := by
  have HE := hid (bothErr_ok hx hy)
  have HQ := hid (div_eq x y)
  have h0 := div_ne h x
  obtain ⟨x1, x2, x3⟩ := hx
  obtain ⟨y1, y2, y3⟩ := hy
  have x4 : (1 : Int) ≤ (x.den : Int) := by have := x.den_pos; omega
  have y4 : (1 : Int) ≤ (y.den : Int) := by have := y.den_pos; omega
  have hz0 : (y.num == 0) = false := by simpa using (fun e => h (Rat.num_eq_zero.1 e))
  clear h
  generalize hr : x / y = r at *
  clear hr
  generalize x.num = P at *
  generalize (x.den : Int) = Q at *
  generalize y.num = P' at *
  generalize (y.den : Int) = Q' at *
  obtain ⟨m1, m1'⟩ : -1000000000000000000 ≤ P * Q' ∧ P * Q' ≤ 1000000000000000000 := mul_bd18 (by omega) (by omega) (by omega) (by omega)
  obtain ⟨m3, m3'⟩ : -1000000000000000000 ≤ Q * P' ∧ Q * P' ≤ 1000000000000000000 := mul_bd18 (by omega) (by omega) (by omega) (by omega)
  have HB0 : Hid (Below w.heap.size w (((w.alloc (.cells #[.int .i64 P, .int .i64 Q] 23)).alloc (.cells #[.int .i64 P', .int .i64 Q'] 23)).alloc (.cells #[.int .i64 0, .int .i64 0] 23))) := three_alloc w _ _ _
  have HX : Hid (RatAt (((w.alloc (.cells #[.int .i64 P, .int .i64 Q] 23)).alloc (.cells #[.int .i64 P', .int .i64 Q'] 23)).alloc (.cells #[.int .i64 0, .int .i64 0] 23)) w.heap.size P Q) := ((RatAt.new w 23 P Q).keep_alloc (.cells #[.int .i64 P', .int .i64 Q'] 23)).keep_alloc (.cells #[.int .i64 0, .int .i64 0] 23)
  have HY : Hid (RatAt (((w.alloc (.cells #[.int .i64 P, .int .i64 Q] 23)).alloc (.cells #[.int .i64 P', .int .i64 Q'] 23)).alloc (.cells #[.int .i64 0, .int .i64 0] 23)) (w.heap.size + 1) P' Q') := (rat_second w (.cells #[.int .i64 P, .int .i64 Q] 23) 23 P' Q').keep_alloc (.cells #[.int .i64 0, .int .i64 0] 23)
  have HZ : Hid (RatAt (((w.alloc (.cells #[.int .i64 P, .int .i64 Q] 23)).alloc (.cells #[.int .i64 P', .int .i64 Q'] 23)).alloc (.cells #[.int .i64 0, .int .i64 0] 23)) (w.heap.size + 2) 0 0) := rat_third w _ _ _ 0 0
  go_enter Try.func13, Try.ntmps13
  go_wp2_with fail
  refine (checkBoth_any _ _ _ _ _).mono ?_
  rintro e w1 ⟨rfl, hb⟩
  rw [HE.out]
  have g0 := (HX.out.keep hb).p0
  have g1 := (HX.out.keep hb).p1
  have g2 := (HY.out.keep hb).p0
  have g3 := (HY.out.keep hb).p1
  have HZ1 := hid (HZ.out.keep hb)
  have HB1 := hid (below_step HB0.out (by simp) hb)
  clear hb HB0 HZ HX HY HE
  go_wp2_with fail
  refine (lowest_any (P * Q') (Q * P') w1 ⟨by omega, by omega⟩ ⟨by omega, by omega⟩ h0).mono ?_
  rintro e w2 ⟨rfl, hb⟩
  rw [HQ.out]
  clear g0 g1 g2 g3
  have hz := HZ1.out.keep hb
  have g0 := hz.p0
  have g1 := hz.p1
  have f0 := hz.f0
  have f1 := hz.f1
  have HB2 := hid (below_step HB1.out (Nat.le_refl _) hb)
  clear hz hb HB1 HZ1
  generalize outP r = n at *
  generalize outQ r = d at *
  generalize outE r = er at *
  go_wp2
  (try simp only [Exit.inBlock, Exit.then])
  refine bodyPost_ret (v := .tuple #[.agg #[.int .i64 n, .int .i64 d], .int .i64 er]) ?_ rfl ⟨rfl, HB2.out.trans (below_set2 (by omega))⟩
  rw [results_cell_tmp rfl]
  go_simp

set_option maxHeartbeats 800000 in
theorem rdiv_zero (x : Rat) (w : World) (hx : RFits x) :
    Calls Try.prog 13 #[.agg #[.int .i64 x.num, .int .i64 (x.den : Int)], .agg #[.int .i64 0, .int .i64 1]] w (RetR w 0 0 5) := by
  have HE : Hid (bothErr x.num (x.den : Int) 0 1 = 0) := bothErr_ok (y := 0) hx (by decide)
  generalize x.num = P at *
  generalize (x.den : Int) = Q at *
  have HB0 : Hid (Below w.heap.size w (((w.alloc (.cells #[.int .i64 P, .int .i64 Q] 23)).alloc (.cells #[.int .i64 0, .int .i64 1] 23)).alloc (.cells #[.int .i64 0, .int .i64 0] 23))) := three_alloc w _ _ _
  have HY : Hid (RatAt (((w.alloc (.cells #[.int .i64 P, .int .i64 Q] 23)).alloc (.cells #[.int .i64 0, .int .i64 1] 23)).alloc (.cells #[.int .i64 0, .int .i64 0] 23)) (w.heap.size + 1) 0 1) := (rat_second w (.cells #[.int .i64 P, .int .i64 Q] 23) 23 0 1).keep_alloc (.cells #[.int .i64 0, .int .i64 0] 23)
  have HZ : Hid (RatAt (((w.alloc (.cells #[.int .i64 P, .int .i64 Q] 23)).alloc (.cells #[.int .i64 0, .int .i64 1] 23)).alloc (.cells #[.int .i64 0, .int .i64 0] 23)) (w.heap.size + 2) 0 0) := rat_third w _ _ _ 0 0
  clear hx
  go_enter Try.func13, Try.ntmps13
  go_wp2_with fail
  refine (checkBoth_any _ _ _ _ _).mono ?_
  rintro e w1 ⟨rfl, hb⟩
  rw [HE.out]
  have g2 := (HY.out.keep hb).p0
  have hz := HZ.out.keep hb
  have g0 := hz.p0
  have g1 := hz.p1
  have f0 := hz.f0
  have f1 := hz.f1
  have HB1 := hid (below_step HB0.out (by simp) hb)
  clear hb HB0 HZ HY HE hz
  go_wp2
  (try simp only [Exit.inBlock, Exit.then])
  refine bodyPost_ret (v := .tuple #[.agg #[.int .i64 0, .int .i64 0], .int .i64 5]) ?_ rfl ⟨rfl, HB1.out.trans (below_set2 (by omega))⟩
  rw [results_cell_tmp rfl]
  go_simp

set_option maxHeartbeats 800000 in
theorem rless_bad (P Q P' Q' : Int) (w : World) (h : bothErr P Q P' Q' ≠ 0) :
    Calls Try.prog 14 #[.agg #[.int .i64 P, .int .i64 Q], .agg #[.int .i64 P', .int .i64 Q']] w (RetB w false (bothErr P Q P' Q')) := by
  have HB0 : Hid (Below w.heap.size w ((w.alloc (.cells #[.int .i64 P, .int .i64 Q] 23)).alloc (.cells #[.int .i64 P', .int .i64 Q'] 23))) := two_alloc w _ _
  have hne : (bothErr P Q P' Q' != 0) = true := by simpa using h
  clear h
  go_enter Try.func14, Try.ntmps14
  go_wp2_with fail
  refine (checkBoth_any _ _ _ _ _).mono ?_
  rintro e w1 ⟨rfl, hb⟩
  have HB1 := hid (below_step HB0.out (by simp) hb)
  clear hb HB0
  generalize bothErr P Q P' Q' = er at *
  go_wp2
  go_ret2
  exact ⟨rfl, HB1.out⟩

set_option maxHeartbeats 800000 in
theorem rless_ok (x y : Rat) (w : World) (hx : RFits x) (hy : RFits y) :
    Calls Try.prog 14 #[.agg #[.int .i64 x.num, .int .i64 (x.den : Int)], .agg #[.int .i64 y.num, .int .i64 (y.den : Int)]] w (RetB w (decide (x < y)) 0) := by
  have HE := hid (bothErr_ok hx hy)
  have HQ := hid (lt_eq x y)
  obtain ⟨x1, x2, x3⟩ := hx
  obtain ⟨y1, y2, y3⟩ := hy
  have x4 : (1 : Int) ≤ (x.den : Int) := by have := x.den_pos; omega
  have y4 : (1 : Int) ≤ (y.den : Int) := by have := y.den_pos; omega
  generalize decide (x < y) = r at *
  generalize x.num = P at *
  generalize (x.den : Int) = Q at *
  generalize y.num = P' at *
  generalize (y.den : Int) = Q' at *
  obtain ⟨m1, m1'⟩ : -1000000000000000000 ≤ P * Q' ∧ P * Q' ≤ 1000000000000000000 := mul_bd18 (by omega) (by omega) (by omega) (by omega)
  obtain ⟨m2, m2'⟩ : -1000000000000000000 ≤ P' * Q ∧ P' * Q ≤ 1000000000000000000 := mul_bd18 (by omega) (by omega) (by omega) (by omega)
  have HB0 : Hid (Below w.heap.size w ((w.alloc (.cells #[.int .i64 P, .int .i64 Q] 23)).alloc (.cells #[.int .i64 P', .int .i64 Q'] 23))) := two_alloc w _ _
  have HX : Hid (RatAt ((w.alloc (.cells #[.int .i64 P, .int .i64 Q] 23)).alloc (.cells #[.int .i64 P', .int .i64 Q'] 23)) w.heap.size P Q) := (RatAt.new w 23 P Q).keep_alloc (.cells #[.int .i64 P', .int .i64 Q'] 23)
  have HY : Hid (RatAt ((w.alloc (.cells #[.int .i64 P, .int .i64 Q] 23)).alloc (.cells #[.int .i64 P', .int .i64 Q'] 23)) (w.heap.size + 1) P' Q') := rat_second w (.cells #[.int .i64 P, .int .i64 Q] 23) 23 P' Q'
  go_enter Try.func14, Try.ntmps14
  go_wp2_with fail
  refine (checkBoth_any _ _ _ _ _).mono ?_
  rintro e w1 ⟨rfl, hb⟩
  rw [HE.out]
  have g0 := (HX.out.keep hb).p0
  have g1 := (HX.out.keep hb).p1
  have g2 := (HY.out.keep hb).p0
  have g3 := (HY.out.keep hb).p1
  have HB1 := hid (below_step HB0.out (by simp) hb)
  clear hb HB0 HX HY HE
  go_wp2
  go_ret2
  exact ⟨by rw [← HQ.out]; rfl, HB1.out⟩

theorem fits_make {p q : Int} (hp : -1000000000 ≤ p) (hp' : p ≤ 1000000000) (hq : -1000000000 ≤ q) (hq' : q ≤ 1000000000) (h0 : q ≠ 0) : RFits (Rat.divInt p q) := by
  have h1 := num_le p q h0
  have h2 := den_le p q h0
  unfold RFits
  omega

set_option maxHeartbeats 800000 in
theorem rmake_ok (p q : Int) (w : World) (hp : -1000000000 ≤ p) (hp' : p ≤ 1000000000) (hq : -1000000000 ≤ q) (hq' : q ≤ 1000000000) (h0 : q ≠ 0) :
    Calls Try.prog 10 #[.int .i64 p, .int .i64 q] w (RetR w (Rat.divInt p q).num ((Rat.divInt p q).den : Int) 0) := by
  obtain ⟨o1, o2, o3⟩ := out_fits (fits_make hp hp' hq hq' h0)
  have HL := lowest_any p q (w.alloc (.cells #[.int .i64 0, .int .i64 0] 23)) ⟨by omega, by omega⟩ ⟨by omega, by omega⟩ h0
  rw [o1, o2, o3] at HL
  have HL' := hid HL
  have hz : (q == 0) = false := by simpa using h0
  clear o1 o2 o3 HL
  generalize (Rat.divInt p q).num = n at *
  generalize ((Rat.divInt p q).den : Int) = d at *
  have HB0 : Hid (Below w.heap.size w (w.alloc (.cells #[.int .i64 0, .int .i64 0] 23))) := below_alloc w _
  have HZ : Hid (RatAt (w.alloc (.cells #[.int .i64 0, .int .i64 0] 23)) w.heap.size 0 0) := RatAt.new w _ 0 0
  go_enter Try.func10, Try.ntmps10
  go_wp2_with fail
  refine (rinR_yes _ _ hp hp').mono ?_
  rintro e w' ⟨rfl, rfl⟩
  go_wp2_with fail
  refine (rinR_yes _ _ hq hq').mono ?_
  rintro e w' ⟨rfl, rfl⟩
  go_wp2_with fail
  refine HL'.out.mono ?_
  rintro e w2 ⟨rfl, hb⟩
  have hz := HZ.out.keep hb
  have g0 := hz.p0
  have g1 := hz.p1
  have f0 := hz.f0
  have f1 := hz.f1
  have HB2 := hid (below_step HB0.out (by simp) hb)
  clear hz hb HB0 HZ
  go_wp2
  (try simp only [Exit.inBlock, Exit.then])
  refine bodyPost_ret (v := .tuple #[.agg #[.int .i64 n, .int .i64 d], .int .i64 0]) ?_ rfl ⟨rfl, HB2.out.trans (below_set2 (by omega))⟩
  rw [results_cell_tmp rfl]
  go_simp

set_option maxHeartbeats 800000 in
theorem rmake_p (p q : Int) (w : World) (h : p < -1000000000 ∨ 1000000000 < p) :
    Calls Try.prog 10 #[.int .i64 p, .int .i64 q] w (RetR w 0 0 1) := by
  have HB0 : Hid (Below w.heap.size w (w.alloc (.cells #[.int .i64 0, .int .i64 0] 23))) := below_alloc w _
  have HZ : Hid (RatAt (w.alloc (.cells #[.int .i64 0, .int .i64 0] 23)) w.heap.size 0 0) := RatAt.new w _ 0 0
  go_enter Try.func10, Try.ntmps10
  go_wp2_with fail
  refine (rinR_no _ _ h).mono ?_
  rintro e w' ⟨rfl, rfl⟩
  have g0 := HZ.out.p0
  have g1 := HZ.out.p1
  have f0 := HZ.out.f0
  have f1 := HZ.out.f1
  go_wp2
  (try simp only [Exit.inBlock, Exit.then])
  refine bodyPost_ret (v := .tuple #[.agg #[.int .i64 0, .int .i64 0], .int .i64 1]) ?_ rfl ⟨rfl, HB0.out⟩
  rw [results_cell_tmp rfl]
  go_simp

set_option maxHeartbeats 800000 in
theorem rmake_q (p q : Int) (w : World) (hp : -1000000000 ≤ p) (hp' : p ≤ 1000000000) (h : q < -1000000000 ∨ 1000000000 < q) :
    Calls Try.prog 10 #[.int .i64 p, .int .i64 q] w (RetR w 0 0 1) := by
  have HB0 : Hid (Below w.heap.size w (w.alloc (.cells #[.int .i64 0, .int .i64 0] 23))) := below_alloc w _
  have HZ : Hid (RatAt (w.alloc (.cells #[.int .i64 0, .int .i64 0] 23)) w.heap.size 0 0) := RatAt.new w _ 0 0
  go_enter Try.func10, Try.ntmps10
  go_wp2_with fail
  refine (rinR_yes _ _ hp hp').mono ?_
  rintro e w' ⟨rfl, rfl⟩
  go_wp2_with fail
  refine (rinR_no _ _ h).mono ?_
  rintro e w' ⟨rfl, rfl⟩
  have g0 := HZ.out.p0
  have g1 := HZ.out.p1
  have f0 := HZ.out.f0
  have f1 := HZ.out.f1
  go_wp2
  (try simp only [Exit.inBlock, Exit.then])
  refine bodyPost_ret (v := .tuple #[.agg #[.int .i64 0, .int .i64 0], .int .i64 1]) ?_ rfl ⟨rfl, HB0.out⟩
  rw [results_cell_tmp rfl]
  go_simp

set_option maxHeartbeats 800000 in
theorem rmake_zero (p q : Int) (w : World) (hp : -1000000000 ≤ p) (hp' : p ≤ 1000000000) (h : q = 0) :
    Calls Try.prog 10 #[.int .i64 p, .int .i64 q] w (RetR w 0 0 5) := by
  subst h
  have HB0 : Hid (Below w.heap.size w (w.alloc (.cells #[.int .i64 0, .int .i64 0] 23))) := below_alloc w _
  have HZ : Hid (RatAt (w.alloc (.cells #[.int .i64 0, .int .i64 0] 23)) w.heap.size 0 0) := RatAt.new w _ 0 0
  go_enter Try.func10, Try.ntmps10
  go_wp2_with fail
  refine (rinR_yes _ _ hp hp').mono ?_
  rintro e w' ⟨rfl, rfl⟩
  go_wp2_with fail
  refine (rinR_yes _ _ (by omega) (by omega)).mono ?_
  rintro e w' ⟨rfl, rfl⟩
  have g0 := HZ.out.p0
  have g1 := HZ.out.p1
  have f0 := HZ.out.f0
  have f1 := HZ.out.f1
  go_wp2
  (try simp only [Exit.inBlock, Exit.then])
  refine bodyPost_ret (v := .tuple #[.agg #[.int .i64 0, .int .i64 0], .int .i64 5]) ?_ rfl ⟨rfl, HB0.out⟩
  rw [results_cell_tmp rfl]
  go_simp

theorem rmake_arg (p q : Int) (w : World) (h : (p < -1000000000 ∨ 1000000000 < p) ∨ (q < -1000000000 ∨ 1000000000 < q)) :
    Calls Try.prog 10 #[.int .i64 p, .int .i64 q] w (RetR w 0 0 1) := by
  by_cases h1 : p < -1000000000 ∨ 1000000000 < p
  · exact rmake_p p q w h1
  · exact rmake_q p q w (by omega) (by omega) (h.resolve_left h1)
end Go.Proofs.Ytcnljljgdkjndaa

/-
  castkeep.ratios; the contracts again for ratios told by their two numbers.
-/
namespace Go.Proofs.Ytcnljljgdkjndaa
open Go.RowKit

theorem radd_of {P Q P' Q' : Int} (x y : Rat) (h1 : P = x.num) (h2 : Q = (x.den : Int)) (h3 : P' = y.num) (h4 : Q' = (y.den : Int)) (w : World) (hx : RFits x) (hy : RFits y) :
    Calls Try.prog 11 #[.agg #[.int .i64 P, .int .i64 Q], .agg #[.int .i64 P', .int .i64 Q']] w (RetR w (outP (x + y)) (outQ (x + y)) (outE (x + y))) := by
  subst h1 h2 h3 h4
  exact radd_ok x y w hx hy
theorem rmul_of {P Q P' Q' : Int} (x y : Rat) (h1 : P = x.num) (h2 : Q = (x.den : Int)) (h3 : P' = y.num) (h4 : Q' = (y.den : Int)) (w : World) (hx : RFits x) (hy : RFits y) :
    Calls Try.prog 12 #[.agg #[.int .i64 P, .int .i64 Q], .agg #[.int .i64 P', .int .i64 Q']] w (RetR w (outP (x * y)) (outQ (x * y)) (outE (x * y))) := by
  subst h1 h2 h3 h4
  exact rmul_ok x y w hx hy
theorem rless_of {P Q P' Q' : Int} (x y : Rat) (h1 : P = x.num) (h2 : Q = (x.den : Int)) (h3 : P' = y.num) (h4 : Q' = (y.den : Int)) (w : World) (hx : RFits x) (hy : RFits y) :
    Calls Try.prog 14 #[.agg #[.int .i64 P, .int .i64 Q], .agg #[.int .i64 P', .int .i64 Q']] w (RetB w (decide (x < y)) 0) := by
  subst h1 h2 h3 h4
  exact rless_ok x y w hx hy

/-- A ratio written out. -/
theorem out_lit {r : Rat} {P Q : Int} (h : RFits r) (h1 : r.num = P) (h2 : (r.den : Int) = Q) : outP r = P ∧ outQ r = Q ∧ outE r = 0 := by
  obtain ⟨a, b, c⟩ := out_fits h
  exact ⟨a.trans h1, b.trans h2, c⟩

set_option maxHeartbeats 800000 in
theorem ratios_any (w : World) : Calls Try.prog 21 #[] w fun e w' => e = .returned (.bool true) ∧ Below w.heap.size w w' := by
  obtain ⟨o1, o2, o3⟩ := out_lit (r := Rat.divInt 1 2 + Rat.divInt 1 3) (P := 5) (Q := 6) (by decide +kernel) (by decide +kernel) (by decide +kernel)
  have HL := radd_of (P := 1) (Q := 2) (P' := 1) (Q' := 3) (Rat.divInt 1 2) (Rat.divInt 1 3) (by decide +kernel) (by decide +kernel) (by decide +kernel) (by decide +kernel) w (by decide +kernel) (by decide +kernel)
  rw [o1, o2, o3] at HL
  have HL' := hid HL
  clear HL o1 o2 o3
  go_enter Try.func21, Try.ntmps21
  go_wp2_with fail
  refine HL'.out.mono ?_
  rintro e w1 ⟨rfl, hb⟩
  have HB1 := hid (hb.alloc (Nat.le_trans (Nat.le_refl _) hb.size) (.cells #[.int .i64 5, .int .i64 6] 23))
  clear hb HL'
  go_wp2
  go_ret
  exact ⟨rfl, HB1.out⟩
end Go.Proofs.Ytcnljljgdkjndaa

/-
  casttop.good, works.
-/
namespace Go.Proofs.Ytcnljljgdkjndaa
open Go.RowKit

set_option maxHeartbeats 400000 in
theorem topgood1_any (x : Int) (w : World) : Calls Try.prog 51 #[.int .i64 x] w fun e w' => e = .returned (.bool (x != 0)) ∧ w = w' := by
  go_enter Try.func51, Try.ntmps51
  go_wp2
  go_ret
  exact ⟨rfl, rfl⟩

def TopIdxGood (l : List Int) (w : World) (e : Ending) (w' : World) : Prop := ∃ r : Int, e = .returned (.int .i64 r) ∧ decide (0 ≤ r) = !(allOK l) ∧ w = w'

set_option maxHeartbeats 800000 in
theorem topIndexFunc_good (A : Option Addr) (n c : Nat) (l : List Int) (w : World) (h : Ints w A n l) (hn : n ≤ 1000000) :
    Calls Try.prog 65 #[.slice A n c, .func (.func 51) #[] #[]] w (TopIdxGood l w) := by
  go_enter Try.func65, Try.ntmps65
  go_wp2
  go_loopg [8] n (fun g s wr => ∃ k : Nat, k ≤ n ∧ n - k ≤ g ∧ s = .int .i64 k ∧ w = wr ∧ ∀ j, j < k → l.getD j 0 = 0)
  case atStart => exact ⟨0, Nat.zero_le _, by omega, rfl, rfl, fun j hj => absurd hj (Nat.not_lt_zero _)⟩
  case round =>
    obtain ⟨k, hk, hg, rfl, rfl, hall⟩ := hrel
    have HA := hid hall
    clear hall
    by_cases hlt : k < n
    · obtain ⟨b, o, rfl, hb, hc⟩ := h.row (by omega)
      have g1 := hc k hlt
      have HL := hid h.len
      clear hc h
      generalize hx : l.getD k 0 = x at g1
      have HX := hid hx
      clear hx
      by_cases hz : x = 0
      · subst hz
        go_wp2_with (go_at_call 51; refine (topgood1_any _ _).mono ?_; rintro e w' ⟨rfl, rfl⟩)
        go_roundg (n - (k + 1))
        case measure => omega
        case rel =>
          refine ⟨k + 1, by omega, by omega, by go_num, rfl, fun j hj => ?_⟩
          by_cases e : j = k
          · subst e
            exact HX.out
          · exact HA.out j (by omega)
      · have hz' : (x != 0) = true := by simpa using hz
        go_wp2_with (go_at_call 51; refine (topgood1_any _ _).mono ?_; rintro e w' ⟨rfl, rfl⟩)
        go_ret
        have HS : allOK l = false := by
          rw [Bool.eq_false_iff]
          intro e
          exact hz (HX.out.symm.trans (allOK_true.1 e k (by rw [HL.out]; exact hlt)))
        exact ⟨_, rfl, by rw [HS]; simp, rfl⟩
    · go_wp2
      go_ret
      have HS : allOK l = true := allOK_true.2 fun i hi => HA.out i (by rw [h.len] at hi; omega)
      exact ⟨_, rfl, by rw [HS]; rfl, rfl⟩

set_option maxHeartbeats 800000 in
theorem topContainsFunc_good (A : Option Addr) (n c : Nat) (l : List Int) (w : World) (h : Ints w A n l) (hn : n ≤ 1000000) :
    Calls Try.prog 43 #[.slice A n c, .func (.func 51) #[] #[]] w fun e w' => e = .returned (.bool (!(allOK l))) ∧ w = w' := by
  go_enter Try.func43, Try.ntmps43
  go_wp2_with fail
  refine (topIndexFunc_good A n c l _ h hn).mono ?_
  rintro e w' ⟨r, rfl, hr, rfl⟩
  go_wp2
  go_ret
  exact ⟨rfl, rfl⟩

set_option maxHeartbeats 800000 in
theorem topgood_any (A : Option Addr) (n c : Nat) (l : List Int) (w : World) (h : Ints w A n l) (hn : n ≤ 1000000) :
    Calls Try.prog 28 #[.slice A n c] w fun e w' => e = .returned (.bool (allOK l)) ∧ w = w' := by
  go_enter Try.func28, Try.ntmps28
  go_wp2_with fail
  refine (topContainsFunc_good A n c l _ h hn).mono ?_
  rintro e w' ⟨rfl, rfl⟩
  go_wp2
  go_ret
  exact ⟨by simp, rfl⟩

theorem topgood_bel (w : World) (cs : Array Value) (t n : Nat) (l : List Int) (h : cs = (l.map (Value.int .i64)).toArray) (hn : l.length = n) (hs : n ≤ 1000000) :
    Calls Try.prog 28 #[.slice (some ⟨w.heap.size, 0, none⟩) n n] (w.alloc (.cells cs t)) fun e w' => e = .returned (.bool (allOK l)) ∧ Below w.heap.size w w' :=
  (topgood_any _ n n l _ (ints_lit w cs t n l h hn) hs).mono fun _ _ ⟨he, hw⟩ => ⟨he, by rw [← hw]; exact below_alloc _ _⟩

set_option maxHeartbeats 800000 in
set_option maxRecDepth 100000 in
theorem works_any (w : World) : Calls Try.prog 25 #[] w fun e w' => e = .returned (.bool true) ∧ Below w.heap.size w w' := by
  obtain ⟨o1, o2, o3⟩ := out_lit (r := Rat.divInt 1 2 + Rat.divInt 1 3) (P := 5) (Q := 6) (by decide +kernel) (by decide +kernel) (by decide +kernel)
  have HL := fun W => radd_of (P := 1) (Q := 2) (P' := 1) (Q' := 3) (Rat.divInt 1 2) (Rat.divInt 1 3) (by decide +kernel) (by decide +kernel) (by decide +kernel) (by decide +kernel) W (by decide +kernel) (by decide +kernel)
  simp only [o1, o2, o3] at HL
  have HL' := hid HL
  clear HL o1 o2 o3
  go_enter Try.func25, Try.ntmps25
  go_wp2_with fail
  refine (order_ok _ 3 3 [1, 2, 0] _ (ints_lit w _ _ 3 [1, 2, 0] rfl rfl) (by decide +kernel)).mono ?_
  rintro e w1 ⟨rfl, hb⟩
  rw [show ordL (cycL [1, 2, 0] 3) = 3 by decide +kernel]
  have HB1 := hid (below_step (below_alloc w (.cells #[.int .i64 1, .int .i64 2, .int .i64 0] 3)) (Nat.le_refl _) hb)
  clear hb
  go_wp2_with fail
  refine (HL'.out _).mono ?_
  rintro e w2 ⟨rfl, hb⟩
  have HB2 := hid (below_step (below_step HB1.out (Nat.le_refl _) hb) (Nat.le_refl _) (below_alloc w2 (.cells #[.int .i64 5, .int .i64 6] 23)))
  clear hb HL' HB1
  go_wp2
  go_ret
  exact ⟨rfl, HB2.out⟩
end Go.Proofs.Ytcnljljgdkjndaa

/-
  Rows that rise: a number put in (P38), one more at the end of a row, the two tableaux of a list. Plain facts; no program, no memory.
-/
namespace Go.Proofs.Ytcnljljgdkjndaa

/-- A number put into one row: the row, and what is put out. -/
def rin (x : Int) : List Int → List Int × Option Int
  | [] => ([x], none)
  | y :: r => if y < x then (y :: (rin x r).1, (rin x r).2) else (x :: r, some y)

theorem rin_all {x : Int} : ∀ {row : List Int}, (∀ z ∈ row, z < x) → rin x row = (row ++ [x], none)
  | [], _ => rfl
  | y :: r, h => by
    rw [rin, if_pos (h y (by simp)), rin_all (row := r) (fun z hz => h z (by simp [hz]))]
    rfl
theorem rin_at {x y : Int} (hy : ¬ y < x) (l2 : List Int) : ∀ {l1 : List Int}, (∀ z ∈ l1, z < x) → rin x (l1 ++ y :: l2) = (l1 ++ x :: l2, some y)
  | [], _ => by rw [List.nil_append, rin, if_neg hy]; rfl
  | z :: l1, h => by
    rw [List.cons_append, rin, if_pos (h z (by simp)), rin_at hy l2 (l1 := l1) (fun u hu => h u (by simp [hu]))]
    rfl
/-- Either all are smaller, or there is a first one that is not. -/
theorem rin_cases (x : Int) : ∀ row : List Int, (∀ z ∈ row, z < x) ∨ ∃ l1 y l2, row = l1 ++ y :: l2 ∧ (∀ z ∈ l1, z < x) ∧ ¬ y < x
  | [] => .inl (by simp)
  | y :: r => by
    by_cases h : y < x
    · rcases rin_cases x r with h1 | ⟨l1, u, l2, rfl, h1, h2⟩
      · left
        intro z hz
        rcases List.mem_cons.1 hz with rfl | hz
        · exact h
        · exact h1 z hz
      · right
        refine ⟨y :: l1, u, l2, rfl, ?_, h2⟩
        intro z hz
        rcases List.mem_cons.1 hz with rfl | hz
        · exact h
        · exact h1 z hz
    · exact .inr ⟨[], y, r, rfl, by simp, h⟩

/-- A number put in: the rows, and which one has become longer. -/
def tin : List (List Int) → Int → List (List Int) × Nat
  | [], x => ([[x]], 0)
  | row :: T, x => match (rin x row).2 with
    | none => ((rin x row).1 :: T, 0)
    | some y => ((rin x row).1 :: (tin T y).1, (tin T y).2 + 1)

theorem tin_nil (x : Int) : tin [] x = ([[x]], 0) := rfl
theorem tin_all {x : Int} {row : List Int} (T : List (List Int)) (h : ∀ z ∈ row, z < x) : tin (row :: T) x = ((row ++ [x]) :: T, 0) := by
  rw [tin, rin_all h]
theorem tin_at {x y : Int} {l1 : List Int} (l2 : List Int) (T : List (List Int)) (h : ∀ z ∈ l1, z < x) (hy : ¬ y < x) : tin ((l1 ++ y :: l2) :: T) x = ((l1 ++ x :: l2) :: (tin T y).1, (tin T y).2 + 1) := by
  rw [tin, rin_at hy l2 h]

/-- One more at the end of row r. -/
def tadd : List (List Int) → Nat → Int → List (List Int)
  | [], _, M => [[M]]
  | row :: T, 0, M => (row ++ [M]) :: T
  | row :: T, r + 1, M => row :: tadd T r M

theorem tin_le : ∀ (T : List (List Int)) (x : Int), (tin T x).2 ≤ T.length
  | [], _ => Nat.le_refl _
  | row :: T, x => by
    rcases rin_cases x row with h | ⟨l1, y, l2, rfl, h1, h2⟩
    · rw [tin_all T h]; exact Nat.zero_le _
    · rw [tin_at l2 T h1 h2, List.length_cons]
      have := tin_le T y
      omega

/-- A greatest number goes to the end of the first row. -/
theorem tin_max : ∀ (T : List (List Int)) (M : Int), (∀ y ∈ T.flatten, y < M) → tin T M = (tadd T 0 M, 0)
  | [], _, _ => rfl
  | row :: T, M, h => by
    rw [tin_all T (fun z hz => h z (by simp [hz]))]
    rfl

/-- A greatest number stands at the end of row r, and x is put in. -/
theorem tin_add : ∀ (T : List (List Int)) (r : Nat) (M x : Int), (∀ y ∈ T.flatten, y < M) → x < M → r ≤ T.length →
    tin (tadd T r M) x = if (tin T x).2 = r then (tadd (tin T x).1 (r + 1) M, r + 1) else (tadd (tin T x).1 r M, (tin T x).2)
  | [], r, M, x, _, hx, hr => by
    have : r = 0 := by simpa using hr
    subst this
    rw [tin_nil, if_pos rfl]
    exact tin_at (l1 := []) [] [] (by simp) (by omega)
  | row :: T, r, M, x, h, hx, hr => by
    have hrow : ∀ z ∈ row, z < M := fun z hz => h z (by simp [hz])
    have hT : ∀ z ∈ T.flatten, z < M := fun z hz => h z (by
      rw [List.flatten_cons]
      exact List.mem_append_right _ hz)
    rcases rin_cases x row with h1 | ⟨l1, y, l2, rfl, h1, h2⟩
    · rw [tin_all T h1]
      cases r with
      | zero =>
        rw [if_pos rfl, tadd, tin_at [] T h1 (by omega), tin_max T M hT]
        rfl
      | succ r =>
        rw [if_neg (by simp), tadd, tin_all _ h1]
        rfl
    · rw [tin_at l2 T h1 h2]
      have hy : y < M := hrow y (by simp)
      cases r with
      | zero =>
        rw [if_neg (by simp), tadd, List.append_assoc, List.cons_append, tin_at _ T h1 h2]
        simp [tadd]
      | succ r =>
        rw [tadd, tin_at l2 _ h1 h2, tin_add T r M y hT hy (by simpa using hr)]
        by_cases e : (tin T y).2 = r
        · simp [e, tadd]
        · simp [e, tadd]

/-! ### What lies in the rows -/
theorem tin_flat : ∀ (T : List (List Int)) (x : Int), (tin T x).1.flatten.Perm (x :: T.flatten)
  | [], x => by simp [tin]
  | row :: T, x => by
    rcases rin_cases x row with h1 | ⟨l1, y, l2, rfl, h1, h2⟩
    · rw [tin_all T h1, List.flatten_cons, List.flatten_cons, List.append_assoc]
      exact List.perm_middle
    · rw [tin_at l2 T h1 h2, List.flatten_cons, List.flatten_cons, List.append_assoc, List.append_assoc, List.cons_append, List.cons_append]
      have ih := tin_flat T y
      refine List.perm_middle.trans (List.Perm.cons x ?_)
      refine List.Perm.append_left l1 ?_
      exact (List.Perm.append_left l2 ih).trans List.perm_middle
theorem tadd_flat : ∀ (T : List (List Int)) (r : Nat) (M : Int), (tadd T r M).flatten.Perm (M :: T.flatten)
  | [], r, M => by cases r <;> simp [tadd]
  | row :: T, 0, M => by
    rw [tadd, List.flatten_cons, List.flatten_cons, List.append_assoc]
    exact List.perm_middle
  | row :: T, r + 1, M => by
    rw [tadd, List.flatten_cons, List.flatten_cons]
    exact (List.Perm.append_left row (tadd_flat T r M)).trans List.perm_middle

theorem tadd_length : ∀ (T : List (List Int)) (r : Nat) (M : Int), r ≤ T.length → (tadd T r M).length = max T.length (r + 1)
  | [], r, M, h => by
    have : r = 0 := by simpa using h
    subst this
    rfl
  | row :: T, 0, M, _ => by simp [tadd]
  | row :: T, r + 1, M, h => by
    rw [tadd, List.length_cons, tadd_length T r M (by simpa using h), List.length_cons]
    omega
theorem tin_length : ∀ (T : List (List Int)) (x : Int), (tin T x).1.length = max T.length ((tin T x).2 + 1)
  | [], x => rfl
  | row :: T, x => by
    rcases rin_cases x row with h1 | ⟨l1, y, l2, rfl, h1, h2⟩
    · rw [tin_all T h1]; simp
    · rw [tin_at l2 T h1 h2]
      have := tin_length T y
      simp only [List.length_cons, this]
      omega

/-- How long row i is. -/
def tlen (T : List (List Int)) (i : Nat) : Nat := (T.getD i []).length
theorem tlen_nil (i : Nat) : tlen [] i = 0 := by simp [tlen]
theorem tlen_cons (row : List Int) (T : List (List Int)) (i : Nat) : tlen (row :: T) i = if i = 0 then row.length else tlen T (i - 1) := by
  cases i with
  | zero => rfl
  | succ i => simp [tlen]
theorem tlen_tadd : ∀ (T : List (List Int)) (r : Nat) (M : Int) (i : Nat), r ≤ T.length → tlen (tadd T r M) i = tlen T i + (if i = r then 1 else 0)
  | [], r, M, i, h => by
    have : r = 0 := by simpa using h
    subst this
    rw [tadd, tlen_cons, tlen_nil, tlen_nil]
    simp
  | row :: T, 0, M, i, _ => by
    rw [tadd, tlen_cons, tlen_cons]
    by_cases e : i = 0
    · simp [e]
    · simp [e]
  | row :: T, r + 1, M, i, h => by
    rw [tadd, tlen_cons, tlen_cons]
    by_cases e : i = 0
    · simp [e]
    · rw [if_neg e, if_neg e, tlen_tadd T r M (i - 1) (by simpa using h)]
      congr 1
      by_cases e2 : i - 1 = r
      · rw [if_pos e2, if_pos (by omega)]
      · rw [if_neg e2, if_neg (by omega)]
theorem tlen_tin : ∀ (T : List (List Int)) (x : Int) (i : Nat), tlen (tin T x).1 i = tlen T i + (if i = (tin T x).2 then 1 else 0)
  | [], x, i => by
    rw [tin_nil, tlen_cons, tlen_nil, tlen_nil]
    simp
  | row :: T, x, i => by
    rcases rin_cases x row with h1 | ⟨l1, y, l2, rfl, h1, h2⟩
    · rw [tin_all T h1, tlen_cons, tlen_cons]
      by_cases e : i = 0
      · simp [e]
      · simp [e]
    · rw [tin_at l2 T h1 h2, tlen_cons, tlen_cons]
      by_cases e : i = 0
      · simp [e]
      · rw [if_neg e, if_neg e, tlen_tin T y (i - 1)]
        congr 1
        by_cases e2 : i - 1 = (tin T y).2
        · rw [if_pos e2, if_pos (by simp only; omega)]
        · rw [if_neg e2, if_neg (by simp only; omega)]

/-! ### The two tableaux of a list -/
def rsR : List Int → List (List Int) × List (List Int)
  | [] => ([], [])
  | x :: w => ((tin (rsR w).1 x).1, tadd (rsR w).2 (tin (rsR w).1 x).2 (w.length : Int))
def PT (w : List Int) : List (List Int) := (rsR w.reverse).1
def QT (w : List Int) : List (List Int) := (rsR w.reverse).2
theorem PT_nil : PT [] = [] := rfl
theorem QT_nil : QT [] = [] := rfl
theorem PT_snoc (w : List Int) (x : Int) : PT (w ++ [x]) = (tin (PT w) x).1 := by simp [PT, rsR]
theorem QT_snoc (w : List Int) (x : Int) : QT (w ++ [x]) = tadd (QT w) (tin (PT w) x).2 (w.length : Int) := by simp [PT, QT, rsR]

theorem snoc_ind {p : List Int → Prop} (h0 : p []) (h1 : ∀ w x, p w → p (w ++ [x])) (w : List Int) : p w := by
  rw [← List.reverse_reverse w]
  induction w.reverse with
  | nil => exact h0
  | cons x l ih => rw [List.reverse_cons]; exact h1 _ _ ih

theorem PT_flat (w : List Int) : (PT w).flatten.Perm w := by
  induction w using snoc_ind with
  | h0 => exact List.Perm.refl _
  | h1 w x ih =>
    rw [PT_snoc]
    refine (tin_flat _ _).trans ((List.Perm.cons x ih).trans ?_)
    exact (List.perm_append_singleton x w).symm
theorem PT_mem {w : List Int} {y : Int} (h : y ∈ (PT w).flatten) : y ∈ w := (PT_flat w).mem_iff.1 h
theorem QT_mem (w : List Int) : ∀ y ∈ (QT w).flatten, 0 ≤ y ∧ y < (w.length : Int) := by
  induction w using snoc_ind with
  | h0 => intro y hy; simp [QT_nil] at hy
  | h1 w x ih =>
    intro y hy
    rw [QT_snoc] at hy
    rw [List.length_append, List.length_singleton]
    rcases List.mem_cons.1 ((tadd_flat _ _ _).mem_iff.1 hy) with rfl | hy
    · omega
    · have := ih y hy
      omega
theorem PQ_length (w : List Int) : (PT w).length = (QT w).length := by
  induction w using snoc_ind with
  | h0 => rfl
  | h1 w x ih => rw [PT_snoc, QT_snoc, tin_length, tadd_length _ _ _ (by rw [← ih]; exact tin_le _ _), ih]
theorem PQ_tlen (w : List Int) (i : Nat) : tlen (PT w) i = tlen (QT w) i := by
  induction w using snoc_ind with
  | h0 => rfl
  | h1 w x ih => rw [PT_snoc, QT_snoc, tlen_tin, tlen_tadd _ _ _ _ (by rw [← PQ_length]; exact tin_le _ _), ih]

/-! ### A greatest number in the midst -/
/-- Numbers from k on, one more. -/
def tsh (k : Int) (v : Int) : Int := if k ≤ v then v + 1 else v
def tmap (f : Int → Int) (T : List (List Int)) : List (List Int) := T.map (fun r => r.map f)
theorem tmap_tadd (f : Int → Int) : ∀ (T : List (List Int)) (r : Nat) (M : Int), tmap f (tadd T r M) = tadd (tmap f T) r (f M)
  | [], r, M => by cases r <;> rfl
  | row :: T, 0, M => by simp [tadd, tmap]
  | row :: T, r + 1, M => by
    have := tmap_tadd f T r M
    simp only [tmap] at this
    simp [tadd, tmap, this]
theorem tmap_tin (f : Int → Int) (hf : ∀ a b, f a < f b ↔ a < b) : ∀ (T : List (List Int)) (x : Int), tin (tmap f T) (f x) = (tmap f (tin T x).1, (tin T x).2)
  | [], x => rfl
  | row :: T, x => by
    rcases rin_cases x row with h1 | ⟨l1, y, l2, rfl, h1, h2⟩
    · rw [tin_all T h1]
      have : tmap f (row :: T) = row.map f :: tmap f T := rfl
      rw [this, tin_all]
      · simp [tmap]
      · intro z hz
        obtain ⟨z, hz', rfl⟩ := List.mem_map.1 hz
        exact (hf _ _).2 (h1 z hz')
    · rw [tin_at l2 T h1 h2]
      have : tmap f ((l1 ++ y :: l2) :: T) = (l1.map f ++ f y :: l2.map f) :: tmap f T := by simp [tmap]
      rw [this, tin_at, tmap_tin f hf T y]
      · simp [tmap]
      · intro z hz
        obtain ⟨z, hz', rfl⟩ := List.mem_map.1 hz
        exact (hf _ _).2 (h1 z hz')
      · exact fun h => h2 ((hf _ _).1 h)
theorem PT_map (f : Int → Int) (hf : ∀ a b, f a < f b ↔ a < b) (w : List Int) : PT (w.map f) = tmap f (PT w) ∧ QT (w.map f) = QT w := by
  induction w using snoc_ind with
  | h0 => exact ⟨rfl, rfl⟩
  | h1 w x ih =>
    have e : (w ++ [x]).map f = w.map f ++ [f x] := by simp
    rw [e, PT_snoc, QT_snoc, PT_snoc, QT_snoc, ih.1, ih.2, tmap_tin f hf, List.length_map]
    exact ⟨rfl, rfl⟩
theorem tsh_lt (k a b : Int) : tsh k a < tsh k b ↔ a < b := by
  unfold tsh
  split <;> split <;> omega
theorem tmap_same {f : Int → Int} : ∀ (T : List (List Int)), (∀ y ∈ T.flatten, f y = y) → tmap f T = T
  | [], _ => rfl
  | row :: T, h => by
    have h1 : row.map f = row := by
      refine (List.map_congr_left (g := id) fun z hz => ?_).trans (List.map_id _)
      exact h z (by simp [hz])
    have h2 := tmap_same (f := f) T (fun z hz => h z (by
      rw [List.flatten_cons]
      exact List.mem_append_right _ hz))
    show row.map f :: tmap f T = row :: T
    rw [h1, h2]
theorem mem_tmap {f : Int → Int} {T : List (List Int)} {y : Int} (h : y ∈ (tmap f T).flatten) : ∃ z ∈ T.flatten, y = f z := by
  obtain ⟨l, hl, hy⟩ := List.mem_flatten.1 h
  obtain ⟨r, hr, rfl⟩ := List.mem_map.1 hl
  obtain ⟨z, hz, rfl⟩ := List.mem_map.1 hy
  exact ⟨z, List.mem_flatten.2 ⟨r, hr, hz⟩, rfl⟩
theorem length_tmap (f : Int → Int) (T : List (List Int)) : (tmap f T).length = T.length := by simp [tmap]

/-- SCHUETZENBERGER's step: a greatest number M at place k of the list. -/
theorem mid_max (u : List Int) (M : Int) (v : List Int) : (∀ y ∈ u ++ v, y < M) →
    ∃ r, r ≤ (PT (u ++ v)).length ∧ PT (u ++ M :: v) = tadd (PT (u ++ v)) r M ∧ tin (tmap (tsh (u.length : Int)) (QT (u ++ v))) (u.length : Int) = (QT (u ++ M :: v), r) := by
  induction v using snoc_ind with
  | h0 =>
    intro h
    rw [List.append_nil] at h ⊢
    refine ⟨0, Nat.zero_le _, ?_, ?_⟩
    · rw [PT_snoc, tin_max]
      exact fun y hy => h y (PT_mem hy)
    · rw [tmap_same, tin_max, QT_snoc, tin_max]
      · exact fun y hy => h y (PT_mem hy)
      · exact fun y hy => (QT_mem u y hy).2
      · intro y hy
        have := QT_mem u y hy
        unfold tsh
        rw [if_neg (by omega)]
  | h1 v x ih =>
    intro h
    obtain ⟨r, hr, hP, hQ⟩ := ih (fun y hy => h y (by
      rw [← List.append_assoc]
      exact List.mem_append_left _ hy))
    have hx : x < M := h x (by simp)
    have hPm : ∀ y ∈ (PT (u ++ v)).flatten, y < M := fun y hy => h y (by
      rw [← List.append_assoc]
      exact List.mem_append_left _ (PT_mem hy))
    have e1 : u ++ M :: (v ++ [x]) = (u ++ M :: v) ++ [x] := by simp
    have e2 : u ++ (v ++ [x]) = (u ++ v) ++ [x] := by simp
    have hl1 : ((u ++ M :: v).length : Int) = ((u ++ v).length : Int) + 1 := by simp; omega
    have hle : (u.length : Int) ≤ ((u ++ v).length : Int) := by simp; omega
    have hshl : tsh (u.length : Int) ((u ++ v).length : Int) = ((u ++ v).length : Int) + 1 := by
      unfold tsh
      rw [if_pos hle]
    have hQm : ∀ y ∈ (tmap (tsh (u.length : Int)) (QT (u ++ v))).flatten, y < ((u ++ v).length : Int) + 1 := by
      intro y hy
      obtain ⟨z, hz, rfl⟩ := mem_tmap hy
      have := QT_mem _ z hz
      unfold tsh
      split <;> omega
    have ha : (tin (PT (u ++ v)) x).2 ≤ (tmap (tsh (u.length : Int)) (QT (u ++ v))).length := by
      rw [length_tmap, ← PQ_length]
      exact tin_le _ _
    have A := tin_add (PT (u ++ v)) r M x hPm hx hr
    have B := tin_add (tmap (tsh (u.length : Int)) (QT (u ++ v))) (tin (PT (u ++ v)) x).2 (((u ++ v).length : Int) + 1) (u.length : Int) hQm (by omega) ha
    rw [hQ] at B
    rw [e1, e2, PT_snoc, PT_snoc, QT_snoc, QT_snoc, tmap_tadd, hshl, B, hP, A, hl1]
    have hin := tin_length (PT (u ++ v)) x
    have hil := tin_le (PT (u ++ v)) x
    by_cases e : (tin (PT (u ++ v)) x).2 = r
    · rw [if_pos e, if_pos e.symm]
      refine ⟨r + 1, by omega, rfl, ?_⟩
      simp [e]
    · rw [if_neg e, if_neg (fun h => e h.symm)]
      exact ⟨r, by omega, rfl, rfl⟩

/-! ### The inverse -/
def tinv (p : List Int) : List Int := (List.range p.length).map (fun i : Nat => ((p.idxOf (i : Int) : Nat) : Int))

theorem tinv_mid (u v : List Int) (n : Nat) (hn : (u ++ v).length = n) (hu : ∀ y ∈ u ++ v, y ≠ (n : Int)) :
    tinv (u ++ (n : Int) :: v) = (tinv (u ++ v)).map (tsh (u.length : Int)) ++ [(u.length : Int)] := by
  have hl : (u ++ (n : Int) :: v).length = n + 1 := by simp at hn ⊢; omega
  unfold tinv
  rw [hl, List.range_succ, List.map_append, hn, List.map_map]
  congr 1
  · refine List.map_congr_left fun i hi => ?_
    have hi' : i < n := by simpa using hi
    simp only [Function.comp_apply]
    rw [List.idxOf_append, List.idxOf_append]
    by_cases h : (i : Int) ∈ u
    · rw [if_pos h, if_pos h]
      have := List.idxOf_lt_length_of_mem h
      unfold tsh
      rw [if_neg (by omega)]
    · rw [if_neg h, if_neg h]
      unfold tsh
      have hne : ((n : Int) == (i : Int)) = false := by simp; omega
      rw [List.idxOf_cons, hne]
      simp only [cond_false]
      rw [if_pos (by omega)]
      omega
  · have h : ¬ (n : Int) ∈ u := fun h => hu _ (List.mem_append_left _ h) rfl
    simp [List.idxOf_append, h]

/-- SCHUETZENBERGER. -/
theorem turned_tab : ∀ (n : Nat) (p : List Int), p.length = n → p.Nodup → (∀ i : Nat, i < n → (i : Int) ∈ p) → (∀ y ∈ p, 0 ≤ y ∧ y < (n : Int)) → PT (tinv p) = QT p ∧ QT (tinv p) = PT p
  | 0, p, hl, _, _, _ => by
    have : p = [] := List.eq_nil_of_length_eq_zero hl
    subst this
    exact ⟨rfl, rfl⟩
  | n + 1, p, hl, hd, hm, hb => by
    obtain ⟨u, v, rfl⟩ := List.append_of_mem (hm n (by omega))
    have hd' := (List.perm_middle (a := (n : Int)) (l₁ := u) (l₂ := v)).nodup_iff.1 hd
    rw [List.nodup_cons] at hd'
    have hl' : (u ++ v).length = n := by simp at hl ⊢; omega
    have hb' : ∀ y ∈ u ++ v, 0 ≤ y ∧ y < (n : Int) := by
      intro y hy
      have h1 := hb y (by
        rcases List.mem_append.1 hy with h | h
        · exact List.mem_append_left _ h
        · exact List.mem_append_right _ (List.mem_cons_of_mem _ h))
      have h2 : y ≠ (n : Int) := fun e => hd'.1 (e ▸ hy)
      omega
    have hm' : ∀ i : Nat, i < n → (i : Int) ∈ u ++ v := by
      intro i hi
      rcases List.mem_append.1 (hm i (by omega)) with h | h
      · exact List.mem_append_left _ h
      · rcases List.mem_cons.1 h with h | h
        · omega
        · exact List.mem_append_right _ h
    obtain ⟨ih1, ih2⟩ := turned_tab n (u ++ v) hl' hd'.2 hm' hb'
    rw [tinv_mid u v n hl' (fun y hy => by have := hb' y hy; omega), PT_snoc, QT_snoc, (PT_map _ (tsh_lt _) _).1, (PT_map _ (tsh_lt _) _).2, ih1, ih2]
    obtain ⟨r, hr, hP, hQ⟩ := mid_max u (n : Int) v (fun y hy => (hb' y hy).2)
    rw [hQ, hP]
    refine ⟨rfl, ?_⟩
    congr 1
    simp [tinv] at hl' ⊢
    omega

end Go.Proofs.Ytcnljljgdkjndaa

/-
  perm.Inverse: the inverse, or the error.
-/
namespace Go.Proofs.Ytcnljljgdkjndaa
open Go.RowKit

/-- q undoes p. -/
def IsInv (p q : List Int) : Prop := q.length = p.length ∧ ∀ i, i < p.length → q.getD (p.getD i 0).toNat 0 = (i : Int)

/-- f, but for one place. -/
def upd (f : Nat → Int) (m : Nat) (x : Int) (j : Nat) : Int := if j = m then x else f j
theorem upd_same (f : Nat → Int) (m : Nat) (x : Int) : upd f m x m = x := if_pos rfl
theorem upd_other (f : Nat → Int) {m j : Nat} (x : Int) (h : j ≠ m) : upd f m x j = f j := if_neg h

def RetInv (w : World) (p : List Int) (e : Ending) (w' : World) : Prop := ∃ q, IsInv p q ∧ RetInts w q 0 e w'

end Go.Proofs.Ytcnljljgdkjndaa

/-
  Plain facts on composing and undoing permutations given as lists.
-/
namespace Go.Proofs.Ytcnljljgdkjndaa

theorem IsPerm.nat {p : List Int} (h : IsPerm p) {i : Nat} (hi : i < p.length) : ∃ j : Nat, j < p.length ∧ p.getD i 0 = (j : Int) := by
  have := h.range (getD_mem hi)
  exact ⟨(p.getD i 0).toNat, by omega, by omega⟩
theorem IsPerm.pre {p : List Int} (h : IsPerm p) {j : Nat} (hj : j < p.length) : ∃ i : Nat, i < p.length ∧ p.getD i 0 = (j : Int) := mem_getD (h.all j hj)

theorem isPerm_times {a b : List Int} (ha : IsPerm a) (hb : IsPerm b) (hl : a.length = b.length) : IsPerm (times a b) :=
  isPerm_of_all fun k hk => by
    rw [length_times] at hk
    obtain ⟨i, hi, ei⟩ := ha.pre (show k < a.length by omega)
    obtain ⟨j, hj, ej⟩ := hb.pre (show i < b.length by omega)
    have : (times a b).getD j 0 = (k : Int) := by rw [getD_times hj, ej, Int.toNat_natCast, ei]
    rw [← this]
    exact getD_mem (by rw [length_times]; exact hj)

theorem times_assoc {a b c : List Int} (hc : IsPerm c) (hl : b.length = c.length) : times (times a b) c = times a (times b c) := by
  apply ext_getD (by simp [length_times])
  intro j hj
  rw [length_times] at hj
  obtain ⟨i, hi, ei⟩ := hc.nat hj
  have h1 : (times a (times b c)).getD j 0 = a.getD ((times b c).getD j 0).toNat 0 := getD_times (by rw [length_times]; exact hj)
  rw [h1, getD_times (a := times a b) hj, getD_times (a := b) hj, ei, Int.toNat_natCast, getD_times (by omega)]

theorem IsInv.isPerm {p q : List Int} (h : IsInv p q) (hp : IsPerm p) : IsPerm q :=
  isPerm_of_all fun k hk => by
    rw [h.1] at hk
    obtain ⟨j, hj, ej⟩ := hp.nat hk
    have := h.2 k hk
    rw [ej, Int.toNat_natCast] at this
    rw [← this]
    exact getD_mem (by rw [h.1]; exact hj)

theorem IsInv.right {p q : List Int} (h : IsInv p q) (hp : IsPerm p) : times p q = iota p.length := by
  apply ext_getD (by rw [length_times, length_iota, h.1])
  intro j hj
  rw [length_times, h.1] at hj
  obtain ⟨i, hi, ei⟩ := hp.pre hj
  have := h.2 i hi
  rw [ei, Int.toNat_natCast] at this
  rw [getD_times (by rw [h.1]; exact hj), this, Int.toNat_natCast, ei, getD_iota hj]
theorem IsInv.left {p q : List Int} (h : IsInv p q) : times q p = iota p.length := by
  apply ext_getD (by rw [length_times, length_iota])
  intro j hj
  rw [length_times] at hj
  rw [getD_times hj, h.2 j hj, getD_iota hj]
theorem IsInv.unique {p q r : List Int} (h : IsInv p q) (k : IsInv p r) (hp : IsPerm p) : q = r := by
  apply ext_getD (by rw [h.1, k.1])
  intro j hj
  rw [h.1] at hj
  obtain ⟨i, hi, ei⟩ := hp.pre hj
  have h1 := h.2 i hi
  have h2 := k.2 i hi
  rw [ei, Int.toNat_natCast] at h1 h2
  rw [h1, h2]
theorem IsInv.times {a b va vb : List Int} (ha : IsInv a va) (hb : IsInv b vb) (hpb : IsPerm b) (hpa : IsPerm a) (hl : a.length = b.length) : IsInv (times a b) (times vb va) := by
  refine ⟨by rw [length_times, length_times, ha.1, hl], fun i hi => ?_⟩
  rw [length_times] at hi
  obtain ⟨j, hj, ej⟩ := hpb.nat hi
  obtain ⟨k, hk, ek⟩ := hpa.nat (show j < a.length by omega)
  have h1 := ha.2 j (by omega)
  have h2 := hb.2 i hi
  rw [ek, Int.toNat_natCast] at h1
  rw [ej, Int.toNat_natCast] at h2
  rw [getD_times hi, ej, Int.toNat_natCast, ek, Int.toNat_natCast, getD_times (by rw [ha.1]; exact hk), h1, Int.toNat_natCast, h2]

theorem sorted_iota (n : Nat) : sortedB (iota n) = true := sortedB_true.2 fun i hi => by
  rw [length_iota] at hi
  rw [getD_iota (by omega), getD_iota hi]
  omega

end Go.Proofs.Ytcnljljgdkjndaa

/-
  n! and castref.Factorial.
-/
namespace Go.Proofs.Ytcnljljgdkjndaa
open Go.RowKit

def fact : Nat → Nat
  | 0 => 1
  | n + 1 => (n + 1) * fact n

theorem fact_pos : ∀ n, 0 < fact n
  | 0 => by decide
  | n + 1 => Nat.mul_pos (by omega) (fact_pos n)
theorem fact_mono {a b : Nat} (h : a ≤ b) : fact a ≤ fact b := by
  induction h with
  | refl => exact Nat.le_refl _
  | step _ ih => exact Nat.le_trans ih (Nat.le_mul_of_pos_left _ (by omega))
theorem fact_ten {n : Nat} (h : n ≤ 10) : fact n ≤ 3628800 := Nat.le_trans (fact_mono h) (by decide)

end Go.Proofs.Ytcnljljgdkjndaa

/-
  cmp.Compare, slices.Compare at ints.
-/
namespace Go.Proofs.Ytcnljljgdkjndaa
open Go.RowKit

def cmpI (a b : Int) : Int := if a < b then -1 else if b < a then 1 else 0
theorem cmpI_bd (a b : Int) : -1 ≤ cmpI a b ∧ cmpI a b ≤ 1 := by unfold cmpI; split <;> (try split) <;> omega
theorem cmpI_neg {a b : Int} : decide (cmpI a b < 0) = decide (a < b) := by
  unfold cmpI
  by_cases h : a < b
  · simp [h]
  · by_cases h2 : b < a <;> simp [h, h2]

def cmpL : List Int → List Int → Int
  | [], [] => 0
  | [], _ :: _ => -1
  | _ :: _, [] => 1
  | x :: l, y :: m => if x < y then -1 else if y < x then 1 else cmpL l m

theorem cmpL_step {xs ys : List Int} {k : Nat} (h1 : k < xs.length) (h2 : k < ys.length) : cmpL (xs.drop k) (ys.drop k) = if cmpI (xs.getD k 0) (ys.getD k 0) = 0 then cmpL (xs.drop (k + 1)) (ys.drop (k + 1)) else cmpI (xs.getD k 0) (ys.getD k 0) := by
  have e1 : xs.getD k 0 = xs[k] := by rw [List.getD_eq_getElem?_getD, List.getElem?_eq_getElem h1]; rfl
  have e2 : ys.getD k 0 = ys[k] := by rw [List.getD_eq_getElem?_getD, List.getElem?_eq_getElem h2]; rfl
  rw [List.drop_eq_getElem_cons h1, List.drop_eq_getElem_cons h2, e1, e2]
  simp only [cmpL, cmpI]
  split
  · rfl
  · split <;> rfl

end Go.Proofs.Ytcnljljgdkjndaa

/-
  Orders and their numbers: plain mathematics. Nothing of the program is proved here.
-/
namespace Go.Proofs.Ytcnljljgdkjndaa
open Go.RowKit

/-- How many of l are less than x. -/
def less (x : Int) (l : List Int) : Nat := l.countP (fun y => decide (y < x))
/-- Lehmer's code. -/
def codeL : List Int → List Int
  | [] => []
  | x :: l => (less x l : Int) :: codeL l
/-- The number of an order. -/
def rk : List Int → Nat
  | [] => 0
  | x :: l => less x l * fact l.length + rk l

theorem less_le (x : Int) (l : List Int) : less x l ≤ l.length := List.countP_le_length
theorem less_cons (x y : Int) (l : List Int) : less x (y :: l) = less x l + if y < x then 1 else 0 := by
  unfold less
  rw [List.countP_cons]
  by_cases h : y < x <;> simp [h]
theorem less_self (x : Int) (l : List Int) : less x (x :: l) = less x l := by rw [less_cons, if_neg (by omega)]; rfl
theorem less_append (x : Int) (l m : List Int) : less x (l ++ m) = less x l + less x m := List.countP_append
theorem less_perm {x : Int} {l l' : List Int} (h : l.Perm l') : less x l = less x l' := h.countP_eq _
theorem less_all {x : Int} {l : List Int} (h : ∀ y, y ∈ l → y < x) : less x l = l.length := by
  unfold less
  rw [List.countP_eq_length]
  intro y hy
  simpa using h y hy
theorem less_none {x : Int} {l : List Int} (h : ∀ y, y ∈ l → x ≤ y) : less x l = 0 := by
  unfold less
  rw [List.countP_eq_zero]
  intro y hy
  have := h y hy
  simp
  omega
theorem less_mono {x y : Int} (h : x ≤ y) (l : List Int) : less x l ≤ less y l := by
  refine List.countP_mono_left fun z _ hz => ?_
  have : z < x := by simpa using hz
  simp
  omega
theorem less_lt {x y : Int} (h : x < y) : ∀ {l : List Int}, x ∈ l → less x l < less y l
  | z :: l, hz => by
    rw [less_cons, less_cons]
    rcases List.mem_cons.1 hz with rfl | hz
    · rw [if_neg (by omega), if_pos h]
      have := less_mono (Int.le_of_lt h) l
      omega
    · have ih := less_lt h hz
      by_cases h1 : z < x
      · rw [if_pos h1, if_pos (by omega)]
        omega
      · rw [if_neg h1]
        split <;> omega

theorem length_codeL : ∀ l : List Int, (codeL l).length = l.length
  | [] => rfl
  | _ :: l => by simp [codeL, length_codeL l]
theorem getD_codeL : ∀ (l : List Int) (i : Nat), i < l.length → (codeL l).getD i 0 = (less (l.getD i 0) (l.drop (i + 1)) : Int)
  | [], _, h => absurd h (Nat.not_lt_zero _)
  | _ :: _, 0, _ => by simp [codeL]
  | _ :: l, i + 1, h => by
    have := getD_codeL l i (by simpa using h)
    simpa [codeL] using this

theorem rk_lt : ∀ l : List Int, rk l < fact l.length
  | [] => by decide
  | x :: l => by
    have ih := rk_lt l
    have h := Nat.mul_le_mul_right (fact l.length) (less_le x l)
    show less x l * fact l.length + rk l < (l.length + 1) * fact l.length
    rw [Nat.succ_mul]
    omega

/-! ### Digits -/

def val : List Int → Nat
  | [] => 0
  | d :: l => d.toNat * fact l.length + val l
theorem val_codeL : ∀ l : List Int, val (codeL l) = rk l
  | [] => rfl
  | x :: l => by simp only [codeL, val, rk, length_codeL, val_codeL l, Int.toNat_natCast]

/-- What the loop over the digits gathers. -/
theorem val_fold : ∀ (l : List Int) (acc : Nat), (∀ d, d ∈ l → 0 ≤ d) → (l.foldl (fun (a : Nat × Nat) d => (a.1 * a.2 + d.toNat, a.2 - 1)) (acc, l.length)).1 = acc * fact l.length + val l
  | [], acc, _ => by simp [fact, val]
  | d :: l, acc, h => by
    have ih := val_fold l (acc * (l.length + 1) + d.toNat) (fun x hx => h x (List.mem_cons_of_mem _ hx))
    rw [List.foldl_cons]
    show (l.foldl _ (acc * (l.length + 1) + d.toNat, l.length + 1 - 1)).1 = _
    rw [Nat.add_sub_cancel, ih]
    show _ = acc * ((l.length + 1) * fact l.length) + (d.toNat * fact l.length + val l)
    rw [Nat.add_mul, Nat.mul_assoc]
    omega

/-- The value of the first k digits, as the loop has it. -/
def part (l : List Int) : Nat → Nat
  | 0 => 0
  | k + 1 => part l k * (l.length - k) + (l.getD k 0).toNat
theorem part_val (l : List Int) : ∀ k, k ≤ l.length → part l k * fact (l.length - k) + val (l.drop k) = val l
  | 0, _ => by simp [part]
  | k + 1, h => by
    have ih := part_val l k (by omega)
    rw [List.drop_eq_getElem_cons (by omega)] at ih
    have e : l.length - k = (l.length - (k + 1)) + 1 := by omega
    have hg : l.getD k 0 = l[k] := by rw [List.getD_eq_getElem?_getD, List.getElem?_eq_getElem (by omega)]; rfl
    have hl : (l.drop (k + 1)).length = l.length - (k + 1) := by simp
    simp only [val, hl] at ih
    rw [← ih]
    simp only [part, hg]
    rw [Nat.add_mul, Nat.mul_assoc]
    rw [e]
    simp only [fact]
    omega
theorem part_le (l : List Int) {k : Nat} (hk : k ≤ l.length) : part l k ≤ val l := by
  have h := part_val l k hk
  have := Nat.le_mul_of_pos_right (part l k) (fact_pos (l.length - k))
  omega
theorem part_end (l : List Int) : part l l.length = val l := by
  have h := part_val l l.length (Nat.le_refl _)
  rw [Nat.sub_self, List.drop_of_length_le (Nat.le_refl _)] at h
  simpa [fact, val] using h

def IsDig : List Int → Prop
  | [] => True
  | d :: l => 0 ≤ d ∧ d ≤ l.length ∧ IsDig l
theorem isDig_codeL : ∀ l : List Int, IsDig (codeL l)
  | [] => trivial
  | x :: l => ⟨by omega, by have := less_le x l; rw [length_codeL]; omega, isDig_codeL l⟩
theorem IsDig.getD : ∀ {l : List Int}, IsDig l → ∀ i, i < l.length → 0 ≤ l.getD i 0 ∧ l.getD i 0 < l.length - i
  | _ :: _, h, 0, _ => by have := h.1; have := h.2.1; simp; omega
  | _ :: l, h, i + 1, hi => by
    have := IsDig.getD h.2.2 i (by simpa using hi)
    simp
    simp at this
    omega

/-- The last m digits of k. -/
def digL : Nat → Nat → List Int
  | 0, _ => []
  | m + 1, k => ((k / fact m % (m + 1) : Nat) : Int) :: digL m k
theorem length_digL : ∀ m k, (digL m k).length = m
  | 0, _ => rfl
  | m + 1, k => by simp [digL, length_digL m k]
theorem isDig_digL : ∀ m k, IsDig (digL m k)
  | 0, _ => trivial
  | m + 1, k => ⟨by omega, by have := Nat.mod_lt (k / fact m) (show 0 < m + 1 by omega); rw [length_digL]; omega, isDig_digL m k⟩
theorem getD_digL : ∀ m k i, i < m → (digL m k).getD i 0 = ((k / fact (m - 1 - i) % (m - i) : Nat) : Int)
  | m + 1, k, 0, _ => by simp [digL]
  | m + 1, k, i + 1, h => by
    have := getD_digL m k i (by omega)
    simp only [digL, List.getD_cons_succ, this]
    rw [show m + 1 - 1 - (i + 1) = m - 1 - i by omega, show m + 1 - (i + 1) = m - i by omega]
theorem val_digL : ∀ m k, val (digL m k) = k % fact m
  | 0, k => by simp [digL, val, fact, Nat.mod_one]
  | m + 1, k => by
    simp only [digL, val, length_digL, val_digL m k, fact, Int.toNat_natCast]
    rw [Nat.mul_comm (m + 1) (fact m), Nat.mod_mul, Nat.mul_comm (fact m)]
    omega
theorem fact_step (k j : Nat) : k / fact j / (j + 1) = k / fact (j + 1) := by
  rw [Nat.div_div_eq_div_mul, Nat.mul_comm (fact j)]
  rfl

/-! ### By digits out of what is left -/

def pick : List Int → List Int → List Int
  | _, [] => []
  | left, d :: ds => left.getD d.toNat 0 :: pick (left.eraseIdx d.toNat) ds
theorem length_pick : ∀ left ds, (pick left ds).length = ds.length
  | _, [] => rfl
  | left, d :: ds => by simp [pick, length_pick _ ds]
theorem perm_erase : ∀ {l : List Int} {i : Nat}, i < l.length → (l.getD i 0 :: l.eraseIdx i).Perm l
  | a :: l, 0, _ => by simp
  | a :: l, i + 1, h => by
    have ih := perm_erase (l := l) (i := i) (by simpa using h)
    rw [List.getD_cons_succ, List.eraseIdx_cons_succ]
    exact (List.Perm.swap _ _ _).trans (ih.cons a)
theorem pick_perm : ∀ {ds left : List Int}, left.length = ds.length → IsDig ds → (pick left ds).Perm left
  | [], left, hl, _ => by
    have : left = [] := List.eq_nil_of_length_eq_zero hl
    subst this
    exact .refl _
  | d :: ds, left, hl, h => by
    have hd : d.toNat < left.length := by have := h.1; have := h.2.1; simp at hl; omega
    have hl2 : (left.eraseIdx d.toNat).length = ds.length := by rw [List.length_eraseIdx, if_pos hd]; simp at hl; omega
    exact ((pick_perm hl2 h.2.2).cons _).trans (perm_erase hd)
theorem less_sorted : ∀ {l : List Int} {i : Nat}, l.Pairwise (· < ·) → i < l.length → less (l.getD i 0) l = i
  | a :: l, 0, h, _ => by
    rw [List.getD_cons_zero, less_self]
    exact less_none fun y hy => Int.le_of_lt ((List.pairwise_cons.1 h).1 y hy)
  | a :: l, i + 1, h, hi => by
    have hi' : i < l.length := by simpa using hi
    rw [List.getD_cons_succ, less_cons, less_sorted (List.pairwise_cons.1 h).2 hi', if_pos ((List.pairwise_cons.1 h).1 _ (getD_mem hi'))]
theorem codeL_pick : ∀ {ds left : List Int}, left.Pairwise (· < ·) → left.length = ds.length → IsDig ds → codeL (pick left ds) = ds
  | [], left, _, _, _ => rfl
  | d :: ds, left, hs, hl, h => by
    have hd : d.toNat < left.length := by have := h.1; have := h.2.1; simp at hl; omega
    have hl2 : (left.eraseIdx d.toNat).length = ds.length := by rw [List.length_eraseIdx, if_pos hd]; simp at hl; omega
    have hs2 : (left.eraseIdx d.toNat).Pairwise (· < ·) := hs.sublist (List.eraseIdx_sublist _ _)
    simp only [pick, codeL, codeL_pick hs2 hl2 h.2.2]
    congr 1
    rw [less_perm (pick_perm hl2 h.2.2), ← less_self, less_perm (perm_erase hd), less_sorted hs hd]
    have := h.1
    omega

theorem sorted_iotaP (n : Nat) : (iota n).Pairwise (· < ·) := by
  unfold iota
  rw [List.pairwise_map]
  exact List.pairwise_lt_range.imp (fun h => by omega)

/-- The order with the number k. -/
def atL (n k : Nat) : List Int := pick (iota n) (digL n k)
theorem length_atL (n k : Nat) : (atL n k).length = n := by rw [atL, length_pick, length_digL]
theorem isPerm_atL (n k : Nat) : IsPerm (atL n k) := by
  unfold IsPerm
  rw [length_atL]
  exact pick_perm (by rw [length_iota, length_digL]) (isDig_digL n k)
theorem rk_atL {n k : Nat} (h : k < fact n) : rk (atL n k) = k := by
  rw [← val_codeL, atL, codeL_pick (sorted_iotaP n) (by rw [length_iota, length_digL]) (isDig_digL n k), val_digL, Nat.mod_eq_of_lt h]

/-! ### The order of orders -/

theorem rk_first {x y : Int} {l m : List Int} (hp : (x :: l).Perm (y :: m)) (h : x < y) : rk (x :: l) < rk (y :: m) := by
  have hl : l.length = m.length := by simpa using hp.length_eq
  have h1 : less x l < less y m := by
    rw [← less_self x l, ← less_self y m, less_perm hp]
    exact less_lt h (hp.mem_iff.1 (List.mem_cons_self ..))
  have h2 := rk_lt l
  have h3 := Nat.mul_le_mul_right (fact l.length) (show less x l + 1 ≤ less y m by omega)
  rw [Nat.succ_mul] at h3
  simp only [rk, ← hl]
  omega
theorem rk_cmp : ∀ {l m : List Int}, l.Perm m → (l = m ∧ cmpL l m = 0) ∨ (cmpL l m = -1 ∧ rk l < rk m) ∨ (cmpL l m = 1 ∧ rk m < rk l)
  | [], m, h => by
    have : m = [] := List.nil_perm.1 h
    subst this
    exact .inl ⟨rfl, rfl⟩
  | x :: l, [], h => absurd h.length_eq (by simp)
  | x :: l, y :: m, h => by
    simp only [cmpL]
    by_cases h1 : x < y
    · rw [if_pos h1]
      exact .inr (.inl ⟨rfl, rk_first h h1⟩)
    · rw [if_neg h1]
      by_cases h2 : y < x
      · rw [if_pos h2]
        exact .inr (.inr ⟨rfl, rk_first h.symm h2⟩)
      · rw [if_neg h2]
        have e : x = y := by omega
        subst e
        have hp := h.cons_inv
        have hl := hp.length_eq
        have hx := less_perm (x := x) hp
        simp only [rk, hl, hx]
        rcases rk_cmp hp with ⟨e, h0⟩ | ⟨h0, h3⟩ | ⟨h0, h3⟩
        · exact .inl ⟨by rw [e], h0⟩
        · exact .inr (.inl ⟨h0, by omega⟩)
        · exact .inr (.inr ⟨h0, by omega⟩)
theorem rk_inj {l m : List Int} (h : l.Perm m) (e : rk l = rk m) : l = m := by
  rcases rk_cmp h with h | h | h
  · exact h.1
  · omega
  · omega
theorem cmp_lt {l m : List Int} (h : l.Perm m) : cmpL l m < 0 ↔ rk l < rk m := by
  rcases rk_cmp h with ⟨rfl, h⟩ | h | h
  · omega
  · omega
  · omega
theorem IsPerm.perm {a b : List Int} (ha : IsPerm a) (hb : IsPerm b) (hl : a.length = b.length) : a.Perm b := by
  unfold IsPerm at ha hb
  rw [hl] at ha
  exact ha.trans hb.symm
theorem atL_rk {p : List Int} (h : IsPerm p) : atL p.length (rk p) = p :=
  rk_inj ((isPerm_atL _ _).perm h (length_atL _ _)) (rk_atL (rk_lt p))

/-! ### The next one -/

theorem rk_falls : ∀ {l : List Int}, l.Pairwise (· > ·) → rk l + 1 = fact l.length
  | [], _ => rfl
  | x :: l, h => by
    have ih := rk_falls (List.pairwise_cons.1 h).2
    simp only [rk, List.length_cons, fact]
    rw [less_all (fun y hy => (List.pairwise_cons.1 h).1 y hy), Nat.succ_mul]
    omega
theorem rk_rises : ∀ {l : List Int}, l.Pairwise (· < ·) → rk l = 0
  | [], _ => rfl
  | x :: l, h => by
    simp only [rk]
    rw [less_none (fun y hy => Int.le_of_lt ((List.pairwise_cons.1 h).1 y hy)), rk_rises (List.pairwise_cons.1 h).2]
    omega
theorem rk_behind : ∀ (pre : List Int) {s s' : List Int}, s.Perm s' → rk (pre ++ s) + rk s' = rk (pre ++ s') + rk s
  | [], s, s', _ => by simp; omega
  | x :: pre, s, s', h => by
    have ih := rk_behind pre h
    have hp : (pre ++ s).Perm (pre ++ s') := h.append_left _
    simp only [List.cons_append, rk]
    rw [less_perm hp, hp.length_eq]
    omega
theorem next_core {x y : Int} {u v : List Int} (hf : (u ++ y :: v).Pairwise (· > ·)) (hxy : x < y) (hv : ∀ z, z ∈ v → z < x) :
    rk (y :: (u ++ x :: v).reverse) = rk (x :: (u ++ y :: v)) + 1 := by
  have hf1 := List.pairwise_append.1 hf
  have hf2 := List.pairwise_cons.1 hf1.2.1
  have huy : ∀ z, z ∈ u → y < z := fun z hz => hf1.2.2 z hz y (List.mem_cons_self ..)
  have h1 : less x (u ++ y :: v) = v.length := by
    rw [less_append, less_cons, less_none (fun z hz => by have := huy z hz; omega), less_all hv, if_neg (by omega)]
    omega
  have h2 : less y ((u ++ x :: v).reverse) = v.length + 1 := by
    rw [less_perm (List.reverse_perm _), less_append, less_cons, less_none (fun z hz => by have := huy z hz; omega), less_all (fun z hz => by have := hv z hz; omega), if_pos hxy]
    omega
  have h3 : (u ++ x :: v).reverse.Pairwise (· < ·) := by
    rw [List.pairwise_reverse]
    refine List.pairwise_append.2 ⟨hf1.1, List.pairwise_cons.2 ⟨fun z hz => hv z hz, hf2.2⟩, fun a ha b hb => ?_⟩
    rcases List.mem_cons.1 hb with rfl | hb
    · have := huy a ha; show b < a; omega
    · have := huy a ha; have := hv b hb; show b < a; omega
  have h4 := rk_falls hf
  have hl : ((u ++ x :: v).reverse).length = (u ++ y :: v).length := by simp; omega
  simp only [rk]
  rw [h1, h2, rk_rises h3, hl, Nat.succ_mul, ← h4]
  omega

/-! ### The other way round -/

theorem rk_turned {n : Int} : ∀ {l : List Int}, l.Nodup → rk l + rk (l.map (fun v => n - v)) + 1 = fact l.length
  | [], _ => rfl
  | x :: l, h => by
    have hn := List.nodup_cons.1 h
    have ih := rk_turned (n := n) hn.2
    have e : less x l + less (n - x) (l.map (fun v => n - v)) = l.length := by
      clear ih h
      have : x ∉ l := hn.1
      clear hn
      induction l with
      | nil => rfl
      | cons y l ih =>
        have hy : y ≠ x := fun e => this (by rw [e]; exact List.mem_cons_self ..)
        have ih := ih (fun h => this (List.mem_cons_of_mem _ h))
        rw [List.map_cons, less_cons, less_cons, List.length_cons]
        by_cases h1 : y < x
        · rw [if_pos h1, if_neg (by omega)]; omega
        · rw [if_neg h1, if_pos (by omega)]; omega
    simp only [List.map_cons, rk, List.length_map, List.length_cons, fact]
    rw [← ih] at *
    have h2 : less x l * (rk l + rk (l.map fun v => n - v) + 1) + less (n - x) (l.map fun v => n - v) * (rk l + rk (l.map fun v => n - v) + 1) = l.length * (rk l + rk (l.map fun v => n - v) + 1) := by rw [← Nat.add_mul, e]
    rw [Nat.succ_mul]
    omega

/-! ### By the first number -/

/-- What is left behind the first number, made an order. -/
def shut (x y : Int) : Int := if x < y then y - 1 else y
theorem rk_map {f : Int → Int} : ∀ {l : List Int}, (∀ a, a ∈ l → ∀ b, b ∈ l → (f a < f b ↔ a < b)) → rk (l.map f) = rk l
  | [], _ => rfl
  | x :: l, h => by
    have ih := rk_map (l := l) (fun a ha b hb => h a (List.mem_cons_of_mem _ ha) b (List.mem_cons_of_mem _ hb))
    have e : less (f x) (l.map f) = less x l := by
      unfold less
      rw [List.countP_map]
      refine List.countP_congr fun a ha => ?_
      have := h a (List.mem_cons_of_mem _ ha) x (List.mem_cons_self ..)
      simpa using this
    simp only [List.map_cons, rk, List.length_map, ih, e]
theorem rk_shut {x : Int} {l : List Int} (h : x ∉ l) : rk (l.map (shut x)) = rk l := by
  refine rk_map fun a ha b hb => ?_
  have h1 : a ≠ x := fun e => h (e ▸ ha)
  have h2 : b ≠ x := fun e => h (e ▸ hb)
  unfold shut
  split <;> split <;> omega
theorem less_perm_head {x : Int} {l : List Int} (h : IsPerm (x :: l)) : (less x l : Int) = x := by
  have hx := h.range (List.mem_cons_self ..)
  have e : less x (x :: l) = less x (iota (x :: l).length) := less_perm h
  obtain ⟨m, hm⟩ := Int.eq_ofNat_of_zero_le hx.1
  have h1 := less_sorted (sorted_iotaP (x :: l).length) (i := m) (by rw [length_iota]; omega)
  rw [getD_iota (by omega)] at h1
  rw [less_self] at e
  subst hm
  rw [e, h1]
theorem isPerm_shut {x : Int} {l : List Int} (h : IsPerm (x :: l)) : IsPerm (l.map (shut x)) := by
  have hn := List.nodup_cons.1 h.nodup
  have hx := h.range (List.mem_cons_self ..)
  refine isPerm_of_nodup ?_ ?_
  · unfold List.Nodup
    rw [List.pairwise_map]
    refine hn.2.imp_of_mem fun {a b} ha hb hab => ?_
    have h1 : a ≠ x := fun e => hn.1 (e ▸ ha)
    have h2 : b ≠ x := fun e => hn.1 (e ▸ hb)
    unfold shut
    split <;> split <;> omega
  · intro y hy
    obtain ⟨a, ha, rfl⟩ := List.mem_map.1 hy
    have h1 : a ≠ x := fun e => hn.1 (e ▸ ha)
    have h2 := h.range (List.mem_cons_of_mem _ ha)
    simp only [List.length_cons, List.length_map] at *
    unfold shut
    split <;> omega

end Go.Proofs.Ytcnljljgdkjndaa

/-
  Plain mathematics of sets of small numbers, kept as the bits of a number: how many bits, binomial coefficients, the place among the sets of one size. Nothing of the program is proved here.
-/
namespace Go.Proofs.Ytcnljljgdkjndaa
open Go.RowKit

/-! ### Sums -/

def sumN (f : Nat → Nat) : Nat → Nat
  | 0 => 0
  | n + 1 => sumN f n + f n
theorem sumN_front (f : Nat → Nat) : ∀ n, sumN f (n + 1) = f 0 + sumN (fun i => f (i + 1)) n
  | 0 => by simp [sumN]
  | n + 1 => by
    rw [sumN, sumN_front f n, sumN]
    omega
theorem sumN_add (f g : Nat → Nat) : ∀ n, sumN (fun i => f i + g i) n = sumN f n + sumN g n
  | 0 => rfl
  | n + 1 => by
    rw [sumN, sumN_add f g n, sumN, sumN]
    omega
theorem sumN_congr {f g : Nat → Nat} : ∀ {n}, (∀ i, i < n → f i = g i) → sumN f n = sumN g n
  | 0, _ => rfl
  | n + 1, h => by rw [sumN, sumN, sumN_congr (n := n) fun i hi => h i (by omega), h n (by omega)]
theorem sumN_mono (f : Nat → Nat) {j n : Nat} (h : j ≤ n) : sumN f j ≤ sumN f n := by
  induction n with
  | zero => rw [show j = 0 by omega]; exact Nat.le_refl _
  | succ n ih =>
    by_cases e : j = n + 1
    · subst e
      exact Nat.le_refl _
    · exact Nat.le_trans (ih (by omega)) (Nat.le_add_right _ _)

/-! ### Binomial coefficients -/

def cho : Nat → Nat → Nat
  | _, 0 => 1
  | 0, _ + 1 => 0
  | n + 1, k + 1 => cho n k + cho n (k + 1)
theorem cho_zero (n : Nat) : cho n 0 = 1 := by cases n <;> rfl
theorem cho_succ (n k : Nat) : cho (n + 1) (k + 1) = cho n k + cho n (k + 1) := rfl
theorem cho_over : ∀ {n k : Nat}, n < k → cho n k = 0
  | 0, k + 1, _ => rfl
  | n + 1, k + 1, h => by rw [cho_succ, cho_over (by omega), cho_over (by omega)]
theorem cho_self : ∀ n : Nat, cho n n = 1
  | 0 => rfl
  | n + 1 => by rw [cho_succ, cho_self n, cho_over (by omega)]
theorem cho_pos : ∀ {n k : Nat}, k ≤ n → 0 < cho n k
  | n, 0, _ => by rw [cho_zero]; exact Nat.one_pos
  | n + 1, k + 1, h => by rw [cho_succ]; have := cho_pos (n := n) (k := k) (by omega); omega
theorem cho_turn : ∀ {n k : Nat}, k ≤ n → cho n (n - k) = cho n k
  | n, 0, _ => by rw [Nat.sub_zero, cho_self, cho_zero]
  | n + 1, k + 1, h => by
    by_cases e : k = n
    · subst e
      rw [Nat.sub_self, cho_zero, cho_self]
    · have h1 : n + 1 - (k + 1) = (n - (k + 1)) + 1 := by omega
      have h2 := cho_turn (n := n) (k := k) (by omega)
      have h3 := cho_turn (n := n) (k := k + 1) (by omega)
      rw [h1, cho_succ, h3, show n - (k + 1) + 1 = n - k by omega, h2, cho_succ]
      omega
theorem cho_step : ∀ n i : Nat, i ≤ n → cho n (i + 1) * (i + 1) = cho n i * (n - i)
  | 0, i, h => by
    rw [show i = 0 by omega]
    rfl
  | n + 1, 0, _ => by
    rw [cho_succ, cho_zero, cho_zero]
    have := cho_step n 0 (Nat.zero_le _)
    rw [cho_zero] at this
    omega
  | n + 1, i + 1, h => by
    by_cases e : i = n
    · subst e
      rw [cho_over (by omega), Nat.sub_self]
      omega
    · have h1 := cho_step n i (by omega)
      have h2 := cho_step n (i + 1) (by omega)
      have e1 : n - i = (n - (i + 1)) + 1 := by omega
      have e2 : n + 1 - (i + 1) = n - i := by omega
      rw [cho_succ n (i + 1), cho_succ n i, e2, Nat.add_mul, Nat.add_mul, h2]
      rw [e1] at h1 ⊢
      generalize n - (i + 1) = d at *
      have e3 : cho n (i + 1) * (i + 1 + 1) = cho n (i + 1) * (i + 1) + cho n (i + 1) := Nat.mul_succ _ _
      have e4 : cho n (i + 1) * (d + 1) = cho n (i + 1) * d + cho n (i + 1) := Nat.mul_succ _ _
      rw [e3, e4, h1]
      omega
theorem cho_row : ∀ n : Nat, sumN (cho n) (n + 1) = 2 ^ n
  | 0 => rfl
  | n + 1 => by
    have h := cho_row n
    have h2 : sumN (cho n) (n + 2) = 2 ^ n := by rw [sumN, h, cho_over (by omega)]; rfl
    have h3 := sumN_front (cho n) (n + 1)
    rw [sumN_front, cho_zero, sumN_congr (g := fun i => cho n i + cho n (i + 1)) (fun i _ => cho_succ n i), sumN_add, h, Nat.pow_succ]
    rw [h2, cho_zero] at h3
    omega
theorem cho_le (n k : Nat) : cho n k ≤ 2 ^ n := by
  by_cases h : k ≤ n
  · have := sumN_mono (cho n) (show k + 1 ≤ n + 1 by omega)
    rw [cho_row] at this
    exact Nat.le_trans (Nat.le_add_left _ _) this
  · rw [cho_over (by omega)]
    exact Nat.zero_le _
theorem cho_16 {n k : Nat} (h : n ≤ 16) : cho n k ≤ 65536 := Nat.le_trans (cho_le n k) (Nat.pow_le_pow_right (n := 2) (by omega) h)
theorem cho_vander : ∀ m p k : Nat, sumN (fun i => cho m i * cho p (k - i)) (k + 1) = cho (m + p) k
  | 0, p, k => by
    rw [sumN_front, cho_zero, Nat.one_mul, Nat.sub_zero, Nat.zero_add]
    have : sumN (fun i => cho 0 (i + 1) * cho p (k - (i + 1))) k = sumN (fun _ => 0) k := sumN_congr fun i _ => by rw [show cho 0 (i + 1) = 0 from rfl, Nat.zero_mul]
    rw [this]
    have z : ∀ n, sumN (fun _ => 0) n = 0 := fun n => by
      induction n with
      | zero => rfl
      | succ n ih => rw [sumN, ih]
    rw [z]; rfl
  | m + 1, p, 0 => by rw [sumN, sumN, cho_zero, cho_zero]; simp [cho_zero]
  | m + 1, p, k + 1 => by
    have h1 := cho_vander m p k
    have h2 := cho_vander m p (k + 1)
    rw [sumN_front] at h2 ⊢
    simp only [Nat.add_sub_add_right, cho_zero, Nat.one_mul, Nat.sub_zero] at h2 ⊢
    rw [sumN_congr (g := fun i => cho m i * cho p (k - i) + cho m (i + 1) * cho p (k - i)) (fun i _ => by rw [cho_succ, Nat.add_mul]), sumN_add, h1]
    rw [show m + 1 + p = (m + p) + 1 by omega, cho_succ]
    omega

/-! ### Bits -/

def onesF : Nat → Nat → Nat
  | 0, _ => 0
  | f + 1, s => s % 2 + onesF f (s / 2)
theorem onesF_zero : ∀ f, onesF f 0 = 0
  | 0 => rfl
  | f + 1 => by rw [onesF, Nat.zero_div, onesF_zero f]
theorem onesF_more : ∀ {f g s : Nat}, s < 2 ^ f → s < 2 ^ g → onesF f s = onesF g s
  | 0, g, s, h, _ => by rw [show s = 0 by simpa using h, onesF_zero, onesF_zero]
  | f, 0, s, _, h => by rw [show s = 0 by simpa using h, onesF_zero, onesF_zero]
  | f + 1, g + 1, s, h1, h2 => by
    rw [Nat.pow_succ] at h1 h2
    rw [onesF, onesF, onesF_more (f := f) (g := g) (by omega) (by omega)]
/-- How many bits of s are set. -/
def ones (s : Nat) : Nat := onesF s s
theorem ones_of {f s : Nat} (h : s < 2 ^ f) : ones s = onesF f s := onesF_more Nat.lt_two_pow_self h
theorem ones_zero : ones 0 = 0 := rfl
theorem ones_step (s : Nat) : ones s = s % 2 + ones (s / 2) := by
  have h : s < 2 ^ s := Nat.lt_two_pow_self
  have h1 : s < 2 ^ (s + 1) := by rw [Nat.pow_succ]; omega
  rw [ones_of h1, ones_of (f := s) (s := s / 2) (by omega), onesF]
theorem ones_split : ∀ (a q r : Nat), r < 2 ^ a → ones (2 ^ a * q + r) = ones q + ones r
  | 0, q, r, h => by
    rw [show r = 0 by simpa using h]
    simp [ones_zero]
  | a + 1, q, r, h => by
    rw [Nat.pow_succ] at h
    have e : 2 ^ (a + 1) * q = 2 * (2 ^ a * q) := by rw [Nat.pow_succ, Nat.mul_comm (2 ^ a) 2, Nat.mul_assoc]
    rw [ones_step (_ + r), ones_step r, e, show (2 * (2 ^ a * q) + r) / 2 = 2 ^ a * q + r / 2 by omega, ones_split a q (r / 2) (by omega)]
    omega
theorem ones_one : ones 1 = 1 := rfl
theorem ones_mul (a q : Nat) : ones (2 ^ a * q) = ones q := by
  have := ones_split a q 0 (Nat.two_pow_pos a)
  rwa [Nat.add_zero, ones_zero, Nat.add_zero] at this
theorem ones_top {n r : Nat} (h : r < 2 ^ n) : ones (2 ^ n + r) = ones r + 1 := by
  have := ones_split n 1 r h
  rw [Nat.mul_one, ones_one] at this
  omega
theorem ones_full : ∀ n, ones (2 ^ n - 1) = n
  | 0 => rfl
  | n + 1 => by
    have h := Nat.two_pow_pos n
    rw [show 2 ^ (n + 1) - 1 = 2 ^ n + (2 ^ n - 1) by rw [Nat.pow_succ]; omega, ones_top (by omega), ones_full n]
theorem ones_le : ∀ {n s : Nat}, s < 2 ^ n → ones s ≤ n
  | 0, s, h => by rw [show s = 0 by simpa using h]; exact Nat.le_refl _
  | n + 1, s, h => by
    rw [Nat.pow_succ] at h
    have := ones_le (n := n) (s := s / 2) (by omega)
    rw [ones_step]
    omega
theorem ones_pos {s : Nat} (h : 0 < s) : 0 < ones s := by
  obtain ⟨m, hm, _⟩ := Lib.ctzFrom_spec s s h Nat.lt_two_pow_self
  rw [hm, ones_mul, ones_step]
  omega
theorem ones_mod_succ (s k : Nat) : ones (s % 2 ^ (k + 1)) = ones (s % 2 ^ k) + s / 2 ^ k % 2 := by
  have h1 : s % 2 ^ (k + 1) = 2 ^ k * (s / 2 ^ k % 2) + s % 2 ^ k := by rw [Nat.pow_succ, Nat.mod_mul]; omega
  have h2 : ones (s / 2 ^ k % 2) = s / 2 ^ k % 2 := by
    rcases Nat.mod_two_eq_zero_or_one (s / 2 ^ k) with e | e <;> rw [e] <;> rfl
  rw [h1, ones_split _ _ _ (Nat.mod_lt _ (Nat.two_pow_pos k)), h2]
  omega

/-! ### How many numbers below m have k bits -/

def cnt : Nat → Nat → Nat
  | 0, _ => 0
  | m + 1, k => cnt m k + if ones m = k then 1 else 0
theorem cnt_succ (m k : Nat) : cnt (m + 1) k = cnt m k + if ones m = k then 1 else 0 := rfl
theorem cnt_mono {m n : Nat} (k : Nat) (h : m ≤ n) : cnt m k ≤ cnt n k := by
  induction n with
  | zero => rw [show m = 0 by omega]; exact Nat.le_refl _
  | succ n ih =>
    by_cases e : m = n + 1
    · subst e
      exact Nat.le_refl _
    · rw [cnt_succ]
      exact Nat.le_trans (ih (by omega)) (Nat.le_add_right _ _)
theorem cnt_le (m k : Nat) : cnt m k ≤ m := by
  induction m with
  | zero => exact Nat.le_refl _
  | succ m ih =>
    rw [cnt_succ]
    split <;> omega
theorem cnt_add (n k : Nat) : ∀ r, r ≤ 2 ^ n → cnt (2 ^ n + r) (k + 1) = cnt (2 ^ n) (k + 1) + cnt r k
  | 0, _ => rfl
  | r + 1, h => by
    rw [← Nat.add_assoc, cnt_succ, cnt_add n k r (by omega), ones_top (by omega), cnt_succ]
    by_cases e : ones r = k
    · rw [if_pos e, if_pos (by omega)]
      omega
    · rw [if_neg e, if_neg (by omega)]
      omega
theorem cnt_add0 (n : Nat) : ∀ r, r ≤ 2 ^ n → cnt (2 ^ n + r) 0 = cnt (2 ^ n) 0
  | 0, _ => rfl
  | r + 1, h => by
    rw [← Nat.add_assoc, cnt_succ, cnt_add0 n r (by omega), ones_top (by omega), if_neg (by omega)]
    rfl
theorem cnt_pow : ∀ n k, cnt (2 ^ n) k = cho n k
  | 0, 0 => rfl
  | 0, k + 1 => rfl
  | n + 1, 0 => by rw [Nat.pow_succ, Nat.mul_two, cnt_add0 n _ (Nat.le_refl _), cnt_pow n 0, cho_zero, cho_zero]
  | n + 1, k + 1 => by rw [Nat.pow_succ, Nat.mul_two, cnt_add n k _ (Nat.le_refl _), cnt_pow n (k + 1), cnt_pow n k, cho_succ]; omega

/-- The place of s among the numbers with as many bits. -/
def srk (s : Nat) : Nat := cnt s (ones s)
theorem srk_lt {n s : Nat} (h : s < 2 ^ n) : srk s < cho n (ones s) := by
  have h1 := cnt_mono (ones s) (show s + 1 ≤ 2 ^ n by omega)
  rw [cnt_pow, cnt_succ, if_pos rfl] at h1
  exact h1
theorem srk_le (s : Nat) : srk s ≤ s := cnt_le _ _
theorem srk_mono {s t : Nat} (he : ones s = ones t) (h : s < t) : srk s < srk t := by
  have h1 := cnt_mono (ones s) (show s + 1 ≤ t by omega)
  rw [cnt_succ, if_pos rfl] at h1
  unfold srk
  rw [← he]
  exact h1
theorem srk_iff {s t : Nat} (he : ones s = ones t) : s < t ↔ srk s < srk t := by
  refine ⟨srk_mono he, fun h => ?_⟩
  rcases Nat.lt_trichotomy s t with h1 | h1 | h1
  · exact h1
  · subst h1
    omega
  · have := srk_mono he.symm h1
    omega
theorem srk_inj {s t : Nat} (he : ones s = ones t) (h : srk s = srk t) : s = t := by
  rcases Nat.lt_trichotomy s t with h1 | h1 | h1
  · have := srk_mono he h1
    omega
  · exact h1
  · have := srk_mono he.symm h1
    omega
theorem srk_top {n r : Nat} (h : r < 2 ^ n) : srk (2 ^ n + r) = cho n (ones r + 1) + srk r := by
  unfold srk
  rw [ones_top h, cnt_add n _ r (by omega), cnt_pow]

/-! ### The place as a sum, from the lowest bit on -/

def gF : Nat → Nat → Nat → Nat → Nat
  | 0, _, _, _ => 0
  | f + 1, o, j, s => if s % 2 = 1 then cho o (j + 1) + gF f (o + 1) (j + 1) (s / 2) else gF f (o + 1) j (s / 2)
theorem gF_zero : ∀ f o j, gF f o j 0 = 0
  | 0, _, _ => rfl
  | f + 1, o, j => by rw [gF, if_neg (by omega), Nat.zero_div, gF_zero f]
theorem gF_more : ∀ {f g s : Nat} (o j : Nat), s < 2 ^ f → s < 2 ^ g → gF f o j s = gF g o j s
  | 0, g, s, o, j, h, _ => by rw [show s = 0 by simpa using h, gF_zero, gF_zero]
  | f, 0, s, o, j, _, h => by rw [show s = 0 by simpa using h, gF_zero, gF_zero]
  | f + 1, g + 1, s, o, j, h1, h2 => by
    rw [Nat.pow_succ] at h1 h2
    rw [gF, gF, gF_more (f := f) (g := g) (o + 1) (j + 1) (by omega) (by omega), gF_more (f := f) (g := g) (o + 1) j (by omega) (by omega)]
/-- The sum of 'b over j + 1', 'c over j + 2', .. where b, c, .. are the places of s's bits, the lowest first, counted from o on. -/
def gsum (o j s : Nat) : Nat := gF s o j s
theorem gsum_of {f s : Nat} (o j : Nat) (h : s < 2 ^ f) : gsum o j s = gF f o j s := gF_more o j Nat.lt_two_pow_self h
theorem gsum_zero (o j : Nat) : gsum o j 0 = 0 := rfl
theorem gsum_step (o j s : Nat) : gsum o j s = if s % 2 = 1 then cho o (j + 1) + gsum (o + 1) (j + 1) (s / 2) else gsum (o + 1) j (s / 2) := by
  have h : s < 2 ^ s := Nat.lt_two_pow_self
  have h1 : s < 2 ^ (s + 1) := by rw [Nat.pow_succ]; omega
  rw [gsum_of _ _ h1, gsum_of (f := s) (s := s / 2) _ _ (by omega), gsum_of (f := s) (s := s / 2) _ _ (by omega), gF]
theorem gsum_odd (o j c : Nat) : gsum o j (2 * c + 1) = cho o (j + 1) + gsum (o + 1) (j + 1) c := by
  rw [gsum_step, if_pos (by omega), show (2 * c + 1) / 2 = c by omega]
theorem gsum_even (o j c : Nat) : gsum o j (2 * c) = gsum (o + 1) j c := by
  rw [gsum_step, if_neg (by omega), show (2 * c) / 2 = c by omega]
theorem gsum_split : ∀ (a o j q r : Nat), r < 2 ^ a → gsum o j (2 ^ a * q + r) = gsum o j r + gsum (o + a) (j + ones r) q
  | 0, o, j, q, r, h => by
    rw [show r = 0 by simpa using h]
    simp [gsum_zero, ones_zero]
  | a + 1, o, j, q, r, h => by
    rw [Nat.pow_succ] at h
    have e : 2 ^ (a + 1) * q = 2 * (2 ^ a * q) := by rw [Nat.pow_succ, Nat.mul_comm (2 ^ a) 2, Nat.mul_assoc]
    rw [gsum_step o j (_ + r), gsum_step o j r, e, show (2 * (2 ^ a * q) + r) / 2 = 2 ^ a * q + r / 2 by omega, show (2 * (2 ^ a * q) + r) % 2 = r % 2 by omega,
      gsum_split a (o + 1) (j + 1) q (r / 2) (by omega), gsum_split a (o + 1) j q (r / 2) (by omega), ones_step r]
    by_cases h2 : r % 2 = 1
    · rw [if_pos h2, if_pos h2, h2, show o + 1 + a = o + (a + 1) by omega, show j + 1 + ones (r / 2) = j + (1 + ones (r / 2)) by omega]
      omega
    · rw [if_neg h2, if_neg h2, show r % 2 = 0 by omega, show o + 1 + a = o + (a + 1) by omega, show j + (0 + ones (r / 2)) = j + ones (r / 2) by omega]
theorem gsum_mul (a o j q : Nat) : gsum o j (2 ^ a * q) = gsum (o + a) j q := by
  have := gsum_split a o j q 0 (Nat.two_pow_pos a)
  rwa [Nat.add_zero, gsum_zero, ones_zero, Nat.zero_add, Nat.add_zero] at this
theorem srk_gsum : ∀ {n s : Nat}, s < 2 ^ n → srk s = gsum 0 0 s
  | 0, s, h => by rw [show s = 0 by simpa using h]; rfl
  | n + 1, s, h => by
    rw [Nat.pow_succ] at h
    by_cases h1 : s < 2 ^ n
    · exact srk_gsum h1
    · obtain ⟨r, rfl⟩ : ∃ r, s = 2 ^ n + r := ⟨s - 2 ^ n, by omega⟩
      have hr : r < 2 ^ n := by omega
      have := gsum_split n 0 0 1 r hr
      rw [Nat.mul_one, show gsum (0 + n) (0 + ones r) 1 = cho n (ones r + 1) by rw [Nat.zero_add, Nat.zero_add]; exact gsum_odd n (ones r) 0] at this
      rw [srk_top hr, srk_gsum hr, this]
      omega
theorem srk_sum (s : Nat) : srk s = gsum 0 0 s := srk_gsum Nat.lt_two_pow_self
theorem gsum_full (b : Nat) : ∀ (a j : Nat), gsum a j (2 ^ b - 1) + cho a j = cho (a + b) (j + b) := by
  induction b with
  | zero => intro a j; simp [gsum_zero]
  | succ b ih =>
    intro a j
    have h := Nat.two_pow_pos b
    have h1 := ih (a + 1) (j + 1)
    rw [show 2 ^ (b + 1) - 1 = 2 * (2 ^ b - 1) + 1 by rw [Nat.pow_succ]; omega, gsum_odd]
    rw [cho_succ] at h1
    rw [show a + (b + 1) = a + 1 + b by omega, show j + (b + 1) = j + 1 + b by omega]
    omega
theorem gsum_low (b : Nat) : gsum 0 0 (2 ^ b - 1) = 0 := by
  have := gsum_full b 0 0
  rw [cho_zero, Nat.zero_add, cho_self] at this
  omega

/-! ### Taking the lowest bit off -/

/-- Every number but 0 is 2^a (2 c + 1). -/
theorem odd_part {n s : Nat} (h0 : 0 < s) (h : s < 2 ^ n) : ∃ a c, s = 2 ^ a * (2 * c + 1) ∧ a < n := by
  obtain ⟨m, hm, hk⟩ := Lib.ctzFrom_spec n s h0 h
  exact ⟨_, m, hm, hk⟩
theorem low_off (a c : Nat) : (2 ^ a * (2 * c + 1)) &&& (2 ^ a * (2 * c + 1) - 1) = 2 ^ (a + 1) * c := by
  have hp := Nat.two_pow_pos a
  have e1 : 2 ^ a * (2 * c + 1) = 2 ^ a * (2 * c + 1) + 0 := rfl
  have e2 : 2 ^ a * (2 * c + 1) - 1 = 2 ^ a * (2 * c) + (2 ^ a - 1) := by rw [Nat.mul_add, Nat.mul_one]; omega
  have e3 : 2 ^ (a + 1) * c = 2 ^ a * (2 * c) + 0 := by rw [Nat.pow_succ, Nat.mul_assoc]; rfl
  rw [e2, e3]
  apply Nat.eq_of_testBit_eq
  intro i
  rw [Nat.testBit_and]
  conv => lhs; lhs; rw [e1]
  rw [Nat.testBit_two_pow_mul_add _ hp, Nat.testBit_two_pow_mul_add _ (by omega), Nat.testBit_two_pow_mul_add _ hp]
  by_cases hi : i < a
  · simp [hi]
  · simp only [hi, if_false]
    cases hj : i - a with
    | zero => simp [Nat.testBit_zero]
    | succ j =>
      rw [Nat.testBit_succ, Nat.testBit_succ, show (2 * c + 1) / 2 = c by omega, show 2 * c / 2 = c by omega, Bool.and_self]
theorem gsum_off (a c j : Nat) : gsum 0 j (2 ^ a * (2 * c + 1)) = cho a (j + 1) + gsum 0 (j + 1) (2 ^ (a + 1) * c) := by
  rw [gsum_mul, gsum_mul, gsum_odd, Nat.zero_add, Nat.zero_add]
theorem ones_off (a c : Nat) : ones (2 ^ a * (2 * c + 1)) = ones (2 ^ (a + 1) * c) + 1 := by
  rw [ones_mul, ones_mul, ones_step, show (2 * c + 1) / 2 = c by omega]
  omega

/-! ### From the place to the set -/

def unr : Nat → Nat → Nat → Nat
  | 0, _, _ => 0
  | _ + 1, 0, _ => 0
  | n + 1, k + 1, r => if cho n (k + 1) ≤ r then 2 ^ n + unr n k (r - cho n (k + 1)) else unr n (k + 1) r
theorem unr_none (n r : Nat) : unr n 0 r = 0 := by cases n <;> rfl
theorem unr_ok : ∀ {n k r : Nat}, r < cho n k → unr n k r < 2 ^ n ∧ ones (unr n k r) = k ∧ srk (unr n k r) = r
  | n, 0, r, h => by
    rw [cho_zero] at h
    rw [unr_none, show r = 0 by omega]
    exact ⟨Nat.two_pow_pos n, rfl, rfl⟩
  | 0, k + 1, r, h => absurd h (by rw [cho_over (by omega)]; omega)
  | n + 1, k + 1, r, h => by
    rw [cho_succ] at h
    rw [unr, Nat.pow_succ]
    by_cases hc : cho n (k + 1) ≤ r
    · rw [if_pos hc]
      obtain ⟨h1, h2, h3⟩ := unr_ok (n := n) (k := k) (r := r - cho n (k + 1)) (by omega)
      refine ⟨by omega, by rw [ones_top h1, h2], ?_⟩
      rw [srk_top h1, h2, h3]
      omega
    · rw [if_neg hc]
      obtain ⟨h1, h2, h3⟩ := unr_ok (n := n) (k := k + 1) (r := r) (by omega)
      exact ⟨by omega, h2, h3⟩
theorem unr_srk {n s : Nat} (h : s < 2 ^ n) : unr n (ones s) (srk s) = s := by
  obtain ⟨_, h2, h3⟩ := unr_ok (srk_lt h)
  exact srk_inj h2 h3

/-! ### The next set of the size -/

/-- s is 2^a (2^b - 1) + 2^(a+b+1) h: a run of b bits from a on, a 0 above it, and h. -/
theorem run_part {n s : Nat} (h0 : 0 < s) (h : s < 2 ^ n) : ∃ a b c, s = 2 ^ (a + b + 2) * c + 2 ^ a * (2 ^ (b + 1) - 1) ∧ a + b < n := by
  obtain ⟨a, c, rfl, _⟩ := odd_part h0 h
  obtain ⟨b, d, hd, _⟩ := odd_part (n := 2 * c + 2) (s := 2 * c + 2) (by omega) Nat.lt_two_pow_self
  have hb : b ≠ 0 := by
    intro e
    rw [e, Nat.pow_zero] at hd
    omega
  obtain ⟨m, rfl⟩ : ∃ m, b = m + 1 := ⟨b - 1, by omega⟩
  have hp := Nat.two_pow_pos (m + 1)
  have hs : 2 ^ a * (2 * c + 1) = 2 ^ (a + m + 2) * d + 2 ^ a * (2 ^ (m + 1) - 1) := by
    have e1 : 2 * c + 1 = 2 ^ (m + 2) * d + (2 ^ (m + 1) - 1) := by
      have e2 : 2 ^ (m + 1) * (2 * d + 1) = 2 ^ (m + 2) * d + 2 ^ (m + 1) := by rw [Nat.mul_add, Nat.mul_one, Nat.pow_succ 2 (m + 1), Nat.mul_assoc]
      omega
    rw [e1, Nat.mul_add, ← Nat.mul_assoc, ← Nat.pow_add, show a + (m + 2) = a + m + 2 by omega]
  refine ⟨a, m, d, hs, ?_⟩
  rw [hs] at h
  have h1 : 2 ^ (a + m) < 2 ^ n := by
    refine Nat.lt_of_le_of_lt ?_ h
    have : 2 ^ (a + m) ≤ 2 ^ a * (2 ^ (m + 1) - 1) := by
      rw [Nat.pow_add]
      exact Nat.mul_le_mul_left _ (by rw [Nat.pow_succ] at hp ⊢; omega)
    omega
  exact (Nat.pow_lt_pow_iff_right (by omega)).1 h1

/-- The next one. -/
def nxt (a b c : Nat) : Nat := 2 ^ (a + b + 1) * (2 * c + 1) + (2 ^ b - 1)
theorem run_lt (a b : Nat) : 2 ^ a * (2 ^ (b + 1) - 1) < 2 ^ (a + b + 2) := by
  have h1 : 2 ^ a * (2 ^ (b + 1) - 1) < 2 ^ a * 2 ^ (b + 1) := Nat.mul_lt_mul_of_pos_left (by have := Nat.two_pow_pos (b + 1); omega) (Nat.two_pow_pos a)
  rw [← Nat.pow_add] at h1
  refine Nat.lt_trans h1 (Nat.pow_lt_pow_right (by omega) (by omega))
theorem low_lt (a b : Nat) : 2 ^ b - 1 < 2 ^ (a + b + 1) := by
  have h1 : 2 ^ b ≤ 2 ^ (a + b + 1) := Nat.pow_le_pow_right (by omega) (by omega)
  have := Nat.two_pow_pos b
  omega
theorem nxt_ones (a b c : Nat) : ones (nxt a b c) = ones (2 ^ (a + b + 2) * c + 2 ^ a * (2 ^ (b + 1) - 1)) := by
  unfold nxt
  rw [ones_split _ _ _ (low_lt a b), ones_split _ _ _ (run_lt a b), ones_mul, ones_full, ones_full, ones_step, show (2 * c + 1) / 2 = c by omega]
  omega
theorem nxt_srk (a b c : Nat) : srk (nxt a b c) = srk (2 ^ (a + b + 2) * c + 2 ^ a * (2 ^ (b + 1) - 1)) + 1 := by
  rw [srk_sum, srk_sum]
  unfold nxt
  have h := gsum_full (b + 1) a 0
  rw [cho_zero] at h
  rw [gsum_split _ _ _ _ _ (low_lt a b), gsum_split _ _ _ _ _ (run_lt a b), gsum_low, ones_full, gsum_mul, ones_mul, ones_full, gsum_odd]
  rw [show 0 + (a + b + 1) + 1 = 0 + (a + b + 2) by omega, show 0 + b + 1 = 0 + (b + 1) by omega, show 0 + (a + b + 1) = a + (b + 1) by omega, Nat.zero_add a]
  omega
theorem nxt_16 {a b c : Nat} (h : 2 ^ (a + b + 2) * c + 2 ^ a * (2 ^ (b + 1) - 1) < 65536) : nxt a b c < 131072 := by
  unfold nxt
  have h1 := Nat.two_pow_pos a
  have e1 : 2 ^ (a + b + 2) = 2 * 2 ^ (a + b + 1) := by rw [Nat.pow_succ]; omega
  have e2 : 2 ^ (a + b + 1) = 2 ^ a * 2 ^ (b + 1) := by rw [Nat.add_assoc, Nat.pow_add]
  have e3 : 2 ^ (a + b + 1) * (2 * c + 1) = 2 ^ (a + b + 2) * c + 2 ^ (a + b + 1) := by rw [e1, Nat.mul_add, Nat.mul_one, Nat.mul_comm 2 (2 ^ (a + b + 1)), Nat.mul_assoc]
  have e4 : 2 ^ a * (2 ^ (b + 1) - 1) + 2 ^ a = 2 ^ (a + b + 1) := by rw [e2, Nat.mul_sub, Nat.mul_one]; have : 2 ^ a ≤ 2 ^ a * 2 ^ (b + 1) := Nat.le_mul_of_pos_right _ (Nat.two_pow_pos _); omega
  have e5 : 2 ^ a ≤ 2 ^ a * (2 ^ (b + 1) - 1) := Nat.le_mul_of_pos_right _ (by have := Nat.two_pow_pos b; rw [Nat.pow_succ]; omega)
  have e6 : 2 ^ a + 2 ^ b ≤ 2 ^ a * (2 ^ (b + 1) - 1) + 1 := by
    obtain ⟨m, hm⟩ : ∃ m, 2 ^ b = m + 1 := ⟨2 ^ b - 1, by have := Nat.two_pow_pos b; omega⟩
    rw [Nat.pow_succ, hm, show (m + 1) * 2 - 1 = 2 * m + 1 by omega, Nat.mul_add, Nat.mul_one, Nat.mul_left_comm]
    have : m ≤ 2 ^ a * m := Nat.le_mul_of_pos_left _ h1
    omega
  have h2 := Nat.two_pow_pos b
  rw [e3]
  omega
theorem moved_eq (a b c : Nat) : 2 ^ (a + b + 2) * c + 2 ^ a * (2 ^ (b + 1) - 1) + 2 ^ a = 2 ^ (a + b + 1) * (2 * c + 1) := by
  have e1 : 2 ^ (a + b + 2) = 2 * 2 ^ (a + b + 1) := by rw [Nat.pow_succ]; omega
  have e2 : 2 ^ (a + b + 1) = 2 ^ a * 2 ^ (b + 1) := by rw [Nat.add_assoc, Nat.pow_add]
  have e3 : 2 ^ (a + b + 1) * (2 * c + 1) = 2 ^ (a + b + 2) * c + 2 ^ (a + b + 1) := by rw [e1, Nat.mul_add, Nat.mul_one, Nat.mul_comm 2 (2 ^ (a + b + 1)), Nat.mul_assoc]
  have e4 : 2 ^ a * (2 ^ (b + 1) - 1) + 2 ^ a = 2 ^ (a + b + 1) := by rw [e2, Nat.mul_sub, Nat.mul_one]; have : 2 ^ a ≤ 2 ^ a * 2 ^ (b + 1) := Nat.le_mul_of_pos_right _ (Nat.two_pow_pos _); omega
  rw [e3, Nat.add_assoc, e4]
theorem or_low (n q r : Nat) (h : r < 2 ^ n) : (2 ^ n * q) ||| r = 2 ^ n * q + r := (Nat.two_pow_add_eq_or_of_lt h q).symm

/-- Where there is a later set below 2^n: what the next number has. -/
theorem next_fits (n a b c : Nat) :
    nxt a b c < 2 ^ n ↔ srk (2 ^ (a + b + 2) * c + 2 ^ a * (2 ^ (b + 1) - 1)) + 1 < cho n (ones (2 ^ (a + b + 2) * c + 2 ^ a * (2 ^ (b + 1) - 1))) := by
  rw [← nxt_srk, ← nxt_ones]
  refine ⟨srk_lt, fun h => ?_⟩
  obtain ⟨h1, h2, h3⟩ := unr_ok h
  rw [← srk_inj h2 h3]
  exact h1

/-! ### Complements -/

theorem other : ∀ {n s : Nat}, s < 2 ^ n → ones s + ones (2 ^ n - 1 - s) = n ∧ srk s + srk (2 ^ n - 1 - s) + 1 = cho n (ones s)
  | 0, s, h => by rw [show s = 0 by simpa using h]; exact ⟨rfl, rfl⟩
  | n + 1, s, h => by
    rw [Nat.pow_succ] at h ⊢
    by_cases h1 : s < 2 ^ n
    · obtain ⟨i1, i2⟩ := other h1
      have e : 2 ^ n * 2 - 1 - s = 2 ^ n + (2 ^ n - 1 - s) := by omega
      have hr : 2 ^ n - 1 - s < 2 ^ n := by omega
      rw [e, ones_top hr, srk_top hr]
      refine ⟨by omega, ?_⟩
      generalize hk : ones s = k at *
      have ho : ones (2 ^ n - 1 - s) = n - k := by omega
      rw [ho]
      cases k with
      | zero =>
        rw [cho_zero] at i2
        rw [cho_over (by omega), cho_zero]
        omega
      | succ k =>
        rw [show n - (k + 1) + 1 = n - k by omega, cho_turn (by omega), cho_succ]
        omega
    · obtain ⟨r, rfl⟩ : ∃ r, s = 2 ^ n + r := ⟨s - 2 ^ n, by omega⟩
      have hr : r < 2 ^ n := by omega
      obtain ⟨i1, i2⟩ := other hr
      rw [show 2 ^ n * 2 - 1 - (2 ^ n + r) = 2 ^ n - 1 - r by omega, ones_top hr, srk_top hr, cho_succ]
      exact ⟨by omega, by omega⟩

end Go.Proofs.Ytcnljljgdkjndaa

/-
  Pascal's triangle, row by row.
-/
namespace Go.Proofs.Ytcnljljgdkjndaa

/-- Pascal's triangle, row by row. -/
def pasGo : Nat → List Nat → List Nat
  | p, [] => [p]
  | p, x :: l => (p + x) :: pasGo x l
def pas : Nat → List Nat
  | 0 => [1]
  | n + 1 => pasGo 0 (pas n)
theorem pasGo_zero : ∀ (p : Nat) (l : List Nat), (pasGo p l).getD 0 0 = p + l.getD 0 0
  | _, [] => rfl
  | _, _ :: _ => rfl
theorem pasGo_succ : ∀ (p : Nat) (l : List Nat) (k : Nat), (pasGo p l).getD (k + 1) 0 = l.getD k 0 + l.getD (k + 1) 0
  | _, [], _ => by simp [pasGo]
  | _, x :: l, 0 => by
    have := pasGo_zero x l
    simpa [pasGo] using this
  | _, x :: l, k + 1 => by
    have := pasGo_succ x l k
    simpa [pasGo] using this
theorem pas_cho : ∀ n k : Nat, (pas n).getD k 0 = cho n k
  | 0, 0 => rfl
  | 0, k + 1 => by simp [pas, cho]
  | n + 1, 0 => by
    rw [pas, pasGo_zero, pas_cho n 0, cho_zero, cho_zero]
  | n + 1, k + 1 => by
    rw [pas, pasGo_succ, pas_cho n k, pas_cho n (k + 1), cho_succ]

end Go.Proofs.Ytcnljljgdkjndaa

/-
  Balanced strings as plain mathematics: how many, errors, numbers, and back.
-/
namespace Go.Proofs.Ytcnljljgdkjndaa

/-- With so many opening and closing ones left: in how many ways, row by row. -/
def balGo (o : Nat) : Nat → Nat → List Nat → List Nat
  | _, _, [] => []
  | c, acc, x :: l => (if c < o then 0 else x + acc) :: balGo o (c + 1) (if c < o then 0 else x + acc) l
def balRow : Nat → List Nat
  | 0 => [1, 1, 1, 1, 1, 1, 1, 1, 1, 1, 1, 1, 1, 1, 1, 1]
  | o + 1 => balGo (o + 1) 0 0 (balRow o)
def bal (o c : Nat) : Nat := (balRow o).getD c 0
theorem bal_zero {c : Nat} (hc : c < 16) : bal 0 c = 1 :=
  (by decide +kernel : ∀ c : Fin 16, bal 0 c.val = 1) ⟨c, hc⟩
theorem bal_low {o c : Nat} (ho : o < 16) (hc : c < 16) (h : c < o) : bal o c = 0 :=
  (by decide +kernel : ∀ o c : Fin 16, c.val < o.val → bal o.val c.val = 0) ⟨o, ho⟩ ⟨c, hc⟩ h
theorem bal_step {o c : Nat} (hc : c < 15) (h : o ≤ c) : bal (o + 1) (c + 1) = bal o (c + 1) + bal (o + 1) c :=
  (by decide +kernel : ∀ o c : Fin 15, o.val ≤ c.val → bal (o.val + 1) (c.val + 1) = bal o.val (c.val + 1) + bal (o.val + 1) c.val) ⟨o, by omega⟩ ⟨c, hc⟩ h
theorem bal_le {o c : Nat} (ho : o < 16) (hc : c < 16) : bal o c ≤ 9694845 :=
  (by decide +kernel : ∀ o c : Fin 16, bal o.val c.val ≤ 9694845) ⟨o, ho⟩ ⟨c, hc⟩
theorem bal_pos {o c : Nat} (hc : c < 16) (h : o ≤ c) : 0 < bal o c :=
  (by decide +kernel : ∀ o c : Fin 16, o.val ≤ c.val → 0 < bal o.val c.val) ⟨o, by omega⟩ ⟨c, hc⟩ h
/-- Those that go on with an opening one. -/
def balOp (o c : Nat) : Nat := if 0 < o then bal (o - 1) c else 0
theorem bal_op {o c : Nat} (hc : c < 16) (h0 : 0 < c) (h : o ≤ c) : bal o c = balOp o c + bal o (c - 1) :=
  (by decide +kernel : ∀ o c : Fin 16, 0 < c.val → o.val ≤ c.val → bal o.val c.val = balOp o.val c.val + bal o.val (c.val - 1)) ⟨o, by omega⟩ ⟨c, hc⟩ h0 h
theorem balOp_le {o c : Nat} (ho : o < 16) (hc : c < 16) : balOp o c ≤ 9694845 := by
  unfold balOp
  split
  · exact bal_le (by omega) hc
  · omega

/-- What is wrong with a string, from a height on. -/
def perr : List UInt8 → Nat → Int
  | [], h => if 0 < h then 6 else 0
  | x :: l, h => if x = 40 then perr l (h + 1) else if x = 41 then (if h = 0 then 3 else perr l (h - 1)) else 1
def nestE (l : List UInt8) : Int := if 30 < l.length then 2 else perr l 0

theorem perr_open (l : List UInt8) (h : Nat) : perr (40 :: l) h = perr l (h + 1) := rfl
theorem perr_close (l : List UInt8) (h : Nat) (hh : 0 < h) : perr (41 :: l) h = perr l (h - 1) := by
  rw [perr, if_neg (by decide), if_pos rfl, if_neg (by omega)]
/-- What is right ends at the bottom. -/
theorem perr_len : ∀ (l : List UInt8) (h : Nat), perr l h = 0 → h ≤ l.length ∧ (l.length - h) % 2 = 0
  | [], h, e => by
    simp only [perr] at e
    split at e
    · omega
    · simp; omega
  | x :: l, h, e => by
    simp only [perr] at e
    split at e
    · have := perr_len l (h + 1) e
      simp only [List.length_cons]
      omega
    · split at e
      · split at e
        · omega
        · have := perr_len l (h - 1) e
          simp only [List.length_cons]
          omega
      · omega
theorem perr_first {x : UInt8} {l : List UInt8} {h : Nat} (e : perr (x :: l) h = 0) : (x = 40 ∧ perr l (h + 1) = 0) ∨ (x = 41 ∧ 0 < h ∧ perr l (h - 1) = 0) := by
  simp only [perr] at e
  split at e
  · exact .inl ⟨‹_›, e⟩
  · split at e
    · split at e
      · omega
      · exact .inr ⟨‹_›, by omega, e⟩
    · omega

/-- The number of a string, with so many left. -/
def nrk : List UInt8 → Nat → Nat → Nat
  | [], _, _ => 0
  | x :: l, o, c => if x = 40 then nrk l (o - 1) c else balOp o c + nrk l o (c - 1)
theorem nrk_le : ∀ (l : List UInt8) (o c : Nat), o < 16 → c < 16 → nrk l o c ≤ 9694845 * l.length
  | [], _, _, _, _ => Nat.zero_le _
  | x :: l, o, c, ho, hc => by
    rw [nrk, List.length_cons]
    split
    · have := nrk_le l (o - 1) c (by omega) hc
      omega
    · have h1 := nrk_le l o (c - 1) ho (by omega)
      have h2 := balOp_le ho hc
      omega
/-- The string of a number. -/
def nun : Nat → Nat → Nat → Nat → List UInt8
  | 0, _, _, _ => []
  | f + 1, o, c, k => if k < balOp o c then 40 :: nun f (o - 1) c k else 41 :: nun f o (c - 1) (k - balOp o c)
theorem nun_len : ∀ (f o c k : Nat), (nun f o c k).length = f
  | 0, _, _, _ => rfl
  | f + 1, o, c, k => by
    rw [nun]
    split
    · rw [List.length_cons, nun_len]
    · rw [List.length_cons, nun_len]
theorem balOp_pos {o c k : Nat} (h : k < balOp o c) : 0 < o ∧ k < bal (o - 1) c := by
  unfold balOp at h
  split at h
  · exact ⟨‹_›, h⟩
  · omega
theorem nun_rest {o c k : Nat} (hc : c < 16) (h0 : 0 < c) (h : o ≤ c) (hk : k < bal o c) (hn : ¬ k < balOp o c) : k - balOp o c < bal o (c - 1) ∧ o ≤ c - 1 := by
  have h1 := bal_op hc h0 h
  refine ⟨by omega, ?_⟩
  by_cases e : c - 1 < o
  · have := bal_low (o := o) (c := c - 1) (by omega) (by omega) e
    omega
  · omega
theorem nun_ok : ∀ (f o c k : Nat), f = o + c → o ≤ c → c < 16 → k < bal o c → perr (nun f o c k) (c - o) = 0 ∧ nrk (nun f o c k) o c = k
  | 0, o, c, k, hf, ho, hc, hk => by
    have : o = 0 := by omega
    subst this
    have : c = 0 := by omega
    subst this
    rw [bal_zero hc] at hk
    exact ⟨rfl, by rw [nun, nrk]; omega⟩
  | f + 1, o, c, k, hf, ho, hc, hk => by
    rw [nun]
    by_cases h : k < balOp o c
    · rw [if_pos h]
      obtain ⟨h1, h2⟩ := balOp_pos h
      have := nun_ok f (o - 1) c k (by omega) (by omega) hc h2
      rw [perr_open, nrk, if_pos rfl, show c - o + 1 = c - (o - 1) by omega]
      exact this
    · rw [if_neg h]
      obtain ⟨h1, h2⟩ := nun_rest hc (by omega) ho hk h
      have := nun_ok f o (c - 1) (k - balOp o c) (by omega) h2 (by omega) h1
      rw [perr_close _ _ (by omega), nrk, if_neg (by decide), show c - o - 1 = c - 1 - o by omega]
      refine ⟨this.1, ?_⟩
      rw [this.2]
      omega
theorem nun_nest {n k : Nat} (hn : n < 16) (hk : k < bal n n) : nestE (nun (n + n) n n k) = 0 ∧ nrk (nun (n + n) n n k) n n = k := by
  have := nun_ok (n + n) n n k rfl (Nat.le_refl _) hn hk
  rw [Nat.sub_self] at this
  refine ⟨?_, this.2⟩
  unfold nestE
  rw [nun_len, if_neg (by omega)]
  exact this.1

end Go.Proofs.Ytcnljljgdkjndaa

/-
  How many orders have at most two rows in their tableau; no program, no memory.
-/
namespace Go.Proofs.Ytcnljljgdkjndaa

/-- Of the first j orders of k numbers: those whose tableau has at most two rows. -/
def fewN (k : Nat) : Nat → Nat
  | 0 => 0
  | j + 1 => fewN k j + (if (PT (atL k j)).length ≤ 2 then 1 else 0)
set_option maxRecDepth 100000 in
theorem few_all : ∀ k : Fin 7, fewN k.val (fact k.val) = bal k.val k.val := by decide +kernel
theorem few_at {k : Nat} (h : k < 7) : fewN k (fact k) = bal k k := few_all ⟨k, h⟩
theorem fewN_le (k : Nat) : ∀ j, fewN k j ≤ j
  | 0 => Nat.le_refl _
  | j + 1 => by
    have := fewN_le k j
    rw [fewN]
    split <;> omega
end Go.Proofs.Ytcnljljgdkjndaa
