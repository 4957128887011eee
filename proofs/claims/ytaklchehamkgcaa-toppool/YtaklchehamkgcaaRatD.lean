/-
  ratio.Make, Add, Mul, Div, Less.
-/
import Derived.Test.YtaklchehamkgcaaRatC
namespace Go.Proofs.Ytaklchehamkgcaa
open Go.RowKit

/-- What is said of a call that hands out yes or no, and an error. -/
def RetB (w : World) (b : Bool) (er : Int) (e : Ending) (w' : World) : Prop := e = .returned (.tuple #[.bool b, .int .i64 er]) ∧ Below w.heap.size w w'

theorem bothErr_ok {x y : Rat} (hx : RFits x) (hy : RFits y) : bothErr x.num (x.den : Int) y.num (y.den : Int) = 0 := by
  unfold bothErr
  rw [ratioErr_of hx, ratioErr_of hy]
  rfl
theorem div_ne {y : Rat} (h : y ≠ 0) (x : Rat) : (x.den : Int) * y.num ≠ 0 := by
  have h1 := x.den_pos
  exact Int.mul_ne_zero (by omega) (fun e => h (Rat.num_eq_zero.1 e))
theorem two_alloc (w : World) (o1 o2 : Obj) : Below w.heap.size w ((w.alloc o1).alloc o2) := below_step (below_alloc w _) (Nat.le_refl _) (below_alloc _ _)
theorem rat_second (w : World) (o : Obj) (t : TypeId) (P Q : Int) : RatAt ((w.alloc o).alloc (.cells #[.int .i64 P, .int .i64 Q] t)) (w.heap.size + 1) P Q := by
  have h := RatAt.new (w.alloc o) t P Q
  rwa [show (w.alloc o).heap.size = w.heap.size + 1 by simp] at h
theorem rat_third (w : World) (o o2 : Obj) (t : TypeId) (P Q : Int) : RatAt (((w.alloc o).alloc o2).alloc (.cells #[.int .i64 P, .int .i64 Q] t)) (w.heap.size + 2) P Q := by
  have h := RatAt.new ((w.alloc o).alloc o2) t P Q
  rwa [show ((w.alloc o).alloc o2).heap.size = w.heap.size + 2 by simp] at h
theorem three_alloc (w : World) (o1 o2 o3 : Obj) : Below w.heap.size w (((w.alloc o1).alloc o2).alloc o3) := below_step (two_alloc w o1 o2) (Nat.le_refl _) (below_alloc _ _)

set_option maxHeartbeats 800000 in
theorem radd_bad (P Q P' Q' : Int) (w : World) (h : bothErr P Q P' Q' ≠ 0) :
    Calls Try.prog 37 #[.agg #[.int .i64 P, .int .i64 Q], .agg #[.int .i64 P', .int .i64 Q']] w (RetR w 0 0 (bothErr P Q P' Q')) := by
  have HB0 : Hid (Below w.heap.size w (((w.alloc (.cells #[.int .i64 P, .int .i64 Q] 56)).alloc (.cells #[.int .i64 P', .int .i64 Q'] 56)).alloc (.cells #[.int .i64 0, .int .i64 0] 56))) := three_alloc w _ _ _
  have HZ : Hid (RatAt (((w.alloc (.cells #[.int .i64 P, .int .i64 Q] 56)).alloc (.cells #[.int .i64 P', .int .i64 Q'] 56)).alloc (.cells #[.int .i64 0, .int .i64 0] 56)) (w.heap.size + 2) 0 0) := rat_third w _ _ _ 0 0
  have hne : (bothErr P Q P' Q' != 0) = true := by simpa using h
  clear h
  go_enter Try.func37, Try.ntmps37
  go_wp2_with fail
  refine (checkBoth_any _ _ _ _ _).mono ?_
  rintro e w1 ⟨rfl, hb⟩
  have hz := HZ.out.keep hb
  have g0 := hz.p0
  have g1 := hz.p1
  have f0 := hz.f0
  have f1 := hz.f1
  have HB1 := hid (below_step HB0.out (by simp) hb)
  clear hz hb HB0 HZ
  generalize bothErr P Q P' Q' = er at *
  go_wp2
  (try simp only [Exit.inBlock, Exit.then])
  refine bodyPost_ret (v := .tuple #[.agg #[.int .i64 0, .int .i64 0], .int .i64 er]) ?_ rfl ⟨rfl, HB1.out.trans (below_set2 (by omega))⟩
  rw [results_cell_tmp rfl]
  go_simp

set_option maxHeartbeats 800000 in
theorem radd_ok (x y : Rat) (w : World) (hx : RFits x) (hy : RFits y) :
    Calls Try.prog 37 #[.agg #[.int .i64 x.num, .int .i64 (x.den : Int)], .agg #[.int .i64 y.num, .int .i64 (y.den : Int)]] w (RetR w (outP (x + y)) (outQ (x + y)) (outE (x + y))) := by
  have HE := hid (bothErr_ok hx hy)
  have HQ := hid (add_eq x y)
  have h0 := den_ne x y
  obtain ⟨x1, x2, x3⟩ := hx
  obtain ⟨y1, y2, y3⟩ := hy
  have x4 : (1 : Int) ≤ (x.den : Int) := by have := x.den_pos; omega
  have y4 : (1 : Int) ≤ (y.den : Int) := by have := y.den_pos; omega
  generalize hr : x + y = r at *
  clear hr
  generalize x.num = P at *
  generalize (x.den : Int) = Q at *
  generalize y.num = P' at *
  generalize (y.den : Int) = Q' at *
  obtain ⟨m1, m1'⟩ : -1000000000000000000 ≤ P * Q' ∧ P * Q' ≤ 1000000000000000000 := mul_bd18 (by omega) (by omega) (by omega) (by omega)
  obtain ⟨m2, m2'⟩ : -1000000000000000000 ≤ P' * Q ∧ P' * Q ≤ 1000000000000000000 := mul_bd18 (by omega) (by omega) (by omega) (by omega)
  obtain ⟨m3, m3'⟩ : -1000000000000000000 ≤ Q * Q' ∧ Q * Q' ≤ 1000000000000000000 := mul_bd18 (by omega) (by omega) (by omega) (by omega)
  have HB0 : Hid (Below w.heap.size w (((w.alloc (.cells #[.int .i64 P, .int .i64 Q] 56)).alloc (.cells #[.int .i64 P', .int .i64 Q'] 56)).alloc (.cells #[.int .i64 0, .int .i64 0] 56))) := three_alloc w _ _ _
  have HX : Hid (RatAt (((w.alloc (.cells #[.int .i64 P, .int .i64 Q] 56)).alloc (.cells #[.int .i64 P', .int .i64 Q'] 56)).alloc (.cells #[.int .i64 0, .int .i64 0] 56)) w.heap.size P Q) := ((RatAt.new w 56 P Q).keep_alloc (.cells #[.int .i64 P', .int .i64 Q'] 56)).keep_alloc (.cells #[.int .i64 0, .int .i64 0] 56)
  have HY : Hid (RatAt (((w.alloc (.cells #[.int .i64 P, .int .i64 Q] 56)).alloc (.cells #[.int .i64 P', .int .i64 Q'] 56)).alloc (.cells #[.int .i64 0, .int .i64 0] 56)) (w.heap.size + 1) P' Q') := (rat_second w (.cells #[.int .i64 P, .int .i64 Q] 56) 56 P' Q').keep_alloc (.cells #[.int .i64 0, .int .i64 0] 56)
  have HZ : Hid (RatAt (((w.alloc (.cells #[.int .i64 P, .int .i64 Q] 56)).alloc (.cells #[.int .i64 P', .int .i64 Q'] 56)).alloc (.cells #[.int .i64 0, .int .i64 0] 56)) (w.heap.size + 2) 0 0) := rat_third w _ _ _ 0 0
  go_enter Try.func37, Try.ntmps37
  go_wp2_with fail
  refine (checkBoth_any _ _ _ _ _).mono ?_
  rintro e w1 ⟨rfl, hb⟩
  rw [HE.out]
  have g0 := (HX.out.keep hb).p0
  have g1 := (HX.out.keep hb).p1
  have g2 := (HY.out.keep hb).p0
  have g3 := (HY.out.keep hb).p1
  have HZ1 := hid (HZ.out.keep hb)
  have HB1 := hid (below_step HB0.out (by simp) hb)
  clear hb HB0 HZ HX HY HE
  go_wp2_with fail
  refine (lowest_any (P * Q' + P' * Q) (Q * Q') w1 ⟨by omega, by omega⟩ ⟨by omega, by omega⟩ h0).mono ?_
  rintro e w2 ⟨rfl, hb⟩
  rw [HQ.out]
  clear g0 g1 g2 g3
  have hz := HZ1.out.keep hb
  have g0 := hz.p0
  have g1 := hz.p1
  have f0 := hz.f0
  have f1 := hz.f1
  have HB2 := hid (below_step HB1.out (Nat.le_refl _) hb)
  clear hz hb HB1 HZ1
  generalize outP r = n at *
  generalize outQ r = d at *
  generalize outE r = er at *
  go_wp2
  (try simp only [Exit.inBlock, Exit.then])
  refine bodyPost_ret (v := .tuple #[.agg #[.int .i64 n, .int .i64 d], .int .i64 er]) ?_ rfl ⟨rfl, HB2.out.trans (below_set2 (by omega))⟩
  rw [results_cell_tmp rfl]
  go_simp

theorem fits_make {p q : Int} (hp : -1000000000 ≤ p) (hp' : p ≤ 1000000000) (hq : -1000000000 ≤ q) (hq' : q ≤ 1000000000) (h0 : q ≠ 0) : RFits (Rat.divInt p q) := by
  have h1 := num_le p q h0
  have h2 := den_le p q h0
  unfold RFits
  omega

end Go.Proofs.Ytaklchehamkgcaa
