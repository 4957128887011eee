/-
  castkeep.RatioBetween, walked.
-/
import Derived.Test.YtcnljljgdkjndaaRatI
namespace Go.Proofs.Ytcnljljgdkjndaa
open Go.RowKit

theorem med_ints {a b c d n m : Int} (hb : 0 < b) (hd : 0 < d) (hm : 0 < m) (h : a * d < c * b) (e : n * (b + d) = (a + c) * m) : a * m < n * b ∧ n * d < c * m := by
  have hs : 0 < b + d := by omega
  have k : 0 < m * (c * b - a * d) := Int.mul_pos hm (by omega)
  constructor
  · refine Int.lt_of_mul_lt_mul_right (a := b + d) ?_ (by omega)
    have h1 : n * b * (b + d) = b * ((a + c) * m) := by rw [← e]; grind
    rw [h1]
    grind
  · refine Int.lt_of_mul_lt_mul_right (a := b + d) ?_ (by omega)
    have h1 : n * d * (b + d) = d * ((a + c) * m) := by rw [← e]; grind
    rw [h1]
    grind

theorem cross_of {p q : Int} (h0 : q ≠ 0) : (Rat.divInt p q).num * q = p * ((Rat.divInt p q).den : Int) := by
  have h2 := Rat.den_pos (Rat.divInt p q)
  exact (Rat.divInt_eq_divInt_iff (by omega) h0).1 (Rat.num_divInt_den (Rat.divInt p q))

/-- FAREY: the mediant lies between. -/
theorem mediant {x y : Rat} (h : x < y) : x < Rat.divInt (x.num + y.num) ((x.den : Int) + (y.den : Int)) ∧ Rat.divInt (x.num + y.num) ((x.den : Int) + (y.den : Int)) < y := by
  have h1 := x.den_pos
  have h2 := y.den_pos
  have e := cross_of (p := x.num + y.num) (q := (x.den : Int) + (y.den : Int)) (by omega)
  have h3 := Rat.den_pos (Rat.divInt (x.num + y.num) ((x.den : Int) + (y.den : Int)))
  rw [Rat.lt_iff] at h
  rw [Rat.lt_iff, Rat.lt_iff]
  generalize Rat.divInt (x.num + y.num) ((x.den : Int) + (y.den : Int)) = z at *
  exact med_ints (by omega) (by omega) (by omega) h e

set_option maxHeartbeats 2000000 in
set_option maxRecDepth 100000 in
theorem ratioBetween_bad (P1 Q1 P2 Q2 : Int) (er : Int) (he : er ≠ 0) (h1 : (∀ W, Calls Try.prog 14 #[.agg #[.int .i64 P1, .int .i64 Q1], .agg #[.int .i64 P2, .int .i64 Q2]] W (RetB W false er))) (w : World) :
    Calls Try.prog 7 #[.agg #[.int .i64 P1, .int .i64 Q1], .agg #[.int .i64 P2, .int .i64 Q2]] w fun e w' => e = .returned (.bool true) ∧ Below w.heap.size w w' := by
  have hne : (er != 0) = true := by simpa using he
  clear he
  have h1' := hid h1
  clear h1
  have HB0 := hid (Below.refl w.heap.size w)
  have R0_x : Hid (RatAt ((w.alloc (.cells #[.int .i64 P1, .int .i64 Q1] 23)).alloc (.cells #[.int .i64 P2, .int .i64 Q2] 23)) w.heap.size (P1) (Q1)) := (RatAt.new w 23 (P1) (Q1)).keep_alloc (.cells #[.int .i64 (P2), .int .i64 (Q2)] 23)
  have R0_y : Hid (RatAt ((w.alloc (.cells #[.int .i64 P1, .int .i64 Q1] 23)).alloc (.cells #[.int .i64 P2, .int .i64 Q2] 23)) (w.heap.size + 1) (P2) (Q2)) := rat_second w _ 23 (P2) (Q2)
  have HBx : Hid (Below w.heap.size w ((w.alloc (.cells #[.int .i64 P1, .int .i64 Q1] 23)).alloc (.cells #[.int .i64 P2, .int .i64 Q2] 23))) := two_alloc w _ _
  clear HB0
  have HB0 := HBx
  clear HBx
  go_enter Try.func7, Try.ntmps7
  go_wp2_with fail
  refine (ratios_any _).mono ?_
  rintro e w1 ⟨rfl, hb⟩
  have R1_x := hid ((R0_x.out).keep hb)
  have R1_y := hid ((R0_y.out).keep hb)
  have HB1 := hid (below_step HB0.out (Nat.le_refl _) hb)
  clear hb HB0 R0_x R0_y
  have g0_x := R1_x.out.p0
  have g1_x := R1_x.out.p1
  have gl_x := R1_x.out.lt
  have g0_y := R1_y.out.p0
  have g1_y := R1_y.out.p1
  have gl_y := R1_y.out.lt
  go_wp2_with fail
  refine (h1'.out _).mono ?_
  rintro e w2 ⟨rfl, hb⟩
  clear g0_x g1_x gl_x g0_y g1_y gl_y
  have R2_x := hid ((R1_x.out).keep hb)
  have R2_y := hid ((R1_y.out).keep hb)
  have HB2 := hid (below_step HB1.out (Nat.le_refl _) hb)
  clear hb HB1 R1_x R1_y
  have g0_x := R2_x.out.p0
  have g1_x := R2_x.out.p1
  have gl_x := R2_x.out.lt
  have g0_y := R2_y.out.p0
  have g1_y := R2_y.out.p1
  have gl_y := R2_y.out.lt
  go_wp2
  go_ret
  exact ⟨rfl, HB2.out⟩

set_option maxHeartbeats 2000000 in
set_option maxRecDepth 100000 in
theorem ratioBetween_not (P1 Q1 P2 Q2 : Int) (h1 : (∀ W, Calls Try.prog 14 #[.agg #[.int .i64 P1, .int .i64 Q1], .agg #[.int .i64 P2, .int .i64 Q2]] W (RetB W false 0))) (w : World) :
    Calls Try.prog 7 #[.agg #[.int .i64 P1, .int .i64 Q1], .agg #[.int .i64 P2, .int .i64 Q2]] w fun e w' => e = .returned (.bool true) ∧ Below w.heap.size w w' := by
  have h1' := hid h1
  clear h1
  have HB0 := hid (Below.refl w.heap.size w)
  have R0_x : Hid (RatAt ((w.alloc (.cells #[.int .i64 P1, .int .i64 Q1] 23)).alloc (.cells #[.int .i64 P2, .int .i64 Q2] 23)) w.heap.size (P1) (Q1)) := (RatAt.new w 23 (P1) (Q1)).keep_alloc (.cells #[.int .i64 (P2), .int .i64 (Q2)] 23)
  have R0_y : Hid (RatAt ((w.alloc (.cells #[.int .i64 P1, .int .i64 Q1] 23)).alloc (.cells #[.int .i64 P2, .int .i64 Q2] 23)) (w.heap.size + 1) (P2) (Q2)) := rat_second w _ 23 (P2) (Q2)
  have HBx : Hid (Below w.heap.size w ((w.alloc (.cells #[.int .i64 P1, .int .i64 Q1] 23)).alloc (.cells #[.int .i64 P2, .int .i64 Q2] 23))) := two_alloc w _ _
  clear HB0
  have HB0 := HBx
  clear HBx
  go_enter Try.func7, Try.ntmps7
  go_wp2_with fail
  refine (ratios_any _).mono ?_
  rintro e w1 ⟨rfl, hb⟩
  have R1_x := hid ((R0_x.out).keep hb)
  have R1_y := hid ((R0_y.out).keep hb)
  have HB1 := hid (below_step HB0.out (Nat.le_refl _) hb)
  clear hb HB0 R0_x R0_y
  have g0_x := R1_x.out.p0
  have g1_x := R1_x.out.p1
  have gl_x := R1_x.out.lt
  have g0_y := R1_y.out.p0
  have g1_y := R1_y.out.p1
  have gl_y := R1_y.out.lt
  go_wp2_with fail
  refine (h1'.out _).mono ?_
  rintro e w2 ⟨rfl, hb⟩
  clear g0_x g1_x gl_x g0_y g1_y gl_y
  have R2_x := hid ((R1_x.out).keep hb)
  have R2_y := hid ((R1_y.out).keep hb)
  have HB2 := hid (below_step HB1.out (Nat.le_refl _) hb)
  clear hb HB1 R1_x R1_y
  have g0_x := R2_x.out.p0
  have g1_x := R2_x.out.p1
  have gl_x := R2_x.out.lt
  have g0_y := R2_y.out.p0
  have g1_y := R2_y.out.p1
  have gl_y := R2_y.out.lt
  go_wp2
  go_ret
  exact ⟨rfl, HB2.out⟩

set_option maxHeartbeats 2000000 in
set_option maxRecDepth 100000 in
theorem ratioBetween_arg (P1 Q1 P2 Q2 : Int) (p1 : -1000000000 ≤ P1) (p1' : P1 ≤ 1000000000) (q1 : 1 ≤ Q1) (q1' : Q1 ≤ 1000000000) (p2 : -1000000000 ≤ P2) (p2' : P2 ≤ 1000000000) (q2 : 1 ≤ Q2) (q2' : Q2 ≤ 1000000000) (h1 : (∀ W, Calls Try.prog 14 #[.agg #[.int .i64 P1, .int .i64 Q1], .agg #[.int .i64 P2, .int .i64 Q2]] W (RetB W true 0))) (h2 : (∀ W, Calls Try.prog 10 #[.int .i64 (P1 + P2), .int .i64 (Q1 + Q2)] W (RetR W 0 0 1))) (w : World) :
    Calls Try.prog 7 #[.agg #[.int .i64 P1, .int .i64 Q1], .agg #[.int .i64 P2, .int .i64 Q2]] w fun e w' => e = .returned (.bool true) ∧ Below w.heap.size w w' := by
  have h1' := hid h1
  clear h1
  have h2' := hid h2
  clear h2
  have HB0 := hid (Below.refl w.heap.size w)
  have R0_x : Hid (RatAt ((w.alloc (.cells #[.int .i64 P1, .int .i64 Q1] 23)).alloc (.cells #[.int .i64 P2, .int .i64 Q2] 23)) w.heap.size (P1) (Q1)) := (RatAt.new w 23 (P1) (Q1)).keep_alloc (.cells #[.int .i64 (P2), .int .i64 (Q2)] 23)
  have R0_y : Hid (RatAt ((w.alloc (.cells #[.int .i64 P1, .int .i64 Q1] 23)).alloc (.cells #[.int .i64 P2, .int .i64 Q2] 23)) (w.heap.size + 1) (P2) (Q2)) := rat_second w _ 23 (P2) (Q2)
  have HBx : Hid (Below w.heap.size w ((w.alloc (.cells #[.int .i64 P1, .int .i64 Q1] 23)).alloc (.cells #[.int .i64 P2, .int .i64 Q2] 23))) := two_alloc w _ _
  clear HB0
  have HB0 := HBx
  clear HBx
  go_enter Try.func7, Try.ntmps7
  go_wp2_with fail
  refine (ratios_any _).mono ?_
  rintro e w1 ⟨rfl, hb⟩
  have R1_x := hid ((R0_x.out).keep hb)
  have R1_y := hid ((R0_y.out).keep hb)
  have HB1 := hid (below_step HB0.out (Nat.le_refl _) hb)
  clear hb HB0 R0_x R0_y
  have g0_x := R1_x.out.p0
  have g1_x := R1_x.out.p1
  have gl_x := R1_x.out.lt
  have g0_y := R1_y.out.p0
  have g1_y := R1_y.out.p1
  have gl_y := R1_y.out.lt
  go_wp2_with fail
  refine (h1'.out _).mono ?_
  rintro e w2 ⟨rfl, hb⟩
  clear g0_x g1_x gl_x g0_y g1_y gl_y
  have R2_x := hid ((R1_x.out).keep hb)
  have R2_y := hid ((R1_y.out).keep hb)
  have HB2 := hid (below_step HB1.out (Nat.le_refl _) hb)
  clear hb HB1 R1_x R1_y
  have g0_x := R2_x.out.p0
  have g1_x := R2_x.out.p1
  have gl_x := R2_x.out.lt
  have g0_y := R2_y.out.p0
  have g1_y := R2_y.out.p1
  have gl_y := R2_y.out.lt
  go_wp2_with fail
  refine (h2'.out _).mono ?_
  rintro e w3 ⟨rfl, hb⟩
  clear g0_x g1_x gl_x g0_y g1_y gl_y
  have R3_x := hid ((R2_x.out).keep hb)
  have R3_y := hid ((R2_y.out).keep hb)
  have HB3 := hid (below_step HB2.out (Nat.le_refl _) hb)
  clear hb HB2 R2_x R2_y
  have g0_x := R3_x.out.p0
  have g1_x := R3_x.out.p1
  have gl_x := R3_x.out.lt
  have g0_y := R3_y.out.p0
  have g1_y := R3_y.out.p1
  have gl_y := R3_y.out.lt
  go_wp2
  go_ret
  exact ⟨rfl, below_step HB3.out (Nat.le_refl _) (below_alloc w3 (.cells #[.int .i64 (0), .int .i64 (0)] 23))⟩

set_option maxHeartbeats 2000000 in
set_option maxRecDepth 100000 in
theorem ratioBetween_ok (P1 Q1 P2 Q2 : Int) (P3 Q3 : Int) (p1 : -1000000000 ≤ P1) (p1' : P1 ≤ 1000000000) (q1 : 1 ≤ Q1) (q1' : Q1 ≤ 1000000000) (p2 : -1000000000 ≤ P2) (p2' : P2 ≤ 1000000000) (q2 : 1 ≤ Q2) (q2' : Q2 ≤ 1000000000) (h1 : (∀ W, Calls Try.prog 14 #[.agg #[.int .i64 P1, .int .i64 Q1], .agg #[.int .i64 P2, .int .i64 Q2]] W (RetB W true 0))) (h2 : (∀ W, Calls Try.prog 10 #[.int .i64 (P1 + P2), .int .i64 (Q1 + Q2)] W (RetR W P3 Q3 0))) (h3 : (∀ W, Calls Try.prog 14 #[.agg #[.int .i64 P1, .int .i64 Q1], .agg #[.int .i64 P3, .int .i64 Q3]] W (RetB W true 0))) (h4 : (∀ W, Calls Try.prog 14 #[.agg #[.int .i64 P3, .int .i64 Q3], .agg #[.int .i64 P2, .int .i64 Q2]] W (RetB W true 0))) (w : World) :
    Calls Try.prog 7 #[.agg #[.int .i64 P1, .int .i64 Q1], .agg #[.int .i64 P2, .int .i64 Q2]] w fun e w' => e = .returned (.bool true) ∧ Below w.heap.size w w' := by
  have h1' := hid h1
  clear h1
  have h2' := hid h2
  clear h2
  have h3' := hid h3
  clear h3
  have h4' := hid h4
  clear h4
  have HB0 := hid (Below.refl w.heap.size w)
  have R0_x : Hid (RatAt ((w.alloc (.cells #[.int .i64 P1, .int .i64 Q1] 23)).alloc (.cells #[.int .i64 P2, .int .i64 Q2] 23)) w.heap.size (P1) (Q1)) := (RatAt.new w 23 (P1) (Q1)).keep_alloc (.cells #[.int .i64 (P2), .int .i64 (Q2)] 23)
  have R0_y : Hid (RatAt ((w.alloc (.cells #[.int .i64 P1, .int .i64 Q1] 23)).alloc (.cells #[.int .i64 P2, .int .i64 Q2] 23)) (w.heap.size + 1) (P2) (Q2)) := rat_second w _ 23 (P2) (Q2)
  have HBx : Hid (Below w.heap.size w ((w.alloc (.cells #[.int .i64 P1, .int .i64 Q1] 23)).alloc (.cells #[.int .i64 P2, .int .i64 Q2] 23))) := two_alloc w _ _
  clear HB0
  have HB0 := HBx
  clear HBx
  go_enter Try.func7, Try.ntmps7
  go_wp2_with fail
  refine (ratios_any _).mono ?_
  rintro e w1 ⟨rfl, hb⟩
  have R1_x := hid ((R0_x.out).keep hb)
  have R1_y := hid ((R0_y.out).keep hb)
  have HB1 := hid (below_step HB0.out (Nat.le_refl _) hb)
  clear hb HB0 R0_x R0_y
  have g0_x := R1_x.out.p0
  have g1_x := R1_x.out.p1
  have gl_x := R1_x.out.lt
  have g0_y := R1_y.out.p0
  have g1_y := R1_y.out.p1
  have gl_y := R1_y.out.lt
  go_wp2_with fail
  refine (h1'.out _).mono ?_
  rintro e w2 ⟨rfl, hb⟩
  clear g0_x g1_x gl_x g0_y g1_y gl_y
  have R2_x := hid ((R1_x.out).keep hb)
  have R2_y := hid ((R1_y.out).keep hb)
  have HB2 := hid (below_step HB1.out (Nat.le_refl _) hb)
  clear hb HB1 R1_x R1_y
  have g0_x := R2_x.out.p0
  have g1_x := R2_x.out.p1
  have gl_x := R2_x.out.lt
  have g0_y := R2_y.out.p0
  have g1_y := R2_y.out.p1
  have gl_y := R2_y.out.lt
  go_wp2_with fail
  refine (h2'.out _).mono ?_
  rintro e w3 ⟨rfl, hb⟩
  clear g0_x g1_x gl_x g0_y g1_y gl_y
  have R3_x := hid ((R2_x.out).keep hb)
  have R3_y := hid ((R2_y.out).keep hb)
  have HB3 := hid (below_step HB2.out (Nat.le_refl _) hb)
  clear hb HB2 R2_x R2_y
  have g0_x := R3_x.out.p0
  have g1_x := R3_x.out.p1
  have gl_x := R3_x.out.lt
  have g0_y := R3_y.out.p0
  have g1_y := R3_y.out.p1
  have gl_y := R3_y.out.lt
  go_wp2_with fail
  refine (h3'.out _).mono ?_
  rintro e w4 ⟨rfl, hb⟩
  clear g0_x g1_x gl_x g0_y g1_y gl_y
  have R4_x := hid (((R3_x.out).keep_alloc (.cells #[.int .i64 (P3), .int .i64 (Q3)] 23)).keep hb)
  have R4_y := hid (((R3_y.out).keep_alloc (.cells #[.int .i64 (P3), .int .i64 (Q3)] 23)).keep hb)
  have R4_z := hid ((RatAt.new w3 23 (P3) (Q3)).keep hb)
  have HB4 := hid (below_step (below_step HB3.out (Nat.le_refl _) (below_alloc w3 (.cells #[.int .i64 (P3), .int .i64 (Q3)] 23))) (Nat.le_refl _) hb)
  clear hb HB3 R3_x R3_y
  have g0_x := R4_x.out.p0
  have g1_x := R4_x.out.p1
  have gl_x := R4_x.out.lt
  have g0_y := R4_y.out.p0
  have g1_y := R4_y.out.p1
  have gl_y := R4_y.out.lt
  have g0_z := R4_z.out.p0
  have g1_z := R4_z.out.p1
  have gl_z := R4_z.out.lt
  go_wp2_with fail
  refine (h4'.out _).mono ?_
  rintro e w5 ⟨rfl, hb⟩
  clear g0_x g1_x gl_x g0_y g1_y gl_y g0_z g1_z gl_z
  have R5_x := hid ((R4_x.out).keep hb)
  have R5_y := hid ((R4_y.out).keep hb)
  have R5_z := hid ((R4_z.out).keep hb)
  have HB5 := hid (below_step HB4.out (Nat.le_refl _) hb)
  clear hb HB4 R4_x R4_y R4_z
  have g0_x := R5_x.out.p0
  have g1_x := R5_x.out.p1
  have gl_x := R5_x.out.lt
  have g0_y := R5_y.out.p0
  have g1_y := R5_y.out.p1
  have gl_y := R5_y.out.lt
  have g0_z := R5_z.out.p0
  have g1_z := R5_z.out.p1
  have gl_z := R5_z.out.lt
  go_wp2_with fail
  refine (good_bel _ _ _ 2 [0, 0] rfl rfl (by omega)).mono ?_
  rintro e w6 ⟨rfl, hb⟩
  clear g0_x g1_x gl_x g0_y g1_y gl_y g0_z g1_z gl_z
  rw [show allOK [0, 0] = true by decide]
  have R6_x := hid ((R5_x.out).keep hb)
  have R6_y := hid ((R5_y.out).keep hb)
  have R6_z := hid ((R5_z.out).keep hb)
  have HB6 := hid (below_step HB5.out (Nat.le_refl _) hb)
  clear hb HB5 R5_x R5_y R5_z
  have g0_x := R6_x.out.p0
  have g1_x := R6_x.out.p1
  have gl_x := R6_x.out.lt
  have g0_y := R6_y.out.p0
  have g1_y := R6_y.out.p1
  have gl_y := R6_y.out.lt
  have g0_z := R6_z.out.p0
  have g1_z := R6_z.out.p1
  have gl_z := R6_z.out.lt
  go_wp2
  go_ret
  exact ⟨rfl, HB6.out⟩


theorem ratioBetween_any (P1 Q1 P2 Q2 : Int) (w : World) :
    Calls Try.prog 7 #[.agg #[.int .i64 P1, .int .i64 Q1], .agg #[.int .i64 P2, .int .i64 Q2]] w fun e w' => e = .returned (.bool true) ∧ Below w.heap.size w w' := by
  by_cases h : bothErr P1 Q1 P2 Q2 = 0
  · obtain ⟨hx, hy⟩ : ratioErr P1 Q1 = 0 ∧ ratioErr P2 Q2 = 0 := by
      unfold bothErr at h
      split at h
      · rename_i hh
        exact absurd h hh
      · rename_i hh
        exact ⟨by simpa using hh, h⟩
    obtain ⟨x, fx, rfl, rfl⟩ := ratioErr_zero hx
    obtain ⟨y, fy, rfl, rfl⟩ := ratioErr_zero hy
    have k1 := fun W => rless_ok x y W fx fy
    obtain ⟨x1, x2, x3⟩ := id fx
    obtain ⟨y1, y2, y3⟩ := id fy
    have x4 := x.den_pos
    have y4 := y.den_pos
    by_cases hxy : x < y
    · rw [decide_eq_true hxy] at k1
      by_cases hb : (x.num + y.num < -1000000000 ∨ 1000000000 < x.num + y.num) ∨ ((x.den : Int) + (y.den : Int) < -1000000000 ∨ 1000000000 < (x.den : Int) + (y.den : Int))
      · exact ratioBetween_arg _ _ _ _ x1 x2 (by omega) x3 y1 y2 (by omega) y3 k1 (fun W => rmake_arg _ _ W hb) w
      · have k2 := fun W => rmake_ok (x.num + y.num) ((x.den : Int) + (y.den : Int)) W (by omega) (by omega) (by omega) (by omega) (by omega)
        have fz := fits_make (p := x.num + y.num) (q := (x.den : Int) + (y.den : Int)) (by omega) (by omega) (by omega) (by omega) (by omega)
        obtain ⟨m1, m2⟩ := mediant hxy
        generalize Rat.divInt (x.num + y.num) ((x.den : Int) + (y.den : Int)) = z at *
        have k3 := fun W => rless_ok x z W fx fz
        rw [decide_eq_true m1] at k3
        have k4 := fun W => rless_ok z y W fz fy
        rw [decide_eq_true m2] at k4
        exact ratioBetween_ok _ _ _ _ _ _ x1 x2 (by omega) x3 y1 y2 (by omega) y3 k1 k2 k3 k4 w
    · rw [decide_eq_false hxy] at k1
      exact ratioBetween_not _ _ _ _ k1 w
  · exact ratioBetween_bad _ _ _ _ _ h (fun W => rless_bad _ _ _ _ W h) w
end Go.Proofs.Ytcnljljgdkjndaa
