/-
  castkeep.OddsSums, walked.
-/
import Derived.Test.YthdjbmogdlodcaaOddD
import Derived.Test.YthdjbmogdlodcaaOddE
namespace Go.Proofs.Ythdjbmogdlodcaa
open Go.RowKit

set_option maxHeartbeats 2000000 in
set_option maxRecDepth 100000 in
theorem oddsSums_no (A1 : Option Addr) (n1 c1 : Nat) (B1 : Option Addr) (m1 d1 : Nat) (A2 : Option Addr) (n2 c2 : Nat) (B2 : Option Addr) (m2 d2 : Nat) (w : World) (er : Int) (he : er ≠ 0) (h1 : ∀ W, Below w.heap.size w W → Calls Try.prog 13 #[.agg #[.slice A1 n1 c1, .slice B1 m1 d1], .agg #[.slice A2 n2 c2, .slice B2 m2 d2]] W fun e w' => e = .returned (.tuple #[.agg #[.slice none 0 0, .slice none 0 0], .int .i64 er]) ∧ Below W.heap.size W w') :
    Calls Try.prog 4 #[.agg #[.slice A1 n1 c1, .slice B1 m1 d1], .agg #[.slice A2 n2 c2, .slice B2 m2 d2]] w fun e w' => e = .returned (.bool true) ∧ Below w.heap.size w w' := by
  have hne : (er != 0) = true := by simpa using he
  clear he
  have h1' := hid h1
  clear h1
  have HB0 := hid (Below.refl w.heap.size w)
  go_enter Try.func4, Try.ntmps4
  go_wp2_with fail
  obtain ⟨w1, hw1⟩ : ∃ w1, w1 = ((w.alloc (.cells #[.slice (A1) n1 c1, .slice (B1) m1 d1] 24)).alloc (.cells #[.slice (A2) n2 c2, .slice (B2) m2 d2] 24)) := ⟨_, rfl⟩
  have R1_a : Hid (OddsAt w1 w.heap.size (A1) n1 c1 (B1) m1 d1) := by
    rw [hw1]
    have h := (OddsAt.new w 24 (A1) n1 c1 (B1) m1 d1)
    exact (h).keep_alloc _
  have R1_b : Hid (OddsAt w1 (w.heap.size + 1) (A2) n2 c2 (B2) m2 d2) := by
    rw [hw1]
    have h := (OddsAt.new (w.alloc (.cells #[.slice (A1) n1 c1, .slice (B1) m1 d1] 24)) 24 (A2) n2 c2 (B2) m2 d2)
    rw [show (w.alloc (.cells #[.slice (A1) n1 c1, .slice (B1) m1 d1] 24)).heap.size = w.heap.size + 1 by simp] at h
    exact h
  have HBx : Hid (Below w.heap.size w w1) := by
    rw [hw1]
    exact two_alloc w _ _
  rw [← hw1]
  clear hw1 HB0
  have HB1 := HBx
  clear HBx
  refine (oddsLive_any _).mono ?_
  rintro e w2 ⟨rfl, hb⟩
  have R2_a := hid ((R1_a.out).keep hb)
  have R2_b := hid ((R1_b.out).keep hb)
  have HB2 := hid (below_step HB1.out (Nat.le_refl _) hb)
  clear hb HB1 R1_a R1_b
  go_wp2_with fail
  refine (ratios_any _).mono ?_
  rintro e w3 ⟨rfl, hb⟩
  have R3_a := hid ((R2_a.out).keep hb)
  have R3_b := hid ((R2_b.out).keep hb)
  have HB3 := hid (below_step HB2.out (Nat.le_refl _) hb)
  clear hb HB2 R2_a R2_b
  have g0_a := R3_a.out.p0
  have g1_a := R3_a.out.p1
  have gl_a := R3_a.out.lt
  have g0_b := R3_b.out.p0
  have g1_b := R3_b.out.p1
  have gl_b := R3_b.out.lt
  go_wp2_with fail
  refine (h1'.out _ HB3.out).mono ?_
  rintro e w4 ⟨rfl, hb⟩
  clear g0_a g1_a gl_a g0_b g1_b gl_b
  have R4_a := hid ((R3_a.out).keep hb)
  have R4_b := hid ((R3_b.out).keep hb)
  have HB4 := hid (below_step HB3.out (Nat.le_refl _) hb)
  clear hb HB3 R3_a R3_b
  go_wp2
  go_ret
  exact ⟨rfl, below_step HB4.out (Nat.le_refl _) (below_alloc w4 (.cells #[.slice (none) 0 0, .slice (none) 0 0] 24))⟩

set_option maxHeartbeats 2000000 in
set_option maxRecDepth 100000 in
theorem oddsSums_yes (A1 : Option Addr) (n1 c1 : Nat) (B1 : Option Addr) (m1 d1 : Nat) (A2 : Option Addr) (n2 c2 : Nat) (B2 : Option Addr) (m2 d2 : Nat) (w : World) (l : List (Int × Int)) (P1 Q1 P2 Q2 P3 Q3 P4 Q4 P5 Q5 P6 Q6 : Int) (h1 : ∀ W, Below w.heap.size w W → Calls Try.prog 10 #[.agg #[.slice A1 n1 c1, .slice B1 m1 d1]] W (RetR W P1 Q1 0)) (h2 : ∀ W, Below w.heap.size w W → Calls Try.prog 10 #[.agg #[.slice A2 n2 c2, .slice B2 m2 d2]] W (RetR W P2 Q2 0)) (h4 : ∀ W, Below w.heap.size w W → Calls Try.prog 11 #[.agg #[.slice A1 n1 c1, .slice B1 m1 d1]] W (RetR W P4 Q4 0)) (h5 : ∀ W, Below w.heap.size w W → Calls Try.prog 11 #[.agg #[.slice A2 n2 c2, .slice B2 m2 d2]] W (RetR W P5 Q5 0)) (h3 : ∀ W A n c B m d, Ints W A n (vsL l) → Ints W B m (wsL l) → Calls Try.prog 10 #[.agg #[.slice A n c, .slice B m d]] W (RetR W P3 Q3 0)) (h6 : ∀ W A n c B m d, Ints W A n (vsL l) → Ints W B m (wsL l) → Calls Try.prog 11 #[.agg #[.slice A n c, .slice B m d]] W (RetR W P6 Q6 0)) (h7 : ∀ W, Calls Try.prog 22 #[.agg #[.int .i64 P1, .int .i64 Q1], .agg #[.int .i64 P2, .int .i64 Q2]] W (RetR W P3 Q3 0)) (h8 : ∀ W, Calls Try.prog 22 #[.agg #[.int .i64 P4, .int .i64 Q4], .agg #[.int .i64 P5, .int .i64 Q5]] W (RetR W P6 Q6 0)) (hB : ∀ W, Below w.heap.size w W → Calls Try.prog 13 #[.agg #[.slice A1 n1 c1, .slice B1 m1 d1], .agg #[.slice A2 n2 c2, .slice B2 m2 d2]] W (RetBoth W l)) (hl : GoodD l) :
    Calls Try.prog 4 #[.agg #[.slice A1 n1 c1, .slice B1 m1 d1], .agg #[.slice A2 n2 c2, .slice B2 m2 d2]] w fun e w' => e = .returned (.bool true) ∧ Below w.heap.size w w' := by
  have h1' := hid h1
  clear h1
  have h2' := hid h2
  clear h2
  have h3' := hid h3
  clear h3
  have h4' := hid h4
  clear h4
  have h5' := hid h5
  clear h5
  have h6' := hid h6
  clear h6
  have h7' := hid h7
  clear h7
  have h8' := hid h8
  clear h8
  have hB' := hid hB
  clear hB
  have hl' := hid hl
  clear hl
  have HB0 := hid (Below.refl w.heap.size w)
  go_enter Try.func4, Try.ntmps4
  go_wp2_with fail
  obtain ⟨w1, hw1⟩ : ∃ w1, w1 = ((w.alloc (.cells #[.slice (A1) n1 c1, .slice (B1) m1 d1] 24)).alloc (.cells #[.slice (A2) n2 c2, .slice (B2) m2 d2] 24)) := ⟨_, rfl⟩
  have R1_a : Hid (OddsAt w1 w.heap.size (A1) n1 c1 (B1) m1 d1) := by
    rw [hw1]
    have h := (OddsAt.new w 24 (A1) n1 c1 (B1) m1 d1)
    exact (h).keep_alloc _
  have R1_b : Hid (OddsAt w1 (w.heap.size + 1) (A2) n2 c2 (B2) m2 d2) := by
    rw [hw1]
    have h := (OddsAt.new (w.alloc (.cells #[.slice (A1) n1 c1, .slice (B1) m1 d1] 24)) 24 (A2) n2 c2 (B2) m2 d2)
    rw [show (w.alloc (.cells #[.slice (A1) n1 c1, .slice (B1) m1 d1] 24)).heap.size = w.heap.size + 1 by simp] at h
    exact h
  have HBx : Hid (Below w.heap.size w w1) := by
    rw [hw1]
    exact two_alloc w _ _
  rw [← hw1]
  clear hw1 HB0
  have HB1 := HBx
  clear HBx
  refine (oddsLive_any _).mono ?_
  rintro e w2 ⟨rfl, hb⟩
  have R2_a := hid ((R1_a.out).keep hb)
  have R2_b := hid ((R1_b.out).keep hb)
  have HB2 := hid (below_step HB1.out (Nat.le_refl _) hb)
  clear hb HB1 R1_a R1_b
  go_wp2_with fail
  refine (ratios_any _).mono ?_
  rintro e w3 ⟨rfl, hb⟩
  have R3_a := hid ((R2_a.out).keep hb)
  have R3_b := hid ((R2_b.out).keep hb)
  have HB3 := hid (below_step HB2.out (Nat.le_refl _) hb)
  clear hb HB2 R2_a R2_b
  have g0_a := R3_a.out.p0
  have g1_a := R3_a.out.p1
  have gl_a := R3_a.out.lt
  have g0_b := R3_b.out.p0
  have g1_b := R3_b.out.p1
  have gl_b := R3_b.out.lt
  go_wp2_with fail
  refine (hB'.out _ HB3.out).mono ?_
  rintro e w4 ⟨hb, (⟨_, A3, n3, c3, B3, m3, d3, rfl, hI3, hJ3, _, _⟩ | ⟨hng, _⟩)⟩
  rotate_left
  · exact absurd hl'.out hng
  clear g0_a g1_a gl_a g0_b g1_b gl_b
  have R4_a := hid ((R3_a.out).keep hb)
  have R4_b := hid ((R3_b.out).keep hb)
  have HB4 := hid (below_step HB3.out (Nat.le_refl _) hb)
  have I4_v := hid (hI3.asInts.1)
  have I4_u := hid (hJ3.asInts.1)
  clear hb HB3 R3_a R3_b
  have g0_a := R4_a.out.p0
  have g1_a := R4_a.out.p1
  have gl_a := R4_a.out.lt
  have g0_b := R4_b.out.p0
  have g1_b := R4_b.out.p1
  have gl_b := R4_b.out.lt
  clear hI3 hJ3
  have HB4b := hid (below_step HB4.out (Nat.le_refl _) (below_alloc w4 (.cells #[.slice (A3) n3 c3, .slice (B3) m3 d3] 24)))
  go_wp2_with fail
  refine (h1'.out _ HB4b.out).mono ?_
  rintro e w5 ⟨rfl, hb⟩
  clear g0_a g1_a gl_a g0_b g1_b gl_b
  have R5_a := hid (((R4_a.out).keep_alloc (.cells #[.slice (A3) n3 c3, .slice (B3) m3 d3] 24)).keep hb)
  have R5_b := hid (((R4_b.out).keep_alloc (.cells #[.slice (A3) n3 c3, .slice (B3) m3 d3] 24)).keep hb)
  have I5_v := hid (((I4_v.out).keep (below_alloc _ (.cells #[.slice (A3) n3 c3, .slice (B3) m3 d3] 24))).keep hb)
  have I5_u := hid (((I4_u.out).keep (below_alloc _ (.cells #[.slice (A3) n3 c3, .slice (B3) m3 d3] 24))).keep hb)
  have HB5 := hid (below_step (below_step HB4.out (Nat.le_refl _) (below_alloc w4 (.cells #[.slice (A3) n3 c3, .slice (B3) m3 d3] 24))) (Nat.le_refl _) hb)
  have R5_o := hid ((OddsAt.new w4 24 (A3) n3 c3 (B3) m3 d3).keep hb)
  clear hb HB4 R4_a R4_b I4_v I4_u
  have g0_a := R5_a.out.p0
  have g1_a := R5_a.out.p1
  have gl_a := R5_a.out.lt
  have g0_b := R5_b.out.p0
  have g1_b := R5_b.out.p1
  have gl_b := R5_b.out.lt
  have g0_o := R5_o.out.p0
  have g1_o := R5_o.out.p1
  have gl_o := R5_o.out.lt
  clear HB4b
  have HB5b := hid (below_step HB5.out (Nat.le_refl _) (below_alloc w5 (.cells #[.int .i64 (P1), .int .i64 (Q1)] 26)))
  go_wp2_with fail
  refine (h2'.out _ HB5b.out).mono ?_
  rintro e w6 ⟨rfl, hb⟩
  clear g0_a g1_a gl_a g0_b g1_b gl_b g0_o g1_o gl_o
  have R6_a := hid (((R5_a.out).keep_alloc (.cells #[.int .i64 (P1), .int .i64 (Q1)] 26)).keep hb)
  have R6_b := hid (((R5_b.out).keep_alloc (.cells #[.int .i64 (P1), .int .i64 (Q1)] 26)).keep hb)
  have R6_o := hid (((R5_o.out).keep_alloc (.cells #[.int .i64 (P1), .int .i64 (Q1)] 26)).keep hb)
  have I6_v := hid (((I5_v.out).keep (below_alloc _ (.cells #[.int .i64 (P1), .int .i64 (Q1)] 26))).keep hb)
  have I6_u := hid (((I5_u.out).keep (below_alloc _ (.cells #[.int .i64 (P1), .int .i64 (Q1)] 26))).keep hb)
  have HB6 := hid (below_step (below_step HB5.out (Nat.le_refl _) (below_alloc w5 (.cells #[.int .i64 (P1), .int .i64 (Q1)] 26))) (Nat.le_refl _) hb)
  have R6_x := hid ((RatAt.new w5 26 (P1) (Q1)).keep hb)
  clear hb HB5 R5_a R5_b R5_o I5_v I5_u
  have g0_a := R6_a.out.p0
  have g1_a := R6_a.out.p1
  have gl_a := R6_a.out.lt
  have g0_b := R6_b.out.p0
  have g1_b := R6_b.out.p1
  have gl_b := R6_b.out.lt
  have g0_o := R6_o.out.p0
  have g1_o := R6_o.out.p1
  have gl_o := R6_o.out.lt
  clear HB5b
  have HB6b := hid (below_step HB6.out (Nat.le_refl _) (below_alloc w6 (.cells #[.int .i64 (P2), .int .i64 (Q2)] 26)))
  have Iv := hid (I6_v.out.keep (below_alloc w6 (.cells #[.int .i64 (P2), .int .i64 (Q2)] 26)))
  have Iu := hid (I6_u.out.keep (below_alloc w6 (.cells #[.int .i64 (P2), .int .i64 (Q2)] 26)))
  go_wp2_with fail
  refine (h3'.out _ _ _ _ _ _ _ Iv.out Iu.out).mono ?_
  rintro e w7 ⟨rfl, hb⟩
  clear g0_a g1_a gl_a g0_b g1_b gl_b g0_o g1_o gl_o
  have R7_a := hid (((R6_a.out).keep_alloc (.cells #[.int .i64 (P2), .int .i64 (Q2)] 26)).keep hb)
  have R7_b := hid (((R6_b.out).keep_alloc (.cells #[.int .i64 (P2), .int .i64 (Q2)] 26)).keep hb)
  have R7_o := hid (((R6_o.out).keep_alloc (.cells #[.int .i64 (P2), .int .i64 (Q2)] 26)).keep hb)
  have R7_x := hid (((R6_x.out).keep_alloc (.cells #[.int .i64 (P2), .int .i64 (Q2)] 26)).keep hb)
  have I7_v := hid (((I6_v.out).keep (below_alloc _ (.cells #[.int .i64 (P2), .int .i64 (Q2)] 26))).keep hb)
  have I7_u := hid (((I6_u.out).keep (below_alloc _ (.cells #[.int .i64 (P2), .int .i64 (Q2)] 26))).keep hb)
  have HB7 := hid (below_step (below_step HB6.out (Nat.le_refl _) (below_alloc w6 (.cells #[.int .i64 (P2), .int .i64 (Q2)] 26))) (Nat.le_refl _) hb)
  have R7_y := hid ((RatAt.new w6 26 (P2) (Q2)).keep hb)
  clear hb HB6 R6_a R6_b R6_o R6_x I6_v I6_u
  have g0_a := R7_a.out.p0
  have g1_a := R7_a.out.p1
  have gl_a := R7_a.out.lt
  have g0_b := R7_b.out.p0
  have g1_b := R7_b.out.p1
  have gl_b := R7_b.out.lt
  clear HB6b Iv Iu
  have HB7b := hid (below_step HB7.out (Nat.le_refl _) (below_alloc w7 (.cells #[.int .i64 (P3), .int .i64 (Q3)] 26)))
  go_wp2_with fail
  refine (h4'.out _ HB7b.out).mono ?_
  rintro e w8 ⟨rfl, hb⟩
  clear g0_a g1_a gl_a g0_b g1_b gl_b
  have R8_a := hid (((R7_a.out).keep_alloc (.cells #[.int .i64 (P3), .int .i64 (Q3)] 26)).keep hb)
  have R8_b := hid (((R7_b.out).keep_alloc (.cells #[.int .i64 (P3), .int .i64 (Q3)] 26)).keep hb)
  have R8_o := hid (((R7_o.out).keep_alloc (.cells #[.int .i64 (P3), .int .i64 (Q3)] 26)).keep hb)
  have R8_x := hid (((R7_x.out).keep_alloc (.cells #[.int .i64 (P3), .int .i64 (Q3)] 26)).keep hb)
  have R8_y := hid (((R7_y.out).keep_alloc (.cells #[.int .i64 (P3), .int .i64 (Q3)] 26)).keep hb)
  have I8_v := hid (((I7_v.out).keep (below_alloc _ (.cells #[.int .i64 (P3), .int .i64 (Q3)] 26))).keep hb)
  have I8_u := hid (((I7_u.out).keep (below_alloc _ (.cells #[.int .i64 (P3), .int .i64 (Q3)] 26))).keep hb)
  have HB8 := hid (below_step (below_step HB7.out (Nat.le_refl _) (below_alloc w7 (.cells #[.int .i64 (P3), .int .i64 (Q3)] 26))) (Nat.le_refl _) hb)
  have R8_z := hid ((RatAt.new w7 26 (P3) (Q3)).keep hb)
  clear hb HB7 R7_a R7_b R7_o R7_x R7_y I7_v I7_u
  have g0_a := R8_a.out.p0
  have g1_a := R8_a.out.p1
  have gl_a := R8_a.out.lt
  have g0_b := R8_b.out.p0
  have g1_b := R8_b.out.p1
  have gl_b := R8_b.out.lt
  have g0_o := R8_o.out.p0
  have g1_o := R8_o.out.p1
  have gl_o := R8_o.out.lt
  clear HB7b
  have HB8b := hid (below_step HB8.out (Nat.le_refl _) (below_alloc w8 (.cells #[.int .i64 (P4), .int .i64 (Q4)] 26)))
  go_wp2_with fail
  refine (h5'.out _ HB8b.out).mono ?_
  rintro e w9 ⟨rfl, hb⟩
  clear g0_a g1_a gl_a g0_b g1_b gl_b g0_o g1_o gl_o
  have R9_a := hid (((R8_a.out).keep_alloc (.cells #[.int .i64 (P4), .int .i64 (Q4)] 26)).keep hb)
  have R9_b := hid (((R8_b.out).keep_alloc (.cells #[.int .i64 (P4), .int .i64 (Q4)] 26)).keep hb)
  have R9_o := hid (((R8_o.out).keep_alloc (.cells #[.int .i64 (P4), .int .i64 (Q4)] 26)).keep hb)
  have R9_x := hid (((R8_x.out).keep_alloc (.cells #[.int .i64 (P4), .int .i64 (Q4)] 26)).keep hb)
  have R9_y := hid (((R8_y.out).keep_alloc (.cells #[.int .i64 (P4), .int .i64 (Q4)] 26)).keep hb)
  have R9_z := hid (((R8_z.out).keep_alloc (.cells #[.int .i64 (P4), .int .i64 (Q4)] 26)).keep hb)
  have I9_v := hid (((I8_v.out).keep (below_alloc _ (.cells #[.int .i64 (P4), .int .i64 (Q4)] 26))).keep hb)
  have I9_u := hid (((I8_u.out).keep (below_alloc _ (.cells #[.int .i64 (P4), .int .i64 (Q4)] 26))).keep hb)
  have HB9 := hid (below_step (below_step HB8.out (Nat.le_refl _) (below_alloc w8 (.cells #[.int .i64 (P4), .int .i64 (Q4)] 26))) (Nat.le_refl _) hb)
  have R9_u := hid ((RatAt.new w8 26 (P4) (Q4)).keep hb)
  clear hb HB8 R8_a R8_b R8_o R8_x R8_y R8_z I8_v I8_u
  have g0_a := R9_a.out.p0
  have g1_a := R9_a.out.p1
  have gl_a := R9_a.out.lt
  have g0_b := R9_b.out.p0
  have g1_b := R9_b.out.p1
  have gl_b := R9_b.out.lt
  have g0_o := R9_o.out.p0
  have g1_o := R9_o.out.p1
  have gl_o := R9_o.out.lt
  clear HB8b
  have HB9b := hid (below_step HB9.out (Nat.le_refl _) (below_alloc w9 (.cells #[.int .i64 (P5), .int .i64 (Q5)] 26)))
  have Iv := hid (I9_v.out.keep (below_alloc w9 (.cells #[.int .i64 (P5), .int .i64 (Q5)] 26)))
  have Iu := hid (I9_u.out.keep (below_alloc w9 (.cells #[.int .i64 (P5), .int .i64 (Q5)] 26)))
  go_wp2_with fail
  refine (h6'.out _ _ _ _ _ _ _ Iv.out Iu.out).mono ?_
  rintro e w10 ⟨rfl, hb⟩
  clear g0_a g1_a gl_a g0_b g1_b gl_b g0_o g1_o gl_o
  have R10_a := hid (((R9_a.out).keep_alloc (.cells #[.int .i64 (P5), .int .i64 (Q5)] 26)).keep hb)
  have R10_b := hid (((R9_b.out).keep_alloc (.cells #[.int .i64 (P5), .int .i64 (Q5)] 26)).keep hb)
  have R10_o := hid (((R9_o.out).keep_alloc (.cells #[.int .i64 (P5), .int .i64 (Q5)] 26)).keep hb)
  have R10_x := hid (((R9_x.out).keep_alloc (.cells #[.int .i64 (P5), .int .i64 (Q5)] 26)).keep hb)
  have R10_y := hid (((R9_y.out).keep_alloc (.cells #[.int .i64 (P5), .int .i64 (Q5)] 26)).keep hb)
  have R10_z := hid (((R9_z.out).keep_alloc (.cells #[.int .i64 (P5), .int .i64 (Q5)] 26)).keep hb)
  have R10_u := hid (((R9_u.out).keep_alloc (.cells #[.int .i64 (P5), .int .i64 (Q5)] 26)).keep hb)
  have I10_v := hid (((I9_v.out).keep (below_alloc _ (.cells #[.int .i64 (P5), .int .i64 (Q5)] 26))).keep hb)
  have I10_u := hid (((I9_u.out).keep (below_alloc _ (.cells #[.int .i64 (P5), .int .i64 (Q5)] 26))).keep hb)
  have HB10 := hid (below_step (below_step HB9.out (Nat.le_refl _) (below_alloc w9 (.cells #[.int .i64 (P5), .int .i64 (Q5)] 26))) (Nat.le_refl _) hb)
  have R10_v := hid ((RatAt.new w9 26 (P5) (Q5)).keep hb)
  clear hb HB9 R9_a R9_b R9_o R9_x R9_y R9_z R9_u I9_v I9_u
  have g0_x := R10_x.out.p0
  have g1_x := R10_x.out.p1
  have gl_x := R10_x.out.lt
  have g0_y := R10_y.out.p0
  have g1_y := R10_y.out.p1
  have gl_y := R10_y.out.lt
  clear HB9b Iv Iu
  have HB10b := hid (below_step HB10.out (Nat.le_refl _) (below_alloc w10 (.cells #[.int .i64 (P6), .int .i64 (Q6)] 26)))
  go_wp2_with fail
  refine (h7'.out _).mono ?_
  rintro e w11 ⟨rfl, hb⟩
  clear g0_x g1_x gl_x g0_y g1_y gl_y
  have R11_a := hid (((R10_a.out).keep_alloc (.cells #[.int .i64 (P6), .int .i64 (Q6)] 26)).keep hb)
  have R11_b := hid (((R10_b.out).keep_alloc (.cells #[.int .i64 (P6), .int .i64 (Q6)] 26)).keep hb)
  have R11_o := hid (((R10_o.out).keep_alloc (.cells #[.int .i64 (P6), .int .i64 (Q6)] 26)).keep hb)
  have R11_x := hid (((R10_x.out).keep_alloc (.cells #[.int .i64 (P6), .int .i64 (Q6)] 26)).keep hb)
  have R11_y := hid (((R10_y.out).keep_alloc (.cells #[.int .i64 (P6), .int .i64 (Q6)] 26)).keep hb)
  have R11_z := hid (((R10_z.out).keep_alloc (.cells #[.int .i64 (P6), .int .i64 (Q6)] 26)).keep hb)
  have R11_u := hid (((R10_u.out).keep_alloc (.cells #[.int .i64 (P6), .int .i64 (Q6)] 26)).keep hb)
  have R11_v := hid (((R10_v.out).keep_alloc (.cells #[.int .i64 (P6), .int .i64 (Q6)] 26)).keep hb)
  have I11_v := hid (((I10_v.out).keep (below_alloc _ (.cells #[.int .i64 (P6), .int .i64 (Q6)] 26))).keep hb)
  have I11_u := hid (((I10_u.out).keep (below_alloc _ (.cells #[.int .i64 (P6), .int .i64 (Q6)] 26))).keep hb)
  have HB11 := hid (below_step (below_step HB10.out (Nat.le_refl _) (below_alloc w10 (.cells #[.int .i64 (P6), .int .i64 (Q6)] 26))) (Nat.le_refl _) hb)
  have R11_w := hid ((RatAt.new w10 26 (P6) (Q6)).keep hb)
  clear hb HB10 R10_a R10_b R10_o R10_x R10_y R10_z R10_u R10_v I10_v I10_u
  have g0_u := R11_u.out.p0
  have g1_u := R11_u.out.p1
  have gl_u := R11_u.out.lt
  have g0_v := R11_v.out.p0
  have g1_v := R11_v.out.p1
  have gl_v := R11_v.out.lt
  clear HB10b
  have HB11b := hid (below_step HB11.out (Nat.le_refl _) (below_alloc w11 (.cells #[.int .i64 (P3), .int .i64 (Q3)] 26)))
  go_wp2_with fail
  refine (h8'.out _).mono ?_
  rintro e w12 ⟨rfl, hb⟩
  clear g0_u g1_u gl_u g0_v g1_v gl_v
  have R12_a := hid (((R11_a.out).keep_alloc (.cells #[.int .i64 (P3), .int .i64 (Q3)] 26)).keep hb)
  have R12_b := hid (((R11_b.out).keep_alloc (.cells #[.int .i64 (P3), .int .i64 (Q3)] 26)).keep hb)
  have R12_o := hid (((R11_o.out).keep_alloc (.cells #[.int .i64 (P3), .int .i64 (Q3)] 26)).keep hb)
  have R12_x := hid (((R11_x.out).keep_alloc (.cells #[.int .i64 (P3), .int .i64 (Q3)] 26)).keep hb)
  have R12_y := hid (((R11_y.out).keep_alloc (.cells #[.int .i64 (P3), .int .i64 (Q3)] 26)).keep hb)
  have R12_z := hid (((R11_z.out).keep_alloc (.cells #[.int .i64 (P3), .int .i64 (Q3)] 26)).keep hb)
  have R12_u := hid (((R11_u.out).keep_alloc (.cells #[.int .i64 (P3), .int .i64 (Q3)] 26)).keep hb)
  have R12_v := hid (((R11_v.out).keep_alloc (.cells #[.int .i64 (P3), .int .i64 (Q3)] 26)).keep hb)
  have R12_w := hid (((R11_w.out).keep_alloc (.cells #[.int .i64 (P3), .int .i64 (Q3)] 26)).keep hb)
  have I12_v := hid (((I11_v.out).keep (below_alloc _ (.cells #[.int .i64 (P3), .int .i64 (Q3)] 26))).keep hb)
  have I12_u := hid (((I11_u.out).keep (below_alloc _ (.cells #[.int .i64 (P3), .int .i64 (Q3)] 26))).keep hb)
  have HB12 := hid (below_step (below_step HB11.out (Nat.le_refl _) (below_alloc w11 (.cells #[.int .i64 (P3), .int .i64 (Q3)] 26))) (Nat.le_refl _) hb)
  have R12_s := hid ((RatAt.new w11 26 (P3) (Q3)).keep hb)
  clear hb HB11 R11_a R11_b R11_o R11_x R11_y R11_z R11_u R11_v R11_w I11_v I11_u
  have g0_s := R12_s.out.p0
  have g1_s := R12_s.out.p1
  have gl_s := R12_s.out.lt
  clear HB11b
  go_wp2_with fail
  refine (good_bel1 _ _ _ _ 8 [0, 0, 0, 0, 0, 0, 0, 0] rfl rfl (by omega)).mono ?_
  rintro e w13 ⟨rfl, hb⟩
  clear g0_s g1_s gl_s
  rw [show allOK [0, 0, 0, 0, 0, 0, 0, 0] = true by decide]
  have R13_a := hid (((R12_a.out).keep_alloc (.cells #[.int .i64 (P6), .int .i64 (Q6)] 26)).keep hb)
  have R13_b := hid (((R12_b.out).keep_alloc (.cells #[.int .i64 (P6), .int .i64 (Q6)] 26)).keep hb)
  have R13_o := hid (((R12_o.out).keep_alloc (.cells #[.int .i64 (P6), .int .i64 (Q6)] 26)).keep hb)
  have R13_x := hid (((R12_x.out).keep_alloc (.cells #[.int .i64 (P6), .int .i64 (Q6)] 26)).keep hb)
  have R13_y := hid (((R12_y.out).keep_alloc (.cells #[.int .i64 (P6), .int .i64 (Q6)] 26)).keep hb)
  have R13_z := hid (((R12_z.out).keep_alloc (.cells #[.int .i64 (P6), .int .i64 (Q6)] 26)).keep hb)
  have R13_u := hid (((R12_u.out).keep_alloc (.cells #[.int .i64 (P6), .int .i64 (Q6)] 26)).keep hb)
  have R13_v := hid (((R12_v.out).keep_alloc (.cells #[.int .i64 (P6), .int .i64 (Q6)] 26)).keep hb)
  have R13_w := hid (((R12_w.out).keep_alloc (.cells #[.int .i64 (P6), .int .i64 (Q6)] 26)).keep hb)
  have R13_s := hid (((R12_s.out).keep_alloc (.cells #[.int .i64 (P6), .int .i64 (Q6)] 26)).keep hb)
  have I13_v := hid (((I12_v.out).keep (below_alloc _ (.cells #[.int .i64 (P6), .int .i64 (Q6)] 26))).keep hb)
  have I13_u := hid (((I12_u.out).keep (below_alloc _ (.cells #[.int .i64 (P6), .int .i64 (Q6)] 26))).keep hb)
  have HB13 := hid (below_step (below_step HB12.out (Nat.le_refl _) (below_alloc w12 (.cells #[.int .i64 (P6), .int .i64 (Q6)] 26))) (Nat.le_refl _) hb)
  have R13_t := hid ((RatAt.new w12 26 (P6) (Q6)).keep hb)
  clear hb HB12 R12_a R12_b R12_o R12_x R12_y R12_z R12_u R12_v R12_w R12_s I12_v I12_u
  have g0_s := R13_s.out.p0
  have g1_s := R13_s.out.p1
  have gl_s := R13_s.out.lt
  have g0_z := R13_z.out.p0
  have g1_z := R13_z.out.p1
  have gl_z := R13_z.out.lt
  have g0_t := R13_t.out.p0
  have g1_t := R13_t.out.p1
  have gl_t := R13_t.out.lt
  have g0_w := R13_w.out.p0
  have g1_w := R13_w.out.p1
  have gl_w := R13_w.out.lt
  go_wp2
  go_ret
  exact ⟨rfl, HB13.out⟩

theorem oddsSums_any (A1 : Option Addr) (n1 c1 : Nat) (B1 : Option Addr) (m1 d1 : Nat) (A2 : Option Addr) (n2 c2 : Nat) (B2 : Option Addr) (m2 d2 : Nat) (vs ws us xs : List Int) (w : World) (hI : Ints w A1 n1 vs) (hJ : Ints w B1 m1 ws) (hI' : Ints w A2 n2 us) (hJ' : Ints w B2 m2 xs) :
    Calls Try.prog 4 #[.agg #[.slice A1 n1 c1, .slice B1 m1 d1], .agg #[.slice A2 n2 c2, .slice B2 m2 d2]] w fun e w' => e = .returned (.bool true) ∧ Below w.heap.size w w' := by
  by_cases h1 : oddErr vs ws = 0
  · by_cases h2 : oddErr us xs = 0
    · obtain ⟨l, hl, rfl, rfl⟩ := oddErr_zero h1
      obtain ⟨l', hl', rfl, rfl⟩ := oddErr_zero h2
      by_cases h3 : GoodD (bothL l l')
      · refine oddsSums_yes A1 n1 c1 B1 m1 d1 A2 n2 c2 B2 m2 d2 w (bothL l l') (mean l).num (mean l).den (mean l').num (mean l').den (mean (bothL l l')).num (mean (bothL l l')).den (var l).num (var l).den (var l').num (var l').den (var (bothL l l')).num (var (bothL l l')).den
          (fun W hb => omean_ok _ _ _ _ _ _ l W (hI.keep hb) (hJ.keep hb) hl) (fun W hb => omean_ok _ _ _ _ _ _ l' W (hI'.keep hb) (hJ'.keep hb) hl')
          (fun W hb => ospread_ok _ _ _ _ _ _ l W (hI.keep hb) (hJ.keep hb) hl) (fun W hb => ospread_ok _ _ _ _ _ _ l' W (hI'.keep hb) (hJ'.keep hb) hl')
          (fun W A n c B m d a b => omean_ok A n c B m d _ W a b h3) (fun W A n c B m d a b => ospread_ok A n c B m d _ W a b h3) (fun W => ?_) (fun W => ?_)
          (fun W hb => oboth_ok _ _ _ _ _ _ _ _ _ _ _ _ l l' W (hI.keep hb) (hJ.keep hb) (hI'.keep hb) (hJ'.keep hb) hl hl') h3
        · have k := add_good ((mean_bd hl).fits (by omega) (by omega)) ((mean_bd hl').fits (by omega) (by omega)) (by rw [← mean_both hl hl']; exact (mean_bd h3).fits (by omega) (by omega)) W
          rw [← mean_both hl hl'] at k
          exact k
        · have k := add_good ((var_bd hl).fits (by omega) (by omega)) ((var_bd hl').fits (by omega) (by omega)) (by rw [← var_both hl hl']; exact (var_bd h3).fits (by omega) (by omega)) W
          rw [← var_both hl hl'] at k
          exact k
      · refine oddsSums_no A1 n1 c1 B1 m1 d1 A2 n2 c2 B2 m2 d2 w 9 (by omega) (fun W hb => (oboth_ok _ _ _ _ _ _ _ _ _ _ _ _ l l' W (hI.keep hb) (hJ.keep hb) (hI'.keep hb) (hJ'.keep hb) hl hl').mono fun e w' h => ?_)
        rcases h with ⟨hb, ⟨hg, _⟩ | ⟨_, he⟩⟩
        · exact absurd hg h3
        · exact ⟨he, hb⟩
    · exact oddsSums_no A1 n1 c1 B1 m1 d1 A2 n2 c2 B2 m2 d2 w _ h2 (fun W hb => oboth_bad_b _ _ _ _ _ _ _ _ _ _ _ _ vs ws us xs W (hI.keep hb) (hJ.keep hb) (hI'.keep hb) (hJ'.keep hb) h1 h2)
  · exact oddsSums_no A1 n1 c1 B1 m1 d1 A2 n2 c2 B2 m2 d2 w _ h1 (fun W hb => oboth_bad_a _ _ _ _ _ _ _ _ _ _ _ _ vs ws W (hI.keep hb) (hJ.keep hb) h1)
end Go.Proofs.Ythdjbmogdlodcaa
