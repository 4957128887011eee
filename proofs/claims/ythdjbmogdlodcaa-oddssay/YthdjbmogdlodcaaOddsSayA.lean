/-
  castlaw.OddsSay, walked: the first one is refused.
-/
import Derived.Test.YthdjbmogdlodcaaOddC
import Derived.Test.YthdjbmogdlodcaaOddE
import Derived.Test.YthdjbmogdlodcaaOddF
namespace Go.Proofs.Ythdjbmogdlodcaa
open Go.RowKit

set_option maxHeartbeats 16000000 in
set_option maxRecDepth 100000 in
theorem oddsSay_a (A : Option Addr) (n c : Nat) (B : Option Addr) (m d : Nat) (A' : Option Addr) (n' c' : Nat) (B' : Option Addr) (m' d' : Nat) (least : Int) (w : World) (er : Int) (he : er ≠ 0) (h1 : ∀ W, Below w.heap.size w W → Calls Try.prog 10 #[.agg #[.slice A n c, .slice B m d]] W (RetR W 0 0 er)) (h2 : ∀ W, Below w.heap.size w W → Calls Try.prog 11 #[.agg #[.slice A n c, .slice B m d]] W (RetR W 0 0 er)) (h3 : ∀ W, Below w.heap.size w W → Calls Try.prog 12 #[.agg #[.slice A n c, .slice B m d], .int .i64 least] W (RetR W 0 0 er)) (h4 : ∀ W, Below w.heap.size w W → Calls Try.prog 13 #[.agg #[.slice A n c, .slice B m d], .agg #[.slice A' n' c', .slice B' m' d']] W (fun e w' => e = .returned (.tuple #[.agg #[.slice none 0 0, .slice none 0 0], .int .i64 er]) ∧ Below W.heap.size W w')) (h5 : ∀ W, Below w.heap.size w W → Calls Try.prog 14 #[.agg #[.slice A n c, .slice B m d]] W (RetE W er)) (h6 : ∀ W, Below w.heap.size w W → Calls Try.prog 15 #[.agg #[.slice A n c, .slice B m d]] W (RetE W er)) :
    Calls Try.prog 3 #[.agg #[.slice A n c, .slice B m d], .agg #[.slice A' n' c', .slice B' m' d'], .int .i64 least] w fun e w' => e = .returned (.bool true) ∧ Below w.heap.size w w' := by
  have hne : (er != 0) = true := by simpa using he
  clear he
  have h1' := hid h1
  clear h1
  have h2' := hid h2
  clear h2
  have h3' := hid h3
  clear h3
  have h4' := hid h4
  clear h4
  have h5' := hid h5
  clear h5
  have h6' := hid h6
  clear h6
  have HB0 := hid (Below.refl w.heap.size w)
  go_enter Try.func3, Try.ntmps3
  go_wp2_with fail
  obtain ⟨w1, hw1⟩ : ∃ w1, w1 = ((w.alloc (.cells #[.slice (A) n c, .slice (B) m d] 24)).alloc (.cells #[.slice (A') n' c', .slice (B') m' d'] 24)) := ⟨_, rfl⟩
  have R1_a : Hid (OddsAt w1 w.heap.size (A) n c (B) m d) := by
    rw [hw1]
    have h := (OddsAt.new w 24 (A) n c (B) m d)
    exact (h).keep_alloc _
  have R1_b : Hid (OddsAt w1 (w.heap.size + 1) (A') n' c' (B') m' d') := by
    rw [hw1]
    have h := (OddsAt.new (w.alloc (.cells #[.slice (A) n c, .slice (B) m d] 24)) 24 (A') n' c' (B') m' d')
    rw [show (w.alloc (.cells #[.slice (A) n c, .slice (B) m d] 24)).heap.size = w.heap.size + 1 by simp] at h
    exact h
  have HBx : Hid (Below w.heap.size w w1) := by
    rw [hw1]
    exact two_alloc w _ _
  rw [← hw1]
  clear hw1 HB0
  have HB1 := HBx
  clear HBx
  refine (h1'.out _ HB1.out).mono ?_
  rintro e w2 ⟨rfl, hb⟩
  have R2_a := hid ((R1_a.out).keep hb)
  have R2_b := hid ((R1_b.out).keep hb)
  have HB2 := hid (below_step HB1.out (Nat.le_refl _) hb)
  clear hb HB1 R1_a R1_b
  have g0_a := R2_a.out.p0
  have g1_a := R2_a.out.p1
  have gl_a := R2_a.out.lt
  have HBb := hid (below_step HB2.out (Nat.le_refl _) (below_alloc w2 (.cells #[.int .i64 (0), .int .i64 (0)] 26)))
  go_wp2_with fail
  refine (h2'.out _ HBb.out).mono ?_
  rintro e w3 ⟨rfl, hb⟩
  clear g0_a g1_a gl_a
  have R3_a := hid (((R2_a.out).keep_alloc (.cells #[.int .i64 (0), .int .i64 (0)] 26)).keep hb)
  have R3_b := hid (((R2_b.out).keep_alloc (.cells #[.int .i64 (0), .int .i64 (0)] 26)).keep hb)
  have HB3 := hid (below_step (below_step HB2.out (Nat.le_refl _) (below_alloc w2 (.cells #[.int .i64 (0), .int .i64 (0)] 26))) (Nat.le_refl _) hb)
  have R3_m := hid ((RatAt.new w2 26 (0) (0)).keep hb)
  clear hb HB2 R2_a R2_b
  have g0_a := R3_a.out.p0
  have g1_a := R3_a.out.p1
  have gl_a := R3_a.out.lt
  clear HBb
  have HBb := hid (below_step HB3.out (Nat.le_refl _) (below_alloc w3 (.cells #[.int .i64 (0), .int .i64 (0)] 26)))
  go_wp2_with fail
  refine (h3'.out _ HBb.out).mono ?_
  rintro e w4 ⟨rfl, hb⟩
  clear g0_a g1_a gl_a
  have R4_a := hid (((R3_a.out).keep_alloc (.cells #[.int .i64 (0), .int .i64 (0)] 26)).keep hb)
  have R4_b := hid (((R3_b.out).keep_alloc (.cells #[.int .i64 (0), .int .i64 (0)] 26)).keep hb)
  have R4_m := hid (((R3_m.out).keep_alloc (.cells #[.int .i64 (0), .int .i64 (0)] 26)).keep hb)
  have HB4 := hid (below_step (below_step HB3.out (Nat.le_refl _) (below_alloc w3 (.cells #[.int .i64 (0), .int .i64 (0)] 26))) (Nat.le_refl _) hb)
  have R4_s := hid ((RatAt.new w3 26 (0) (0)).keep hb)
  clear hb HB3 R3_a R3_b R3_m
  have g0_a := R4_a.out.p0
  have g1_a := R4_a.out.p1
  have gl_a := R4_a.out.lt
  have g0_b := R4_b.out.p0
  have g1_b := R4_b.out.p1
  have gl_b := R4_b.out.lt
  clear HBb
  have HBb := hid (below_step HB4.out (Nat.le_refl _) (below_alloc w4 (.cells #[.int .i64 (0), .int .i64 (0)] 26)))
  go_wp2_with fail
  refine (h4'.out _ HBb.out).mono ?_
  rintro e w5 ⟨rfl, hb⟩
  clear g0_a g1_a gl_a g0_b g1_b gl_b
  have R5_a := hid (((R4_a.out).keep_alloc (.cells #[.int .i64 (0), .int .i64 (0)] 26)).keep hb)
  have R5_b := hid (((R4_b.out).keep_alloc (.cells #[.int .i64 (0), .int .i64 (0)] 26)).keep hb)
  have R5_m := hid (((R4_m.out).keep_alloc (.cells #[.int .i64 (0), .int .i64 (0)] 26)).keep hb)
  have R5_s := hid (((R4_s.out).keep_alloc (.cells #[.int .i64 (0), .int .i64 (0)] 26)).keep hb)
  have HB5 := hid (below_step (below_step HB4.out (Nat.le_refl _) (below_alloc w4 (.cells #[.int .i64 (0), .int .i64 (0)] 26))) (Nat.le_refl _) hb)
  have R5_x := hid ((RatAt.new w4 26 (0) (0)).keep hb)
  clear hb HB4 R4_a R4_b R4_m R4_s
  have g0_a := R5_a.out.p0
  have g1_a := R5_a.out.p1
  have gl_a := R5_a.out.lt
  clear HBb
  have HBb := hid (below_step HB5.out (Nat.le_refl _) (below_alloc w5 (.cells #[.slice (none) 0 0, .slice (none) 0 0] 24)))
  go_wp2_with fail
  refine (h5'.out _ HBb.out).mono ?_
  rintro e w6 ⟨rfl, hb⟩
  clear g0_a g1_a gl_a
  have R6_a := hid (((R5_a.out).keep_alloc (.cells #[.slice (none) 0 0, .slice (none) 0 0] 24)).keep hb)
  have R6_b := hid (((R5_b.out).keep_alloc (.cells #[.slice (none) 0 0, .slice (none) 0 0] 24)).keep hb)
  have R6_m := hid (((R5_m.out).keep_alloc (.cells #[.slice (none) 0 0, .slice (none) 0 0] 24)).keep hb)
  have R6_s := hid (((R5_s.out).keep_alloc (.cells #[.slice (none) 0 0, .slice (none) 0 0] 24)).keep hb)
  have R6_x := hid (((R5_x.out).keep_alloc (.cells #[.slice (none) 0 0, .slice (none) 0 0] 24)).keep hb)
  have HB6 := hid (below_step (below_step HB5.out (Nat.le_refl _) (below_alloc w5 (.cells #[.slice (none) 0 0, .slice (none) 0 0] 24))) (Nat.le_refl _) hb)
  have R6_o := hid ((OddsAt.new w5 24 (none) 0 0 (none) 0 0).keep hb)
  clear hb HB5 R5_a R5_b R5_m R5_s R5_x
  have g0_a := R6_a.out.p0
  have g1_a := R6_a.out.p1
  have gl_a := R6_a.out.lt
  clear HBb
  go_wp2_with fail
  refine (h6'.out _ HB6.out).mono ?_
  rintro e w7 ⟨rfl, hb⟩
  clear g0_a g1_a gl_a
  have R7_a := hid ((R6_a.out).keep hb)
  have R7_b := hid ((R6_b.out).keep hb)
  have R7_m := hid ((R6_m.out).keep hb)
  have R7_s := hid ((R6_s.out).keep hb)
  have R7_x := hid ((R6_x.out).keep hb)
  have R7_o := hid ((R6_o.out).keep hb)
  have HB7 := hid (below_step HB6.out (Nat.le_refl _) hb)
  clear hb HB6 R6_a R6_b R6_m R6_s R6_x R6_o
  have g0_m := R7_m.out.p0
  have g1_m := R7_m.out.p1
  have gl_m := R7_m.out.lt
  have g0_s := R7_s.out.p0
  have g1_s := R7_s.out.p1
  have gl_s := R7_s.out.lt
  have g0_x := R7_x.out.p0
  have g1_x := R7_x.out.p1
  have gl_x := R7_x.out.lt
  have g0_o := R7_o.out.p0
  have g1_o := R7_o.out.p1
  have gl_o := R7_o.out.lt
  go_wp2
  go_ret
  exact ⟨rfl, HB7.out⟩

end Go.Proofs.Ythdjbmogdlodcaa
