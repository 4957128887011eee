/-
  castkeep.EventApart, walked.
-/
import Derived.Test.YtlepgeipcofapaaEvE
namespace Go.Proofs.Ytlepgeipcofapaa
open Go.RowKit

theorem live4 : Space [1, 1, 1, 1] := ⟨by simp, by simp, by simp⟩
theorem apart_live (W : World) : Calls Try.prog 10 #[.slice (some ⟨W.heap.size, 0, none⟩) 4 4, .int .u16 3, .int .u16 5] (W.alloc (.cells #[.int .i64 1, .int .i64 1, .int .i64 1, .int .i64 1] 3)) fun e w' => e = .returned (.tuple #[.bool true, .int .i64 0]) ∧ Below (W.alloc (.cells #[.int .i64 1, .int .i64 1, .int .i64 1, .int .i64 1] 3)).heap.size (W.alloc (.cells #[.int .i64 1, .int .i64 1, .int .i64 1, .int .i64 1] 3)) w' := by
  have k := evApart_ok (some ⟨W.heap.size, 0, none⟩) 4 4 [1, 1, 1, 1] 3 5 _ (ints_lit W #[.int .i64 1, .int .i64 1, .int .i64 1, .int .i64 1] 3 4 [1, 1, 1, 1] rfl rfl) live4 (by omega) (by omega)
  rw [show apB [1, 1, 1, 1] 3 5 = true by decide +kernel] at k
  exact k

set_option maxHeartbeats 4000000 in
set_option maxRecDepth 100000 in
theorem apart_no (A : Option Addr) (n c a b : Nat) (w : World) (er : Int) (he : er ≠ 0) (h1 : ∀ W, Below w.heap.size w W → Calls Try.prog 10 #[.slice A n c, .int .u16 (a), .int .u16 (b)] W (fun e w' => e = .returned (.tuple #[.bool (false), .int .i64 (er)]) ∧ Below W.heap.size W w')) (h2 : ∀ W, Below w.heap.size w W → Calls Try.prog 10 #[.slice A n c, .int .u16 (b), .int .u16 (a)] W (fun e w' => e = .returned (.tuple #[.bool (false), .int .i64 (er)]) ∧ Below W.heap.size W w')) :
    Calls Try.prog 6 #[.slice A n c, .int .u16 (a : Int), .int .u16 (b : Int)] w fun e w' => e = .returned (.bool true) ∧ Below w.heap.size w w' := by
  have d1 : (er != 0) = true := by simpa using he
  clear he
  have h1' := hid h1
  clear h1
  have h2' := hid h2
  clear h2
  have HB0 := hid (Below.refl w.heap.size w)
  go_enter Try.func6, Try.ntmps6
  have HBs := hid (below_alloc w (.cells #[.int .i64 1, .int .i64 1, .int .i64 1, .int .i64 1] 3))
  go_wp2_with fail
  refine (apart_live w).mono ?_
  rintro e w1 ⟨rfl, hb⟩
  have HB1 := hid (below_step HBs.out (Nat.le_refl _) hb)
  clear hb HBs HB0
  go_wp2_with fail
  refine (events_any _).mono ?_
  rintro e w2 ⟨rfl, hb⟩
  have HB2 := hid (below_step HB1.out (Nat.le_refl _) hb)
  clear hb HB1 
  go_wp2_with fail
  have HBN := hid (HB2.out)
  refine (h1'.out _ HBN.out).mono ?_
  rintro e w3 ⟨rfl, hb⟩
  have HB3 := hid (below_step HB2.out (Nat.le_refl _) hb)
  clear hb HB2 
  clear HBN
  go_wp2_with fail
  have HBN := hid (HB3.out)
  refine (h2'.out _ HBN.out).mono ?_
  rintro e w4 ⟨rfl, hb⟩
  have HB4 := hid (below_step HB3.out (Nat.le_refl _) hb)
  clear hb HB3 
  clear HBN
  clear h1' h2'
  go_wp2
  go_ret
  exact ⟨rfl, HB4.out⟩

set_option maxHeartbeats 4000000 in
set_option maxRecDepth 100000 in
theorem apart_z (A : Option Addr) (n c a b : Nat) (w : World) (z : Nat) (h1 : ∀ W, Below w.heap.size w W → Calls Try.prog 10 #[.slice A n c, .int .u16 (a), .int .u16 (b)] W (fun e w' => e = .returned (.tuple #[.bool (true), .int .i64 (0)]) ∧ Below W.heap.size W w')) (h2 : ∀ W, Below w.heap.size w W → Calls Try.prog 10 #[.slice A n c, .int .u16 (b), .int .u16 (a)] W (fun e w' => e = .returned (.tuple #[.bool (true), .int .i64 (0)]) ∧ Below W.heap.size W w')) (h3 : ∀ W, Below w.heap.size w W → Calls Try.prog 10 #[.slice A n c, .int .u16 (a), .int .u16 ((z &&& (65535 - b) : Nat))] W (fun e w' => e = .returned (.tuple #[.bool (true), .int .i64 (0)]) ∧ Below W.heap.size W w')) (h4 : bits .andNot .u16 (z : Int) (b : Int) = ((z &&& (65535 - b) : Nat) : Int)) (h5 : IntKind.u16.wrap (IntKind.u16.wrap ((2 : Int) ^ n) - 1) = (z : Int)) (hn : n ≤ 16) (h0 : b = 0) :
    Calls Try.prog 6 #[.slice A n c, .int .u16 (a : Int), .int .u16 (b : Int)] w fun e w' => e = .returned (.bool true) ∧ Below w.heap.size w w' := by
  have d1 : ((b : Int) == 0) = true := by rw [h0]; rfl
  clear h0
  have h1' := hid h1
  clear h1
  have h2' := hid h2
  clear h2
  have h3' := hid h3
  clear h3
  have h4' := hid h4
  clear h4
  have h5' := hid h5
  clear h5
  have HB0 := hid (Below.refl w.heap.size w)
  go_enter Try.func6, Try.ntmps6
  have HBs := hid (below_alloc w (.cells #[.int .i64 1, .int .i64 1, .int .i64 1, .int .i64 1] 3))
  go_wp2_with fail
  refine (apart_live w).mono ?_
  rintro e w1 ⟨rfl, hb⟩
  have HB1 := hid (below_step HBs.out (Nat.le_refl _) hb)
  clear hb HBs HB0
  go_wp2_with fail
  refine (events_any _).mono ?_
  rintro e w2 ⟨rfl, hb⟩
  have HB2 := hid (below_step HB1.out (Nat.le_refl _) hb)
  clear hb HB1 
  go_wp2_with fail
  have HBN := hid (HB2.out)
  refine (h1'.out _ HBN.out).mono ?_
  rintro e w3 ⟨rfl, hb⟩
  have HB3 := hid (below_step HB2.out (Nat.le_refl _) hb)
  clear hb HB2 
  clear HBN
  go_wp2_with fail
  have HBN := hid (HB3.out)
  refine (h2'.out _ HBN.out).mono ?_
  rintro e w4 ⟨rfl, hb⟩
  have HB4 := hid (below_step HB3.out (Nat.le_refl _) hb)
  clear hb HB3 
  clear HBN
  go_wp2_with fail
  rw [h5'.out, h4'.out]
  have HBN := hid (HB4.out)
  refine (h3'.out _ HBN.out).mono ?_
  rintro e w5 ⟨rfl, hb⟩
  have HB5 := hid (below_step HB4.out (Nat.le_refl _) hb)
  clear hb HB4 
  clear HBN
  go_wp2_with fail
  refine (good_bel _ _ _ 2 [0, 0] rfl rfl (by omega)).mono ?_
  rintro e w6 ⟨rfl, hb⟩
  rw [show allOK [0, 0] = true by decide]
  have HB6 := hid (below_step HB5.out (Nat.le_refl _) hb)
  clear hb HB5 
  clear h1' h2' h3' h4' h5'
  go_wp2
  go_ret
  exact ⟨rfl, HB6.out⟩

set_option maxHeartbeats 4000000 in
set_option maxRecDepth 100000 in
theorem apart_t (A : Option Addr) (n c a b : Nat) (w : World) (z : Nat) (h1 : ∀ W, Below w.heap.size w W → Calls Try.prog 10 #[.slice A n c, .int .u16 (a), .int .u16 (b)] W (fun e w' => e = .returned (.tuple #[.bool (true), .int .i64 (0)]) ∧ Below W.heap.size W w')) (h2 : ∀ W, Below w.heap.size w W → Calls Try.prog 10 #[.slice A n c, .int .u16 (b), .int .u16 (a)] W (fun e w' => e = .returned (.tuple #[.bool (true), .int .i64 (0)]) ∧ Below W.heap.size W w')) (h3 : ∀ W, Below w.heap.size w W → Calls Try.prog 10 #[.slice A n c, .int .u16 (a), .int .u16 ((z &&& (65535 - b) : Nat))] W (fun e w' => e = .returned (.tuple #[.bool (true), .int .i64 (0)]) ∧ Below W.heap.size W w')) (h4 : bits .andNot .u16 (z : Int) (b : Int) = ((z &&& (65535 - b) : Nat) : Int)) (h5 : IntKind.u16.wrap (IntKind.u16.wrap ((2 : Int) ^ n) - 1) = (z : Int)) (hn : n ≤ 16) (P1 Q1 : Int) (h0 : b ≠ 0) (h6 : ∀ W, Below w.heap.size w W → Calls Try.prog 8 #[.slice A n c, .int .u16 (a)] W (RetR W (P1) (Q1) (0))) (h7 : ∀ W, Below w.heap.size w W → Calls Try.prog 9 #[.slice A n c, .int .u16 (a), .int .u16 (b)] W (RetR W (P1) (Q1) (0))) :
    Calls Try.prog 6 #[.slice A n c, .int .u16 (a : Int), .int .u16 (b : Int)] w fun e w' => e = .returned (.bool true) ∧ Below w.heap.size w w' := by
  have d1 : ((b : Int) == 0) = false := by simpa using h0
  clear h0
  have h1' := hid h1
  clear h1
  have h2' := hid h2
  clear h2
  have h3' := hid h3
  clear h3
  have h4' := hid h4
  clear h4
  have h5' := hid h5
  clear h5
  have h6' := hid h6
  clear h6
  have h7' := hid h7
  clear h7
  have HB0 := hid (Below.refl w.heap.size w)
  go_enter Try.func6, Try.ntmps6
  have HBs := hid (below_alloc w (.cells #[.int .i64 1, .int .i64 1, .int .i64 1, .int .i64 1] 3))
  go_wp2_with fail
  refine (apart_live w).mono ?_
  rintro e w1 ⟨rfl, hb⟩
  have HB1 := hid (below_step HBs.out (Nat.le_refl _) hb)
  clear hb HBs HB0
  go_wp2_with fail
  refine (events_any _).mono ?_
  rintro e w2 ⟨rfl, hb⟩
  have HB2 := hid (below_step HB1.out (Nat.le_refl _) hb)
  clear hb HB1 
  go_wp2_with fail
  have HBN := hid (HB2.out)
  refine (h1'.out _ HBN.out).mono ?_
  rintro e w3 ⟨rfl, hb⟩
  have HB3 := hid (below_step HB2.out (Nat.le_refl _) hb)
  clear hb HB2 
  clear HBN
  go_wp2_with fail
  have HBN := hid (HB3.out)
  refine (h2'.out _ HBN.out).mono ?_
  rintro e w4 ⟨rfl, hb⟩
  have HB4 := hid (below_step HB3.out (Nat.le_refl _) hb)
  clear hb HB3 
  clear HBN
  go_wp2_with fail
  rw [h5'.out, h4'.out]
  have HBN := hid (HB4.out)
  refine (h3'.out _ HBN.out).mono ?_
  rintro e w5 ⟨rfl, hb⟩
  have HB5 := hid (below_step HB4.out (Nat.le_refl _) hb)
  clear hb HB4 
  clear HBN
  go_wp2_with fail
  refine (good_bel _ _ _ 2 [0, 0] rfl rfl (by omega)).mono ?_
  rintro e w6 ⟨rfl, hb⟩
  rw [show allOK [0, 0] = true by decide]
  have HB6 := hid (below_step HB5.out (Nat.le_refl _) hb)
  clear hb HB5 
  go_wp2_with fail
  have HBN := hid (HB6.out)
  refine (h6'.out _ HBN.out).mono ?_
  rintro e w7 ⟨rfl, hb⟩
  have HB7 := hid (below_step HB6.out (Nat.le_refl _) hb)
  clear hb HB6 
  clear HBN
  go_wp2_with fail
  have HBN := hid (below_step HB7.out (Nat.le_refl _) (below_alloc w7 (.cells #[.int .i64 (P1), .int .i64 (Q1)] 26)))
  refine (h7'.out _ HBN.out).mono ?_
  rintro e w8 ⟨rfl, hb⟩
  have HB8 := hid (below_step (below_step HB7.out (Nat.le_refl _) (below_alloc w7 (.cells #[.int .i64 (P1), .int .i64 (Q1)] 26))) (Nat.le_refl _) hb)
  have R8_x := hid ((RatAt.new w7 26 (P1) (Q1)).keep hb)
  clear hb HB7 
  clear HBN
  go_wp2_with fail
  refine (good_bel1 _ _ _ _ 2 [0, 0] rfl rfl (by omega)).mono ?_
  rintro e w9 ⟨rfl, hb⟩
  rw [show allOK [0, 0] = true by decide]
  have R9_x := hid (((R8_x.out).keep_alloc (.cells #[.int .i64 (P1), .int .i64 (Q1)] 26)).keep hb)
  have HB9 := hid (below_step (below_step HB8.out (Nat.le_refl _) (below_alloc w8 (.cells #[.int .i64 (P1), .int .i64 (Q1)] 26))) (Nat.le_refl _) hb)
  have R9_y := hid ((RatAt.new w8 26 (P1) (Q1)).keep hb)
  clear hb HB8 R8_x
  have g0_x := R9_x.out.p0
  have g1_x := R9_x.out.p1
  have gl_x := R9_x.out.lt
  have g0_y := R9_y.out.p0
  have g1_y := R9_y.out.p1
  have gl_y := R9_y.out.lt
  clear h1' h2' h3' h4' h5' h6' h7'
  go_wp2
  go_ret
  exact ⟨rfl, HB9.out⟩

set_option maxHeartbeats 4000000 in
set_option maxRecDepth 100000 in
theorem apart_f (A : Option Addr) (n c a b : Nat) (w : World) (z : Nat) (h1 : ∀ W, Below w.heap.size w W → Calls Try.prog 10 #[.slice A n c, .int .u16 (a), .int .u16 (b)] W (fun e w' => e = .returned (.tuple #[.bool (false), .int .i64 (0)]) ∧ Below W.heap.size W w')) (h2 : ∀ W, Below w.heap.size w W → Calls Try.prog 10 #[.slice A n c, .int .u16 (b), .int .u16 (a)] W (fun e w' => e = .returned (.tuple #[.bool (false), .int .i64 (0)]) ∧ Below W.heap.size W w')) (h3 : ∀ W, Below w.heap.size w W → Calls Try.prog 10 #[.slice A n c, .int .u16 (a), .int .u16 ((z &&& (65535 - b) : Nat))] W (fun e w' => e = .returned (.tuple #[.bool (false), .int .i64 (0)]) ∧ Below W.heap.size W w')) (h4 : bits .andNot .u16 (z : Int) (b : Int) = ((z &&& (65535 - b) : Nat) : Int)) (h5 : IntKind.u16.wrap (IntKind.u16.wrap ((2 : Int) ^ n) - 1) = (z : Int)) (hn : n ≤ 16) (P1 Q1 P2 Q2 : Int) (h0 : b ≠ 0) (h6 : ∀ W, Below w.heap.size w W → Calls Try.prog 8 #[.slice A n c, .int .u16 (a)] W (RetR W (P1) (Q1) (0))) (h7 : ∀ W, Below w.heap.size w W → Calls Try.prog 9 #[.slice A n c, .int .u16 (a), .int .u16 (b)] W (RetR W (P2) (Q2) (0))) (h8 : (P1 == P2 && Q1 == Q2) = false) :
    Calls Try.prog 6 #[.slice A n c, .int .u16 (a : Int), .int .u16 (b : Int)] w fun e w' => e = .returned (.bool true) ∧ Below w.heap.size w w' := by
  have d1 : ((b : Int) == 0) = false := by simpa using h0
  clear h0
  have h1' := hid h1
  clear h1
  have h2' := hid h2
  clear h2
  have h3' := hid h3
  clear h3
  have h4' := hid h4
  clear h4
  have h5' := hid h5
  clear h5
  have h6' := hid h6
  clear h6
  have h7' := hid h7
  clear h7
  have h8' := hid h8
  clear h8
  have HB0 := hid (Below.refl w.heap.size w)
  go_enter Try.func6, Try.ntmps6
  have HBs := hid (below_alloc w (.cells #[.int .i64 1, .int .i64 1, .int .i64 1, .int .i64 1] 3))
  go_wp2_with fail
  refine (apart_live w).mono ?_
  rintro e w1 ⟨rfl, hb⟩
  have HB1 := hid (below_step HBs.out (Nat.le_refl _) hb)
  clear hb HBs HB0
  go_wp2_with fail
  refine (events_any _).mono ?_
  rintro e w2 ⟨rfl, hb⟩
  have HB2 := hid (below_step HB1.out (Nat.le_refl _) hb)
  clear hb HB1 
  go_wp2_with fail
  have HBN := hid (HB2.out)
  refine (h1'.out _ HBN.out).mono ?_
  rintro e w3 ⟨rfl, hb⟩
  have HB3 := hid (below_step HB2.out (Nat.le_refl _) hb)
  clear hb HB2 
  clear HBN
  go_wp2_with fail
  have HBN := hid (HB3.out)
  refine (h2'.out _ HBN.out).mono ?_
  rintro e w4 ⟨rfl, hb⟩
  have HB4 := hid (below_step HB3.out (Nat.le_refl _) hb)
  clear hb HB3 
  clear HBN
  go_wp2_with fail
  rw [h5'.out, h4'.out]
  have HBN := hid (HB4.out)
  refine (h3'.out _ HBN.out).mono ?_
  rintro e w5 ⟨rfl, hb⟩
  have HB5 := hid (below_step HB4.out (Nat.le_refl _) hb)
  clear hb HB4 
  clear HBN
  go_wp2_with fail
  refine (good_bel _ _ _ 2 [0, 0] rfl rfl (by omega)).mono ?_
  rintro e w6 ⟨rfl, hb⟩
  rw [show allOK [0, 0] = true by decide]
  have HB6 := hid (below_step HB5.out (Nat.le_refl _) hb)
  clear hb HB5 
  go_wp2_with fail
  have HBN := hid (HB6.out)
  refine (h6'.out _ HBN.out).mono ?_
  rintro e w7 ⟨rfl, hb⟩
  have HB7 := hid (below_step HB6.out (Nat.le_refl _) hb)
  clear hb HB6 
  clear HBN
  go_wp2_with fail
  have HBN := hid (below_step HB7.out (Nat.le_refl _) (below_alloc w7 (.cells #[.int .i64 (P1), .int .i64 (Q1)] 26)))
  refine (h7'.out _ HBN.out).mono ?_
  rintro e w8 ⟨rfl, hb⟩
  have HB8 := hid (below_step (below_step HB7.out (Nat.le_refl _) (below_alloc w7 (.cells #[.int .i64 (P1), .int .i64 (Q1)] 26))) (Nat.le_refl _) hb)
  have R8_x := hid ((RatAt.new w7 26 (P1) (Q1)).keep hb)
  clear hb HB7 
  clear HBN
  go_wp2_with fail
  refine (good_bel1 _ _ _ _ 2 [0, 0] rfl rfl (by omega)).mono ?_
  rintro e w9 ⟨rfl, hb⟩
  rw [show allOK [0, 0] = true by decide]
  have R9_x := hid (((R8_x.out).keep_alloc (.cells #[.int .i64 (P2), .int .i64 (Q2)] 26)).keep hb)
  have HB9 := hid (below_step (below_step HB8.out (Nat.le_refl _) (below_alloc w8 (.cells #[.int .i64 (P2), .int .i64 (Q2)] 26))) (Nat.le_refl _) hb)
  have R9_y := hid ((RatAt.new w8 26 (P2) (Q2)).keep hb)
  clear hb HB8 R8_x
  have g0_x := R9_x.out.p0
  have g1_x := R9_x.out.p1
  have gl_x := R9_x.out.lt
  have g0_y := R9_y.out.p0
  have g1_y := R9_y.out.p1
  have gl_y := R9_y.out.lt
  clear h1' h2' h3' h4' h5' h6' h7'
  go_wp2
  all_goals first | (exfalso; have hcc := h8'.out; simp only [*] at hcc; simp at hcc; done) | (go_ret; exact ⟨rfl, HB9.out⟩)

theorem apB_swap (ws : List Int) (a b : Nat) : apB ws b a = apB ws a b := by
  unfold apB
  rw [Nat.and_comm, Int.mul_comm (wgt ws b)]
theorem apB_other {ws : List Int} (a : Nat) {b : Nat} (hb : b < 2 ^ ws.length) (hl : ws.length ≤ 16) : apB ws a ((2 ^ ws.length - 1) &&& (65535 - b)) = apB ws a b := by
  unfold apB
  rw [wgt_apart ws hb hl, wgt_other ws hb hl, Int.sub_mul, Int.mul_sub]
  generalize wgt ws a * tot ws = p
  generalize wgt ws (a &&& b) * tot ws = q
  generalize wgt ws a * wgt ws b = r
  rw [Bool.eq_iff_iff, beq_iff_eq, beq_iff_eq]
  omega
set_option maxHeartbeats 1600000 in
theorem apart_any (A : Option Addr) (n c : Nat) (ws : List Int) (a b : Nat) (w : World) (hI : Ints w A n ws) (ha : a < 65536) (hb : b < 65536) :
    Calls Try.prog 6 #[.slice A n c, .int .u16 (a : Int), .int .u16 (b : Int)] w fun e w' => e = .returned (.bool true) ∧ Below w.heap.size w w' := by
  have hl := hI.len
  subst hl
  by_cases c2 : casesErr ws [a, b] = 0
  · obtain ⟨hS, hab⟩ := casesErr_zero c2
    have ha2 : a < 2 ^ ws.length := hab a (by simp)
    have hb2 : b < 2 ^ ws.length := hab b (by simp)
    have ht := hS.tot
    have hp := hS.pow
    have hn := hS.hi
    have h2p := Nat.two_pow_pos ws.length
    have k1 : (2 ^ ws.length - 1) &&& (65535 - b) < 2 ^ ws.length := and_lt (by omega)
    have h1 := fun W (hw : Below w.heap.size w W) => evApart_ok A _ c ws a b W (hI.keep hw) hS (by omega) (by omega)
    have h2 := fun W (hw : Below w.heap.size w W) => evApart_ok A _ c ws b a W (hI.keep hw) hS (by omega) (by omega)
    have h3 := fun W (hw : Below w.heap.size w W) => evApart_ok A _ c ws a _ W (hI.keep hw) hS (by omega) k1
    rw [apB_swap] at h2
    rw [apB_other a hb2 (by omega)] at h3
    have h4 := u16_andNot_nat (2 ^ ws.length - 1) b (by omega) hb
    have h5 := mask_16 (n := ws.length) (by omega)
    by_cases hb0 : b = 0
    · have e : apB ws a b = true := by
        subst hb0
        unfold apB
        rw [Nat.and_zero, wgt_zero, Int.zero_mul, Int.mul_zero]
        rfl
      rw [e] at h1 h2 h3
      exact apart_z A _ c a b w _ h1 h2 h3 h4 h5 (by omega) hb0
    · have hq := wgt_pos hS.w hb2 hb0
      have h6 := fun W (hw : Below w.heap.size w W) => evChance_ok A _ c ws a W (hI.keep hw) hS (by omega)
      have h7 := fun W (hw : Below w.heap.size w W) => evGiven_ok A _ c ws a b W (hI.keep hw) hS (by omega) (by omega) hb0
      have hiff := divInt_eq_num (x := wgt ws a) (y := tot ws) (u := wgt ws (a &&& b)) (v := wgt ws b) (by omega) (by omega)
      cases e : apB ws a b with
      | true =>
        have e2 : wgt ws a * wgt ws b = wgt ws (a &&& b) * tot ws := (beq_iff_eq.1 e).symm
        have e3 : chR ws a = gvR ws a b := (Rat.divInt_eq_divInt_iff (by omega) (by omega)).2 e2
        rw [e] at h1 h2 h3
        rw [← e3] at h7
        exact apart_t A _ c a b w _ h1 h2 h3 h4 h5 (by omega) _ _ hb0 h6 h7
      | false =>
        rw [e] at h1 h2 h3
        refine apart_f A _ c a b w _ h1 h2 h3 h4 h5 (by omega) _ _ _ _ hb0 h6 h7 ?_
        rw [Bool.eq_false_iff]
        intro hh
        have := hiff.1 hh
        unfold apB at e
        rw [← this] at e
        simp at e
  · have hno : casesErr ws [b, a] ≠ 0 := by rw [casesErr_swap]; exact c2
    refine apart_no A _ c a b w _ c2 (fun W hw => evApart_bad A _ c ws a b W (hI.keep hw) ha hb c2) (fun W hw => ?_)
    have k := evApart_bad A _ c ws b a W (hI.keep hw) hb ha hno
    rw [casesErr_swap] at k
    exact k
end Go.Proofs.Ytlepgeipcofapaa
