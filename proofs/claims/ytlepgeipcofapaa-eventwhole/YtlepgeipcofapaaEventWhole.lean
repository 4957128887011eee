/-
  castkeep.EventWhole, walked.
-/
import Derived.Test.YtlepgeipcofapaaEvE
namespace Go.Proofs.Ytlepgeipcofapaa
open Go.RowKit

set_option maxHeartbeats 4000000 in
set_option maxRecDepth 100000 in
theorem whole_off (A : Option Addr) (n c a b : Nat) (w : World) (er : Int) (he : er ≠ 0) (h1 : ∀ W, Below w.heap.size w W → Calls Try.prog 8 #[.slice A n c, .int .u16 (a)] W (RetR W (0) (0) (er))) :
    Calls Try.prog 5 #[.slice A n c, .int .u16 (a : Int), .int .u16 (b : Int)] w fun e w' => e = .returned (.bool true) ∧ Below w.heap.size w w' := by
  have d1 : (er != 0) = true := by simpa using he
  have d2 : (er == 0) = false := by simpa using he
  clear he
  have h1' := hid h1
  clear h1
  have HB0 := hid (Below.refl w.heap.size w)
  go_enter Try.func5, Try.ntmps5
  go_wp2_with fail
  refine (events_any _).mono ?_
  rintro e w1 ⟨rfl, hb⟩
  have HB1 := hid (below_step HB0.out (Nat.le_refl _) hb)
  clear hb HB0 
  go_wp2_with fail
  refine (ratios_any _).mono ?_
  rintro e w2 ⟨rfl, hb⟩
  have HB2 := hid (below_step HB1.out (Nat.le_refl _) hb)
  clear hb HB1 
  go_wp2_with fail
  have HBN := hid (HB2.out)
  refine (h1'.out _ HBN.out).mono ?_
  rintro e w3 ⟨rfl, hb⟩
  have HB3 := hid (below_step HB2.out (Nat.le_refl _) hb)
  clear hb HB2 
  clear HBN
  clear h1'
  go_wp2
  go_ret
  exact ⟨rfl, below_step HB3.out (Nat.le_refl _) (below_alloc w3 (.cells #[.int .i64 (0), .int .i64 (0)] 26))⟩

set_option maxHeartbeats 4000000 in
set_option maxRecDepth 100000 in
theorem whole_no (A : Option Addr) (n c a b : Nat) (w : World) (er P1 Q1 : Int) (he : er ≠ 0) (h1 : ∀ W, Below w.heap.size w W → Calls Try.prog 8 #[.slice A n c, .int .u16 (a)] W (RetR W (P1) (Q1) (0))) (hck : ∀ (W : World) (o : Obj), Below w.heap.size w ((W.alloc o).alloc (.cells #[.int .u16 (a : Int), .int .u16 (b : Int)] 23)) → Calls Try.prog 12 #[.slice A n c, .slice (some ⟨W.heap.size + 1, 0, none⟩) 2 2] ((W.alloc o).alloc (.cells #[.int .u16 (a : Int), .int .u16 (b : Int)] 23)) fun e w' => e = .returned (.int .i64 er) ∧ (W.alloc o).alloc (.cells #[.int .u16 (a : Int), .int .u16 (b : Int)] 23) = w') :
    Calls Try.prog 5 #[.slice A n c, .int .u16 (a : Int), .int .u16 (b : Int)] w fun e w' => e = .returned (.bool true) ∧ Below w.heap.size w w' := by
  have d1 : (er != 0) = true := by simpa using he
  clear he
  have h1' := hid h1
  clear h1
  have hck' := hid hck
  clear hck
  have HB0 := hid (Below.refl w.heap.size w)
  go_enter Try.func5, Try.ntmps5
  go_wp2_with fail
  refine (events_any _).mono ?_
  rintro e w1 ⟨rfl, hb⟩
  have HB1 := hid (below_step HB0.out (Nat.le_refl _) hb)
  clear hb HB0 
  go_wp2_with fail
  refine (ratios_any _).mono ?_
  rintro e w2 ⟨rfl, hb⟩
  have HB2 := hid (below_step HB1.out (Nat.le_refl _) hb)
  clear hb HB1 
  go_wp2_with fail
  have HBN := hid (HB2.out)
  refine (h1'.out _ HBN.out).mono ?_
  rintro e w3 ⟨rfl, hb⟩
  have HB3 := hid (below_step HB2.out (Nat.le_refl _) hb)
  clear hb HB2 
  clear HBN
  go_wp2_with fail
  have HBN : Hid (Below w.heap.size w ((w3.alloc (.cells #[.int .i64 (P1), .int .i64 (Q1)] 26)).alloc (.cells #[.int .u16 (a : Int), .int .u16 (b : Int)] 23))) := hid (below_step HB3.out (Nat.le_refl _) (two_alloc w3 _ _))
  have HXN : Hid (RatAt ((w3.alloc (.cells #[.int .i64 (P1), .int .i64 (Q1)] 26)).alloc (.cells #[.int .u16 (a : Int), .int .u16 (b : Int)] 23)) w3.heap.size (P1) (Q1)) := hid (rat_first w3 _ _ _ _)
  have HCN := hid (hck'.out w3 (.cells #[.int .i64 (P1), .int .i64 (Q1)] 26) HBN.out)
  refine HCN.out.mono ?_
  rintro e w4 ⟨rfl, hw⟩
  rw [hw] at HBN HXN
  clear hw HB3 HCN
  have HB4 := HBN
  have R4_x := HXN
  clear HBN HXN
  clear h1' hck'
  have g0_x := R4_x.out.p0
  have g1_x := R4_x.out.p1
  have gl_x := R4_x.out.lt
  go_wp2
  go_ret
  exact ⟨rfl, HB4.out⟩

set_option maxHeartbeats 4000000 in
set_option maxRecDepth 100000 in
theorem whole_yes (A : Option Addr) (n c a b : Nat) (w : World) (P1 Q1 P2 Q2 P3 Q3 P4 Q4 : Int) (z : Nat) (h1 : ∀ W, Below w.heap.size w W → Calls Try.prog 8 #[.slice A n c, .int .u16 (a)] W (RetR W (P1) (Q1) (0))) (hck : ∀ (W : World) (o : Obj), Below w.heap.size w ((W.alloc o).alloc (.cells #[.int .u16 (a : Int), .int .u16 (b : Int)] 23)) → Calls Try.prog 12 #[.slice A n c, .slice (some ⟨W.heap.size + 1, 0, none⟩) 2 2] ((W.alloc o).alloc (.cells #[.int .u16 (a : Int), .int .u16 (b : Int)] 23)) fun e w' => e = .returned (.int .i64 0) ∧ (W.alloc o).alloc (.cells #[.int .u16 (a : Int), .int .u16 (b : Int)] 23) = w') (h2 : ∀ W, Below w.heap.size w W → Calls Try.prog 8 #[.slice A n c, .int .u16 ((a &&& b : Nat))] W (RetR W (P2) (Q2) (0))) (h3 : ∀ W, Below w.heap.size w W → Calls Try.prog 8 #[.slice A n c, .int .u16 ((a &&& (65535 - b) : Nat))] W (RetR W (P3) (Q3) (0))) (h4 : ∀ W, Below w.heap.size w W → Calls Try.prog 8 #[.slice A n c, .int .u16 ((z &&& (65535 - a) : Nat))] W (RetR W (P4) (Q4) (0))) (h5 : bits .and .u16 (a : Int) (b : Int) = ((a &&& b : Nat) : Int)) (h6 : bits .andNot .u16 (a : Int) (b : Int) = ((a &&& (65535 - b) : Nat) : Int)) (h7 : bits .andNot .u16 (z : Int) (a : Int) = ((z &&& (65535 - a) : Nat) : Int)) (h8 : IntKind.u16.wrap (IntKind.u16.wrap ((2 : Int) ^ n) - 1) = (z : Int)) (h9 : ∀ W, Calls Try.prog 20 #[.agg #[.int .i64 (P2), .int .i64 (Q2)], .agg #[.int .i64 (P3), .int .i64 (Q3)]] W (RetR W P1 Q1 0)) (h10 : ∀ W, Calls Try.prog 20 #[.agg #[.int .i64 (P1), .int .i64 (Q1)], .agg #[.int .i64 (P4), .int .i64 (Q4)]] W (RetR W 1 1 0)) (hn : n ≤ 16) :
    Calls Try.prog 5 #[.slice A n c, .int .u16 (a : Int), .int .u16 (b : Int)] w fun e w' => e = .returned (.bool true) ∧ Below w.heap.size w w' := by
  have h1' := hid h1
  clear h1
  have hck' := hid hck
  clear hck
  have h2' := hid h2
  clear h2
  have h3' := hid h3
  clear h3
  have h4' := hid h4
  clear h4
  have h5' := hid h5
  clear h5
  have h6' := hid h6
  clear h6
  have h7' := hid h7
  clear h7
  have h8' := hid h8
  clear h8
  have h9' := hid h9
  clear h9
  have h10' := hid h10
  clear h10
  have HB0 := hid (Below.refl w.heap.size w)
  go_enter Try.func5, Try.ntmps5
  go_wp2_with fail
  refine (events_any _).mono ?_
  rintro e w1 ⟨rfl, hb⟩
  have HB1 := hid (below_step HB0.out (Nat.le_refl _) hb)
  clear hb HB0 
  go_wp2_with fail
  refine (ratios_any _).mono ?_
  rintro e w2 ⟨rfl, hb⟩
  have HB2 := hid (below_step HB1.out (Nat.le_refl _) hb)
  clear hb HB1 
  go_wp2_with fail
  have HBN := hid (HB2.out)
  refine (h1'.out _ HBN.out).mono ?_
  rintro e w3 ⟨rfl, hb⟩
  have HB3 := hid (below_step HB2.out (Nat.le_refl _) hb)
  clear hb HB2 
  clear HBN
  go_wp2_with fail
  have HBN : Hid (Below w.heap.size w ((w3.alloc (.cells #[.int .i64 (P1), .int .i64 (Q1)] 26)).alloc (.cells #[.int .u16 (a : Int), .int .u16 (b : Int)] 23))) := hid (below_step HB3.out (Nat.le_refl _) (two_alloc w3 _ _))
  have HXN : Hid (RatAt ((w3.alloc (.cells #[.int .i64 (P1), .int .i64 (Q1)] 26)).alloc (.cells #[.int .u16 (a : Int), .int .u16 (b : Int)] 23)) w3.heap.size (P1) (Q1)) := hid (rat_first w3 _ _ _ _)
  have HCN := hid (hck'.out w3 (.cells #[.int .i64 (P1), .int .i64 (Q1)] 26) HBN.out)
  refine HCN.out.mono ?_
  rintro e w4 ⟨rfl, hw⟩
  rw [hw] at HBN HXN
  clear hw HB3 HCN
  have HB4 := HBN
  have R4_x := HXN
  clear HBN HXN
  go_wp2_with fail
  rw [h5'.out, h8'.out]
  have HBN := hid (HB4.out)
  refine (h2'.out _ HBN.out).mono ?_
  rintro e w5 ⟨rfl, hb⟩
  have R5_x := hid ((R4_x.out).keep hb)
  have HB5 := hid (below_step HB4.out (Nat.le_refl _) hb)
  clear hb HB4 R4_x
  clear HBN
  go_wp2_with fail
  rw [h6'.out]
  have HBN := hid (below_step HB5.out (Nat.le_refl _) (below_alloc w5 (.cells #[.int .i64 (P2), .int .i64 (Q2)] 26)))
  refine (h3'.out _ HBN.out).mono ?_
  rintro e w6 ⟨rfl, hb⟩
  have R6_x := hid (((R5_x.out).keep_alloc (.cells #[.int .i64 (P2), .int .i64 (Q2)] 26)).keep hb)
  have HB6 := hid (below_step (below_step HB5.out (Nat.le_refl _) (below_alloc w5 (.cells #[.int .i64 (P2), .int .i64 (Q2)] 26))) (Nat.le_refl _) hb)
  have R6_y := hid ((RatAt.new w5 26 (P2) (Q2)).keep hb)
  clear hb HB5 R5_x
  have g0_y := R6_y.out.p0
  have g1_y := R6_y.out.p1
  have gl_y := R6_y.out.lt
  clear HBN
  go_wp2_with fail
  refine (h9'.out _).mono ?_
  rintro e w7 ⟨rfl, hb⟩
  clear g0_y g1_y gl_y
  have R7_x := hid (((R6_x.out).keep_alloc (.cells #[.int .i64 (P3), .int .i64 (Q3)] 26)).keep hb)
  have R7_y := hid (((R6_y.out).keep_alloc (.cells #[.int .i64 (P3), .int .i64 (Q3)] 26)).keep hb)
  have HB7 := hid (below_step (below_step HB6.out (Nat.le_refl _) (below_alloc w6 (.cells #[.int .i64 (P3), .int .i64 (Q3)] 26))) (Nat.le_refl _) hb)
  have R7_z := hid ((RatAt.new w6 26 (P3) (Q3)).keep hb)
  clear hb HB6 R6_x R6_y
  go_wp2_with fail
  rw [h7'.out]
  have HBN := hid (below_step HB7.out (Nat.le_refl _) (below_alloc w7 (.cells #[.int .i64 (P1), .int .i64 (Q1)] 26)))
  refine (h4'.out _ HBN.out).mono ?_
  rintro e w8 ⟨rfl, hb⟩
  have R8_x := hid (((R7_x.out).keep_alloc (.cells #[.int .i64 (P1), .int .i64 (Q1)] 26)).keep hb)
  have R8_y := hid (((R7_y.out).keep_alloc (.cells #[.int .i64 (P1), .int .i64 (Q1)] 26)).keep hb)
  have R8_z := hid (((R7_z.out).keep_alloc (.cells #[.int .i64 (P1), .int .i64 (Q1)] 26)).keep hb)
  have HB8 := hid (below_step (below_step HB7.out (Nat.le_refl _) (below_alloc w7 (.cells #[.int .i64 (P1), .int .i64 (Q1)] 26))) (Nat.le_refl _) hb)
  have R8_s := hid ((RatAt.new w7 26 (P1) (Q1)).keep hb)
  clear hb HB7 R7_x R7_y R7_z
  have g0_x := R8_x.out.p0
  have g1_x := R8_x.out.p1
  have gl_x := R8_x.out.lt
  clear HBN
  go_wp2_with fail
  refine (h10'.out _).mono ?_
  rintro e w9 ⟨rfl, hb⟩
  clear g0_x g1_x gl_x
  have R9_x := hid (((R8_x.out).keep_alloc (.cells #[.int .i64 (P4), .int .i64 (Q4)] 26)).keep hb)
  have R9_y := hid (((R8_y.out).keep_alloc (.cells #[.int .i64 (P4), .int .i64 (Q4)] 26)).keep hb)
  have R9_z := hid (((R8_z.out).keep_alloc (.cells #[.int .i64 (P4), .int .i64 (Q4)] 26)).keep hb)
  have R9_s := hid (((R8_s.out).keep_alloc (.cells #[.int .i64 (P4), .int .i64 (Q4)] 26)).keep hb)
  have HB9 := hid (below_step (below_step HB8.out (Nat.le_refl _) (below_alloc w8 (.cells #[.int .i64 (P4), .int .i64 (Q4)] 26))) (Nat.le_refl _) hb)
  have R9_o := hid ((RatAt.new w8 26 (P4) (Q4)).keep hb)
  clear hb HB8 R8_x R8_y R8_z R8_s
  go_wp2_with fail
  refine (good_bel1 _ _ _ _ 5 [0, 0, 0, 0, 0] rfl rfl (by omega)).mono ?_
  rintro e w10 ⟨rfl, hb⟩
  rw [show allOK [0, 0, 0, 0, 0] = true by decide]
  have R10_x := hid (((R9_x.out).keep_alloc (.cells #[.int .i64 (1), .int .i64 (1)] 26)).keep hb)
  have R10_y := hid (((R9_y.out).keep_alloc (.cells #[.int .i64 (1), .int .i64 (1)] 26)).keep hb)
  have R10_z := hid (((R9_z.out).keep_alloc (.cells #[.int .i64 (1), .int .i64 (1)] 26)).keep hb)
  have R10_s := hid (((R9_s.out).keep_alloc (.cells #[.int .i64 (1), .int .i64 (1)] 26)).keep hb)
  have R10_o := hid (((R9_o.out).keep_alloc (.cells #[.int .i64 (1), .int .i64 (1)] 26)).keep hb)
  have HB10 := hid (below_step (below_step HB9.out (Nat.le_refl _) (below_alloc w9 (.cells #[.int .i64 (1), .int .i64 (1)] 26))) (Nat.le_refl _) hb)
  have R10_t := hid ((RatAt.new w9 26 (1) (1)).keep hb)
  clear hb HB9 R9_x R9_y R9_z R9_s R9_o
  have g0_s := R10_s.out.p0
  have g1_s := R10_s.out.p1
  have gl_s := R10_s.out.lt
  have g0_x := R10_x.out.p0
  have g1_x := R10_x.out.p1
  have gl_x := R10_x.out.lt
  have g0_t := R10_t.out.p0
  have g1_t := R10_t.out.p1
  have gl_t := R10_t.out.lt
  clear h1' h2' h3' h4' h5' h6' h7' h8' h9' h10' hck'
  go_wp2
  go_ret
  exact ⟨rfl, HB10.out⟩

set_option maxHeartbeats 1600000 in
theorem whole_any (A : Option Addr) (n c : Nat) (ws : List Int) (a b : Nat) (w : World) (hI : Ints w A n ws) (ha : a < 65536) (hb : b < 65536) :
    Calls Try.prog 5 #[.slice A n c, .int .u16 (a : Int), .int .u16 (b : Int)] w fun e w' => e = .returned (.bool true) ∧ Below w.heap.size w w' := by
  have hl := hI.len
  subst hl
  by_cases c1 : casesErr ws [a] = 0
  · obtain ⟨hS, hab⟩ := casesErr_zero c1
    have ha2 : a < 2 ^ ws.length := hab a (by simp)
    have hck := fun (W : World) (o : Obj) (hw : Below w.heap.size w ((W.alloc o).alloc (.cells #[.int .u16 (a : Int), .int .u16 (b : Int)] 23))) => evCheck_any A _ c (some ⟨W.heap.size + 1, 0, none⟩) 2 2 ws [a, b] _ (hI.keep hw) (sets2 W o a b ha hb) (by omega)
    by_cases c2 : casesErr ws [a, b] = 0
    · rw [c2] at hck
      obtain ⟨_, hab2⟩ := casesErr_zero c2
      have hb2 : b < 2 ^ ws.length := hab2 b (by simp)
      have ht := hS.tot
      have hp := hS.pow
      have h2p := Nat.two_pow_pos ws.length
      have hn := hS.hi
      have k1 : (2 ^ ws.length - 1) &&& (65535 - a) < 2 ^ ws.length := and_lt (by omega)
      have e1 : chR ws (a &&& b) + chR ws (a &&& (65535 - b)) = chR ws a := by
        refine (divInt_add_same _ _ _ (by omega)).trans ?_
        rw [wgt_not ws a hb (by omega), show wgt ws (a &&& b) + (wgt ws a - wgt ws (a &&& b)) = wgt ws a by omega]
        rfl
      have e2 : chR ws a + chR ws ((2 ^ ws.length - 1) &&& (65535 - a)) = Rat.divInt (tot ws) (tot ws) := by
        refine (divInt_add_same _ _ _ (by omega)).trans ?_
        rw [wgt_other ws ha2 (by omega), show wgt ws a + (tot ws - wgt ws a) = tot ws by omega]
      obtain ⟨o1, o2⟩ := divInt_self' (tot ws) (by omega)
      refine whole_yes A _ c a b w _ _ _ _ _ _ _ _ (2 ^ ws.length - 1) (fun W hb => evChance_ok A _ c ws a W (hI.keep hb) hS (by omega)) hck (fun W hb => evChance_ok A _ c ws _ W (hI.keep hb) hS (and_lt (by omega))) (fun W hb => evChance_ok A _ c ws _ W (hI.keep hb) hS (and_lt (by omega))) (fun W hb => evChance_ok A _ c ws _ W (hI.keep hb) hS k1)
        (u16_and_nat a b ha hb) (u16_andNot_nat a b ha hb) (u16_andNot_nat _ a (by omega) ha) (mask_16 (by omega)) (fun W => ?_) (fun W => ?_) (by omega)
      · have k := add_good ((chR_bd hS (a &&& b)).fits (by omega) (by omega)) ((chR_bd hS (a &&& (65535 - b))).fits (by omega) (by omega)) (by rw [e1]; exact (chR_bd hS a).fits (by omega) (by omega)) W
        rw [e1] at k
        exact k
      · have k := add_good ((chR_bd hS a).fits (by omega) (by omega)) ((chR_bd hS ((2 ^ ws.length - 1) &&& (65535 - a))).fits (by omega) (by omega)) (by rw [e2]; exact fits_make (by omega) (by omega) (by omega) (by omega) (by omega)) W
        rw [e2, o1, o2] at k
        exact k
    · exact whole_no A _ c a b w _ _ _ c2 (fun W hb => evChance_ok A _ c ws a W (hI.keep hb) hS (by omega)) hck
  · exact whole_off A _ c a b w _ c1 (fun W hw => evChance_bad A _ c ws a W (hI.keep hw) ha c1)
end Go.Proofs.Ytlepgeipcofapaa
