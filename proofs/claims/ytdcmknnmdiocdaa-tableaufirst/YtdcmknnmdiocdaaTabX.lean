/-
  castkeep.tableaux; a pair of tableaux in a variable.
-/
import Derived.Test.YtdcmknnmdiocdaaTabO
import Derived.Test.YtdcmknnmdiocdaaTabE
namespace Go.Proofs.Ytdcmknnmdiocdaa
open Go.RowKit

/-- Block b holds two tableaux. -/
structure PairAt (w : World) (b : Nat) (A : Option Addr) (n c : Nat) (A' : Option Addr) (n' c' : Nat) (P Q : List (List Int)) : Prop where
  p0 : w.cell? ⟨b, 0, none⟩ = some (.slice A n c)
  p1 : w.cell? ⟨b, 1, none⟩ = some (.slice A' n' c')
  lt : b < w.heap.size
  rp : RRows w A n P
  rq : RRows w A' n' Q
theorem PairAt.keep {w w' : World} {b : Nat} {A : Option Addr} {n c : Nat} {A' : Option Addr} {n' c' : Nat} {P Q : List (List Int)} (h : PairAt w b A n c A' n' c' P Q) (hb : Below w.heap.size w w') : PairAt w' b A n c A' n' c' P Q :=
  ⟨(hb.cell (p := ⟨b, 0, none⟩) h.lt).trans h.p0, (hb.cell (p := ⟨b, 1, none⟩) h.lt).trans h.p1, Nat.lt_of_lt_of_le h.lt hb.size, h.rp.keep hb, h.rq.keep hb⟩
theorem PairAt.new {w : World} {A : Option Addr} {n c : Nat} {A' : Option Addr} {n' c' : Nat} {P Q : List (List Int)} (h1 : RRows w A n P) (h2 : RRows w A' n' Q) : PairAt (w.alloc (.cells #[.slice A n c, .slice A' n' c'] 36)) w.heap.size A n c A' n' c' P Q := by
  have hr := pair_row0 (w := w) (b := 36) (x := .slice A n c) (y := .slice A' n' c')
  refine ⟨?_, ?_, hr.lt, h1.keep (below_alloc _ _), h2.keep (below_alloc _ _)⟩
  · exact (hr.cell (i := 0) (by omega)).trans rfl
  · exact (hr.cell (i := 1) (by omega)).trans rfl

theorem liveE : permErr [1, 2, 0] = 0 := by decide +kernel
theorem liveP : PT [1, 2, 0] = [[0, 2], [1]] := by decide
theorem liveQ : QT [1, 2, 0] = [[0, 1], [2]] := by decide

set_option maxHeartbeats 1600000 in
set_option maxRecDepth 100000 in
theorem tableaux_any (w : World) : Calls Try.prog 17 #[] w fun e w' => e = .returned (.bool true) ∧ Below w.heap.size w w' := by
  go_enter Try.func17, Try.ntmps17
  go_wp2_with fail
  refine (tabOf_ok _ 3 3 [1, 2, 0] _ (ints_lit w _ _ 3 [1, 2, 0] rfl rfl) liveE).mono ?_
  rintro e w1 ⟨A1, n1, c1, A2, n2, c2, rfl, hR1, hR2, hC1, hC2, hb⟩
  rw [liveP] at hR1
  rw [liveQ] at hR2
  have e1 : n1 = 2 := hR1.len.symm
  have e2 : n2 = 2 := hR2.len.symm
  subst e1
  subst e2
  have HP0 : Hid (PairAt (w1.alloc (.cells #[.slice A1 2 c1, .slice A2 2 c2] 36)) w1.heap.size A1 2 c1 A2 2 c2 [[0, 2], [1]] [[0, 1], [2]]) := PairAt.new hR1 hR2
  have HB0 : Hid (Below w.heap.size w (w1.alloc (.cells #[.slice A1 2 c1, .slice A2 2 c2] 36))) := below_step (below_step (below_alloc w _) (Nat.le_refl _) hb) (Nat.le_refl _) (below_alloc _ _)
  have hsz : w1.heap.size < (w1.alloc (.cells #[.slice A1 2 c1, .slice A2 2 c2] 36)).heap.size := by simp
  obtain ⟨q1, r1, _, _, _, hA1, _⟩ := hR1.at (j := 0) (by omega)
  obtain ⟨q2, r2, _, _, _, hA2, _⟩ := hR2.at (j := 0) (by omega)
  subst hA1
  subst hA2
  clear hR1 hR2 hb hC1 hC2
  -- row 0 of rp
  have gp0 := HP0.out.p0
  have gq0 := HP0.out.p1
  obtain ⟨b0, o0, B0, m0, d0, eA0, gr0, hI0, _⟩ := HP0.out.rp.at (j := 0) (by omega)
  injection eA0 with eA0
  injection eA0 with eB0 eC0
  subst eB0
  subst eC0
  rw [Nat.add_zero] at gr0
  have HI0 : Hid (Ints _ B0 m0 [0, 2]) := hI0
  have hm0 : m0 = 2 := hI0.len.symm
  subst hm0
  clear hI0
  have HLIT : Hid (Ints ((w1.alloc (.cells #[.slice (some ⟨q1, r1, none⟩) 2 c1, .slice (some ⟨q2, r2, none⟩) 2 c2] 36)).alloc (.cells #[.int .i64 0, .int .i64 2] 3)) (some ⟨w1.heap.size + 1, 0, none⟩) 2 [0, 2]) := by
    have h := ints_lit (w1.alloc (.cells #[.slice (some ⟨q1, r1, none⟩) 2 c1, .slice (some ⟨q2, r2, none⟩) 2 c2] 36)) #[.int .i64 0, .int .i64 2] 3 2 [0, 2] rfl rfl
    rwa [show (w1.alloc (.cells #[.slice (some ⟨q1, r1, none⟩) 2 c1, .slice (some ⟨q2, r2, none⟩) 2 c2] 36)).heap.size = w1.heap.size + 1 by simp] at h
  go_wp2_with fail
  refine (equal_bel B0 2 d0 _ 2 2 [0, 2] [0, 2] _ (HI0.out.keep (below_alloc _ _)) HLIT.out (by omega) (by omega)).mono ?_
  rintro e w2 ⟨rfl, hb⟩
  rw [show decide (([0, 2] : List Int) = [0, 2]) = true by decide]
  have HP1 := hid (HP0.out.keep ((below_alloc _ _).trans (hb.mono (by simp))))
  have HB1 := hid (below_step HB0.out (Nat.le_refl _) ((below_alloc _ _).trans (hb.mono (by simp))))
  clear hb HI0 gp0 gq0 gr0 HP0 HB0
  -- row 1 of rp
  have gp1 := HP1.out.p0
  have gq1 := HP1.out.p1
  obtain ⟨b1, o1, B1, m1, d1, eA1, gr1, hI1, _⟩ := HP1.out.rp.at (j := 1) (by omega)
  injection eA1 with eA1
  injection eA1 with eB1 eC1
  subst eB1
  subst eC1
  have HI1 : Hid (Ints _ B1 m1 [1]) := hI1
  have hm1 : m1 = 1 := hI1.len.symm
  subst hm1
  clear hI1
  go_wp2_with fail
  refine (equal_bel B1 1 d1 _ 1 1 [1] [1] _ (HI1.out.keep (below_alloc _ _)) (ints_lit _ _ _ 1 [1] rfl rfl) (by omega) (by omega)).mono ?_
  rintro e w3 ⟨rfl, hb⟩
  rw [show decide (([1] : List Int) = [1]) = true by decide]
  have HP2 := hid (HP1.out.keep ((below_alloc _ _).trans (hb.mono (by simp))))
  have HB2 := hid (below_step HB1.out (Nat.le_refl _) ((below_alloc _ _).trans (hb.mono (by simp))))
  clear hb HI1 gp1 gq1 gr1 HP1 HB1
  -- row 0 of rq
  have gp2 := HP2.out.p0
  have gq2 := HP2.out.p1
  obtain ⟨b2, o2, B2, m2, d2, eA2, gr2, hI2, _⟩ := HP2.out.rq.at (j := 0) (by omega)
  injection eA2 with eA2
  injection eA2 with eB2 eC2
  subst eB2
  subst eC2
  rw [Nat.add_zero] at gr2
  have HI2 : Hid (Ints _ B2 m2 [0, 1]) := hI2
  have hm2 : m2 = 2 := hI2.len.symm
  subst hm2
  clear hI2
  go_wp2_with fail
  refine (equal_bel B2 2 d2 _ 2 2 [0, 1] [0, 1] _ (HI2.out.keep (below_alloc _ _)) (ints_lit _ _ _ 2 [0, 1] rfl rfl) (by omega) (by omega)).mono ?_
  rintro e w4 ⟨rfl, hb⟩
  rw [show decide (([0, 1] : List Int) = [0, 1]) = true by decide]
  have HP3 := hid (HP2.out.keep ((below_alloc _ _).trans (hb.mono (by simp))))
  have HB3 := hid (below_step HB2.out (Nat.le_refl _) ((below_alloc _ _).trans (hb.mono (by simp))))
  clear hb HI2 gp2 gq2 gr2 HP2 HB2
  -- row 1 of rq
  have gp3 := HP3.out.p0
  have gq3 := HP3.out.p1
  obtain ⟨b3, o3, B3, m3, d3, eA3, gr3, hI3, _⟩ := HP3.out.rq.at (j := 1) (by omega)
  injection eA3 with eA3
  injection eA3 with eB3 eC3
  subst eB3
  subst eC3
  have HI3 : Hid (Ints _ B3 m3 [2]) := hI3
  have hm3 : m3 = 1 := hI3.len.symm
  subst hm3
  clear hI3
  go_wp2_with fail
  refine (equal_bel B3 1 d3 _ 1 1 [2] [2] _ (HI3.out.keep (below_alloc _ _)) (ints_lit _ _ _ 1 [2] rfl rfl) (by omega) (by omega)).mono ?_
  rintro e w5 ⟨rfl, hb⟩
  rw [show decide (([2] : List Int) = [2]) = true by decide]
  have HP4 := hid (HP3.out.keep ((below_alloc _ _).trans (hb.mono (by simp))))
  have HB4 := hid (below_step HB3.out (Nat.le_refl _) ((below_alloc _ _).trans (hb.mono (by simp))))
  clear hb HI3 gp3 gq3 gr3 HP3 HB3
  go_wp2
  go_ret
  exact ⟨rfl, HB4.out⟩

end Go.Proofs.Ytdcmknnmdiocdaa
