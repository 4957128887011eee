/-
  castkeep.RatioOne, walked.
-/
import Derived.Test.YtcnljljgdkjndaaRatG
namespace Go.Proofs.Ytcnljljgdkjndaa
open Go.RowKit

theorem cross {p q : Int} (h0 : q ≠ 0) : (Rat.divInt p q).num * q = p * ((Rat.divInt p q).den : Int) := by
  have h2 := Rat.den_pos (Rat.divInt p q)
  exact (Rat.divInt_eq_divInt_iff (by omega) h0).1 (Rat.num_divInt_den (Rat.divInt p q))

set_option maxHeartbeats 2000000 in
theorem ratioOne_bad (p q k er : Int) (w : World) (her : er ≠ 0) (hM : ∀ W, Calls Try.prog 10 #[.int .i64 p, .int .i64 q] W (RetR W 0 0 er)) :
    Calls Try.prog 5 #[.int .i64 p, .int .i64 q, .int .i64 k] w fun e w' => e = .returned (.bool true) ∧ Below w.heap.size w w' := by
  have HM := hid hM
  have hne : (er != 0) = true := by simpa using her
  clear hM her
  go_enter Try.func5, Try.ntmps5
  go_wp2_with fail
  refine (ratios_any _).mono ?_
  rintro e w1 ⟨rfl, hb⟩
  have HB1 := hid hb
  clear hb
  go_wp2_with fail
  refine (HM.out _).mono ?_
  rintro e w2 ⟨rfl, hb⟩
  have HB2 := hid (below_step (below_step HB1.out (Nat.le_refl _) hb) (Nat.le_refl _) (below_alloc w2 (.cells #[.int .i64 0, .int .i64 0] 23)))
  clear hb HB1 HM
  go_wp2
  go_ret
  exact ⟨rfl, HB2.out⟩

theorem nk_bd {n : Int} {j : Int} (h0 : 0 ≤ j) (h1 : j < 50) (hn : -1000000000 ≤ n) (hn' : n ≤ 1000000000) : -50000000000 ≤ (1 + j) * n ∧ (1 + j) * n ≤ 50000000000 :=
  mul_bd (A := 50) (B := 1000000000) (by omega) (by omega) hn hn'

set_option maxHeartbeats 2000000 in
theorem ratioOne_ok (p q k : Int) (w : World) (hp : -1000000000 ≤ p) (hp' : p ≤ 1000000000) (hq : -1000000000 ≤ q) (hq' : q ≤ 1000000000) (h0 : q ≠ 0) :
    Calls Try.prog 5 #[.int .i64 p, .int .i64 q, .int .i64 k] w fun e w' => e = .returned (.bool true) ∧ Below w.heap.size w w' := by
  have HM1 := hid (fun W => rmake_ok p q W hp hp' hq hq' h0)
  have HM2 := hid (fun W => rmake_ok (-p) (-q) W (by omega) (by omega) (by omega) (by omega) (by omega))
  rw [Rat.neg_divInt_neg] at HM2
  have HF := hid (ratioErr_of (fits_make hp hp' hq hq' h0))
  obtain ⟨L, hL2⟩ : ∃ L, p * ((Rat.divInt p q).den : Int) = L := ⟨_, rfl⟩
  have hL1 : (Rat.divInt p q).num * q = L := (cross h0).trans hL2
  have hj : 0 ≤ k % 50 := by omega
  have hj' : k % 50 < 50 := by omega
  have HM3 : Hid (∀ W, ∃ er, (er = 1 ∧ Calls Try.prog 10 #[.int .i64 ((1 + k % 50) * p), .int .i64 ((1 + k % 50) * q)] W (RetR W 0 0 1))
      ∨ (er = 0 ∧ Calls Try.prog 10 #[.int .i64 ((1 + k % 50) * p), .int .i64 ((1 + k % 50) * q)] W (RetR W (Rat.divInt p q).num ((Rat.divInt p q).den : Int) 0))) := fun W => by
    by_cases hb : ((1 + k % 50) * p < -1000000000 ∨ 1000000000 < (1 + k % 50) * p) ∨ ((1 + k % 50) * q < -1000000000 ∨ 1000000000 < (1 + k % 50) * q)
    · exact ⟨1, .inl ⟨rfl, rmake_arg _ _ W hb⟩⟩
    · have h := rmake_ok ((1 + k % 50) * p) ((1 + k % 50) * q) W (by omega) (by omega) (by omega) (by omega) (Int.mul_ne_zero (by omega) h0)
      rw [Rat.divInt_mul_left (by omega)] at h
      exact ⟨0, .inr ⟨rfl, h⟩⟩
  obtain ⟨f1, f2, f3⟩ := fits_make hp hp' hq hq' h0
  have f4 : (1 : Int) ≤ ((Rat.divInt p q).den : Int) := by have := Rat.den_pos (Rat.divInt p q); omega
  have hLb : -1000000000000000000 ≤ L ∧ L ≤ 1000000000000000000 := by rw [← hL2]; exact mul_bd18 hp hp' (by omega) f3
  obtain ⟨b1, b2⟩ := hLb
  generalize (Rat.divInt p q).num = n at *
  generalize ((Rat.divInt p q).den : Int) = d at *
  have HX0 := fun W => RatAt.new W 23 n d
  have HX := hid HX0
  clear HX0
  obtain ⟨m1, m1'⟩ := nk_bd hj hj' hp hp'
  obtain ⟨m2, m2'⟩ := nk_bd hj hj' hq hq'
  go_enter Try.func5, Try.ntmps5
  go_wp2_with fail
  refine (ratios_any _).mono ?_
  rintro e w1 ⟨rfl, hb⟩
  have HB1 := hid hb
  clear hb
  go_wp2_with fail
  refine (HM1.out _).mono ?_
  rintro e w2 ⟨rfl, hb⟩
  have HB2 := hid (below_step (below_step HB1.out (Nat.le_refl _) hb) (Nat.le_refl _) (below_alloc w2 (.cells #[.int .i64 n, .int .i64 d] 23)))
  clear hb HB1 HM1
  go_wp2_with fail
  refine (rcheck_any _ _ _).mono ?_
  rintro e w3 ⟨rfl, hb⟩
  rw [HF.out]
  have HX3 := hid ((HX.out w2).keep hb)
  have HB3 := hid (below_step HB2.out (Nat.le_refl _) hb)
  have g0 := HX3.out.p0
  have g1 := HX3.out.p1
  clear hb HB2
  go_wp2_with fail
  refine (within_any _ _ _ (by omega) (by omega)).mono ?_
  rintro e w' ⟨rfl, rfl⟩
  generalize k % 50 = j at *
  go_wp2_with fail
  obtain ⟨er, ⟨rfl, h3⟩ | ⟨rfl, h3⟩⟩ := HM3.out w3
  · refine h3.mono ?_
    rintro e w4 ⟨rfl, hb⟩
    clear h3 g0 g1
    have HX4 := hid ((HX3.out.keep hb).keep_alloc (.cells #[.int .i64 0, .int .i64 0] 23))
    have HB4 := hid (below_step (below_step HB3.out (Nat.le_refl _) hb) (Nat.le_refl _) (below_alloc w4 (.cells #[.int .i64 0, .int .i64 0] 23)))
    clear hb HB3 HX3
    go_wp2_with fail
    refine (HM2.out _).mono ?_
    rintro e w5 ⟨rfl, hb⟩
    have hx := HX4.out.keep hb
    have g0 := hx.p0
    have g1 := hx.p1
    have HB5 := hid (below_step (below_step HB4.out (Nat.le_refl _) hb) (Nat.le_refl _) (below_alloc w5 (.cells #[.int .i64 n, .int .i64 d] 23)))
    have hlt := hx.lt
    clear hb hx HB4 HX4
    go_wp2
    go_ret
    exact ⟨rfl, HB5.out⟩
  · refine h3.mono ?_
    rintro e w4 ⟨rfl, hb⟩
    clear h3 g0 g1
    have HX4 := hid ((HX3.out.keep hb).keep_alloc (.cells #[.int .i64 n, .int .i64 d] 23))
    have HY4 := hid (HX.out w4)
    have HB4 := hid (below_step (below_step HB3.out (Nat.le_refl _) hb) (Nat.le_refl _) (below_alloc w4 (.cells #[.int .i64 n, .int .i64 d] 23)))
    clear hb HB3 HX3
    go_wp2_with fail
    refine (HM2.out _).mono ?_
    rintro e w5 ⟨rfl, hb⟩
    have hx := HX4.out.keep hb
    have g0 := hx.p0
    have g1 := hx.p1
    have hy := HY4.out.keep hb
    have g2 := hy.p0
    have g3 := hy.p1
    have hlt := hx.lt
    have hlt2 := hy.lt
    have HB5 := hid (below_step (below_step HB4.out (Nat.le_refl _) hb) (Nat.le_refl _) (below_alloc w5 (.cells #[.int .i64 n, .int .i64 d] 23)))
    clear hb hx hy HB4 HX4 HY4
    go_wp2
    go_ret
    exact ⟨rfl, HB5.out⟩

theorem ratioOne_any (p q k : Int) (w : World) :
    Calls Try.prog 5 #[.int .i64 p, .int .i64 q, .int .i64 k] w fun e w' => e = .returned (.bool true) ∧ Below w.heap.size w w' := by
  by_cases h : (p < -1000000000 ∨ 1000000000 < p) ∨ (q < -1000000000 ∨ 1000000000 < q)
  · exact ratioOne_bad p q k 1 w (by omega) (fun W => rmake_arg p q W h)
  · by_cases h0 : q = 0
    · exact ratioOne_bad p q k 5 w (by omega) (fun W => rmake_zero p q W (by omega) (by omega) h0)
    · exact ratioOne_ok p q k w (by omega) (by omega) (by omega) (by omega) h0
end Go.Proofs.Ytcnljljgdkjndaa
