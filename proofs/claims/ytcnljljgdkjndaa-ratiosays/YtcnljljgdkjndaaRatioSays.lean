/-
  castlaw.RatioSays, walked.
-/
import Derived.Test.YtcnljljgdkjndaaRatioSaysA
import Derived.Test.YtcnljljgdkjndaaRatioSaysB
import Derived.Test.YtcnljljgdkjndaaRatioSaysC
import Derived.Test.YtcnljljgdkjndaaRatioSaysD
import Derived.Test.YtcnljljgdkjndaaRatG
namespace Go.Proofs.Ytcnljljgdkjndaa
open Go.RowKit

set_option maxRecDepth 100000 in
theorem ratioSays_any (p q P1 Q1 P2 Q2 : Int) (w : World) :
    Calls Try.prog 3 #[.int .i64 p, .int .i64 q, .agg #[.int .i64 P1, .int .i64 Q1], .agg #[.int .i64 P2, .int .i64 Q2]] w fun e w' => e = .returned (.bool true) ∧ Below w.heap.size w w' := by
  have hsw : (1000000000 < (if q > p then q else p) ∧ ∀ W, Calls Try.prog 10 #[.int .i64 p, .int .i64 q] W (RetR W 0 0 1))
      ∨ ((if q > p then q else p) ≤ 1000000000 ∧ (if q < p then q else p) < -1000000000 ∧ ∀ W, Calls Try.prog 10 #[.int .i64 p, .int .i64 q] W (RetR W 0 0 1))
      ∨ ((if q > p then q else p) ≤ 1000000000 ∧ -1000000000 ≤ (if q < p then q else p) ∧ q = 0 ∧ ∀ W, Calls Try.prog 10 #[.int .i64 p, .int .i64 q] W (RetR W 0 0 5))
      ∨ ((if q > p then q else p) ≤ 1000000000 ∧ -1000000000 ≤ (if q < p then q else p) ∧ q ≠ 0 ∧ (∀ W, Calls Try.prog 10 #[.int .i64 p, .int .i64 q] W (RetR W (Rat.divInt p q).num ((Rat.divInt p q).den : Int) 0))
        ∧ ∀ W, Calls Try.prog 15 #[.int .i64 p, .int .i64 q] W (fun e w' => e = .returned (.agg #[.int .i64 (Rat.divInt p q).num, .int .i64 ((Rat.divInt p q).den : Int)]) ∧ Below W.heap.size W w')) := by
    by_cases h1 : 1000000000 < (if q > p then q else p)
    · refine .inl ⟨h1, fun W => rmake_arg p q W ?_⟩
      split at h1 <;> omega
    · by_cases h2 : (if q < p then q else p) < -1000000000
      · refine .inr (.inl ⟨by omega, h2, fun W => rmake_arg p q W ?_⟩)
        split at h2 <;> omega
      · have b1 : p ≤ 1000000000 ∧ q ≤ 1000000000 := by split at h1 <;> omega
        have b2 : -1000000000 ≤ p ∧ -1000000000 ≤ q := by split at h2 <;> omega
        by_cases h0 : q = 0
        · exact .inr (.inr (.inl ⟨by omega, by omega, h0, fun W => rmake_zero p q W b2.1 b1.1 h0⟩))
        · refine .inr (.inr (.inr ⟨by omega, by omega, h0, fun W => rmake_ok p q W b2.1 b1.1 b2.2 b1.2 h0, fun W => ?_⟩))
          have k := whole_any p q W ⟨by omega, by omega⟩ ⟨by omega, by omega⟩ h0
          obtain ⟨a, b, _⟩ := out_fits (fits_make b2.1 b1.1 b2.2 b1.2 h0)
          rwa [a, b] at k
  have hbad : ∀ er, bothErr P1 Q1 P2 Q2 = er → er ≠ 0 → (∀ W, Calls Try.prog 11 #[.agg #[.int .i64 P1, .int .i64 Q1], .agg #[.int .i64 P2, .int .i64 Q2]] W (RetR W 0 0 er))
      ∧ (∀ W, Calls Try.prog 12 #[.agg #[.int .i64 P1, .int .i64 Q1], .agg #[.int .i64 P2, .int .i64 Q2]] W (RetR W 0 0 er))
      ∧ (∀ W, Calls Try.prog 13 #[.agg #[.int .i64 P1, .int .i64 Q1], .agg #[.int .i64 P2, .int .i64 Q2]] W (RetR W 0 0 er))
      ∧ (∀ W, Calls Try.prog 14 #[.agg #[.int .i64 P1, .int .i64 Q1], .agg #[.int .i64 P2, .int .i64 Q2]] W (RetB W false er)) := by
    rintro er rfl h
    exact ⟨fun W => radd_bad _ _ _ _ W h, fun W => rmul_bad _ _ _ _ W h, fun W => rdiv_bad _ _ _ _ W h, fun W => rless_bad _ _ _ _ W h⟩
  by_cases hx : ratioErr P1 Q1 = 0
  · have k7 := fun W => refRatioErr_any P1 Q1 W
    have k8 := fun W => rcheck_any P1 Q1 W
    have k9 := fun W => refRatioErr_any P2 Q2 W
    rw [hx] at k7 k8
    by_cases hy : ratioErr P2 Q2 = 0
    · rw [hy] at k9
      obtain ⟨x, fx, rfl, rfl⟩ := ratioErr_zero hx
      obtain ⟨y, fy, rfl, rfl⟩ := ratioErr_zero hy
      clear hbad
      obtain ⟨x1, x2, x3⟩ := id fx
      obtain ⟨y1, y2, y3⟩ := id fy
      have x4 := x.den_pos
      have y4 := y.den_pos
      by_cases hy0 : y = 0
      · subst hy0
        have hl : decide (x.num < 0) = decide (x < 0) := by
          rw [← lt_eq]
          simp
        rcases hsw with ⟨hs, m1⟩ | ⟨hs, hs', m1⟩ | ⟨hs, hs', h0, m1⟩ | ⟨hs, hs', h0, m1, m6⟩
        · exact ratioSays_argM_y0 p q _ _ _ _ rfl rfl hs _ _ _ _ _ _ _ x1 x2 hl m1 (fun W => radd_ok x 0 W fx fy) (fun W => rmul_ok x 0 W fx fy) (fun W => rdiv_zero x W fx) (fun W => rless_ok x 0 W fx fy) k7 k8 k9 (fun W => rplus_ok x 0 W fx fy) (fun W => rtimes_ok x 0 W fx fy) w
        · exact ratioSays_argm_y0 p q _ _ _ _ rfl rfl hs hs' _ _ _ _ _ _ _ x1 x2 hl m1 (fun W => radd_ok x 0 W fx fy) (fun W => rmul_ok x 0 W fx fy) (fun W => rdiv_zero x W fx) (fun W => rless_ok x 0 W fx fy) k7 k8 k9 (fun W => rplus_ok x 0 W fx fy) (fun W => rtimes_ok x 0 W fx fy) w
        · exact ratioSays_zero_y0 p q _ _ _ _ rfl rfl hs hs' h0 _ _ _ _ _ _ _ x1 x2 hl m1 (fun W => radd_ok x 0 W fx fy) (fun W => rmul_ok x 0 W fx fy) (fun W => rdiv_zero x W fx) (fun W => rless_ok x 0 W fx fy) k7 k8 k9 (fun W => rplus_ok x 0 W fx fy) (fun W => rtimes_ok x 0 W fx fy) w
        · exact ratioSays_ok_y0 p q _ _ _ _ rfl rfl hs hs' h0 _ _ _ _ _ _ _ _ _ x1 x2 hl m1 (fun W => radd_ok x 0 W fx fy) (fun W => rmul_ok x 0 W fx fy) (fun W => rdiv_zero x W fx) (fun W => rless_ok x 0 W fx fy) m6 k7 k8 k9 (fun W => rplus_ok x 0 W fx fy) (fun W => rtimes_ok x 0 W fx fy) w
      · have k12 : ∀ W, Calls Try.prog 20 #[.int .i64 (x.num * (y.den : Int)), .int .i64 ((x.den : Int) * y.num)] W (RetR W (outP (x / y)) (outQ (x / y)) (outE (x / y))) := fun W => by
          have b1 := mul_bd18 x1 x2 (show -1000000000 ≤ (y.den : Int) by omega) y3
          have b2 := mul_bd18 (show -1000000000 ≤ (x.den : Int) by omega) x3 y1 y2
          have k := ratioOf_any (x.num * (y.den : Int)) ((x.den : Int) * y.num) W ⟨by omega, by omega⟩ ⟨by omega, by omega⟩ (div_ne hy0 x)
          rwa [div_eq] at k
        rcases hsw with ⟨hs, m1⟩ | ⟨hs, hs', m1⟩ | ⟨hs, hs', h0, m1⟩ | ⟨hs, hs', h0, m1, m6⟩
        · exact ratioSays_argM_ok p q _ _ _ _ _ _ rfl rfl hs _ _ _ _ _ _ _ _ _ _ x1 x2 (by omega) x3 y1 y2 (by omega) y3 (fun e => hy0 (Rat.num_eq_zero.1 e)) (lt_eq x y) m1 (fun W => radd_ok x y W fx fy) (fun W => rmul_ok x y W fx fy) (fun W => rdiv_ok x y W fx fy hy0) (fun W => rless_ok x y W fx fy) k7 k8 k9 (fun W => rplus_ok x y W fx fy) (fun W => rtimes_ok x y W fx fy) k12 w
        · exact ratioSays_argm_ok p q _ _ _ _ _ _ rfl rfl hs hs' _ _ _ _ _ _ _ _ _ _ x1 x2 (by omega) x3 y1 y2 (by omega) y3 (fun e => hy0 (Rat.num_eq_zero.1 e)) (lt_eq x y) m1 (fun W => radd_ok x y W fx fy) (fun W => rmul_ok x y W fx fy) (fun W => rdiv_ok x y W fx fy hy0) (fun W => rless_ok x y W fx fy) k7 k8 k9 (fun W => rplus_ok x y W fx fy) (fun W => rtimes_ok x y W fx fy) k12 w
        · exact ratioSays_zero_ok p q _ _ _ _ _ _ rfl rfl hs hs' h0 _ _ _ _ _ _ _ _ _ _ x1 x2 (by omega) x3 y1 y2 (by omega) y3 (fun e => hy0 (Rat.num_eq_zero.1 e)) (lt_eq x y) m1 (fun W => radd_ok x y W fx fy) (fun W => rmul_ok x y W fx fy) (fun W => rdiv_ok x y W fx fy hy0) (fun W => rless_ok x y W fx fy) k7 k8 k9 (fun W => rplus_ok x y W fx fy) (fun W => rtimes_ok x y W fx fy) k12 w
        · exact ratioSays_ok_ok p q _ _ _ _ _ _ rfl rfl hs hs' h0 _ _ _ _ _ _ _ _ _ _ _ _ x1 x2 (by omega) x3 y1 y2 (by omega) y3 (fun e => hy0 (Rat.num_eq_zero.1 e)) (lt_eq x y) m1 (fun W => radd_ok x y W fx fy) (fun W => rmul_ok x y W fx fy) (fun W => rdiv_ok x y W fx fy hy0) (fun W => rless_ok x y W fx fy) m6 k7 k8 k9 (fun W => rplus_ok x y W fx fy) (fun W => rtimes_ok x y W fx fy) k12 w
    · have hb : bothErr P1 Q1 P2 Q2 = ratioErr P2 Q2 := if_neg (by simpa using hx)
      obtain ⟨k2, k3, k4, k5⟩ := hbad _ hb hy
      rcases hsw with ⟨hs, m1⟩ | ⟨hs, hs', m1⟩ | ⟨hs, hs', h0, m1⟩ | ⟨hs, hs', h0, m1, m6⟩
      · exact ratioSays_argM_by p q _ _ _ _ _ _ rfl rfl hs _ hy m1 k2 k3 k4 k5 k7 k8 k9 w
      · exact ratioSays_argm_by p q _ _ _ _ _ _ rfl rfl hs hs' _ hy m1 k2 k3 k4 k5 k7 k8 k9 w
      · exact ratioSays_zero_by p q _ _ _ _ _ _ rfl rfl hs hs' h0 _ hy m1 k2 k3 k4 k5 k7 k8 k9 w
      · exact ratioSays_ok_by p q _ _ _ _ _ _ rfl rfl hs hs' h0 _ _ _ hy m1 k2 k3 k4 k5 m6 k7 k8 k9 w
  · have hb : bothErr P1 Q1 P2 Q2 = ratioErr P1 Q1 := if_pos hx
    obtain ⟨k2, k3, k4, k5⟩ := hbad _ hb hx
    rcases hsw with ⟨hs, m1⟩ | ⟨hs, hs', m1⟩ | ⟨hs, hs', h0, m1⟩ | ⟨hs, hs', h0, m1, m6⟩
    · exact ratioSays_argM_bx p q _ _ _ _ _ _ rfl rfl hs _ hx m1 k2 k3 k4 k5 (fun W => refRatioErr_any P1 Q1 W) (fun W => rcheck_any P1 Q1 W) w
    · exact ratioSays_argm_bx p q _ _ _ _ _ _ rfl rfl hs hs' _ hx m1 k2 k3 k4 k5 (fun W => refRatioErr_any P1 Q1 W) (fun W => rcheck_any P1 Q1 W) w
    · exact ratioSays_zero_bx p q _ _ _ _ _ _ rfl rfl hs hs' h0 _ hx m1 k2 k3 k4 k5 (fun W => refRatioErr_any P1 Q1 W) (fun W => rcheck_any P1 Q1 W) w
    · exact ratioSays_ok_bx p q _ _ _ _ _ _ rfl rfl hs hs' h0 _ _ _ hx m1 k2 k3 k4 k5 m6 (fun W => refRatioErr_any P1 Q1 W) (fun W => rcheck_any P1 Q1 W) w
end Go.Proofs.Ytcnljljgdkjndaa
