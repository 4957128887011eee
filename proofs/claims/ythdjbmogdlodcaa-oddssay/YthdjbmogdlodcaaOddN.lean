/-
  Distributions: bounds of mean and spread; the square of a ratio.
-/
import Derived.Test.YthdjbmogdlodcaaOddM
import Derived.Test.YthdjbmogdlodcaaRatH
namespace Go.Proofs.Ythdjbmogdlodcaa

theorem sq_gcd (r : Rat) : Int.gcd (r.num * r.num) ((r.den : Int) * (r.den : Int)) = 1 := by
  have h := r.reduced
  rw [Int.gcd, Int.natAbs_mul, Int.natAbs_mul, Int.natAbs_natCast]
  exact Nat.Coprime.mul_left (Nat.Coprime.mul_right h h) (Nat.Coprime.mul_right h h)
theorem sq_parts (r : Rat) : (r * r).num = r.num * r.num ∧ ((r * r).den : Int) = (r.den : Int) * (r.den : Int) := by
  have h0 := den_ne r r
  have hp : ¬ (r.den : Int) * (r.den : Int) < 0 := by
    have := Int.mul_nonneg (show 0 ≤ (r.den : Int) by omega) (show 0 ≤ (r.den : Int) by omega)
    omega
  have h1 := low_num (r.num * r.num) ((r.den : Int) * (r.den : Int)) h0
  have h2 := low_den (r.num * r.num) ((r.den : Int) * (r.den : Int)) h0
  rw [if_neg hp, sq_gcd, mul_eq] at h1 h2
  simp at h1 h2
  exact ⟨h1.symm, h2.symm⟩
theorem rneg_num (r : Rat) : (-r).num = -r.num := by first | rfl | simp
theorem rneg_den (r : Rat) : (-r).den = r.den := by first | rfl | simp
theorem sq_num (r : Rat) : (-(r * r)).num = -r.num * r.num := by rw [rneg_num, (sq_parts r).1, Int.neg_mul]
theorem sq_den (r : Rat) : ((-(r * r)).den : Int) = (r.den : Int) * (r.den : Int) := by rw [rneg_den, (sq_parts r).2]

theorem exp_bd (f : Int → Int) (M : Nat) {l : List (Int × Int)} (h : GoodD l) (hf : -(M : Int) ≤ E f l ∧ E f l ≤ M) : RB (Rat.divInt (E f l) (E one l)) M 1200 := by
  have h1 := E_one_pos h
  have h2 := E_one_bd h.2
  exact RB.make (by omega) (by omega) (by omega)
theorem mean_bd {l : List (Int × Int)} (h : GoodD l) : RB (mean l) 24000 1200 := exp_bd idI 24000 h (E_id_bd h.2)
theorem sqs_bd {l : List (Int × Int)} (h : GoodD l) : RB (Rat.divInt (E sq l) (E one l)) 480000 1200 := exp_bd sq 480000 h (by have := E_sq_bd h.2; omega)
theorem beyond_bd (least : Int) {l : List (Int × Int)} (h : GoodD l) : RB (Rat.divInt (E (geI least) l) (E one l)) 1200 1200 := exp_bd (geI least) 1200 h (by have := E_ge_bd least h.2; omega)
theorem sqn_bd {l : List (Int × Int)} (h : GoodD l) : RB (-(mean l * mean l)) 576000000 1440000 := by
  have := (mean_bd h).mul (mean_bd h)
  exact ⟨by rw [rneg_num, Int.natAbs_neg]; exact this.1, by rw [rneg_den]; exact this.2⟩
theorem var_bd {l : List (Int × Int)} (h : GoodD l) : RB (var l) 576000000 1440000 := by
  rw [var_eq h]
  have h1 := E_one_pos h
  have h2 := E_one_bd h.2
  have h3 := E_sq_bd h.2
  have h4 := E_id_bd h.2
  have a := mul_bd (A := 1200) (B := 480000) (show -1200 ≤ E one l by omega) h2.2 (show -480000 ≤ E sq l by omega) h3.2
  have a' := Int.mul_nonneg h2.1 h3.1
  have b := mul_bd (A := 24000) (B := 24000) h4.1 h4.2 h4.1 h4.2
  have b' : 0 ≤ E idI l * E idI l := by
    rcases Int.le_total 0 (E idI l) with h | h
    · exact Int.mul_nonneg h h
    · have := Int.mul_nonneg (show 0 ≤ -E idI l by omega) (show 0 ≤ -E idI l by omega)
      rwa [Int.neg_mul_neg] at this
  have c := mul_bd (A := 1200) (B := 1200) (show -1200 ≤ E one l by omega) h2.2 (show -1200 ≤ E one l by omega) h2.2
  have c' := Int.mul_pos (show 0 < E one l by omega) (show 0 < E one l by omega)
  exact RB.make (by omega) (by omega) (by omega)
end Go.Proofs.Ythdjbmogdlodcaa
