/-
  Ratios as plain numbers: lowest terms, what is too great, sums and products (over Lean's own Rat).
-/
import Derived.Test.YtaklchehamkgcaaBase
namespace Go.Proofs.Ytaklchehamkgcaa

/-- A ratio that the program can hold. -/
def RFits (r : Rat) : Prop := -1000000000 ≤ r.num ∧ r.num ≤ 1000000000 ∧ (r.den : Int) ≤ 1000000000
instance (r : Rat) : Decidable (RFits r) := by unfold RFits; infer_instance

/-- The error of what is handed in. -/
def ratioErr (P Q : Int) : Int := if Q < 1 ∨ 1000000000 < Q ∨ P < -1000000000 ∨ 1000000000 < P then 1 else if Int.gcd P Q = 1 then 0 else 3

theorem ratioErr_zero {P Q : Int} (h : ratioErr P Q = 0) : ∃ r : Rat, RFits r ∧ P = r.num ∧ Q = (r.den : Int) := by
  unfold ratioErr at h
  split at h
  · omega
  · rename_i hb
    split at h
    · rename_i hg
      obtain ⟨q, rfl⟩ : ∃ q : Nat, Q = q := ⟨Q.toNat, by omega⟩
      have hg' : Nat.Coprime P.natAbs q := by simpa [Nat.Coprime, Int.gcd] using hg
      exact ⟨⟨P, q, by omega, hg'⟩, ⟨by dsimp only; omega, by dsimp only; omega, by dsimp only; omega⟩, rfl, rfl⟩
    · omega

theorem ratioErr_of {r : Rat} (h : RFits r) : ratioErr r.num (r.den : Int) = 0 := by
  obtain ⟨h1, h2, h3⟩ := h
  have hd := r.den_pos
  have hr := r.reduced
  unfold ratioErr
  rw [if_neg (by omega), if_pos]
  simpa [Nat.Coprime, Int.gcd] using hr

theorem ratioErr_cases (P Q : Int) : ratioErr P Q = 0 ∨ ratioErr P Q = 1 ∨ ratioErr P Q = 3 := by
  unfold ratioErr
  split
  · exact .inr (.inl rfl)
  · split
    · exact .inl rfl
    · exact .inr (.inr rfl)

/-- p by q, p and q over what divides both, the sign above. -/
theorem low_num (p q : Int) (hq : q ≠ 0) : p.tdiv (if q < 0 then -(Int.gcd p q : Int) else (Int.gcd p q : Int)) = (Rat.divInt p q).num := by
  have hg : ((Int.gcd p q : Nat) : Int) ∣ p := Int.gcd_dvd_left ..
  rw [Rat.num_divInt, Int.gcd_comm q p]
  by_cases h : q < 0
  · rw [if_pos h, Int.sign_eq_neg_one_of_neg h, Int.tdiv_neg, Int.tdiv_eq_ediv_of_dvd hg, Int.neg_one_mul, Int.neg_ediv_of_dvd hg]
  · rw [if_neg h, Int.sign_eq_one_of_pos (by omega), Int.tdiv_eq_ediv_of_dvd hg, Int.one_mul]

theorem low_den (p q : Int) (hq : q ≠ 0) : q.tdiv (if q < 0 then -(Int.gcd p q : Int) else (Int.gcd p q : Int)) = ((Rat.divInt p q).den : Int) := by
  have hg : ((Int.gcd p q : Nat) : Int) ∣ q := Int.gcd_dvd_right ..
  rw [Rat.den_divInt, if_neg hq, Int.gcd_comm q p, Int.natCast_ediv]
  by_cases h : q < 0
  · rw [if_pos h, Int.tdiv_neg, Int.tdiv_eq_ediv_of_dvd hg, ← Int.neg_ediv_of_dvd hg]
    congr 1
    omega
  · rw [if_neg h, Int.tdiv_eq_ediv_of_dvd hg]
    congr 1
    omega

theorem num_le (p q : Int) (hq : q ≠ 0) : (Rat.divInt p q).num.natAbs ≤ p.natAbs := by
  rw [← low_num p q hq]
  exact Int.natAbs_tdiv_le_natAbs _ _

theorem den_le (p q : Int) (hq : q ≠ 0) : (Rat.divInt p q).den ≤ q.natAbs := by
  have h := Int.natAbs_tdiv_le_natAbs q (if q < 0 then -(Int.gcd p q : Int) else (Int.gcd p q : Int))
  rw [low_den p q hq] at h
  simpa using h

theorem add_eq (x y : Rat) : Rat.divInt (x.num * (y.den : Int) + y.num * (x.den : Int)) ((x.den : Int) * (y.den : Int)) = x + y := by
  rw [Rat.add_def', ← Rat.divInt_ofNat, Int.natCast_mul]

theorem add_eq' (x y : Rat) : Rat.divInt (x.num * (y.den : Int) + (x.den : Int) * y.num) ((x.den : Int) * (y.den : Int)) = x + y := by
  rw [Int.mul_comm (x.den : Int) y.num, add_eq]

theorem mul_eq (x y : Rat) : Rat.divInt (x.num * y.num) ((x.den : Int) * (y.den : Int)) = x * y := by
  rw [Rat.mul_def', ← Rat.divInt_ofNat, Int.natCast_mul]

theorem div_eq (x y : Rat) : Rat.divInt (x.num * (y.den : Int)) ((x.den : Int) * y.num) = x / y := by
  rw [Rat.div_def, Rat.inv_def, ← Rat.divInt_mul_divInt, Rat.num_divInt_den]

theorem lt_eq (x y : Rat) : decide (x.num * (y.den : Int) < y.num * (x.den : Int)) = decide (x < y) := by
  simp only [Rat.lt_iff]

theorem den_ne (x y : Rat) : (x.den : Int) * (y.den : Int) ≠ 0 := by
  have h1 := x.den_pos
  have h2 := y.den_pos
  exact Int.mul_ne_zero (by omega) (by omega)

/-- A product of two numbers within bounds. -/
theorem mul_bd {a b A B : Int} (ha : -A ≤ a) (ha' : a ≤ A) (hb : -B ≤ b) (hb' : b ≤ B) : -(A * B) ≤ a * b ∧ a * b ≤ A * B := by
  have h1 : a.natAbs ≤ A.toNat := by omega
  have h2 : b.natAbs ≤ B.toNat := by omega
  have h3 : (a * b).natAbs ≤ (A * B).toNat := by
    rw [Int.natAbs_mul]
    have := Nat.mul_le_mul h1 h2
    rwa [show (A * B).toNat = A.toNat * B.toNat from Int.toNat_mul (by omega) (by omega)]
  have hA : 0 ≤ A * B := Int.mul_nonneg (by omega) (by omega)
  omega

theorem mul_bd18 {a b : Int} (ha : -1000000000 ≤ a) (ha' : a ≤ 1000000000) (hb : -1000000000 ≤ b) (hb' : b ≤ 1000000000) : -1000000000000000000 ≤ a * b ∧ a * b ≤ 1000000000000000000 :=
  mul_bd ha ha' hb hb'

theorem gcd_tmod (a b : Int) : Int.gcd b (a.tmod b) = Int.gcd a b := by
  rw [Int.gcd_comm a b]
  have h : a = b * a.tdiv b + a.tmod b := (Int.mul_tdiv_add_tmod a b).symm
  conv => rhs; rw [h, Int.add_comm]
  exact (Int.gcd_add_mul_left_right ..).symm

theorem tmod_lt_natAbs {a b : Int} (hb : b ≠ 0) : (a.tmod b).natAbs < b.natAbs := by
  rw [Int.natAbs_tmod]
  exact Nat.mod_lt _ (by omega)

end Go.Proofs.Ytaklchehamkgcaa
