/-
  Distributions: CHEBYSHEV; MARKOV; tails.
-/
import Derived.Test.YthdjbmogdlodcaaOddN
namespace Go.Proofs.Ythdjbmogdlodcaa

/-- Is Q times x as far from P as F, or farther? -/
def farI (F Q P x : Int) : Int := if F ≤ x * Q - P ∨ F ≤ -(x * Q - P) then 1 else 0
theorem farI_bd (F Q P x : Int) : 0 ≤ farI F Q P x ∧ farI F Q P x ≤ 1 := by
  unfold farI
  split <;> omega
theorem far_sq (F Q P x : Int) (hF : 0 ≤ F) : F * F * farI F Q P x ≤ (Q * x - P) * (Q * x - P) := by
  have hn : ∀ y : Int, 0 ≤ y * y := fun y => by
    rcases Int.le_total 0 y with h | h
    · exact Int.mul_nonneg h h
    · have := Int.mul_nonneg (show 0 ≤ -y by omega) (show 0 ≤ -y by omega)
      rwa [Int.neg_mul_neg] at this
  rw [Int.mul_comm Q x]
  unfold farI
  split
  · rename_i h
    rw [Int.mul_one]
    generalize x * Q - P = y at *
    rcases h with h | h
    · exact Int.mul_le_mul h h hF (by omega)
    · have := Int.mul_le_mul h h hF (by omega)
      rwa [Int.neg_mul_neg] at this
  · rw [Int.mul_zero]
    exact hn _

theorem one_rat {l : List (Int × Int)} (h : GoodD l) : (0 : Rat) < (E one l : Rat) := by
  have := E_one_pos h
  exact_mod_cast (show (0 : Int) < E one l by omega)

/-- CHEBYSHEV. -/
theorem chebyshev {l : List (Int × Int)} (h : GoodD l) (far : Int) (hf : 0 ≤ far) :
    E (farI (far * ((mean l).den : Int)) ((mean l).den : Int) (mean l).num) l * far * far * ((var l).den : Int) ≤ E one l * (var l).num := by
  have hT := one_rat h
  obtain ⟨Q, hQ⟩ : ∃ Q, ((mean l).den : Int) = Q := ⟨_, rfl⟩
  obtain ⟨P, hP⟩ : ∃ P, (mean l).num = P := ⟨_, rfl⟩
  have hQ0 : 0 < Q := by have := (mean l).den_pos; omega
  have hm : mean l = Rat.divInt P Q := by rw [← hP, ← hQ, Rat.num_divInt_den]
  rw [hQ, hP]
  have k1 : far * Q * (far * Q) * E (farI (far * Q) Q P) l ≤ E (fun x => (Q * x - P) * (Q * x - P)) l := by
    rw [← E_mul]
    exact E_le _ _ h.2 (fun p _ => far_sq _ _ _ _ (Int.mul_nonneg hf (by omega)))
  rw [E_off] at k1
  obtain ⟨N, hN⟩ : ∃ N, E (farI (far * Q) Q P) l = N := ⟨_, rfl⟩
  rw [hN] at k1 ⊢
  have hv : (E one l : Rat) * var l * ((Q * Q : Int) : Rat) = ((Q * Q * E sq l - 2 * Q * P * E idI l + P * P * E one l : Int) : Rat) := by
    have e2 : (Q : Rat) ≠ 0 := by exact_mod_cast (show Q ≠ 0 by omega)
    have e3 : (E idI l : Rat) * (Q : Rat) = (P : Rat) * (E one l : Rat) := by
      have e : Rat.divInt (E idI l) (E one l) = Rat.divInt P Q := hm
      have := (Rat.divInt_eq_divInt_iff (by have := E_one_pos h; omega) (by omega)).1 e
      exact_mod_cast this
    unfold var
    rw [hm]
    simp only [Rat.divInt_eq_div, Rat.intCast_add, Rat.intCast_sub, Rat.intCast_mul]
    have e1 : (E one l : Rat) ≠ 0 := by grind
    generalize (E one l : Rat) = T at *
    generalize (E idI l : Rat) = S at *
    generalize (E sq l : Rat) = R at *
    generalize (Q : Rat) = q at *
    generalize (P : Rat) = p at *
    have e4 : ((2 : Int) : Rat) = 2 := rfl
    rw [e4]
    have e5 : T * (R / T + -(p / q * (p / q))) * (q * q) = R * (q * q) - T * (p * p) := by grind
    rw [e5]
    grind
  have k2 : ((far * Q * (far * Q) * N : Int) : Rat) ≤ (E one l : Rat) * var l * ((Q * Q : Int) : Rat) := by
    rw [hv]
    exact_mod_cast k1
  have hq : (0 : Rat) < ((Q * Q : Int) : Rat) := by exact_mod_cast Int.mul_pos hQ0 hQ0
  have k3 : ((N * far * far : Int) : Rat) ≤ (E one l : Rat) * var l := by
    have e : ((far * Q * (far * Q) * N : Int) : Rat) = ((N * far * far : Int) : Rat) * ((Q * Q : Int) : Rat) := by
      rw [← Rat.intCast_mul]
      congr 1
      grind
    rw [e] at k2
    exact Rat.le_of_mul_le_mul_right k2 hq
  have hd : (0 : Rat) < (((var l).den : Int) : Rat) := by
    have := (var l).den_pos
    exact_mod_cast (show (0 : Int) < ((var l).den : Int) by omega)
  have k4 : ((N * far * far : Int) : Rat) * (((var l).den : Int) : Rat) ≤ (E one l : Rat) * var l * (((var l).den : Int) : Rat) := Rat.mul_le_mul_of_nonneg_right k3 (Rat.le_of_lt hd)
  have e6 : var l * (((var l).den : Int) : Rat) = ((var l).num : Rat) := by
    have e := Rat.num_divInt_den (var l)
    rw [Rat.divInt_eq_div] at e
    generalize (((var l).den : Int) : Rat) = D at *
    generalize ((var l).num : Rat) = M at *
    generalize var l = V at *
    rw [← e]
    have : D ≠ 0 := by grind
    grind
  have k5 : ((N * far * far * ((var l).den : Int) : Int) : Rat) ≤ ((E one l * (var l).num : Int) : Rat) := by
    rw [Rat.intCast_mul (N * far * far), Rat.intCast_mul (E one l), ← e6]
    rw [Rat.mul_assoc] at k4
    exact k4
  exact_mod_cast k5
theorem var_nonneg {l : List (Int × Int)} (h : GoodD l) : 0 ≤ (var l).num := by
  have h1 := chebyshev h 0 (Int.le_refl 0)
  simp only [Int.mul_zero, Int.zero_mul] at h1
  have h2 := E_one_pos h
  rcases Int.le_total 0 (var l).num with h3 | h3
  · exact h3
  · rcases Int.lt_or_eq_of_le h3 with h4 | h4
    · have := Int.mul_neg_of_pos_of_neg (show 0 < E one l by omega) h4
      omega
    · omega
end Go.Proofs.Ythdjbmogdlodcaa
