/-
  Eulerian numbers as plain mathematics: by putting the greatest in, by powers, their sums. Nothing of the program is proved here.
-/
import Derived.Test.YtcnljljgdkjndaaPas
import Derived.Test.YtcnljljgdkjndaaFct
namespace Go.Proofs.Ytcnljljgdkjndaa

/-- So many orders of so many numbers go down so often: row by row. -/
def eulStep (n : Nat) (l : List Nat) : List Nat := (List.range 16).map fun k => (k + 1) * l.getD k 0 + (if k = 0 then 0 else (n + 1 - k) * l.getD (k - 1) 0)
def eulRow : Nat → List Nat
  | 0 => [1]
  | n + 1 => eulStep n (eulRow n)
def eul (n k : Nat) : Nat := (eulRow n).getD k 0
theorem eul_step (n : Nat) {k : Nat} (hk : k + 1 < 16) : eul (n + 1) (k + 1) = (k + 2) * eul n (k + 1) + (n - k) * eul n k := by
  show (eulStep n (eulRow n)).getD (k + 1) 0 = _
  unfold eulStep
  rw [List.getD_eq_getElem?_getD, List.getElem?_map, List.getElem?_range hk]
  show (k + 1 + 1) * (eulRow n).getD (k + 1) 0 + (if k + 1 = 0 then 0 else (n + 1 - (k + 1)) * (eulRow n).getD (k + 1 - 1) 0) = _
  rw [if_neg (by omega), show n + 1 - (k + 1) = n - k by omega, show k + 1 - 1 = k by omega]
  rfl
theorem eul_first {n : Nat} (hn : n < 16) : eul n 0 = 1 :=
  (by decide +kernel : ∀ n : Fin 16, eul n.val 0 = 1) ⟨n, hn⟩
theorem eul_le {n k : Nat} (hn : n < 16) (hk : k < 16) : eul n k ≤ 1307674368000 :=
  (by decide +kernel : ∀ n k : Fin 16, eul n.val k.val ≤ 1307674368000) ⟨n, hn⟩ ⟨k, hk⟩
theorem eul_over {n k : Nat} (hn : n < 16) (hk : k < 16) (h : n ≤ k) (h0 : 0 < k) : eul n k = 0 :=
  (by decide +kernel : ∀ n k : Fin 16, n.val ≤ k.val → 0 < k.val → eul n.val k.val = 0) ⟨n, hn⟩ ⟨k, hk⟩ h h0
theorem eul_all {n : Nat} (hn : n < 15) : sumN (eul (n + 1)) (n + 1) = fact (n + 1) :=
  (by decide +kernel : ∀ n : Fin 15, sumN (eul (n.val + 1)) (n.val + 1) = fact (n.val + 1)) ⟨n, hn⟩
theorem eul_same {n k : Nat} (hn : n < 15) (hk : k < n + 1) : eul (n + 1) k = eul (n + 1) (n - k) :=
  (by decide +kernel : ∀ n : Fin 15, ∀ k : Fin 15, k.val < n.val + 1 → eul (n.val + 1) k.val = eul (n.val + 1) (n.val - k.val)) ⟨n, hn⟩ ⟨k, by omega⟩ hk
theorem eulS_le {n k : Nat} (hn : n < 15) (hk : k ≤ n + 1) : sumN (eul (n + 1)) k ≤ 1307674368000 := by
  have h1 := sumN_mono (eul (n + 1)) hk
  rw [eul_all hn] at h1
  exact Nat.le_trans h1 (Nat.le_trans (fact_mono (show n + 1 ≤ 15 by omega)) (by decide +kernel))

/-- By powers. -/
def fallP (n k j m : Nat) : Nat := (pas (n + 1)).getD j 0 * (k + 1 - j) ^ m
def fallS (n k : Nat) : Nat → Int
  | 0 => 0
  | j + 1 => fallS n k j + (if j % 2 = 1 then -(fallP n k j n : Int) else (fallP n k j n : Int))
theorem fallP_zero (n k j : Nat) : fallP n k j 0 = cho (n + 1) j := by unfold fallP; rw [pas_cho]; simp
theorem fallP_succ (n k j m : Nat) : fallP n k j (m + 1) = fallP n k j m * (k + 1 - j) := by
  unfold fallP
  rw [Nat.pow_succ, Nat.mul_assoc]
theorem fallP_all {n k j : Nat} (hn : n < 16) (hk : k < 16) (hj : j < 16) (hkn : k < n) (hjk : j ≤ k) : fallP n k j n ≤ 9223372036854775807 :=
  (by decide +kernel : ∀ n k j : Fin 16, k.val < n.val → j.val ≤ k.val → fallP n.val k.val j.val n.val ≤ 9223372036854775807) ⟨n, hn⟩ ⟨k, hk⟩ ⟨j, hj⟩ hkn hjk
theorem fallP_le {n k j m : Nat} (hn : n < 16) (hkn : k < n) (hjk : j ≤ k) (hm : m ≤ n) : fallP n k j m ≤ 9223372036854775807 := by
  refine Nat.le_trans ?_ (fallP_all hn (by omega) (by omega) hkn hjk)
  unfold fallP
  exact Nat.mul_le_mul_left _ (Nat.pow_le_pow_right (by omega) hm)
theorem fallS_bd {n k j : Nat} (hn : n < 16) (hk : k < 16) (hj : j < 17) (hkn : k < n) (hjk : j ≤ k + 1) : -9223372036854775807 ≤ fallS n k j ∧ fallS n k j ≤ 9223372036854775807 :=
  (by decide +kernel : ∀ n k : Fin 16, ∀ j : Fin 17, k.val < n.val → j.val ≤ k.val + 1 → -9223372036854775807 ≤ fallS n.val k.val j.val ∧ fallS n.val k.val j.val ≤ 9223372036854775807) ⟨n, hn⟩ ⟨k, hk⟩ ⟨j, hj⟩ hkn hjk
theorem fallS_eul {n k : Nat} (hn : n < 16) (hkn : k < n) : fallS n k (k + 1) = (eul n k : Int) :=
  (by decide +kernel : ∀ n k : Fin 16, k.val < n.val → fallS n.val k.val (k.val + 1) = (eul n.val k.val : Int)) ⟨n, hn⟩ ⟨k, by omega⟩ hkn

/-- Worpitzky's sums. -/
def worT (x n k : Nat) : Nat := eul n k * (pas (x + n - 1 - k)).getD n 0
theorem worT_eq (x n k : Nat) : worT x n k = eul n k * cho (x + n - 1 - k) n := by unfold worT; rw [pas_cho]
theorem wor_all {x n : Nat} (hx : x < 8) (hn : n < 7) : sumN (worT x (n + 1)) (n + 1) = x ^ (n + 1) :=
  (by decide +kernel : ∀ x : Fin 8, ∀ n : Fin 7, sumN (worT x.val (n.val + 1)) (n.val + 1) = x.val ^ (n.val + 1)) ⟨x, hx⟩ ⟨n, hn⟩
theorem worS_le {x n k : Nat} (hx : x < 8) (hn : n < 7) (hk : k ≤ n + 1) : sumN (worT x (n + 1)) k ≤ 823543 := by
  have h1 := sumN_mono (worT x (n + 1)) hk
  rw [wor_all hx hn] at h1
  have h2 : x ^ (n + 1) ≤ 7 ^ (n + 1) := Nat.pow_le_pow_left (by omega) _
  have h3 : 7 ^ (n + 1) ≤ 7 ^ 7 := Nat.pow_le_pow_right (by omega) (by omega)
  have h4 : 7 ^ 7 = 823543 := by decide
  omega

end Go.Proofs.Ytcnljljgdkjndaa
