/-
  Derangements as plain mathematics: how many, by putting in and leaving out, and by how many stay.
-/
import Derived.Test.YthdjbmogdlodcaaPas
import Derived.Test.YthdjbmogdlodcaaFct
namespace Go.Proofs.Ythdjbmogdlodcaa

def drT : List Nat := [1, 0, 1, 2, 9, 44, 265, 1854, 14833, 133496, 1334961, 14684570, 176214841, 2290792932, 32071101049, 481066515734]
def drg (n : Nat) : Nat := drT.getD n 0
/-- What the one before was. -/
def drB (n : Nat) : Nat := if n = 0 then 0 else drg (n - 1)
theorem drg_le (n : Nat) : drg n ≤ 481066515734 := by
  rcases Nat.lt_or_ge n 16 with h | h
  · exact (by decide +kernel : ∀ n : Fin 16, drg n.val ≤ 481066515734) ⟨n, h⟩
  · unfold drg
    rw [List.getD_eq_getElem?_getD, List.getElem?_eq_none (by simpa [drT] using h)]
    simp
theorem drB_le (n : Nat) : drB n ≤ 481066515734 := by
  unfold drB
  split
  · omega
  · exact drg_le _
theorem drg_step {n : Nat} (h : n < 15) : n * (drB n + drg n) = drg (n + 1) :=
  (by decide +kernel : ∀ n : Fin 15, n.val * (drB n.val + drg n.val) = drg (n.val + 1)) ⟨n, h⟩
theorem drB_step (n : Nat) : drB (n + 1) = drg n := rfl
theorem drg_even {n : Nat} (h : n < 14) (he : n % 2 = 0) : (n + 2) * drg (n + 1) + 1 = drg (n + 2) :=
  (by decide +kernel : ∀ n : Fin 14, n.val % 2 = 0 → (n.val + 2) * drg (n.val + 1) + 1 = drg (n.val + 2)) ⟨n, h⟩ he
theorem drg_odd {n : Nat} (h : n < 14) (he : n % 2 = 1) : (n + 2) * drg (n + 1) = drg (n + 2) + 1 :=
  (by decide +kernel : ∀ n : Fin 14, n.val % 2 = 1 → (n.val + 2) * drg (n.val + 1) = drg (n.val + 2) + 1) ⟨n, h⟩ he

/-- So many of n stay, and the others are as you like. -/
def noneT (n k : Nat) : Nat := (pas n).getD k 0 * fact (n - k)
def noneS (n : Nat) : Nat → Int
  | 0 => 0
  | k + 1 => noneS n k + (if k % 2 = 1 then -(noneT n k : Int) else (noneT n k : Int))
theorem noneT_eq (n k : Nat) : noneT n k = cho n k * fact (n - k) := by unfold noneT; rw [pas_cho]
theorem noneT_le {n k : Nat} (hn : n < 16) (hk : k < 17) : noneT n k ≤ 1307674368000 :=
  (by decide +kernel : ∀ n : Fin 16, ∀ k : Fin 17, noneT n.val k.val ≤ 1307674368000) ⟨n, hn⟩ ⟨k, hk⟩
theorem noneS_le {n k : Nat} (hn : n < 16) (hk : k < 17) : 0 ≤ noneS n k ∧ noneS n k ≤ 1307674368000 :=
  (by decide +kernel : ∀ n : Fin 16, ∀ k : Fin 17, 0 ≤ noneS n.val k.val ∧ noneS n.val k.val ≤ 1307674368000) ⟨n, hn⟩ ⟨k, hk⟩
theorem noneS_all {n : Nat} (hn : n < 16) : noneS n (n + 1) = (drg n : Int) :=
  (by decide +kernel : ∀ n : Fin 16, noneS n.val (n.val + 1) = (drg n.val : Int)) ⟨n, hn⟩

/-- Just so many of n stay. -/
def fixN (n k : Nat) : Nat := (pas n).getD k 0 * drg (n - k)
theorem fixN_eq (n k : Nat) : fixN n k = cho n k * drg (n - k) := by unfold fixN; rw [pas_cho]
theorem fixN_le {n k : Nat} (hn : n < 16) (hk : k < 16) : fixN n k ≤ 1307674368000 :=
  (by decide +kernel : ∀ n k : Fin 16, fixN n.val k.val ≤ 1307674368000) ⟨n, hn⟩ ⟨k, hk⟩
theorem fixN_zero {n : Nat} (hn : n < 16) : fixN n 0 = drg n :=
  (by decide +kernel : ∀ n : Fin 16, fixN n.val 0 = drg n.val) ⟨n, hn⟩
theorem fixN_all {n : Nat} (hn : n < 16) : sumN (fixN n) (n + 1) = fact n :=
  (by decide +kernel : ∀ n : Fin 16, sumN (fixN n.val) (n.val + 1) = fact n.val) ⟨n, hn⟩
def fixK (n k : Nat) : Nat := k * fixN n k
theorem fixK_all {n : Nat} (hn : n < 15) : sumN (fixK (n + 1)) (n + 2) = fact (n + 1) :=
  (by decide +kernel : ∀ n : Fin 15, sumN (fixK (n.val + 1)) (n.val + 2) = fact (n.val + 1)) ⟨n, hn⟩
theorem fixS_le {n k : Nat} (hn : n < 16) (hk : k ≤ n + 1) : sumN (fixN n) k ≤ 1307674368000 := by
  have h1 := sumN_mono (fixN n) hk
  rw [fixN_all hn] at h1
  exact Nat.le_trans h1 (Nat.le_trans (fact_mono (show n ≤ 15 by omega)) (by decide +kernel))
theorem fixKS_le {n k : Nat} (hn : n < 16) (hk : k ≤ n + 1) : sumN (fixK n) k ≤ 1307674368000 := by
  rcases n with _ | n
  · exact Nat.le_trans (sumN_mono (fixK 0) hk) (by decide +kernel)
  · have h1 := sumN_mono (fixK (n + 1)) hk
    rw [fixK_all (by omega)] at h1
    exact Nat.le_trans h1 (Nat.le_trans (fact_mono (show n + 1 ≤ 15 by omega)) (by decide +kernel))
theorem fact_15 {n : Nat} (h : n ≤ 15) : fact n ≤ 1307674368000 := Nat.le_trans (fact_mono h) (by decide +kernel)

end Go.Proofs.Ythdjbmogdlodcaa
