/-
  How many go to themselves: the distribution, reckoned for two to four.
-/
import Derived.Test.YthdjbmogdlodcaaOddE
import Derived.Test.YthdjbmogdlodcaaOddN
import Derived.Test.YthdjbmogdlodcaaDerM
namespace Go.Proofs.Ythdjbmogdlodcaa
open Go.RowKit

def ownD (n : Nat) : Nat → List (Int × Int)
  | 0 => []
  | k + 1 => if 0 < fixN n k then ownD n k ++ [((k : Int), ((fixN n k : Nat) : Int))] else ownD n k
theorem ownD_len (n : Nat) : ∀ k, (ownD n k).length ≤ k
  | 0 => Nat.le_refl _
  | k + 1 => by
    have := ownD_len n k
    rw [ownD]
    split
    · simp; omega
    · omega
theorem ownD_facts {n : Nat} (h0 : 2 ≤ n) (hn : n ≤ 4) : GoodD (ownD n (n + 1)) ∧ ((mean (ownD n (n + 1))).num = 1 ∧ ((mean (ownD n (n + 1))).den : Int) = 1) ∧ ((var (ownD n (n + 1))).num = 1 ∧ ((var (ownD n (n + 1))).den : Int) = 1) := by
  have h1 : ∀ n : Fin 3, oddErr (vsL (ownD (n.val + 2) (n.val + 2 + 1))) (wsL (ownD (n.val + 2) (n.val + 2 + 1))) = 0 := by decide +kernel
  have h2 : ∀ n : Fin 3, (mean (ownD (n.val + 2) (n.val + 2 + 1))).num = 1 ∧ ((mean (ownD (n.val + 2) (n.val + 2 + 1))).den : Int) = 1 := by decide +kernel
  have h3 : ∀ n : Fin 3, (var (ownD (n.val + 2) (n.val + 2 + 1))).num = 1 ∧ ((var (ownD (n.val + 2) (n.val + 2 + 1))).den : Int) = 1 := by decide +kernel
  have e : n - 2 + 2 = n := by omega
  have k1 := h1 ⟨n - 2, by omega⟩
  have k2 := h2 ⟨n - 2, by omega⟩
  have k3 := h3 ⟨n - 2, by omega⟩
  dsimp only at k1 k2 k3
  rw [e] at k1 k2 k3
  exact ⟨good_of_err k1, k2, k3⟩
theorem fix_small {n k : Nat} (hn : n ≤ 4) (hk : k ≤ 4) : fixN n k ≤ 100 :=
  (by decide +kernel : ∀ n k : Fin 5, fixN n.val k.val ≤ 100) ⟨n, by omega⟩ ⟨k, by omega⟩
end Go.Proofs.Ythdjbmogdlodcaa
