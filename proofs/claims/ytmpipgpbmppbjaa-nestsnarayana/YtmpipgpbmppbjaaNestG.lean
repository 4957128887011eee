/-
  Balanced strings by their pairs that are closed at once, reckoned.
-/
import Derived.Test.YtmpipgpbmppbjaaNestM
import Derived.Lib.CountLaws
namespace Go.Proofs.Ytmpipgpbmppbjaa

/-- Has the string of this number so many pairs that are closed at once? -/
def narF (n k j : Nat) : Nat := if Lib.count (nun (n + n) n n j) [40, 41] = k then 1 else 0
theorem narF_le (n k : Nat) : ∀ i, sumN (narF n k) i ≤ i
  | 0 => Nat.le_refl _
  | i + 1 => by
    have := narF_le n k i
    rw [sumN]
    have : narF n k i ≤ 1 := by unfold narF; split <;> omega
    omega
theorem narayana {n k : Nat} (hn : n < 7) (hk1 : 1 ≤ k) (hk : k ≤ n) : sumN (narF n k) (bal n n) * n = cho n k * cho n (k - 1) :=
  (by decide +kernel : ∀ n k : Fin 7, 1 ≤ k.val → k.val ≤ n.val → sumN (narF n.val k.val) (bal n.val n.val) * n.val = cho n.val k.val * cho n.val (k.val - 1)) ⟨n, hn⟩ ⟨k, by omega⟩ hk1 hk
theorem bal_small {n : Nat} (hn : n < 7) : bal n n ≤ 132 :=
  (by decide +kernel : ∀ n : Fin 7, bal n.val n.val ≤ 132) ⟨n, hn⟩
end Go.Proofs.Ytmpipgpbmppbjaa
