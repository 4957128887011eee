/-
  How many heaps: plain mathematics (Stirling, Bell), reckoned up to ten things. Nothing of the program is proved here.
-/
import Derived.Test.YtigfhpffghajaaaBlkM
import Derived.Test.YtigfhpffghajaaaSubM
import Derived.Test.YtigfhpffghajaaaFct
namespace Go.Proofs.Ytigfhpffghajaaa
open Go.RowKit

/-- So many things in so many heaps. -/
def stir : Nat → Nat → Nat
  | 0, 0 => 1
  | 0, _ + 1 => 0
  | _ + 1, 0 => 0
  | n + 1, k + 1 => stir n (k + 1) * (k + 1) + stir n k
theorem stir_le {n k : Nat} (hn : n ≤ 10) (hk : k ≤ 10) : stir n k ≤ 42525 := by
  have h : ∀ n, n < 11 → ∀ k, k < 11 → stir n k ≤ 42525 := by decide +kernel
  exact h n (by omega) k (by omega)
/-- So many things in heaps. -/
def bell (n : Nat) : Nat := sumN (stir n) 11
theorem bell_le {n : Nat} (hn : n ≤ 10) : bell n ≤ 115975 := by
  have h : ∀ n, n < 11 → bell n ≤ 115975 := by decide +kernel
  exact h n (by omega)
theorem bellPart_le {n j : Nat} (hn : n ≤ 10) (hj : j ≤ 11) : sumN (stir n) j ≤ 115975 := Nat.le_trans (sumN_mono _ hj) (bell_le hn)
theorem bell_next {n : Nat} (hn : n < 10) : sumN (fun k => cho n k * bell k) (n + 1) = bell (n + 1) := by
  have h : ∀ n, n < 10 → sumN (fun k => cho n k * bell k) (n + 1) = bell (n + 1) := by decide +kernel
  exact h n hn
/-- By putting in and leaving out. -/
def hterm (n k j : Nat) : Int := if (k - j) % 2 = 1 then -((cho k j * j ^ n : Nat) : Int) else ((cho k j * j ^ n : Nat) : Int)
def hs (n k : Nat) : Nat → Int
  | 0 => 0
  | j + 1 => hs n k j + hterm n k j
theorem hprod_le {n k j m : Nat} (hn : n ≤ 10) (hk : k ≤ 10) (hj : j ≤ 10) (hm : m ≤ n) : cho k j * j ^ m ≤ 655360000000000 := by
  have h1 := cho_16 (n := k) (k := j) (by omega)
  have h2 : j ^ m ≤ 10 ^ 10 := Nat.le_trans (Nat.pow_le_pow_left hj m) (Nat.pow_le_pow_right (by omega) (by omega))
  exact Nat.le_trans (Nat.mul_le_mul h1 h2) (by decide)
theorem hs_bd {n k : Nat} (hn : n ≤ 10) (hk : k ≤ 10) : ∀ {j : Nat}, j ≤ 11 → -(655360000000000 * (j : Int)) ≤ hs n k j ∧ hs n k j ≤ 655360000000000 * (j : Int)
  | 0, _ => by
    unfold hs
    omega
  | j + 1, hj => by
    have ih := hs_bd hn hk (j := j) (by omega)
    have h1 := hprod_le (m := n) hn hk (show j ≤ 10 by omega) (Nat.le_refl _)
    show -(655360000000000 * ((j + 1 : Nat) : Int)) ≤ hs n k j + hterm n k j ∧ hs n k j + hterm n k j ≤ 655360000000000 * ((j + 1 : Nat) : Int)
    unfold hterm
    generalize cho k j * j ^ n = x at *
    split <;> omega
theorem hs_stir {n k : Nat} (hn : n ≤ 10) (hk : k ≤ 10) : (hs n k (k + 1)).tdiv ((fact k : Nat) : Int) = ((stir n k : Nat) : Int) := by
  have h : ∀ n, n < 11 → ∀ k, k < 11 → (hs n k (k + 1)).tdiv ((fact k : Nat) : Int) = ((stir n k : Nat) : Int) := by decide +kernel
  exact h n (by omega) k (by omega)
theorem hs_pos {n k : Nat} (hn : n ≤ 10) (hk : k ≤ 10) : 0 ≤ hs n k (k + 1) := by
  have h : ∀ n, n < 11 → ∀ k, k < 11 → 0 ≤ hs n k (k + 1) := by decide +kernel
  exact h n (by omega) k (by omega)
/-- Touchard's primes. -/
def tprime (k : Nat) : Nat := [2, 3, 5, 7].getD k 0
theorem touchard {n k : Nat} (hk : k < 4) (hn : n + tprime k ≤ 10) : (((bell (n + tprime k) : Nat) : Int) - ((bell n : Nat) : Int) - ((bell (n + 1) : Nat) : Int)) % ((tprime k : Nat) : Int) = 0 ∧ ((bell n : Nat) : Int) + ((bell (n + 1) : Nat) : Int) ≤ ((bell (n + tprime k) : Nat) : Int) := by
  have h : ∀ k, k < 4 → ∀ n, n < 11 → n + tprime k ≤ 10 → (((bell (n + tprime k) : Nat) : Int) - ((bell n : Nat) : Int) - ((bell (n + 1) : Nat) : Int)) % ((tprime k : Nat) : Int) = 0 ∧ ((bell n : Nat) : Int) + ((bell (n + 1) : Nat) : Int) ≤ ((bell (n + tprime k) : Nat) : Int) := by decide +kernel
  exact h k hk n (by omega) hn

/-! ### From one to the next, through all -/
def wkGood : Nat → List Int → List Int → List Int → Bool
  | 0, _, _, _ => false
  | m + 1, g, o, want => if ltg g g.length < 0 then m == 0 && o.set (bk g) (o.getD (bk g) 0 + 1) == want else wkGood m (nextL g (ltg g g.length).toNat) (o.set (bk g) (o.getD (bk g) 0 + 1)) want
def wkWant (n : Nat) : List Int := (List.range (n + 1)).map (fun k => ((stir n k : Nat) : Int))
theorem wk_all {n : Nat} (hn : n < 7) : wkGood (bell (n + 1)) (List.replicate (n + 1) 0) (List.replicate (n + 2) 0) (wkWant (n + 1)) = true := by
  have h : ∀ n, n < 7 → wkGood (bell (n + 1)) (List.replicate (n + 1) 0) (List.replicate (n + 2) 0) (wkWant (n + 1)) = true := by decide +kernel
  exact h n hn

end Go.Proofs.Ytigfhpffghajaaa
