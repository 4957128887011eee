/-
  package event: occurring, Some.
-/
import Derived.Test.YtlepgeipcofapaaDoorEvB
import Derived.Test.YtlepgeipcofapaaDoorSubC
namespace Go.Proofs.YtlepgeipcofapaaDoor
open Go.RowKit

/-- How many of the events have the case i. -/
def occ : List Nat → Nat → Nat
  | [], _ => 0
  | s :: t, i => s / 2 ^ i % 2 + occ t i
theorem occ_take : ∀ {l : List Nat} (i : Nat) {k : Nat}, k < l.length → occ (l.take (k + 1)) i = occ (l.take k) i + l.getD k 0 / 2 ^ i % 2
  | [], _, _, h => absurd h (by simp)
  | x :: l, i, 0, _ => by simp [occ]
  | x :: l, i, k + 1, h => by
    have h1 := occ_take (l := l) i (k := k) (by simpa using h)
    simp only [List.take_succ_cons, occ, List.getD_cons_succ] at h1 ⊢
    rw [h1]
    omega
theorem occ_le : ∀ (l : List Nat) (i : Nat), occ l i ≤ l.length
  | [], _ => Nat.le_refl _
  | x :: l, i => by
    have h := occ_le l i
    have h2 : x / 2 ^ i % 2 < 2 := Nat.mod_lt _ (by omega)
    simp only [occ, List.length_cons]
    omega
/-- The cases below k that at least so many of the events have. -/
def enM (l : List Nat) (least : Int) : Nat → Nat
  | 0 => 0
  | k + 1 => if least ≤ (occ l k : Int) then enM l least k ||| 2 ^ k else enM l least k
theorem enM_lt (l : List Nat) (least : Int) : ∀ k, enM l least k < 2 ^ k
  | 0 => by simp [enM]
  | k + 1 => by
    have h := enM_lt l least k
    have h2 : 2 ^ (k + 1) = 2 ^ k * 2 := Nat.pow_succ 2 k
    unfold enM
    split
    · exact Nat.or_lt_two_pow (by omega) (by have := Nat.two_pow_pos k; omega)
    · omega
theorem enM_bit (l : List Nat) (least : Int) (i : Nat) : ∀ k, (enM l least k).testBit i = (decide (i < k) && decide (least ≤ (occ l i : Int)))
  | 0 => by simp [enM]
  | k + 1 => by
    have h := enM_bit l least i k
    unfold enM
    by_cases e : i = k
    · subst e
      by_cases c : least ≤ (occ l i : Int)
      · rw [if_pos c, Nat.testBit_or, h]
        simp [c]
      · rw [if_neg c, h]
        simp [c]
    · have e2 : decide (i < k + 1) = decide (i < k) := by
        by_cases c : i < k
        · rw [decide_eq_true c, decide_eq_true (by omega)]
        · rw [decide_eq_false c, decide_eq_false (by omega)]
      rw [e2]
      split
      · rw [Nat.testBit_or, h, Nat.testBit_two_pow]
        simp
        intro h1
        omega
      · exact h
/-- 1 where at least so many of the events have the case. -/
def enI (l : List Nat) (least : Int) (i : Nat) : Int := if least ≤ (occ l i : Int) then 1 else 0
theorem wgt_enM (ws : List Int) (l : List Nat) (least : Int) : wgt ws (enM l least ws.length) = cw ws (enI l least) := by
  refine cw_congr (fun i hi => ?_)
  unfold bt enI
  rw [enM_bit, decide_eq_true hi, Bool.true_and]
  by_cases c : least ≤ (occ l i : Int)
  · rw [if_pos c, if_pos (by simpa using c)]
  · rw [if_neg c, if_neg (by simpa using c)]

end Go.Proofs.YtlepgeipcofapaaDoor
