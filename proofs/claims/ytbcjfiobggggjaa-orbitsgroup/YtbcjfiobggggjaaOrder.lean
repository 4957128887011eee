/-
  perm.greatestCommonDivisor, perm.leastCommonMultiple, perm.Order.
-/
import Derived.Test.YtbcjfiobggggjaaCycLen
namespace Go.Proofs.Ytbcjfiobggggjaa
open Go.RowKit

theorem lcm_div (a b : Nat) : a / Nat.gcd a b * b = Nat.lcm a b := by
  rw [Nat.lcm]
  exact Nat.div_mul_right_comm (Nat.gcd_dvd_left a b) b

/-- The least common multiple of all of them. -/
def ordL (l : List Int) : Nat := l.foldl (fun a x => Nat.lcm a x.toNat) 1

def RetOrder (w : World) (r : Int) (er : Int) (e : Ending) (w' : World) : Prop := e = .returned (.tuple #[.int .i64 r, .int .i64 er]) ∧ Below w.heap.size w w'

theorem ordL_snoc (l : List Int) (x : Int) : ordL (l ++ [x]) = Nat.lcm (ordL l) x.toNat := by simp [ordL, List.foldl_append]
theorem ordL_take_bound {l : List Int} (hl : ∀ x, x ∈ l → 1 ≤ x ∧ x ≤ 10) : ∀ k, k ≤ l.length → 1 ≤ ordL (l.take k) ∧ ordL (l.take k) ≤ 10 ^ k
  | 0, _ => by simp [ordL]
  | k + 1, hk => by
    have ih := ordL_take_bound hl k (by omega)
    have hx := hl _ (getD_mem (show k < l.length by omega))
    rw [take_snoc (by omega), ordL_snoc]
    refine ⟨Nat.lcm_pos (by omega) (by omega), ?_⟩
    refine Nat.le_trans (Nat.div_le_self _ _) ?_
    rw [Nat.pow_succ]
    exact Nat.mul_le_mul ih.2 (by omega)
theorem mem_cycL {p : List Int} (hp : IsPerm p) {x : Int} (hx : x ∈ cycL p p.length) : 1 ≤ x ∧ x ≤ p.length := by
  obtain ⟨i, hi, rfl⟩ := List.mem_map.1 hx
  have h := per_spec hp (List.mem_range.1 (List.mem_filter.1 hi).1)
  omega

end Go.Proofs.Ytbcjfiobggggjaa
