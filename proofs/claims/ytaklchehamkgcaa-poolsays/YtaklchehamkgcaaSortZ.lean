/-
  slices.Reverse at []int.
-/
import Derived.Test.YtaklchehamkgcaaSmall
namespace Go.Proofs.Ytaklchehamkgcaa
open Go.RowKit

/-- The first k and the last k numbers have changed places. -/
def revUpto (xs : List Int) (k : Nat) : List Int := (List.range xs.length).map (fun u => if u < k ∨ xs.length - k ≤ u then xs.getD (xs.length - 1 - u) 0 else xs.getD u 0)

theorem length_revUpto (xs : List Int) (k : Nat) : (revUpto xs k).length = xs.length := by simp [revUpto]

theorem getD_revUpto {xs : List Int} {u : Nat} (hu : u < xs.length) (k : Nat) : (revUpto xs k).getD u 0 = if u < k ∨ xs.length - k ≤ u then xs.getD (xs.length - 1 - u) 0 else xs.getD u 0 := by
  simp [revUpto, List.getD_eq_getElem?_getD, hu]

theorem revUpto_zero (xs : List Int) : revUpto xs 0 = xs := by
  apply ext_getD (length_revUpto xs 0)
  intro u hu
  rw [length_revUpto] at hu
  rw [getD_revUpto hu, if_neg (by omega)]

theorem revUpto_step {xs : List Int} {k m : Nat} (hm : m + k + 1 = xs.length) (hk : k < m) : swapAt (revUpto xs k) k m = revUpto xs (k + 1) := by
  apply ext_getD (by rw [length_swapAt, length_revUpto, length_revUpto])
  intro u hu
  rw [length_swapAt, length_revUpto] at hu
  rw [getD_swapAt (by rw [length_revUpto]; omega) (by rw [length_revUpto]; omega), getD_revUpto hu, getD_revUpto (show k < xs.length by omega), getD_revUpto (show m < xs.length by omega), getD_revUpto hu]
  by_cases h1 : u = m
  · subst h1
    rw [if_pos rfl, if_neg (by omega), if_pos (by omega), show xs.length - 1 - u = k by omega]
  · rw [if_neg h1]
    by_cases h2 : u = k
    · subst h2
      rw [if_pos rfl, if_neg (by omega), if_pos (by omega), show xs.length - 1 - u = m by omega]
    · rw [if_neg h2]
      by_cases h3 : u < k ∨ xs.length - k ≤ u
      · rw [if_pos h3, if_pos (by omega)]
      · rw [if_neg h3, if_neg (by omega)]

theorem revUpto_end {xs : List Int} {k : Nat} (h : xs.length ≤ k + k + 1) : revUpto xs k = xs.reverse := by
  apply ext_getD (by rw [length_revUpto, List.length_reverse])
  intro u hu
  rw [length_revUpto] at hu
  have e : xs.reverse.getD u 0 = xs.getD (xs.length - 1 - u) 0 := by
    rw [List.getD_eq_getElem?_getD, List.getElem?_reverse hu, List.getD_eq_getElem?_getD]
  rw [getD_revUpto hu, e]
  by_cases h3 : u < k ∨ xs.length - k ≤ u
  · rw [if_pos h3]
  · rw [if_neg h3, show xs.length - 1 - u = u by omega]

/-- In place: the slice holds other numbers; nothing else that was there has turned. -/
def RetPut (w : World) (base : Nat) (v : Value) (ys : List Int) (e : Ending) (w' : World) : Prop := e = .returned (.tuple #[]) ∧ OwnInts w' base v ys ∧ w.grownBy w' v.ownBlock

end Go.Proofs.Ytaklchehamkgcaa
