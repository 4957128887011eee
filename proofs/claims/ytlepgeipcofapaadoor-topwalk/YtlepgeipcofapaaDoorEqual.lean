/-
  slices.Equal at []int: two slices are equal just where their lists are.
-/
import Derived.Test.YtlepgeipcofapaaDoorBase
namespace Go.Proofs.YtlepgeipcofapaaDoor
open Go.RowKit

theorem getD_take_eq {xs ys : List Int} {n : Nat} (hx : xs.length = n) (hy : ys.length = n) (h : ∀ j, j < n → xs.getD j 0 = ys.getD j 0) : xs = ys := by
  apply List.ext_getElem (by omega)
  intro i h1 h2
  have := h i (by omega)
  simpa [List.getD_eq_getElem?_getD, List.getElem?_eq_getElem h1, List.getElem?_eq_getElem h2] using this

end Go.Proofs.YtlepgeipcofapaaDoor
