/-
  The verifier's helpers: castref.Rest, castkeep.Within, castref.Dealt, castkeep.PermOf: an order made of lots.
-/
import Derived.Test.YtaklchehamkgcaaRst
import Derived.Test.YtaklchehamkgcaaTimes
namespace Go.Proofs.Ytaklchehamkgcaa
open Go.RowKit

def dealStep (p : List Int) (x : Int) : List Int := swapAt (p ++ [(p.length : Int)]) p.length x.toNat
def dealt (lots : List Int) : List Int := lots.foldl dealStep []

theorem length_dealStep (p : List Int) (x : Int) : (dealStep p x).length = p.length + 1 := by simp [dealStep, length_swapAt]

theorem mem_swapAt {l : List Int} {i j : Nat} (hi : i < l.length) (hj : j < l.length) {x : Int} (hx : x ∈ l) : x ∈ swapAt l i j := by
  obtain ⟨k, hk, rfl⟩ := mem_getD hx
  have hget : ∀ m, m < l.length → (swapAt l i j).getD m 0 ∈ swapAt l i j := fun m hm => getD_mem (by rw [length_swapAt]; exact hm)
  by_cases h1 : k = i
  · subst h1
    have := hget j hj
    rwa [getD_swapAt hi hj, if_pos rfl] at this
  · by_cases h2 : k = j
    · subst h2
      have := hget i hi
      rw [getD_swapAt hi hj] at this
      by_cases e : i = k
      · exact absurd e.symm h1
      · rwa [if_neg e, if_pos rfl] at this
    · have := hget k hk
      rwa [getD_swapAt hi hj, if_neg h2, if_neg h1] at this

theorem isPerm_swapAt {l : List Int} {i j : Nat} (h : IsPerm l) (hi : i < l.length) (hj : j < l.length) : IsPerm (swapAt l i j) :=
  isPerm_of_all fun k hk => mem_swapAt hi hj (h.all k (by rw [length_swapAt] at hk; exact hk))

theorem isPerm_snoc {p : List Int} (h : IsPerm p) : IsPerm (p ++ [(p.length : Int)]) :=
  isPerm_of_all fun k hk => by
    simp only [List.length_append, List.length_cons, List.length_nil] at hk
    by_cases e : k = p.length
    · simp [e]
    · exact List.mem_append.2 (.inl (h.all k (by omega)))

theorem isPerm_dealStep {p : List Int} {x : Int} (h : IsPerm p) (h1 : x ≤ p.length) : IsPerm (dealStep p x) :=
  isPerm_swapAt (isPerm_snoc h) (by simp) (by simp; omega)

theorem dealt_snoc (l : List Int) (x : Int) : dealt (l ++ [x]) = dealStep (dealt l) x := by simp [dealt, List.foldl_append]
theorem length_foldl_deal (l p : List Int) : (l.foldl dealStep p).length = p.length + l.length := by
  induction l generalizing p with
  | nil => simp
  | cons a t ih => rw [List.foldl_cons, ih, length_dealStep, List.length_cons]; omega
theorem length_dealt (l : List Int) : (dealt l).length = l.length := by rw [dealt, length_foldl_deal]; simp

/-- Lots: each from 0 to its place. -/
def IsLots (l : List Int) : Prop := ∀ i, i < l.length → 0 ≤ l.getD i 0 ∧ l.getD i 0 ≤ i

theorem isPerm_dealt_take {l : List Int} (h : IsLots l) : ∀ k, k ≤ l.length → IsPerm (dealt (l.take k))
  | 0, _ => isPerm_of_all fun i hi => by simp [dealt] at hi
  | k + 1, hk => by
    rw [take_snoc (by omega), dealt_snoc]
    refine isPerm_dealStep (isPerm_dealt_take h k (by omega)) ?_
    rw [length_dealt, List.length_take]
    have := h k (by omega)
    omega
theorem isPerm_dealt {l : List Int} (h : IsLots l) : IsPerm (dealt l) := by
  have := isPerm_dealt_take h l.length (Nat.le_refl _)
  rwa [List.take_of_length_le (Nat.le_refl _)] at this

/-! ### Rest, Within -/

/-! ### Dealt -/

/-! ### PermOf -/

/-- The lots that PermOf makes of any numbers. -/
def lotsOf (xs : List Int) : List Int := (List.range xs.length).map (fun i : Nat => xs.getD i 0 % ((i : Int) + 1))
theorem length_lotsOf (xs : List Int) : (lotsOf xs).length = xs.length := by simp [lotsOf]
theorem getD_lotsOf {xs : List Int} {i : Nat} (h : i < xs.length) : (lotsOf xs).getD i 0 = xs.getD i 0 % ((i : Int) + 1) := by
  simp [lotsOf, List.getD_eq_getElem?_getD, h]
theorem isLots_lotsOf (xs : List Int) : IsLots (lotsOf xs) := by
  intro i hi
  rw [length_lotsOf] at hi
  rw [getD_lotsOf hi]
  have h1 := Int.emod_nonneg (xs.getD i 0) (show ((i : Int) + 1) ≠ 0 by omega)
  have h2 := Int.emod_lt_of_pos (xs.getD i 0) (show 0 < ((i : Int) + 1) by omega)
  omega

end Go.Proofs.Ytaklchehamkgcaa
