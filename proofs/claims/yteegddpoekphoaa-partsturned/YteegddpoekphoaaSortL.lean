/-
  slices.Sort at []int, however long: the list in order.
-/
import Derived.Test.YteegddpoekphoaaLayA
import Derived.Test.YteegddpoekphoaaSortZ
import Derived.Shelf.Slices.In.SortNone
import Derived.Sort.OwnSortedInts
namespace Go.Proofs.Yteegddpoekphoaa
open Go.RowKit

/-- The numbers, the least first. -/
def srt (xs : List Int) : List Int := xs.mergeSort (fun x y => decide (x ≤ y))
theorem length_srt (xs : List Int) : (srt xs).length = xs.length := List.length_mergeSort _
theorem perm_srt (xs : List Int) : (srt xs).Perm xs := List.mergeSort_perm _ _
theorem pairwise_srt (xs : List Int) : (srt xs).Pairwise (· ≤ ·) := by
  have := List.pairwise_mergeSort (le := fun x y : Int => decide (x ≤ y)) (fun a b c h1 h2 => by simp only [decide_eq_true_eq] at *; omega) (fun a b => by simp only [Bool.or_eq_true, decide_eq_true_eq]; omega) xs
  exact this.imp (fun h => by simpa using h)

theorem sortL_any (base : Nat) (v : Value) (xs : List Int) (w : World) (h : OwnInts w base v xs) (hn : xs.length ≤ 1000000000000) :
    Calls Try.prog 15 #[v] w (RetPut w base v (srt xs)) := by
  have h2 := h.2
  rcases h2 with ⟨rfl, h0⟩ | ⟨g, cap, cur, rfl, hb, hg, h1, h2, h3, h4⟩
  · have hx : xs = [] := List.eq_nil_of_length_eq_zero h0
    subst hx
    refine (Any.slices_Sort_int_none laysn189 none 0 w).mono ?_
    rintro e w' ⟨he, rfl⟩
    exact ⟨he, by simpa [srt] using h, ⟨rfl, rfl, rfl, Nat.le_refl _, fun _ _ _ => rfl⟩⟩
  · have hT : cur.toList.take xs.length = xs.map (Value.int .i64) := by rwa [Nat.mul_one] at h4
    refine (Any.slices_Sort_int laysn189 g 0 cap xs w (holds_of_blockI hg hT) (Array.getElem?_eq_some_iff.1 hg).1 (by omega)).mono ?_
    rintro e w' ⟨he, n, os, rfl⟩
    refine ⟨he, ?_, grownBy_sortedI _⟩
    have := ownsRow_sortedI (n := n) (os := os) (ss := xs) (ts := srt xs) (length_srt xs) hb hg h1 h2 h3
    unfold OwnInts
    rw [length_srt]
    exact this

end Go.Proofs.Yteegddpoekphoaa
