/-
  castkeep.PartsTurned.
-/
import Derived.Test.YteegddpoekphoaaDoorPartE
import Derived.Test.YteegddpoekphoaaDoorPartH
import Derived.Test.YteegddpoekphoaaDoorPartD
namespace Go.Proofs.YteegddpoekphoaaDoor
open Go.RowKit

theorem part_sums {xs : List Int} (h : IsPart xs) {k : Nat} (hk : k ≤ xs.length) : 0 ≤ (xs.take k).sum ∧ (xs.take k).sum ≤ 40 := by
  have h1 := h.sum_take k
  refine ⟨by omega, ?_⟩
  rcases Nat.eq_zero_or_pos k with h0 | h0
  · subst h0
    simp
  · have := (partErrAt_zero (h (k - 1) (by omega))).2.2.2
    rwa [show k - 1 + 1 = k by omega] at this

/-- A right sum comes back. -/
def RetSumI (w : World) (e : Ending) (w' : World) : Prop := ∃ A n c ys, e = .returned (.slice A n c) ∧ Ints w' A n ys ∧ IsPart ys ∧ n ≤ 20 ∧ Below w.heap.size w w'
theorem sumOf_bel (A : Option Addr) (n c : Nat) (xs : List Int) (w : World) (h : Ints w A n xs) (hc : n ≤ c) :
    Calls Tryd.prog 22 #[.slice A n c, .int .i64 20] w (RetSumI w) := by
  refine (sumOf_any A n c (min n 20) xs w h hc (by omega) (by omega)).mono ?_
  rintro e w' ⟨v, ys, rfl, ho, hp, hl, hb⟩
  obtain ⟨A', c', rfl, hI, _⟩ := ho.ints
  exact ⟨A', _, c', ys, rfl, hI, hp, hl, hb⟩

end Go.Proofs.YteegddpoekphoaaDoor
