/-
  The numbers of heaps by what is alike: small ones.
-/
import Derived.Test.YtigfhpffghajaaaBlkA
namespace Go.Proofs.Ytigfhpffghajaaa
open Go.RowKit

theorem ofL_bd {l : List Int} {y : Int} (h : y ∈ ofL l) : y ≤ (l.length : Int) := by
  obtain ⟨i, hi, rfl⟩ := mem_getD h
  rw [length_ofL] at hi
  have h1 := ix_le hi
  have h2 := nf_le l (ix l i)
  rw [getD_ofL hi]
  omega

end Go.Proofs.Ytigfhpffghajaaa
