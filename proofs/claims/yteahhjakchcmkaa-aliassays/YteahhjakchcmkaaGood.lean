/-
  castkeep.good: true just where all of its errors are OK.
-/
import Derived.Test.YteahhjakchcmkaaRst
import Derived.Test.YteahhjakchcmkaaPlain
namespace Go.Proofs.Yteahhjakchcmkaa
open Go.RowKit

def allOK (l : List Int) : Bool := l.all (fun x => x == 0)
theorem allOK_true {l : List Int} : allOK l = true ↔ ∀ i, i < l.length → l.getD i 0 = 0 := by
  simp only [allOK, List.all_eq_true, beq_iff_eq]
  constructor
  · intro h i hi
    exact h _ (getD_mem hi)
  · intro h x hx
    obtain ⟨i, hi, rfl⟩ := mem_getD hx
    exact h i hi

def IdxGood (l : List Int) (w : World) (e : Ending) (w' : World) : Prop := ∃ r : Int, e = .returned (.int .i64 r) ∧ decide (0 ≤ r) = !(allOK l) ∧ w = w'

end Go.Proofs.Yteahhjakchcmkaa
