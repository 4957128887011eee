/-
  perm.Check: its answer is permErr of the list.
-/
import Derived.Test.YteahhjakchcmkaaBase
import Derived.Test.YteahhjakchcmkaaPlain
import Derived.Deep.OwnRows
namespace Go.Proofs.Yteahhjakchcmkaa
open Go.RowKit

theorem step_seen {xs : List Int} {k m : Nat} (hk : k < xs.length) (hx : xs.getD k 0 = (m : Int)) (j : Nat) :
    (if j = m then Value.bool true else Value.bool (decide ((j : Int) ∈ xs.take k))) = Value.bool (decide ((j : Int) ∈ xs.take (k + 1))) := by
  have e : xs.take (k + 1) = xs.take k ++ [(m : Int)] := by
    rw [List.take_succ_eq_append_getElem hk, ← hx, List.getD_eq_getElem?_getD, List.getElem?_eq_getElem hk]
    rfl
  rw [e]
  by_cases hj : j = m
  · subst hj
    simp
  · rw [if_neg hj]
    congr 1
    have : ¬ (j : Int) = (m : Int) := by omega
    simp [this]

end Go.Proofs.Yteahhjakchcmkaa
