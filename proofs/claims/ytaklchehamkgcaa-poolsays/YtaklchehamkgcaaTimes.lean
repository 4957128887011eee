/-
  perm.Times: the composition, or the error.
-/
import Derived.Test.YtaklchehamkgcaaOwn
import Derived.Test.YtaklchehamkgcaaCheck
namespace Go.Proofs.Ytaklchehamkgcaa
open Go.RowKit

/-- The composition: i goes to a[b[i]]. -/
def times (a b : List Int) : List Int := b.map (fun v => a.getD v.toNat 0)
/-- P4's error of Times. -/
def timesErr (a b : List Int) : Int := if permErr a = 0 then (if permErr b = 0 then (if a.length = b.length then 0 else 1) else permErr b) else permErr a
def timesRes (a b : List Int) : List Int := if timesErr a b = 0 then times a b else []

theorem getD_times {a b : List Int} {k : Nat} (hk : k < b.length) : (times a b).getD k 0 = a.getD (b.getD k 0).toNat 0 := by
  simp [times, List.getD_eq_getElem?_getD, List.getElem?_eq_getElem hk]
theorem length_times (a b : List Int) : (times a b).length = b.length := by simp [times]

end Go.Proofs.Ytaklchehamkgcaa
