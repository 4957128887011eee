/-
  perm.Inverse: the inverse, or the error.
-/
import Derived.Test.YtaklchehamkgcaaTimes
namespace Go.Proofs.Ytaklchehamkgcaa
open Go.RowKit

/-- q undoes p. -/
def IsInv (p q : List Int) : Prop := q.length = p.length ∧ ∀ i, i < p.length → q.getD (p.getD i 0).toNat 0 = (i : Int)

/-- f, but for one place. -/
def upd (f : Nat → Int) (m : Nat) (x : Int) (j : Nat) : Int := if j = m then x else f j
theorem upd_same (f : Nat → Int) (m : Nat) (x : Int) : upd f m x m = x := if_pos rfl
theorem upd_other (f : Nat → Int) {m j : Nat} (x : Int) (h : j ≠ m) : upd f m x j = f j := if_neg h

/-- The same, in memory of the call's own. -/
def RetInvO (w : World) (p : List Int) (e : Ending) (w' : World) : Prop := ∃ q, IsInv p q ∧ RetOwnE w q 0 e w'
def RetInv (w : World) (p : List Int) (e : Ending) (w' : World) : Prop := ∃ q, IsInv p q ∧ RetInts w q 0 e w'

end Go.Proofs.Ytaklchehamkgcaa
