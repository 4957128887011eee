/-
  math/bits.Len at small numbers; slices.pdqsortCmpFunc, slices.SortFunc up to twelve numbers.
-/
import Derived.Test.YtcaenahhfhbiaaaSortF
namespace Go.Proofs.Ytcaenahhfhbiaaa
open Go.RowKit

def SomeInt (w : World) (e : Ending) (w' : World) : Prop := ∃ r : Int, e = .returned (.int .i64 r) ∧ w = w'

/-- Nothing to put in order. -/
def RetNone (w : World) (e : Ending) (w' : World) : Prop := e = .returned (.tuple #[]) ∧ w = w'

/-- The slice's numbers have been put in order, in place. -/
def RetSorted (r : Int → Int → Prop) (w : World) (base : Nat) (v : Value) (xs : List Int) (e : Ending) (w' : World) : Prop :=
  e = .returned (.tuple #[]) ∧ ∃ ys, OwnInts w' base v ys ∧ ys.Perm xs ∧ SortedTo r ys ys.length ∧ w.grownBy w' v.ownBlock

/-! ### perm.Cycles -/

/-- The lengths of the cycles, the greatest first. -/
def IsCycles (p : List Int) (ys : List Int) : Prop := ys.Perm (cycL p p.length) ∧ SortedTo falls ys ys.length

def RetCycles (w : World) (p : List Int) (e : Ending) (w' : World) : Prop := ∃ ys, IsCycles p ys ∧ RetInts w ys 0 e w'

theorem below_grown {B : Nat} {a w w' : World} {row : Option Nat} (h : Below B a w) (hg : w.grownBy w' row) (hB : B ≤ w.heap.size) (hr : ∀ k, row = some k → B ≤ k) : Below B a w' := h.grown hg hB hr

end Go.Proofs.Ytcaenahhfhbiaaa
