/-
  math/bits.Len at small numbers; slices.pdqsortCmpFunc, slices.SortFunc up to twelve numbers.
-/
import Derived.Test.YtaklchehamkgcaaSortF
namespace Go.Proofs.Ytaklchehamkgcaa
open Go.RowKit

def SomeInt (w : World) (e : Ending) (w' : World) : Prop := ∃ r : Int, e = .returned (.int .i64 r) ∧ w = w'

set_option maxHeartbeats 1600000 in
set_option maxRecDepth 100000 in
theorem len64_small (x : Int) (w : World) (h0 : 0 ≤ x) (h1 : x ≤ 12) : Calls Try.prog 49 #[.int .u64 x] w (SomeInt w) := by
  have hx : x = 0 ∨ x = 1 ∨ x = 2 ∨ x = 3 ∨ x = 4 ∨ x = 5 ∨ x = 6 ∨ x = 7 ∨ x = 8 ∨ x = 9 ∨ x = 10 ∨ x = 11 ∨ x = 12 := by omega
  rcases hx with rfl | rfl | rfl | rfl | rfl | rfl | rfl | rfl | rfl | rfl | rfl | rfl | rfl
  all_goals
    clear h0 h1
    go_enter Try.func49, Try.ntmps49
    go_wp2
    go_ret
    exact ⟨_, rfl, rfl⟩

set_option maxHeartbeats 400000 in
theorem len_small (x : Int) (w : World) (h0 : 0 ≤ x) (h1 : x ≤ 12) : Calls Try.prog 30 #[.int .u64 x] w (SomeInt w) := by
  go_enter Try.func30, Try.ntmps30
  go_wp2_with fail
  refine (len64_small x _ h0 h1).mono ?_
  rintro e w' ⟨r, rfl, rfl⟩
  go_wp2
  go_ret
  exact ⟨_, rfl, rfl⟩

/-- Nothing to put in order. -/
def RetNone (w : World) (e : Ending) (w' : World) : Prop := e = .returned (.tuple #[]) ∧ w = w'

/-- The slice's numbers have been put in order, in place. -/
def RetSorted (r : Int → Int → Prop) (w : World) (base : Nat) (v : Value) (xs : List Int) (e : Ending) (w' : World) : Prop :=
  e = .returned (.tuple #[]) ∧ ∃ ys, OwnInts w' base v ys ∧ ys.Perm xs ∧ SortedTo r ys ys.length ∧ w.grownBy w' v.ownBlock

/-! ### perm.Cycles -/

/-- The lengths of the cycles, the greatest first. -/
def IsCycles (p : List Int) (ys : List Int) : Prop := ys.Perm (cycL p p.length) ∧ SortedTo falls ys ys.length

def RetCyclesO (w : World) (p : List Int) (e : Ending) (w' : World) : Prop := ∃ ys, IsCycles p ys ∧ RetOwnE w ys 0 e w'
def RetCycles (w : World) (p : List Int) (e : Ending) (w' : World) : Prop := ∃ ys, IsCycles p ys ∧ RetInts w ys 0 e w'

theorem below_grown {B : Nat} {a w w' : World} {row : Option Nat} (h : Below B a w) (hg : w.grownBy w' row) (hB : B ≤ w.heap.size) (hr : ∀ k, row = some k → B ≤ k) : Below B a w' := h.grown hg hB hr

end Go.Proofs.Ytaklchehamkgcaa
