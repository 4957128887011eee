/-
  Several slices known at once; what a law over permutations takes and gives.
-/
import Derived.Test.YtaklchehamkgcaaGen
import Derived.Test.YtaklchehamkgcaaPerms
import Derived.Test.YtaklchehamkgcaaGrp
namespace Go.Proofs.Ytaklchehamkgcaa
open Go.RowKit

theorem permErr_of {p : List Int} (h : IsPerm p) (hl : p.length ≤ 10) : permErr p = 0 := permErr_ok.2 ⟨hl, h⟩

/-- A permutation of m numbers comes back, in new memory. -/
def RetPerm (w : World) (m : Nat) (e : Ending) (w' : World) : Prop := ∃ A c p, e = .returned (.slice A m c) ∧ IsPerm p ∧ Ints w' A m p ∧ Cap m c ∧ Below w.heap.size w w'

/-- A list of n numbers comes back with OK. -/
def RetP (w : World) (n : Nat) (ys : List Int) (e : Ending) (w' : World) : Prop := ∃ A c, e = .returned (.tuple #[.slice A n c, .int .i64 0]) ∧ Ints w' A n ys ∧ Cap n c ∧ Below w.heap.size w w'

def RetPInv (w : World) (n : Nat) (p : List Int) (e : Ending) (w' : World) : Prop := ∃ q, IsInv p q ∧ RetP w n q e w'

/-! The same contracts, the world told by 'Below' alone. -/
end Go.Proofs.Ytaklchehamkgcaa
