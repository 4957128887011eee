/-
  slices.SortFunc at []int with perm.Cycles's comparison, up to twelve numbers: in falling order.
-/
import Derived.Test.YtaklchehamkgcaaRst
import Derived.Test.YtaklchehamkgcaaCmp
import Derived.Test.YtaklchehamkgcaaIns
namespace Go.Proofs.Ytaklchehamkgcaa
open Go.RowKit

/-- The slice's numbers have been put in order; nothing else that was there has turned. -/
def RetSort (r : Int → Int → Prop) (w : World) (base g n cap : Nat) (xs : List Int) (e : Ending) (w' : World) : Prop :=
  e = .returned (.tuple #[]) ∧ ∃ ys, OwnInts w' base (.slice (some ⟨g, 0, none⟩) n cap) ys ∧ ys.Perm xs ∧ SortedTo r ys n ∧ w.grownBy w' (some g)

def falls (a b : Int) : Prop := b ≤ a

end Go.Proofs.Ytaklchehamkgcaa
