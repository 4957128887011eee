/-
  perm.cycleLengths: the lengths of all cycles, by their least numbers.
-/
import Derived.Test.YtdcmknnmdiocdaaCyc
import Derived.Test.YtdcmknnmdiocdaaDeal
namespace Go.Proofs.Ytdcmknnmdiocdaa
open Go.RowKit

theorem seen0 (w : World) (p : List Int) : (w.alloc (Obj.cells #[Value.bool false, Value.bool false, Value.bool false, Value.bool false, Value.bool false, Value.bool false,
      Value.bool false, Value.bool false, Value.bool false, Value.bool false] 50)).rowIs w.heap.size 50 10 (fun j => .bool (snB p 0 0 j)) := by
  refine World.rowIs_alloc w _ _ _ fun i hi => ?_
  simp only [snB_zero]
  match i, hi with
  | 0, _ | 1, _ | 2, _ | 3, _ | 4, _ | 5, _ | 6, _ | 7, _ | 8, _ | 9, _ => rfl

theorem rowIs_below {w w' : World} {B b t n : Nat} {f : Nat → Value} (h : w.rowIs b t n f) (hb : Below B w w') (hlt : b < B) : w'.rowIs b t n f := h.of_block (hb.block b hlt)

end Go.Proofs.Ytdcmknnmdiocdaa
