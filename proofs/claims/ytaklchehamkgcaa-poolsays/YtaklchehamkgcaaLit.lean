/-
  A slice that is written out.
-/
import Derived.Test.YtaklchehamkgcaaBase
namespace Go.Proofs.Ytaklchehamkgcaa
open Go.RowKit

theorem ints_lit (w : World) (cs : Array Value) (t n : Nat) (xs : List Int) (h : cs = (xs.map (Value.int .i64)).toArray) (hn : xs.length = n) : Ints (w.alloc (.cells cs t)) (some ⟨w.heap.size, 0, none⟩) n xs := by
  subst h
  subst hn
  refine ⟨rfl, fun _ => ⟨w.heap.size, 0, rfl, by simp, fun j hj => ?_⟩⟩
  rw [cell_of_row (w.alloc _) w.heap.size (0 + j) _ t (0, 0) (heap_alloc_new w _)]
  simp [List.getD_eq_getElem?_getD, List.getElem?_eq_getElem hj]

theorem below_alloc (w : World) (o : Obj) : Below w.heap.size w (w.alloc o) := (Below.refl _ _).alloc (Nat.le_refl _) _

theorem below_step {B : Nat} {a b c : World} (h : Below B a b) (hB : B ≤ a.heap.size) (k : Below b.heap.size b c) : Below B a c := h.trans (k.mono (Nat.le_trans hB h.size))

end Go.Proofs.Ytaklchehamkgcaa
