/-
  The library's sort at []uint16: what every part of it does: the row holds the same numbers in another order. cmp.Less; reverseRangeOrdered; insertionSortOrdered.
-/
import Derived.Test.YtlclmmolbhnpgaaOwn16
namespace Go.Proofs.Ytlclmmolbhnpgaa
open Go.RowKit

theorem grown_refl (a : World) (row : Option Nat) : a.grownBy a row := ⟨rfl, rfl, rfl, Nat.le_refl _, fun _ _ _ => rfl⟩
theorem grown_drewN {a w : World} {row : Option Nat} (h : a.grownBy w row) (n : Nat) : a.grownBy (w.drewN n) row := ⟨h.os, h.tape, h.output, h.size, h.block⟩
theorem grown_set {a w : World} {g : Nat} (h : a.grownBy w (some g)) (j : Nat) (u : Value) : a.grownBy (w.setCell ⟨g, j, none⟩ u) (some g) :=
  ⟨h.os, h.tape, h.output, by simpa [World.setCell] using h.size, fun i hi hne => (Below.heap_setCell w ⟨g, j, none⟩ u i (by rintro rfl; exact hne rfl)).trans (h.block i hi hne)⟩
theorem grown_trans {a b c : World} {row : Option Nat} (h : a.grownBy b row) (k : b.grownBy c row) : a.grownBy c row :=
  ⟨k.os.trans h.os, k.tape.trans h.tape, k.output.trans h.output, Nat.le_trans h.size k.size, fun i hi hne => (k.block i (Nat.lt_of_lt_of_le hi h.size) hne).trans (h.block i hi hne)⟩
theorem grown_below {a b c : World} {row : Option Nat} (h : a.grownBy b row) (k : Below b.heap.size b c) : a.grownBy c row :=
  ⟨k.os.trans h.os, k.tape.trans h.tape, k.output.trans h.output, Nat.le_trans h.size k.size, fun i hi hne => (k.block i (Nat.lt_of_lt_of_le hi h.size)).trans (h.block i hi hne)⟩

/-- Two places of a list change their numbers. -/
def swapN (ys : List Nat) (i j : Nat) : List Nat := (ys.set i (ys.getD j 0)).set j (ys.getD i 0)
theorem swapN_perm {ys : List Nat} {i j : Nat} (hi : i < ys.length) (hj : j < ys.length) : (swapN ys i j).Perm ys := by
  unfold swapN
  rw [List.getD_eq_getElem?_getD, List.getD_eq_getElem?_getD, List.getElem?_eq_getElem hi, List.getElem?_eq_getElem hj]
  exact List.set_set_perm hi hj

namespace Mix
variable {w0 w1 w2 wr : World} {g cap : Nat} {xs ys : List Nat}
end Mix
end Go.Proofs.Ytlclmmolbhnpgaa
