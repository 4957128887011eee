/-
  The library's sort at []uint16: order2Ordered, medianOrdered, medianAdjacentOrdered, choosePivotOrdered.
-/
import Derived.Test.YtlclmmolbhnpgaaSixG
namespace Go.Proofs.Ytlclmmolbhnpgaa
open Go.RowKit

/-- Block s is one int, c. -/
def Cnt (w : World) (s c : Nat) : Prop := w.rowIs s 3 1 (fun _ => .int .i64 (c : Int))
theorem Cnt.cell {w : World} {s c : Nat} (h : Cnt w s c) : w.cell? ⟨s, 0, none⟩ = some (.int .i64 (c : Int)) := World.rowIs.cell h (by omega)
theorem Cnt.frozen {w : World} {s c : Nat} (h : Cnt w s c) : w.frozen? ⟨s, 0, none⟩ = false := World.rowIs.frozen h 0
theorem Cnt.set {w : World} {s c : Nat} (h : Cnt w s c) (d : Nat) : Cnt (w.setCell ⟨s, 0, none⟩ (.int .i64 (d : Int))) s d :=
  (World.rowIs.set h 0 (.int .i64 (d : Int))).congr fun j hj => by rw [if_pos (by omega)]
theorem Cnt.drewN {w : World} {s c : Nat} (h : Cnt w s c) (k : Nat) : Cnt (w.drewN k) s c := h
theorem Cnt.drew {w : World} {s c : Nat} (h : Cnt w s c) : Cnt w.drew s c := h
theorem Cnt.new (w : World) : Cnt (w.alloc (.cells #[.int .i64 0] 3)) w.heap.size 0 :=
  World.rowIs_alloc w #[.int .i64 0] 3 _ (fun i hi => by
    have h0 : i = 0 := by simpa using hi
    subst h0
    rfl)

/-- The two places in one order or the other; the count may have risen; nothing else has turned. -/
def RetOrd (w : World) (s c a b : Nat) (e : Ending) (w' : World) : Prop :=
  ∃ x y d : Nat, (x = a ∧ y = b ∨ x = b ∧ y = a) ∧ d ≤ c + 1 ∧ e = .returned (.tuple #[.int .i64 (x : Int), .int .i64 (y : Int)]) ∧ Cnt w' s d ∧ w.grownBy w' (some s)

/-- A place between lo and hi; the count may have risen; nothing else has turned. -/
def RetMed (w : World) (s lo hi : Nat) (e : Ending) (w' : World) (top : Nat) : Prop :=
  ∃ m d : Nat, lo ≤ m ∧ m < hi ∧ d ≤ top ∧ e = .returned (.int .i64 (m : Int)) ∧ Cnt w' s d ∧ w.grownBy w' (some s)

/-- A place of the range, and a hint; all that was there is as it was. -/
def RetPivot (w : World) (a b : Nat) (e : Ending) (w' : World) : Prop :=
  ∃ m t : Nat, a ≤ m ∧ m < b ∧ t ≤ 2 ∧ e = .returned (.tuple #[.int .i64 (m : Int), .int .i64 (t : Int)]) ∧ Below w.heap.size w w'
theorem below_grown {w w1 w2 : World} (h : Below w.heap.size w w1) (k : w1.grownBy w2 (some w.heap.size)) : Below w.heap.size w w2 :=
  h.trans ⟨k.os, k.tape, k.output, k.size, fun i hi => k.block i (Nat.lt_of_lt_of_le hi h.size) (fun e => by injection e with e; omega)⟩

end Go.Proofs.Ytlclmmolbhnpgaa
