/-
  Rows of ints that come back: words and plain facts.
-/
import Derived.Test.YtaklchehamkgcaaBase
import Derived.Deep.OwnRows
namespace Go.Proofs.Ytaklchehamkgcaa
open Go.RowKit

theorem infoInt : (Try.prog.info? 3).map (fun i => (i.zero, i.size, i.bytes)) = some (some (.int .i64 0), 1, 8) := by kernel_rfl

/-- A list and an error come back; nothing that was there has turned. -/
def RetInts (w : World) (ys : List Int) (er : Int) (e : Ending) (w' : World) : Prop :=
  ∃ A n c, e = .returned (.tuple #[.slice A n c, .int .i64 er]) ∧ Below w.heap.size w w' ∧ Ints w' A n ys ∧ Cap n c

theorem ints_of_row {w : World} {g t n : Nat} {f : Nat → Value} {xs : List Int} (h : w.rowIs g t n f) (hl : xs.length = n) (hf : ∀ j, j < n → f j = .int .i64 (xs.getD j 0)) :
    Ints w (some ⟨g, 0, none⟩) n xs :=
  ⟨hl, fun _ => ⟨g, 0, rfl, h.lt, fun j hj => by rw [Nat.zero_add, h.cell hj, hf j hj]⟩⟩

/-- What the product holds after k rounds. -/
def partCell (ys : List Int) (k j : Nat) : Value := if j < k then .int .i64 (ys.getD j 0) else .int .i64 0

theorem partCell_step (ys : List Int) (k j : Nat) : (if j = k then Value.int .i64 (ys.getD k 0) else partCell ys k j) = partCell ys (k + 1) j := by
  unfold partCell
  by_cases h : j = k
  · subst h
    rw [if_pos rfl, if_pos (by omega)]
  · rw [if_neg h]
    by_cases h2 : j < k
    · rw [if_pos h2, if_pos (by omega)]
    · rw [if_neg h2, if_neg (by omega)]

end Go.Proofs.Ytaklchehamkgcaa
