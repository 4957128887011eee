/-
  A row of uint16s that the call itself has made. Nothing of the program is proved here.
-/
import Derived.Test.YtlclmmolbhnpgaaBase
import Derived.Laws.OwnMore
import Derived.Deep.OwnRows
namespace Go.Proofs.Ytlclmmolbhnpgaa
open Go.RowKit

def enc16 (n : Nat) : Value := .int .u16 (n : Int)
namespace U16
variable {w w' : World} {g cap : Nat} {xs : List Nat}
end U16

/-- The first k are set. -/
def part16 (f : Nat → Nat) (n k : Nat) : List Nat := (List.range n).map (fun i => if i < k then f i else 0)
theorem length_part16 (f : Nat → Nat) (n k : Nat) : (part16 f n k).length = n := by simp [part16]
theorem getD_part16 {f : Nat → Nat} {n k i : Nat} (hi : i < n) : (part16 f n k).getD i 0 = if i < k then f i else 0 := by
  simp [part16, List.getD_eq_getElem?_getD, hi]
theorem part16_zero (f : Nat → Nat) (n : Nat) : part16 f n 0 = List.replicate n 0 := by
  apply List.ext_getElem (by simp [part16])
  intro i h1 h2
  simp [part16]
theorem part16_step (f : Nat → Nat) (n k : Nat) : (part16 f n k).set k (f k) = part16 f n (k + 1) := by
  apply List.ext_getElem (by simp [part16])
  intro i h1 h2
  rw [List.getElem_set]
  by_cases h : k = i
  · subst h
    simp [part16]
  · simp only [if_neg h, part16, List.getElem_map, List.getElem_range]
    by_cases h3 : i < k
    · rw [if_pos h3, if_pos (by omega)]
    · rw [if_neg h3, if_neg (by omega)]
theorem part16_all (f : Nat → Nat) (n : Nat) : part16 f n n = (List.range n).map f := by
  apply List.map_congr_left
  intro i hi
  rw [if_pos (List.mem_range.1 hi)]

end Go.Proofs.Ytlclmmolbhnpgaa
