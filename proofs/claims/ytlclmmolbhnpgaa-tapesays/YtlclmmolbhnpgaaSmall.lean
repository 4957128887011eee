/-
  The library's slices.IsSorted at []int; the verifier's castkeep.good.
-/
import Derived.Test.YtlclmmolbhnpgaaRst
namespace Go.Proofs.Ytlclmmolbhnpgaa
open Go.RowKit

/-- Does no number fall? -/
def sortedB (xs : List Int) : Bool := (List.range (xs.length - 1)).all (fun i => decide (xs.getD i 0 ≤ xs.getD (i + 1) 0))

theorem sortedB_true {xs : List Int} : sortedB xs = true ↔ ∀ i, i + 1 < xs.length → xs.getD i 0 ≤ xs.getD (i + 1) 0 := by
  simp only [sortedB, List.all_eq_true, List.mem_range, decide_eq_true_eq]
  exact ⟨fun h i hi => h i (by omega), fun h i hi => h i (by omega)⟩

theorem quiet_left {P : Program} {f : FuncId} {args : Array Value} {w : World} {v : Value} (h : Calls P f args w fun e w' => e = .returned v ∧ w = w') : Calls P f args w fun e w'' => e = .returned v ∧ w'' = w :=
  h.mono fun _ _ ⟨he, hw⟩ => ⟨he, hw.symm⟩

end Go.Proofs.Ytlclmmolbhnpgaa
