/-
  Euler's five-sided numbers: plain facts, reckoned.
-/
import Derived.Test.YteegddpoekphoaaPartN
namespace Go.Proofs.Yteegddpoekphoaa

def allRow : List Nat := [1, 1, 2, 3, 5, 7, 11, 15, 22, 30, 42, 56, 77, 101, 135, 176, 231, 297, 385, 490, 627, 792, 1002, 1255, 1575, 1958, 2436, 3010, 3718, 4565, 5604, 6842, 8349, 10143, 12310, 14883, 17977, 21637, 26015, 31185, 37338]
theorem allRow_eq : pcntTab 41 40 = allRow := by decide +kernel
theorem pcnt_all {m : Nat} (h : m ≤ 40) : pcnt m m = allRow.getD m 0 := by
  rw [← pcnt_same h, pcnt_tab (L := 41) (by omega), allRow_eq]

/-- All sums of n - five, if there is that much. -/
def fiveTerm (f : Nat → Nat) (n five : Nat) : Int := if five ≤ n then ((f (n - five) : Nat) : Int) else 0
def fiveSum (f : Nat → Nat) (n : Nat) : Nat → Int
  | 0 => 0
  | i + 1 => if i % 2 = 0 then fiveSum f n i + fiveTerm f n ((i + 1) * (3 * i + 2) / 2) + fiveTerm f n ((i + 1) * (3 * i + 4) / 2) else fiveSum f n i - fiveTerm f n ((i + 1) * (3 * i + 2) / 2) - fiveTerm f n ((i + 1) * (3 * i + 4) / 2)
theorem fiveTerm_congr {f g : Nat → Nat} {n : Nat} (h : ∀ m, m ≤ n → f m = g m) (p : Nat) : fiveTerm f n p = fiveTerm g n p := by
  unfold fiveTerm
  split
  · rw [h _ (by omega)]
  · rfl
theorem fiveSum_congr {f g : Nat → Nat} {n : Nat} (h : ∀ m, m ≤ n → f m = g m) : ∀ i, fiveSum f n i = fiveSum g n i
  | 0 => rfl
  | i + 1 => by rw [fiveSum, fiveSum, fiveSum_congr h i, fiveTerm_congr h, fiveTerm_congr h]
theorem five_tab : ((List.range 41).all fun n => (List.range 6).all fun i => decide (0 < n ∧ n < (i + 1) * (3 * i + 2) / 2 → fiveSum (fun m => allRow.getD m 0) n i = ((allRow.getD n 0 : Nat) : Int))) = true := by decide +kernel
/-- EULER, of numbers up to 40. -/
theorem five_all {n i : Nat} (h0 : 0 < n) (hn : n ≤ 40) (hi : i ≤ 5) (h : n < (i + 1) * (3 * i + 2) / 2) : fiveSum (fun m => pcnt m m) n i = ((pcnt n n : Nat) : Int) := by
  have a := List.all_eq_true.1 five_tab n (List.mem_range.2 (by omega))
  have b := List.all_eq_true.1 a i (List.mem_range.2 (by omega))
  have c := (of_decide_eq_true b) ⟨h0, h⟩
  rw [pcnt_all hn, ← c]
  exact fiveSum_congr (fun m hm => pcnt_all (by omega)) i

theorem fiveTerm_pos {n p m : Nat} (h : n = m + p) : fiveTerm (fun m => pcnt m m) n p = ((pcnt m m : Nat) : Int) := by
  unfold fiveTerm
  rw [if_pos (by omega), show n - p = m by omega]
theorem fiveTerm_neg {n p : Nat} (h : n < p) : fiveTerm (fun m => pcnt m m) n p = 0 := by
  unfold fiveTerm
  rw [if_neg (by omega)]
end Go.Proofs.Yteegddpoekphoaa
