/-
  package rank: Count, Code, Of.
-/
import Derived.Test.YtaklchehamkgcaaArr
import Derived.Test.YtaklchehamkgcaaRankM
import Derived.Test.YtaklchehamkgcaaOrder
namespace Go.Proofs.Ytaklchehamkgcaa
open Go.RowKit

/-! ### Count -/

theorem fact_mul (k : Nat) : ((fact (k + 1) : Nat) : Int) * ((k : Int) + 2) = ((fact (k + 2) : Nat) : Int) := by
  rw [show fact (k + 2) = (k + 2) * fact (k + 1) from rfl, Int.natCast_mul, Int.mul_comm]
  rfl

set_option maxHeartbeats 400000 in
theorem count_ok (n : Nat) (w : World) (hn : n ≤ 10) :
    Calls Try.prog 19 #[.int .i64 (n : Int)] w fun e w' => e = .returned (.tuple #[.int .i64 ((fact n : Nat) : Int), .int .i64 0]) ∧ w = w' := by
  go_enter Try.func19, Try.ntmps19
  go_wp2
  go_loopg [4, 5] n (fun g u s wr => ∃ k : Nat, (k + 1 ≤ n ∨ k = 0) ∧ n - k ≤ g ∧ u = .int .i64 ((fact (k + 1) : Nat) : Int) ∧ s = .int .i64 ((k : Int) + 2) ∧ w = wr)
  case atStart => exact ⟨0, Or.inr rfl, by omega, rfl, rfl, rfl⟩
  case round =>
    obtain ⟨k, hk, hg, rfl, rfl, rfl⟩ := hrel
    by_cases hlt : k + 2 ≤ n
    · have HM := hid (fact_mul k)
      have h1 : ((fact (k + 1) : Nat) : Int) * ((k : Int) + 2) ≤ 3628800 := by have := fact_ten (n := k + 2) (by omega); rw [HM.out]; omega
      have h0 : 0 ≤ ((fact (k + 1) : Nat) : Int) * ((k : Int) + 2) := by rw [HM.out]; omega
      generalize fact (k + 1) = F at HM h1 h0 ⊢
      go_wp2
      go_roundg (n - (k + 1))
      case measure => omega
      case rel => exact ⟨k + 1, by omega, by omega, by rw [HM.out], by go_num, rfl⟩
    · have HE : Hid (fact (k + 1) = fact n) := by
        rcases hk with h | h
        · rw [show n = k + 1 by omega]; exact rfl
        · subst h
          have : n = 0 ∨ n = 1 := by omega
          rcases this with rfl | rfl <;> rfl
      have h2 : ¬ (k : Int) + 2 ≤ (n : Int) := by omega
      rw [HE.out]
      go_wp2
      go_ret2
      exact ⟨rfl, rfl⟩

theorem count_bad (n : Int) (w : World) (hn : n < 0 ∨ 10 < n) :
    Calls Try.prog 19 #[.int .i64 n] w fun e w' => e = .returned (.tuple #[.int .i64 0, .int .i64 1]) ∧ w = w' := by
  rcases hn with h | h
  all_goals
    go_enter Try.func19, Try.ntmps19
    go_wp2
    go_ret2
    exact ⟨rfl, rfl⟩

/-! ### Code -/

/-- The cells of the code when k numbers are done, and m behind the next one are looked at. -/
def cellK (p : List Int) (k m j : Nat) : Value := .int .i64 (if j < k then (codeL p).getD j 0 else if j = k then (less (p.getD k 0) ((p.drop (k + 1)).take m) : Int) else 0)
theorem cellK_start (p : List Int) (j : Nat) : Value.int .i64 0 = cellK p 0 0 j := by
  unfold cellK
  rw [if_neg (by omega)]
  split <;> rfl
theorem take_drop_snoc' {p : List Int} {a m : Nat} (h : a + m < p.length) : (p.drop a).take (m + 1) = (p.drop a).take m ++ [p.getD (a + m) 0] := by
  rw [take_snoc (by rw [List.length_drop]; omega)]
  congr 1
  simp [List.getD_eq_getElem?_getD]
theorem less_step {p : List Int} {k m : Nat} (h : k + 1 + m < p.length) : less (p.getD k 0) ((p.drop (k + 1)).take (m + 1)) = less (p.getD k 0) ((p.drop (k + 1)).take m) + if p.getD (k + 1 + m) 0 < p.getD k 0 then 1 else 0 := by
  rw [take_drop_snoc' h, less_append, less_cons]
  simp [less]
theorem cellK_yes {p : List Int} {k m : Nat} (h : k + 1 + m < p.length) (hlt : p.getD (k + 1 + m) 0 < p.getD k 0) (j : Nat) :
    (if j = k then Value.int .i64 ((less (p.getD k 0) ((p.drop (k + 1)).take m) : Int) + 1) else cellK p k m j) = cellK p k (m + 1) j := by
  unfold cellK
  by_cases e : j = k
  · subst e
    rw [if_pos rfl, if_neg (by omega), if_pos rfl, less_step h, if_pos hlt]
    rfl
  · rw [if_neg e, if_neg e, if_neg e]
theorem cellK_no {p : List Int} {k m : Nat} (h : k + 1 + m < p.length) (hlt : ¬ p.getD (k + 1 + m) 0 < p.getD k 0) (j : Nat) : cellK p k m j = cellK p k (m + 1) j := by
  unfold cellK
  rw [less_step h, if_neg hlt]
  rfl
theorem cellK_end {p : List Int} {k m : Nat} (hk : k < p.length) (h : k + 1 + m = p.length) (j : Nat) : cellK p k m j = cellK p (k + 1) 0 j := by
  unfold cellK
  rw [List.take_of_length_le (by rw [List.length_drop]; omega), List.take_zero, ← getD_codeL p k hk]
  by_cases h1 : j < k
  · rw [if_pos h1, if_pos (by omega)]
  · rw [if_neg h1]
    by_cases h2 : j = k
    · subst h2
      rw [if_pos rfl, if_pos (by omega)]
    · rw [if_neg h2, if_neg (by omega)]
      split <;> rfl

/-! ### Of -/

end Go.Proofs.Ytaklchehamkgcaa
