/-
  Sums of a number (partitions): plain facts. No program, no memory.
-/
import Derived.Test.YtcnljljgdkjndaaRst
namespace Go.Proofs.Ytcnljljgdkjndaa

/-- P18: what is wrong at place k. -/
def partErrAt (xs : List Int) (k : Nat) : Int :=
  if xs.getD k 0 < 1 ∨ 40 < xs.getD k 0 then 1 else if 0 < k ∧ xs.getD (k - 1) 0 < xs.getD k 0 then 3 else if 40 < (xs.take (k + 1)).sum then 2 else 0
/-- P18: the first thing that is wrong. -/
def partErr (xs : List Int) : Int :=
  match (List.range xs.length).find? (fun k => !(partErrAt xs k == 0)) with
  | some k => partErrAt xs k
  | none => 0

def IsPart (xs : List Int) : Prop := ∀ j, j < xs.length → partErrAt xs j = 0

theorem partErr_at {xs : List Int} {k : Nat} {e : Int} (hk : k < xs.length) (hall : ∀ j, j < k → partErrAt xs j = 0) (he : partErrAt xs k = e) (h0 : e ≠ 0) : partErr xs = e := by
  have : (List.range xs.length).find? (fun k => !(partErrAt xs k == 0)) = some k := by
    rw [List.find?_range_eq_some]
    refine ⟨by simp [he, h0], by simpa using hk, fun j hj => by simp [hall j hj]⟩
  unfold partErr
  rw [this]
  exact he
theorem partErr_ok {xs : List Int} (h : IsPart xs) : partErr xs = 0 := by
  have : (List.range xs.length).find? (fun k => !(partErrAt xs k == 0)) = none := by
    rw [List.find?_range_eq_none]
    intro j hj
    simp [h j hj]
  unfold partErr
  rw [this]
theorem isPart_of {xs : List Int} (h : partErr xs = 0) : IsPart xs := by
  intro j hj
  rcases hf : (List.range xs.length).find? (fun k => !(partErrAt xs k == 0)) with _ | k
  · rw [List.find?_range_eq_none] at hf
    simpa using hf j hj
  · unfold partErr at h
    rw [hf] at h
    simp only at h
    rw [List.find?_range_eq_some] at hf
    simp [h] at hf
theorem partErr_iff {xs : List Int} : partErr xs = 0 ↔ IsPart xs := ⟨isPart_of, partErr_ok⟩

theorem partErrAt_zero {xs : List Int} {k : Nat} (h : partErrAt xs k = 0) : 1 ≤ xs.getD k 0 ∧ xs.getD k 0 ≤ 40 ∧ (0 < k → xs.getD k 0 ≤ xs.getD (k - 1) 0) ∧ (xs.take (k + 1)).sum ≤ 40 := by
  unfold partErrAt at h
  split at h
  · cases h
  · split at h
    · cases h
    · split at h
      · cases h
      · refine ⟨by omega, by omega, fun h0 => by omega, by omega⟩
theorem partErrAt_mk {xs : List Int} {k : Nat} (h1 : 1 ≤ xs.getD k 0) (h2 : xs.getD k 0 ≤ 40) (h3 : 0 < k → xs.getD k 0 ≤ xs.getD (k - 1) 0) (h4 : (xs.take (k + 1)).sum ≤ 40) : partErrAt xs k = 0 := by
  unfold partErrAt
  rw [if_neg (by omega), if_neg (fun h => by have := h3 h.1; omega), if_neg (by omega)]
theorem partErr_codes (xs : List Int) : 0 ≤ partErr xs ∧ partErr xs ≤ 3 := by
  have h : ∀ k, 0 ≤ partErrAt xs k ∧ partErrAt xs k ≤ 3 := by
    intro k
    unfold partErrAt
    split
    · omega
    · split
      · omega
      · split <;> omega
  unfold partErr
  split
  · exact h _
  · omega

theorem sum_take_snoc {xs : List Int} {k : Nat} (hk : k < xs.length) : (xs.take (k + 1)).sum = (xs.take k).sum + xs.getD k 0 := by
  rw [take_snoc hk, List.sum_append]
  simp

namespace IsPart
variable {xs : List Int}
theorem ge (h : IsPart xs) {j : Nat} (hj : j < xs.length) : 1 ≤ xs.getD j 0 := (partErrAt_zero (h j hj)).1
theorem le (h : IsPart xs) {j : Nat} (hj : j < xs.length) : xs.getD j 0 ≤ 40 := (partErrAt_zero (h j hj)).2.1
theorem falls (h : IsPart xs) {j : Nat} (hj : j + 1 < xs.length) : xs.getD (j + 1) 0 ≤ xs.getD j 0 := (partErrAt_zero (h (j + 1) hj)).2.2.1 (by omega)
theorem mono (h : IsPart xs) {i j : Nat} (hij : i ≤ j) (hj : j < xs.length) : xs.getD j 0 ≤ xs.getD i 0 := by
  induction j with
  | zero => rw [show i = 0 by omega]; exact Int.le_refl _
  | succ j ih =>
    rcases Nat.lt_or_ge j i with h1 | h1
    · rw [show i = j + 1 by omega]; exact Int.le_refl _
    · exact Int.le_trans (h.falls hj) (ih h1 (by omega))
theorem sum_take (h : IsPart xs) (k : Nat) : (k : Int) ≤ (xs.take k).sum ∨ xs.length < k := by
  induction k with
  | zero => left; simp
  | succ k ih =>
    rcases Nat.lt_or_ge k xs.length with h1 | h1
    · left
      rw [sum_take_snoc h1]
      have := h.ge h1
      rcases ih with h2 | h2
      · omega
      · omega
    · right; omega
theorem sum_le (h : IsPart xs) : xs.sum ≤ 40 := by
  rcases Nat.eq_zero_or_pos xs.length with h0 | h0
  · have : xs = [] := List.eq_nil_of_length_eq_zero h0
    subst this
    simp
  · have := (partErrAt_zero (h (xs.length - 1) (by omega))).2.2.2
    rwa [show xs.length - 1 + 1 = xs.length by omega, List.take_of_length_le (Nat.le_refl _)] at this
theorem length_le (h : IsPart xs) : xs.length ≤ 40 := by
  have h1 := h.sum_take xs.length
  rw [List.take_of_length_le (Nat.le_refl _)] at h1
  have := h.sum_le
  omega
end IsPart

/-- What makes a sum, told at once. -/
theorem isPart_mk {xs : List Int} (h1 : ∀ j, j < xs.length → 1 ≤ xs.getD j 0) (h2 : ∀ j, j + 1 < xs.length → xs.getD (j + 1) 0 ≤ xs.getD j 0) (h3 : xs.sum ≤ 40) : IsPart xs := by
  have hs : ∀ d k, k + d = xs.length → (xs.take k).sum + (d : Int) ≤ xs.sum := by
    intro d
    induction d with
    | zero => intro k hk; rw [List.take_of_length_le (by omega)]; simp
    | succ d ih =>
      intro k hk
      have := ih (k + 1) (by omega)
      rw [sum_take_snoc (by omega)] at this
      have := h1 k (by omega)
      omega
  have hp : ∀ k, k ≤ xs.length → 0 ≤ (xs.take k).sum := by
    intro k
    induction k with
    | zero => intro _; simp
    | succ k ih =>
      intro hk
      rw [sum_take_snoc (by omega)]
      have := h1 k (by omega)
      have := ih (by omega)
      omega
  intro j hj
  have a := hs (xs.length - (j + 1)) (j + 1) (by omega)
  have b := hp j (by omega)
  have c := sum_take_snoc (xs := xs) (k := j) hj
  refine partErrAt_mk (h1 j hj) (by omega) (fun h0 => ?_) (by omega)
  have := h2 (j - 1) (by omega)
  rwa [show j - 1 + 1 = j by omega] at this

end Go.Proofs.Ytcnljljgdkjndaa
