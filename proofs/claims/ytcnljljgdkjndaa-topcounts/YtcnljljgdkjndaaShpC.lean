/-
  castref.ShapesOf: by which corner the last number has; the same as by hooks.
-/
import Derived.Test.YtcnljljgdkjndaaShpB
import Derived.Test.YtcnljljgdkjndaaClone
namespace Go.Proofs.Ytcnljljgdkjndaa
open Go.RowKit

def cornerZ (xs : List Int) (i : Nat) : Prop := 0 < xs.getD i 0 ∧ (i + 1 = xs.length ∨ xs.getD (i + 1) 0 < xs.getD i 0)
instance (xs : List Int) (i : Nat) : Decidable (cornerZ xs i) := by unfold cornerZ; infer_instance
def shpSum (f : List Int → Int) (xs : List Int) : Nat → Int
  | 0 => 0
  | i + 1 => shpSum f xs i + (if cornerZ xs i then f (xs.set i (xs.getD i 0 - 1)) else 0)
def shp : Nat → List Int → Int
  | 0, _ => 1
  | n + 1, xs => shpSum (shp n) xs xs.length

theorem shpSum_bound {f : List Int → Int} {B : Int} {xs : List Int} (hf : ∀ i, 0 ≤ f (xs.set i (xs.getD i 0 - 1)) ∧ f (xs.set i (xs.getD i 0 - 1)) ≤ B) (hB : 0 ≤ B) : ∀ i : Nat, 0 ≤ shpSum f xs i ∧ shpSum f xs i ≤ (i : Int) * B
  | 0 => by simp [shpSum]
  | i + 1 => by
    have ih := shpSum_bound hf hB i
    have h1 := hf i
    rw [shpSum]
    have e : ((i + 1 : Nat) : Int) * B = (i : Int) * B + B := by rw [show ((i + 1 : Nat) : Int) = (i : Int) + 1 from rfl, Int.add_mul, Int.one_mul]
    rw [e]
    split <;> omega
theorem shp_bound : ∀ (n : Nat) (xs : List Int), xs.length ≤ 12 → 0 ≤ shp n xs ∧ shp n xs ≤ 12 ^ n
  | 0, xs, _ => by simp [shp]
  | n + 1, xs, h => by
    have hB : (0 : Int) ≤ 12 ^ n := Int.le_of_lt (Int.pow_pos (by decide))
    obtain ⟨h1, h2⟩ := shpSum_bound (f := shp n) (B := 12 ^ n) (xs := xs) (fun i => shp_bound n _ (by rw [List.length_set]; exact h)) hB xs.length
    rw [shp]
    refine ⟨h1, Int.le_trans h2 ?_⟩
    rw [Int.pow_succ, Int.mul_comm (12 ^ n)]
    exact Int.mul_le_mul_of_nonneg_right (by omega) hB
theorem pow12 {n : Nat} (h : n ≤ 12) : (12 : Int) ^ n ≤ 8916100448256 := by
  have h1 := Nat.pow_le_pow_right (show 0 < 12 by omega) h
  have h2 : ((12 ^ n : Nat) : Int) ≤ ((12 ^ 12 : Nat) : Int) := by omega
  have e4 : (12 : Int) ^ 12 = 8916100448256 := by decide
  rw [← e4]
  simpa using h2

def Pos0 (xs : List Int) : Prop := ∀ j, 0 ≤ xs.getD j 0
theorem Pos0.take_sum {xs : List Int} (h : Pos0 xs) : ∀ k, k ≤ xs.length → 0 ≤ (xs.take k).sum
  | 0, _ => by simp
  | k + 1, hk => by
    have := Pos0.take_sum h k (by omega)
    rw [sum_take_snoc (by omega)]
    have := h k
    omega
theorem Pos0.take_le {xs : List Int} (h : Pos0 xs) : ∀ d k, k + d = xs.length → (xs.take k).sum ≤ xs.sum
  | 0, k, hk => by rw [List.take_of_length_le (by omega)]; exact Int.le_refl _
  | d + 1, k, hk => by
    have := Pos0.take_le h d (k + 1) (by omega)
    rw [sum_take_snoc (by omega)] at this
    have := h k
    omega
theorem Pos0.set {xs : List Int} (h : Pos0 xs) {i : Nat} {x : Int} (hx : 0 ≤ x) : Pos0 (xs.set i x) := by
  intro j
  rw [getD_set]
  split
  · exact hx
  · exact h j
theorem sum_set {xs : List Int} {i : Nat} (hi : i < xs.length) (x : Int) : (xs.set i x).sum = xs.sum - xs.getD i 0 + x := by
  induction xs generalizing i with
  | nil => simp at hi
  | cons y l ih =>
    cases i with
    | zero => simp; omega
    | succ i =>
      rw [List.set_cons_succ, List.sum_cons, List.sum_cons, ih (by simpa using hi)]
      simp
      omega

/-! ### The same number -/
theorem shpSum_congr {f g : List Int → Int} {xs ys : List Int} : ∀ i, (∀ j, j < i → (cornerZ xs j ↔ cornerZ ys j) ∧ (cornerZ xs j → f (xs.set j (xs.getD j 0 - 1)) = g (ys.set j (ys.getD j 0 - 1)))) → shpSum f xs i = shpSum g ys i
  | 0, _ => rfl
  | i + 1, h => by
    rw [shpSum, shpSum, shpSum_congr i (fun j hj => h j (by omega))]
    obtain ⟨h1, h2⟩ := h i (by omega)
    by_cases hc : cornerZ xs i
    · rw [if_pos hc, if_pos (h1.1 hc), h2 hc]
    · rw [if_neg hc, if_neg (fun h => hc (h1.2 h))]
theorem getD_snoc0 (xs : List Int) (j : Nat) : (xs ++ [0]).getD j 0 = xs.getD j 0 := by
  rw [List.getD_eq_getElem?_getD, List.getD_eq_getElem?_getD]
  rcases Nat.lt_or_ge j xs.length with h | h
  · rw [List.getElem?_append_left h]
  · rw [List.getElem?_append_right h, List.getElem?_eq_none h]
    rcases Nat.eq_zero_or_pos (j - xs.length) with h0 | h0
    · rw [h0]; rfl
    · rw [List.getElem?_eq_none (by simp; omega)]
/-- A row of no cells counts nothing. -/
theorem shp_snoc0 : ∀ (n : Nat) (xs : List Int), shp n (xs ++ [0]) = shp n xs
  | 0, _ => rfl
  | n + 1, xs => by
    rw [shp, shp, List.length_append, List.length_singleton, shpSum]
    have hno : ¬ cornerZ (xs ++ [0]) xs.length := by
      intro h
      have h1 := h.1
      rw [getD_snoc0, List.getD_eq_getElem?_getD, List.getElem?_eq_none (Nat.le_refl _)] at h1
      simp at h1
    rw [if_neg hno, Int.add_zero]
    refine shpSum_congr xs.length fun j hj => ⟨?_, fun hc => ?_⟩
    · unfold cornerZ
      rw [getD_snoc0, getD_snoc0, List.length_append, List.length_singleton]
      constructor
      · rintro ⟨h1, h2⟩
        refine ⟨h1, ?_⟩
        rcases h2 with h2 | h2
        · omega
        · exact .inr h2
      · rintro ⟨h1, h2⟩
        refine ⟨h1, .inr ?_⟩
        rcases h2 with h2 | h2
        · rw [List.getD_eq_getElem?_getD, List.getElem?_eq_none (by omega)]
          simpa using h1
        · exact h2
    · rw [getD_snoc0, List.set_append_left _ _ hj]
      exact shp_snoc0 n _

theorem cntGood_at {xs : List Int} (h : IsShape xs) : cntGood xs = true := List.all_eq_true.1 cnts_all xs h.mem
theorem cntS_bound {xs : List Int} (h : IsShape xs) : 1 ≤ cntS xs ∧ cntS xs ≤ 7700 := by
  have := cntGood_at h
  unfold cntGood at this
  simp only [Bool.and_eq_true, decide_eq_true_eq] at this
  exact this.1.1
theorem cntS_less {xs : List Int} (h : IsShape xs) (h0 : xs ≠ []) : cntS xs = lessSum xs xs.length := by
  have := cntGood_at h
  unfold cntGood at this
  simp only [Bool.and_eq_true, Bool.or_eq_true, decide_eq_true_eq] at this
  rcases this.1.2 with h1 | h1
  · exact absurd h1 h0
  · exact h1
theorem less_shape {xs : List Int} (h : IsShape xs) {i : Nat} (hi : i < xs.length) (hc : corner xs i = true) : IsShape (lessAt xs i) ∧ (lessAt xs i).sum + 1 = xs.sum := by
  have := cntGood_at h
  unfold cntGood at this
  rw [Bool.and_eq_true] at this
  have h2 := List.all_eq_true.1 this.2 i (by simpa using hi)
  rw [hc] at h2
  simp only [Bool.not_true, Bool.false_or, decide_eq_true_eq] at h2
  exact ⟨isShape_of h2.1, h2.2⟩
theorem corner_iff {xs : List Int} (h : IsShape xs) {i : Nat} (hi : i < xs.length) : cornerZ xs i ↔ corner xs i = true := by
  have := h.part.ge hi
  unfold cornerZ corner
  rw [Bool.or_eq_true, decide_eq_true_eq, decide_eq_true_eq]
  constructor
  · exact fun h => h.2
  · exact fun h => ⟨by omega, h⟩

theorem lessSum_shp {xs : List Int} {n : Nat} : ∀ i, (∀ j, j < i → (cornerZ xs j ↔ corner xs j = true) ∧ (cornerZ xs j → shp n (xs.set j (xs.getD j 0 - 1)) = cntS (lessAt xs j))) → shpSum (shp n) xs i = lessSum xs i
  | 0, _ => rfl
  | i + 1, h => by
    rw [shpSum, lessSum, lessSum_shp i (fun j hj => h j (by omega))]
    obtain ⟨h1, h2⟩ := h i (by omega)
    by_cases hc : cornerZ xs i
    · rw [if_pos hc, if_pos (h1.1 hc), h2 hc]
    · rw [if_neg hc, if_neg (fun h => hc (h1.2 h))]
/-- A corner of one cell is the last row. -/
theorem corner_last {xs : List Int} (h : IsShape xs) {i : Nat} (hi : i < xs.length) (hc : cornerZ xs i) (h1 : xs.getD i 0 = 1) : i + 1 = xs.length := by
  rcases hc.2 with h2 | h2
  · exact h2
  · rcases Nat.lt_or_ge (i + 1) xs.length with h3 | h3
    · have := h.part.ge h3
      omega
    · omega
theorem shp_cnt : ∀ (n : Nat) (xs : List Int), IsShape xs → xs.sum = (n : Int) → shp n xs = cntS xs
  | 0, xs, h, hs => by
    have : xs = [] := by
      rcases Nat.eq_zero_or_pos xs.length with h0 | h0
      · exact List.eq_nil_of_length_eq_zero h0
      · have h1 := h.part.sum_take xs.length
        rw [List.take_of_length_le (Nat.le_refl _)] at h1
        omega
    subst this
    decide
  | n + 1, xs, h, hs => by
    have h0 : xs ≠ [] := by
      rintro rfl
      simp at hs
      omega
    rw [cntS_less h h0, shp]
    refine lessSum_shp _ fun j hj => ⟨corner_iff h hj, fun hc => ?_⟩
    obtain ⟨l1, l2⟩ := less_shape h hj ((corner_iff h hj).1 hc)
    rw [← shp_cnt n _ l1 (by omega)]
    unfold lessAt
    by_cases e : xs.getD j 0 = 1
    · rw [if_pos e, e]
      have hl := corner_last h hj hc e
      have : xs.set j (1 - 1) = xs.take j ++ [0] := by
        rw [List.set_eq_take_append_cons_drop, if_pos hj, List.drop_of_length_le (by omega)]
        rfl
      rw [this]
      exact shp_snoc0 n _
    · rw [if_neg e]

end Go.Proofs.Ytcnljljgdkjndaa
