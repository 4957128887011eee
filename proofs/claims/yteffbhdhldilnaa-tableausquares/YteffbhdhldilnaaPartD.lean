/-
  Sums turned: plain facts. No program.
-/
import Derived.Test.YteffbhdhldilnaaPartC
import Derived.Test.YteffbhdhldilnaaEqual
namespace Go.Proofs.Yteffbhdhldilnaa

theorem above_take {xs : List Int} (h : IsPart xs) (i : Nat) : ∀ k, k ≤ xs.length → ∀ j, j < k → ((i : Int) < xs.getD j 0 ↔ j < above (xs.take k) i)
  | 0, _, j, hj => by omega
  | k + 1, hk, j, hj => by
    have ih := above_take h i k (by omega)
    rw [above_snoc (by omega)]
    have hle := above_le (xs.take k) i
    rw [List.length_take] at hle
    by_cases hx : (i : Int) < xs.getD k 0
    · rw [if_pos hx]
      have h1 : (i : Int) < xs.getD j 0 := Int.lt_of_lt_of_le hx (h.mono (by omega) (by omega))
      refine ⟨fun _ => ?_, fun _ => h1⟩
      rcases Nat.eq_zero_or_pos k with h0 | h0
      · omega
      · have h2 : (i : Int) < xs.getD (k - 1) 0 := Int.lt_of_lt_of_le hx (h.mono (by omega) (by omega))
        have := (ih (k - 1) (by omega)).1 h2
        omega
    · rw [if_neg hx, Nat.add_zero]
      by_cases e : j = k
      · subst e
        exact ⟨fun h => absurd h hx, fun h => by omega⟩
      · exact ih j (by omega)
theorem above_iff {xs : List Int} (h : IsPart xs) {i j : Nat} (hj : j < xs.length) : (i : Int) < xs.getD j 0 ↔ j < above xs i := by
  have := above_take h i xs.length (Nat.le_refl _) j hj
  rwa [List.take_of_length_le (Nat.le_refl _)] at this
theorem above_all {xs : List Int} (h : IsPart xs) : above xs 0 = xs.length := by
  rcases Nat.eq_zero_or_pos xs.length with h0 | h0
  · have := above_le xs 0
    omega
  · have h1 := h.ge (j := xs.length - 1) (by omega)
    have := (above_iff h (i := 0) (j := xs.length - 1) (by omega)).1 (by omega)
    have := above_le xs 0
    omega
theorem above_falls (xs : List Int) (i : Nat) : above xs (i + 1) ≤ above xs i := by
  unfold above
  refine List.countP_mono_left fun x _ hx => ?_
  simp only [decide_eq_true_eq] at hx ⊢
  omega

theorem sum_range_add (f g : Nat → Int) (L : Nat) : ((List.range L).map (fun i => f i + g i)).sum = ((List.range L).map f).sum + ((List.range L).map g).sum := by
  induction L with
  | zero => simp
  | succ L ih => simp only [List.range_succ, List.map_append, List.sum_append, ih, List.map_cons, List.map_nil, List.sum_cons, List.sum_nil]; omega
theorem sum_range_lt (X L : Nat) : ((List.range L).map (fun i => ((if i < X then 1 else 0 : Nat) : Int))).sum = ((min X L : Nat) : Int) := by
  induction L with
  | zero => simp
  | succ L ih =>
    simp only [List.range_succ, List.map_append, List.sum_append, ih, List.map_cons, List.map_nil, List.sum_cons, List.sum_nil]
    split <;> omega
theorem countP_range_lt (X L : Nat) : (List.range L).countP (fun i => decide (i < X)) = min X L := by
  induction L with
  | zero => simp
  | succ L ih =>
    rw [List.range_succ, List.countP_append, ih]
    simp only [List.countP_cons, List.countP_nil, decide_eq_true_eq]
    split <;> omega

theorem sum_above_nil (L : Nat) : ((List.range L).map (fun i => ((above [] i : Nat) : Int))).sum = ([] : List Int).sum := by
  induction L with
  | zero => rfl
  | succ L ih => rw [List.range_succ, List.map_append, List.sum_append, ih]; rfl
theorem sum_above {xs : List Int} (h : IsPart xs) (L : Nat) (hL : ∀ j, j < xs.length → xs.getD j 0 ≤ (L : Int)) : ∀ k, k ≤ xs.length → ((List.range L).map (fun i => ((above (xs.take k) i : Nat) : Int))).sum = (xs.take k).sum
  | 0, _ => by
    rw [List.take_zero]
    exact sum_above_nil L
  | k + 1, hk => by
    have ih := sum_above h L hL k (by omega)
    have h1 := h.ge (j := k) (by omega)
    obtain ⟨X, hX⟩ := Int.eq_ofNat_of_zero_le (show 0 ≤ xs.getD k 0 by omega)
    have h2 := hL k (by omega)
    rw [sum_take_snoc (by omega), ← ih, hX]
    have e : (fun i => ((above (xs.take (k + 1)) i : Nat) : Int)) = fun i => ((above (xs.take k) i : Nat) : Int) + ((if i < X then 1 else 0 : Nat) : Int) := by
      funext i
      rw [above_snoc (by omega), hX]
      by_cases h3 : i < X
      · rw [if_pos h3, if_pos (by omega)]
        rfl
      · rw [if_neg h3, if_neg (by omega)]
        rfl
    rw [e, sum_range_add, sum_range_lt]
    congr 1
    rw [hX] at h2
    omega

theorem conj_nil : conj [] = [] := rfl
theorem sum_conj {xs : List Int} (h : IsPart xs) : (conj xs).sum = xs.sum := by
  rcases Nat.eq_zero_or_pos xs.length with h0 | h0
  · have : xs = [] := List.eq_nil_of_length_eq_zero h0
    subst this
    rfl
  · have h1 := h.ge h0
    have := sum_above h (xs.getD 0 0).toNat (fun j hj => by have := h.mono (Nat.zero_le j) hj; omega) xs.length (Nat.le_refl _)
    rwa [List.take_of_length_le (Nat.le_refl _)] at this
theorem isPart_conj {xs : List Int} (h : IsPart xs) : IsPart (conj xs) := by
  rcases Nat.eq_zero_or_pos xs.length with h0 | h0
  · have : xs = [] := List.eq_nil_of_length_eq_zero h0
    subst this
    exact h
  · refine isPart_mk (fun j hj => ?_) (fun j hj => ?_) (by rw [sum_conj h]; exact h.sum_le)
    · rw [length_conj] at hj
      rw [getD_conj hj]
      have := (above_iff h (i := j) h0).1 (by omega)
      omega
    · rw [length_conj] at hj
      rw [getD_conj hj, getD_conj (by omega)]
      have := above_falls xs j
      omega
theorem head_conj {xs : List Int} (h : IsPart xs) : (conj xs).getD 0 0 = (xs.length : Int) := by
  rcases Nat.eq_zero_or_pos xs.length with h0 | h0
  · have : xs = [] := List.eq_nil_of_length_eq_zero h0
    subst this
    rfl
  · have := h.ge h0
    rw [getD_conj (by omega), above_all h]
theorem conj_conj {xs : List Int} (h : IsPart xs) : conj (conj xs) = xs := by
  have hl : (conj (conj xs)).length = xs.length := by rw [length_conj, head_conj h]; rfl
  refine getD_take_eq hl rfl fun j hj => ?_
  have h1 := h.ge hj
  have h2 := h.mono (Nat.zero_le j) hj
  obtain ⟨X, hX⟩ := Int.eq_ofNat_of_zero_le (show 0 ≤ xs.getD j 0 by omega)
  rw [getD_conj (by rw [head_conj h]; omega), hX]
  have e : above (conj xs) j = (List.range (xs.getD 0 0).toNat).countP (fun i => decide (i < X)) := by
    unfold above
    conv => lhs; unfold conj
    rw [List.countP_map]
    refine List.countP_congr fun i _ => ?_
    have := above_iff h (i := i) hj
    rw [hX] at this
    simp only [Function.comp, decide_eq_true_eq]
    omega
  rw [e, countP_range_lt]
  omega

end Go.Proofs.Yteffbhdhldilnaa
