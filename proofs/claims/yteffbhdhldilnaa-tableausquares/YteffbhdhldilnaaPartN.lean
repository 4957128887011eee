/-
  How many sums a number has: plain facts.
-/
namespace Go.Proofs.Yteffbhdhldilnaa

def pcntRow (prev : Nat → Nat) (m : Nat) : Nat → Nat → Nat
  | 0, s => prev s
  | f + 1, s => prev s + (if m + 1 ≤ s then pcntRow prev m f (s - (m + 1)) else 0)
/-- How many sums of s there are, of numbers up to m. -/
def pcnt : Nat → Nat → Nat
  | 0, s => if s = 0 then 1 else 0
  | m + 1, s => pcntRow (pcnt m) m s s

theorem pcntRow_fuel (prev : Nat → Nat) (m : Nat) : ∀ f f' s, s ≤ f → s ≤ f' → pcntRow prev m f s = pcntRow prev m f' s
  | 0, 0, s, _, _ => rfl
  | 0, f' + 1, s, h, _ => by
    have : s = 0 := by omega
    subst this
    simp [pcntRow]
  | f + 1, 0, s, _, h => by
    have : s = 0 := by omega
    subst this
    simp [pcntRow]
  | f + 1, f' + 1, s, h, h' => by
    rw [pcntRow, pcntRow]
    split
    · rw [pcntRow_fuel prev m f f' (s - (m + 1)) (by omega) (by omega)]
    · rfl

theorem pcnt_zero (s : Nat) : pcnt 0 s = if s = 0 then 1 else 0 := rfl
theorem pcnt_lt {m s : Nat} (h : s < m + 1) : pcnt (m + 1) s = pcnt m s := by
  rw [pcnt]
  cases s with
  | zero => rfl
  | succ s => rw [pcntRow, if_neg (by omega)]; rfl
theorem pcnt_ge {m s : Nat} (h : m + 1 ≤ s) : pcnt (m + 1) s = pcnt m s + pcnt (m + 1) (s - (m + 1)) := by
  have e : pcnt (m + 1) s = pcntRow (pcnt m) m s s := rfl
  have e2 : pcnt (m + 1) (s - (m + 1)) = pcntRow (pcnt m) m (s - (m + 1)) (s - (m + 1)) := rfl
  obtain ⟨t, rfl⟩ : ∃ t, s = t + 1 := ⟨s - 1, by omega⟩
  rw [e, pcntRow, if_pos h, e2, pcntRow_fuel (pcnt m) m t (t + 1 - (m + 1)) (t + 1 - (m + 1)) (by omega) (Nat.le_refl _)]
theorem pcnt_mono (m s : Nat) : pcnt m s ≤ pcnt (m + 1) s := by
  rcases Nat.lt_or_ge s (m + 1) with h | h
  · rw [pcnt_lt h]; exact Nat.le_refl _
  · rw [pcnt_ge h]; exact Nat.le_add_right _ _
theorem pcnt_mono' {m m' : Nat} (h : m ≤ m') (s : Nat) : pcnt m s ≤ pcnt m' s := by
  induction h with
  | refl => exact Nat.le_refl _
  | step _ ih => exact Nat.le_trans ih (pcnt_mono _ s)
theorem pcnt_same {m s : Nat} (h : s ≤ m) : pcnt m s = pcnt s s := by
  induction h with
  | refl => rfl
  | step h ih => rw [pcnt_lt (Nat.lt_succ_of_le h), ih]
theorem pcnt_nil (m : Nat) : pcnt m 0 = 1 := by
  induction m with
  | zero => rfl
  | succ m ih => rw [pcnt_lt (by omega), ih]

/-! The same by rows, to be reckoned. -/
def rowStep (m : Nat) (row : List Nat) : List Nat := row.foldl (fun acc x => acc ++ [x + (if m ≤ acc.length then acc.getD (acc.length - m) 0 else 0)]) []
def pcntTab (L : Nat) : Nat → List Nat
  | 0 => (List.range L).map (fun s => if s = 0 then 1 else 0)
  | m + 1 => rowStep (m + 1) (pcntTab L m)

theorem rowStep_cnt (m L : Nat) : rowStep (m + 1) ((List.range L).map (pcnt m)) = (List.range L).map (pcnt (m + 1)) := by
  induction L with
  | zero => rfl
  | succ L ih =>
    rw [List.range_succ, List.map_append, List.map_append, rowStep, List.foldl_append]
    have e : List.foldl (fun acc x => acc ++ [x + (if m + 1 ≤ acc.length then acc.getD (acc.length - (m + 1)) 0 else 0)]) [] ((List.range L).map (pcnt m)) = (List.range L).map (pcnt (m + 1)) := ih
    rw [e]
    simp only [List.map_cons, List.map_nil, List.foldl_cons, List.foldl_nil, List.length_map, List.length_range]
    congr 2
    split
    · rename_i h
      rw [pcnt_ge h]
      congr 1
      rw [List.getD_eq_getElem?_getD, List.getElem?_map, List.getElem?_range (by omega)]
      rfl
    · rename_i h
      rw [pcnt_lt (by omega)]
      rfl
theorem pcntTab_eq (L m : Nat) : pcntTab L m = (List.range L).map (pcnt m) := by
  induction m with
  | zero => rfl
  | succ m ih => rw [pcntTab, ih, rowStep_cnt]
theorem pcnt_tab {L m s : Nat} (h : s < L) : pcnt m s = (pcntTab L m).getD s 0 := by
  rw [pcntTab_eq, List.getD_eq_getElem?_getD, List.getElem?_map, List.getElem?_range h]
  rfl
theorem pcntTab_bound : (pcntTab 41 40).all (fun x => decide (x ≤ 37338)) = true := by decide +kernel
theorem pcnt_le {m s : Nat} (hm : m ≤ 40) (hs : s ≤ 40) : pcnt m s ≤ 37338 := by
  refine Nat.le_trans (pcnt_mono' hm s) ?_
  rw [pcnt_tab (L := 41) (by omega)]
  have h := List.all_eq_true.1 pcntTab_bound
  rw [List.getD_eq_getElem?_getD]
  rcases e : (pcntTab 41 40)[s]? with _ | x
  · simp
  · simpa using h x (List.mem_of_getElem? e)

end Go.Proofs.Yteffbhdhldilnaa
