/-
  Plain facts on insertion into a sorted list, by changes of neighbours.
-/
import Derived.Test.YtaklchehamkgcaaSgnSwap
namespace Go.Proofs.Ytaklchehamkgcaa

/-- The first i numbers stand in order. -/
def SortedTo (r : Int → Int → Prop) (zs : List Int) (i : Nat) : Prop := ∀ u v, u < v → v < i → r (zs.getD u 0) (zs.getD v 0)
/-- All up to place i stand in order, but for who stands at j: he may have to go further ahead. -/
def InsInv (r : Int → Int → Prop) (zs : List Int) (i j : Nat) : Prop := ∀ u v, u < v → v ≤ i → v ≠ j → r (zs.getD u 0) (zs.getD v 0)

theorem ins_start {r : Int → Int → Prop} {zs : List Int} {i : Nat} (h : SortedTo r zs i) : InsInv r zs i i := fun u v huv hv hne => h u v huv (by omega)

theorem ins_step {r : Int → Int → Prop} {zs : List Int} {i j : Nat} (h : InsInv r zs i (j + 1)) (hj : j + 1 ≤ i) (hi : i < zs.length) (hr : r (zs.getD (j + 1) 0) (zs.getD j 0)) : InsInv r (swapAt zs (j + 1) j) i j := by
  intro u v huv hv hne
  rw [getD_swapAt (by omega) (by omega), getD_swapAt (by omega) (by omega), if_neg hne]
  by_cases h1 : v = j + 1
  · subst h1
    rw [if_pos rfl]
    by_cases h2 : u = j
    · rw [if_pos h2]
      exact hr
    · rw [if_neg h2, if_neg (by omega)]
      exact h u j (by omega) (by omega) (by omega)
  · rw [if_neg h1]
    by_cases h2 : u = j
    · rw [if_pos h2]
      exact h (j + 1) v (by omega) hv h1
    · rw [if_neg h2]
      by_cases h3 : u = j + 1
      · rw [if_pos h3]
        exact h j v (by omega) hv h1
      · rw [if_neg h3]
        exact h u v huv hv h1

theorem ins_zero {r : Int → Int → Prop} {zs : List Int} {i : Nat} (h : InsInv r zs i 0) : SortedTo r zs (i + 1) := fun u v huv hv => h u v huv (by omega) (by omega)
theorem ins_done {r : Int → Int → Prop} (ht : ∀ a b c, r a b → r b c → r a c) {zs : List Int} {i j : Nat} (h : InsInv r zs i (j + 1)) (hr : r (zs.getD j 0) (zs.getD (j + 1) 0)) : SortedTo r zs (i + 1) := by
  intro u v huv hv
  by_cases h1 : v = j + 1
  · subst h1
    by_cases h2 : u = j
    · rw [h2]
      exact hr
    · exact ht _ _ _ (h u j (by omega) (by omega) (by omega)) hr
  · exact h u v huv (by omega) h1

theorem perm_swapAt_lt {l : List Int} {i k : Nat} (hik : i < k) (hk : k < l.length) : (swapAt l i k).Perm l := by
  have hs := split_at hik hk
  have hlu : (l.take i).length = i := by rw [List.length_take]; omega
  have hlm : ((l.drop (i + 1)).take (k - i - 1)).length = k - i - 1 := by rw [List.length_take, List.length_drop]; omega
  generalize l.take i = u at hs hlu
  generalize (l.drop (i + 1)).take (k - i - 1) = m at hs hlm
  generalize l.getD i 0 = x at hs
  generalize l.getD k 0 = y at hs
  generalize l.drop (k + 1) = v at hs
  subst hs
  have e : swapAt (u ++ x :: (m ++ y :: v)) i k = u ++ y :: (m ++ x :: v) := by
    have := swapAt_split u m v x y
    rwa [hlu, hlm, show i + 1 + (k - i - 1) = k by omega] at this
  rw [e]
  exact ((List.perm_middle (a := x) (l₁ := y :: m) (l₂ := v)).trans (List.Perm.cons x (List.perm_middle (a := y) (l₁ := m) (l₂ := v)).symm)).append_left u
theorem perm_swapAt {l : List Int} {i k : Nat} (hi : i < l.length) (hk : k < l.length) : (swapAt l i k).Perm l := by
  rcases Nat.lt_trichotomy i k with h | h | h
  · exact perm_swapAt_lt h hk
  · subst h
    rw [swapAt_self hi]
  · rw [swapAt_comm hi hk]
    exact perm_swapAt_lt h hi

/-- Two lists of the same numbers, both in order, are one. -/
theorem sorted_unique {r : Int → Int → Prop} (ha : ∀ a b, r a b → r b a → a = b) : ∀ {l l' : List Int}, l.Pairwise r → l'.Pairwise r → l.Perm l' → l = l'
  | [], l', _, _, h => by simpa using h.symm
  | x :: t, l', h1, h2, h => by
    have hx : x ∈ l' := h.mem_iff.1 (by simp)
    match l', h2, h, hx with
    | y :: t', h2, h, hx =>
      have p1 := List.pairwise_cons.1 h1
      have p2 := List.pairwise_cons.1 h2
      have hxy : x = y := by
        rcases List.mem_cons.1 hx with e | e
        · exact e
        · have hy : y ∈ x :: t := h.mem_iff.2 (by simp)
          rcases List.mem_cons.1 hy with e' | e'
          · exact e'.symm
          · exact ha _ _ (p1.1 y e') (p2.1 x e)
      subst hxy
      rw [sorted_unique ha p1.2 p2.2 ((List.perm_cons x).1 h)]

theorem pairwise_of_sortedTo {r : Int → Int → Prop} {zs : List Int} (h : SortedTo r zs zs.length) : zs.Pairwise r := by
  rw [List.pairwise_iff_getElem]
  intro i j hi hj hij
  have := h i j hij hj
  simpa [List.getD_eq_getElem?_getD, List.getElem?_eq_getElem hi, List.getElem?_eq_getElem hj] using this

end Go.Proofs.Ytaklchehamkgcaa
