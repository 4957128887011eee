/-
  The sign behind a change of two places.
-/
import Derived.Test.YtaklchehamkgcaaAll
import Derived.Test.YtaklchehamkgcaaSign
import Derived.Test.YtaklchehamkgcaaClone
namespace Go.Proofs.Ytaklchehamkgcaa
open Go.RowKit

theorem swapAt_split (u m v : List Int) (x y : Int) : swapAt (u ++ x :: (m ++ y :: v)) u.length (u.length + 1 + m.length) = u ++ y :: (m ++ x :: v) := by
  have h1 : (u ++ x :: (m ++ y :: v)).getD u.length 0 = x := by simp [List.getD_eq_getElem?_getD]
  have h2 : (u ++ x :: (m ++ y :: v)).getD (u.length + 1 + m.length) 0 = y := by
    rw [List.getD_eq_getElem?_getD, List.getElem?_append_right (by omega), show u.length + 1 + m.length - u.length = m.length + 1 by omega]
    simp
  unfold swapAt
  rw [h1, h2, List.set_append_right _ _ (Nat.le_refl _), Nat.sub_self, List.set_cons_zero, List.set_append_right _ _ (by omega), show u.length + 1 + m.length - u.length = m.length + 1 by omega, List.set_cons_succ,
    List.set_append_right _ _ (Nat.le_refl _), Nat.sub_self, List.set_cons_zero]

theorem split_at {l : List Int} {i k : Nat} (hik : i < k) (hk : k < l.length) : l = l.take i ++ l.getD i 0 :: ((l.drop (i + 1)).take (k - i - 1) ++ l.getD k 0 :: l.drop (k + 1)) := by
  have h1 : l.drop (i + 1) = (l.drop (i + 1)).take (k - i - 1) ++ (l.drop (i + 1)).drop (k - i - 1) := (List.take_append_drop _ _).symm
  rw [List.drop_drop, show i + 1 + (k - i - 1) = k by omega, drop_cons hk] at h1
  rw [← h1, ← drop_cons (by omega)]
  exact (List.take_append_drop _ _).symm

theorem swapAt_comm {l : List Int} {i k : Nat} (hi : i < l.length) (hk : k < l.length) : swapAt l i k = swapAt l k i := by
  apply ext_getD (by rw [length_swapAt, length_swapAt])
  intro j _
  rw [getD_swapAt hi hk, getD_swapAt hk hi]
  by_cases h1 : j = k
  · by_cases h2 : j = i
    · rw [if_pos h1, if_pos h2, ← h1, ← h2]
    · rw [if_pos h1, if_neg h2, if_pos h1]
  · by_cases h2 : j = i
    · rw [if_neg h1, if_pos h2, if_pos h2]
    · rw [if_neg h1, if_neg h2, if_neg h2, if_neg h1]
theorem swapAt_self {l : List Int} {i : Nat} (hi : i < l.length) : swapAt l i i = l := by
  apply ext_getD (by rw [length_swapAt])
  intro j _
  rw [getD_swapAt hi hi]
  by_cases h1 : j = i
  · rw [if_pos h1, h1]
  · rw [if_neg h1, if_neg h1]

theorem sgn_swapAt_lt {l : List Int} {i k : Nat} (hn : l.Nodup) (hik : i < k) (hk : k < l.length) : sgn (swapAt l i k) = - sgn l := by
  have hs := split_at hik hk
  have hlu : (l.take i).length = i := by rw [List.length_take]; omega
  have hlm : ((l.drop (i + 1)).take (k - i - 1)).length = k - i - 1 := by rw [List.length_take, List.length_drop]; omega
  generalize l.take i = u at hs hlu
  generalize (l.drop (i + 1)).take (k - i - 1) = m at hs hlm
  generalize l.getD i 0 = x at hs
  generalize l.getD k 0 = y at hs
  generalize l.drop (k + 1) = v at hs
  subst hs
  have e : swapAt (u ++ x :: (m ++ y :: v)) i k = u ++ y :: (m ++ x :: v) := by
    have := swapAt_split u m v x y
    rwa [hlu, hlm, show i + 1 + (k - i - 1) = k by omega] at this
  rw [e]
  have h1 := (List.nodup_append.1 hn).2.1
  have h2 := List.nodup_cons.1 h1
  have h3 := List.nodup_append.1 h2.2
  refine sgn_exchange u m v x y (fun e => ?_) (fun e => ?_) (fun e => ?_)
  · exact h2.1 (by simp [e])
  · exact h2.1 (by simp [e])
  · exact h3.2.2 y e y (by simp) rfl
theorem sgn_swapAt {l : List Int} {i k : Nat} (hn : l.Nodup) (hi : i < l.length) (hk : k < l.length) (hne : i ≠ k) : sgn (swapAt l i k) = - sgn l := by
  rcases Nat.lt_or_gt_of_ne hne with h | h
  · exact sgn_swapAt_lt hn h hk
  · rw [swapAt_comm hi hk]
    exact sgn_swapAt_lt hn h hi

theorem sgn_short {l : List Int} (h : l.length < 2) : sgn l = 1 := by
  match l, h with
  | [], _ => rfl
  | [x], _ => rfl

end Go.Proofs.Ytaklchehamkgcaa
