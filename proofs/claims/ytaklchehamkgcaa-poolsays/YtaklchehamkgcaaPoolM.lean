/-
  Pools: plain mathematics. Nothing of the program is proved here.
-/
import Derived.Test.YtaklchehamkgcaaRankM
import Derived.Test.YtaklchehamkgcaaDeal
import Derived.Test.YtaklchehamkgcaaSubM
import Derived.Test.YtaklchehamkgcaaSortO
import Derived.Test.YtaklchehamkgcaaPlain
namespace Go.Proofs.Ytaklchehamkgcaa
open Go.RowKit

/-- What is wrong with a size of a pool and a row of lots. -/
def poErr (k : Int) (l : List Int) : Int := if k < 1 ∨ 12 < k then 1 else if 30 < l.length then 2 else if ∀ i, i < l.length → 0 ≤ l.getD i 0 ∧ l.getD i 0 ≤ i then 0 else 3
theorem poErr_arg {k : Int} {l : List Int} (h : k < 1 ∨ 12 < k) : poErr k l = 1 := if_pos h
theorem poErr_large {k : Int} {l : List Int} (h : 1 ≤ k ∧ k ≤ 12) (h2 : 30 < l.length) : poErr k l = 2 := by
  unfold poErr
  rw [if_neg (by omega), if_pos h2]
theorem poErr_good {k : Int} {l : List Int} (h : 1 ≤ k ∧ k ≤ 12) (h2 : l.length ≤ 30) (h3 : IsLots l) : poErr k l = 0 := by
  unfold poErr
  rw [if_neg (by omega), if_neg (by omega), if_pos (show ∀ i, i < l.length → 0 ≤ l.getD i 0 ∧ l.getD i 0 ≤ i from h3)]
theorem poErr_bad {k : Int} {l : List Int} (h : 1 ≤ k ∧ k ≤ 12) (h2 : l.length ≤ 30) (h3 : ¬ IsLots l) : poErr k l = 3 := by
  unfold poErr
  rw [if_neg (by omega), if_neg (by omega), if_neg (show ¬ ∀ i, i < l.length → 0 ≤ l.getD i 0 ∧ l.getD i 0 ≤ i from h3)]
theorem poErr_ok {k : Int} {l : List Int} : poErr k l = 0 ↔ (1 ≤ k ∧ k ≤ 12) ∧ l.length ≤ 30 ∧ IsLots l := by
  constructor
  · intro h
    by_cases c : k < 1 ∨ 12 < k
    · rw [poErr_arg c] at h; cases h
    · by_cases c2 : 30 < l.length
      · rw [poErr_large (by omega) c2] at h; cases h
      · by_cases c3 : IsLots l
        · exact ⟨by omega, by omega, c3⟩
        · rw [poErr_bad (by omega) (by omega) c3] at h; cases h
  · rintro ⟨h, h2, h3⟩
    exact poErr_good h h2 h3
theorem not_lotsP {xs : List Int} {k : Nat} (hk : k < xs.length) (h : xs.getD k 0 < 0 ∨ (k : Int) < xs.getD k 0) : ¬ IsLots xs := fun hl => by
  have := hl k hk
  omega

/-- One more comes by. -/
def pstep (k : Nat) (r : List Int) (i : Nat) (x : Int) : List Int := if r.length < k then r ++ [(i : Int)] else if x < (k : Int) then r.set x.toNat (i : Int) else r
/-- The pool behind the first m. -/
def pN (k : Nat) (l : List Int) : Nat → List Int
  | 0 => []
  | m + 1 => pstep k (pN k l m) m (l.getD m 0)
theorem pN_len (k : Nat) (l : List Int) : ∀ m, (pN k l m).length = min m k
  | 0 => by simp [pN]
  | m + 1 => by
    have h := pN_len k l m
    unfold pN pstep
    split
    · rw [List.length_append, h, List.length_singleton]; omega
    · split
      · rw [List.length_set, h]; omega
      · rw [h]; omega
theorem pN_grow {k m : Nat} (l : List Int) (h : m < k) : pN k l (m + 1) = pN k l m ++ [(m : Int)] := by
  rw [pN, pstep, pN_len, if_pos (by omega)]
theorem pN_put {k m : Nat} {l : List Int} (h : k ≤ m) (hx : l.getD m 0 < (k : Int)) : pN k l (m + 1) = (pN k l m).set (l.getD m 0).toNat (m : Int) := by
  rw [pN, pstep, pN_len, if_neg (by omega), if_pos hx]
theorem pN_pass {k m : Nat} {l : List Int} (h : k ≤ m) (hx : ¬ l.getD m 0 < (k : Int)) : pN k l (m + 1) = pN k l m := by
  rw [pN, pstep, pN_len, if_neg (by omega), if_neg hx]
theorem pN_bd (k : Nat) (l : List Int) : ∀ m, ∀ v ∈ pN k l m, 0 ≤ v ∧ v < (m : Int)
  | 0, v, h => by simp [pN] at h
  | m + 1, v, h => by
    have ih := pN_bd k l m
    unfold pN pstep at h
    split at h
    · rcases List.mem_append.1 h with h | h
      · have := ih v h; omega
      · rw [List.mem_singleton] at h; omega
    · split at h
      · rcases List.mem_or_eq_of_mem_set h with h | h
        · have := ih v h; omega
        · omega
      · have := ih v h; omega
theorem nodup_setP {r : List Int} {i : Nat} {x : Int} (h : r.Nodup) (hx : x ∉ r) : (r.set i x).Nodup := by
  rw [nodup_iff_getD] at h ⊢
  intro a b hab hb
  rw [List.length_set] at hb
  have ha' : r.getD a 0 ∈ r := getD_mem (by omega)
  have hb' : r.getD b 0 ∈ r := getD_mem hb
  rw [getD_set, getD_set]
  split <;> split <;> rename_i h1 h2
  · omega
  · exact fun e => hx (e ▸ hb')
  · exact fun e => hx (e ▸ ha')
  · exact h a b hab hb
theorem pN_nodup (k : Nat) (l : List Int) : ∀ m, (pN k l m).Nodup
  | 0 => by simp [pN]
  | m + 1 => by
    have ih := pN_nodup k l m
    have hm : (m : Int) ∉ pN k l m := fun h => by have := pN_bd k l m _ h; omega
    unfold pN pstep
    split
    · rw [List.nodup_append]
      refine ⟨ih, by simp, fun a ha b hb => ?_⟩
      rw [List.mem_singleton] at hb
      subst hb
      exact fun e => hm (e ▸ ha)
    · split
      · exact nodup_setP ih hm
      · exact ih

/-- Who was put last at the place p, of the first m. -/
def lastP (k : Nat) (l : List Int) (p : Nat) : Nat → Nat
  | 0 => p
  | m + 1 => if k ≤ m ∧ l.getD m 0 = (p : Int) then m else lastP k l p m
theorem lastP_low {k : Nat} {l : List Int} {p : Nat} : ∀ {m : Nat}, m ≤ k → lastP k l p m = p
  | 0, _ => rfl
  | m + 1, h => by rw [lastP, if_neg (by omega), lastP_low (by omega)]
theorem getD_appP {r : List Int} {x : Int} {j : Nat} : (r ++ [x]).getD j 0 = if j = r.length then x else r.getD j 0 := by
  by_cases h : j < r.length
  · rw [if_neg (by omega)]
    simp [List.getD_eq_getElem?_getD, h, List.getElem?_append_left]
  · by_cases e : j = r.length
    · subst e
      rw [if_pos rfl]
      simp [List.getD_eq_getElem?_getD]
    · rw [if_neg e]
      simp only [List.getD_eq_getElem?_getD]
      rw [List.getElem?_eq_none (by simp; omega), List.getElem?_eq_none (by omega)]
theorem getD_pN {k : Nat} {l : List Int} {p : Nat} (hl : IsLots l) : ∀ m, m ≤ l.length → p < min m k → (pN k l m).getD p 0 = (lastP k l p m : Int)
  | 0, _, h => by omega
  | m + 1, hm, h => by
    have ih := getD_pN (k := k) (p := p) hl m (by omega)
    by_cases hk : m < k
    · rw [pN_grow l hk, getD_appP, pN_len, lastP_low (by omega)]
      by_cases e : p = min m k
      · rw [if_pos e]; omega
      · rw [if_neg e, ih (by omega), lastP_low (by omega)]
    · have hx := hl m (by omega)
      rw [lastP]
      by_cases c : l.getD m 0 < (k : Int)
      · rw [pN_put (by omega) c, getD_set, pN_len]
        by_cases e : l.getD m 0 = (p : Int)
        · rw [if_pos (by omega), if_pos ⟨by omega, e⟩]
        · rw [if_neg (by omega), if_neg (fun h => e h.2), ih (by omega)]
      · rw [pN_pass (by omega) c, if_neg (by omega), ih (by omega)]

/-- What Run hands out. -/
def poolX (k : Int) (l : List Int) : List Int := if poErr k l = 0 then pN k.toNat l l.length else []
theorem poolX_ok {k : Nat} {l : List Int} (h : poErr (k : Int) l = 0) : poolX (k : Int) l = pN k l l.length := by
  unfold poolX
  rw [if_pos h, Int.toNat_natCast]
theorem poolX_bad {k : Int} {l : List Int} (h : poErr k l ≠ 0) : poolX k l = [] := if_neg h
theorem poolX_len {k : Int} {l : List Int} : (poolX k l).length ≤ 12 := by
  unfold poolX
  split
  · rename_i h
    have := poErr_ok.1 h
    rw [pN_len]
    omega
  · simp

/-- The numbers, the least first. -/
def upL (l : List Int) : List Int := l.mergeSort (fun x y => decide (x ≤ y))
theorem upL_len (l : List Int) : (upL l).length = l.length := List.length_mergeSort _
theorem upL_perm (l : List Int) : (upL l).Perm l := List.mergeSort_perm _ _
theorem upL_climbs (l : List Int) : (upL l).Pairwise climbs := by
  have := List.pairwise_mergeSort (le := fun x y : Int => decide (x ≤ y)) (fun a b c h1 h2 => by simp only [decide_eq_true_eq] at *; omega) (fun a b => by simp only [Bool.or_eq_true, decide_eq_true_eq]; omega) l
  exact this.imp (fun h => by simpa [climbs] using h)
theorem climbs_antiP (a b : Int) (h : climbs a b) (h' : climbs b a) : a = b := by unfold climbs at *; omega
theorem upL_of {ys xs : List Int} (hp : ys.Perm xs) (hs : SortedTo climbs ys ys.length) : ys = upL xs :=
  sorted_unique climbs_antiP (pairwise_of_sortedTo hs) (upL_climbs xs) (hp.trans (upL_perm xs).symm)
theorem upL_nodup {l : List Int} (h : l.Nodup) : (upL l).Nodup := (upL_perm l).nodup_iff.2 h
theorem upL_mem {l : List Int} {v : Int} : v ∈ upL l ↔ v ∈ l := (upL_perm l).mem_iff

/-- How many rows of lots choose one set. -/
def wyN (n k : Nat) : Nat := fact n / cho n (min n k)
def wyErr (n k : Int) : Int := if n < 0 ∨ 10 < n ∨ k < 1 ∨ 12 < k then 1 else 0
theorem wy_all : ∀ n : Fin 11, ∀ k : Fin 13, (k.1 ≤ n.1 → wyN n.1 k.1 * cho n.1 k.1 = fact n.1) ∧ (n.1 < k.1 → wyN n.1 k.1 = fact n.1) ∧ 0 < cho n.1 (min n.1 k.1) ∧ cho n.1 (min n.1 k.1) ≤ 252 := by decide +kernel
theorem wyN_times {n k : Nat} (hn : n ≤ 10) (h : k ≤ n) : wyN n k * cho n k = fact n := (wy_all ⟨n, by omega⟩ ⟨k, by omega⟩).1 h
theorem wyN_few {n k : Nat} (hn : n ≤ 10) (hk : k ≤ 12) (h : n < k) : wyN n k = fact n := (wy_all ⟨n, by omega⟩ ⟨k, by omega⟩).2.1 h
theorem wyN_cho {n k : Nat} (hn : n ≤ 10) (hk : k ≤ 12) : 0 < cho n (min n k) ∧ cho n (min n k) ≤ 252 := (wy_all ⟨n, by omega⟩ ⟨k, by omega⟩).2.2
theorem wyN_le {n k : Nat} (hn : n ≤ 10) : wyN n k ≤ 3628800 := Nat.le_trans (Nat.div_le_self _ _) (fact_ten hn)

end Go.Proofs.Ytaklchehamkgcaa
