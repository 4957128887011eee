/-
  Shapes (P40): what is wrong with one, how many tableaux it has, by hooks and by corners; reckoned for all shapes of up to twelve cells. No program, no memory.
-/
import Derived.Test.YtcnljljgdkjndaaPartC
import Derived.Test.YtcnljljgdkjndaaFct
namespace Go.Proofs.Ytcnljljgdkjndaa

/-- P40: what is wrong at place k. -/
def shapeErrAt (xs : List Int) (k : Nat) : Int :=
  if xs.getD k 0 < 1 ∨ 12 < xs.getD k 0 then 1 else if 0 < k ∧ xs.getD (k - 1) 0 < xs.getD k 0 then 3 else if 12 < (xs.take (k + 1)).sum then 2 else 0
/-- P40: the first thing that is wrong. -/
def shapeErr (xs : List Int) : Int :=
  match (List.range xs.length).find? (fun k => !(shapeErrAt xs k == 0)) with
  | some k => shapeErrAt xs k
  | none => 0

def IsShape (xs : List Int) : Prop := ∀ j, j < xs.length → shapeErrAt xs j = 0

theorem shapeErr_at {xs : List Int} {k : Nat} {e : Int} (hk : k < xs.length) (hall : ∀ j, j < k → shapeErrAt xs j = 0) (he : shapeErrAt xs k = e) (h0 : e ≠ 0) : shapeErr xs = e := by
  have : (List.range xs.length).find? (fun k => !(shapeErrAt xs k == 0)) = some k := by
    rw [List.find?_range_eq_some]
    refine ⟨by simp [he, h0], by simpa using hk, fun j hj => by simp [hall j hj]⟩
  unfold shapeErr
  rw [this]
  exact he
theorem shapeErr_ok {xs : List Int} (h : IsShape xs) : shapeErr xs = 0 := by
  have : (List.range xs.length).find? (fun k => !(shapeErrAt xs k == 0)) = none := by
    rw [List.find?_range_eq_none]
    intro j hj
    simp [h j hj]
  unfold shapeErr
  rw [this]
theorem isShape_of {xs : List Int} (h : shapeErr xs = 0) : IsShape xs := by
  intro j hj
  rcases hf : (List.range xs.length).find? (fun k => !(shapeErrAt xs k == 0)) with _ | k
  · rw [List.find?_range_eq_none] at hf
    simpa using hf j hj
  · unfold shapeErr at h
    rw [hf] at h
    simp only at h
    rw [List.find?_range_eq_some] at hf
    simp [h] at hf
theorem shapeErr_iff {xs : List Int} : shapeErr xs = 0 ↔ IsShape xs := ⟨isShape_of, shapeErr_ok⟩

theorem shapeErrAt_zero {xs : List Int} {k : Nat} (h : shapeErrAt xs k = 0) : 1 ≤ xs.getD k 0 ∧ xs.getD k 0 ≤ 12 ∧ (0 < k → xs.getD k 0 ≤ xs.getD (k - 1) 0) ∧ (xs.take (k + 1)).sum ≤ 12 := by
  unfold shapeErrAt at h
  split at h
  · cases h
  · split at h
    · cases h
    · split at h
      · cases h
      · refine ⟨by omega, by omega, fun h0 => by omega, by omega⟩
theorem shapeErrAt_mk {xs : List Int} {k : Nat} (h1 : 1 ≤ xs.getD k 0) (h2 : xs.getD k 0 ≤ 12) (h3 : 0 < k → xs.getD k 0 ≤ xs.getD (k - 1) 0) (h4 : (xs.take (k + 1)).sum ≤ 12) : shapeErrAt xs k = 0 := by
  unfold shapeErrAt
  rw [if_neg (by omega), if_neg (fun h => by have := h3 h.1; omega), if_neg (by omega)]
theorem IsShape.part {xs : List Int} (h : IsShape xs) : IsPart xs := by
  intro j hj
  obtain ⟨h1, h2, h3, h4⟩ := shapeErrAt_zero (h j hj)
  exact partErrAt_mk h1 (by omega) h3 (by omega)

/-! ### All shapes of up to so many cells -/
/-- With f as fuel: all that fall, from x on, of up to s together. -/
def shpUp (g : Nat → Nat → List (List Int)) (s : Nat) : Nat → List (List Int)
  | 0 => []
  | x + 1 => (if x + 1 ≤ s then (g (s - (x + 1)) (x + 1)).map (fun l => ((x + 1 : Nat) : Int) :: l) else []) ++ shpUp g s x
def shps : Nat → Nat → Nat → List (List Int)
  | 0, _, _ => [[]]
  | f + 1, s, m => [] :: shpUp (shps f) s m
theorem mem_shpUp (g : Nat → Nat → List (List Int)) (s : Nat) {x : Nat} {l : List Int} : ∀ m, 1 ≤ x → x ≤ m → x ≤ s → l ∈ g (s - x) x → ((x : Nat) : Int) :: l ∈ shpUp g s m
  | 0, h1, h2, _, _ => by omega
  | m + 1, h1, h2, h3, h4 => by
    rw [shpUp]
    by_cases e : x = m + 1
    · subst e
      rw [if_pos h3]
      exact List.mem_append_left _ (List.mem_map.2 ⟨l, h4, rfl⟩)
    · exact List.mem_append_right _ (mem_shpUp g s m h1 (by omega) h3 h4)
theorem mem_shps : ∀ (l : List Nat) (f s m : Nat), l.length ≤ f → (∀ x ∈ l, 1 ≤ x) → l.Pairwise (· ≥ ·) → (∀ x ∈ l, x ≤ m) → l.sum ≤ s → (l.map (fun n : Nat => (n : Int))) ∈ shps f s m
  | [], 0, _, _, _, _, _, _, _ => by simp [shps]
  | [], f + 1, _, _, _, _, _, _, _ => by simp [shps]
  | x :: l, 0, _, _, h, _, _, _, _ => by simp at h
  | x :: l, f + 1, s, m, h, h1, hp, hm, hs => by
    rw [List.pairwise_cons] at hp
    rw [List.sum_cons] at hs
    rw [shps, List.map_cons]
    refine List.mem_cons_of_mem _ (mem_shpUp _ s m (h1 x (by simp)) (hm x (by simp)) (by omega) ?_)
    exact mem_shps l f (s - x) x (by simpa using h) (fun y hy => h1 y (by simp [hy])) hp.2 (fun y hy => hp.1 y hy) (by omega)

def allShapes : List (List Int) := shps 12 12 12

theorem IsPart.nats {xs : List Int} (h : IsPart xs) : ∃ l : List Nat, xs = l.map (fun n : Nat => (n : Int)) ∧ (∀ x ∈ l, 1 ≤ x) ∧ l.Pairwise (· ≥ ·) := by
  refine ⟨xs.map Int.toNat, ?_, ?_, ?_⟩
  · rw [List.map_map]
    apply List.ext_getElem (by simp)
    intro i h1 h2
    have := h.ge (j := i) (by simpa using h1)
    rw [List.getD_eq_getElem?_getD, List.getElem?_eq_getElem h1] at this
    simp only [Option.getD_some] at this
    simp
    omega
  · intro x hx
    obtain ⟨y, hy, rfl⟩ := List.mem_map.1 hx
    obtain ⟨i, hi, rfl⟩ := List.getElem_of_mem hy
    have := h.ge hi
    rw [List.getD_eq_getElem?_getD, List.getElem?_eq_getElem hi] at this
    simp only [Option.getD_some] at this
    omega
  · rw [List.pairwise_iff_getElem]
    intro i j hi hj hij
    have := h.mono (Nat.le_of_lt hij) (by simpa using hj)
    rw [List.getD_eq_getElem?_getD, List.getD_eq_getElem?_getD, List.getElem?_eq_getElem (by simpa using hj), List.getElem?_eq_getElem (by simpa using hi)] at this
    simp only [Option.getD_some] at this
    simp
    omega
theorem sum_nats (l : List Nat) : (l.map (fun n : Nat => (n : Int))).sum = (l.sum : Int) := by
  induction l with
  | nil => rfl
  | cons x l ih => rw [List.map_cons, List.sum_cons, List.sum_cons, ih]; omega
theorem len_le_sum : ∀ (l : List Nat), (∀ x ∈ l, 1 ≤ x) → l.length ≤ l.sum
  | [], _ => by simp
  | x :: l, h => by
    have := len_le_sum l (fun y hy => h y (by simp [hy]))
    have := h x (by simp)
    rw [List.sum_cons, List.length_cons]
    omega
theorem le_sum_of_mem : ∀ (l : List Nat) (x : Nat), x ∈ l → x ≤ l.sum
  | y :: l, x, h => by
    rw [List.sum_cons]
    rcases List.mem_cons.1 h with rfl | h
    · omega
    · have := le_sum_of_mem l x h
      omega
theorem IsShape.sum_le {xs : List Int} (h : IsShape xs) : xs.sum ≤ 12 := by
  rcases Nat.eq_zero_or_pos xs.length with h0 | h0
  · have : xs = [] := List.eq_nil_of_length_eq_zero h0
    subst this
    simp
  · have := (shapeErrAt_zero (h (xs.length - 1) (by omega))).2.2.2
    rwa [show xs.length - 1 + 1 = xs.length by omega, List.take_of_length_le (Nat.le_refl _)] at this
theorem IsShape.mem {xs : List Int} (h : IsShape xs) : xs ∈ allShapes := by
  obtain ⟨l, rfl, h1, h2⟩ := h.part.nats
  have hs := h.sum_le
  rw [sum_nats] at hs
  have := len_le_sum l h1
  exact mem_shps l 12 12 12 (by omega) h1 h2 (fun x hx => by have := le_sum_of_mem l x hx; omega) (by omega)

/-! ### Hooks -/
/-- The hook of a cell, in the program's own spelling. -/
def hk (xs : List Int) (i j : Nat) : Int := xs.getD i 0 - (j : Int) + (conj xs).getD j 0 - (i : Int) - 1
def rowP (xs : List Int) (i : Nat) : Nat → Int
  | 0 => 1
  | j + 1 => rowP xs i j * hk xs i j
def colP (xs : List Int) : Nat → Int
  | 0 => 1
  | i + 1 => colP xs i * rowP xs i (xs.getD i 0).toNat
/-- How many tableaux, by hooks. -/
def cntS (xs : List Int) : Int := ((fact xs.sum.toNat : Nat) : Int) / colP xs xs.length

/-- All hooks of a shape are within 1 .. 24. -/
def hooksGood (xs : List Int) : Bool := (List.range xs.length).all fun i => (List.range (xs.getD i 0).toNat).all fun j => decide (1 ≤ hk xs i j) && decide (hk xs i j ≤ 12)
/-- A corner taken away. -/
def lessAt (xs : List Int) (i : Nat) : List Int := if xs.getD i 0 = 1 then xs.take i else xs.set i (xs.getD i 0 - 1)
def corner (xs : List Int) (i : Nat) : Bool := decide (i + 1 = xs.length) || decide (xs.getD (i + 1) 0 < xs.getD i 0)
def lessSum (xs : List Int) : Nat → Int
  | 0 => 0
  | i + 1 => lessSum xs i + (if corner xs i then cntS (lessAt xs i) else 0)
def cntGood (xs : List Int) : Bool := decide (1 ≤ cntS xs) && decide (cntS xs ≤ 7700) && (decide (xs = []) || decide (cntS xs = lessSum xs xs.length)) && (List.range xs.length).all (fun i => !corner xs i || decide (shapeErr (lessAt xs i) = 0 ∧ (lessAt xs i).sum + 1 = xs.sum))

set_option maxRecDepth 100000 in
theorem hooks_all : allShapes.all hooksGood = true := by decide +kernel
set_option maxRecDepth 100000 in
theorem cnts_all : allShapes.all cntGood = true := by decide +kernel

end Go.Proofs.Ytcnljljgdkjndaa
