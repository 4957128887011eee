/-
  Lots and orders: plain mathematics. Nothing of the program is proved here.
-/
import Derived.Test.YtmdpfadfimodjaaDeal
import Derived.Test.YtmdpfadfimodjaaBlkM
import Derived.Test.YtmdpfadfimodjaaSgn
namespace Go.Proofs.Ytmdpfadfimodjaa
open Go.RowKit

/-- What is wrong with a row of lots. -/
def lotsErr (l : List Int) : Int := if 10 < l.length then 2 else if ∀ i, i < l.length → 0 ≤ l.getD i 0 ∧ l.getD i 0 ≤ i then 0 else 1
theorem lotsErr_large {l : List Int} (h : 10 < l.length) : lotsErr l = 2 := if_pos h
theorem lotsErr_good {l : List Int} (h : l.length ≤ 10) (hl : IsLots l) : lotsErr l = 0 := by
  unfold lotsErr
  rw [if_neg (by omega), if_pos (show ∀ i, i < l.length → 0 ≤ l.getD i 0 ∧ l.getD i 0 ≤ i from hl)]
theorem lotsErr_bad {l : List Int} (h : l.length ≤ 10) (hl : ¬ IsLots l) : lotsErr l = 1 := by
  unfold lotsErr
  rw [if_neg (by omega), if_neg (show ¬ ∀ i, i < l.length → 0 ≤ l.getD i 0 ∧ l.getD i 0 ≤ i from hl)]
theorem lotsErr_ok {l : List Int} : lotsErr l = 0 ↔ l.length ≤ 10 ∧ IsLots l := by
  constructor
  · intro h
    by_cases c : 10 < l.length
    · rw [lotsErr_large c] at h; cases h
    · refine ⟨by omega, ?_⟩
      by_cases k : IsLots l
      · exact k
      · rw [lotsErr_bad (by omega) k] at h; cases h
  · rintro ⟨h, k⟩
    exact lotsErr_good h k

/-- What Deal hands out. -/
def dealX (l : List Int) : List Int := if lotsErr l = 0 then dealt l else []
theorem dealX_ok {l : List Int} (h : lotsErr l = 0) : dealX l = dealt l := if_pos h
theorem dealX_bad {l : List Int} (h : lotsErr l ≠ 0) : dealX l = [] := if_neg h

theorem getD_app_len {p : List Int} {x : Int} : (p ++ [x]).getD p.length 0 = x := by simp [List.getD_eq_getElem?_getD]
theorem getD_app_lt {p : List Int} {x : Int} {j : Nat} (h : j < p.length) : (p ++ [x]).getD j 0 = p.getD j 0 := by simp [List.getD_eq_getElem?_getD, h, List.getElem?_append_left]

/-- A step of a deal, place by place. -/
theorem getD_dealStep {p : List Int} {m j : Nat} (hm : m ≤ p.length) (hj : j ≤ p.length) : (dealStep p (m : Int)).getD j 0 = if j = m then (p.length : Int) else if j = p.length then p.getD m 0 else p.getD j 0 := by
  unfold dealStep
  rw [Int.toNat_natCast, getD_swapAt (by simp) (by simp; omega) j]
  by_cases h1 : j = m
  · rw [if_pos h1, if_pos h1, getD_app_len]
  · rw [if_neg h1, if_neg h1]
    by_cases h2 : j = p.length
    · rw [if_pos h2, if_pos h2]
      exact getD_app_lt (by omega)
    · rw [if_neg h2, if_neg h2]
      exact getD_app_lt (by omega)

/-- A step taken back: the greatest number lies at m. -/
def undo (q : List Int) (k m : Nat) : List Int := (q.set m (q.getD k 0)).take k
theorem length_undo {q : List Int} {k m : Nat} (h : q.length = k + 1) : (undo q k m).length = k := by
  unfold undo
  rw [List.length_take, List.length_set, h]; omega
theorem getD_undo {q : List Int} {k m j : Nat} (h : q.length = k + 1) (_hm : m ≤ k) (hj : j < k) : (undo q k m).getD j 0 = if j = m then q.getD k 0 else q.getD j 0 := by
  unfold undo
  have : ((q.set m (q.getD k 0)).take k).getD j 0 = (q.set m (q.getD k 0)).getD j 0 := by
    generalize q.set m (q.getD k 0) = r
    rw [List.getD_eq_getElem?_getD, List.getD_eq_getElem?_getD, List.getElem?_take, if_pos hj]
  rw [this, getD_set]
  by_cases e : j = m
  · rw [if_pos ⟨e, by omega⟩, if_pos e]
  · rw [if_neg (fun h => e h.1), if_neg e]

theorem undo_dealStep {p : List Int} {k m : Nat} (h : p.length = k) (hm : m ≤ k) : undo (dealStep p (m : Int)) k m = p := by
  have hl : (dealStep p (m : Int)).length = k + 1 := by rw [length_dealStep, h]
  refine ext_getD (by rw [length_undo hl, h]) fun j hj => ?_
  rw [length_undo hl] at hj
  rw [getD_undo hl hm hj, getD_dealStep (by omega) (by omega), getD_dealStep (by omega) (by omega)]
  by_cases e : j = m
  · subst e
    rw [if_pos rfl, if_neg (by omega), if_pos h.symm]
  · rw [if_neg e, if_neg e, if_neg (by omega)]

theorem dealStep_undo {q : List Int} {k m : Nat} (h : q.length = k + 1) (hm : m ≤ k) (hk : q.getD m 0 = (k : Int)) : dealStep (undo q k m) (m : Int) = q := by
  have hl := length_undo (m := m) h
  refine ext_getD (by rw [length_dealStep, hl, h]) fun j hj => ?_
  rw [length_dealStep, hl] at hj
  rw [getD_dealStep (by omega) (by omega), hl]
  by_cases e : j = m
  · subst e
    rw [if_pos rfl, hk]
  · rw [if_neg e]
    by_cases e2 : j = k
    · subst e2
      rw [if_pos rfl, getD_undo h hm (by omega), if_pos rfl]
    · rw [if_neg e2, getD_undo h hm (by omega), if_neg e]

theorem isPerm_undo {q : List Int} {k m : Nat} (h : q.length = k + 1) (hq : IsPerm q) (hm : m ≤ k) (hk : q.getD m 0 = (k : Int)) : IsPerm (undo q k m) := by
  have hl := length_undo (m := m) h
  refine isPerm_of_all fun i hi => ?_
  rw [hl] at hi
  obtain ⟨a, ha, he⟩ := mem_getD (hq.all i (by omega))
  have ham : a ≠ m := by
    rintro rfl
    rw [hk] at he
    omega
  by_cases hak : a < k
  · have := getD_undo h hm hak
    rw [if_neg ham, he] at this
    rw [← this]
    exact getD_mem (by omega)
  · obtain rfl : a = k := by omega
    have := getD_undo (j := m) h hm (by omega)
    rw [if_pos rfl, he] at this
    rw [← this]
    exact getD_mem (by omega)

/-- The lots of an order of k numbers. -/
def unlots : Nat → List Int → List Int
  | 0, _ => []
  | k + 1, q => unlots k (undo q k (ixf q (k : Int))) ++ [((ixf q (k : Int) : Nat) : Int)]

theorem length_unlots : ∀ (k : Nat) (q : List Int), (unlots k q).length = k
  | 0, _ => rfl
  | k + 1, q => by unfold unlots; rw [List.length_append, length_unlots k]; rfl

theorem isPerm_last {q : List Int} {k : Nat} (h : q.length = k + 1) (hq : IsPerm q) : FirstAt q (k : Int) (ixf q (k : Int)) := ixf_first (hq.all k (by omega))

theorem dealt_unlots : ∀ (k : Nat) (q : List Int), q.length = k → IsPerm q → dealt (unlots k q) = q ∧ IsLots (unlots k q)
  | 0, q, h, _ => by
    obtain rfl := List.eq_nil_of_length_eq_zero h
    exact ⟨rfl, fun i hi => by simp [unlots] at hi⟩
  | k + 1, q, h, hq => by
    have hf := isPerm_last h hq
    have hm : ixf q (k : Int) ≤ k := by have := hf.1; omega
    have hU : unlots (k + 1) q = unlots k (undo q k (ixf q (k : Int))) ++ [((ixf q (k : Int) : Nat) : Int)] := rfl
    rw [hU]
    generalize ixf q (k : Int) = m at *
    obtain ⟨i1, i2⟩ := dealt_unlots k (undo q k m) (length_undo h) (isPerm_undo h hq hm hf.2.1)
    refine ⟨by rw [dealt_snoc, i1]; exact dealStep_undo h hm hf.2.1, fun i hi => ?_⟩
    have hl := length_unlots k (undo q k m)
    rw [List.length_append, hl] at hi
    simp only [List.length_cons, List.length_nil] at hi
    by_cases e : i < k
    · rw [getD_app_lt (by omega)]
      exact i2 i (by omega)
    · obtain rfl : i = k := by omega
      have : (unlots i (undo q i m) ++ [(m : Int)]).getD i 0 = (m : Int) := by
        have := getD_app_len (p := unlots i (undo q i m)) (x := (m : Int))
        rwa [hl] at this
      rw [this]
      omega

theorem isLots_take {l : List Int} (h : IsLots l) (k : Nat) : IsLots (l.take k) := by
  intro i hi
  rw [List.length_take] at hi
  have : (l.take k).getD i 0 = l.getD i 0 := by rw [List.getD_eq_getElem?_getD, List.getD_eq_getElem?_getD, List.getElem?_take, if_pos (by omega)]
  rw [this]
  exact h i (by omega)

theorem unlots_take {l : List Int} (h : IsLots l) : ∀ k, k ≤ l.length → unlots k (dealt (l.take k)) = l.take k
  | 0, _ => by simp [unlots]
  | k + 1, hk => by
    obtain ⟨m, hm⟩ := Int.eq_ofNat_of_zero_le (h k (by omega)).1
    have hmk : m ≤ k := by have := (h k (by omega)).2; omega
    have hp : (dealt (l.take k)).length = k := by rw [length_dealt, List.length_take]; omega
    have hperm := isPerm_dealt_take h (k + 1) hk
    rw [take_snoc (by omega), dealt_snoc, hm] at hperm ⊢
    have hl : (dealStep (dealt (l.take k)) (m : Int)).length = k + 1 := by rw [length_dealStep, hp]
    have hg : (dealStep (dealt (l.take k)) (m : Int)).getD m 0 = (k : Int) := by rw [getD_dealStep (by omega) (by omega), if_pos rfl, hp]
    have hf := isPerm_last hl hperm
    have hix : ixf (dealStep (dealt (l.take k)) (m : Int)) (k : Int) = m := by
      have h1 := hf.2.1
      have hnd := hperm.nodup
      generalize dealStep (dealt (l.take k)) (m : Int) = q at *
      have ha := hf.1
      generalize ixf q (k : Int) = a at *
      have e1 : q[a]'(by omega) = (k : Int) := by
        rw [List.getD_eq_getElem?_getD, List.getElem?_eq_getElem (by omega)] at h1
        exact h1
      have e2 : q[m]'(by omega) = (k : Int) := by
        rw [List.getD_eq_getElem?_getD, List.getElem?_eq_getElem (by omega)] at hg
        exact hg
      exact (List.getElem_inj hnd).1 (e1.trans e2.symm)
    have hU : ∀ q, unlots (k + 1) q = unlots k (undo q k (ixf q (k : Int))) ++ [((ixf q (k : Int) : Nat) : Int)] := fun _ => rfl
    rw [hU, hix, undo_dealStep hp hmk, unlots_take h k (by omega)]
theorem unlots_dealt {l : List Int} (h : IsLots l) : unlots l.length (dealt l) = l := by
  have := unlots_take h l.length (Nat.le_refl _)
  rwa [List.take_of_length_le (Nat.le_refl _)] at this

/-- What Lots hands out. -/
def lotsX (p : List Int) : List Int := if permErr p = 0 then unlots p.length p else []
theorem lotsX_ok {p : List Int} (h : permErr p = 0) : lotsX p = unlots p.length p := if_pos h
theorem lotsX_bad {p : List Int} (h : permErr p ≠ 0) : lotsX p = [] := if_neg h
theorem length_lotsX {p : List Int} (h : permErr p = 0) : (lotsX p).length = p.length := by rw [lotsX_ok h, length_unlots]

theorem lotsErr_lotsX {p : List Int} (h : permErr p = 0) : lotsErr (lotsX p) = 0 := by
  obtain ⟨h1, h2⟩ := permErr_ok.1 h
  rw [lotsX_ok h]
  exact lotsErr_good (by rw [length_unlots]; exact h1) (dealt_unlots _ p rfl h2).2
theorem dealX_lotsX {p : List Int} (h : permErr p = 0) : dealX (lotsX p) = p := by
  rw [dealX_ok (lotsErr_lotsX h), lotsX_ok h]
  exact (dealt_unlots _ p rfl (permErr_ok.1 h).2).1
theorem dealt_lotsX {p : List Int} (h : permErr p = 0) : dealt (lotsX p) = p := by
  have := dealX_lotsX h
  rwa [dealX_ok (lotsErr_lotsX h)] at this
theorem permErr_dealX {l : List Int} (h : lotsErr l = 0) : permErr (dealX l) = 0 := by
  obtain ⟨h1, h2⟩ := lotsErr_ok.1 h
  rw [dealX_ok h]
  exact permErr_ok.2 ⟨by rw [length_dealt]; exact h1, isPerm_dealt h2⟩
theorem length_dealX {l : List Int} (h : lotsErr l = 0) : (dealX l).length = l.length := by rw [dealX_ok h, length_dealt]
theorem lotsX_dealX {l : List Int} (h : lotsErr l = 0) : lotsX (dealX l) = l := by
  rw [lotsX_ok (permErr_dealX h), length_dealX h, dealX_ok h]
  exact unlots_dealt (lotsErr_ok.1 h).2

end Go.Proofs.Ytmdpfadfimodjaa
