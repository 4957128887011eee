/-
  The verifier's helpers: castref.Rest, castkeep.Within, castref.Dealt, castkeep.PermOf: an order made of lots.
-/
import Derived.Test.YteegddpoekphoaaDoorOwn
namespace Go.Proofs.YteegddpoekphoaaDoor
open Go.RowKit

/-- One lot: the next number is put behind, and changes places. -/
def swapAt (l : List Int) (i j : Nat) : List Int := (l.set i (l.getD j 0)).set j (l.getD i 0)
def dealStep (p : List Int) (x : Int) : List Int := swapAt (p ++ [(p.length : Int)]) p.length x.toNat
def dealt (lots : List Int) : List Int := lots.foldl dealStep []

theorem length_swapAt (l : List Int) (i j : Nat) : (swapAt l i j).length = l.length := by simp [swapAt]
theorem length_dealStep (p : List Int) (x : Int) : (dealStep p x).length = p.length + 1 := by simp [dealStep, length_swapAt]

theorem getD_set (l : List Int) (i j : Nat) (x : Int) : (l.set i x).getD j 0 = if j = i ∧ i < l.length then x else l.getD j 0 := by
  simp only [List.getD_eq_getElem?_getD, List.getElem?_set]
  by_cases h : i = j
  · subst h
    by_cases h2 : i < l.length
    · simp [h2]
    · simp [h2]
  · have h' : ¬ j = i := fun e => h e.symm
    simp [h, h']

theorem getD_swapAt {l : List Int} {i j : Nat} (hi : i < l.length) (hj : j < l.length) (k : Nat) :
    (swapAt l i j).getD k 0 = if k = j then l.getD i 0 else if k = i then l.getD j 0 else l.getD k 0 := by
  unfold swapAt
  rw [getD_set, getD_set, List.length_set]
  by_cases h1 : k = j
  · rw [if_pos ⟨h1, hj⟩, if_pos h1]
  · rw [if_neg (fun h => h1 h.1), if_neg h1]
    by_cases h2 : k = i
    · rw [if_pos ⟨h2, hi⟩, if_pos h2]
    · rw [if_neg (fun h => h2 h.1), if_neg h2]

theorem mem_swapAt {l : List Int} {i j : Nat} (hi : i < l.length) (hj : j < l.length) {x : Int} (hx : x ∈ l) : x ∈ swapAt l i j := by
  obtain ⟨k, hk, rfl⟩ := mem_getD hx
  have hget : ∀ m, m < l.length → (swapAt l i j).getD m 0 ∈ swapAt l i j := fun m hm => getD_mem (by rw [length_swapAt]; exact hm)
  by_cases h1 : k = i
  · subst h1
    have := hget j hj
    rwa [getD_swapAt hi hj, if_pos rfl] at this
  · by_cases h2 : k = j
    · subst h2
      have := hget i hi
      rw [getD_swapAt hi hj] at this
      by_cases e : i = k
      · exact absurd e.symm h1
      · rwa [if_neg e, if_pos rfl] at this
    · have := hget k hk
      rwa [getD_swapAt hi hj, if_neg h2, if_neg h1] at this

theorem isPerm_swapAt {l : List Int} {i j : Nat} (h : IsPerm l) (hi : i < l.length) (hj : j < l.length) : IsPerm (swapAt l i j) :=
  isPerm_of_all fun k hk => mem_swapAt hi hj (h.all k (by rw [length_swapAt] at hk; exact hk))

theorem isPerm_snoc {p : List Int} (h : IsPerm p) : IsPerm (p ++ [(p.length : Int)]) :=
  isPerm_of_all fun k hk => by
    simp only [List.length_append, List.length_cons, List.length_nil] at hk
    by_cases e : k = p.length
    · simp [e]
    · exact List.mem_append.2 (.inl (h.all k (by omega)))

theorem isPerm_dealStep {p : List Int} {x : Int} (h : IsPerm p) (h1 : x ≤ p.length) : IsPerm (dealStep p x) :=
  isPerm_swapAt (isPerm_snoc h) (by simp) (by simp; omega)

theorem dealt_snoc (l : List Int) (x : Int) : dealt (l ++ [x]) = dealStep (dealt l) x := by simp [dealt, List.foldl_append]
theorem length_foldl_deal (l p : List Int) : (l.foldl dealStep p).length = p.length + l.length := by
  induction l generalizing p with
  | nil => simp
  | cons a t ih => rw [List.foldl_cons, ih, length_dealStep, List.length_cons]; omega
theorem length_dealt (l : List Int) : (dealt l).length = l.length := by rw [dealt, length_foldl_deal]; simp

/-- Lots: each from 0 to its place. -/
def IsLots (l : List Int) : Prop := ∀ i, i < l.length → 0 ≤ l.getD i 0 ∧ l.getD i 0 ≤ i

theorem take_snoc {l : List Int} {k : Nat} (hk : k < l.length) : l.take (k + 1) = l.take k ++ [l.getD k 0] := by
  rw [List.take_succ_eq_append_getElem hk, List.getD_eq_getElem?_getD, List.getElem?_eq_getElem hk]
  rfl

theorem isPerm_dealt_take {l : List Int} (h : IsLots l) : ∀ k, k ≤ l.length → IsPerm (dealt (l.take k))
  | 0, _ => isPerm_of_all fun i hi => by simp [dealt] at hi
  | k + 1, hk => by
    rw [take_snoc (by omega), dealt_snoc]
    refine isPerm_dealStep (isPerm_dealt_take h k (by omega)) ?_
    rw [length_dealt, List.length_take]
    have := h k (by omega)
    omega
theorem isPerm_dealt {l : List Int} (h : IsLots l) : IsPerm (dealt l) := by
  have := isPerm_dealt_take h l.length (Nat.le_refl _)
  rwa [List.take_of_length_le (Nat.le_refl _)] at this

theorem ret_int {k : IntKind} {a b : Int} (h : a = b) : Ending.returned (.int k a) = .returned (.int k b) := by rw [h]

/-! ### Rest, Within -/

theorem emod_of_tmod_neg {x m : Int} (hm : 0 < m) (h : x.tmod m < 0) : x.tmod m + m = x % m := by
  have h1 := Int.tmod_eq_emod (a := x) (b := m)
  have h2 := Int.emod_nonneg x (show m ≠ 0 by omega)
  have h3 := Int.emod_lt_of_pos x hm
  rw [h1] at h ⊢
  split at h
  · omega
  · rename_i hc
    rw [if_neg hc]
    omega
theorem emod_of_tmod_pos {x m : Int} (hm : 0 < m) (h : 0 ≤ x.tmod m) : x.tmod m = x % m := by
  have h1 := Int.tmod_eq_emod (a := x) (b := m)
  have h2 := Int.emod_nonneg x (show m ≠ 0 by omega)
  have h3 := Int.emod_lt_of_pos x hm
  rw [h1] at h ⊢
  split at h
  · rename_i hc
    rw [if_pos hc]
    omega
  · rename_i hc
    rw [if_neg hc]
    omega

set_option maxHeartbeats 400000 in
theorem rest_any (x m : Int) (w : World) (hm : 0 < m) (hm2 : m ≤ 4611686018427387904) :
    Calls Tryd.prog 37 #[.int .i64 x, .int .i64 m] w fun e w' => e = .returned (.int .i64 (x % m)) ∧ w = w' := by
  have h1 : x.tmod m < m := Int.tmod_lt_of_pos x hm
  have h2 : -m < x.tmod m := by have := Int.lt_tmod_of_pos x hm; omega
  have hne : (m == 0) = false := by simp; omega
  have hw : IntKind.i64.wrap (x.tmod m) = x.tmod m := IntWalk.i64_in _ (by omega)
  by_cases hneg : x.tmod m < 0
  · have HE := hid (emod_of_tmod_neg hm hneg)
    generalize hr : x.tmod m = r at *
    go_enter Tryd.func37, Tryd.ntmps37
    go_wp2
    go_ret
    exact ⟨ret_int HE.out, rfl⟩
  · have hpos : 0 ≤ x.tmod m := by omega
    have HE := hid (emod_of_tmod_pos hm hpos)
    clear hneg
    generalize hr : x.tmod m = r at *
    go_enter Tryd.func37, Tryd.ntmps37
    go_wp2
    go_ret
    exact ⟨ret_int HE.out, rfl⟩

set_option maxHeartbeats 400000 in
theorem within_any (x m : Int) (w : World) (hm : 0 < m) (hm2 : m ≤ 4611686018427387904) :
    Calls Tryd.prog 31 #[.int .i64 x, .int .i64 m] w fun e w' => e = .returned (.int .i64 (x % m)) ∧ w = w' := by
  go_enter Tryd.func31, Tryd.ntmps31
  go_wp2_with fail
  refine (rest_any x m _ hm hm2).mono ?_
  rintro e w' ⟨rfl, rfl⟩
  go_wp2
  go_ret
  exact ⟨rfl, rfl⟩

/-! ### Dealt -/

def RetOwn (w : World) (ys : List Int) (e : Ending) (w' : World) : Prop := ∃ v, e = .returned v ∧ OwnInts w' w.heap.size v ys ∧ Below w.heap.size w w'

/-! ### PermOf -/

/-- The lots that PermOf makes of any numbers. -/
def lotsOf (xs : List Int) : List Int := (List.range xs.length).map (fun i : Nat => xs.getD i 0 % ((i : Int) + 1))
theorem length_lotsOf (xs : List Int) : (lotsOf xs).length = xs.length := by simp [lotsOf]
theorem getD_lotsOf {xs : List Int} {i : Nat} (h : i < xs.length) : (lotsOf xs).getD i 0 = xs.getD i 0 % ((i : Int) + 1) := by
  simp [lotsOf, List.getD_eq_getElem?_getD, h]
theorem isLots_lotsOf (xs : List Int) : IsLots (lotsOf xs) := by
  intro i hi
  rw [length_lotsOf] at hi
  rw [getD_lotsOf hi]
  have h1 := Int.emod_nonneg (xs.getD i 0) (show ((i : Int) + 1) ≠ 0 by omega)
  have h2 := Int.emod_lt_of_pos (xs.getD i 0) (show 0 < ((i : Int) + 1) by omega)
  omega

theorem Ints.take {w : World} {A : Option Addr} {n m : Nat} {xs : List Int} (h : Ints w A n xs) (hm : m ≤ n) : Ints w A m (xs.take m) := by
  refine ⟨by rw [List.length_take, h.len]; omega, fun hp => ?_⟩
  obtain ⟨b, o, e, hb, hc⟩ := h.row (by omega)
  refine ⟨b, o, e, hb, fun j hj => ?_⟩
  rw [hc j (by omega)]
  simp [List.getD_eq_getElem?_getD, hj]

end Go.Proofs.YteegddpoekphoaaDoor
