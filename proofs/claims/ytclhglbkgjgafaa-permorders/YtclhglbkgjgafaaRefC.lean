/-
  The verifier's castref.CyclesOf and castref.OrderOf.
-/
import Derived.Test.YtclhglbkgjgafaaSortO
import Derived.Test.YtclhglbkgjgafaaRefA
import Derived.Test.YtclhglbkgjgafaaCycT
namespace Go.Proofs.Ytclhglbkgjgafaa
open Go.RowKit

/-- The least of the first m numbers met from i on. -/
def lw (p : List Int) (i : Nat) : Nat → Nat
  | 0 => i
  | m + 1 => min (lw p i m) (it p m i)
theorem lw_le (p : List Int) (i : Nat) : ∀ m k, k < m → lw p i m ≤ it p k i
  | m + 1, k, hk => by
    simp only [lw]
    by_cases h : k = m
    · subst h
      exact Nat.min_le_right _ _
    · exact Nat.le_trans (Nat.min_le_left _ _) (lw_le p i m k (by omega))
theorem lw_mem (p : List Int) (i : Nat) : ∀ m, ∃ k, lw p i m = it p k i
  | 0 => ⟨0, rfl⟩
  | m + 1 => by
    simp only [lw]
    rcases Nat.le_total (lw p i m) (it p m i) with h | h
    · rw [Nat.min_eq_left h]
      exact lw_mem p i m
    · rw [Nat.min_eq_right h]
      exact ⟨m, rfl⟩
theorem lw_per {p : List Int} (h : IsPerm p) {i : Nat} (hi : i < p.length) : lw p i (per p i) = lo p i := by
  apply Nat.le_antisymm
  · obtain ⟨k, e⟩ := lo_mem p i
    rw [e, it_mod h hi k]
    exact lw_le p i _ _ (Nat.mod_lt _ (by have := (per_spec h hi).1; omega))
  · obtain ⟨k, e⟩ := lw_mem p i (per p i)
    rw [e]
    exact lo_le h hi k

theorem run_min2 {P : Program} (x y : Nat) (ts : Array TypeId) (t : TypeId) (W : World) :
    (Builtin.min_ ts t #[.int .i64 (x : Int), .int .i64 (y : Int)]).run P W = .ok (.int .i64 ((min x y : Nat) : Int)) W := by
  have e : (if (y : Int) < x then (y : Int) else x) = ((min x y : Nat) : Int) := by split <;> omega
  simp only [Builtin.min_, Builtin.min2, List.foldlM_cons, List.foldlM_nil, pure_bind]
  simp only [e]
  rfl

theorem sorted_reverse {ys : List Int} (h : SortedTo climbs ys ys.length) : SortedTo falls ys.reverse ys.reverse.length := by
  intro u v huv hv
  rw [List.length_reverse] at hv
  have e : ∀ j, j < ys.length → ys.reverse.getD j 0 = ys.getD (ys.length - 1 - j) 0 := fun j hj => by
    rw [List.getD_eq_getElem?_getD, List.getElem?_reverse hj, List.getD_eq_getElem?_getD]
  rw [e u (by omega), e v hv]
  exact h _ _ (by omega) (by omega)

def RetOwnCyc (w : World) (p : List Int) (e : Ending) (w' : World) : Prop := ∃ ys, IsCycles p ys ∧ RetOwn w ys e w'

/-! ### OrderOf -/

/-- p, m times. -/
def pw (p : List Int) (m : Nat) : List Int := (List.range p.length).map (fun i => ((it p m i : Nat) : Int))
theorem length_pw (p : List Int) (m : Nat) : (pw p m).length = p.length := by simp [pw]
theorem getD_pw {p : List Int} {i : Nat} (h : i < p.length) (m : Nat) : (pw p m).getD i 0 = ((it p m i : Nat) : Int) := by simp [pw, List.getD_eq_getElem?_getD, h]
theorem pw_one {p : List Int} (h : IsPerm p) : pw p 1 = p := by
  apply ext_getD (length_pw p 1)
  intro i hi
  rw [length_pw] at hi
  rw [getD_pw hi]
  have := h.range (getD_mem hi)
  show ((nx p i : Nat) : Int) = _
  unfold nx
  omega
theorem pw_succ {p : List Int} (h : IsPerm p) (m : Nat) : times p (pw p m) = pw p (m + 1) := by
  apply ext_getD (by rw [length_times, length_pw, length_pw])
  intro i hi
  rw [length_times, length_pw] at hi
  rw [getD_times (by rw [length_pw]; exact hi), getD_pw hi, getD_pw hi, Int.toNat_natCast]
  have := h.range (getD_mem (it_lt h hi m))
  show _ = ((nx p (it p m i) : Nat) : Int)
  unfold nx
  omega
theorem isPerm_pw {p : List Int} (h : IsPerm p) : ∀ m, 1 ≤ m → IsPerm (pw p m)
  | 1, _ => by rw [pw_one h]; exact h
  | m + 2, _ => by
    rw [← pw_succ h]
    exact isPerm_times h (isPerm_pw h (m + 1) (by omega)) (by rw [length_pw])
theorem pw_range {p : List Int} (h : IsPerm p) (m : Nat) {x : Int} (hx : x ∈ pw p m) : 0 ≤ x ∧ x < p.length := by
  obtain ⟨i, hi, rfl⟩ := List.mem_map.1 hx
  have := it_lt h (List.mem_range.1 hi) m
  omega

theorem sortedTo_of_sortedB {xs : List Int} (h : sortedB xs = true) : SortedTo climbs xs xs.length := by
  have h' := sortedB_true.1 h
  intro u v huv hv
  induction v with
  | zero => omega
  | succ v ih =>
    by_cases e : u = v
    · subst e
      exact h' u hv
    · have h1 := ih (by omega) (by omega)
      have h2 := h' v hv
      unfold climbs at *
      omega
theorem climbs_anti (a b : Int) (h : climbs a b) (h' : climbs b a) : a = b := by unfold climbs at *; omega
theorem sorted_perm {p : List Int} (hp : IsPerm p) (h : sortedB p = true) : p = iota p.length :=
  sorted_unique climbs_anti (pairwise_of_sortedTo (sortedTo_of_sortedB h)) (pairwise_iota _) hp

theorem it_dvd {p : List Int} (h : IsPerm p) {i : Nat} (hi : i < p.length) (m : Nat) : it p m i = i ↔ per p i ∣ m := by
  have hs := per_spec h hi
  rw [it_mod h hi]
  constructor
  · intro e
    apply Nat.dvd_of_mod_eq_zero
    apply Classical.byContradiction
    intro hne
    exact hs.2.2.2 (m % per p i) (by omega) (Nat.mod_lt _ (by omega)) e
  · intro hd
    rw [Nat.mod_eq_zero_of_dvd hd]
    rfl

theorem foldl_lcm_dvd (l : List Int) (a m : Nat) : l.foldl (fun a x => Nat.lcm a x.toNat) a ∣ m ↔ a ∣ m ∧ ∀ x, x ∈ l → x.toNat ∣ m := by
  induction l generalizing a with
  | nil => simp
  | cons y t ih =>
    rw [List.foldl_cons, ih]
    constructor
    · rintro ⟨h1, h2⟩
      refine ⟨Nat.dvd_trans (Nat.dvd_lcm_left _ _) h1, fun x hx => ?_⟩
      rcases List.mem_cons.1 hx with rfl | hx
      · exact Nat.dvd_trans (Nat.dvd_lcm_right _ _) h1
      · exact h2 x hx
    · rintro ⟨h1, h2⟩
      exact ⟨Nat.lcm_dvd h1 (h2 y (by simp)), fun x hx => h2 x (by simp [hx])⟩
theorem ordL_dvd (l : List Int) (m : Nat) : ordL l ∣ m ↔ ∀ x, x ∈ l → x.toNat ∣ m := by
  unfold ordL
  rw [foldl_lcm_dvd]
  simp

/-- p done m times lets each go to itself just where its order divides m. -/
theorem pw_sorted {p : List Int} (h : IsPerm p) {m : Nat} (hm : 1 ≤ m) : sortedB (pw p m) = true ↔ ordL (cycL p p.length) ∣ m := by
  rw [ordL_dvd]
  constructor
  · intro hs x hx
    obtain ⟨i, hi, rfl⟩ := List.mem_map.1 hx
    have hi' := List.mem_range.1 (List.mem_filter.1 hi).1
    rw [Int.toNat_natCast]
    rw [← it_dvd h hi']
    have e := sorted_perm (isPerm_pw h m hm) hs
    have e2 := congrArg (fun l : List Int => l.getD i 0) e
    simp only [length_pw] at e2
    rw [getD_pw hi', getD_iota hi'] at e2
    omega
  · intro hd
    have e : pw p m = iota p.length := by
      apply ext_getD (by rw [length_pw, length_iota])
      intro i hi
      rw [length_pw] at hi
      rw [getD_pw hi, getD_iota hi]
      have hl := lo_eq h hi rfl
      have hmem : ((per p (lo p i) : Nat) : Int) ∈ cycL p p.length := List.mem_map.2 ⟨lo p i, List.mem_filter.2 ⟨List.mem_range.2 hl.1, by simp [hl.2.1]⟩, rfl⟩
      have h1 := hd _ hmem
      rw [Int.toNat_natCast] at h1
      obtain ⟨_, _, k, _, ek⟩ := hl
      have h2 := per_it h (lo_lt h hi) k
      rw [ek] at h2
      rw [← h2] at h1
      rw [(it_dvd h hi m).2 h1]
    rw [e]
    exact sorted_iota _

theorem ordL_bound {p : List Int} (h : IsPerm p) (hl : p.length ≤ 10) : 1 ≤ ordL (cycL p p.length) ∧ ordL (cycL p p.length) ≤ 10000000000 := by
  have hb := ordL_take_bound (l := cycL p p.length) (fun x hx => by have := mem_cycL h hx; omega) (cycL p p.length).length (Nat.le_refl _)
  rw [List.take_of_length_le (Nat.le_refl _)] at hb
  refine ⟨hb.1, Nat.le_trans hb.2 ?_⟩
  have : 10 ^ (cycL p p.length).length ≤ 10 ^ 10 := Nat.pow_le_pow_right (by omega) (Nat.le_trans (length_cycL_le p p.length) hl)
  simpa using this

end Go.Proofs.Ytclhglbkgjgafaa
