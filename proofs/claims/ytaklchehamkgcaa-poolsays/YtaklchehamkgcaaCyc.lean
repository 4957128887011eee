/-
  Plain facts on the cycles of a permutation given as a list. No program, no memory.
-/
import Derived.Test.YtaklchehamkgcaaPlain
import Derived.Test.YtaklchehamkgcaaRows
namespace Go.Proofs.Ytaklchehamkgcaa

def nx (p : List Int) (i : Nat) : Nat := (p.getD i 0).toNat
/-- k steps from i. -/
def it (p : List Int) : Nat → Nat → Nat
  | 0, i => i
  | k + 1, i => nx p (it p k i)

theorem length_le_of_nodup {l : List Nat} {n : Nat} (hn : l.Nodup) (hl : ∀ x, x ∈ l → x < n) : l.length ≤ n := by
  by_cases h : l.length ≤ n
  · exact h
  · have := (perm_of_nodup_subset (l := l) (l' := List.range n) hn (fun x hx => List.mem_range.2 (hl x hx)) (by simp; omega)).length_eq
    simp at this
    omega

section
variable {p : List Int}

theorem nx_lt (h : IsPerm p) {i : Nat} (hi : i < p.length) : nx p i < p.length := by
  have := h.range (getD_mem hi)
  unfold nx
  omega
theorem nx_inj (h : IsPerm p) {i j : Nat} (hi : i < p.length) (hj : j < p.length) (e : nx p i = nx p j) : i = j := by
  have h1 := h.range (getD_mem hi)
  have h2 := h.range (getD_mem hj)
  have e' : p.getD i 0 = p.getD j 0 := by unfold nx at e; omega
  have hn := nodup_iff_getD.1 h.nodup
  rcases Nat.lt_trichotomy i j with hlt | he | hgt
  · exact absurd e' (hn i j hlt hj)
  · exact he
  · exact absurd e'.symm (hn j i hgt hi)

theorem it_lt (h : IsPerm p) {i : Nat} (hi : i < p.length) (k : Nat) : it p k i < p.length := by
  induction k with
  | zero => exact hi
  | succ k ih => exact nx_lt h ih
theorem it_add (p : List Int) (a b i : Nat) : it p (a + b) i = it p a (it p b i) := by
  induction a with
  | zero => simp [it]
  | succ a ih => rw [Nat.succ_add]; simp only [it]; rw [ih]
theorem it_inj (h : IsPerm p) {i j : Nat} (hi : i < p.length) (hj : j < p.length) (k : Nat) (e : it p k i = it p k j) : i = j := by
  induction k with
  | zero => exact e
  | succ k ih => exact ih (nx_inj h (it_lt h hi k) (it_lt h hj k) e)

theorem it_back (h : IsPerm p) {i : Nat} (hi : i < p.length) : ∃ k, 1 ≤ k ∧ k ≤ p.length ∧ it p k i = i := by
  apply Classical.byContradiction
  intro hno
  have hd : ((List.range (p.length + 1)).map (fun k => it p k i)).Nodup := by
    rw [List.nodup_iff_pairwise_ne, List.pairwise_map]
    have hr := List.pairwise_lt_range (n := p.length + 1)
    refine List.Pairwise.imp_of_mem ?_ hr
    intro a b ha hb hab e
    have hb' := List.mem_range.1 hb
    refine hno ⟨b - a, by omega, by omega, ?_⟩
    have e2 : it p b i = it p a (it p (b - a) i) := by rw [← it_add]; congr 1; omega
    exact (it_inj h hi (it_lt h hi _) a (e.trans e2)).symm
  have := length_le_of_nodup hd (n := p.length) (fun x hx => by
    obtain ⟨k, _, rfl⟩ := List.mem_map.1 hx
    exact it_lt h hi k)
  simp at this
  omega

/-- How many steps it takes to come back. -/
def per (p : List Int) (i : Nat) : Nat := ((List.range p.length).find? (fun k => decide (it p (k + 1) i = i))).getD 0 + 1

theorem per_spec (h : IsPerm p) {i : Nat} (hi : i < p.length) : 1 ≤ per p i ∧ per p i ≤ p.length ∧ it p (per p i) i = i ∧ ∀ k, 1 ≤ k → k < per p i → it p k i ≠ i := by
  obtain ⟨k, h1, h2, h3⟩ := it_back h hi
  unfold per
  cases hf : (List.range p.length).find? (fun k => decide (it p (k + 1) i = i)) with
  | none =>
    have := List.find?_eq_none.1 hf (k - 1) (List.mem_range.2 (by omega))
    rw [show k - 1 + 1 = k by omega] at this
    simp [h3] at this
  | some m =>
    rw [List.find?_range_eq_some] at hf
    obtain ⟨ha, hb, hc⟩ := hf
    have hb' := List.mem_range.1 hb
    refine ⟨by omega, by simp; omega, by simpa using ha, fun k hk1 hk2 => ?_⟩
    simp only [Option.getD_some] at hk2
    have := hc (k - 1) (by omega)
    rw [show k - 1 + 1 = k by omega] at this
    simpa using this

theorem it_mul (h : IsPerm p) {i : Nat} (hi : i < p.length) (t : Nat) : it p (t * per p i) i = i := by
  induction t with
  | zero => simp [it]
  | succ t ih => rw [Nat.succ_mul, it_add, (per_spec h hi).2.2.1, ih]
theorem it_mod (h : IsPerm p) {i : Nat} (hi : i < p.length) (k : Nat) : it p k i = it p (k % per p i) i := by
  have e : k % per p i + k / per p i * per p i = k := by rw [Nat.mul_comm]; exact Nat.mod_add_div k (per p i)
  rw [← it_mul h hi (k / per p i)]
  conv => lhs; rw [← e]
  rw [it_add, it_mul h hi, it_mul h hi]
theorem it_ne (h : IsPerm p) {i : Nat} (hi : i < p.length) {a b : Nat} (hab : a < b) (hb : b < per p i) : it p a i ≠ it p b i := by
  intro e
  have e2 : it p b i = it p a (it p (b - a) i) := by rw [← it_add]; congr 1; omega
  exact (per_spec h hi).2.2.2 (b - a) (by omega) (by omega) (it_inj h hi (it_lt h hi _) a (e.trans e2)).symm

/-- The way back within a cycle. -/
theorem it_symm (h : IsPerm p) {i : Nat} (hi : i < p.length) (k : Nat) : ∃ m, it p m (it p k i) = i := by
  refine ⟨k * per p i - k, ?_⟩
  have h1 := (per_spec h hi).1
  have h2 : k ≤ k * per p i := Nat.le_mul_of_pos_right k (by omega)
  rw [← it_add, show k * per p i - k + k = k * per p i by omega, it_mul h hi]

/-- The least number of a cycle. -/
def lo (p : List Int) (j : Nat) : Nat := (List.range p.length).foldr (fun k m => min (it p k j) m) j

theorem foldr_min_le (f : Nat → Nat) (l : List Nat) (z k : Nat) (hk : k ∈ l) : l.foldr (fun k m => min (f k) m) z ≤ f k := by
  induction l with
  | nil => cases hk
  | cons a t ih =>
    rw [List.foldr_cons]
    rcases List.mem_cons.1 hk with rfl | hk
    · exact Nat.min_le_left _ _
    · exact Nat.le_trans (Nat.min_le_right _ _) (ih hk)
theorem foldr_min_mem (f : Nat → Nat) (l : List Nat) (z : Nat) : l.foldr (fun k m => min (f k) m) z = z ∨ ∃ k, l.foldr (fun k m => min (f k) m) z = f k := by
  induction l with
  | nil => exact .inl rfl
  | cons a t ih =>
    rw [List.foldr_cons]
    rcases Nat.le_total (f a) (t.foldr (fun k m => min (f k) m) z) with hle | hle
    · exact .inr ⟨a, Nat.min_eq_left hle⟩
    · rw [Nat.min_eq_right hle]
      exact ih

theorem lo_mem (p : List Int) (j : Nat) : ∃ k, lo p j = it p k j := by
  rcases foldr_min_mem (fun k => it p k j) (List.range p.length) j with h | ⟨k, h⟩
  · exact ⟨0, h⟩
  · exact ⟨k, h⟩
theorem lo_le (h : IsPerm p) {j : Nat} (hj : j < p.length) (k : Nat) : lo p j ≤ it p k j := by
  rw [it_mod h hj k]
  have h1 := (per_spec h hj).1
  have h2 := (per_spec h hj).2.1
  exact foldr_min_le (fun k => it p k j) _ j _ (List.mem_range.2 (Nat.lt_of_lt_of_le (Nat.mod_lt _ (by omega)) h2))
theorem lo_lt (h : IsPerm p) {j : Nat} (hj : j < p.length) : lo p j < p.length := by
  obtain ⟨k, e⟩ := lo_mem p j
  rw [e]
  exact it_lt h hj k
theorem lo_it (h : IsPerm p) {j : Nat} (hj : j < p.length) (k : Nat) : lo p (it p k j) = lo p j := by
  apply Nat.le_antisymm
  · obtain ⟨m, e⟩ := lo_mem p j
    obtain ⟨r, er⟩ := it_symm h hj k
    rw [e]
    have := lo_le h (it_lt h hj k) (m + r)
    rwa [it_add, er] at this
  · obtain ⟨m, e⟩ := lo_mem p (it p k j)
    rw [e, ← it_add]
    exact lo_le h hj _

/-- Whose least number is s lies in the cycle of s. -/
theorem lo_eq (h : IsPerm p) {j s : Nat} (hj : j < p.length) (e : lo p j = s) : s < p.length ∧ lo p s = s ∧ ∃ k, k < per p s ∧ it p k s = j := by
  have hs : s < p.length := by rw [← e]; exact lo_lt h hj
  obtain ⟨m, em⟩ := lo_mem p j
  have hls : lo p s = s := by
    have := lo_it h hj m
    rw [← em, e] at this
    exact this
  obtain ⟨r, er⟩ := it_symm h hj m
  rw [← em, e] at er
  refine ⟨hs, hls, r % per p s, Nat.mod_lt _ (by have := (per_spec h hs).1; omega), ?_⟩
  rw [← it_mod h hs]
  exact er

/-! ### What the loops of cycleLengths keep -/

/-- The lengths of the cycles whose least number is below s, by that number. -/
def cycL (p : List Int) (s : Nat) : List Int := ((List.range s).filter (fun i => decide (lo p i = i))).map (fun i => (per p i : Int))

theorem cycL_yes {s : Nat} (h : lo p s = s) : cycL p (s + 1) = cycL p s ++ [(per p s : Int)] := by
  simp [cycL, List.range_succ, List.filter_append, h]
theorem cycL_no {s : Nat} (h : lo p s ≠ s) : cycL p (s + 1) = cycL p s := by
  simp [cycL, List.range_succ, List.filter_append, h]
theorem length_cycL_le (p : List Int) (s : Nat) : (cycL p s).length ≤ s := by
  have := List.length_filter_le (fun i => decide (lo p i = i)) (List.range s)
  simpa [cycL] using this

/-- Seen: in a cycle whose least number is below s, or among the first m steps from s. -/
def snB (p : List Int) (s m j : Nat) : Bool := decide (j < p.length) && (decide (lo p j < s) || (List.range m).any (fun k => it p k s == j))

theorem snB_true {s m j : Nat} : snB p s m j = true ↔ j < p.length ∧ (lo p j < s ∨ ∃ k, k < m ∧ it p k s = j) := by
  simp [snB]

theorem bool_ext {a b : Bool} (h : a = true ↔ b = true) : a = b := by cases a <;> cases b <;> simp_all

theorem snB_step {s m i : Nat} (hi : i < p.length) (e : it p m s = i) (j : Nat) : (if j = i then Value.bool true else Value.bool (snB p s m j)) = Value.bool (snB p s (m + 1) j) := by
  by_cases h : j = i
  · rw [if_pos h]
    have : snB p s (m + 1) j = true := snB_true.2 ⟨by omega, .inr ⟨m, by omega, by rw [e, h]⟩⟩
    rw [this]
  · rw [if_neg h]
    congr 1
    apply bool_ext
    rw [snB_true, snB_true]
    constructor
    · rintro ⟨h1, h2 | ⟨k, hk, ek⟩⟩
      · exact ⟨h1, .inl h2⟩
      · exact ⟨h1, .inr ⟨k, by omega, ek⟩⟩
    · rintro ⟨h1, h2 | ⟨k, hk, ek⟩⟩
      · exact ⟨h1, .inl h2⟩
      · refine ⟨h1, .inr ⟨k, ?_, ek⟩⟩
        rcases Nat.lt_or_ge k m with hlt | hge
        · exact hlt
        · have : k = m := by omega
          subst this
          exact absurd (ek.symm.trans e) h

theorem snB_go (h : IsPerm p) {s m : Nat} (hs : s < p.length) (hl : lo p s = s) (hm : m < per p s) : snB p s m (it p m s) = false := by
  rw [Bool.eq_false_iff]
  intro e
  rcases (snB_true.1 e).2 with h1 | ⟨k, hk, ek⟩
  · rw [lo_it h hs] at h1
    omega
  · exact it_ne h hs hk hm ek
theorem snB_stop (h : IsPerm p) {s : Nat} (hs : s < p.length) : snB p s (per p s) (it p (per p s) s) = true := by
  have h1 := per_spec h hs
  exact snB_true.2 ⟨by rw [h1.2.2.1]; exact hs, .inr ⟨0, by omega, by rw [h1.2.2.1]; rfl⟩⟩
theorem snB_end (h : IsPerm p) {s : Nat} (hs : s < p.length) (hl : lo p s = s) (j : Nat) : snB p s (per p s) j = snB p (s + 1) 0 j := by
  apply bool_ext
  rw [snB_true, snB_true]
  constructor
  · rintro ⟨h1, h2 | ⟨k, hk, rfl⟩⟩
    · exact ⟨h1, .inl (by omega)⟩
    · exact ⟨h1, .inl (by rw [lo_it h hs]; omega)⟩
  · rintro ⟨h1, h2 | ⟨k, hk, _⟩⟩
    · rcases Nat.lt_or_ge (lo p j) s with hlt | hge
      · exact ⟨h1, .inl hlt⟩
      · obtain ⟨_, _, k, hk, ek⟩ := lo_eq h h1 (show lo p j = s by omega)
        exact ⟨h1, .inr ⟨k, hk, ek⟩⟩
    · omega
theorem snB_skip (h : IsPerm p) {s : Nat} (hl : lo p s ≠ s) (j : Nat) : snB p s 0 j = snB p (s + 1) 0 j := by
  apply bool_ext
  rw [snB_true, snB_true]
  constructor
  · rintro ⟨h1, h2 | ⟨k, hk, _⟩⟩
    · exact ⟨h1, .inl (by omega)⟩
    · omega
  · rintro ⟨h1, h2 | ⟨k, hk, _⟩⟩
    · refine ⟨h1, .inl ?_⟩
      rcases Nat.lt_or_ge (lo p j) s with hlt | hge
      · exact hlt
      · exact absurd (lo_eq h h1 (show lo p j = s by omega)).2.1 hl
    · omega
theorem snB_seen (h : IsPerm p) {s : Nat} (hs : s < p.length) (hl : lo p s ≠ s) : snB p s 0 s = true :=
  snB_true.2 ⟨hs, .inl (by have := lo_le h hs 0; simp only [it] at this; omega)⟩
theorem snB_zero (j : Nat) : snB p 0 0 j = false := by
  rw [Bool.eq_false_iff]
  intro e
  rcases (snB_true.1 e).2 with h1 | ⟨k, hk, _⟩ <;> omega

end
end Go.Proofs.Ytaklchehamkgcaa
