/-
  Plain facts: how the cycle lengths are determined by how many numbers come back after how many steps; undoing and renaming change nothing.
-/
import Derived.Test.YtbcjfiobggggjaaSortG
namespace Go.Proofs.Ytbcjfiobggggjaa

theorem length_le_of_subset {α : Type} [DecidableEq α] {l l' : List α} (hn : l.Nodup) (hs : ∀ x, x ∈ l → x ∈ l') : l.length ≤ l'.length := by
  by_cases h : l'.length ≤ l.length
  · exact Nat.le_of_eq (perm_of_nodup_subset hn hs h).length_eq.symm
  · omega

section
variable {p : List Int}

/-- A cycle has as many numbers as steps. -/
theorem class_size (h : IsPerm p) {s : Nat} (hs : s < p.length) (hl : lo p s = s) : (List.range p.length).countP (fun j => decide (lo p j = s)) = per p s := by
  rw [List.countP_eq_length_filter]
  have hd : ((List.range (per p s)).map (fun k => it p k s)).Nodup := by
    rw [List.nodup_iff_pairwise_ne, List.pairwise_map]
    refine List.Pairwise.imp_of_mem ?_ List.pairwise_lt_range
    intro a b _ hb hab
    exact it_ne h hs hab (List.mem_range.1 hb)
  have hf : ((List.range p.length).filter (fun j => decide (lo p j = s))).Nodup := (List.nodup_range).filter _
  have h1 := length_le_of_subset hd (l' := (List.range p.length).filter (fun j => decide (lo p j = s))) (by
    intro x hx
    obtain ⟨k, _, rfl⟩ := List.mem_map.1 hx
    exact List.mem_filter.2 ⟨List.mem_range.2 (it_lt h hs k), by simp [lo_it h hs, hl]⟩)
  have h2 := length_le_of_subset hf (l' := (List.range (per p s)).map (fun k => it p k s)) (by
    intro x hx
    have hx' := List.mem_filter.1 hx
    obtain ⟨_, _, k, hk, e⟩ := lo_eq h (List.mem_range.1 hx'.1) (by simpa using hx'.2)
    exact List.mem_map.2 ⟨k, List.mem_range.2 hk, e⟩)
  simp only [List.length_map, List.length_range] at h1 h2
  omega

theorem per_it (h : IsPerm p) {i : Nat} (hi : i < p.length) (k : Nat) : per p (it p k i) = per p i := by
  have h1 := per_spec h hi
  have h2 := per_spec h (it_lt h hi k)
  have key : ∀ m, it p m (it p k i) = it p k i ↔ it p m i = i := fun m => by
    rw [← it_add, Nat.add_comm, it_add]
    exact ⟨fun e => it_inj h (it_lt h hi m) hi k e, fun e => by rw [e]⟩
  rcases Nat.lt_trichotomy (per p (it p k i)) (per p i) with hlt | he | hgt
  · exact absurd ((key _).1 h2.2.2.1) (h1.2.2.2 _ h2.1 hlt)
  · exact he
  · exact absurd ((key _).2 h1.2.2.1) (h2.2.2.2 _ h1.1 hgt)

theorem countP_split (l : List Nat) (f g : Nat → Bool) (h : ∀ x, x ∈ l → ¬ (f x = true ∧ g x = true)) : l.countP (fun x => f x || g x) = l.countP f + l.countP g := by
  induction l with
  | nil => rfl
  | cons a t ih =>
    have ht := ih (fun x hx => h x (by simp [hx]))
    have ha := h a (by simp)
    simp only [List.countP_cons]
    cases hf : f a <;> cases hg : g a <;> simp_all <;> omega

theorem countP_congr' {l : List Nat} {f g : Nat → Bool} (h : ∀ x, x ∈ l → f x = g x) : l.countP f = l.countP g := by
  induction l with
  | nil => rfl
  | cons a t ih =>
    simp only [List.countP_cons, h a (by simp), ih (fun x hx => h x (by simp [hx]))]

/-- Of the numbers in cycles that begin below s, how many come back after k steps: k for each cycle of that length. -/
theorem tot_upto (h : IsPerm p) (k : Nat) : ∀ s, s ≤ p.length → (List.range p.length).countP (fun j => decide (lo p j < s) && decide (per p j = k)) = k * (cycL p s).count (k : Int)
  | 0, _ => by
    rw [countP_congr' (g := fun _ => false) (fun x _ => by simp)]
    simp [cycL]
  | s + 1, hs => by
    have ih := tot_upto h k s (by omega)
    have e1 : (List.range p.length).countP (fun j => decide (lo p j < s + 1) && decide (per p j = k)) =
        (List.range p.length).countP (fun j => (decide (lo p j < s) && decide (per p j = k)) || (decide (lo p j = s) && decide (per p j = k))) := by
      apply countP_congr'
      intro x _
      by_cases h1 : lo p x < s
      · simp [h1, show lo p x < s + 1 by omega]
      · by_cases h2 : lo p x = s
        · simp [h2]
        · simp [h1, h2, show ¬ lo p x < s + 1 by omega]
    rw [e1, countP_split _ _ _ (by intro x _; simp; omega), ih]
    by_cases hl : lo p s = s
    · rw [cycL_yes hl, List.count_append]
      by_cases hk : per p s = k
      · have e2 : (List.range p.length).countP (fun j => decide (lo p j = s) && decide (per p j = k)) = (List.range p.length).countP (fun j => decide (lo p j = s)) := by
          apply countP_congr'
          intro x hx
          by_cases h2 : lo p x = s
          · obtain ⟨_, _, m, _, em⟩ := lo_eq h (List.mem_range.1 hx) h2
            have := per_it h (show s < p.length by omega) m
            rw [em] at this
            simp [h2, this, hk]
          · simp [h2]
        rw [e2, class_size h (by omega) hl, hk]
        simp [Nat.mul_add]
      · have e2 : (List.range p.length).countP (fun j => decide (lo p j = s) && decide (per p j = k)) = 0 := by
          rw [List.countP_eq_zero]
          intro x hx
          by_cases h2 : lo p x = s
          · obtain ⟨_, _, m, _, em⟩ := lo_eq h (List.mem_range.1 hx) h2
            have := per_it h (show s < p.length by omega) m
            rw [em] at this
            simp [this, hk]
          · simp [h2]
        have e3 : [(per p s : Int)].count (k : Int) = 0 := by
          rw [List.count_eq_zero]
          simp
          omega
        rw [e2, e3, Nat.add_zero, Nat.add_zero]
    · rw [cycL_no hl]
      have e2 : (List.range p.length).countP (fun j => decide (lo p j = s) && decide (per p j = k)) = 0 := by
        rw [List.countP_eq_zero]
        intro x hx
        by_cases h2 : lo p x = s
        · exact absurd (lo_eq h (List.mem_range.1 hx) h2).2.1 hl
        · simp [h2]
      rw [e2]
      omega

theorem tot_all (h : IsPerm p) (k : Nat) : (List.range p.length).countP (fun j => decide (per p j = k)) = k * (cycL p p.length).count (k : Int) := by
  rw [← tot_upto h k p.length (Nat.le_refl _)]
  apply countP_congr'
  intro x hx
  simp [lo_lt h (List.mem_range.1 hx)]

/-- All numbers are in cycles. -/
theorem sum_upto (h : IsPerm p) : ∀ s, s ≤ p.length → ((List.range p.length).countP (fun j => decide (lo p j < s)) : Int) = (cycL p s).sum
  | 0, _ => by
    rw [countP_congr' (g := fun _ => false) (fun x _ => by simp)]
    simp [cycL]
  | s + 1, hs => by
    have ih := sum_upto h s (by omega)
    have e1 : (List.range p.length).countP (fun j => decide (lo p j < s + 1)) = (List.range p.length).countP (fun j => decide (lo p j < s) || decide (lo p j = s)) := by
      apply countP_congr'
      intro x _
      by_cases h1 : lo p x < s
      · simp [h1, show lo p x < s + 1 by omega]
      · by_cases h2 : lo p x = s
        · simp [h2]
        · simp [h1, h2, show ¬ lo p x < s + 1 by omega]
    rw [e1, countP_split _ _ _ (by intro x _; simp; omega)]
    by_cases hl : lo p s = s
    · rw [cycL_yes hl, class_size h (by omega) hl, List.sum_append]
      simp only [List.sum_cons, List.sum_nil]
      omega
    · rw [cycL_no hl]
      have e2 : (List.range p.length).countP (fun j => decide (lo p j = s)) = 0 := by
        rw [List.countP_eq_zero]
        intro x hx
        by_cases h2 : lo p x = s
        · exact absurd (lo_eq h (List.mem_range.1 hx) h2).2.1 hl
        · simp [h2]
      rw [e2]
      omega
theorem sum_cycL (h : IsPerm p) : (cycL p p.length).sum = p.length := by
  rw [← sum_upto h p.length (Nat.le_refl _), countP_congr' (g := fun _ => true) (fun x hx => by simp [lo_lt h (List.mem_range.1 hx)])]
  simp

end

theorem cycL_perm_of_tot {p q : List Int} (hp : IsPerm p) (hq : IsPerm q) (ht : ∀ k, (List.range p.length).countP (fun j => decide (per p j = k)) = (List.range q.length).countP (fun j => decide (per q j = k))) :
    (cycL p p.length).Perm (cycL q q.length) := by
  rw [List.perm_iff_count]
  intro x
  by_cases hx : 1 ≤ x
  · obtain ⟨k, rfl⟩ := Int.eq_ofNat_of_zero_le (show 0 ≤ x by omega)
    have h1 := tot_all hp k
    have h2 := tot_all hq k
    rw [ht k] at h1
    exact Nat.eq_of_mul_eq_mul_left (show 0 < k by omega) (h1.symm.trans h2)
  · rw [List.count_eq_zero.2 (fun h => hx (mem_cycL hp h).1), List.count_eq_zero.2 (fun h => hx (mem_cycL hq h).1)]

theorem falls_anti (a b : Int) (h : falls a b) (h' : falls b a) : a = b := by unfold falls at *; omega

theorem cycles_unique {p q c d : List Int} (hc : IsCycles p c) (hd : IsCycles q d) (h : (cycL p p.length).Perm (cycL q q.length)) : c = d :=
  sorted_unique falls_anti (pairwise_of_sortedTo hc.2) (pairwise_of_sortedTo hd.2) ((hc.1.trans h).trans hd.1.symm)

theorem per_eq_of {p q : List Int} (hp : IsPerm p) (hq : IsPerm q) {i j : Nat} (hi : i < p.length) (hj : j < q.length) (key : ∀ m, it p m i = i ↔ it q m j = j) : per p i = per q j := by
  have h1 := per_spec hp hi
  have h2 := per_spec hq hj
  rcases Nat.lt_trichotomy (per p i) (per q j) with hlt | he | hgt
  · exact absurd ((key _).1 h1.2.2.1) (h2.2.2.2 _ h1.1 hlt)
  · exact he
  · exact absurd ((key _).2 h2.2.2.1) (h1.2.2.2 _ h2.1 hgt)

theorem nx_inv {p q : List Int} (h : IsInv p q) {i : Nat} (hi : i < p.length) : nx q (nx p i) = i := by
  have := h.2 i hi
  unfold nx
  rw [this]
  omega
theorem IsInv.symm {p q : List Int} (h : IsInv p q) (hp : IsPerm p) : IsInv q p := by
  refine ⟨h.1.symm, fun i hi => ?_⟩
  rw [h.1] at hi
  obtain ⟨j, hj, ej⟩ := hp.pre hi
  have := h.2 j hj
  rw [ej, Int.toNat_natCast] at this
  rw [this, Int.toNat_natCast, ej]
theorem it_inv {p q : List Int} (h : IsInv p q) (hp : IsPerm p) {i : Nat} (hi : i < p.length) (k : Nat) : it q k (it p k i) = i := by
  induction k generalizing i with
  | zero => rfl
  | succ k ih =>
    have e1 : it p (k + 1) i = it p k (nx p i) := it_add p k 1 i
    have e2 : it q (k + 1) (it p (k + 1) i) = nx q (it q k (it p (k + 1) i)) := rfl
    rw [e2, e1, ih (nx_lt hp hi), nx_inv h hi]

theorem cycL_inv {p q : List Int} (h : IsInv p q) (hp : IsPerm p) : (cycL p p.length).Perm (cycL q q.length) := by
  refine cycL_perm_of_tot hp (h.isPerm hp) fun k => ?_
  rw [h.1]
  apply countP_congr'
  intro i hi
  have hi' := List.mem_range.1 hi
  have : per p i = per q i := per_eq_of hp (h.isPerm hp) hi' (by rw [h.1]; exact hi') fun m => by
    constructor
    · intro e
      have := it_inv h hp hi' m
      rwa [e] at this
    · intro e
      have := it_inv (h.symm hp) (h.isPerm hp) (show i < q.length by rw [h.1]; exact hi') m
      rwa [e] at this
  rw [this]

theorem nx_times {a b : List Int} {i : Nat} (hi : i < b.length) : nx (times a b) i = nx a (nx b i) := by
  unfold nx
  rw [getD_times hi]

/-- Seen by other names: b sends i to its new name. -/
theorem cycL_conj {a b vb : List Int} (ha : IsPerm a) (hb : IsPerm b) (hv : IsInv b vb) (hl : a.length = b.length) : (cycL a a.length).Perm (cycL (times b (times a vb)) (times b (times a vb)).length) := by
  have hpv := hv.isPerm hb
  have hp1 : IsPerm (times a vb) := isPerm_times ha hpv (by rw [hv.1, hl])
  have hp2 : IsPerm (times b (times a vb)) := isPerm_times hb hp1 (by rw [length_times, hv.1])
  have hlen : (times b (times a vb)).length = a.length := by rw [length_times, length_times, hv.1, hl]
  have hstep : ∀ i, i < a.length → nx (times b (times a vb)) (nx b i) = nx b (nx a i) := by
    intro i hi
    have hbi : nx b i < b.length := nx_lt hb (by omega)
    rw [nx_times (by rw [length_times, hv.1]; exact hbi), nx_times (by rw [hv.1]; exact hbi), nx_inv hv (by omega)]
  have hit : ∀ k i, i < a.length → it (times b (times a vb)) k (nx b i) = nx b (it a k i) := by
    intro k
    induction k with
    | zero => intros; rfl
    | succ k ih =>
      intro i hi
      show nx _ (it _ k (nx b i)) = nx b (nx a (it a k i))
      rw [ih i hi, hstep _ (it_lt ha hi k)]
  refine cycL_perm_of_tot ha hp2 fun k => ?_
  rw [hlen]
  have hperm : ((List.range a.length).map (nx b)).Perm (List.range a.length) := by
    refine (perm_of_nodup_subset ?_ ?_ ?_).symm
    · rw [List.nodup_iff_pairwise_ne, List.pairwise_map]
      refine List.Pairwise.imp_of_mem ?_ List.pairwise_lt_range
      intro x y hx hy hxy e
      have hx' := List.mem_range.1 hx
      have hy' := List.mem_range.1 hy
      have := nx_inj hb (by omega) (by omega) e
      omega
    · intro x hx
      obtain ⟨i, hi, rfl⟩ := List.mem_map.1 hx
      have := nx_lt hb (show i < b.length by have := List.mem_range.1 hi; omega)
      exact List.mem_range.2 (by omega)
    · simp
  rw [← hperm.countP_eq (fun j => decide (per (times b (times a vb)) j = k)), List.countP_map]
  apply countP_congr'
  intro i hi
  have hi' := List.mem_range.1 hi
  have hbi : nx b i < b.length := nx_lt hb (by omega)
  have : per a i = per (times b (times a vb)) (nx b i) := per_eq_of ha hp2 hi' (by rw [hlen]; omega) fun m => by
    rw [hit m i hi']
    constructor
    · intro e
      rw [e]
    · intro e
      have hm := it_lt ha hi' m
      exact nx_inj hb (by omega) (by omega) e
  simp [this]

theorem perm_sum {l l' : List Int} (h : l.Perm l') : l.sum = l'.sum := by
  induction h with
  | nil => rfl
  | cons x _ ih => simp only [List.sum_cons, ih]
  | swap x y l => simp only [List.sum_cons]; omega
  | trans _ _ ih1 ih2 => exact ih1.trans ih2

theorem sum_of_cycles {p c : List Int} (hp : IsPerm p) (hc : IsCycles p c) : c.sum = p.length := by
  have h := sum_cycL hp
  have : c.sum = (cycL p p.length).sum := perm_sum hc.1
  omega

/-- The cycle lengths come back. -/
def RetCyc (w : World) (p : List Int) (e : Ending) (w' : World) : Prop :=
  ∃ ys l A c, e = .returned (.tuple #[.slice A l c, .int .i64 0]) ∧ IsCycles p ys ∧ l ≤ 10 ∧ Ints w' A l ys ∧ Cap l c ∧ RowKit.Below w.heap.size w w'

theorem cycles_perm (A : Option Addr) (n c : Nat) (p : List Int) (w : World) (hA : Ints w A n p) (hp : IsPerm p) (hn : n ≤ 10) :
    Calls Try.prog 76 #[.slice A n c] w (RetCyc w p) := by
  refine (cycles_ok A n c p w hA (permErr_of hp (by rw [hA.len]; exact hn))).mono ?_
  rintro e w' ⟨ys, hc, A', l, c', rfl, hb, hI, hcap⟩
  refine ⟨ys, l, A', c', rfl, hc, ?_, hI, hcap, hb⟩
  rw [← hI.len, hc.1.length_eq]
  have := length_cycL_le p p.length
  have := hA.len
  omega

theorem sum_take_bound {l : List Int} (h : ∀ x, x ∈ l → 1 ≤ x ∧ x ≤ 10) : ∀ k, k ≤ l.length → 0 ≤ (l.take k).sum ∧ (l.take k).sum ≤ 10 * k
  | 0, _ => by simp
  | k + 1, hk => by
    have ih := sum_take_bound h k (by omega)
    have hx := h _ (getD_mem (show k < l.length by omega))
    rw [take_snoc (by omega), List.sum_append]
    simp only [List.sum_cons, List.sum_nil]
    omega

theorem mem_cycles {p c : List Int} (hp : IsPerm p) (hc : IsCycles p c) (hl : p.length ≤ 10) {x : Int} (hx : x ∈ c) : 1 ≤ x ∧ x ≤ 10 := by
  have := mem_cycL hp (hc.1.mem_iff.1 hx)
  omega

end Go.Proofs.Ytbcjfiobggggjaa
