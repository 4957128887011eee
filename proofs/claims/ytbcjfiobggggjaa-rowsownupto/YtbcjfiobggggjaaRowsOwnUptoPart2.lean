/-
  Texts joined: CycT, OrbM, OrbL, OrbLay, OrbS, TabE, OrbA, RankA, RankB.
-/
import Derived.Test.YtbcjfiobggggjaaRowsOwnUptoPart1
import Derived.Shelf.SlSortCmp.Whole1
import Derived.Test.YtbcjfiobggggjaaRows
import Derived.Sort.OwnSorted
import Derived.WalkKit
import Derived.Deep.RegionLaw
import Derived.Lib.SliceRun

/-
  Plain facts: how the cycle lengths are determined by how many numbers come back after how many steps; undoing and renaming change nothing.
-/
namespace Go.Proofs.Ytbcjfiobggggjaa

theorem length_le_of_subset {α : Type} [DecidableEq α] {l l' : List α} (hn : l.Nodup) (hs : ∀ x, x ∈ l → x ∈ l') : l.length ≤ l'.length := by
  by_cases h : l'.length ≤ l.length
  · exact Nat.le_of_eq (perm_of_nodup_subset hn hs h).length_eq.symm
  · omega

section
variable {p : List Int}

/-- A cycle has as many numbers as steps. -/
theorem class_size (h : IsPerm p) {s : Nat} (hs : s < p.length) (hl : lo p s = s) : (List.range p.length).countP (fun j => decide (lo p j = s)) = per p s := by
  rw [List.countP_eq_length_filter]
  have hd : ((List.range (per p s)).map (fun k => it p k s)).Nodup := by
    rw [List.nodup_iff_pairwise_ne, List.pairwise_map]
    refine List.Pairwise.imp_of_mem ?_ List.pairwise_lt_range
    intro a b _ hb hab
    exact it_ne h hs hab (List.mem_range.1 hb)
  have hf : ((List.range p.length).filter (fun j => decide (lo p j = s))).Nodup := (List.nodup_range).filter _
  have h1 := length_le_of_subset hd (l' := (List.range p.length).filter (fun j => decide (lo p j = s))) (by
    intro x hx
    obtain ⟨k, _, rfl⟩ := List.mem_map.1 hx
    exact List.mem_filter.2 ⟨List.mem_range.2 (it_lt h hs k), by simp [lo_it h hs, hl]⟩)
  have h2 := length_le_of_subset hf (l' := (List.range (per p s)).map (fun k => it p k s)) (by
    intro x hx
    have hx' := List.mem_filter.1 hx
    obtain ⟨_, _, k, hk, e⟩ := lo_eq h (List.mem_range.1 hx'.1) (by simpa using hx'.2)
    exact List.mem_map.2 ⟨k, List.mem_range.2 hk, e⟩)
  simp only [List.length_map, List.length_range] at h1 h2
  omega

theorem per_it (h : IsPerm p) {i : Nat} (hi : i < p.length) (k : Nat) : per p (it p k i) = per p i := by
  have h1 := per_spec h hi
  have h2 := per_spec h (it_lt h hi k)
  have key : ∀ m, it p m (it p k i) = it p k i ↔ it p m i = i := fun m => by
    rw [← it_add, Nat.add_comm, it_add]
    exact ⟨fun e => it_inj h (it_lt h hi m) hi k e, fun e => by rw [e]⟩
  rcases Nat.lt_trichotomy (per p (it p k i)) (per p i) with hlt | he | hgt
  · exact absurd ((key _).1 h2.2.2.1) (h1.2.2.2 _ h2.1 hlt)
  · exact he
  · exact absurd ((key _).2 h1.2.2.1) (h2.2.2.2 _ h1.1 hgt)

theorem countP_split (l : List Nat) (f g : Nat → Bool) (h : ∀ x, x ∈ l → ¬ (f x = true ∧ g x = true)) : l.countP (fun x => f x || g x) = l.countP f + l.countP g := by
  induction l with
  | nil => rfl
  | cons a t ih =>
    have ht := ih (fun x hx => h x (by simp [hx]))
    have ha := h a (by simp)
    simp only [List.countP_cons]
    cases hf : f a <;> cases hg : g a <;> simp_all <;> omega

theorem countP_congr' {l : List Nat} {f g : Nat → Bool} (h : ∀ x, x ∈ l → f x = g x) : l.countP f = l.countP g := by
  induction l with
  | nil => rfl
  | cons a t ih =>
    simp only [List.countP_cons, h a (by simp), ih (fun x hx => h x (by simp [hx]))]

/-- Of the numbers in cycles that begin below s, how many come back after k steps: k for each cycle of that length. -/
theorem tot_upto (h : IsPerm p) (k : Nat) : ∀ s, s ≤ p.length → (List.range p.length).countP (fun j => decide (lo p j < s) && decide (per p j = k)) = k * (cycL p s).count (k : Int)
  | 0, _ => by
    rw [countP_congr' (g := fun _ => false) (fun x _ => by simp)]
    simp [cycL]
  | s + 1, hs => by
    have ih := tot_upto h k s (by omega)
    have e1 : (List.range p.length).countP (fun j => decide (lo p j < s + 1) && decide (per p j = k)) =
        (List.range p.length).countP (fun j => (decide (lo p j < s) && decide (per p j = k)) || (decide (lo p j = s) && decide (per p j = k))) := by
      apply countP_congr'
      intro x _
      by_cases h1 : lo p x < s
      · simp [h1, show lo p x < s + 1 by omega]
      · by_cases h2 : lo p x = s
        · simp [h2]
        · simp [h1, h2, show ¬ lo p x < s + 1 by omega]
    rw [e1, countP_split _ _ _ (by intro x _; simp; omega), ih]
    by_cases hl : lo p s = s
    · rw [cycL_yes hl, List.count_append]
      by_cases hk : per p s = k
      · have e2 : (List.range p.length).countP (fun j => decide (lo p j = s) && decide (per p j = k)) = (List.range p.length).countP (fun j => decide (lo p j = s)) := by
          apply countP_congr'
          intro x hx
          by_cases h2 : lo p x = s
          · obtain ⟨_, _, m, _, em⟩ := lo_eq h (List.mem_range.1 hx) h2
            have := per_it h (show s < p.length by omega) m
            rw [em] at this
            simp [h2, this, hk]
          · simp [h2]
        rw [e2, class_size h (by omega) hl, hk]
        simp [Nat.mul_add]
      · have e2 : (List.range p.length).countP (fun j => decide (lo p j = s) && decide (per p j = k)) = 0 := by
          rw [List.countP_eq_zero]
          intro x hx
          by_cases h2 : lo p x = s
          · obtain ⟨_, _, m, _, em⟩ := lo_eq h (List.mem_range.1 hx) h2
            have := per_it h (show s < p.length by omega) m
            rw [em] at this
            simp [this, hk]
          · simp [h2]
        have e3 : [(per p s : Int)].count (k : Int) = 0 := by
          rw [List.count_eq_zero]
          simp
          omega
        rw [e2, e3, Nat.add_zero, Nat.add_zero]
    · rw [cycL_no hl]
      have e2 : (List.range p.length).countP (fun j => decide (lo p j = s) && decide (per p j = k)) = 0 := by
        rw [List.countP_eq_zero]
        intro x hx
        by_cases h2 : lo p x = s
        · exact absurd (lo_eq h (List.mem_range.1 hx) h2).2.1 hl
        · simp [h2]
      rw [e2]
      omega

theorem tot_all (h : IsPerm p) (k : Nat) : (List.range p.length).countP (fun j => decide (per p j = k)) = k * (cycL p p.length).count (k : Int) := by
  rw [← tot_upto h k p.length (Nat.le_refl _)]
  apply countP_congr'
  intro x hx
  simp [lo_lt h (List.mem_range.1 hx)]

/-- All numbers are in cycles. -/
theorem sum_upto (h : IsPerm p) : ∀ s, s ≤ p.length → ((List.range p.length).countP (fun j => decide (lo p j < s)) : Int) = (cycL p s).sum
  | 0, _ => by
    rw [countP_congr' (g := fun _ => false) (fun x _ => by simp)]
    simp [cycL]
  | s + 1, hs => by
    have ih := sum_upto h s (by omega)
    have e1 : (List.range p.length).countP (fun j => decide (lo p j < s + 1)) = (List.range p.length).countP (fun j => decide (lo p j < s) || decide (lo p j = s)) := by
      apply countP_congr'
      intro x _
      by_cases h1 : lo p x < s
      · simp [h1, show lo p x < s + 1 by omega]
      · by_cases h2 : lo p x = s
        · simp [h2]
        · simp [h1, h2, show ¬ lo p x < s + 1 by omega]
    rw [e1, countP_split _ _ _ (by intro x _; simp; omega)]
    by_cases hl : lo p s = s
    · rw [cycL_yes hl, class_size h (by omega) hl, List.sum_append]
      simp only [List.sum_cons, List.sum_nil]
      omega
    · rw [cycL_no hl]
      have e2 : (List.range p.length).countP (fun j => decide (lo p j = s)) = 0 := by
        rw [List.countP_eq_zero]
        intro x hx
        by_cases h2 : lo p x = s
        · exact absurd (lo_eq h (List.mem_range.1 hx) h2).2.1 hl
        · simp [h2]
      rw [e2]
      omega
theorem sum_cycL (h : IsPerm p) : (cycL p p.length).sum = p.length := by
  rw [← sum_upto h p.length (Nat.le_refl _), countP_congr' (g := fun _ => true) (fun x hx => by simp [lo_lt h (List.mem_range.1 hx)])]
  simp

end

theorem cycL_perm_of_tot {p q : List Int} (hp : IsPerm p) (hq : IsPerm q) (ht : ∀ k, (List.range p.length).countP (fun j => decide (per p j = k)) = (List.range q.length).countP (fun j => decide (per q j = k))) :
    (cycL p p.length).Perm (cycL q q.length) := by
  rw [List.perm_iff_count]
  intro x
  by_cases hx : 1 ≤ x
  · obtain ⟨k, rfl⟩ := Int.eq_ofNat_of_zero_le (show 0 ≤ x by omega)
    have h1 := tot_all hp k
    have h2 := tot_all hq k
    rw [ht k] at h1
    exact Nat.eq_of_mul_eq_mul_left (show 0 < k by omega) (h1.symm.trans h2)
  · rw [List.count_eq_zero.2 (fun h => hx (mem_cycL hp h).1), List.count_eq_zero.2 (fun h => hx (mem_cycL hq h).1)]

theorem falls_anti (a b : Int) (h : falls a b) (h' : falls b a) : a = b := by unfold falls at *; omega

theorem cycles_unique {p q c d : List Int} (hc : IsCycles p c) (hd : IsCycles q d) (h : (cycL p p.length).Perm (cycL q q.length)) : c = d :=
  sorted_unique falls_anti (pairwise_of_sortedTo hc.2) (pairwise_of_sortedTo hd.2) ((hc.1.trans h).trans hd.1.symm)

theorem per_eq_of {p q : List Int} (hp : IsPerm p) (hq : IsPerm q) {i j : Nat} (hi : i < p.length) (hj : j < q.length) (key : ∀ m, it p m i = i ↔ it q m j = j) : per p i = per q j := by
  have h1 := per_spec hp hi
  have h2 := per_spec hq hj
  rcases Nat.lt_trichotomy (per p i) (per q j) with hlt | he | hgt
  · exact absurd ((key _).1 h1.2.2.1) (h2.2.2.2 _ h1.1 hlt)
  · exact he
  · exact absurd ((key _).2 h2.2.2.1) (h1.2.2.2 _ h2.1 hgt)

theorem nx_inv {p q : List Int} (h : IsInv p q) {i : Nat} (hi : i < p.length) : nx q (nx p i) = i := by
  have := h.2 i hi
  unfold nx
  rw [this]
  omega
theorem IsInv.symm {p q : List Int} (h : IsInv p q) (hp : IsPerm p) : IsInv q p := by
  refine ⟨h.1.symm, fun i hi => ?_⟩
  rw [h.1] at hi
  obtain ⟨j, hj, ej⟩ := hp.pre hi
  have := h.2 j hj
  rw [ej, Int.toNat_natCast] at this
  rw [this, Int.toNat_natCast, ej]
theorem it_inv {p q : List Int} (h : IsInv p q) (hp : IsPerm p) {i : Nat} (hi : i < p.length) (k : Nat) : it q k (it p k i) = i := by
  induction k generalizing i with
  | zero => rfl
  | succ k ih =>
    have e1 : it p (k + 1) i = it p k (nx p i) := it_add p k 1 i
    have e2 : it q (k + 1) (it p (k + 1) i) = nx q (it q k (it p (k + 1) i)) := rfl
    rw [e2, e1, ih (nx_lt hp hi), nx_inv h hi]

theorem cycL_inv {p q : List Int} (h : IsInv p q) (hp : IsPerm p) : (cycL p p.length).Perm (cycL q q.length) := by
  refine cycL_perm_of_tot hp (h.isPerm hp) fun k => ?_
  rw [h.1]
  apply countP_congr'
  intro i hi
  have hi' := List.mem_range.1 hi
  have : per p i = per q i := per_eq_of hp (h.isPerm hp) hi' (by rw [h.1]; exact hi') fun m => by
    constructor
    · intro e
      have := it_inv h hp hi' m
      rwa [e] at this
    · intro e
      have := it_inv (h.symm hp) (h.isPerm hp) (show i < q.length by rw [h.1]; exact hi') m
      rwa [e] at this
  rw [this]

theorem nx_times {a b : List Int} {i : Nat} (hi : i < b.length) : nx (times a b) i = nx a (nx b i) := by
  unfold nx
  rw [getD_times hi]

/-- Seen by other names: b sends i to its new name. -/
theorem cycL_conj {a b vb : List Int} (ha : IsPerm a) (hb : IsPerm b) (hv : IsInv b vb) (hl : a.length = b.length) : (cycL a a.length).Perm (cycL (times b (times a vb)) (times b (times a vb)).length) := by
  have hpv := hv.isPerm hb
  have hp1 : IsPerm (times a vb) := isPerm_times ha hpv (by rw [hv.1, hl])
  have hp2 : IsPerm (times b (times a vb)) := isPerm_times hb hp1 (by rw [length_times, hv.1])
  have hlen : (times b (times a vb)).length = a.length := by rw [length_times, length_times, hv.1, hl]
  have hstep : ∀ i, i < a.length → nx (times b (times a vb)) (nx b i) = nx b (nx a i) := by
    intro i hi
    have hbi : nx b i < b.length := nx_lt hb (by omega)
    rw [nx_times (by rw [length_times, hv.1]; exact hbi), nx_times (by rw [hv.1]; exact hbi), nx_inv hv (by omega)]
  have hit : ∀ k i, i < a.length → it (times b (times a vb)) k (nx b i) = nx b (it a k i) := by
    intro k
    induction k with
    | zero => intros; rfl
    | succ k ih =>
      intro i hi
      show nx _ (it _ k (nx b i)) = nx b (nx a (it a k i))
      rw [ih i hi, hstep _ (it_lt ha hi k)]
  refine cycL_perm_of_tot ha hp2 fun k => ?_
  rw [hlen]
  have hperm : ((List.range a.length).map (nx b)).Perm (List.range a.length) := by
    refine (perm_of_nodup_subset ?_ ?_ ?_).symm
    · rw [List.nodup_iff_pairwise_ne, List.pairwise_map]
      refine List.Pairwise.imp_of_mem ?_ List.pairwise_lt_range
      intro x y hx hy hxy e
      have hx' := List.mem_range.1 hx
      have hy' := List.mem_range.1 hy
      have := nx_inj hb (by omega) (by omega) e
      omega
    · intro x hx
      obtain ⟨i, hi, rfl⟩ := List.mem_map.1 hx
      have := nx_lt hb (show i < b.length by have := List.mem_range.1 hi; omega)
      exact List.mem_range.2 (by omega)
    · simp
  rw [← hperm.countP_eq (fun j => decide (per (times b (times a vb)) j = k)), List.countP_map]
  apply countP_congr'
  intro i hi
  have hi' := List.mem_range.1 hi
  have hbi : nx b i < b.length := nx_lt hb (by omega)
  have : per a i = per (times b (times a vb)) (nx b i) := per_eq_of ha hp2 hi' (by rw [hlen]; omega) fun m => by
    rw [hit m i hi']
    constructor
    · intro e
      rw [e]
    · intro e
      have hm := it_lt ha hi' m
      exact nx_inj hb (by omega) (by omega) e
  simp [this]

theorem perm_sum {l l' : List Int} (h : l.Perm l') : l.sum = l'.sum := by
  induction h with
  | nil => rfl
  | cons x _ ih => simp only [List.sum_cons, ih]
  | swap x y l => simp only [List.sum_cons]; omega
  | trans _ _ ih1 ih2 => exact ih1.trans ih2

theorem sum_of_cycles {p c : List Int} (hp : IsPerm p) (hc : IsCycles p c) : c.sum = p.length := by
  have h := sum_cycL hp
  have : c.sum = (cycL p p.length).sum := perm_sum hc.1
  omega

/-- The cycle lengths come back. -/
def RetCyc (w : World) (p : List Int) (e : Ending) (w' : World) : Prop :=
  ∃ ys l A c, e = .returned (.tuple #[.slice A l c, .int .i64 0]) ∧ IsCycles p ys ∧ l ≤ 10 ∧ Ints w' A l ys ∧ Cap l c ∧ RowKit.Below w.heap.size w w'

theorem cycles_perm (A : Option Addr) (n c : Nat) (p : List Int) (w : World) (hA : Ints w A n p) (hp : IsPerm p) (hn : n ≤ 10) :
    Calls Try.prog 76 #[.slice A n c] w (RetCyc w p) := by
  refine (cycles_ok A n c p w hA (permErr_of hp (by rw [hA.len]; exact hn))).mono ?_
  rintro e w' ⟨ys, hc, A', l, c', rfl, hb, hI, hcap⟩
  refine ⟨ys, l, A', c', rfl, hc, ?_, hI, hcap, hb⟩
  rw [← hI.len, hc.1.length_eq]
  have := length_cycL_le p p.length
  have := hA.len
  omega

theorem sum_take_bound {l : List Int} (h : ∀ x, x ∈ l → 1 ≤ x ∧ x ≤ 10) : ∀ k, k ≤ l.length → 0 ≤ (l.take k).sum ∧ (l.take k).sum ≤ 10 * k
  | 0, _ => by simp
  | k + 1, hk => by
    have ih := sum_take_bound h k (by omega)
    have hx := h _ (getD_mem (show k < l.length by omega))
    rw [take_snoc (by omega), List.sum_append]
    simp only [List.sum_cons, List.sum_nil]
    omega

theorem mem_cycles {p c : List Int} (hp : IsPerm p) (hc : IsCycles p c) (hl : p.length ≤ 10) {x : Int} (hx : x ∈ c) : 1 ≤ x ∧ x ≤ 10 := by
  have := mem_cycL hp (hc.1.mem_iff.1 hx)
  omega

end Go.Proofs.Ytbcjfiobggggjaa

/-
  Plain facts on groups of orders: all that some orders make, one behind another. No program, no memory.
-/
namespace Go.Proofs.Ytbcjfiobggggjaa

/-- What the orders of l make, one behind another. -/
inductive Gen (n : Nat) (l : List (List Int)) : List Int → Prop
  | one : Gen n l (iota n)
  | step {g p : List Int} : g ∈ l → Gen n l p → Gen n l (times g p)

/-- Orders of n numbers. -/
def Orders (n : Nat) (l : List (List Int)) : Prop := ∀ g, g ∈ l → g.length = n ∧ IsPerm g

theorem isPerm_iota (n : Nat) : IsPerm (iota n) := by unfold IsPerm; rw [length_iota]

theorem times_one {a : List Int} {n : Nat} (h : a.length = n) : times a (iota n) = a := by
  subst h
  exact map_iota a

theorem one_times {p : List Int} {n : Nat} (h : IsPerm p) (hn : p.length = n) : times (iota n) p = p := by
  unfold times
  conv => rhs; rw [← List.map_id p]
  apply List.map_congr_left
  intro v hv
  have := h.range hv
  rw [getD_iota (by omega)]
  simp only [id]
  omega

section
variable {n : Nat} {l : List (List Int)}

theorem Gen.ok (hl : Orders n l) {p : List Int} (h : Gen n l p) : p.length = n ∧ IsPerm p := by
  induction h with
  | one => exact ⟨length_iota n, isPerm_iota n⟩
  | step hg _ ih => exact ⟨by rw [length_times]; exact ih.1, isPerm_times (hl _ hg).2 ih.2 (by rw [(hl _ hg).1, ih.1])⟩

theorem Gen.mul (hl : Orders n l) {a b : List Int} (ha : Gen n l a) (hb : Gen n l b) : Gen n l (times a b) := by
  have hB := hb.ok hl
  induction ha with
  | one => rw [one_times hB.2 hB.1]; exact hb
  | step hg hp ih => rw [times_assoc hB.2 (by rw [(hp.ok hl).1, hB.1])]; exact .step hg ih

theorem Gen.of (hl : Orders n l) {g : List Int} (hg : g ∈ l) : Gen n l g := by
  have := Gen.step hg Gen.one (n := n)
  rwa [times_one (hl _ hg).1] at this

theorem Gen.sub {G : List Int → Prop} (h1 : G (iota n)) (h2 : ∀ g p, g ∈ l → G p → G (times g p)) {p : List Int} (h : Gen n l p) : G p := by
  induction h with
  | one => exact h1
  | step hg _ ih => exact h2 _ _ hg ih

theorem Gen.subR (hl : Orders n l) {G : List Int → Prop} (hG : ∀ p, G p → p.length = n ∧ IsPerm p) (h1 : G (iota n)) (h2 : ∀ g p, g ∈ l → G p → G (times p g)) {p : List Int} (h : Gen n l p) : G p := by
  have key : ∀ q, G q → G (times q p) := by
    induction h with
    | one => intro q hq; rw [times_one (hG q hq).1]; exact hq
    | step hg hp ih =>
      intro q hq
      have hP := hp.ok hl
      rw [← times_assoc hP.2 (by rw [(hl _ hg).1, hP.1])]
      exact ih _ (h2 _ _ hg hq)
  have h' := key _ h1
  rwa [one_times (h.ok hl).2 (h.ok hl).1] at h'

/-- T is the whole group, in order. -/
structure GroupOf (n : Nat) (l T : List (List Int)) : Prop where
  sorted : T.Pairwise (fun a b => rk a < rk b)
  mem : ∀ p, p ∈ T ↔ Gen n l p

theorem rk_sorted_eq : ∀ {T U : List (List Int)}, T.Pairwise (fun a b => rk a < rk b) → U.Pairwise (fun a b => rk a < rk b) → (∀ p, p ∈ T ↔ p ∈ U) → T = U
  | [], [], _, _, _ => rfl
  | [], b :: U, _, _, h => by have := (h b).2 (by simp); cases this
  | a :: T, [], _, _, h => by have := (h a).1 (by simp); cases this
  | a :: T, b :: U, hT, hU, h => by
    have hT' := List.pairwise_cons.1 hT
    have hU' := List.pairwise_cons.1 hU
    have hab : a = b := by
      rcases List.mem_cons.1 ((h a).1 (by simp)) with e | h1
      · exact e
      · rcases List.mem_cons.1 ((h b).2 (by simp)) with e | h2
        · exact e.symm
        · have := hU'.1 a h1
          have := hT'.1 b h2
          omega
    subst hab
    congr 1
    refine rk_sorted_eq hT'.2 hU'.2 fun p => ⟨fun hp => ?_, fun hp => ?_⟩
    · rcases List.mem_cons.1 ((h p).1 (by simp [hp])) with e | h1
      · have := hT'.1 p hp; rw [e] at this; omega
      · exact h1
    · rcases List.mem_cons.1 ((h p).2 (by simp [hp])) with e | h1
      · have := hU'.1 p hp; rw [e] at this; omega
      · exact h1

theorem GroupOf.unique {T U : List (List Int)} (h : GroupOf n l T) (k : GroupOf n l U) : T = U :=
  rk_sorted_eq h.sorted k.sorted fun p => (h.mem p).trans (k.mem p).symm

theorem rk_nodup {T : List (List Int)} (h : T.Pairwise (fun a b => rk a < rk b)) : T.Nodup := by
  rw [List.nodup_iff_pairwise_ne]
  exact h.imp (fun hab e => by rw [e] at hab; omega)

theorem rk_length_le {T : List (List Int)} {n : Nat} (h : T.Pairwise (fun a b => rk a < rk b)) (hl : ∀ p, p ∈ T → p.length = n) : T.length ≤ fact n := by
  have := length_le_of_nodup (l := T.map rk) (n := fact n) (by
    rw [List.nodup_iff_pairwise_ne, List.pairwise_map]
    exact h.imp (fun hab => by omega)) (fun x hx => by
    obtain ⟨p, hp, rfl⟩ := List.mem_map.1 hx
    have := rk_lt p
    rwa [hl p hp] at this)
  simpa using this

theorem GroupOf.nodup {T : List (List Int)} (h : GroupOf n l T) : T.Nodup := rk_nodup h.sorted
theorem GroupOf.ok {T : List (List Int)} (h : GroupOf n l T) (hl : Orders n l) {p : List Int} (hp : p ∈ T) : p.length = n ∧ IsPerm p := ((h.mem p).1 hp).ok hl
theorem GroupOf.one {T : List (List Int)} (h : GroupOf n l T) : iota n ∈ T := (h.mem _).2 .one
theorem GroupOf.pos {T : List (List Int)} (h : GroupOf n l T) : 0 < T.length := List.length_pos_of_mem h.one
theorem GroupOf.mul {T : List (List Int)} (h : GroupOf n l T) (hl : Orders n l) {p q : List Int} (hp : p ∈ T) (hq : q ∈ T) : times p q ∈ T := (h.mem _).2 (((h.mem p).1 hp).mul hl ((h.mem q).1 hq))
theorem GroupOf.length_le {T : List (List Int)} (h : GroupOf n l T) (hl : Orders n l) : T.length ≤ fact n := rk_length_le h.sorted fun _ hp => (h.ok hl hp).1
end

/-! ### What undoes an order -/
def vs (p : List Int) : List Int := (List.range p.length).map (fun j : Nat => ((p.idxOf (j : Int) : Nat) : Int))
theorem length_vs (p : List Int) : (vs p).length = p.length := by simp [vs]
theorem getD_nodup_idxOf {p : List Int} (h : p.Nodup) {i : Nat} (hi : i < p.length) : p.idxOf (p.getD i 0) = i := by
  have e : p.getD i 0 = p[i] := by rw [List.getD_eq_getElem?_getD, List.getElem?_eq_getElem hi]; rfl
  rw [e]
  exact h.idxOf_getElem i hi
theorem isInv_vs {p : List Int} (h : IsPerm p) : IsInv p (vs p) := by
  refine ⟨length_vs p, fun i hi => ?_⟩
  obtain ⟨j, hj, e⟩ := h.nat hi
  rw [e]
  have : (vs p).getD j 0 = ((p.idxOf (j : Int) : Nat) : Int) := by
    simp [vs, List.getD_eq_getElem?_getD, hj]
  show (vs p).getD ((j : Int).toNat) 0 = _
  rw [show ((j : Int).toNat) = j by omega, this, ← e, getD_nodup_idxOf h.nodup hi]
theorem isPerm_vs {p : List Int} (h : IsPerm p) : IsPerm (vs p) := (isInv_vs h).isPerm h

theorem times_cancel {p a b : List Int} (hp : IsPerm p) (ha : IsPerm a) (hb : IsPerm b) (hla : a.length = p.length) (hlb : b.length = p.length) (e : times p a = times p b) : a = b := by
  have h1 : times (vs p) (times p a) = a := by
    rw [← times_assoc ha hla.symm, (isInv_vs hp).left]
    exact one_times ha hla
  have h2 : times (vs p) (times p b) = b := by
    rw [← times_assoc hb hlb.symm, (isInv_vs hp).left]
    exact one_times hb hlb
  rw [← h1, e, h2]

theorem times_cancelR {s a b : List Int} (hs : IsPerm s) (hla : a.length = s.length) (hlb : b.length = s.length) (e : times a s = times b s) : a = b := by
  have hv := isPerm_vs hs
  have h1 : times (times a s) (vs s) = a := by
    rw [times_assoc hv (length_vs s).symm, (isInv_vs hs).right hs, times_one hla]
  have h2 : times (times b s) (vs s) = b := by
    rw [times_assoc hv (length_vs s).symm, (isInv_vs hs).right hs, times_one hlb]
  rw [← h1, e, h2]

theorem nodup_map_on {α β : Type} {f : α → β} {l : List α} (h : l.Nodup) (hi : ∀ a, a ∈ l → ∀ b, b ∈ l → f a = f b → a = b) : (l.map f).Nodup := by
  rw [List.nodup_iff_pairwise_ne, List.pairwise_map]
  rw [List.nodup_iff_pairwise_ne] at h
  exact List.Pairwise.imp_of_mem (fun ha hb hab e => hab (hi _ ha _ hb e)) h

section
variable {n : Nat} {l T : List (List Int)}

/-- The group goes to itself. -/
theorem GroupOf.map_mul (h : GroupOf n l T) (hl : Orders n l) {p : List Int} (hp : p ∈ T) : (T.map (times p)).Perm T := by
  have hP := h.ok hl hp
  refine (perm_of_nodup_subset (nodup_map_on h.nodup fun a ha b hb e => ?_) (fun x hx => ?_) (by simp)).symm
  · exact times_cancel hP.2 (h.ok hl ha).2 (h.ok hl hb).2 ((h.ok hl ha).1.trans hP.1.symm) ((h.ok hl hb).1.trans hP.1.symm) e
  · obtain ⟨a, ha, rfl⟩ := List.mem_map.1 hx
    exact h.mul hl hp ha

/-- What undoes one of the group is in it. -/
theorem GroupOf.inv (h : GroupOf n l T) (hl : Orders n l) {p q : List Int} (hp : p ∈ T) (hq : IsInv p q) : q ∈ T := by
  have hP := h.ok hl hp
  obtain ⟨a, ha, e⟩ := List.mem_map.1 ((h.map_mul hl hp).mem_iff.2 h.one)
  have hA := h.ok hl ha
  have h1 : times q (times p a) = a := by
    rw [← times_assoc hA.2 (hP.1.trans hA.1.symm), hq.left]
    exact one_times hA.2 (hA.1.trans hP.1.symm)
  rw [e, times_one (hq.1.trans hP.1)] at h1
  rw [h1]
  exact ha

/-- LAGRANGE, for a set of orders that the group leaves together. -/
theorem GroupOf.dvd_of (h : GroupOf n l T) (hl : Orders n l) : ∀ (m : Nat) (L : List (List Int)), L.length ≤ m → L.Nodup → Orders n L → (∀ g s, g ∈ T → s ∈ L → times g s ∈ L) → T.length ∣ L.length
  | 0, L, hm, _, _, _ => by rw [show L.length = 0 by omega]; exact Nat.dvd_zero _
  | m + 1, [], _, _, _, _ => Nat.dvd_zero _
  | m + 1, s :: L', hm, hn, ho, hc => by
    generalize hL : s :: L' = L at *
    have hs : s ∈ L := by rw [← hL]; simp
    have hS := ho s hs
    let O := T.map (fun g => times g s)
    have hOn : O.Nodup := nodup_map_on h.nodup fun a ha b hb e => times_cancelR hS.2 ((h.ok hl ha).1.trans hS.1.symm) ((h.ok hl hb).1.trans hS.1.symm) e
    have hOm : ∀ x, x ∈ O → x ∈ L := fun x hx => by
      obtain ⟨g, hg, rfl⟩ := List.mem_map.1 hx
      exact hc g s hg hs
    have hsO : s ∈ O := List.mem_map.2 ⟨iota n, h.one, one_times hS.2 hS.1⟩
    have hin : (L.filter (fun x => decide (x ∈ O))).length = T.length := by
      have h1 := length_le_of_subset (l := L.filter (fun x => decide (x ∈ O))) (l' := O) (List.Pairwise.filter _ hn) (fun x hx => by simpa using (List.mem_filter.1 hx).2)
      have h2 := length_le_of_subset (l := O) (l' := L.filter (fun x => decide (x ∈ O))) hOn (fun x hx => List.mem_filter.2 ⟨hOm x hx, by simpa using hx⟩)
      have h3 : O.length = T.length := by simp [O]
      omega
    have hsplit := List.length_eq_countP_add_countP (fun x => decide (x ∈ O)) (l := L)
    rw [List.countP_eq_length_filter, List.countP_eq_length_filter, hin] at hsplit
    have hpos := h.pos
    have ih := GroupOf.dvd_of h hl m (L.filter (fun x => decide ¬decide (x ∈ O) = true)) (by omega) (List.Pairwise.filter _ hn) (fun g hg => ho g (List.mem_filter.1 hg).1) (fun g t hg ht => by
      obtain ⟨ht1, ht2⟩ := List.mem_filter.1 ht
      have hT' := ho t ht1
      have hG := h.ok hl hg
      refine List.mem_filter.2 ⟨hc g t hg ht1, ?_⟩
      simp only [decide_eq_true_eq] at ht2 ⊢
      intro hx
      obtain ⟨k, hk, e⟩ := List.mem_map.1 hx
      have hK := h.ok hl hk
      apply ht2
      have hv := h.inv hl hg (isInv_vs hG.2)
      refine List.mem_map.2 ⟨times (vs g) k, h.mul hl hv hk, ?_⟩
      rw [times_assoc hS.2 (hK.1.trans hS.1.symm), e, ← times_assoc hT'.2 (hG.1.trans hT'.1.symm), (isInv_vs hG.2).left]
      exact one_times hT'.2 (hT'.1.trans hG.1.symm))
    rw [hsplit]
    exact Nat.dvd_add (Nat.dvd_refl _) ih

/-- LAGRANGE: it has a number that divides how many orders there are. -/
theorem GroupOf.dvd_fact (h : GroupOf n l T) (hl : Orders n l) : T.length ∣ fact n := by
  have := h.dvd_of hl (fact n) ((List.range (fact n)).map (atL n)) (by simp) (nodup_map_on List.nodup_range fun a ha b hb e => by
      rw [← rk_atL (List.mem_range.1 ha), e, rk_atL (List.mem_range.1 hb)]) (fun g hg => by
      obtain ⟨k, _, rfl⟩ := List.mem_map.1 hg
      exact ⟨length_atL n k, isPerm_atL n k⟩) (fun g s hg hs => by
      obtain ⟨k, _, rfl⟩ := List.mem_map.1 hs
      have hG := h.ok hl hg
      have hp : IsPerm (times g (atL n k)) := isPerm_times hG.2 (isPerm_atL n k) (by rw [hG.1, length_atL])
      have hle : (times g (atL n k)).length = n := by rw [length_times, length_atL]
      refine List.mem_map.2 ⟨rk (times g (atL n k)), List.mem_range.2 ?_, ?_⟩
      · have := rk_lt (times g (atL n k))
        rwa [hle] at this
      · have := atL_rk hp
        rwa [hle] at this)
  simpa using this
end

/-! ### A row by an order -/
/-- What stands in place i goes to where i goes. -/
def mv (p row : List Int) : List Int := times row (vs p)

theorem length_mv (p row : List Int) : (mv p row).length = p.length := by unfold mv; rw [length_times, length_vs]
theorem getD_mv {p row : List Int} (h : IsPerm p) {i : Nat} (hi : i < p.length) : (mv p row).getD (p.getD i 0).toNat 0 = row.getD i 0 := by
  have hr := h.range (getD_mem hi)
  unfold mv
  rw [getD_times (by rw [length_vs]; omega), (isInv_vs h).2 i hi]
  rfl
theorem vs_times {p q : List Int} (hp : IsPerm p) (hq : IsPerm q) (hl : q.length = p.length) : vs (times q p) = times (vs p) (vs q) :=
  IsInv.unique (isInv_vs (isPerm_times hq hp hl)) ((isInv_vs hq).times (isInv_vs hp) hp hq hl) (isPerm_times hq hp hl)
theorem mv_mul {p q : List Int} (row : List Int) (hp : IsPerm p) (hq : IsPerm q) (hl : q.length = p.length) : mv (times q p) row = mv q (mv p row) := by
  unfold mv
  rw [vs_times hp hq hl, times_assoc (isPerm_vs hq) (by rw [length_vs, length_vs, hl])]
theorem vs_iota (n : Nat) : vs (iota n) = iota n := by
  refine IsInv.unique (isInv_vs (isPerm_iota n)) ⟨rfl, fun i hi => ?_⟩ (isPerm_iota n)
  rw [length_iota] at hi
  rw [getD_iota hi, show ((i : Int)).toNat = i by omega, getD_iota hi]
theorem mv_one {row : List Int} {n : Nat} (h : row.length = n) : mv (iota n) row = row := by
  unfold mv
  rw [vs_iota, times_one h]
theorem mv_perm {p row : List Int} (hp : IsPerm p) (hl : row.length = p.length) : (mv p row).Perm row := by
  have h1 : (vs p).Perm (iota row.length) := by
    have := isPerm_vs hp
    unfold IsPerm at this
    rwa [length_vs, ← hl] at this
  have h2 := h1.map (fun v => row.getD v.toNat 0)
  rw [map_iota] at h2
  exact h2
theorem mv_back {p row : List Int} (hp : IsPerm p) (hl : row.length = p.length) : mv (vs p) (mv p row) = row := by
  rw [← mv_mul row hp (isPerm_vs hp) (length_vs p), (isInv_vs hp).left, mv_one hl]
theorem mv_inj {p r s : List Int} (hp : IsPerm p) (hr : r.length = p.length) (hs : s.length = p.length) (e : mv p r = mv p s) : r = s := by
  rw [← mv_back hp hr, e, mv_back hp hs]

/-! ### The order of rows -/
theorem cmpL_self : ∀ a : List Int, cmpL a a = 0
  | [] => rfl
  | x :: a => by simp [cmpL, cmpL_self a]
theorem cmpL_eq : ∀ {a b : List Int}, cmpL a b = 0 → a = b
  | [], [], _ => rfl
  | [], _ :: _, h => by simp [cmpL] at h
  | _ :: _, [], h => by simp [cmpL] at h
  | x :: a, y :: b, h => by
    simp only [cmpL] at h
    split at h
    · cases h
    · split at h
      · cases h
      · rw [cmpL_eq h, show x = y by omega]
theorem cmpL_swap : ∀ (a b : List Int), cmpL b a = - cmpL a b
  | [], [] => rfl
  | [], _ :: _ => rfl
  | _ :: _, [] => rfl
  | x :: a, y :: b => by
    simp only [cmpL]
    have ih := cmpL_swap a b
    split <;> split <;> (try split) <;> omega
theorem cmpL_trans : ∀ {a b c : List Int}, cmpL a b < 0 → cmpL b c < 0 → cmpL a c < 0
  | [], [], _, h, _ => by simp [cmpL] at h
  | [], _ :: _, [], _, k => by simp [cmpL] at k
  | [], _ :: _, _ :: _, _, _ => by simp [cmpL]
  | _ :: _, [], _, h, _ => by simp [cmpL] at h
  | _ :: _, _ :: _, [], _, k => by simp [cmpL] at k
  | x :: a, y :: b, z :: c, h, k => by
    have ih := @cmpL_trans a b c
    simp only [cmpL] at h k ⊢
    split at h
    · split at k
      · rw [if_pos (by omega)]; decide
      · split at k
        · omega
        · rw [if_pos (by omega)]; decide
    · split at h
      · omega
      · split at k
        · rw [if_pos (by omega)]; decide
        · split at k
          · omega
          · rw [if_neg (by omega), if_neg (by omega)]; exact ih h k
theorem cmpL_bd : ∀ (a b : List Int), -1 ≤ cmpL a b ∧ cmpL a b ≤ 1
  | [], [] => by simp [cmpL]
  | [], _ :: _ => by simp [cmpL]
  | _ :: _, [] => by simp [cmpL]
  | x :: a, y :: b => by
    have ih := cmpL_bd a b
    simp only [cmpL]
    split
    · omega
    · split <;> omega

/-- b is the least row that the group makes of row. -/
structure LeastRow (n : Nat) (l : List (List Int)) (row b : List Int) : Prop where
  orb : ∃ p, Gen n l p ∧ b = mv p row
  le : ∀ p, Gen n l p → ¬ cmpL (mv p row) b < 0

section
variable {n : Nat} {l T : List (List Int)} {row b : List Int}

theorem LeastRow.unique {c : List Int} (h : LeastRow n l row b) (k : LeastRow n l row c) : b = c := by
  obtain ⟨p, hp, hb⟩ := h.orb
  obtain ⟨q, hq, hc⟩ := k.orb
  have h1 := h.le q hq
  have h2 := k.le p hp
  rw [← hc] at h1
  rw [← hb] at h2
  have h3 := cmpL_swap b c
  exact cmpL_eq (by omega)

theorem LeastRow.length (h : LeastRow n l row b) (hl : Orders n l) : b.length = n := by
  obtain ⟨p, hp, rfl⟩ := h.orb
  rw [length_mv, (hp.ok hl).1]
theorem LeastRow.perm (h : LeastRow n l row b) (hl : Orders n l) (hr : row.length = n) : b.Perm row := by
  obtain ⟨p, hp, rfl⟩ := h.orb
  exact mv_perm (hp.ok hl).2 (hr.trans (hp.ok hl).1.symm)
theorem LeastRow.le_row (h : LeastRow n l row b) (hr : row.length = n) : cmpL b row ≤ 0 := by
  have := h.le _ .one
  rw [mv_one hr] at this
  have h3 := cmpL_swap b row
  omega

/-- All rows that the group makes of one have the same least one. -/
theorem LeastRow.moved (h : LeastRow n l row b) (hT : GroupOf n l T) (hl : Orders n l) (hr : row.length = n) {q : List Int} (hq : Gen n l q) : LeastRow n l (mv q row) b := by
  have hQ := hq.ok hl
  have hv : Gen n l (vs q) := (hT.mem _).1 (hT.inv hl ((hT.mem q).2 hq) (isInv_vs hQ.2))
  refine ⟨?_, fun p hp => ?_⟩
  · obtain ⟨p, hp, rfl⟩ := h.orb
    have hP := hp.ok hl
    refine ⟨times p (vs q), hp.mul hl hv, ?_⟩
    rw [mv_mul _ (isPerm_vs hQ.2) hP.2 (by rw [length_vs, hP.1, hQ.1]), mv_back hQ.2 (hr.trans hQ.1.symm)]
  · have hP := hp.ok hl
    rw [← mv_mul _ hQ.2 hP.2 (hP.1.trans hQ.1.symm)]
    exact h.le _ (hp.mul hl hq)
theorem LeastRow.own (h : LeastRow n l row b) (hT : GroupOf n l T) (hl : Orders n l) (hr : row.length = n) : LeastRow n l b b := by
  obtain ⟨p, hp, e⟩ := h.orb
  have := h.moved hT hl hr hp
  rwa [← e] at this

theorem take_snocR {T : List (List Int)} {j : Nat} (hj : j < T.length) : T.take (j + 1) = T.take j ++ [T.getD j []] := by
  rw [List.take_succ_eq_append_getElem hj, List.getD_eq_getElem?_getD, List.getElem?_eq_getElem hj]
  rfl
/-- The least among some. -/
structure LeastOn (S : List (List Int)) (row b : List Int) : Prop where
  orb : ∃ p, p ∈ S ∧ b = mv p row
  le : ∀ p, p ∈ S → ¬ cmpL (mv p row) b < 0

theorem LeastOn.whole (h : LeastOn T row b) (hT : GroupOf n l T) : LeastRow n l row b :=
  ⟨let ⟨p, hp, e⟩ := h.orb; ⟨p, (hT.mem p).1 hp, e⟩, fun p hp => h.le p ((hT.mem p).2 hp)⟩
theorem LeastOn.first (p row : List Int) : LeastOn [p] row (mv p row) := ⟨⟨p, by simp, rfl⟩, fun q hq => by rw [List.mem_singleton.1 hq, cmpL_self]; decide⟩
theorem LeastOn.less {S : List (List Int)} {p : List Int} (h : LeastOn S row b) (hlt : cmpL (mv p row) b < 0) : LeastOn (S ++ [p]) row (mv p row) := by
  refine ⟨⟨p, by simp, rfl⟩, fun q hq hc => ?_⟩
  rcases List.mem_append.1 hq with h1 | h1
  · exact h.le q h1 (cmpL_trans hc hlt)
  · rw [List.mem_singleton.1 h1, cmpL_self] at hc
    omega
theorem LeastOn.more {S : List (List Int)} {p : List Int} (h : LeastOn S row b) (hlt : ¬ cmpL (mv p row) b < 0) : LeastOn (S ++ [p]) row b := by
  refine ⟨let ⟨q, hq, e⟩ := h.orb; ⟨q, by simp [hq], e⟩, fun q hq => ?_⟩
  rcases List.mem_append.1 hq with h1 | h1
  · exact h.le q h1
  · rw [List.mem_singleton.1 h1]
    exact hlt
end

/-- How many cycles. -/
def cyc (p : List Int) : Nat := (cycL p p.length).length
theorem cyc_le (p : List Int) : cyc p ≤ p.length := length_cycL_le p p.length
theorem cyc_of {p ys : List Int} (h : IsCycles p ys) : ys.length = cyc p := h.1.length_eq
theorem pow_six {k c : Nat} (hk : k ≤ 10) (hc : c ≤ 6) : k ^ c ≤ 1000000 := by
  have h1 : k ^ c ≤ 10 ^ c := Nat.pow_le_pow_left hk c
  have h2 : 10 ^ c ≤ 10 ^ 6 := Nat.pow_le_pow_right (by decide) hc
  omega
/-- The sum over all of them. -/
def colS (T : List (List Int)) (k : Nat) : Nat := (T.map (fun p => k ^ cyc p)).sum
theorem colS_snoc (T : List (List Int)) (p : List Int) (k : Nat) : colS (T ++ [p]) k = colS T k + k ^ cyc p := by simp [colS]
theorem colS_step {T : List (List Int)} {j : Nat} (hj : j < T.length) (k : Nat) : colS (T.take (j + 1)) k = colS (T.take j) k + k ^ cyc (T.getD j []) := by
  rw [take_snocR hj, colS_snoc]
theorem colS_le {T : List (List Int)} {k : Nat} (hk : k ≤ 10) (hT : ∀ j, j < T.length → (T.getD j []).length ≤ 6) : ∀ j, j ≤ T.length → colS (T.take j) k ≤ j * 1000000
  | 0, _ => by simp [colS]
  | j + 1, h => by
    rw [colS_step (by omega)]
    have h1 := colS_le hk hT j (by omega)
    have h2 := pow_six hk (Nat.le_trans (cyc_le (T.getD j [])) (hT j (by omega)))
    omega
/-- P46: how many colourings. -/
def colN (T : List (List Int)) (k : Nat) : Nat := colS T k / T.length

end Go.Proofs.Ytbcjfiobggggjaa

/-
  orbits.moved, castref.Moved: a row by an order.
-/
namespace Go.Proofs.Ytbcjfiobggggjaa
open Go.RowKit

/-- The cells when the first k have moved. -/
def mvCell (p row : List Int) (k j : Nat) : Value := if ((vs p).getD j 0) < (k : Int) then .int .i64 ((mv p row).getD j 0) else .int .i64 0

theorem vs_at {p : List Int} (h : IsPerm p) {i m : Nat} (hi : i < p.length) (e : p.getD i 0 = (m : Int)) : (vs p).getD m 0 = (i : Int) := by
  have := (isInv_vs h).2 i hi
  rwa [e, Int.toNat_natCast] at this
theorem mvCell_start {p : List Int} (h : IsPerm p) (row : List Int) {j : Nat} (hj : j < p.length) : Value.int .i64 0 = mvCell p row 0 j := by
  obtain ⟨i, hi, e⟩ := h.pre hj
  unfold mvCell
  rw [vs_at h hi e, if_neg (by omega)]
theorem mvCell_step {p : List Int} (h : IsPerm p) (row : List Int) {k m : Nat} (hk : k < p.length) (e : p.getD k 0 = (m : Int)) {j : Nat} (hj : j < p.length) :
    (if j = m then Value.int .i64 (row.getD k 0) else mvCell p row k j) = mvCell p row (k + 1) j := by
  obtain ⟨i, hi, e2⟩ := h.pre hj
  unfold mvCell
  rw [vs_at h hi e2]
  by_cases hjm : j = m
  · subst hjm
    have hik : i = k := nx_inj h hi hk (by unfold nx; rw [e, e2])
    subst hik
    have := getD_mv (row := row) h hk
    rw [e, Int.toNat_natCast] at this
    rw [if_pos rfl, if_pos (by omega), this]
  · rw [if_neg hjm]
    have hik : i ≠ k := by
      intro e3
      subst e3
      rw [e] at e2
      omega
    by_cases hlt : i < k
    · rw [if_pos (by omega), if_pos (by omega)]
    · rw [if_neg (by omega), if_neg (by omega)]
theorem mvCell_end {p : List Int} (h : IsPerm p) (row : List Int) {j : Nat} (hj : j < p.length) : mvCell p row p.length j = .int .i64 ((mv p row).getD j 0) := by
  obtain ⟨i, hi, e⟩ := h.pre hj
  unfold mvCell
  rw [vs_at h hi e, if_pos (by omega)]

set_option maxRecDepth 100000 in
set_option maxHeartbeats 800000 in
theorem moved_ok (A : Option Addr) (n c : Nat) (B : Option Addr) (d : Nat) (row p : List Int) (w : World) (hA : Ints w A n row) (hB : Ints w B n p) (hp : IsPerm p) (hn : n ≤ 1000000) :
    Calls Try.prog 46 #[.slice A n c, .slice B n d] w (RetOwn w (mv p row)) := by
  have HP := hid hp
  have HL := hid hB.len
  have HLR := hid hA.len
  have hmk := fun W => run_make_row' (P := Try.prog) 23 3 (.int .i64 0) 8 Try.underlying23 infoInt rfl .i64 .i64 n (by omega) (by omega) W
  clear hp
  go_enter Try.func46, Try.ntmps46
  go_wp2_with fail
  go_loopg [13] n (fun g s wr => ∃ k : Nat, k ≤ n ∧ n - k ≤ g ∧ s = .int .i64 k ∧ wr.rowIs w.heap.size 3 n (mvCell p row k) ∧ Below w.heap.size w wr)
  case atStart => exact ⟨0, Nat.zero_le _, by omega, rfl, (World.rowIs_made w _ n _).congr (fun j hj => mvCell_start HP.out row (by rw [HL.out]; exact hj)), (Below.refl _ _).alloc (Nat.le_refl _) _⟩
  case round =>
    obtain ⟨k, hk, hg, rfl, hrow, hbel⟩ := hrel
    have HR := hid hrow
    have HB := hid hbel
    clear hrow hbel hmk
    by_cases hlt : k < n
    · obtain ⟨b2, o2, rfl, hlt2, hc2⟩ := hB.row (by omega)
      obtain ⟨b1, o1, rfl, hlt1, hc1⟩ := hA.row (by omega)
      have hkl : k < p.length := by rw [HL.out]; exact hlt
      have hr := HP.out.range (getD_mem hkl)
      rw [HL.out] at hr
      have g1 : wr.cell? ⟨b2, o2 + k, none⟩ = some (.int .i64 (p.getD k 0)) := (HB.out.cell (p := ⟨b2, o2 + k, none⟩) hlt2).trans (hc2 k hlt)
      have g2 : wr.cell? ⟨b1, o1 + k, none⟩ = some (.int .i64 (row.getD k 0)) := (HB.out.cell (p := ⟨b1, o1 + k, none⟩) hlt1).trans (hc1 k hlt)
      have HS := hid (fun m (e : p.getD k 0 = ((m : Nat) : Int)) j (hj : j < p.length) => mvCell_step HP.out row hkl e hj)
      generalize hxk : p.getD k 0 = x at g1 hr HS
      obtain ⟨m, rfl⟩ := Int.eq_ofNat_of_zero_le hr.1
      have hm : m < n := by omega
      have g3 : wr.cell? ⟨w.heap.size, m, none⟩ = some (mvCell p row k m) := HR.out.cell hm
      have g4 : wr.frozen? ⟨w.heap.size, m, none⟩ = false := HR.out.frozen m
      have HS2 := hid (HS.out m rfl)
      clear hc1 hc2 hr hA hB hkl HS hxk
      generalize row.getD k 0 = y at g2 HS2
      go_wp2
      go_roundg (n - (k + 1))
      case measure => omega
      case rel =>
        refine ⟨k + 1, by omega, by omega, by go_num, ?_, HB.out.setCell (Nat.le_refl _) _⟩
        exact (HR.out.set m (.int .i64 y)).congr (fun j hj => HS2.out j (by rw [HL.out]; exact hj))
    · have hkn : k = n := by omega
      subst hkn
      go_wp2
      go_ret
      refine ⟨_, rfl, own_of_rowIs HR.out (by rw [length_mv]; exact HL.out) (fun j hj => ?_) (Nat.le_refl _) (by unfold maxLen; omega), HB.out⟩
      have := mvCell_end HP.out row (j := j) (by rw [HL.out]; exact hj)
      rwa [HL.out] at this

set_option maxRecDepth 100000 in
set_option maxHeartbeats 800000 in
theorem refMoved_ok (A : Option Addr) (n c : Nat) (B : Option Addr) (d : Nat) (row p : List Int) (w : World) (hA : Ints w A n row) (hB : Ints w B n p) (hp : IsPerm p) (hn : n ≤ 1000000) :
    Calls Try.prog 53 #[.slice B n d, .slice A n c] w (RetOwn w (mv p row)) := by
  have HP := hid hp
  have HL := hid hB.len
  have HLR := hid hA.len
  have hmk := fun W => run_make_row' (P := Try.prog) 23 3 (.int .i64 0) 8 Try.underlying23 infoInt rfl .i64 .i64 n (by omega) (by omega) W
  clear hp
  go_enter Try.func53, Try.ntmps53
  go_wp2_with fail
  go_loopg [13] n (fun g s wr => ∃ k : Nat, k ≤ n ∧ n - k ≤ g ∧ s = .int .i64 k ∧ wr.rowIs w.heap.size 3 n (mvCell p row k) ∧ Below w.heap.size w wr)
  case atStart => exact ⟨0, Nat.zero_le _, by omega, rfl, (World.rowIs_made w _ n _).congr (fun j hj => mvCell_start HP.out row (by rw [HL.out]; exact hj)), (Below.refl _ _).alloc (Nat.le_refl _) _⟩
  case round =>
    obtain ⟨k, hk, hg, rfl, hrow, hbel⟩ := hrel
    have HR := hid hrow
    have HB := hid hbel
    clear hrow hbel hmk
    by_cases hlt : k < n
    · obtain ⟨b2, o2, rfl, hlt2, hc2⟩ := hB.row (by omega)
      obtain ⟨b1, o1, rfl, hlt1, hc1⟩ := hA.row (by omega)
      have hkl : k < p.length := by rw [HL.out]; exact hlt
      have hr := HP.out.range (getD_mem hkl)
      rw [HL.out] at hr
      have g1 : wr.cell? ⟨b2, o2 + k, none⟩ = some (.int .i64 (p.getD k 0)) := (HB.out.cell (p := ⟨b2, o2 + k, none⟩) hlt2).trans (hc2 k hlt)
      have g2 : wr.cell? ⟨b1, o1 + k, none⟩ = some (.int .i64 (row.getD k 0)) := (HB.out.cell (p := ⟨b1, o1 + k, none⟩) hlt1).trans (hc1 k hlt)
      have HS := hid (fun m (e : p.getD k 0 = ((m : Nat) : Int)) j (hj : j < p.length) => mvCell_step HP.out row hkl e hj)
      generalize hxk : p.getD k 0 = x at g1 hr HS
      obtain ⟨m, rfl⟩ := Int.eq_ofNat_of_zero_le hr.1
      have hm : m < n := by omega
      have g3 : wr.cell? ⟨w.heap.size, m, none⟩ = some (mvCell p row k m) := HR.out.cell hm
      have g4 : wr.frozen? ⟨w.heap.size, m, none⟩ = false := HR.out.frozen m
      have HS2 := hid (HS.out m rfl)
      clear hc1 hc2 hr hA hB hkl HS hxk
      generalize row.getD k 0 = y at g2 HS2
      go_wp2
      go_roundg (n - (k + 1))
      case measure => omega
      case rel =>
        refine ⟨k + 1, by omega, by omega, by go_num, ?_, HB.out.setCell (Nat.le_refl _) _⟩
        exact (HR.out.set m (.int .i64 y)).congr (fun j hj => HS2.out j (by rw [HL.out]; exact hj))
    · have hkn : k = n := by omega
      subst hkn
      go_wp2
      go_ret
      refine ⟨_, rfl, own_of_rowIs HR.out (by rw [length_mv]; exact HL.out) (fun j hj => ?_) (Nat.le_refl _) (by unfold maxLen; omega), HB.out⟩
      have := mvCell_end HP.out row (j := j) (by rw [HL.out]; exact hj)
      rwa [HL.out] at this

end Go.Proofs.Ytbcjfiobggggjaa

/-
  The library's text at this program: its functions and types by number, held alike by the kernel.
-/
namespace Go.Proofs.Ytbcjfiobggggjaa
open Go.Shelf

def laysn6_ren : Go.Shelf.Ren := ⟨fun | 6 => 44 | 15 => 61 | 14 => 75 | 28 => 90 | 29 => 91 | 20 => 97 | 21 => 98 | 22 => 99 | 23 => 100 | 24 => 101 | 25 => 102 | 26 => 103 | 27 => 104 | 46 => 114 | 47 => 109 | 48 => 110 | 49 => 115 | 50 => 116 | 57 => 119 | n => n, fun | 22 => 22 | 24 => 23 | 25 => 45 | 3 => 3 | 39 => 82 | 0 => 0 | 53 => 105 | 55 => 107 | 4 => 4 | 46 => 98 | 45 => 97 | 50 => 102 | 5 => 5 | 9 => 9 | 66 => 117 | 70 => 121 | 76 => 126 | 77 => 127 | n => n, fun | n => n⟩
theorem laysn6 : Go.Proofs.SlLaysF.n6 Try.prog laysn6_ren := {
  mixed := by kernel_rfl
  f6 := ⟨Try.f44.name, by decide, Try.func44.trans (congrArg some (by kernel_rfl))⟩
  f14 := ⟨Try.f75.name, by decide, Try.func75.trans (congrArg some (by kernel_rfl))⟩
  f15 := Try.func61.trans (congrArg some (by kernel_rfl))
  f20 := ⟨Try.f97.name, by decide, Try.func97.trans (congrArg some (by kernel_rfl))⟩
  f21 := ⟨Try.f98.name, by decide, Try.func98.trans (congrArg some (by kernel_rfl))⟩
  f22 := ⟨Try.f99.name, by decide, Try.func99.trans (congrArg some (by kernel_rfl))⟩
  f23 := ⟨Try.f100.name, by decide, Try.func100.trans (congrArg some (by kernel_rfl))⟩
  f24 := ⟨Try.f101.name, by decide, Try.func101.trans (congrArg some (by kernel_rfl))⟩
  f25 := ⟨Try.f102.name, by decide, Try.func102.trans (congrArg some (by kernel_rfl))⟩
  f26 := ⟨Try.f103.name, by decide, Try.func103.trans (congrArg some (by kernel_rfl))⟩
  f27 := ⟨Try.f104.name, by decide, Try.func104.trans (congrArg some (by kernel_rfl))⟩
  f28 := Try.func90.trans (congrArg some (by kernel_rfl))
  f29 := Try.func91.trans (congrArg some (by kernel_rfl))
  f46 := ⟨Try.f114.name, by decide, Try.func114.trans (congrArg some (by kernel_rfl))⟩
  f47 := Try.func109.trans (congrArg some (by kernel_rfl))
  f48 := Try.func110.trans (congrArg some (by kernel_rfl))
  f49 := ⟨Try.f115.name, by decide, Try.func115.trans (congrArg some (by kernel_rfl))⟩
  f50 := ⟨Try.f116.name, by decide, Try.func116.trans (congrArg some (by kernel_rfl))⟩
  f57 := ⟨Try.f119.name, by decide, Try.func119.trans (congrArg some (by kernel_rfl))⟩
  t0 := Try.underlying0
  a0 := Try.isAgg0
  z0 := Try.sizeOf0
  v0 := Try.zeroValue0
  t3 := Try.underlying3
  a3 := Try.isAgg3
  z3 := Try.sizeOf3
  v3 := Try.zeroValue3
  t4 := Try.underlying4
  a4 := Try.isAgg4
  z4 := Try.sizeOf4
  v4 := Try.zeroValue4
  t5 := Try.underlying5
  a5 := Try.isAgg5
  z5 := Try.sizeOf5
  v5 := Try.zeroValue5
  t9 := Try.underlying9
  a9 := Try.isAgg9
  z9 := Try.sizeOf9
  v9 := Try.zeroValue9
  t22 := Try.underlying22
  a22 := Try.isAgg22
  z22 := Try.sizeOf22
  v22 := Try.zeroValue22
  a24 := Try.isAgg23
  z24 := Try.sizeOf23
  t25 := Try.underlying45
  a25 := Try.isAgg45
  z25 := Try.sizeOf45
  v25 := Try.zeroValue45
  t39 := Try.underlying82
  a39 := Try.isAgg82
  z39 := Try.sizeOf82
  v39 := Try.zeroValue82
  t45 := Try.underlying97
  a45 := Try.isAgg97
  z45 := Try.sizeOf97
  v45 := Try.zeroValue97
  t46 := Try.underlying98
  a46 := Try.isAgg98
  z46 := Try.sizeOf98
  v46 := Try.zeroValue98
  t50 := Try.underlying102
  a50 := Try.isAgg102
  z50 := Try.sizeOf102
  v50 := Try.zeroValue102
  t53 := Try.underlying105
  a53 := Try.isAgg105
  z53 := Try.sizeOf105
  v53 := Try.zeroValue105
  t55 := Try.underlying107
  a55 := Try.isAgg107
  z55 := Try.sizeOf107
  v55 := Try.zeroValue107
  t66 := Try.underlying117
  a66 := Try.isAgg117
  z66 := Try.sizeOf117
  v66 := Try.zeroValue117
  t70 := Try.underlying121
  a70 := Try.isAgg121
  z70 := Try.sizeOf121
  v70 := Try.zeroValue121
  t76 := Try.underlying126
  a76 := Try.isAgg126
  z76 := Try.sizeOf126
  v76 := Try.zeroValue126
  t77 := Try.underlying127
  a77 := Try.isAgg127
  z77 := Try.sizeOf127
  v77 := Try.zeroValue127 }

end Go.Proofs.Ytbcjfiobggggjaa

/-
  slices.SortFunc at rows by slices.Compare, however many: the rows in order.
-/
namespace Go.Proofs.Ytbcjfiobggggjaa
open Go.RowKit Go.Sort

section
variable {α : Type} [Inhabited α] {enc : α → Value}

theorem heap_putV {w : World} {g n : Nat} {os : Array Obj} {cur : Array Value} {e : TypeId} {fr : Nat × Nat} (d : Array α) (hb : w.heap[g]? = some (.cells cur e fr)) :
    (Go.Sort.grow (putRow enc (Sort.ahead w n) g 0 d) os).heap[g]? = some (.cells (putCells enc 0 d cur) e fr) := by
  have hg : g < w.heap.size := (Array.getElem?_eq_some_iff.1 hb).1
  rw [heap_grow_old _ _ (by simpa using hg)]
  simp [putRow, mapBlock, Sort.ahead, Array.getElem?_modify, hb, onCells]
theorem grownBy_putV {w : World} {g n : Nat} {os : Array Obj} (d : Array α) : w.grownBy (Go.Sort.grow (putRow enc (Sort.ahead w n) g 0 d) os) (some g) := by
  refine ⟨rfl, rfl, rfl, by simp, fun k hk hne => ?_⟩
  rw [heap_grow_old _ _ (by simpa using hk)]
  have : g ≠ k := fun e => hne (by rw [e])
  simp [putRow, mapBlock, Sort.ahead, Array.getElem?_modify, this]
theorem take_putV (cur : Array Value) (d : Array α) (h : d.size ≤ cur.size) : (putCells enc 0 d cur).toList.take d.size = d.toList.map enc := by
  apply List.ext_getElem?
  intro j
  by_cases hj : j < d.size
  · rw [List.getElem?_take_of_lt hj, Array.getElem?_toList]
    simp [putCells, hj, show j < cur.size by omega]
  · rw [List.getElem?_take_eq_none (by omega), List.getElem?_eq_none (by simp; omega)]
end

/-- The rows, none of them behind a greater one. -/
def Rising (T : List (List Int)) : Prop := T.Pairwise (fun a b => ¬ cmpL b a < 0)

def RetSortR (w : World) (base : Nat) (v : Value) (T : List (List Int)) (e : Ending) (w' : World) : Prop := ∃ T', e = .returned (.tuple #[]) ∧ T'.Perm T ∧ Rising T' ∧ BRows w' base v T' ∧ w.grownBy w' v.ownBlock

/-- 'cmp(a, b) < 0' is a strict weak order. -/
theorem swoRows (R : Nat → List Int) : SWO (ltOf (fun i j => cmpL (R i) (R j))) where
  irrefl x := by
    show decide (cmpL (R x) (R x) < 0) = false
    rw [cmpL_self]
    rfl
  trans x y z h1 h2 := by
    unfold ltOf at *
    simp only [decide_eq_true_eq] at *
    exact cmpL_trans h1 h2
  ntrans x y z h1 h2 := by
    unfold ltOf at *
    simp only [decide_eq_false_iff_not] at *
    intro h3
    have s1 := cmpL_swap (R x) (R y)
    have s2 := cmpL_swap (R y) (R z)
    rcases Int.lt_trichotomy (cmpL (R y) (R x)) 0 with h | h | h
    · have := cmpL_trans h h3
      omega
    · rw [cmpL_eq h] at h2
      exact h2 h3
    · omega

theorem sortRows_any (base n : Nat) (v : Value) (T : List (List Int)) (w : World) (h : BRows w base v T) (h0 : 0 < T.length) (hN : T.length ≤ 1000000) (hn : n ≤ 1000000) (hT : ∀ j, j < T.length → (T.getD j []).length = n) :
    Calls Try.prog 44 #[v, .func (.func 29) #[] #[]] w (RetSortR w base v T) := by
  obtain ⟨vals, hl, ho, hv⟩ := h
  have ho' := ho
  rcases ho.2 with ⟨_, h9⟩ | ⟨g, cap, cur, rfl, hb, hg, h1, h2, h3, h4⟩
  · omega
  · rw [Nat.mul_one] at h3 h4
    have hgs := (Array.getElem?_eq_some_iff.1 hg).1
    let enc : Nat → Value := fun i => vals.getD (i % vals.length) (.slice none 0 0)
    let cf : Nat → Nat → Int := fun i j => cmpL (T.getD (i % vals.length) []) (T.getD (j % vals.length) [])
    let D : Array Nat := (List.range vals.length).toArray
    have hD : D.size = vals.length := by simp [D]
    have hDg : ∀ j, j < vals.length → D[j]! = j := by
      intro j hj
      simp [D, hj]
    have hHolds : Holds enc w g 0 D := by
      intro j hj
      rw [hD] at hj
      rw [hDg j hj, Nat.zero_add]
      refine ⟨?_, World.ownsRow.frozenAt ho' j⟩
      rw [World.ownsRow.cellAt ho' j (by omega)]
      show vals[j]? = some (vals.getD (j % vals.length) (.slice none 0 0))
      rw [Nat.mod_eq_of_lt hj, List.getD_eq_getElem?_getD, List.getElem?_eq_getElem (by omega)]
      rfl
    have h1c : OneCell enc := by
      intro i
      exact own_oneCell (hv (i % vals.length) (by rw [← hl]; exact Nat.mod_lt _ (by omega)))
    have hgrow : ∀ (m : Nat) (os : Array Obj) (dk : Array Nat), w.grownBy (sortWorld enc w g 0 m dk os) (Value.slice (some ⟨g, 0, none⟩) vals.length cap).ownBlock := fun m os dk => grownBy_putV dk
    have hcmp : CmpLays1 Try.prog 29 #[] enc cf g 0 D.size w := by
      intro m os dk _ x y
      have row : ∀ i, ∃ A c, enc i = .slice A n c ∧ Ints (sortWorld enc w g 0 m dk os) A n (T.getD (i % vals.length) []) := by
        intro i
        have hi : i % vals.length < T.length := by rw [← hl]; exact Nat.mod_lt _ (by omega)
        have := (hv _ hi).other ho' (hgrow m os dk)
        obtain ⟨A, c, e, hI, _⟩ := this.ints
        rw [hT _ hi] at e hI
        exact ⟨A, c, e, hI⟩
      obtain ⟨A1, c1, e1, hI1⟩ := row x
      obtain ⟨A2, c2, e2, hI2⟩ := row y
      rw [e1, e2]
      refine (compareL_any A1 n c1 A2 c2 _ _ _ hI1 hI2 hn).mono ?_
      rintro e w' ⟨rfl, rfl⟩
      exact ⟨rfl, 0, #[], by simp; rfl⟩
    have eg : ∀ args w, (callFunc 29 args).run Try.prog w = .ok (.enter 29 args) w := enters_of Try.func29 (by kernel_rfl) rfl
    have key := Any.slices_SortFunc laysn6 enc h1c cf (swoRows _) 29 #[] g 0 cap D w eg hcmp hHolds hgs (by omega)
    rw [hD] at key
    refine key.mono ?_
    rintro e w' ⟨rfl, d', n', os, hp, hs, rfl⟩
    obtain ⟨hp1, _, hp2⟩ := hp
    have hd's : d'.size = vals.length := hp1.trans hD
    have hperm : d'.toList.Perm (List.range vals.length) := by
      have e1 : d'.extract 0 vals.length = d' := by rw [← hd's]; simp
      have e2 : D.extract 0 vals.length = D := by rw [← hD]; simp
      rw [e1, e2] at hp2
      simpa [D] using hp2
    refine ⟨d'.toList.map (fun i => T.getD (i % vals.length) []), rfl, ?_, ?_, ?_, hgrow n' os d'⟩
    · have h5 := hperm.map (fun i => T.getD (i % vals.length) [])
      have h6 : (List.range vals.length).map (fun i => T.getD (i % vals.length) []) = T := by
        rw [hl]
        apply List.ext_getElem (by simp)
        intro i h7 h8
        simp [List.getD_eq_getElem?_getD, Nat.mod_eq_of_lt h8, h8]
      rwa [h6] at h5
    · unfold Rising
      rw [List.pairwise_map, List.pairwise_iff_getElem]
      intro i j hi hj hij
      have hi' : i < d'.size := by simpa using hi
      have hj' : j < d'.size := by simpa using hj
      have := hs i j (Nat.zero_le _) hij (by omega)
      unfold ltOf at this
      simp only [decide_eq_false_iff_not] at this
      rw [getElem!_pos d' i hi', getElem!_pos d' j hj'] at this
      simpa [cf] using this
    · have hlen : (d'.toList.map (fun i => T.getD (i % vals.length) [])).length = vals.length := by simp [hd's]
      refine ⟨d'.toList.map enc, by simp, ?_, fun j hj => ?_⟩
      · have hcl : (d'.toList.map enc).length = vals.length := by simp [hd's]
        rw [hcl]
        refine ⟨by rw [hcl, Nat.mul_one], .inr ⟨g, cap, putCells enc 0 d' cur, rfl, hb, heap_putV d' hg, h1, h2, by simp [putCells, h3], ?_⟩⟩
        rw [Nat.mul_one, ← hd's]
        exact take_putV cur d' (by omega)
      · rw [hlen] at hj
        have hj' : j < d'.size := by omega
        have hmem : d'[j] < vals.length := List.mem_range.1 (hperm.mem_iff.1 (by simp))
        have := (hv d'[j] (by omega)).other ho' (hgrow n' os d')
        have e1 : (d'.toList.map enc).getD j (.slice none 0 0) = vals.getD d'[j] (.slice none 0 0) := by
          rw [List.getD_eq_getElem?_getD]
          simp [hj', enc, Nat.mod_eq_of_lt hmem]
        have e2 : (d'.toList.map (fun i => T.getD (i % vals.length) [])).getD j [] = T.getD d'[j] [] := by
          rw [List.getD_eq_getElem?_getD]
          simp [hj', Nat.mod_eq_of_lt hmem]
        rw [e1, e2]
        exact this

end Go.Proofs.Ytbcjfiobggggjaa

/-
  slices.EqualFunc at rows of rows, castkeep.sameRows, castref.SamePair.
-/
namespace Go.Proofs.Ytbcjfiobggggjaa
open Go.RowKit

/-- Row by row alike. -/
def sameBy (p : List Int → List Int → Bool) : List (List Int) → List (List Int) → Bool
  | [], [] => true
  | a :: T, b :: U => p a b && sameBy p T U
  | _, _ => false
theorem sameBy_len {p : List Int → List Int → Bool} : ∀ {T U : List (List Int)}, T.length ≠ U.length → sameBy p T U = false
  | [], [], h => absurd rfl h
  | [], _ :: _, _ => rfl
  | _ :: _, [], _ => rfl
  | a :: T, b :: U, h => by
    rw [sameBy, sameBy_len (T := T) (U := U) (fun e => h (by simp [e])), Bool.and_false]
theorem sameBy_not {p : List Int → List Int → Bool} : ∀ {T U : List (List Int)} {j : Nat}, j < T.length → p (T.getD j []) (U.getD j []) = false → sameBy p T U = false
  | [], _, _, h, _ => absurd h (Nat.not_lt_zero _)
  | _ :: _, [], _, _, _ => rfl
  | a :: T, b :: U, 0, _, h => by
    have h' : p a b = false := h
    rw [sameBy, h', Bool.false_and]
  | a :: T, b :: U, j + 1, hj, h => by
    rw [sameBy, sameBy_not (T := T) (U := U) (j := j) (by simpa using hj) (by simpa using h), Bool.and_false]
theorem sameBy_all {p : List Int → List Int → Bool} : ∀ {T U : List (List Int)}, T.length = U.length → (∀ j, j < T.length → p (T.getD j []) (U.getD j []) = true) → sameBy p T U = true
  | [], [], _, _ => rfl
  | [], _ :: _, h, _ => by simp at h
  | _ :: _, [], h, _ => by simp at h
  | a :: T, b :: U, h, hall => by
    have h0 : p a b = true := hall 0 (by simp)
    rw [sameBy, h0, Bool.true_and]
    exact sameBy_all (by simpa using h) (fun j hj => by simpa using hall (j + 1) (by simpa using hj))
theorem sameBy_eq : ∀ (T U : List (List Int)), sameBy (fun a b => decide (a = b)) T U = decide (T = U)
  | [], [] => rfl
  | [], _ :: _ => rfl
  | _ :: _, [] => rfl
  | a :: T, b :: U => by
    rw [sameBy, sameBy_eq T U]
    by_cases h1 : a = b
    · by_cases h2 : T = U
      · simp [h1, h2]
      · simp [h1, h2]
    · simp [h1]

/-- What a function that compares two rows does. -/
def CmpBy (F : Nat) (p : List Int → List Int → Bool) (L : Nat) : Prop := ∀ (A1 : Option Addr) (n c : Nat) (A2 : Option Addr) (m d : Nat) (xs ys : List Int) (w : World), Ints w A1 n xs → Ints w A2 m ys → Cap n c → Cap m d → n ≤ L → m ≤ L →
  Calls Try.prog F #[.slice A1 n c, .slice A2 m d] w fun e w' => e = .returned (.bool (p xs ys)) ∧ Below w.heap.size w w'

theorem RRows.at {w : World} {A : Option Addr} {n : Nat} {T : List (List Int)} (h : RRows w A n T) {j : Nat} (hj : j < n) : ∃ b off Aj nj cj, A = some ⟨b, off, none⟩ ∧ w.cell? ⟨b, off + j, none⟩ = some (.slice Aj nj cj) ∧ Ints w Aj nj (T.getD j []) ∧ Cap nj cj := by
  obtain ⟨b, off, e, _, hc⟩ := h.row (by omega)
  obtain ⟨Aj, nj, cj, h1, h2, h3, _⟩ := hc j hj
  exact ⟨b, off, Aj, nj, cj, e, h1, h2, h3⟩
theorem RRows.at0 {w : World} {A : Option Addr} {n : Nat} {T : List (List Int)} (h : RRows w A n T) {j : Nat} (hj : j < n) : ∃ b off Aj nj cj, A = some ⟨b, off, none⟩ ∧ w.cell? ⟨b, off + j, none⟩ = some (.slice Aj nj cj) ∧ Ints w Aj nj (T.getD j []) ∧ Cap nj cj ∧ (Aj = none → cj = 0) := by
  obtain ⟨b, off, e, _, hc⟩ := h.row (by omega)
  obtain ⟨Aj, nj, cj, h1, h2, h3, h4⟩ := hc j hj
  exact ⟨b, off, Aj, nj, cj, e, h1, h2, h3, h4⟩

theorem cmpEqual : CmpBy 15 (fun a b => decide (a = b)) 1000000 := fun A1 n c A2 m d xs ys w h1 h2 _ _ hn hm => equal_bel A1 n c A2 m d xs ys w h1 h2 hn hm

set_option maxRecDepth 100000 in
set_option maxHeartbeats 1600000 in
theorem equalFunc_eq (A1 : Option Addr) (n c : Nat) (A2 : Option Addr) (m d : Nat) (T U : List (List Int)) (w : World) (h1 : RRows w A1 n T) (h2 : RRows w A2 m U) (hn : n ≤ 9223372036854775807) (hm : m ≤ 9223372036854775807)
    (hT : ∀ j, (T.getD j []).length ≤ 1000000) (hU : ∀ j, (U.getD j []).length ≤ 1000000) :
    Calls Try.prog 67 #[.slice A1 n c, .slice A2 m d, .func (.func 15) #[] #[]] w fun e w' => e = .returned (.bool (sameBy (fun a b => decide (a = b)) T U)) ∧ Below w.heap.size w w' := by
  obtain ⟨p, hp⟩ : ∃ p : List Int → List Int → Bool, p = (fun a b => decide (a = b)) := ⟨_, rfl⟩
  obtain ⟨L, hL⟩ : ∃ L : Nat, L = 1000000 := ⟨_, rfl⟩
  have HF : Hid (CmpBy 15 p L) := by rw [hp, hL]; exact cmpEqual
  rw [← hp]
  rw [← hL] at hT hU
  have H1 := hid h1
  have H2 := hid h2
  have HL1 := hid h1.len
  have HL2 := hid h2.len
  have HT := hid hT
  have HU := hid hU
  clear h1 h2 hT hU hp hL
  by_cases hnm : n = m
  · subst hnm
    go_enter Try.func67, Try.ntmps67
    go_wp2
    go_loopg [17] n (fun g t wr => ∃ i : Nat, i ≤ n ∧ n - i ≤ g ∧ t = .int .i64 (i : Int) ∧ Below w.heap.size w wr ∧ ∀ j, j < i → p (T.getD j []) (U.getD j []) = true)
    case atStart => exact ⟨0, Nat.zero_le _, by omega, rfl, Below.refl _ _, fun j hj => absurd hj (Nat.not_lt_zero _)⟩
    case round =>
      obtain ⟨i, hi, hg, rfl, hbel, hall⟩ := hrel
      have HB := hid hbel
      have HA := hid hall
      clear hbel hall
      by_cases hlt : i < n
      · obtain ⟨b1, o1, Aj, nj, cj, rfl, g1, hI1, hc1⟩ := (H1.out.keep HB.out).at hlt
        obtain ⟨b2, o2, Ak, nk, ck, rfl, g2, hI2, hc2⟩ := (H2.out.keep HB.out).at hlt
        have HI1 := hid hI1
        have HI2 := hid hI2
        have HC1 := hid hc1
        have HC2 := hid hc2
        clear hI1 hI2 hc1 hc2
        go_wp2_with fail
        refine (HF.out Aj nj cj Ak nk ck _ _ _ HI1.out HI2.out HC1.out HC2.out (by rw [← HI1.out.len]; exact HT.out i) (by rw [← HI2.out.len]; exact HU.out i)).mono ?_
        rintro e w2 ⟨rfl, hb2⟩
        have HB2 := hid (below_step HB.out (Nat.le_refl _) hb2)
        clear hb2 g1 g2
        rcases hq : p (T.getD i []) (U.getD i []) with _ | _
        · have HQ := hid hq
          clear hq
          go_wp2
          go_ret
          refine ⟨?_, HB2.out⟩
          rw [sameBy_not (by rw [HL1.out]; exact hlt) HQ.out]
          rfl
        · have HQ := hid hq
          clear hq
          go_wp2
          go_roundg (n - (i + 1))
          case measure => omega
          case rel =>
            refine ⟨i + 1, by omega, by omega, by go_num, HB2.out, fun j hj => ?_⟩
            by_cases e : j = i
            · rw [e]; exact HQ.out
            · exact HA.out j (by omega)
      · have hin : i = n := by omega
        subst hin
        go_wp2
        go_ret
        refine ⟨?_, HB.out⟩
        rw [sameBy_all (by rw [HL1.out, HL2.out]) (by rw [HL1.out]; exact HA.out)]
        rfl
  · have hne : ((n : Int) != (m : Int)) = true := by simp; omega
    go_enter Try.func67, Try.ntmps67
    go_wp2
    go_ret
    refine ⟨?_, Below.refl _ _⟩
    rw [sameBy_len (by rw [HL1.out, HL2.out]; exact hnm)]
    rfl

def sameLenB (a b : List Int) : Bool := decide (a.length = b.length)
theorem cmpLen : CmpBy 68 sameLenB 9223372036854775807 := by
  intro A1 n c A2 m d xs ys w h1 h2 h3 h4 hn hm
  have e : sameLenB xs ys = decide (n = m) := by unfold sameLenB; rw [h1.len, h2.len]
  rw [e]
  clear e h1 h2
  by_cases hnm : n = m
  · subst hnm
    rw [decide_eq_true rfl]
    go_enter Try.func68, Try.ntmps68
    go_wp2
    go_ret
    exact ⟨rfl, Below.refl _ _⟩
  · have hne : ((n : Int) == (m : Int)) = false := by simp; omega
    rw [decide_eq_false hnm]
    go_enter Try.func68, Try.ntmps68
    go_wp2
    go_ret
    exact ⟨rfl, Below.refl _ _⟩

set_option maxRecDepth 100000 in
set_option maxHeartbeats 1600000 in
theorem equalFunc_len (A1 : Option Addr) (n c : Nat) (A2 : Option Addr) (m d : Nat) (T U : List (List Int)) (w : World) (h1 : RRows w A1 n T) (h2 : RRows w A2 m U) (hn : n ≤ 9223372036854775807) (hm : m ≤ 9223372036854775807)
    (hT : ∀ j, (T.getD j []).length ≤ 9223372036854775807) (hU : ∀ j, (U.getD j []).length ≤ 9223372036854775807) :
    Calls Try.prog 67 #[.slice A1 n c, .slice A2 m d, .func (.func 68) #[] #[]] w fun e w' => e = .returned (.bool (sameBy sameLenB T U)) ∧ Below w.heap.size w w' := by
  obtain ⟨p, hp⟩ : ∃ p : List Int → List Int → Bool, p = sameLenB := ⟨_, rfl⟩
  obtain ⟨L, hL⟩ : ∃ L : Nat, L = 9223372036854775807 := ⟨_, rfl⟩
  have HF : Hid (CmpBy 68 p L) := by rw [hp, hL]; exact cmpLen
  rw [← hp]
  rw [← hL] at hT hU
  have H1 := hid h1
  have H2 := hid h2
  have HL1 := hid h1.len
  have HL2 := hid h2.len
  have HT := hid hT
  have HU := hid hU
  clear h1 h2 hT hU hp hL
  by_cases hnm : n = m
  · subst hnm
    go_enter Try.func67, Try.ntmps67
    go_wp2
    go_loopg [17] n (fun g t wr => ∃ i : Nat, i ≤ n ∧ n - i ≤ g ∧ t = .int .i64 (i : Int) ∧ Below w.heap.size w wr ∧ ∀ j, j < i → p (T.getD j []) (U.getD j []) = true)
    case atStart => exact ⟨0, Nat.zero_le _, by omega, rfl, Below.refl _ _, fun j hj => absurd hj (Nat.not_lt_zero _)⟩
    case round =>
      obtain ⟨i, hi, hg, rfl, hbel, hall⟩ := hrel
      have HB := hid hbel
      have HA := hid hall
      clear hbel hall
      by_cases hlt : i < n
      · obtain ⟨b1, o1, Aj, nj, cj, rfl, g1, hI1, hc1⟩ := (H1.out.keep HB.out).at hlt
        obtain ⟨b2, o2, Ak, nk, ck, rfl, g2, hI2, hc2⟩ := (H2.out.keep HB.out).at hlt
        have HI1 := hid hI1
        have HI2 := hid hI2
        have HC1 := hid hc1
        have HC2 := hid hc2
        clear hI1 hI2 hc1 hc2
        go_wp2_with fail
        refine (HF.out Aj nj cj Ak nk ck _ _ _ HI1.out HI2.out HC1.out HC2.out (by rw [← HI1.out.len]; exact HT.out i) (by rw [← HI2.out.len]; exact HU.out i)).mono ?_
        rintro e w2 ⟨rfl, hb2⟩
        have HB2 := hid (below_step HB.out (Nat.le_refl _) hb2)
        clear hb2 g1 g2
        rcases hq : p (T.getD i []) (U.getD i []) with _ | _
        · have HQ := hid hq
          clear hq
          go_wp2
          go_ret
          refine ⟨?_, HB2.out⟩
          rw [sameBy_not (by rw [HL1.out]; exact hlt) HQ.out]
          rfl
        · have HQ := hid hq
          clear hq
          go_wp2
          go_roundg (n - (i + 1))
          case measure => omega
          case rel =>
            refine ⟨i + 1, by omega, by omega, by go_num, HB2.out, fun j hj => ?_⟩
            by_cases e : j = i
            · rw [e]; exact HQ.out
            · exact HA.out j (by omega)
      · have hin : i = n := by omega
        subst hin
        go_wp2
        go_ret
        refine ⟨?_, HB.out⟩
        rw [sameBy_all (by rw [HL1.out, HL2.out]) (by rw [HL1.out]; exact HA.out)]
        rfl
  · have hne : ((n : Int) != (m : Int)) = true := by simp; omega
    go_enter Try.func67, Try.ntmps67
    go_wp2
    go_ret
    refine ⟨?_, Below.refl _ _⟩
    rw [sameBy_len (by rw [HL1.out, HL2.out]; exact hnm)]
    rfl

end Go.Proofs.Ytbcjfiobggggjaa

/-
  orbits.Check.
-/
namespace Go.Proofs.Ytbcjfiobggggjaa
open Go.RowKit

/-- An order of k numbers. -/
def okRow (k : Nat) (p : List Int) : Bool := decide (p.length = k) && decide (permErr p = 0)
/-- P44: the error. -/
def orbE (n : Int) (L : List (List Int)) : Int := if n < 0 ∨ 6 < n then 1 else if 6 < L.length then 2 else if L.all (okRow n.toNat) = true then 0 else 3

theorem orbE_arg {n : Int} {L : List (List Int)} (h : n < 0 ∨ 6 < n) : orbE n L = 1 := by unfold orbE; rw [if_pos h]
theorem orbE_large {k : Nat} {L : List (List Int)} (hk : k ≤ 6) (h : 6 < L.length) : orbE (k : Int) L = 2 := by unfold orbE; rw [if_neg (by omega), if_pos h]
theorem orbE_form {k j : Nat} {L : List (List Int)} (hk : k ≤ 6) (hl : L.length ≤ 6) (hj : j < L.length) (h : okRow k (L.getD j []) = false) : orbE (k : Int) L = 3 := by
  unfold orbE
  rw [if_neg (by omega), if_neg (by omega), if_neg]
  rw [List.all_eq_true]
  intro ha
  have hm : L.getD j [] ∈ L := by
    rw [List.getD_eq_getElem?_getD, List.getElem?_eq_getElem hj]
    exact List.getElem_mem hj
  have := ha _ hm
  rw [show ((k : Int)).toNat = k by omega, h] at this
  cases this
theorem orbE_ok {k : Nat} {L : List (List Int)} (hk : k ≤ 6) (hl : L.length ≤ 6) (h : ∀ j, j < L.length → okRow k (L.getD j []) = true) : orbE (k : Int) L = 0 := by
  unfold orbE
  rw [if_neg (by omega), if_neg (by omega), if_pos]
  rw [List.all_eq_true]
  intro x hx
  obtain ⟨j, hj, rfl⟩ := List.getElem_of_mem hx
  have := h j hj
  rw [List.getD_eq_getElem?_getD, List.getElem?_eq_getElem hj] at this
  rw [show ((k : Int)).toNat = k by omega]
  exact this
theorem orbE_zero {n : Int} {L : List (List Int)} (h : orbE n L = 0) : ∃ k : Nat, n = k ∧ k ≤ 6 ∧ L.length ≤ 6 ∧ ∀ p, p ∈ L → p.length = k ∧ IsPerm p := by
  unfold orbE at h
  split at h
  · cases h
  · rename_i h1
    split at h
    · cases h
    · split at h
      · rename_i h2 h3
        refine ⟨n.toNat, by omega, by omega, by omega, fun p hp => ?_⟩
        have := List.all_eq_true.1 h3 p hp
        simp only [okRow, Bool.and_eq_true, decide_eq_true_eq] at this
        exact ⟨this.1, (permErr_ok.1 this.2).2⟩
      · cases h

set_option maxRecDepth 100000 in
set_option maxHeartbeats 800000 in
theorem checkO_any (A : Option Addr) (m c : Nat) (L : List (List Int)) (n : Int) (w : World) (h : RRows w A m L) (hm : m ≤ 9223372036854775807) :
    Calls Try.prog 13 #[.int .i64 n, .slice A m c] w fun e w' => e = .returned (.int .i64 (orbE n L)) ∧ Below w.heap.size w w' := by
  by_cases h0 : n < 0
  · rw [orbE_arg (Or.inl h0)]
    have d0 : decide (n < 0) = true := by simp [h0]
    go_enter Try.func13, Try.ntmps13
    go_wp2
    go_ret
    exact ⟨rfl, Below.refl _ _⟩
  by_cases h6 : 6 < n
  · rw [orbE_arg (Or.inr h6)]
    have d0 : decide (n < 0) = false := by simp; omega
    have d1 : decide (6 < n) = true := by simp [h6]
    go_enter Try.func13, Try.ntmps13
    go_wp2
    go_ret
    exact ⟨rfl, Below.refl _ _⟩
  obtain ⟨k, rfl⟩ := Int.eq_ofNat_of_zero_le (show 0 ≤ n by omega)
  have hk : k ≤ 6 := by omega
  clear h0 h6
  have d0 : decide ((k : Int) < 0) = false := by simp
  have d1 : decide (6 < (k : Int)) = false := by simp; omega
  have HL := hid h.len
  by_cases hl : 6 < m
  · rw [orbE_large hk (by rw [HL.out]; exact hl)]
    clear h
    go_enter Try.func13, Try.ntmps13
    go_wp2
    go_ret
    exact ⟨rfl, Below.refl _ _⟩
  have hl6 : m ≤ 6 := by omega
  clear hl
  go_enter Try.func13, Try.ntmps13
  go_wp2
  go_loopg [18] m (fun g s wr => ∃ j : Nat, j ≤ m ∧ m - j ≤ g ∧ s = .int .i64 j ∧ (∀ i, i < j → okRow k (L.getD i []) = true) ∧ Below w.heap.size w wr)
  case atStart => exact ⟨0, Nat.zero_le _, by omega, rfl, fun i hi => absurd hi (Nat.not_lt_zero _), Below.refl _ _⟩
  case round =>
    obtain ⟨j, hj, hg, rfl, hok, hbel⟩ := hrel
    have HO := hid hok
    have HB := hid hbel
    have hR := h.keep hbel
    clear hok hbel
    by_cases hlt : j < m
    · obtain ⟨b, off, Aj, nj, cj, rfl, hcell, hI, hcap⟩ := hR.at hlt
      have hjl : j < L.length := by rw [HL.out]; exact hlt
      have HJL := hid hjl
      have HF := hid (orbE_form (L := L) (j := j) hk (by rw [HL.out]; exact hl6) hjl)
      have HE := hid hI.len
      clear hR hjl
      generalize hp : L.getD j [] = p at hI HF HE
      have HP := hid hp
      clear hp
      by_cases hnk : nj = k
      · subst hnk
        have e1 : (((nj : Nat) : Int) != (nj : Int)) = false := by simp
        clear h
        go_wp2_with fail
        refine (check_any Aj nj cj p _ hI (by omega)).mono ?_
        rintro e w1 ⟨rfl, hb1⟩
        have HB1 := hid (below_step HB.out (Nat.le_refl _) hb1)
        clear hb1 hI
        have HZ := hid (show permErr p = permErr p ∧ (permErr p ≠ 0 → orbE (nj : Int) L = 3) from ⟨rfl, fun hz => HF.out (by unfold okRow; simp [hz])⟩)
        clear HF
        by_cases hz : permErr p = 0
        · have e2 : (permErr p != 0) = false := by simp [hz]
          replace HZ : Hid (okRow nj p = true) := by
            show okRow nj p = true
            unfold okRow
            rw [HE.out, hz]
            simp
          clear hz
          generalize permErr p = z at e2
          go_wp2
          go_roundg (m - (j + 1))
          case measure => omega
          case rel =>
            refine ⟨j + 1, by omega, by omega, by go_num, fun i hi => ?_, HB1.out⟩
            by_cases e : i = j
            · subst e
              rw [HP.out]
              exact HZ.out
            · exact HO.out i (by omega)
        · have e2 : (permErr p != 0) = true := by simp [hz]
          have HT := hid (HZ.out.2 hz)
          clear hz HZ
          generalize permErr p = z at e2
          go_wp2
          go_ret
          rw [HT.out]
          exact ⟨rfl, HB1.out⟩
      · have e1 : (((nj : Nat) : Int) != (k : Int)) = true := by simp; omega
        have e3 : okRow k p = false := by unfold okRow; rw [HE.out]; simp [hnk]
        have HT := hid (HF.out e3)
        clear h hI HF e3
        go_wp2
        go_ret
        rw [HT.out]
        exact ⟨rfl, HB.out⟩
    · have hjm : j = m := by omega
      subst hjm
      have HT := hid (orbE_ok hk (by rw [HL.out]; exact hl6) (by rw [HL.out]; exact HO.out))
      clear h hR
      go_wp2
      go_ret
      rw [HT.out]
      exact ⟨rfl, HB.out⟩

end Go.Proofs.Ytbcjfiobggggjaa

/-
  package rank: Count, Code, Of.
-/
namespace Go.Proofs.Ytbcjfiobggggjaa
open Go.RowKit

/-! ### Count -/

theorem fact_mul (k : Nat) : ((fact (k + 1) : Nat) : Int) * ((k : Int) + 2) = ((fact (k + 2) : Nat) : Int) := by
  rw [show fact (k + 2) = (k + 2) * fact (k + 1) from rfl, Int.natCast_mul, Int.mul_comm]
  rfl

set_option maxHeartbeats 400000 in
theorem count_ok (n : Nat) (w : World) (hn : n ≤ 10) :
    Calls Try.prog 22 #[.int .i64 (n : Int)] w fun e w' => e = .returned (.tuple #[.int .i64 ((fact n : Nat) : Int), .int .i64 0]) ∧ w = w' := by
  go_enter Try.func22, Try.ntmps22
  go_wp2
  go_loopg [4, 5] n (fun g u s wr => ∃ k : Nat, (k + 1 ≤ n ∨ k = 0) ∧ n - k ≤ g ∧ u = .int .i64 ((fact (k + 1) : Nat) : Int) ∧ s = .int .i64 ((k : Int) + 2) ∧ w = wr)
  case atStart => exact ⟨0, Or.inr rfl, by omega, rfl, rfl, rfl⟩
  case round =>
    obtain ⟨k, hk, hg, rfl, rfl, rfl⟩ := hrel
    by_cases hlt : k + 2 ≤ n
    · have HM := hid (fact_mul k)
      have h1 : ((fact (k + 1) : Nat) : Int) * ((k : Int) + 2) ≤ 3628800 := by have := fact_ten (n := k + 2) (by omega); rw [HM.out]; omega
      have h0 : 0 ≤ ((fact (k + 1) : Nat) : Int) * ((k : Int) + 2) := by rw [HM.out]; omega
      generalize fact (k + 1) = F at HM h1 h0 ⊢
      go_wp2
      go_roundg (n - (k + 1))
      case measure => omega
      case rel => exact ⟨k + 1, by omega, by omega, by rw [HM.out], by go_num, rfl⟩
    · have HE : Hid (fact (k + 1) = fact n) := by
        rcases hk with h | h
        · rw [show n = k + 1 by omega]; exact rfl
        · subst h
          have : n = 0 ∨ n = 1 := by omega
          rcases this with rfl | rfl <;> rfl
      have h2 : ¬ (k : Int) + 2 ≤ (n : Int) := by omega
      rw [HE.out]
      go_wp2
      go_ret2
      exact ⟨rfl, rfl⟩

theorem count_bad (n : Int) (w : World) (hn : n < 0 ∨ 10 < n) :
    Calls Try.prog 22 #[.int .i64 n] w fun e w' => e = .returned (.tuple #[.int .i64 0, .int .i64 1]) ∧ w = w' := by
  rcases hn with h | h
  all_goals
    go_enter Try.func22, Try.ntmps22
    go_wp2
    go_ret2
    exact ⟨rfl, rfl⟩

/-! ### Code -/

/-- The cells of the code when k numbers are done, and m behind the next one are looked at. -/
def cellK (p : List Int) (k m j : Nat) : Value := .int .i64 (if j < k then (codeL p).getD j 0 else if j = k then (less (p.getD k 0) ((p.drop (k + 1)).take m) : Int) else 0)
theorem cellK_start (p : List Int) (j : Nat) : Value.int .i64 0 = cellK p 0 0 j := by
  unfold cellK
  rw [if_neg (by omega)]
  split <;> rfl
theorem take_drop_snoc' {p : List Int} {a m : Nat} (h : a + m < p.length) : (p.drop a).take (m + 1) = (p.drop a).take m ++ [p.getD (a + m) 0] := by
  rw [take_snoc (by rw [List.length_drop]; omega)]
  congr 1
  simp [List.getD_eq_getElem?_getD]
theorem less_step {p : List Int} {k m : Nat} (h : k + 1 + m < p.length) : less (p.getD k 0) ((p.drop (k + 1)).take (m + 1)) = less (p.getD k 0) ((p.drop (k + 1)).take m) + if p.getD (k + 1 + m) 0 < p.getD k 0 then 1 else 0 := by
  rw [take_drop_snoc' h, less_append, less_cons]
  simp [less]
theorem cellK_yes {p : List Int} {k m : Nat} (h : k + 1 + m < p.length) (hlt : p.getD (k + 1 + m) 0 < p.getD k 0) (j : Nat) :
    (if j = k then Value.int .i64 ((less (p.getD k 0) ((p.drop (k + 1)).take m) : Int) + 1) else cellK p k m j) = cellK p k (m + 1) j := by
  unfold cellK
  by_cases e : j = k
  · subst e
    rw [if_pos rfl, if_neg (by omega), if_pos rfl, less_step h, if_pos hlt]
    rfl
  · rw [if_neg e, if_neg e, if_neg e]
theorem cellK_no {p : List Int} {k m : Nat} (h : k + 1 + m < p.length) (hlt : ¬ p.getD (k + 1 + m) 0 < p.getD k 0) (j : Nat) : cellK p k m j = cellK p k (m + 1) j := by
  unfold cellK
  rw [less_step h, if_neg hlt]
  rfl
theorem cellK_end {p : List Int} {k m : Nat} (hk : k < p.length) (h : k + 1 + m = p.length) (j : Nat) : cellK p k m j = cellK p (k + 1) 0 j := by
  unfold cellK
  rw [List.take_of_length_le (by rw [List.length_drop]; omega), List.take_zero, ← getD_codeL p k hk]
  by_cases h1 : j < k
  · rw [if_pos h1, if_pos (by omega)]
  · rw [if_neg h1]
    by_cases h2 : j = k
    · subst h2
      rw [if_pos rfl, if_pos (by omega)]
    · rw [if_neg h2, if_neg (by omega)]
      split <;> rfl

set_option maxHeartbeats 1600000 in
theorem code_ok (A : Option Addr) (n c : Nat) (p : List Int) (w : World) (hA : Ints w A n p) (hp : permErr p = 0) (hc : n ≤ c) :
    Calls Try.prog 74 #[.slice A n c] w (RetInts w (codeL p) 0) := by
  have hn10 : n ≤ 10 := by rw [← hA.len]; exact (permErr_ok.1 hp).1
  have hmk := fun W => run_make_row' (P := Try.prog) 23 3 (.int .i64 0) 8 Try.underlying23 infoInt rfl .i64 .i64 n (by omega) (by omega) W
  go_enter Try.func74, Try.ntmps74
  go_wp2_with fail
  refine (check_any A n c p _ hA (by omega)).mono ?_
  rintro e w1 ⟨rfl, hb1⟩
  have hA1 := hA.keep hb1
  have HB1 := hid hb1
  have HL := hid hA.len
  clear hA hb1
  go_wp2_with fail
  go_loopg [20] n (fun g s wr => ∃ k : Nat, k ≤ n ∧ n - k ≤ g ∧ s = .int .i64 k ∧ wr.rowIs w1.heap.size 3 n (cellK p k 0) ∧ Below w1.heap.size w1 wr)
  case atStart => exact ⟨0, Nat.zero_le _, by omega, rfl, (World.rowIs_made w1 _ n _).congr (fun j _ => cellK_start p j), (Below.refl _ _).alloc (Nat.le_refl _) _⟩
  case round =>
    obtain ⟨k, hk, hg, rfl, hrow, hbel⟩ := hrel
    have HR := hid hrow
    have HB := hid hbel
    clear hrow hbel hmk
    by_cases hlt : k < n
    · have hI := hA1.keep HB.out
      have HS := hid (hA1.drop (c := c) (l := k + 1) (by omega) hc)
      obtain ⟨b, o, rfl, hb, hcell⟩ := hI.row (by omega)
      have g1 := hcell k hlt
      have hsl := fun W => run_from (some ⟨b, o, none⟩) n c (k + 1) ((k : Int) + 1) (by omega) (by omega) W
      clear hcell hI hb
      generalize hx : p.getD k 0 = x at g1
      have HX := hid hx
      clear hx
      generalize subA (some ⟨b, o, none⟩) c (k + 1) = S at HS hsl
      go_wp2
      go_loopg [30] (n - (k + 1)) (fun g s wr => ∃ m : Nat, m ≤ n - (k + 1) ∧ n - (k + 1) - m ≤ g ∧ s = .int .i64 m ∧ wr.rowIs w1.heap.size 3 n (cellK p k m) ∧ Below w1.heap.size w1 wr)
      case atStart => exact ⟨0, Nat.zero_le _, by omega, rfl, HR.out, HB.out⟩
      case round =>
        clear HR HB
        obtain ⟨m, hm, hgm, rfl, hrow, hbel⟩ := hrel
        have HR := hid hrow
        have HB := hid hbel
        clear hrow hbel hsl
        by_cases hmlt : m < n - (k + 1)
        · obtain ⟨b2, o2, rfl, hb2, hcell2⟩ := (HS.out.keep HB.out).row (by omega)
          have g2 := hcell2 m hmlt
          have hy : (p.drop (k + 1)).getD m 0 = p.getD (k + 1 + m) 0 := by simp [List.getD_eq_getElem?_getD]
          rw [hy] at g2
          have g3 : wr.cell? ⟨w1.heap.size, k, none⟩ = some (.int .i64 (less (p.getD k 0) ((p.drop (k + 1)).take m) : Int)) := by
            rw [HR.out.cell (by omega)]
            unfold cellK
            rw [if_neg (by omega), if_pos rfl]
          have g4 : wr.frozen? ⟨w1.heap.size, k, none⟩ = false := HR.out.frozen k
          have hle : less (p.getD k 0) ((p.drop (k + 1)).take m) ≤ n := by
            have := less_le (p.getD k 0) ((p.drop (k + 1)).take m)
            have h2 := List.length_take_le m (p.drop (k + 1))
            omega
          have HYES := hid (fun h => cellK_yes (p := p) (k := k) (m := m) (by rw [HL.out]; omega) h)
          have HNO := hid (cellK_no (p := p) (k := k) (m := m) (by rw [HL.out]; omega))
          rw [HX.out] at HYES HNO g3 hle
          clear hcell2 hy
          generalize p.getD (k + 1 + m) 0 = y at g2 HYES HNO
          generalize less x ((p.drop (k + 1)).take m) = L at g3 hle HYES
          by_cases hyx : y < x
          · have HW := hid (HR.out.set k (.int .i64 ((L : Int) + 1)))
            go_wp2
            go_roundg (n - (k + 1) - (m + 1))
            case measure => omega
            case rel => exact ⟨m + 1, by omega, by omega, by go_num, HW.out.congr (fun j _ => HYES.out hyx j), HB.out.setCell (Nat.le_refl _) _⟩
          · go_wp2
            go_roundg (n - (k + 1) - (m + 1))
            case measure => omega
            case rel => exact ⟨m + 1, by omega, by omega, by go_num, HR.out.congr (fun j _ => HNO.out hyx j), HB.out⟩
        · have hme : m = n - (k + 1) := by omega
          have HE := hid (cellK_end (p := p) (k := k) (m := m) (by rw [HL.out]; omega) (by rw [HL.out]; omega))
          have HM := hid hme
          clear hme
          go_wp2
          go_roundg (n - (k + 1))
          case measure => omega
          case rel => exact ⟨k + 1, by omega, by omega, by go_num, HR.out.congr (fun j _ => HE.out j), HB.out⟩
    · have hkn : k = n := by omega
      subst hkn
      go_wp2
      go_ret2
      refine ⟨_, _, _, rfl, HB1.out.trans (HB.out.mono HB1.out.size), ints_of_row HR.out (by rw [length_codeL, HL.out]) (fun j hj => ?_), Nat.le_refl _, by omega⟩
      unfold cellK
      rw [if_pos hj]

/-! ### Of -/

set_option maxHeartbeats 800000 in
theorem of_ok (A : Option Addr) (n c : Nat) (p : List Int) (w : World) (hA : Ints w A n p) (hp : permErr p = 0) (hc : n ≤ c) :
    Calls Try.prog 43 #[.slice A n c] w (RetOrder w ((rk p : Nat) : Int) 0) := by
  have hn10 : n ≤ 10 := by rw [← hA.len]; exact (permErr_ok.1 hp).1
  have HL := hid hA.len
  go_enter Try.func43, Try.ntmps43
  go_wp2_with fail
  refine (code_ok A n c p _ hA hp hc).mono ?_
  rintro e w1 ⟨A1, n1, c1, rfl, hb1, hI, _⟩
  have hn1 : n = n1 := by rw [← hI.len, length_codeL, HL.out]
  subst hn1
  have HB1 := hid hb1
  have HI := hid hI
  have HD := hid (isDig_codeL p)
  have HV : Hid (val (codeL p) = rk p) := val_codeL p
  have HF : Hid (rk p < fact n) := by have := rk_lt p; rw [HL.out] at this; exact this
  have HCL : Hid ((codeL p).length = n) := by rw [length_codeL]; exact HL.out
  clear hb1 hI hA
  generalize codeL p = d at HI HD HV HCL
  go_wp2_with fail
  go_loopg [6, 19] n (fun g u s wr => ∃ k : Nat, k ≤ n ∧ n - k ≤ g ∧ s = .int .i64 k ∧ u = .int .i64 ((part d k : Nat) : Int) ∧ w1 = wr)
  case atStart => exact ⟨0, Nat.zero_le _, by omega, rfl, rfl, rfl⟩
  case round =>
    obtain ⟨k, hk, hg, rfl, rfl, rfl⟩ := hrel
    by_cases hlt : k < n
    · obtain ⟨b, o, rfl, hb, hcell⟩ := HI.out.row (by omega)
      have g1 := hcell k hlt
      have hd := HD.out.getD k (by rw [HCL.out]; exact hlt)
      have h1 := part_le d (k := k + 1) (by rw [HCL.out]; omega)
      have h2 := fact_ten hn10
      have h3 := HF.out
      rw [HV.out] at h1
      simp only [part, HCL.out] at h1
      have HP : Hid (part d (k + 1) = part d k * (n - k) + (d.getD k 0).toNat) := by show part d k * (d.length - k) + _ = _; rw [HCL.out]
      clear hcell hb
      generalize d.getD k 0 = x at g1 hd h1 HP
      obtain ⟨y, rfl⟩ := Int.eq_ofNat_of_zero_le hd.1
      simp only [Int.toNat_natCast] at h1 HP
      generalize part d k = q at h1 HP ⊢
      have HQ : Hid ((q : Int) * ((n : Int) - (k : Int)) = ((q * (n - k) : Nat) : Int)) := by rw [Int.natCast_mul, Int.ofNat_sub (by omega)]; exact rfl
      have h5 : 0 ≤ (q : Int) * ((n : Int) - (k : Int)) := by rw [HQ.out]; omega
      have h6 : (q : Int) * ((n : Int) - (k : Int)) + y ≤ 3628800 := by rw [HQ.out]; omega
      clear hd h1 h2 h3
      go_wp2
      go_roundg (n - (k + 1))
      case measure => omega
      case rel => exact ⟨k + 1, by omega, by omega, by go_num, by rw [HP.out, HQ.out]; rfl, rfl⟩
    · have hkn : k = n := by omega
      subst hkn
      have HE : Hid (part d k = rk p) := by rw [← HV.out, ← part_end d, HCL.out]; exact rfl
      rw [HE.out]
      go_wp2
      go_ret2
      exact ⟨rfl, HB1.out⟩

end Go.Proofs.Ytbcjfiobggggjaa

/-
  package rank: digits, decode, At; slices.Delete of one number.
-/
namespace Go.Proofs.Ytbcjfiobggggjaa
open Go.RowKit

/-! ### digits -/

/-- The cells when j digits are laid, from the end on. -/
def cellD (n k j i : Nat) : Value := .int .i64 (if n - j ≤ i then (digL n k).getD i 0 else 0)
theorem cellD_step {n k j m : Nat} (hm : m + j + 1 = n) (x : Int) (hx : x = ((k / fact j % (j + 1) : Nat) : Int)) (i : Nat) (_hi : i < n) :
    (if i = m then Value.int .i64 x else cellD n k j i) = cellD n k (j + 1) i := by
  unfold cellD
  by_cases e : i = m
  · subst e
    rw [if_pos rfl, if_pos (by omega), getD_digL n k i (by omega), hx, show n - 1 - i = j by omega, show n - i = j + 1 by omega]
  · rw [if_neg e]
    by_cases h : n - j ≤ i
    · rw [if_pos h, if_pos (by omega)]
    · rw [if_neg h, if_neg (by omega)]

set_option maxHeartbeats 800000 in
theorem digits_any (n k : Nat) (w : World) (hn : n ≤ 10) (hk : k ≤ 1000000000) :
    Calls Try.prog 73 #[.int .i64 (n : Int), .int .i64 (k : Int)] w fun e w' => e = .returned (.slice (some ⟨w.heap.size, 0, none⟩) n n) ∧ Ints w' (some ⟨w.heap.size, 0, none⟩) n (digL n k) ∧ Below w.heap.size w w' := by
  have hmk := fun W => run_make_row' (P := Try.prog) 23 3 (.int .i64 0) 8 Try.underlying23 infoInt rfl .i64 .i64 n (by omega) (by omega) W
  go_enter Try.func73, Try.ntmps73
  go_wp2_with fail
  go_loopg [1, 6] n (fun g u s wr => ∃ j : Nat, j ≤ n ∧ n - j ≤ g ∧ u = .int .i64 ((k / fact j : Nat) : Int) ∧ s = .int .i64 ((n : Int) - 1 - j) ∧ wr.rowIs w.heap.size 3 n (cellD n k j) ∧ Below w.heap.size w wr)
  case atStart => exact ⟨0, Nat.zero_le _, by omega, by simp [fact], by go_num, (World.rowIs_made w _ n _).congr (fun i hi => by unfold cellD; rw [if_neg (by omega)]), (Below.refl _ _).alloc (Nat.le_refl _) _⟩
  case round =>
    obtain ⟨j, hj, hg, rfl, rfl, hrow, hbel⟩ := hrel
    have HR := hid hrow
    have HB := hid hbel
    clear hrow hbel hmk
    by_cases hlt : j < n
    · obtain ⟨m, hm⟩ : ∃ m, m + j + 1 = n := ⟨n - 1 - j, by omega⟩
      have hi : (n : Int) - 1 - j = m := by omega
      have HI := hid hi
      have HM := hid hm
      have hmn : m < n := by omega
      have hq : k / fact j ≤ k := Nat.div_le_self _ _
      have f1 : wr.frozen? ⟨w.heap.size, m, none⟩ = false := HR.out.frozen m
      have g1 := HR.out.cell (i := m) (by omega)
      have HC : Hid (∀ x : Int, x = ((k / fact j % (j + 1) : Nat) : Int) → (wr.setCell ⟨w.heap.size, m, none⟩ (.int .i64 x)).rowIs w.heap.size 3 n (cellD n k (j + 1))) :=
        fun x hx => (HR.out.set m (.int .i64 x)).congr (cellD_step hm x hx)
      have HF := hid (fact_step k j)
      rw [HI.out]
      clear hi hm
      generalize cellD n k j m = v1 at g1
      generalize k / fact j = q at hq HC HF ⊢
      have HN : Hid ((n : Int) - (m : Int) = ((j + 1 : Nat) : Int)) := by have := HM.out; show (n : Int) - m = _; omega
      have e1 : (q : Int) % ((n : Int) - (m : Int)) = ((q % (j + 1) : Nat) : Int) := by rw [HN.out]; exact (Int.natCast_emod q (j + 1)).symm
      have e2 : (q : Int) / ((n : Int) - (m : Int)) = ((q / (j + 1) : Nat) : Int) := by rw [HN.out]; exact (Int.natCast_ediv q (j + 1)).symm
      have E1 := hid e1
      have E2 := hid e2
      clear e1 e2
      go_wp2
      have hm := HM.out
      go_roundg (n - (j + 1))
      case measure => omega
      case rel => exact ⟨j + 1, by omega, by omega, by have := Nat.div_le_self k (fact (j + 1)); rw [E2.out, HF.out]; generalize k / fact (j + 1) = z at *; rw [IntWalk.wrap64_in _ (by omega)], by go_num, HC.out _ E1.out, HB.out.setCell (Nat.le_refl _) _⟩
    · have hjn : j = n := by omega
      subst hjn
      have hneg : ¬ (0 : Int) ≤ (j : Int) - 1 - j := by omega
      go_wp2
      go_ret
      exact ⟨rfl, ints_of_row HR.out (length_digL j k) (fun i _ => by unfold cellD; rw [if_pos (by omega)]), HB.out⟩

/-! ### Delete -/

theorem drop_app_one {a b : List Int} {k : Nat} (h : a.length = k) : (a ++ b).drop (k + [(0 : Int)].length) = b.drop 1 := by
  subst h
  simp

set_option maxRecDepth 100000 in
set_option maxHeartbeats 1600000 in
/-- 'slices.Delete(s, i, i+1)' in a block that is known whole. -/
theorem delete_one (g m cap i : Nat) (L : Int) (xs : List Int) (w : World) (h : Arr w g xs) (hcap : xs.length = cap) (hm : m ≤ cap) (hi : i < m) (_hc2 : cap ≤ 1000000) (hL : L = (i : Int) + 1) :
    Calls Try.prog 96 #[.slice (some ⟨g, 0, none⟩) m cap, .int .i64 (i : Int), .int .i64 L] w fun e w' =>
      e = .returned (.slice (some ⟨g, 0, none⟩) (m - 1) cap) ∧ Arr w' g (xs.take i ++ (xs.take m).drop (i + 1) ++ 0 :: xs.drop m) ∧ w.grownBy w' (some g) := by
  subst hL
  obtain ⟨i0, hi0, hz0, hz1, hz2⟩ := info_parts infoInt
  obtain ⟨news, hnews⟩ : ∃ news, news = ((xs.take m).drop (i + 1)).map (Value.int .i64) := ⟨_, rfl⟩
  have hlen : news.length = m - (i + 1) := by rw [hnews]; simp; omega
  have HX := hid hcap
  obtain ⟨A, hA, hsrc⟩ : ∃ A : Addr, subA (some ⟨g, 0, none⟩) cap (i + 1) = some A ∧ Hid (∀ t u, news[t]? = some u → w.drew.cell? (A.add t) = some u) := by
    by_cases hc : cap = i + 1
    · refine ⟨⟨g, 0, none⟩, by unfold subA; rw [if_pos hc], fun t u hu => ?_⟩
      have h0 : news.length = 0 := by rw [hlen]; omega
      rw [List.length_eq_zero_iff.1 h0] at hu
      simp at hu
    · refine ⟨⟨g, i + 1, none⟩, by unfold subA; rw [if_neg hc]; simp [Addr.add], fun t u hu => ?_⟩
      have ht : t < m - (i + 1) := by
        have := (List.getElem?_eq_some_iff.1 hu).1
        rwa [hlen] at this
      rw [Addr.add_lit]
      have hcell := h.cell (j := i + 1 + t) (by omega)
      show w.cell? _ = _
      rw [hcell, ← hu, hnews, List.getElem?_map, List.getElem?_drop, List.getElem?_take, if_pos (by omega), List.getElem?_eq_getElem (by omega), List.getD_eq_getElem?_getD, List.getElem?_eq_getElem (by omega)]
      rfl
  have hsl := fun W => run_from (some ⟨g, 0, none⟩) m cap (i + 1) ((i : Int) + 1) (by omega) (by omega) W
  simp only [hA] at hsl
  have s1 : Hid (news.length = (m - (i + 1)) * 1) := by rw [Nat.mul_one]; exact hlen
  have s2 : Hid (∀ u ∈ news, u.oneCell' = true) := by
    intro u hu
    rw [hnews] at hu
    obtain ⟨x, _, rfl⟩ := List.mem_map.1 hu
    rfl
  have s3 : Hid (∀ t, t < news.length → (w.drew.cell? ⟨g, 0 + i * 1 + t, none⟩).isSome = true ∧ w.drew.frozen? ⟨g, 0 + i * 1 + t, none⟩ = false) := by
    intro t ht
    rw [hlen] at ht
    refine ⟨?_, h.frozen _⟩
    show (w.cell? _).isSome = true
    rw [h.cell (by omega)]
    rfl
  obtain ⟨W1, hW1⟩ : ∃ W1, W1 = w.drew.setCells g (0 + i * 1) news := ⟨_, rfl⟩
  have hnl : ((xs.take m).drop (i + 1)).length = m - (i + 1) := by simp; omega
  have a1 : Arr W1 g (xs.take i ++ (xs.take m).drop (i + 1) ++ xs.drop (i + (m - (i + 1)))) := by
    have := h.drew.setCells (o := i) (ys := (xs.take m).drop (i + 1)) (by rw [hnl]; omega)
    rw [hnl] at this
    rw [hW1, hnews, show 0 + i * 1 = i by omega]
    exact this
  have o1 : w.grownBy W1 (some g) := by rw [hW1]; exact one_sets (one_drew (one_refl w _))
  have A1 := hid a1
  have O1 := hid o1
  have hyl : (xs.take i ++ (xs.take m).drop (i + 1) ++ xs.drop (i + (m - (i + 1)))).length = cap := by
    simp only [List.length_append, hnl, List.length_take, List.length_drop]; omega
  have HYL := hid hyl
  have hcl : ∀ ty, (Builtin.clear_ #[23] ty #[.slice (some ⟨g, i + (m - (i + 1)), none⟩) (m - (i + (m - (i + 1)))) (cap - (i + (m - (i + 1))))]).run Try.prog W1 = .ok (.tuple #[]) (W1.setCells g (i + (m - (i + 1))) (List.replicate (m - (i + (m - (i + 1)))) (.int .i64 0))) :=
    fun ty => Lib.run_clear_slice W1 23 3 ty (.int .i64 0) Try.underlying23 (fun _ => by kernel_rfl) rfl rfl g (i + (m - (i + 1))) _ _ (by omega) (fun t ht => by rw [a1.cell (by rw [hyl]; omega)]; rfl) (fun t ht => a1.frozen _)
  have hW := hid hW1
  have HN := hid hnews
  clear hW1 a1 o1 hyl hnews hnl hlen hcap h hA
  have hic : i ≤ cap := by omega
  go_enter Try.func96, Try.ntmps96
  go_wp2_with fail
  go_region_law (refine step_append_room rfl (.tmp 22) (.tmp 25) 23 rfl 3 i0 1 Try.underlying23 hi0 hz1 g 0 i cap (by simp [Act.eval, Act.put]) A (m - (i + 1)) (cap - (i + 1)) news (by simp [Act.eval, Act.put]) s1.out hsrc.out s2.out (by omega) s3.out ?_; rw [← hW.out])
  go_wp2
  go_ret
  have hl2 : (xs.take i ++ (xs.take m).drop (i + 1)).length = i + (m - (i + 1)) := by
    have := HX.out
    simp only [List.length_append, List.length_take, List.length_drop]; omega
  refine ⟨by rw [show m - 1 = i + (m - (i + 1)) by omega]; rfl, ?_, one_sets O1.out⟩
  have a2 := A1.out.setCells (o := i + (m - (i + 1))) (ys := [0]) (by rw [HYL.out]; simp; omega)
  rw [show m - (i + (m - (i + 1))) = 1 by omega]
  rw [List.take_left' hl2, drop_app_one hl2, List.drop_drop, show i + (m - (i + 1)) + 1 = m by omega, List.append_assoc] at a2
  exact a2

/-! ### decode -/

/-- The first k cells hold their own number. -/
def ownUpto (n k : Nat) : List Int := iota k ++ List.replicate (n - k) 0
theorem length_ownUpto {n k : Nat} (h : k ≤ n) : (ownUpto n k).length = n := by simp [ownUpto, length_iota]; omega
theorem iota_succ (k : Nat) : iota (k + 1) = iota k ++ [(k : Int)] := by simp [iota, List.range_succ]
theorem ownUpto_step {n k : Nat} (h : k < n) : (ownUpto n k).set k (k : Int) = ownUpto n (k + 1) := by
  unfold ownUpto
  obtain ⟨m, rfl⟩ : ∃ m, n = k + 1 + m := ⟨n - (k + 1), by omega⟩
  rw [show k + 1 + m - k = m + 1 by omega, show k + 1 + m - (k + 1) = m by omega, List.replicate_succ, List.set_append_right _ _ (by rw [length_iota]; exact Nat.le_refl _), length_iota, Nat.sub_self, List.set_cons_zero, iota_succ, List.append_assoc]
  rfl
theorem ownUpto_end (n : Nat) : ownUpto n n = iota n := by simp [ownUpto]

theorem pick_step {left ds : List Int} {k : Nat} (hk : k < ds.length) : pick left (ds.drop k) = left.getD (ds.getD k 0).toNat 0 :: pick (left.eraseIdx (ds.getD k 0).toNat) (ds.drop (k + 1)) := by
  have e : ds.getD k 0 = ds[k] := by rw [List.getD_eq_getElem?_getD, List.getElem?_eq_getElem hk]; rfl
  rw [List.drop_eq_getElem_cons hk, e]
  rfl
theorem erase_take (xs : List Int) {m i : Nat} (hi : i < m) (hm : m ≤ xs.length) : (xs.take i ++ (xs.take m).drop (i + 1) ++ 0 :: xs.drop m).take (m - 1) = (xs.take m).eraseIdx i := by
  rw [List.take_left' (by simp only [List.length_append, List.length_take, List.length_drop]; omega), List.eraseIdx_eq_take_drop_succ, List.take_take, Nat.min_eq_left (by omega)]

theorem dec_step {L P ds Z : List Int} {k t y : Nat} (hL : L.length = k) (hP : P.length = k) (hds : ds.length = k) (hZ : Z.length = k) (ht : t < k) (hy : ds.getD t 0 = (y : Int)) (hyl : y < k - t)
    (h1 : P.take t = Z.take t) (h2 : pick (L.take (k - t)) (ds.drop t) = Z.drop t) :
    (P.set t (L.getD y 0)).take (t + 1) = Z.take (t + 1) ∧ pick ((L.take y ++ (L.take (k - t)).drop (y + 1) ++ 0 :: L.drop (k - t)).take (k - (t + 1))) (ds.drop (t + 1)) = Z.drop (t + 1) := by
  have hzd : Z.drop t = Z[t]'(by omega) :: Z.drop (t + 1) := List.drop_eq_getElem_cons (by omega)
  rw [pick_step (by omega), hy, Int.toNat_natCast, hzd] at h2
  injection h2 with h3 h4
  have e1 : (L.take (k - t)).getD y 0 = L.getD y 0 := by simp [List.getD_eq_getElem?_getD, hyl]
  have e2 : Z.getD t 0 = Z[t] := by rw [List.getD_eq_getElem?_getD, List.getElem?_eq_getElem (by omega)]; rfl
  constructor
  · rw [take_snoc (by rw [List.length_set]; omega), getD_set, if_pos ⟨rfl, by omega⟩, List.take_set_of_le (by omega), h1, take_snoc (by omega), e2, ← h3, e1]
  · rw [show k - (t + 1) = k - t - 1 by omega, erase_take L hyl (by omega), h4]

/-- What holds of the two blocks when t numbers are laid. -/
def DecInv (w : World) (g2 : Nat) (k t : Nat) (ds : List Int) (wq : World) : Prop :=
  Below w.heap.size w wq ∧ ∃ L P : List Int, Arr wq w.heap.size L ∧ L.length = k ∧ Arr wq g2 P ∧ P.length = k ∧ P.take t = (pick (iota k) ds).take t ∧ pick (L.take (k - t)) (ds.drop t) = (pick (iota k) ds).drop t

def RetAt (w : World) (n : Nat) (ys : List Int) (e : Ending) (w' : World) : Prop := ∃ g, e = .returned (.slice (some ⟨g, 0, none⟩) n n) ∧ Ints w' (some ⟨g, 0, none⟩) n ys ∧ Below w.heap.size w w'

def RetAtO (w : World) (n : Nat) (ys : List Int) (e : Ending) (w' : World) : Prop := ∃ g, e = .returned (.slice (some ⟨g, 0, none⟩) n n) ∧ w.heap.size ≤ g ∧ Arr w' g ys ∧ ys.length = n ∧ Below w.heap.size w w'

set_option maxHeartbeats 1600000 in
theorem decode_own (A : Option Addr) (n c : Nat) (ds : List Int) (w : World) (hA : Ints w A n ds) (hd : IsDig ds) (hn : n ≤ 10) :
    Calls Try.prog 72 #[.slice A n c] w (RetAtO w n (pick (iota n) ds)) := by
  have hmk := fun W => run_make_row' (P := Try.prog) 23 3 (.int .i64 0) 8 Try.underlying23 infoInt rfl .i64 .i64 n (by omega) (by omega) W
  have HL := hid hA.len
  go_enter Try.func72, Try.ntmps72
  go_wp2_with fail
  go_loopg [13] n (fun g s wr => ∃ k : Nat, k ≤ n ∧ n - k ≤ g ∧ s = .int .i64 k ∧ Arr wr w.heap.size (ownUpto n k) ∧ Below w.heap.size w wr)
  case atStart => exact ⟨0, Nat.zero_le _, by omega, rfl, by simpa [ownUpto, iota] using Arr.made w n, below_alloc _ _⟩
  case round =>
    obtain ⟨k, hk, hg, rfl, harr, hbel⟩ := hrel
    have HR := hid harr
    have HB := hid hbel
    clear harr hbel
    by_cases hlt : k < n
    · have f1 : wr.frozen? ⟨w.heap.size, k, none⟩ = false := HR.out.frozen k
      have g1 := HR.out.cell (j := k) (by rw [length_ownUpto hk]; exact hlt)
      have HS := hid (ownUpto_step hlt)
      have HW := hid (HR.out.set k (k : Int))
      generalize (ownUpto n k).getD k 0 = v1 at g1
      go_wp2
      go_roundg (n - (k + 1))
      case measure => omega
      case rel => exact ⟨k + 1, by omega, by omega, by go_num, by rw [← HS.out]; exact HW.out, HB.out.setCell (Nat.le_refl _) _⟩
    · have hkn : k = n := by omega
      subst hkn
      obtain ⟨w1, rfl⟩ : ∃ w1, w1 = wr := ⟨wr, rfl⟩
      have HI : Hid (Arr w1 w.heap.size (iota k)) := by have := HR.out; rw [ownUpto_end] at this; exact this
      have HZ := hid HB.out.size
      have hz : w.heap.size < w1.heap.size := HR.out.lt
      clear HR
      go_wp2_with fail
      go_loopg [3, 26] k (fun g v s wq => ∃ t : Nat, t ≤ k ∧ k - t ≤ g ∧ s = .int .i64 t ∧ v = .slice (some ⟨w.heap.size, 0, none⟩) (k - t) k ∧ DecInv w w1.heap.size k t ds wq)
      case atStart => exact ⟨0, Nat.zero_le _, by omega, rfl, rfl, HB.out.alloc HZ.out _, iota k, _, HI.out.alloc _, length_iota k, Arr.made w1 k, List.length_replicate, rfl, by rw [Nat.sub_zero, List.take_of_length_le (by rw [length_iota]; exact Nat.le_refl _)]; rfl⟩
      case round =>
        clear HB
        obtain ⟨t, ht, hgt, rfl, rfl, hinv⟩ := hrel
        obtain ⟨hbel, L, P, aL, hL, aP, hP, e1, e2⟩ := hinv
        have HB := hid hbel
        have AL := hid aL
        have AP := hid aP
        have HLL := hid hL
        have HPL := hid hP
        have E1 := hid e1
        have E2 := hid e2
        clear hbel aL aP hL hP e1 e2 hmk HI
        by_cases htk : t < k
        · obtain ⟨b, o, rfl, hb, hcell⟩ := (hA.keep HB.out).row (by omega)
          have g1 := hcell t htk
          have hdt := hd.getD t (by rw [HL.out]; exact htk)
          obtain ⟨y, hy⟩ := Int.eq_ofNat_of_zero_le hdt.1
          have hyl : y < k - t := by rw [hy, HL.out] at hdt; omega
          have HS := hid (dec_step (Z := pick (iota k) ds) HLL.out HPL.out HL.out (by rw [length_pick, HL.out]) htk hy hyl E1.out E2.out)
          rw [hy] at g1
          have g2 := AL.out.cell (j := y) (by rw [HLL.out]; omega)
          have g3 := AP.out.cell (j := t) (by rw [HPL.out]; exact htk)
          have f3 := AP.out.frozen t
          have HP2 := hid (AP.out.set t (L.getD y 0))
          have HL2 := hid (AL.out.setOther (a := ⟨w1.heap.size, t, none⟩) (by show _ ≠ w1.heap.size; omega) (.int .i64 (L.getD y 0)))
          have HB2 := hid (HB.out.setCell (p := ⟨w1.heap.size, t, none⟩) (show w.heap.size ≤ w1.heap.size by omega) (.int .i64 (L.getD y 0)))
          clear hcell hdt hy hb E1 E2
          generalize L.getD y 0 = x at g2 HP2 HL2 HB2 HS
          generalize P.getD t 0 = z at g3
          go_wp2_with fail
          refine (delete_one w.heap.size (k - t) k y _ L _ HL2.out HLL.out (by omega) hyl (by omega) rfl).mono ?_
          rintro e w3 ⟨rfl, aL3, hone⟩
          have HL3 := hid aL3
          have HP3 := hid (HP2.out.kept hone (show w1.heap.size ≠ w.heap.size by omega))
          have HB3 := hid (below_one HB2.out (Nat.le_refl _) HB2.out.size hone)
          clear aL3 hone HB2 HP2 HL2
          go_wp2
          go_roundg (k - (t + 1))
          case measure => omega
          case rel =>
            refine ⟨t + 1, by omega, by omega, by go_num, by rw [show k - t - 1 = k - (t + 1) by omega], HB3.out, _, _, HL3.out, ?_, HP3.out, ?_, HS.out.1, HS.out.2⟩
            · have := HLL.out
              simp only [List.length_append, List.length_take, List.length_drop, List.length_cons]; omega
            · rw [List.length_set]; exact HPL.out
        · have htn : t = k := by omega
          subst htn
          have HE : Hid (P = pick (iota t) ds) := by
            have := E1.out
            rw [List.take_of_length_le (by rw [HPL.out]; exact Nat.le_refl _), List.take_of_length_le (by rw [length_pick, HL.out]; exact Nat.le_refl _)] at this
            exact this
          go_wp2
          go_ret
          refine ⟨_, rfl, HZ.out, ?_, by rw [← HE.out]; exact HPL.out, HB.out⟩
          rw [← HE.out]
          exact AP.out

theorem decode_any (A : Option Addr) (n c : Nat) (ds : List Int) (w : World) (hA : Ints w A n ds) (hd : IsDig ds) (hn : n ≤ 10) :
    Calls Try.prog 72 #[.slice A n c] w (RetAt w n (pick (iota n) ds)) := by
  refine (decode_own A n c ds w hA hd hn).mono ?_
  rintro e w' ⟨g, rfl, _, ha, hl, hb⟩
  have := ha.ints0 n (by omega)
  rw [List.take_of_length_le (by omega)] at this
  exact ⟨g, rfl, this, hb⟩

/-! ### At -/

def RetAt2 (w : World) (n : Nat) (ys : List Int) (e : Ending) (w' : World) : Prop := ∃ g, e = .returned (.tuple #[.slice (some ⟨g, 0, none⟩) n n, .int .i64 0]) ∧ Ints w' (some ⟨g, 0, none⟩) n ys ∧ Below w.heap.size w w'

def RetAt3 (w : World) (n : Nat) (ys : List Int) (e : Ending) (w' : World) : Prop := ∃ g, e = .returned (.tuple #[.slice (some ⟨g, 0, none⟩) n n, .int .i64 0]) ∧ w.heap.size ≤ g ∧ Arr w' g ys ∧ ys.length = n ∧ Below w.heap.size w w'

set_option maxHeartbeats 800000 in
theorem at_own (n k : Nat) (w : World) (hn : n ≤ 10) (hk : k < fact n) :
    Calls Try.prog 42 #[.int .i64 (n : Int), .int .i64 (k : Int)] w (RetAt3 w n (atL n k)) := by
  have hf := fact_ten hn
  have hk2 : (k : Int) < (fact n : Nat) := by omega
  go_enter Try.func42, Try.ntmps42
  go_wp2_with fail
  refine (count_ok n _ hn).mono ?_
  rintro e w' ⟨rfl, rfl⟩
  generalize fact n = F at hk hf hk2
  go_wp2_with fail
  refine (digits_any n k _ hn (by omega)).mono ?_
  rintro e w1 ⟨rfl, hI, hb1⟩
  have HB1 := hid hb1
  have HI := hid hI
  clear hb1 hI
  go_wp2_with fail
  refine (decode_own _ n n _ _ HI.out (isDig_digL n k) hn).mono ?_
  rintro e w2 ⟨g, rfl, hg2, hI2, hl2, hb2⟩
  have HG2 := hid (Nat.le_trans HB1.out.size hg2)
  have HB2 := hid (below_step HB1.out (Nat.le_refl _) hb2)
  have HI2 := hid hI2
  have HL2 := hid hl2
  clear hb2 hI2 HB1 HI hg2 hl2
  go_wp2
  go_ret2
  exact ⟨g, rfl, HG2.out, HI2.out, HL2.out, HB2.out⟩

theorem at_ok (n k : Nat) (w : World) (hn : n ≤ 10) (hk : k < fact n) :
    Calls Try.prog 42 #[.int .i64 (n : Int), .int .i64 (k : Int)] w (RetAt2 w n (atL n k)) := by
  refine (at_own n k w hn hk).mono ?_
  rintro e w' ⟨g, rfl, _, ha, hl, hb⟩
  have := ha.ints0 n (by omega)
  rw [List.take_of_length_le (by omega)] at this
  exact ⟨g, rfl, this, hb⟩

/-- The first order, in memory of the call's own. -/
theorem at_first (n : Nat) (w : World) (hn : n ≤ 10) :
    Calls Try.prog 42 #[.int .i64 (n : Int), .int .i64 0] w (RetOwnE w (iota n) 0) := by
  refine (at_own n 0 w hn (fact_pos n)).mono ?_
  rintro e w' ⟨g, rfl, hg, ha, hl, hb⟩
  have e0 : atL n 0 = iota n := by
    have h1 := atL_rk (p := iota n) (by unfold IsPerm; rw [length_iota])
    rwa [length_iota, rk_rises (sorted_iotaP n)] at h1
  have := own_of_rowIs (base := w.heap.size) ha rfl (fun _ _ => rfl) hg (by rw [hl]; unfold maxLen; omega)
  rw [hl, e0] at this
  exact ⟨_, rfl, this, hb⟩

set_option maxHeartbeats 800000 in
theorem at_bad1 (n k : Int) (w : World) (hn : n < 0 ∨ 10 < n) :
    Calls Try.prog 42 #[.int .i64 n, .int .i64 k] w fun e w' => e = .returned (.tuple #[.slice none 0 0, .int .i64 1]) ∧ w = w' := by
  go_enter Try.func42, Try.ntmps42
  go_wp2_with fail
  refine (count_bad n _ hn).mono ?_
  rintro e w' ⟨rfl, rfl⟩
  go_wp2
  go_ret2
  exact ⟨rfl, rfl⟩

set_option maxHeartbeats 800000 in
theorem at_bad2 (n : Nat) (k : Int) (w : World) (hn : n ≤ 10) (hk : k < 0 ∨ ((fact n : Nat) : Int) ≤ k) :
    Calls Try.prog 42 #[.int .i64 (n : Int), .int .i64 k] w fun e w' => e = .returned (.tuple #[.slice none 0 0, .int .i64 1]) ∧ w = w' := by
  go_enter Try.func42, Try.ntmps42
  go_wp2_with fail
  refine (count_ok n _ hn).mono ?_
  rintro e w' ⟨rfl, rfl⟩
  generalize fact n = F at hk
  rcases hk with h | h
  all_goals
    go_wp2
    go_ret2
    exact ⟨rfl, rfl⟩

end Go.Proofs.Ytbcjfiobggggjaa
