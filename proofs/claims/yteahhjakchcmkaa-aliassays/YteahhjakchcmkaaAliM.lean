/-
  The alias method as plain numbers: what Check lets in, what a table is, how a table is filled column by column. Nothing of the program is proved here.
-/
import Derived.Test.YteahhjakchcmkaaRst
import Derived.Test.YteahhjakchcmkaaPlain
namespace Go.Proofs.Yteahhjakchcmkaa
open Go.RowKit

/-! ### Weights -/
def alIn (x : Int) : Bool := decide (0 ≤ x ∧ x ≤ 100)
/-- P71: the error of a list of weights. -/
def alErr (ws : List Int) : Int := if ws.length < 1 ∨ 12 < ws.length then 2 else if ws.all alIn then (if ws.sum = 0 then 5 else 0) else 1
theorem alErr_large {ws : List Int} (h : ws.length < 1 ∨ 12 < ws.length) : alErr ws = 2 := if_pos h
theorem alErr_arg {ws : List Int} (h1 : ¬ (ws.length < 1 ∨ 12 < ws.length)) {j : Nat} (hj : j < ws.length) (h : alIn (ws.getD j 0) = false) : alErr ws = 1 := by
  unfold alErr
  rw [if_neg h1, if_neg]
  intro h2
  rw [List.all_eq_true] at h2
  rw [h2 _ (getD_mem hj)] at h
  cases h
theorem all_alIn {ws : List Int} (h : ∀ j, j < ws.length → alIn (ws.getD j 0) = true) : ws.all alIn = true := by
  rw [List.all_eq_true]
  intro x hx
  obtain ⟨i, hi, rfl⟩ := mem_getD hx
  exact h i hi
theorem alErr_zero {ws : List Int} (h1 : ¬ (ws.length < 1 ∨ 12 < ws.length)) (h : ws.all alIn = true) (h2 : ws.sum = 0) : alErr ws = 5 := by
  unfold alErr
  rw [if_neg h1, if_pos h, if_pos h2]
theorem alErr_ok {ws : List Int} (h1 : ¬ (ws.length < 1 ∨ 12 < ws.length)) (h : ws.all alIn = true) (h2 : ws.sum ≠ 0) : alErr ws = 0 := by
  unfold alErr
  rw [if_neg h1, if_pos h, if_neg h2]
theorem alErr_cases (ws : List Int) : alErr ws = 0 ∨ alErr ws = 1 ∨ alErr ws = 2 ∨ alErr ws = 5 := by
  unfold alErr
  split
  · exact .inr (.inr (.inl rfl))
  · split
    · split
      · exact .inr (.inr (.inr rfl))
      · exact .inl rfl
    · exact .inr (.inl rfl)

/-- What Check lets in. -/
structure Fit (ws : List Int) : Prop where
  lo : 1 ≤ ws.length
  hi : ws.length ≤ 12
  w : ∀ j, j < ws.length → 0 ≤ ws.getD j 0 ∧ ws.getD j 0 ≤ 100
  s : ws.sum ≠ 0
theorem fit_of {ws : List Int} (h : alErr ws = 0) : Fit ws := by
  unfold alErr at h
  by_cases h1 : ws.length < 1 ∨ 12 < ws.length
  · rw [if_pos h1] at h
    cases h
  · rw [if_neg h1] at h
    by_cases h2 : ws.all alIn = true
    · rw [if_pos h2] at h
      by_cases h3 : ws.sum = 0
      · rw [if_pos h3] at h
        cases h
      · refine ⟨by omega, by omega, fun j hj => ?_, h3⟩
        rw [List.all_eq_true] at h2
        have := h2 _ (getD_mem hj)
        exact of_decide_eq_true this
    · rw [if_neg h2] at h
      cases h

/-! ### Sums over the first numbers -/
def sgm (f : Nat → Int) : Nat → Int
  | 0 => 0
  | k + 1 => sgm f k + f k
theorem sgm_congr {f g : Nat → Int} : ∀ {n : Nat}, (∀ j, j < n → f j = g j) → sgm f n = sgm g n
  | 0, _ => rfl
  | n + 1, h => by
    unfold sgm
    rw [sgm_congr (n := n) (fun j hj => h j (by omega)), h n (by omega)]
theorem sgm_add (f g : Nat → Int) : ∀ n, sgm (fun j => f j + g j) n = sgm f n + sgm g n
  | 0 => rfl
  | n + 1 => by
    unfold sgm
    rw [sgm_add f g n]
    omega
theorem sgm_mul (c : Int) (f : Nat → Int) : ∀ n, sgm (fun j => c * f j) n = c * sgm f n
  | 0 => by simp [sgm]
  | n + 1 => by
    unfold sgm
    rw [sgm_mul c f n, Int.mul_add]
theorem sgm_const (c : Int) : ∀ n : Nat, sgm (fun _ => c) n = n * c
  | 0 => by simp [sgm]
  | n + 1 => by
    unfold sgm
    rw [sgm_const c n, Int.natCast_add, Int.add_mul]
    simp
theorem sgm_zero {f : Nat → Int} {n : Nat} (h : ∀ j, j < n → f j = 0) : sgm f n = 0 := by
  rw [sgm_congr h, sgm_const]
  simp
theorem sgm_nonneg {f : Nat → Int} : ∀ {n : Nat}, (∀ j, j < n → 0 ≤ f j) → 0 ≤ sgm f n
  | 0, _ => Int.le_refl _
  | n + 1, h => by
    have := sgm_nonneg (n := n) (fun j hj => h j (by omega))
    have := h n (by omega)
    unfold sgm
    omega
theorem sgm_one_le {f : Nat → Int} : ∀ {n k : Nat}, (∀ j, j < n → 0 ≤ f j) → k < n → f k ≤ sgm f n
  | 0, _, _, h => absurd h (by omega)
  | n + 1, k, h, hk => by
    unfold sgm
    by_cases e : k = n
    · subst e
      have := sgm_nonneg (n := k) (f := f) (fun j hj => h j (by omega))
      omega
    · have := sgm_one_le (n := n) (k := k) (fun j hj => h j (by omega)) (by omega)
      have := h n (by omega)
      omega
/-- One place alone. -/
theorem sgm_point (c : Int) (p : Nat) : ∀ n, sgm (fun j => if j = p then c else 0) n = if p < n then c else 0
  | 0 => rfl
  | n + 1 => by
    unfold sgm
    rw [sgm_point c p n]
    by_cases e : n = p
    · subst e
      rw [if_pos rfl, if_neg (by omega), if_pos (by omega)]
      omega
    · rw [if_neg e]
      by_cases h : p < n
      · rw [if_pos h, if_pos (by omega)]
        omega
      · rw [if_neg h, if_neg (by omega)]
        omega
theorem alsum_take {ws : List Int} : ∀ {n : Nat}, n ≤ ws.length → (ws.take n).sum = sgm (fun j => ws.getD j 0) n
  | 0, _ => by simp [sgm]
  | n + 1, h => by
    rw [take_snoc (by omega), List.sum_append, alsum_take (by omega)]
    simp [sgm]
theorem sum_sgm (ws : List Int) : ws.sum = sgm (fun j => ws.getD j 0) ws.length := by
  rw [← alsum_take (Nat.le_refl _), List.take_length]
theorem sum_take_part {ws : List Int} : ∀ {n : Nat}, (∀ j, j < n → 0 ≤ ws.getD j 0 ∧ ws.getD j 0 ≤ 100) → n ≤ ws.length → 0 ≤ (ws.take n).sum ∧ (ws.take n).sum ≤ 100 * n
  | 0, _, _ => by simp
  | n + 1, h, hn => by
    have := sum_take_part (n := n) (fun j hj => h j (by omega)) (by omega)
    have := h n (by omega)
    rw [take_snoc (by omega), List.sum_append]
    simp only [List.sum_cons, List.sum_nil]
    omega
theorem sum_take_bd {ws : List Int} (h : ∀ j, j < ws.length → 0 ≤ ws.getD j 0 ∧ ws.getD j 0 ≤ 100) {n : Nat} (hn : n ≤ ws.length) : 0 ≤ (ws.take n).sum ∧ (ws.take n).sum ≤ 100 * n := sum_take_part (fun j hj => h j (by omega)) hn
theorem Fit.sum {ws : List Int} (h : Fit ws) : 1 ≤ ws.sum ∧ ws.sum ≤ 1200 := by
  have h1 := sum_take_bd h.w (Nat.le_refl _)
  rw [List.take_length] at h1
  have := h.hi
  have := h.s
  omega
theorem Fit.wb {ws : List Int} (h : Fit ws) {j : Nat} (hj : j < ws.length) : 0 ≤ (ws.length : Int) * ws.getD j 0 ∧ (ws.length : Int) * ws.getD j 0 ≤ 1200 := by
  obtain ⟨h1, h2⟩ := h.w j hj
  have h3 := h.hi
  have h4 : (ws.length : Int) * ws.getD j 0 ≤ 12 * 100 := Int.mul_le_mul (by omega) h2 h1 (by omega)
  exact ⟨Int.mul_nonneg (by omega) h1, by omega⟩

/-! ### Tables -/
def cut (cs : List (Int × Int)) (j : Nat) : Int := (cs.getD j (0, 0)).1
def oth (cs : List (Int × Int)) (j : Nat) : Int := (cs.getD j (0, 0)).2
/-- Column j is right: P72. -/
def ColOk (n : Nat) (W : Int) (cs : List (Int × Int)) (j : Nat) : Prop := 0 ≤ cut cs j ∧ cut cs j ≤ W ∧ 0 ≤ oth cs j ∧ oth cs j < n
instance (n : Nat) (W : Int) (cs : List (Int × Int)) (j : Nat) : Decidable (ColOk n W cs j) := by unfold ColOk; exact inferInstance
def ColsOk (n : Nat) (W : Int) (cs : List (Int × Int)) : Prop := ∀ j, j < cs.length → ColOk n W cs j
instance (n : Nat) (W : Int) (cs : List (Int × Int)) : Decidable (ColsOk n W cs) := by unfold ColsOk; exact inferInstance
/-- What i gets of the first k columns' upper parts. -/
def gets (W : Int) (cs : List (Int × Int)) (i : Int) (k : Nat) : Int := sgm (fun j => if oth cs j = i then W - cut cs j else 0) k
theorem gets_succ (W : Int) (cs : List (Int × Int)) (i : Int) (k : Nat) : gets W cs i (k + 1) = gets W cs i k + if oth cs k = i then W - cut cs k else 0 := rfl
theorem gets_nonneg {n : Nat} {W : Int} {cs : List (Int × Int)} (h : ColsOk n W cs) (i : Int) {k : Nat} (hk : k ≤ cs.length) : 0 ≤ gets W cs i k := by
  refine sgm_nonneg fun j hj => ?_
  have := h j (by omega)
  unfold ColOk at this
  by_cases e : oth cs j = i
  · rw [if_pos e]
    omega
  · rw [if_neg e]
    exact Int.le_refl _
theorem gets_le {n : Nat} {W : Int} {cs : List (Int × Int)} (h : ColsOk n W cs) (hW : 0 ≤ W) (i : Int) : ∀ {k : Nat}, k ≤ cs.length → gets W cs i k ≤ k * W
  | 0, _ => by simp [gets, sgm]
  | k + 1, hk => by
    have h1 := gets_le h hW i (k := k) (by omega)
    have h2 := h k (by omega)
    unfold ColOk at h2
    rw [gets_succ, Int.natCast_add, Int.add_mul]
    by_cases e : oth cs k = i
    · rw [if_pos e]
      omega
    · rw [if_neg e]
      omega
/-- What the columns hold in all for i. -/
def shr (W : Int) (cs : List (Int × Int)) (n i : Nat) : Int := cut cs i + gets W cs i n
/-- The table is one of the weights ws: P72. -/
def IsTbl (ws : List Int) (W : Int) (cs : List (Int × Int)) : Prop := ∀ i, i < ws.length → shr W cs ws.length i = (ws.length : Int) * ws.getD i 0
instance (ws : List Int) (W : Int) (cs : List (Int × Int)) : Decidable (IsTbl ws W cs) := by unfold IsTbl; exact inferInstance
/-- P73. -/
def testX (ws : List Int) (cs : List (Int × Int)) : Bool × Int :=
  if alErr ws ≠ 0 then (false, alErr ws) else if cs.length ≠ ws.length then (false, 3) else if ColsOk ws.length ws.sum cs then (decide (IsTbl ws ws.sum cs), 0) else (false, 1)

/-- What has no weight is never drawn. -/
theorem tbl_cut {ws : List Int} {W : Int} {cs : List (Int × Int)} (hl : cs.length = ws.length) (hC : ColsOk ws.length W cs) (hT : IsTbl ws W cs) {j : Nat} (hj : j < ws.length) (h : ws.getD j 0 = 0) : cut cs j = 0 := by
  have h1 := hT j hj
  have h2 := gets_nonneg hC (j : Int) (k := ws.length) (by omega)
  have h3 := hC j (by omega)
  unfold ColOk at h3
  unfold shr at h1
  rw [h, Int.mul_zero] at h1
  omega
theorem tbl_oth {ws : List Int} {W : Int} {cs : List (Int × Int)} (hl : cs.length = ws.length) (hC : ColsOk ws.length W cs) (hT : IsTbl ws W cs) {j o : Nat} (hj : j < ws.length) (ho : oth cs j = o) (ho2 : o < ws.length) (h : ws.getD o 0 = 0) : W ≤ cut cs j := by
  have h1 := hT o ho2
  have h3 := hC o (by omega)
  have h4 : (if oth cs j = (o : Int) then W - cut cs j else 0) ≤ gets W cs (o : Int) ws.length := by
    unfold gets
    refine sgm_one_le (f := fun j => if oth cs j = (o : Int) then W - cut cs j else 0) (fun i hi => ?_) hj
    have := hC i (by omega)
    unfold ColOk at this
    by_cases e : oth cs i = o
    · rw [if_pos e]
      omega
    · rw [if_neg e]
      exact Int.le_refl _
  rw [if_pos ho] at h4
  unfold ColOk at h3
  unfold shr at h1
  rw [h, Int.mul_zero] at h1
  omega

/-! ### Filling a table -/
/-- os: the columns that are still open; ls: what is left for each; cs: the columns. -/
structure ABInv (ws : List Int) (os ls : List Int) (cs : List (Int × Int)) : Prop where
  ol : os.length ≤ ws.length
  om : ∀ x ∈ os, 0 ≤ x ∧ x < ws.length
  ll : ls.length = ws.length
  cl : cs.length = ws.length
  bd : ∀ i, i < ws.length → 0 ≤ ls.getD i 0 ∧ ls.getD i 0 ≤ 1200
  ok : ∀ j, j < ws.length → (j : Int) ∉ os → ColOk ws.length ws.sum cs j
  hv : ∀ i, i < ws.length → (if (i : Int) ∈ os then ls.getD i 0 else cut cs i) + sgm (fun j => if (j : Int) ∉ os ∧ oth cs j = i then ws.sum - cut cs j else 0) ws.length = (ws.length : Int) * ws.getD i 0
  sm : sgm (fun j => if (j : Int) ∈ os then ls.getD j 0 - ws.sum else 0) ws.length = 0

theorem ABInv.last {ws ls : List Int} {cs : List (Int × Int)} (h : ABInv ws [] ls cs) : ColsOk ws.length ws.sum cs ∧ IsTbl ws ws.sum cs := by
  refine ⟨fun j hj => h.ok j (by rw [← h.cl]; exact hj) (by simp), fun i hi => ?_⟩
  have := h.hv i hi
  simp only [List.not_mem_nil, if_false, not_false_eq_true, true_and] at this
  exact this

def ups (n : Nat) : List Int := (List.range n).map fun (i : Nat) => (i : Int)
def dueL (ws : List Int) : List Int := ws.map fun x => (ws.length : Int) * x
theorem length_ups (n : Nat) : (ups n).length = n := by simp [ups]
theorem getD_ups {n i : Nat} (h : i < n) : (ups n).getD i 0 = (i : Int) := by simp [ups, List.getD_eq_getElem?_getD, h]
theorem mem_ups {n : Nat} {x : Int} : x ∈ ups n ↔ 0 ≤ x ∧ x < n := by
  unfold ups
  rw [List.mem_map]
  constructor
  · rintro ⟨i, hi, rfl⟩
    rw [List.mem_range] at hi
    omega
  · intro h
    exact ⟨x.toNat, by rw [List.mem_range]; omega, by omega⟩
theorem length_dueL (ws : List Int) : (dueL ws).length = ws.length := by simp [dueL]
theorem getD_dueL {ws : List Int} {i : Nat} (h : i < ws.length) : (dueL ws).getD i 0 = (ws.length : Int) * ws.getD i 0 := by
  unfold dueL
  simp [List.getD_eq_getElem?_getD, h]

theorem ABInv.first {ws : List Int} (h : Fit ws) : ABInv ws (ups ws.length) (dueL ws) (List.replicate ws.length (0, 0)) := by
  have hmem : ∀ j, j < ws.length → (j : Int) ∈ ups ws.length := fun j hj => mem_ups.2 ⟨by omega, by omega⟩
  refine ⟨by rw [length_ups]; exact Nat.le_refl _, fun x hx => mem_ups.1 hx, length_dueL ws, by simp, fun i hi => by rw [getD_dueL hi]; exact h.wb hi, fun j hj hn => absurd (hmem j hj) hn, fun i hi => ?_, ?_⟩
  · rw [if_pos (hmem i hi), getD_dueL hi, sgm_zero (fun j hj => if_neg (fun e => e.1 (hmem j hj)))]
    omega
  · have e : sgm (fun j => if (j : Int) ∈ ups ws.length then (dueL ws).getD j 0 - ws.sum else 0) ws.length = sgm (fun j => (ws.length : Int) * ws.getD j 0 + (- ws.sum)) ws.length :=
      sgm_congr fun j hj => by rw [if_pos (hmem j hj), getD_dueL hj]; omega
    rw [e, sgm_add, sgm_mul, sgm_const, ← sum_sgm, Int.mul_neg]
    omega

/-- The poorest open column has no more than the mean, the richest no less. -/
theorem ABInv.poor {ws os ls : List Int} {cs : List (Int × Int)} (h : ABInv ws os ls cs) {p : Nat} (hp : (p : Int) ∈ os) (hmin : ∀ j : Nat, (j : Int) ∈ os → ls.getD p 0 ≤ ls.getD j 0) : ls.getD p 0 ≤ ws.sum := by
  refine Classical.byContradiction fun hn => ?_
  have hpn := (h.om _ hp).2
  have h1 := sgm_one_le (f := fun j => if (j : Int) ∈ os then ls.getD j 0 - ws.sum else 0) (n := ws.length) (k := p) (fun j hj => by
    by_cases e : (j : Int) ∈ os
    · rw [if_pos e]
      have := hmin j e
      omega
    · rw [if_neg e]
      exact Int.le_refl _) (by omega)
  rw [h.sm, if_pos hp] at h1
  omega
theorem ABInv.rich {ws os ls : List Int} {cs : List (Int × Int)} (h : ABInv ws os ls cs) {r : Nat} (hr : (r : Int) ∈ os) (hmax : ∀ j : Nat, (j : Int) ∈ os → ls.getD j 0 ≤ ls.getD r 0) : ws.sum ≤ ls.getD r 0 := by
  refine Classical.byContradiction fun hn => ?_
  have hpn := (h.om _ hr).2
  have h1 := sgm_one_le (f := fun j => if (j : Int) ∈ os then (-1) * (ls.getD j 0 - ws.sum) else 0) (n := ws.length) (k := r) (fun j hj => by
    by_cases e : (j : Int) ∈ os
    · rw [if_pos e]
      have := hmax j e
      omega
    · rw [if_neg e]
      exact Int.le_refl _) (by omega)
  have h2 : sgm (fun j => if (j : Int) ∈ os then (-1) * (ls.getD j 0 - ws.sum) else 0) ws.length = (-1) * sgm (fun j => if (j : Int) ∈ os then ls.getD j 0 - ws.sum else 0) ws.length := by
    rw [← sgm_mul]
    refine sgm_congr fun j hj => ?_
    by_cases e : (j : Int) ∈ os
    · rw [if_pos e, if_pos e]
    · rw [if_neg e, if_neg e]
      rfl
  rw [h2, h.sm, if_pos hr] at h1
  omega

theorem cut_set {cs : List (Int × Int)} {p j : Nat} (hp : p < cs.length) (a b : Int) : cut (cs.set p (a, b)) j = if j = p then a else cut cs j := by
  unfold cut
  rw [List.getD_eq_getElem?_getD, List.getElem?_set]
  by_cases e : p = j
  · subst e
    simp [hp]
  · rw [if_neg e, if_neg (fun x => e x.symm), ← List.getD_eq_getElem?_getD]
theorem oth_set {cs : List (Int × Int)} {p j : Nat} (hp : p < cs.length) (a b : Int) : oth (cs.set p (a, b)) j = if j = p then b else oth cs j := by
  unfold oth
  rw [List.getD_eq_getElem?_getD, List.getElem?_set]
  by_cases e : p = j
  · subst e
    simp [hp]
  · rw [if_neg e, if_neg (fun x => e x.symm), ← List.getD_eq_getElem?_getD]

def without (os : List Int) (p : Nat) : List Int := os.filter fun x => !(decide (x = (p : Int)))
theorem mem_without {os : List Int} {p : Nat} {x : Int} : x ∈ without os p ↔ x ∈ os ∧ x ≠ p := by
  unfold without
  rw [List.mem_filter]
  simp
theorem without_lt {os : List Int} {p : Nat} (h : (p : Int) ∈ os) : (without os p).length < os.length := by
  unfold without
  exact List.length_filter_lt_length_iff_exists.2 ⟨_, h, by simp⟩

theorem ABInv.step {ws os ls : List Int} {cs : List (Int × Int)} (h : ABInv ws os ls cs) {p r : Nat} (hp : (p : Int) ∈ os) (hr : (r : Int) ∈ os)
    (hmin : ∀ j : Nat, (j : Int) ∈ os → ls.getD p 0 ≤ ls.getD j 0) (hmax : ∀ j : Nat, (j : Int) ∈ os → ls.getD j 0 ≤ ls.getD r 0) :
    ABInv ws (without os p) (ls.set r (ls.getD r 0 - (ws.sum - ls.getD p 0))) (cs.set p (ls.getD p 0, (r : Int))) := by
  have hpn : p < ws.length := by have := (h.om _ hp).2; omega
  have hrn : r < ws.length := by have := (h.om _ hr).2; omega
  have h1 := h.poor hp hmin
  have h2 := h.rich hr hmax
  have hb1 := h.bd p hpn
  have hb2 := h.bd r hrn
  have hrl : r < ls.length := by rw [h.ll]; exact hrn
  have hpc : p < cs.length := by rw [h.cl]; exact hpn
  have heq : r = p → ls.getD p 0 = ws.sum := fun e => by subst e; omega
  have hg : ∀ j, (ls.set r (ls.getD r 0 - (ws.sum - ls.getD p 0))).getD j 0 = if j = r then ls.getD r 0 - (ws.sum - ls.getD p 0) else ls.getD j 0 := fun j => by
    rw [getD_set]
    by_cases e : j = r
    · rw [if_pos ⟨e, hrl⟩, if_pos e]
    · rw [if_neg (fun x => e x.1), if_neg e]
  refine ⟨Nat.le_trans (Nat.le_of_lt (without_lt hp)) h.ol, fun x hx => h.om x (mem_without.1 hx).1, by rw [List.length_set]; exact h.ll, by rw [List.length_set]; exact h.cl, fun i hi => ?_, fun j hj hn => ?_, fun i hi => ?_, ?_⟩
  · rw [hg]
    have := h.bd i hi
    split <;> omega
  · unfold ColOk
    rw [cut_set hpc, oth_set hpc]
    by_cases e : j = p
    · rw [if_pos e, if_pos e]
      omega
    · rw [if_neg e, if_neg e]
      refine h.ok j hj fun hm => hn (mem_without.2 ⟨hm, fun x => e (by omega)⟩)
  · have hG : sgm (fun j => if (j : Int) ∉ without os p ∧ oth (cs.set p (ls.getD p 0, (r : Int))) j = i then ws.sum - cut (cs.set p (ls.getD p 0, (r : Int))) j else 0) ws.length
        = sgm (fun j => if (j : Int) ∉ os ∧ oth cs j = i then ws.sum - cut cs j else 0) ws.length + if i = r then ws.sum - ls.getD p 0 else 0 := by
      have e1 : sgm (fun j => if (j : Int) ∉ without os p ∧ oth (cs.set p (ls.getD p 0, (r : Int))) j = i then ws.sum - cut (cs.set p (ls.getD p 0, (r : Int))) j else 0) ws.length
          = sgm (fun j => (if (j : Int) ∉ os ∧ oth cs j = i then ws.sum - cut cs j else 0) + (if j = p then (if i = r then ws.sum - ls.getD p 0 else 0) else 0)) ws.length := by
        refine sgm_congr fun j hj => ?_
        rw [cut_set hpc, oth_set hpc]
        by_cases e : j = p
        · subst e
          rw [if_pos rfl, if_pos rfl, if_pos rfl, if_neg (c := (j : Int) ∉ os ∧ oth cs j = i) (fun x => x.1 hp)]
          have hnw : (j : Int) ∉ without os j := fun x => (mem_without.1 x).2 rfl
          by_cases e2 : i = r
          · subst e2
            rw [if_pos ⟨hnw, rfl⟩, if_pos rfl]
            omega
          · rw [if_neg (fun x => e2 (by have := x.2; omega)), if_neg e2]
            rfl
        · rw [if_neg e, if_neg e, if_neg e, Int.add_zero]
          have hiff : (j : Int) ∉ without os p ↔ (j : Int) ∉ os := by
            rw [mem_without]
            exact ⟨fun x y => x ⟨y, fun z => e (by omega)⟩, fun x y => x y.1⟩
          by_cases e2 : (j : Int) ∉ os ∧ oth cs j = i
          · rw [if_pos e2, if_pos ⟨hiff.2 e2.1, e2.2⟩]
          · rw [if_neg e2, if_neg (fun x => e2 ⟨hiff.1 x.1, x.2⟩)]
      rw [e1, sgm_add, sgm_point, if_pos hpn]
    rw [hG]
    have h3 := h.hv i hi
    rw [cut_set hpc, hg]
    generalize sgm (fun j => if (j : Int) ∉ os ∧ oth cs j = i then ws.sum - cut cs j else 0) ws.length = G at *
    by_cases e : i = p
    · subst e
      rw [if_pos hp] at h3
      rw [if_neg (fun x => (mem_without.1 x).2 rfl), if_pos rfl]
      by_cases e2 : i = r
      · have := heq e2.symm
        rw [if_pos e2]
        omega
      · rw [if_neg e2]
        omega
    · rw [if_neg e]
      by_cases e3 : (i : Int) ∈ os
      · rw [if_pos e3] at h3
        rw [if_pos (mem_without.2 ⟨e3, fun x => e (by omega)⟩)]
        by_cases e2 : i = r
        · subst e2
          rw [if_pos rfl, if_pos rfl]
          omega
        · rw [if_neg e2, if_neg e2]
          omega
      · rw [if_neg e3] at h3
        rw [if_neg (fun x => e3 (mem_without.1 x).1), if_neg (fun x => e3 (by rw [x]; exact hr))]
        omega
  · have e1 : sgm (fun j => if (j : Int) ∈ without os p then (ls.set r (ls.getD r 0 - (ws.sum - ls.getD p 0))).getD j 0 - ws.sum else 0) ws.length
        = sgm (fun j => ((if (j : Int) ∈ os then ls.getD j 0 - ws.sum else 0) + (if j = p then ws.sum - ls.getD p 0 else 0)) + (if j = r then ls.getD p 0 - ws.sum else 0)) ws.length := by
      refine sgm_congr fun j hj => ?_
      rw [hg]
      by_cases e : j = p
      · subst e
        rw [if_neg (fun x => (mem_without.1 x).2 rfl), if_pos hp, if_pos rfl]
        by_cases e2 : j = r
        · have := heq e2.symm
          rw [if_pos e2]
          omega
        · rw [if_neg e2]
          omega
      · rw [if_neg e]
        by_cases e3 : (j : Int) ∈ os
        · rw [if_pos e3, if_pos (mem_without.2 ⟨e3, fun x => e (by omega)⟩)]
          by_cases e2 : j = r
          · subst e2
            rw [if_pos rfl, if_pos rfl]
            omega
          · rw [if_neg e2, if_neg e2]
            omega
        · rw [if_neg e3, if_neg (fun x => e3 (mem_without.1 x).1), if_neg (fun x => e3 (by rw [x]; exact hr))]
          rfl
    rw [e1, sgm_add, sgm_add, h.sm, sgm_point, sgm_point, if_pos hpn, if_pos hrn]
    omega
end Go.Proofs.Yteahhjakchcmkaa
