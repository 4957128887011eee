/-
  Unlike numbers and odd numbers (Glaisher): plain facts over numbers up to 40.
-/
namespace Go.Proofs.YteegddpoekphoaaDoor

def tz6 (p : Nat) : Nat := if p % 2 = 1 then 0 else if p % 4 = 2 then 1 else if p % 8 = 4 then 2 else if p % 16 = 8 then 3 else if p % 32 = 16 then 4 else 5
/-- The power of two in p, and the odd number beside it. -/
def pwr (p : Nat) : Nat := 2 ^ tz6 p
def odp (p : Nat) : Nat := p / pwr p

theorem tz6_lt (p : Nat) : tz6 p < 6 := by
  unfold tz6
  repeat' split
  all_goals omega
theorem pwr_pos (p : Nat) : 0 < pwr p := Nat.two_pow_pos _
theorem pwr_le (p : Nat) : pwr p ≤ 32 := by
  have := tz6_lt p
  exact Nat.pow_le_pow_right (by omega) (show tz6 p ≤ 5 by omega)
theorem od_tab : ((List.range 41).all fun p => p == 0 || (decide (odp p * pwr p = p) && decide (odp p % 2 = 1) && decide (odp p ≤ 40) && decide (0 < odp p))) = true := by decide +kernel
theorem od_at {p : Nat} (h0 : 0 < p) (h : p ≤ 40) : odp p * pwr p = p ∧ odp p % 2 = 1 ∧ odp p ≤ 40 ∧ 0 < odp p := by
  have := List.all_eq_true.1 od_tab p (List.mem_range.2 (by omega))
  simp only [Bool.or_eq_true, beq_iff_eq, Bool.and_eq_true, decide_eq_true_eq] at this
  rcases this with h1 | ⟨⟨⟨a, b⟩, c⟩, d⟩
  · omega
  · exact ⟨a, b, c, d⟩
theorem odp_odd {p : Nat} (h : p % 2 = 1) : odp p = p := by
  unfold odp pwr tz6
  rw [if_pos h]
  simp
theorem pwr_odd {p : Nat} (h : p % 2 = 1) : pwr p = 1 := by
  unfold pwr tz6
  rw [if_pos h]
theorem half_tab : ((List.range 41).all fun p => p == 0 || p % 2 == 1 || (decide (odp (p / 2) = odp p) && decide (2 * pwr (p / 2) = pwr p) && decide (tz6 (p / 2) + 1 = tz6 p))) = true := by decide +kernel
theorem half_at {p : Nat} (h0 : 0 < p) (h : p ≤ 40) (he : p % 2 = 0) : odp (p / 2) = odp p ∧ 2 * pwr (p / 2) = pwr p ∧ tz6 (p / 2) + 1 = tz6 p := by
  have := List.all_eq_true.1 half_tab p (List.mem_range.2 (by omega))
  simp only [Bool.or_eq_true, beq_iff_eq, Bool.and_eq_true, decide_eq_true_eq] at this
  rcases this with (h1 | h1) | ⟨⟨a, b⟩, c⟩
  · omega
  · omega
  · exact ⟨a, b, c⟩

/-- What the numbers of m with the odd number d hold together. -/
def cO (m : List Nat) (d : Nat) : Nat := (m.map (fun x => if odp x = d then pwr x else 0)).sum
/-- Each number as so many odd ones. -/
def flat (m : List Nat) : List Nat := m.flatMap (fun x => List.replicate (pwr x) (odp x))
theorem cO_nil (d : Nat) : cO [] d = 0 := rfl
theorem cO_cons (x : Nat) (m : List Nat) (d : Nat) : cO (x :: m) d = (if odp x = d then pwr x else 0) + cO m d := by simp [cO]
theorem cO_append (a b : List Nat) (d : Nat) : cO (a ++ b) d = cO a d + cO b d := by simp [cO]
theorem cO_perm {a b : List Nat} (h : a.Perm b) (d : Nat) : cO a d = cO b d := by
  induction h with
  | nil => rfl
  | cons x _ ih => rw [cO_cons, cO_cons, ih]
  | swap x y l => simp only [cO_cons]; omega
  | trans _ _ h1 h2 => rw [h1, h2]
theorem count_flat (m : List Nat) (d : Nat) : (flat m).count d = cO m d := by
  induction m with
  | nil => rfl
  | cons x m ih =>
    rw [cO_cons, ← ih, flat, List.flatMap_cons, List.count_append, List.count_replicate]
    simp only [beq_iff_eq]
    rfl
theorem mem_flat {m : List Nat} (h : ∀ x ∈ m, 0 < x ∧ x ≤ 40) {y : Nat} (hy : y ∈ flat m) : y % 2 = 1 ∧ 0 < y ∧ y ≤ 40 := by
  obtain ⟨x, hx, hy⟩ := List.mem_flatMap.1 hy
  rw [List.mem_replicate] at hy
  obtain ⟨_, b, c, d⟩ := od_at (h x hx).1 (h x hx).2
  rw [hy.2]
  exact ⟨b, d, c⟩
theorem sum_flat {m : List Nat} (h : ∀ x ∈ m, 0 < x ∧ x ≤ 40) : (flat m).sum = m.sum := by
  induction m with
  | nil => rfl
  | cons x m ih =>
    rw [flat, List.flatMap_cons, List.sum_append, List.sum_replicate_nat, List.sum_cons]
    have e : (List.flatMap (fun x => List.replicate (pwr x) (odp x)) m).sum = m.sum := ih (fun y hy => h y (List.mem_cons_of_mem _ hy))
    rw [e]
    have := (od_at (h x (List.mem_cons_self ..)).1 (h x (List.mem_cons_self ..)).2).1
    rw [Nat.mul_comm] at this
    rw [this]
theorem flat_odd {m : List Nat} (h : ∀ x ∈ m, x % 2 = 1) : flat m = m := by
  induction m with
  | nil => rfl
  | cons x m ih =>
    have hx := h x (List.mem_cons_self ..)
    rw [flat, List.flatMap_cons, pwr_odd hx, odp_odd hx]
    have e : List.flatMap (fun x => List.replicate (pwr x) (odp x)) m = m := ih (fun y hy => h y (List.mem_cons_of_mem _ hy))
    rw [e]
    rfl
theorem cO_odd {m : List Nat} (h : ∀ x ∈ m, x % 2 = 1) (d : Nat) : cO m d = m.count d := by rw [← count_flat, flat_odd h]
theorem cO_even {m : List Nat} (h : ∀ x ∈ m, 0 < x ∧ x ≤ 40) {d : Nat} (hd : d % 2 = 0) : cO m d = 0 := by
  rw [← count_flat, List.count_eq_zero]
  intro hm
  have := mem_flat h hm
  omega

/-- c(40) times 40, and so on down to 1. -/
def down (c : Nat → Nat) : Nat → List Nat
  | 0 => []
  | k + 1 => List.replicate (c (k + 1)) (k + 1) ++ down c k
theorem mem_down {c : Nat → Nat} {k x : Nat} (h : x ∈ down c k) : 0 < x ∧ x ≤ k := by
  induction k with
  | zero => simp [down] at h
  | succ k ih =>
    rw [down] at h
    rcases List.mem_append.1 h with h | h
    · rw [List.mem_replicate] at h
      omega
    · have := ih h
      omega
theorem falls_down (c : Nat → Nat) (k : Nat) : (down c k).Pairwise (· ≥ ·) := by
  induction k with
  | zero => simp [down]
  | succ k ih =>
    rw [down, List.pairwise_append]
    refine ⟨?_, ih, fun a ha b hb => ?_⟩
    · rw [List.pairwise_replicate]
      exact Or.inr (Nat.le_refl _)
    · rw [List.mem_replicate] at ha
      have := mem_down hb
      omega
theorem count_down (c : Nat → Nat) (k x : Nat) : (down c k).count x = if 0 < x ∧ x ≤ k then c x else 0 := by
  induction k with
  | zero => rw [if_neg (by omega)]; rfl
  | succ k ih =>
    rw [down, List.count_append, ih, List.count_replicate]
    simp only [beq_iff_eq]
    by_cases e : k + 1 = x
    · subst e
      rw [if_pos rfl, if_neg (by omega), if_pos (by omega)]
      omega
    · rw [if_neg e]
      by_cases h : 0 < x ∧ x ≤ k
      · rw [if_pos h, if_pos (by omega)]
        omega
      · rw [if_neg h, if_neg (by omega)]
theorem down_congr {c c' : Nat → Nat} (k : Nat) (h : ∀ x, 0 < x → x ≤ k → c x = c' x) : down c k = down c' k := by
  induction k with
  | zero => rfl
  | succ k ih => rw [down, down, h (k + 1) (by omega) (Nat.le_refl _), ih (fun x h0 h1 => h x h0 (by omega))]
theorem falls_unique {a b : List Nat} (ha : a.Pairwise (· ≥ ·)) (hb : b.Pairwise (· ≥ ·)) (h : a.Perm b) : a = b :=
  h.eq_of_pairwise (fun _ _ _ _ h1 h2 => Nat.le_antisymm h2 h1) ha hb
/-- A falling list, told by how often each number is in it. -/
theorem down_count {m : List Nat} {k : Nat} (hf : m.Pairwise (· ≥ ·)) (h : ∀ x ∈ m, 0 < x ∧ x ≤ k) : down (fun x => m.count x) k = m := by
  refine falls_unique (falls_down _ _) hf (List.perm_iff_count.2 fun x => ?_)
  rw [count_down]
  split
  · rfl
  · rename_i hx
    symm
    rw [List.count_eq_zero]
    intro hm
    exact hx (h x hm)
theorem perm_flat {m : List Nat} (h : ∀ x ∈ m, 0 < x ∧ x ≤ 40) : (down (cO m) 40).Perm (flat m) := by
  refine List.perm_iff_count.2 fun x => ?_
  rw [count_down, count_flat]
  split
  · rfl
  · rename_i hx
    rw [← count_flat]
    symm
    rw [List.count_eq_zero]
    intro hm
    have := mem_flat h hm
    omega

/-- The unlike numbers that c's binary digits tell. -/
def bitOf (c : Nat → Nat) (p : Nat) : Bool := (c (odp p)).testBit (tz6 p)
def unl (c : Nat → Nat) : Nat → List Nat
  | 0 => []
  | k + 1 => if bitOf c (k + 1) then (k + 1) :: unl c k else unl c k
theorem mem_unl {c : Nat → Nat} {k x : Nat} : x ∈ unl c k ↔ 0 < x ∧ x ≤ k ∧ bitOf c x = true := by
  induction k with
  | zero => simp [unl]; omega
  | succ k ih =>
    rw [unl]
    split
    · rename_i h
      rw [List.mem_cons, ih]
      constructor
      · rintro (rfl | ⟨a, b, d⟩)
        · exact ⟨by omega, Nat.le_refl _, h⟩
        · exact ⟨a, by omega, d⟩
      · rintro ⟨a, b, d⟩
        by_cases e : x = k + 1
        · exact Or.inl e
        · exact Or.inr ⟨a, by omega, d⟩
    · rename_i h
      rw [ih]
      constructor
      · rintro ⟨a, b, d⟩
        exact ⟨a, by omega, d⟩
      · rintro ⟨a, b, d⟩
        by_cases e : x = k + 1
        · subst e
          exact absurd d h
        · exact ⟨a, by omega, d⟩
theorem falls_unl (c : Nat → Nat) (k : Nat) : (unl c k).Pairwise (· > ·) := by
  induction k with
  | zero => simp [unl]
  | succ k ih =>
    rw [unl]
    split
    · rw [List.pairwise_cons]
      refine ⟨fun x hx => ?_, ih⟩
      have := mem_unl.1 hx
      omega
    · exact ih
theorem unl_congr {c c' : Nat → Nat} (k : Nat) (h : ∀ x, 0 < x → x ≤ k → c (odp x) = c' (odp x)) : unl c k = unl c' k := by
  induction k with
  | zero => rfl
  | succ k ih =>
    have e : bitOf c (k + 1) = bitOf c' (k + 1) := by unfold bitOf; rw [h (k + 1) (by omega) (Nat.le_refl _)]
    rw [unl, unl, e, ih (fun x h0 h1 => h x h0 (by omega))]

/-- Six binary digits. -/
def six (b0 b1 b2 b3 b4 b5 : Bool) : Nat := b0.toNat + 2 * b1.toNat + 4 * b2.toNat + 8 * b3.toNat + 16 * b4.toNat + 32 * b5.toNat
theorem six_bit : ∀ b0 b1 b2 b3 b4 b5 : Bool, (six b0 b1 b2 b3 b4 b5).testBit 0 = b0 ∧ (six b0 b1 b2 b3 b4 b5).testBit 1 = b1 ∧ (six b0 b1 b2 b3 b4 b5).testBit 2 = b2 ∧ (six b0 b1 b2 b3 b4 b5).testBit 3 = b3 ∧ (six b0 b1 b2 b3 b4 b5).testBit 4 = b4 ∧ (six b0 b1 b2 b3 b4 b5).testBit 5 = b5 := by decide +kernel
def mb (m : List Nat) (x : Nat) : Bool := decide (x ∈ m)
theorem one_tab : ((List.range 41).all fun x => x == 0 || (List.range 41).all fun d => d % 2 == 0 || decide ((if odp x = d then pwr x else 0) = six (decide (d = x)) (decide (2 * d = x)) (decide (4 * d = x)) (decide (8 * d = x)) (decide (16 * d = x)) (decide (32 * d = x)))) = true := by decide +kernel
theorem one_at {x d : Nat} (h0 : 0 < x) (hx : x ≤ 40) (hd : d ≤ 40) (ho : d % 2 = 1) : (if odp x = d then pwr x else 0) = six (decide (d = x)) (decide (2 * d = x)) (decide (4 * d = x)) (decide (8 * d = x)) (decide (16 * d = x)) (decide (32 * d = x)) := by
  have := List.all_eq_true.1 one_tab x (List.mem_range.2 (by omega))
  simp only [Bool.or_eq_true, beq_iff_eq] at this
  rcases this with h1 | h1
  · omega
  · have := List.all_eq_true.1 h1 d (List.mem_range.2 (by omega))
    simp only [Bool.or_eq_true, beq_iff_eq] at this
    rcases this with h2 | h2
    · omega
    · exact of_decide_eq_true h2
theorem mb_cons {x y : Nat} {m : List Nat} (h : x ∉ m) : (mb (x :: m) y).toNat = (decide (y = x)).toNat + (mb m y).toNat := by
  unfold mb
  by_cases e : y = x
  · subst e
    simp [h]
  · simp [e]
theorem cO_six {m : List Nat} (hn : m.Nodup) (h : ∀ x ∈ m, 0 < x ∧ x ≤ 40) {d : Nat} (hd : d ≤ 40) (ho : d % 2 = 1) :
    cO m d = six (mb m d) (mb m (2 * d)) (mb m (4 * d)) (mb m (8 * d)) (mb m (16 * d)) (mb m (32 * d)) := by
  induction m with
  | nil => rfl
  | cons x m ih =>
    rw [List.nodup_cons] at hn
    have hx := h x (List.mem_cons_self ..)
    rw [cO_cons, ih hn.2 (fun y hy => h y (List.mem_cons_of_mem _ hy)), one_at hx.1 hx.2 hd ho]
    unfold six
    simp only [mb_cons hn.1]
    omega
theorem place_tab : ((List.range 41).all fun p => p == 0 || (decide (tz6 p = 0 ∧ p = odp p) || decide (tz6 p = 1 ∧ p = 2 * odp p) || decide (tz6 p = 2 ∧ p = 4 * odp p) || decide (tz6 p = 3 ∧ p = 8 * odp p) || decide (tz6 p = 4 ∧ p = 16 * odp p) || decide (tz6 p = 5 ∧ p = 32 * odp p))) = true := by decide +kernel
/-- The digit at p tells whether p is there. -/
theorem bit_cO {m : List Nat} (hn : m.Nodup) (h : ∀ x ∈ m, 0 < x ∧ x ≤ 40) {p : Nat} (h0 : 0 < p) (hp : p ≤ 40) : bitOf (cO m) p = mb m p := by
  obtain ⟨_, ho, hd, _⟩ := od_at h0 hp
  have := List.all_eq_true.1 place_tab p (List.mem_range.2 (by omega))
  simp only [Bool.or_eq_true, beq_iff_eq, decide_eq_true_eq] at this
  have hb := six_bit (mb m (odp p)) (mb m (2 * odp p)) (mb m (4 * odp p)) (mb m (8 * odp p)) (mb m (16 * odp p)) (mb m (32 * odp p))
  unfold bitOf
  rw [cO_six hn h hd ho]
  rcases this with h1 | ((((⟨a, b⟩ | ⟨a, b⟩) | ⟨a, b⟩) | ⟨a, b⟩) | ⟨a, b⟩) | ⟨a, b⟩
  · omega
  · rw [a, hb.1, ← b]
  · rw [a, hb.2.1, ← b]
  · rw [a, hb.2.2.1, ← b]
  · rw [a, hb.2.2.2.1, ← b]
  · rw [a, hb.2.2.2.2.1, ← b]
  · rw [a, hb.2.2.2.2.2, ← b]
theorem gt_nodup {m : List Nat} (h : m.Pairwise (· > ·)) : m.Nodup := h.imp (fun h => by omega)
/-- GLAISHER, one way. -/
theorem unl_cO {m : List Nat} (hf : m.Pairwise (· > ·)) (h : ∀ x ∈ m, 0 < x ∧ x ≤ 40) : unl (cO m) 40 = m := by
  refine falls_unique ((falls_unl _ _).imp Nat.le_of_lt) (hf.imp Nat.le_of_lt) ?_
  refine (List.perm_ext_iff_of_nodup (gt_nodup (falls_unl _ _)) (gt_nodup hf)).2 fun x => ?_
  rw [mem_unl]
  constructor
  · rintro ⟨a, b, d⟩
    rw [bit_cO (gt_nodup hf) h a b] at d
    exact of_decide_eq_true d
  · intro hx
    have hb := h x hx
    refine ⟨hb.1, hb.2, ?_⟩
    rw [bit_cO (gt_nodup hf) h hb.1 hb.2]
    exact decide_eq_true hx

/-! Two that are the same are one. -/
theorem cO_join {x : Nat} (h0 : 0 < x) (h : 2 * x ≤ 40) (m : List Nat) (d : Nat) : cO (2 * x :: m) d = cO (x :: x :: m) d := by
  obtain ⟨a, b, _⟩ := half_at (p := 2 * x) (by omega) h (by omega)
  rw [show 2 * x / 2 = x by omega] at a b
  simp only [cO_cons, ← a, ← b]
  split <;> omega
theorem sorted_or (m : List Nat) (h : ¬ m.Nodup) : ∃ x m', m.Perm (x :: x :: m') := by
  induction m with
  | nil => simp at h
  | cons y m ih =>
    by_cases hy : y ∈ m
    · exact ⟨y, m.erase y, List.Perm.cons y (List.perm_cons_erase hy)⟩
    · rw [List.nodup_cons] at h
      obtain ⟨x, m', hp⟩ := ih (fun hn => h ⟨hy, hn⟩)
      refine ⟨x, y :: m', (List.Perm.cons y hp).trans ?_⟩
      exact (List.Perm.swap x y (x :: m')).trans (List.Perm.cons x (List.Perm.swap x y m'))
theorem sum_permN {a b : List Nat} (h : a.Perm b) : a.sum = b.sum := by
  induction h with
  | nil => rfl
  | cons x _ ih => simp [ih]
  | swap x y l => simp only [List.sum_cons]; omega
  | trans _ _ h1 h2 => rw [h1, h2]
theorem le_sum {m : List Nat} {x : Nat} (h : x ∈ m) : x ≤ m.sum := by
  induction m with
  | nil => simp at h
  | cons y m ih =>
    rw [List.sum_cons]
    rcases List.mem_cons.1 h with rfl | h
    · omega
    · have := ih h
      omega
theorem joined : ∀ (k : Nat) (m : List Nat), m.length ≤ k → m.sum ≤ 40 → (∀ x ∈ m, 0 < x) → ∃ m', m'.Nodup ∧ m'.sum = m.sum ∧ (∀ x ∈ m', 0 < x) ∧ ∀ d, cO m' d = cO m d
  | 0, m, hk, _, _ => by
    have : m = [] := List.eq_nil_of_length_eq_zero (by omega)
    subst this
    exact ⟨[], by simp, rfl, by simp, fun _ => rfl⟩
  | k + 1, m, hk, hs, h0 => by
    by_cases hn : m.Nodup
    · exact ⟨m, hn, rfl, h0, fun _ => rfl⟩
    · obtain ⟨x, m1, hp⟩ := sorted_or m hn
      have hsum := sum_permN hp
      have hlen := hp.length_eq
      simp only [List.sum_cons, List.length_cons] at hsum hlen
      have hx : 0 < x := h0 x (hp.mem_iff.2 (List.mem_cons_self ..))
      obtain ⟨m', a, b, c, d⟩ := joined k (2 * x :: m1) (by simp; omega) (by rw [List.sum_cons]; omega) (by
        intro y hy
        rcases List.mem_cons.1 hy with rfl | hy
        · omega
        · exact h0 y (hp.mem_iff.2 (List.mem_cons_of_mem _ (List.mem_cons_of_mem _ hy))))
      refine ⟨m', a, by rw [b, List.sum_cons]; omega, c, fun e => ?_⟩
      rw [d, cO_join hx (by omega), ← cO_perm hp]
/-- The unlike numbers of c, where c is of numbers that hold at most 40 together. -/
theorem unl_of {m : List Nat} (hs : m.sum ≤ 40) (h0 : ∀ x ∈ m, 0 < x) : (unl (cO m) 40).sum = m.sum ∧ ∀ d, cO (unl (cO m) 40) d = cO m d := by
  obtain ⟨m', a, b, c, d⟩ := joined m.length m (Nat.le_refl _) hs h0
  have hb : ∀ x ∈ m', 0 < x ∧ x ≤ 40 := fun x hx => ⟨c x hx, by have := le_sum hx; omega⟩
  have hp : (unl (cO m) 40).Perm m' := by
    rw [unl_congr 40 (c' := cO m') (fun x _ _ => (d (odp x)).symm)]
    refine (List.perm_ext_iff_of_nodup (gt_nodup (falls_unl _ _)) a).2 fun x => ?_
    rw [mem_unl]
    constructor
    · rintro ⟨e, f, g⟩
      rw [bit_cO a hb e f] at g
      exact of_decide_eq_true g
    · intro hx
      have hx2 := hb x hx
      refine ⟨hx2.1, hx2.2, ?_⟩
      rw [bit_cO a hb hx2.1 hx2.2]
      exact decide_eq_true hx
  exact ⟨(sum_permN hp).trans b, fun e => (cO_perm hp e).trans (d e)⟩

end Go.Proofs.YteegddpoekphoaaDoor
