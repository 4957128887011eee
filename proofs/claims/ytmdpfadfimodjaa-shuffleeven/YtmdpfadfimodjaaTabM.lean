/-
  Rows that rise: a number put in (P38), one more at the end of a row, the two tableaux of a list. Plain facts; no program, no memory.
-/
import Derived.Test.YtmdpfadfimodjaaBase
namespace Go.Proofs.Ytmdpfadfimodjaa

/-- A number put into one row: the row, and what is put out. -/
def rin (x : Int) : List Int → List Int × Option Int
  | [] => ([x], none)
  | y :: r => if y < x then (y :: (rin x r).1, (rin x r).2) else (x :: r, some y)

theorem rin_all {x : Int} : ∀ {row : List Int}, (∀ z ∈ row, z < x) → rin x row = (row ++ [x], none)
  | [], _ => rfl
  | y :: r, h => by
    rw [rin, if_pos (h y (by simp)), rin_all (row := r) (fun z hz => h z (by simp [hz]))]
    rfl
theorem rin_at {x y : Int} (hy : ¬ y < x) (l2 : List Int) : ∀ {l1 : List Int}, (∀ z ∈ l1, z < x) → rin x (l1 ++ y :: l2) = (l1 ++ x :: l2, some y)
  | [], _ => by rw [List.nil_append, rin, if_neg hy]; rfl
  | z :: l1, h => by
    rw [List.cons_append, rin, if_pos (h z (by simp)), rin_at hy l2 (l1 := l1) (fun u hu => h u (by simp [hu]))]
    rfl
/-- Either all are smaller, or there is a first one that is not. -/
theorem rin_cases (x : Int) : ∀ row : List Int, (∀ z ∈ row, z < x) ∨ ∃ l1 y l2, row = l1 ++ y :: l2 ∧ (∀ z ∈ l1, z < x) ∧ ¬ y < x
  | [] => .inl (by simp)
  | y :: r => by
    by_cases h : y < x
    · rcases rin_cases x r with h1 | ⟨l1, u, l2, rfl, h1, h2⟩
      · left
        intro z hz
        rcases List.mem_cons.1 hz with rfl | hz
        · exact h
        · exact h1 z hz
      · right
        refine ⟨y :: l1, u, l2, rfl, ?_, h2⟩
        intro z hz
        rcases List.mem_cons.1 hz with rfl | hz
        · exact h
        · exact h1 z hz
    · exact .inr ⟨[], y, r, rfl, by simp, h⟩

/-- A number put in: the rows, and which one has become longer. -/
def tin : List (List Int) → Int → List (List Int) × Nat
  | [], x => ([[x]], 0)
  | row :: T, x => match (rin x row).2 with
    | none => ((rin x row).1 :: T, 0)
    | some y => ((rin x row).1 :: (tin T y).1, (tin T y).2 + 1)

theorem tin_nil (x : Int) : tin [] x = ([[x]], 0) := rfl
theorem tin_all {x : Int} {row : List Int} (T : List (List Int)) (h : ∀ z ∈ row, z < x) : tin (row :: T) x = ((row ++ [x]) :: T, 0) := by
  rw [tin, rin_all h]
theorem tin_at {x y : Int} {l1 : List Int} (l2 : List Int) (T : List (List Int)) (h : ∀ z ∈ l1, z < x) (hy : ¬ y < x) : tin ((l1 ++ y :: l2) :: T) x = ((l1 ++ x :: l2) :: (tin T y).1, (tin T y).2 + 1) := by
  rw [tin, rin_at hy l2 h]

/-- One more at the end of row r. -/
def tadd : List (List Int) → Nat → Int → List (List Int)
  | [], _, M => [[M]]
  | row :: T, 0, M => (row ++ [M]) :: T
  | row :: T, r + 1, M => row :: tadd T r M

theorem tin_le : ∀ (T : List (List Int)) (x : Int), (tin T x).2 ≤ T.length
  | [], _ => Nat.le_refl _
  | row :: T, x => by
    rcases rin_cases x row with h | ⟨l1, y, l2, rfl, h1, h2⟩
    · rw [tin_all T h]; exact Nat.zero_le _
    · rw [tin_at l2 T h1 h2, List.length_cons]
      have := tin_le T y
      omega

/-- A greatest number goes to the end of the first row. -/
theorem tin_max : ∀ (T : List (List Int)) (M : Int), (∀ y ∈ T.flatten, y < M) → tin T M = (tadd T 0 M, 0)
  | [], _, _ => rfl
  | row :: T, M, h => by
    rw [tin_all T (fun z hz => h z (by simp [hz]))]
    rfl

/-- A greatest number stands at the end of row r, and x is put in. -/
theorem tin_add : ∀ (T : List (List Int)) (r : Nat) (M x : Int), (∀ y ∈ T.flatten, y < M) → x < M → r ≤ T.length →
    tin (tadd T r M) x = if (tin T x).2 = r then (tadd (tin T x).1 (r + 1) M, r + 1) else (tadd (tin T x).1 r M, (tin T x).2)
  | [], r, M, x, _, hx, hr => by
    have : r = 0 := by simpa using hr
    subst this
    rw [tin_nil, if_pos rfl]
    exact tin_at (l1 := []) [] [] (by simp) (by omega)
  | row :: T, r, M, x, h, hx, hr => by
    have hrow : ∀ z ∈ row, z < M := fun z hz => h z (by simp [hz])
    have hT : ∀ z ∈ T.flatten, z < M := fun z hz => h z (by
      rw [List.flatten_cons]
      exact List.mem_append_right _ hz)
    rcases rin_cases x row with h1 | ⟨l1, y, l2, rfl, h1, h2⟩
    · rw [tin_all T h1]
      cases r with
      | zero =>
        rw [if_pos rfl, tadd, tin_at [] T h1 (by omega), tin_max T M hT]
        rfl
      | succ r =>
        rw [if_neg (by simp), tadd, tin_all _ h1]
        rfl
    · rw [tin_at l2 T h1 h2]
      have hy : y < M := hrow y (by simp)
      cases r with
      | zero =>
        rw [if_neg (by simp), tadd, List.append_assoc, List.cons_append, tin_at _ T h1 h2]
        simp [tadd]
      | succ r =>
        rw [tadd, tin_at l2 _ h1 h2, tin_add T r M y hT hy (by simpa using hr)]
        by_cases e : (tin T y).2 = r
        · simp [e, tadd]
        · simp [e, tadd]

/-! ### What lies in the rows -/
theorem tin_flat : ∀ (T : List (List Int)) (x : Int), (tin T x).1.flatten.Perm (x :: T.flatten)
  | [], x => by simp [tin]
  | row :: T, x => by
    rcases rin_cases x row with h1 | ⟨l1, y, l2, rfl, h1, h2⟩
    · rw [tin_all T h1, List.flatten_cons, List.flatten_cons, List.append_assoc]
      exact List.perm_middle
    · rw [tin_at l2 T h1 h2, List.flatten_cons, List.flatten_cons, List.append_assoc, List.append_assoc, List.cons_append, List.cons_append]
      have ih := tin_flat T y
      refine List.perm_middle.trans (List.Perm.cons x ?_)
      refine List.Perm.append_left l1 ?_
      exact (List.Perm.append_left l2 ih).trans List.perm_middle
theorem tadd_flat : ∀ (T : List (List Int)) (r : Nat) (M : Int), (tadd T r M).flatten.Perm (M :: T.flatten)
  | [], r, M => by cases r <;> simp [tadd]
  | row :: T, 0, M => by
    rw [tadd, List.flatten_cons, List.flatten_cons, List.append_assoc]
    exact List.perm_middle
  | row :: T, r + 1, M => by
    rw [tadd, List.flatten_cons, List.flatten_cons]
    exact (List.Perm.append_left row (tadd_flat T r M)).trans List.perm_middle

theorem tadd_length : ∀ (T : List (List Int)) (r : Nat) (M : Int), r ≤ T.length → (tadd T r M).length = max T.length (r + 1)
  | [], r, M, h => by
    have : r = 0 := by simpa using h
    subst this
    rfl
  | row :: T, 0, M, _ => by simp [tadd]
  | row :: T, r + 1, M, h => by
    rw [tadd, List.length_cons, tadd_length T r M (by simpa using h), List.length_cons]
    omega
theorem tin_length : ∀ (T : List (List Int)) (x : Int), (tin T x).1.length = max T.length ((tin T x).2 + 1)
  | [], x => rfl
  | row :: T, x => by
    rcases rin_cases x row with h1 | ⟨l1, y, l2, rfl, h1, h2⟩
    · rw [tin_all T h1]; simp
    · rw [tin_at l2 T h1 h2]
      have := tin_length T y
      simp only [List.length_cons, this]
      omega

/-- How long row i is. -/
def tlen (T : List (List Int)) (i : Nat) : Nat := (T.getD i []).length
theorem tlen_nil (i : Nat) : tlen [] i = 0 := by simp [tlen]
theorem tlen_cons (row : List Int) (T : List (List Int)) (i : Nat) : tlen (row :: T) i = if i = 0 then row.length else tlen T (i - 1) := by
  cases i with
  | zero => rfl
  | succ i => simp [tlen]
theorem tlen_tadd : ∀ (T : List (List Int)) (r : Nat) (M : Int) (i : Nat), r ≤ T.length → tlen (tadd T r M) i = tlen T i + (if i = r then 1 else 0)
  | [], r, M, i, h => by
    have : r = 0 := by simpa using h
    subst this
    rw [tadd, tlen_cons, tlen_nil, tlen_nil]
    simp
  | row :: T, 0, M, i, _ => by
    rw [tadd, tlen_cons, tlen_cons]
    by_cases e : i = 0
    · simp [e]
    · simp [e]
  | row :: T, r + 1, M, i, h => by
    rw [tadd, tlen_cons, tlen_cons]
    by_cases e : i = 0
    · simp [e]
    · rw [if_neg e, if_neg e, tlen_tadd T r M (i - 1) (by simpa using h)]
      congr 1
      by_cases e2 : i - 1 = r
      · rw [if_pos e2, if_pos (by omega)]
      · rw [if_neg e2, if_neg (by omega)]
theorem tlen_tin : ∀ (T : List (List Int)) (x : Int) (i : Nat), tlen (tin T x).1 i = tlen T i + (if i = (tin T x).2 then 1 else 0)
  | [], x, i => by
    rw [tin_nil, tlen_cons, tlen_nil, tlen_nil]
    simp
  | row :: T, x, i => by
    rcases rin_cases x row with h1 | ⟨l1, y, l2, rfl, h1, h2⟩
    · rw [tin_all T h1, tlen_cons, tlen_cons]
      by_cases e : i = 0
      · simp [e]
      · simp [e]
    · rw [tin_at l2 T h1 h2, tlen_cons, tlen_cons]
      by_cases e : i = 0
      · simp [e]
      · rw [if_neg e, if_neg e, tlen_tin T y (i - 1)]
        congr 1
        by_cases e2 : i - 1 = (tin T y).2
        · rw [if_pos e2, if_pos (by simp only; omega)]
        · rw [if_neg e2, if_neg (by simp only; omega)]

/-! ### The two tableaux of a list -/
def rsR : List Int → List (List Int) × List (List Int)
  | [] => ([], [])
  | x :: w => ((tin (rsR w).1 x).1, tadd (rsR w).2 (tin (rsR w).1 x).2 (w.length : Int))
def PT (w : List Int) : List (List Int) := (rsR w.reverse).1
def QT (w : List Int) : List (List Int) := (rsR w.reverse).2
theorem PT_nil : PT [] = [] := rfl
theorem QT_nil : QT [] = [] := rfl
theorem PT_snoc (w : List Int) (x : Int) : PT (w ++ [x]) = (tin (PT w) x).1 := by simp [PT, rsR]
theorem QT_snoc (w : List Int) (x : Int) : QT (w ++ [x]) = tadd (QT w) (tin (PT w) x).2 (w.length : Int) := by simp [PT, QT, rsR]

theorem snoc_ind {p : List Int → Prop} (h0 : p []) (h1 : ∀ w x, p w → p (w ++ [x])) (w : List Int) : p w := by
  rw [← List.reverse_reverse w]
  induction w.reverse with
  | nil => exact h0
  | cons x l ih => rw [List.reverse_cons]; exact h1 _ _ ih

theorem PT_flat (w : List Int) : (PT w).flatten.Perm w := by
  induction w using snoc_ind with
  | h0 => exact List.Perm.refl _
  | h1 w x ih =>
    rw [PT_snoc]
    refine (tin_flat _ _).trans ((List.Perm.cons x ih).trans ?_)
    exact (List.perm_append_singleton x w).symm
theorem PT_mem {w : List Int} {y : Int} (h : y ∈ (PT w).flatten) : y ∈ w := (PT_flat w).mem_iff.1 h
theorem QT_mem (w : List Int) : ∀ y ∈ (QT w).flatten, 0 ≤ y ∧ y < (w.length : Int) := by
  induction w using snoc_ind with
  | h0 => intro y hy; simp [QT_nil] at hy
  | h1 w x ih =>
    intro y hy
    rw [QT_snoc] at hy
    rw [List.length_append, List.length_singleton]
    rcases List.mem_cons.1 ((tadd_flat _ _ _).mem_iff.1 hy) with rfl | hy
    · omega
    · have := ih y hy
      omega
theorem PQ_length (w : List Int) : (PT w).length = (QT w).length := by
  induction w using snoc_ind with
  | h0 => rfl
  | h1 w x ih => rw [PT_snoc, QT_snoc, tin_length, tadd_length _ _ _ (by rw [← ih]; exact tin_le _ _), ih]
theorem PQ_tlen (w : List Int) (i : Nat) : tlen (PT w) i = tlen (QT w) i := by
  induction w using snoc_ind with
  | h0 => rfl
  | h1 w x ih => rw [PT_snoc, QT_snoc, tlen_tin, tlen_tadd _ _ _ _ (by rw [← PQ_length]; exact tin_le _ _), ih]

/-! ### A greatest number in the midst -/
/-- Numbers from k on, one more. -/
def tsh (k : Int) (v : Int) : Int := if k ≤ v then v + 1 else v
def tmap (f : Int → Int) (T : List (List Int)) : List (List Int) := T.map (fun r => r.map f)
theorem tmap_tadd (f : Int → Int) : ∀ (T : List (List Int)) (r : Nat) (M : Int), tmap f (tadd T r M) = tadd (tmap f T) r (f M)
  | [], r, M => by cases r <;> rfl
  | row :: T, 0, M => by simp [tadd, tmap]
  | row :: T, r + 1, M => by
    have := tmap_tadd f T r M
    simp only [tmap] at this
    simp [tadd, tmap, this]
theorem tmap_tin (f : Int → Int) (hf : ∀ a b, f a < f b ↔ a < b) : ∀ (T : List (List Int)) (x : Int), tin (tmap f T) (f x) = (tmap f (tin T x).1, (tin T x).2)
  | [], x => rfl
  | row :: T, x => by
    rcases rin_cases x row with h1 | ⟨l1, y, l2, rfl, h1, h2⟩
    · rw [tin_all T h1]
      have : tmap f (row :: T) = row.map f :: tmap f T := rfl
      rw [this, tin_all]
      · simp [tmap]
      · intro z hz
        obtain ⟨z, hz', rfl⟩ := List.mem_map.1 hz
        exact (hf _ _).2 (h1 z hz')
    · rw [tin_at l2 T h1 h2]
      have : tmap f ((l1 ++ y :: l2) :: T) = (l1.map f ++ f y :: l2.map f) :: tmap f T := by simp [tmap]
      rw [this, tin_at, tmap_tin f hf T y]
      · simp [tmap]
      · intro z hz
        obtain ⟨z, hz', rfl⟩ := List.mem_map.1 hz
        exact (hf _ _).2 (h1 z hz')
      · exact fun h => h2 ((hf _ _).1 h)
theorem PT_map (f : Int → Int) (hf : ∀ a b, f a < f b ↔ a < b) (w : List Int) : PT (w.map f) = tmap f (PT w) ∧ QT (w.map f) = QT w := by
  induction w using snoc_ind with
  | h0 => exact ⟨rfl, rfl⟩
  | h1 w x ih =>
    have e : (w ++ [x]).map f = w.map f ++ [f x] := by simp
    rw [e, PT_snoc, QT_snoc, PT_snoc, QT_snoc, ih.1, ih.2, tmap_tin f hf, List.length_map]
    exact ⟨rfl, rfl⟩
theorem tsh_lt (k a b : Int) : tsh k a < tsh k b ↔ a < b := by
  unfold tsh
  split <;> split <;> omega
theorem tmap_same {f : Int → Int} : ∀ (T : List (List Int)), (∀ y ∈ T.flatten, f y = y) → tmap f T = T
  | [], _ => rfl
  | row :: T, h => by
    have h1 : row.map f = row := by
      refine (List.map_congr_left (g := id) fun z hz => ?_).trans (List.map_id _)
      exact h z (by simp [hz])
    have h2 := tmap_same (f := f) T (fun z hz => h z (by
      rw [List.flatten_cons]
      exact List.mem_append_right _ hz))
    show row.map f :: tmap f T = row :: T
    rw [h1, h2]
theorem mem_tmap {f : Int → Int} {T : List (List Int)} {y : Int} (h : y ∈ (tmap f T).flatten) : ∃ z ∈ T.flatten, y = f z := by
  obtain ⟨l, hl, hy⟩ := List.mem_flatten.1 h
  obtain ⟨r, hr, rfl⟩ := List.mem_map.1 hl
  obtain ⟨z, hz, rfl⟩ := List.mem_map.1 hy
  exact ⟨z, List.mem_flatten.2 ⟨r, hr, hz⟩, rfl⟩
theorem length_tmap (f : Int → Int) (T : List (List Int)) : (tmap f T).length = T.length := by simp [tmap]

/-- SCHUETZENBERGER's step: a greatest number M at place k of the list. -/
theorem mid_max (u : List Int) (M : Int) (v : List Int) : (∀ y ∈ u ++ v, y < M) →
    ∃ r, r ≤ (PT (u ++ v)).length ∧ PT (u ++ M :: v) = tadd (PT (u ++ v)) r M ∧ tin (tmap (tsh (u.length : Int)) (QT (u ++ v))) (u.length : Int) = (QT (u ++ M :: v), r) := by
  induction v using snoc_ind with
  | h0 =>
    intro h
    rw [List.append_nil] at h ⊢
    refine ⟨0, Nat.zero_le _, ?_, ?_⟩
    · rw [PT_snoc, tin_max]
      exact fun y hy => h y (PT_mem hy)
    · rw [tmap_same, tin_max, QT_snoc, tin_max]
      · exact fun y hy => h y (PT_mem hy)
      · exact fun y hy => (QT_mem u y hy).2
      · intro y hy
        have := QT_mem u y hy
        unfold tsh
        rw [if_neg (by omega)]
  | h1 v x ih =>
    intro h
    obtain ⟨r, hr, hP, hQ⟩ := ih (fun y hy => h y (by
      rw [← List.append_assoc]
      exact List.mem_append_left _ hy))
    have hx : x < M := h x (by simp)
    have hPm : ∀ y ∈ (PT (u ++ v)).flatten, y < M := fun y hy => h y (by
      rw [← List.append_assoc]
      exact List.mem_append_left _ (PT_mem hy))
    have e1 : u ++ M :: (v ++ [x]) = (u ++ M :: v) ++ [x] := by simp
    have e2 : u ++ (v ++ [x]) = (u ++ v) ++ [x] := by simp
    have hl1 : ((u ++ M :: v).length : Int) = ((u ++ v).length : Int) + 1 := by simp; omega
    have hle : (u.length : Int) ≤ ((u ++ v).length : Int) := by simp; omega
    have hshl : tsh (u.length : Int) ((u ++ v).length : Int) = ((u ++ v).length : Int) + 1 := by
      unfold tsh
      rw [if_pos hle]
    have hQm : ∀ y ∈ (tmap (tsh (u.length : Int)) (QT (u ++ v))).flatten, y < ((u ++ v).length : Int) + 1 := by
      intro y hy
      obtain ⟨z, hz, rfl⟩ := mem_tmap hy
      have := QT_mem _ z hz
      unfold tsh
      split <;> omega
    have ha : (tin (PT (u ++ v)) x).2 ≤ (tmap (tsh (u.length : Int)) (QT (u ++ v))).length := by
      rw [length_tmap, ← PQ_length]
      exact tin_le _ _
    have A := tin_add (PT (u ++ v)) r M x hPm hx hr
    have B := tin_add (tmap (tsh (u.length : Int)) (QT (u ++ v))) (tin (PT (u ++ v)) x).2 (((u ++ v).length : Int) + 1) (u.length : Int) hQm (by omega) ha
    rw [hQ] at B
    rw [e1, e2, PT_snoc, PT_snoc, QT_snoc, QT_snoc, tmap_tadd, hshl, B, hP, A, hl1]
    have hin := tin_length (PT (u ++ v)) x
    have hil := tin_le (PT (u ++ v)) x
    by_cases e : (tin (PT (u ++ v)) x).2 = r
    · rw [if_pos e, if_pos e.symm]
      refine ⟨r + 1, by omega, rfl, ?_⟩
      simp [e]
    · rw [if_neg e, if_neg (fun h => e h.symm)]
      exact ⟨r, by omega, rfl, rfl⟩

/-! ### The inverse -/
def tinv (p : List Int) : List Int := (List.range p.length).map (fun i : Nat => ((p.idxOf (i : Int) : Nat) : Int))

theorem tinv_mid (u v : List Int) (n : Nat) (hn : (u ++ v).length = n) (hu : ∀ y ∈ u ++ v, y ≠ (n : Int)) :
    tinv (u ++ (n : Int) :: v) = (tinv (u ++ v)).map (tsh (u.length : Int)) ++ [(u.length : Int)] := by
  have hl : (u ++ (n : Int) :: v).length = n + 1 := by simp at hn ⊢; omega
  unfold tinv
  rw [hl, List.range_succ, List.map_append, hn, List.map_map]
  congr 1
  · refine List.map_congr_left fun i hi => ?_
    have hi' : i < n := by simpa using hi
    simp only [Function.comp_apply]
    rw [List.idxOf_append, List.idxOf_append]
    by_cases h : (i : Int) ∈ u
    · rw [if_pos h, if_pos h]
      have := List.idxOf_lt_length_of_mem h
      unfold tsh
      rw [if_neg (by omega)]
    · rw [if_neg h, if_neg h]
      unfold tsh
      have hne : ((n : Int) == (i : Int)) = false := by simp; omega
      rw [List.idxOf_cons, hne]
      simp only [cond_false]
      rw [if_pos (by omega)]
      omega
  · have h : ¬ (n : Int) ∈ u := fun h => hu _ (List.mem_append_left _ h) rfl
    simp [List.idxOf_append, h]

/-- SCHUETZENBERGER. -/
theorem turned_tab : ∀ (n : Nat) (p : List Int), p.length = n → p.Nodup → (∀ i : Nat, i < n → (i : Int) ∈ p) → (∀ y ∈ p, 0 ≤ y ∧ y < (n : Int)) → PT (tinv p) = QT p ∧ QT (tinv p) = PT p
  | 0, p, hl, _, _, _ => by
    have : p = [] := List.eq_nil_of_length_eq_zero hl
    subst this
    exact ⟨rfl, rfl⟩
  | n + 1, p, hl, hd, hm, hb => by
    obtain ⟨u, v, rfl⟩ := List.append_of_mem (hm n (by omega))
    have hd' := (List.perm_middle (a := (n : Int)) (l₁ := u) (l₂ := v)).nodup_iff.1 hd
    rw [List.nodup_cons] at hd'
    have hl' : (u ++ v).length = n := by simp at hl ⊢; omega
    have hb' : ∀ y ∈ u ++ v, 0 ≤ y ∧ y < (n : Int) := by
      intro y hy
      have h1 := hb y (by
        rcases List.mem_append.1 hy with h | h
        · exact List.mem_append_left _ h
        · exact List.mem_append_right _ (List.mem_cons_of_mem _ h))
      have h2 : y ≠ (n : Int) := fun e => hd'.1 (e ▸ hy)
      omega
    have hm' : ∀ i : Nat, i < n → (i : Int) ∈ u ++ v := by
      intro i hi
      rcases List.mem_append.1 (hm i (by omega)) with h | h
      · exact List.mem_append_left _ h
      · rcases List.mem_cons.1 h with h | h
        · omega
        · exact List.mem_append_right _ h
    obtain ⟨ih1, ih2⟩ := turned_tab n (u ++ v) hl' hd'.2 hm' hb'
    rw [tinv_mid u v n hl' (fun y hy => by have := hb' y hy; omega), PT_snoc, QT_snoc, (PT_map _ (tsh_lt _) _).1, (PT_map _ (tsh_lt _) _).2, ih1, ih2]
    obtain ⟨r, hr, hP, hQ⟩ := mid_max u (n : Int) v (fun y hy => (hb' y hy).2)
    rw [hQ, hP]
    refine ⟨rfl, ?_⟩
    congr 1
    simp [tinv] at hl' ⊢
    omega

end Go.Proofs.Ytmdpfadfimodjaa
