/-
  Heaps of patience (P43): where each number goes; as many heaps as the longest row that rises has numbers (MIRSKY); rows from behind, rows with a number more; ERDOES and SZEKERES. Plain facts; no program, no memory.
-/
import Derived.Test.YtdcmknnmdiocdaaLinM
import Derived.Test.YtdcmknnmdiocdaaTabM
namespace Go.Proofs.Ytdcmknnmdiocdaa

/-- On which heap a number goes, by the heaps' last ones. -/
def hpl (x : Int) : List Int → Nat
  | [] => 0
  | y :: r => if y < x then hpl x r + 1 else 0
theorem hpl_le (x : Int) : ∀ T : List Int, hpl x T ≤ T.length
  | [] => Nat.le_refl _
  | y :: r => by
    rw [hpl]
    split
    · have := hpl_le x r
      simp only [List.length_cons]
      omega
    · exact Nat.zero_le _
theorem hpl_before {x : Int} : ∀ {T : List Int} {j : Nat}, j < hpl x T → T.getD j 0 < x
  | [], _, h => absurd h (Nat.not_lt_zero _)
  | y :: r, j, h => by
    rw [hpl] at h
    split at h
    · rename_i hy
      cases j with
      | zero => exact hy
      | succ j => exact hpl_before (T := r) (by omega)
    · omega
theorem hpl_there {x : Int} : ∀ {T : List Int}, hpl x T < T.length → ¬ T.getD (hpl x T) 0 < x
  | [], h => absurd h (Nat.not_lt_zero _)
  | y :: r, h => by
    rw [hpl] at h ⊢
    split
    · rename_i hy
      rw [if_pos hy, List.length_cons] at h
      rw [List.getD_cons_succ]
      exact hpl_there (T := r) (by omega)
    · rename_i hy
      exact hy
theorem rin_set {x : Int} : ∀ {T : List Int}, hpl x T < T.length → (rin x T).1 = T.set (hpl x T) x
  | [], h => absurd h (Nat.not_lt_zero _)
  | y :: r, h => by
    rw [hpl] at h ⊢
    rw [rin]
    split
    · rename_i hy
      rw [if_pos hy, List.length_cons] at h
      rw [List.set_cons_succ, rin_set (T := r) (by omega)]
    · rfl
theorem rin_app {x : Int} {T : List Int} (h : hpl x T = T.length) : (rin x T).1 = T ++ [x] := by
  rw [rin_all (fun z hz => ?_)]
  obtain ⟨j, hj, rfl⟩ := List.mem_iff_getElem.1 hz
  have := hpl_before (x := x) (T := T) (j := j) (by omega)
  rwa [List.getD_eq_getElem?_getD, List.getElem?_eq_getElem hj] at this
theorem rin_length (x : Int) (T : List Int) : (rin x T).1.length = max T.length (hpl x T + 1) := by
  rcases Nat.lt_or_ge (hpl x T) T.length with h | h
  · rw [rin_set h, List.length_set]; omega
  · rw [rin_app (Nat.le_antisymm (hpl_le x T) h), List.length_append]
    have := hpl_le x T
    simp
    omega
/-- What lies on each heap after one more. -/
theorem rin_getD (x : Int) (T : List Int) (k : Nat) : (rin x T).1.getD k 0 = if k = hpl x T then x else T.getD k 0 := by
  rcases Nat.lt_or_ge (hpl x T) T.length with h | h
  · rw [rin_set h, List.getD_eq_getElem?_getD, List.getElem?_set, List.getD_eq_getElem?_getD]
    by_cases e : hpl x T = k
    · subst e; rw [if_pos rfl, if_pos h, if_pos rfl]; rfl
    · rw [if_neg e, if_neg (fun e2 => e e2.symm)]
  · have h1 : hpl x T = T.length := Nat.le_antisymm (hpl_le x T) h
    rw [rin_app h1, h1]
    by_cases e : k = T.length
    · subst e
      rw [if_pos rfl]
      simp [List.getD_eq_getElem?_getD]
    · rw [if_neg e, List.getD_eq_getElem?_getD, List.getD_eq_getElem?_getD]
      rcases Nat.lt_or_ge k T.length with h2 | h2
      · rw [List.getElem?_append_left h2]
      · rw [List.getElem?_eq_none (by simp; omega), List.getElem?_eq_none h2]

/-- The heaps' last numbers, and on which heap each number lies. -/
def splitP (l : List Int) : List Int × List Nat := l.foldl (fun p x => ((rin x p.1).1, p.2 ++ [hpl x p.1])) ([], [])
theorem split_nil : splitP [] = ([], []) := rfl
theorem split_snoc (l : List Int) (x : Int) : splitP (l ++ [x]) = ((rin x (splitP l).1).1, (splitP l).2 ++ [hpl x (splitP l).1]) := by
  simp [splitP, List.foldl_append]
theorem split_length (l : List Int) : (splitP l).2.length = l.length := by
  induction l using snoc_ind with
  | h0 => rfl
  | h1 l x ih => rw [split_snoc, List.length_append, List.length_append, ih]; rfl

/-- What holds of the heaps. -/
structure PInv (l : List Int) (T : List Int) (s : List Nat) : Prop where
  len : s.length = l.length
  on : ∀ j, j < l.length → s.getD j 0 < T.length ∧ T.getD (s.getD j 0) 0 ≤ l.getD j 0
  fr : ∀ k, k < T.length → ∃ j, j < l.length ∧ s.getD j 0 = k ∧ l.getD j 0 = T.getD k 0
  srt : ∀ i j, i < j → j < T.length → T.getD i 0 < T.getD j 0
  up : ∀ j i, j < i → i < l.length → l.getD j 0 < l.getD i 0 → s.getD j 0 < s.getD i 0
  dn : ∀ i k, i < l.length → s.getD i 0 = k + 1 → ∃ j, j < i ∧ s.getD j 0 = k ∧ l.getD j 0 < l.getD i 0
theorem getD_front {α : Type} (l : List α) (x d : α) {j : Nat} (h : j < l.length) : (l ++ [x]).getD j d = l.getD j d := by
  rw [List.getD_eq_getElem?_getD, List.getD_eq_getElem?_getD, List.getElem?_append_left h]
theorem getD_back {α : Type} (l : List α) (x d : α) {j : Nat} (h : j = l.length) : (l ++ [x]).getD j d = x := by
  subst h
  simp [List.getD_eq_getElem?_getD]
theorem srt_le {T : List Int} (h : ∀ i j, i < j → j < T.length → T.getD i 0 < T.getD j 0) {i j : Nat} (hij : i ≤ j) (hj : j < T.length) : T.getD i 0 ≤ T.getD j 0 := by
  rcases Nat.lt_or_eq_of_le hij with h1 | rfl
  · exact Int.le_of_lt (h i j h1 hj)
  · exact Int.le_refl _
/-- Where the last ones rise, a number goes behind all that are smaller. -/
theorem hpl_over {x : Int} {T : List Int} (h : ∀ i j, i < j → j < T.length → T.getD i 0 < T.getD j 0) {k : Nat} (hk : k < T.length) (hx : T.getD k 0 < x) : k < hpl x T := by
  rcases Nat.lt_or_ge k (hpl x T) with h1 | h1
  · exact h1
  · exfalso
    have h2 := hpl_there (x := x) (T := T) (by omega)
    have h3 := srt_le h h1 hk
    omega
theorem pinv_step {l : List Int} {T : List Int} {s : List Nat} (h : PInv l T s) (x : Int) : PInv (l ++ [x]) (rin x T).1 (s ++ [hpl x T]) := by
  have hl : (l ++ [x]).length = l.length + 1 := by simp
  have hT := rin_length x T
  have hp := hpl_le x T
  have hs := h.len
  have htop : ∀ j, j < l.length → (rin x T).1.getD (s.getD j 0) 0 ≤ l.getD j 0 := by
    intro j hj
    obtain ⟨h1, h2⟩ := h.on j hj
    rw [rin_getD]
    split
    · rename_i e
      have h3 := hpl_there (x := x) (T := T) (by omega)
      rw [← e] at h3
      omega
    · exact h2
  refine ⟨by simp [hs], ?_, ?_, ?_, ?_, ?_⟩
  · intro j hj
    rw [hl] at hj
    by_cases e : j = l.length
    · rw [getD_back l x 0 e, getD_back s _ 0 (by omega), rin_getD, if_pos rfl]
      omega
    · rw [getD_front l x 0 (by omega), getD_front s _ 0 (by omega)]
      exact ⟨by have := (h.on j (by omega)).1; omega, htop j (by omega)⟩
  · intro k hk
    rw [rin_getD]
    by_cases e : k = hpl x T
    · rw [if_pos e]
      exact ⟨l.length, by omega, by rw [getD_back s _ 0 (by omega), e], getD_back l x 0 rfl⟩
    · rw [if_neg e]
      obtain ⟨j, h1, h2, h3⟩ := h.fr k (by omega)
      exact ⟨j, by omega, by rw [getD_front s _ 0 (by omega)]; exact h2, by rw [getD_front l x 0 h1]; exact h3⟩
  · intro i j hij hj
    rw [rin_getD, rin_getD]
    by_cases ei : i = hpl x T
    · rw [if_pos ei, if_neg (by omega)]
      have h1 : j < T.length := by omega
      have h2 := hpl_there (x := x) (T := T) (by omega)
      have h3 := h.srt (hpl x T) j (by omega) h1
      omega
    · rw [if_neg ei]
      by_cases ej : j = hpl x T
      · rw [if_pos ej]
        exact hpl_before (by omega)
      · rw [if_neg ej]
        exact h.srt i j hij (by omega)
  · intro j i hji hi hx
    rw [hl] at hi
    by_cases e : i = l.length
    · rw [getD_front l x 0 (by omega), getD_back l x 0 e] at hx
      rw [getD_front s _ 0 (by omega), getD_back s _ 0 (by omega)]
      obtain ⟨h1, h2⟩ := h.on j (by omega)
      exact hpl_over h.srt h1 (by omega)
    · rw [getD_front l x 0 (by omega), getD_front l x 0 (by omega)] at hx
      rw [getD_front s _ 0 (by omega), getD_front s _ 0 (by omega)]
      exact h.up j i hji (by omega) hx
  · intro i k hi hk
    rw [hl] at hi
    by_cases e : i = l.length
    · rw [getD_back s _ 0 (by omega)] at hk
      obtain ⟨j, h1, h2, h3⟩ := h.fr k (by omega)
      refine ⟨j, by omega, by rw [getD_front s _ 0 (by omega)]; exact h2, ?_⟩
      rw [getD_front l x 0 h1, getD_back l x 0 e, h3]
      exact hpl_before (by omega)
    · rw [getD_front s _ 0 (by omega)] at hk
      obtain ⟨j, h1, h2, h3⟩ := h.dn i k (by omega) hk
      exact ⟨j, h1, by rw [getD_front s _ 0 (by omega)]; exact h2, by rw [getD_front l x 0 (by omega), getD_front l x 0 (by omega)]; exact h3⟩
theorem pinv (l : List Int) : PInv l (splitP l).1 (splitP l).2 := by
  induction l using snoc_ind with
  | h0 => exact ⟨rfl, fun j h => absurd h (by simp), fun k h => absurd h (by simp [split_nil]), fun i j _ h => absurd h (by simp [split_nil]), fun j i _ h => absurd h (by simp), fun i k h => absurd h (by simp)⟩
  | h1 l x ih => rw [split_snoc]; exact pinv_step ih x

/-- MIRSKY: as many heaps as the longest row that rises has numbers. -/
theorem heap_line (l : List Int) : ∀ k i, i < l.length → (splitP l).2.getD i 0 = k → ∃ c, Line (upF l) l.length c ∧ c.getLast? = some i ∧ c.length = k + 1
  | 0, i, hi, _ => ⟨[i], line_one hi, rfl, rfl⟩
  | k + 1, i, hi, hk => by
    obtain ⟨j, h1, h2, h3⟩ := (pinv l).dn i k hi hk
    obtain ⟨c, c1, c2, c3⟩ := heap_line l k j (by omega) h2
    refine ⟨c ++ [i], line_append c1 hi (fun m hm => ?_), by simp, by simp [c3]⟩
    rw [c2] at hm
    injection hm with hm
    subst hm
    exact ⟨h1, decide_eq_true h3⟩
theorem heaps_longest (l : List Int) : Longest (upF l) l.length (splitP l).1.length := by
  have H := pinv l
  constructor
  · rcases Nat.eq_zero_or_pos (splitP l).1.length with h0 | h0
    · exact ⟨[], trivial, h0.symm⟩
    · obtain ⟨j, h1, h2, _⟩ := H.fr ((splitP l).1.length - 1) (by omega)
      obtain ⟨c, c1, _, c3⟩ := heap_line l _ j h1 h2
      exact ⟨c, c1, by omega⟩
  · intro c hc
    have hp : c.Pairwise (fun i j => (splitP l).2.getD i 0 < (splitP l).2.getD j 0) :=
      hc.pairs (fun i j h1 h2 h3 => H.up i j h1 h2 (of_decide_eq_true h3)) (fun _ _ _ h1 h2 => Nat.lt_trans h1 h2)
    have hp2 : (c.map (fun i => (splitP l).2.getD i 0)).Pairwise (· < ·) := List.pairwise_map.2 hp
    have := nodup_short (n := (splitP l).1.length) hp2 (fun k hk => ?_) 0 (fun _ _ => Nat.zero_le _) (Nat.zero_le _)
    · rw [List.length_map] at this; omega
    · obtain ⟨i, hi, rfl⟩ := List.mem_map.1 hk
      exact (H.on i (hc.lt i hi)).1

/-! ### ERDOES, SZEKERES -/
theorem count_step (s : Nat → Nat) (k : Nat) : ∀ L : List Nat, (L.filter (fun i => decide (s i < k + 1))).length = (L.filter (fun i => decide (s i < k))).length + (L.filter (fun i => decide (s i = k))).length
  | [] => rfl
  | i :: L => by
    have ih := count_step s k L
    rw [List.filter_cons, List.filter_cons, List.filter_cons]
    by_cases h1 : s i < k
    · rw [if_pos (decide_eq_true (show s i < k + 1 by omega)), if_pos (decide_eq_true h1), if_neg (by simp; omega)]
      simp only [List.length_cons]
      omega
    · by_cases h2 : s i = k
      · rw [if_pos (decide_eq_true (show s i < k + 1 by omega)), if_neg (by simp; omega), if_pos (decide_eq_true h2)]
        simp only [List.length_cons]
        omega
      · rw [if_neg (by simp; omega), if_neg (by simp; omega), if_neg (by simp; omega)]
        exact ih
theorem count_all (s : Nat → Nat) (L : List Nat) (D : Nat) (h : ∀ k, (L.filter (fun i => decide (s i = k))).length ≤ D) : ∀ k, (L.filter (fun i => decide (s i < k))).length ≤ k * D
  | 0 => by simp
  | k + 1 => by
    rw [count_step, Nat.succ_mul]
    have := count_all s L D h k
    have := h k
    omega
theorem range_rising (n : Nat) : (List.range n).Pairwise (· < ·) := List.pairwise_lt_range
/-- ERDOES, SZEKERES. -/
theorem erdoes_szekeres {l : List Int} {u d : Nat} (hu : Longest (upF l) l.length u) (hd : Longest (downF l) l.length d) : l.length ≤ u * d := by
  have H := pinv l
  obtain rfl : u = (splitP l).1.length := hu.eq (heaps_longest l)
  have h := count_all (fun i => (splitP l).2.getD i 0) (List.range l.length) d (fun k => ?_) (splitP l).1.length
  · have e : (List.range l.length).filter (fun i => decide ((splitP l).2.getD i 0 < (splitP l).1.length)) = List.range l.length := by
      rw [List.filter_eq_self]
      intro i hi
      exact decide_eq_true (H.on i (List.mem_range.1 hi)).1
    rw [e, List.length_range] at h
    exact h
  · refine hd.2 _ (line_of_pairs (fun i hi => List.mem_range.1 (List.mem_filter.1 hi).1) ?_)
    have hr : ((List.range l.length).filter (fun i => decide ((splitP l).2.getD i 0 = k))).Pairwise (· < ·) := (range_rising _).sublist List.filter_sublist
    refine hr.imp_of_mem ?_
    intro i j hi hj hij
    refine ⟨hij, decide_eq_true ?_⟩
    have h1 : (splitP l).2.getD i 0 = k := of_decide_eq_true (List.mem_filter.1 hi).2
    have h2 : (splitP l).2.getD j 0 = k := of_decide_eq_true (List.mem_filter.1 hj).2
    by_cases hlt : l.getD i 0 < l.getD j 0
    · have := H.up i j hij (List.mem_range.1 (List.mem_filter.1 hj).1) hlt
      omega
    · omega

/-! ### A row from behind -/
theorem line_behind {f g : Nat → Nat → Bool} {n : Nat} (hfg : ∀ i j, i < j → j < n → f i j = true → g (n - 1 - j) (n - 1 - i) = true) : ∀ {c : List Nat}, Line f n c → Line g n (c.map (fun i => n - 1 - i)).reverse
  | [], _ => trivial
  | i :: c, h => by
    rw [List.map_cons, List.reverse_cons]
    have hi := h.head
    refine line_append (line_behind hfg h.tail) (by omega) (fun k hk => ?_)
    rw [List.getLast?_reverse, List.head?_map] at hk
    cases c with
    | nil => simp at hk
    | cons j c =>
      simp only [List.head?_cons, Option.map_some, Option.some.injEq] at hk
      subst hk
      have hj := h.tail.head
      obtain ⟨h1, h2⟩ := h.two
      exact ⟨by omega, hfg i j h1 hj h2⟩
theorem longest_behind {f g : Nat → Nat → Bool} {n m : Nat} (h1 : ∀ i j, i < j → j < n → f i j = true → g (n - 1 - j) (n - 1 - i) = true) (h2 : ∀ i j, i < j → j < n → g i j = true → f (n - 1 - j) (n - 1 - i) = true) (h : Longest f n m) : Longest g n m := by
  obtain ⟨⟨c, c1, c2⟩, c3⟩ := h
  refine ⟨⟨_, line_behind h1 c1, by simp [c2]⟩, fun d hd => ?_⟩
  have := c3 _ (line_behind h2 hd)
  simpa using this
theorem getD_reverse {l : List Int} {i : Nat} (h : i < l.length) : l.reverse.getD i 0 = l.getD (l.length - 1 - i) 0 := by
  rw [List.getD_eq_getElem?_getD, List.getD_eq_getElem?_getD, List.getElem?_reverse h]
/-- From behind, and below nought, what rose rises. -/
theorem longest_back {l b : List Int} {m : Nat} (hb : b.length = l.length) (he : ∀ i, i < l.length → b.getD i 0 = -1 - l.getD (l.length - 1 - i) 0) (h : Longest (upF l) l.length m) : Longest (upF b) b.length m := by
  rw [hb]
  refine longest_behind (fun i j h1 h2 h3 => ?_) (fun i j h1 h2 h3 => ?_) h
  · have h4 : l.getD i 0 < l.getD j 0 := of_decide_eq_true h3
    refine decide_eq_true ?_
    rw [he _ (by omega), he _ (by omega), show l.length - 1 - (l.length - 1 - j) = j by omega, show l.length - 1 - (l.length - 1 - i) = i by omega]
    omega
  · have h4 : b.getD i 0 < b.getD j 0 := of_decide_eq_true h3
    rw [he _ (by omega), he _ (by omega)] at h4
    refine decide_eq_true ?_
    omega

/-! ### A number more -/
theorem longest_more {f g : Nat → Nat → Bool} {n a b : Nat} (hfg : ∀ i j, i < j → j < n → f i j = g i j) (ha : Longest f n a) (hb : Longest g (n + 1) b) : a ≤ b ∧ b ≤ a + 1 := by
  constructor
  · obtain ⟨c, c1, c2⟩ := ha.1
    have h := hb.2 c (c1.law (fun i hi => by have := c1.lt i hi; omega) (fun i hi j hj hij h => by rw [← hfg i j hij (c1.lt j hj)]; exact h))
    omega
  · obtain ⟨c, c1, c2⟩ := hb.1
    rcases List.eq_nil_or_concat c with rfl | ⟨d, k, rfl⟩
    · simp at c2; omega
    · rw [List.concat_eq_append] at c1 c2
      have hr := c1.rising
      have hk := c1.lt k (by simp)
      have hlt : ∀ i ∈ d, i < n := fun i hi => by
        have := (List.pairwise_append.1 hr).2.2 i hi k (by simp)
        omega
      have hd : Line g (n + 1) d := by
        have : ∀ (d : List Nat), Line g (n + 1) (d ++ [k]) → Line g (n + 1) d := by
          intro d
          induction d with
          | nil => intro _; trivial
          | cons i d ih =>
            intro h
            refine ⟨h.head, fun j hj => ?_, ih h.tail⟩
            refine h.2.1 j ?_
            cases d with
            | nil => simp at hj
            | cons u d => simpa using hj
        exact this d c1
      have h := ha.2 d (hd.law hlt (fun i hi j hj hij h => by rw [hfg i j hij (hlt j hj)]; exact h))
      rw [List.length_append] at c2
      simp at c2
      omega
theorem upF_more (l : List Int) (x : Int) {i j : Nat} (hi : i < l.length) (hj : j < l.length) : upF l i j = upF (l ++ [x]) i j := by
  unfold upF
  rw [getD_front l x 0 hi, getD_front l x 0 hj]
theorem downF_more (l : List Int) (x : Int) {i j : Nat} (hi : i < l.length) (hj : j < l.length) : downF l i j = downF (l ++ [x]) i j := by
  unfold downF
  rw [getD_front l x 0 hi, getD_front l x 0 hj]

/-! ### SCHENSTED: the first row -/
theorem tin_first (T : List (List Int)) (x : Int) : (tin T x).1.getD 0 [] = (rin x (T.getD 0 [])).1 := by
  cases T with
  | nil => rfl
  | cons row T =>
    rw [tin]
    cases (rin x row).2 <;> rfl
theorem first_row (l : List Int) : (PT l).getD 0 [] = (splitP l).1 := by
  induction l using snoc_ind with
  | h0 => rfl
  | h1 l x ih => rw [PT_snoc, tin_first, ih, split_snoc]
theorem down_behind {l : List Int} (hd : l.Nodup) {m : Nat} (h : Longest (upF l.reverse) l.length m) : Longest (downF l) l.length m := by
  refine longest_behind (fun i j h1 h2 h3 => ?_) (fun i j h1 h2 h3 => ?_) h
  · have h4 : l.reverse.getD i 0 < l.reverse.getD j 0 := of_decide_eq_true h3
    rw [getD_reverse (by omega), getD_reverse (by omega)] at h4
    exact decide_eq_true (by omega)
  · have h4 : l.getD j 0 ≤ l.getD i 0 := of_decide_eq_true h3
    have h5 : l.getD i 0 ≠ l.getD j 0 := by
      rw [List.getD_eq_getElem?_getD, List.getD_eq_getElem?_getD, List.getElem?_eq_getElem (by omega), List.getElem?_eq_getElem h2]
      intro e
      exact absurd ((List.getElem_inj hd).1 e) (by omega)
    refine decide_eq_true ?_
    rw [getD_reverse (by omega), getD_reverse (by omega), show l.length - 1 - (l.length - 1 - j) = j by omega, show l.length - 1 - (l.length - 1 - i) = i by omega]
    omega
end Go.Proofs.Ytdcmknnmdiocdaa
