/-
  Texts joined: LinS, LinP, BlkD, BlkA, BlkC, PartG, PartT, PartM, PartA, PartC, PartU.
-/
import Derived.Test.YtmdpfadfimodjaaDoorPermsOwnPart4
import Derived.Deep.OwnRows

/-
  Heaps of patience (P43): where each number goes; as many heaps as the longest row that rises has numbers (MIRSKY); rows from behind, rows with a number more; ERDOES and SZEKERES. Plain facts; no program, no memory.
-/
namespace Go.Proofs.YtmdpfadfimodjaaDoor

/-- On which heap a number goes, by the heaps' last ones. -/
def hpl (x : Int) : List Int → Nat
  | [] => 0
  | y :: r => if y < x then hpl x r + 1 else 0
theorem hpl_le (x : Int) : ∀ T : List Int, hpl x T ≤ T.length
  | [] => Nat.le_refl _
  | y :: r => by
    rw [hpl]
    split
    · have := hpl_le x r
      simp only [List.length_cons]
      omega
    · exact Nat.zero_le _
theorem hpl_before {x : Int} : ∀ {T : List Int} {j : Nat}, j < hpl x T → T.getD j 0 < x
  | [], _, h => absurd h (Nat.not_lt_zero _)
  | y :: r, j, h => by
    rw [hpl] at h
    split at h
    · rename_i hy
      cases j with
      | zero => exact hy
      | succ j => exact hpl_before (T := r) (by omega)
    · omega
theorem hpl_there {x : Int} : ∀ {T : List Int}, hpl x T < T.length → ¬ T.getD (hpl x T) 0 < x
  | [], h => absurd h (Nat.not_lt_zero _)
  | y :: r, h => by
    rw [hpl] at h ⊢
    split
    · rename_i hy
      rw [if_pos hy, List.length_cons] at h
      rw [List.getD_cons_succ]
      exact hpl_there (T := r) (by omega)
    · rename_i hy
      exact hy
theorem rin_set {x : Int} : ∀ {T : List Int}, hpl x T < T.length → (rin x T).1 = T.set (hpl x T) x
  | [], h => absurd h (Nat.not_lt_zero _)
  | y :: r, h => by
    rw [hpl] at h ⊢
    rw [rin]
    split
    · rename_i hy
      rw [if_pos hy, List.length_cons] at h
      rw [List.set_cons_succ, rin_set (T := r) (by omega)]
    · rfl
theorem rin_app {x : Int} {T : List Int} (h : hpl x T = T.length) : (rin x T).1 = T ++ [x] := by
  rw [rin_all (fun z hz => ?_)]
  obtain ⟨j, hj, rfl⟩ := List.mem_iff_getElem.1 hz
  have := hpl_before (x := x) (T := T) (j := j) (by omega)
  rwa [List.getD_eq_getElem?_getD, List.getElem?_eq_getElem hj] at this
theorem rin_length (x : Int) (T : List Int) : (rin x T).1.length = max T.length (hpl x T + 1) := by
  rcases Nat.lt_or_ge (hpl x T) T.length with h | h
  · rw [rin_set h, List.length_set]; omega
  · rw [rin_app (Nat.le_antisymm (hpl_le x T) h), List.length_append]
    have := hpl_le x T
    simp
    omega
/-- What lies on each heap after one more. -/
theorem rin_getD (x : Int) (T : List Int) (k : Nat) : (rin x T).1.getD k 0 = if k = hpl x T then x else T.getD k 0 := by
  rcases Nat.lt_or_ge (hpl x T) T.length with h | h
  · rw [rin_set h, List.getD_eq_getElem?_getD, List.getElem?_set, List.getD_eq_getElem?_getD]
    by_cases e : hpl x T = k
    · subst e; rw [if_pos rfl, if_pos h, if_pos rfl]; rfl
    · rw [if_neg e, if_neg (fun e2 => e e2.symm)]
  · have h1 : hpl x T = T.length := Nat.le_antisymm (hpl_le x T) h
    rw [rin_app h1, h1]
    by_cases e : k = T.length
    · subst e
      rw [if_pos rfl]
      simp [List.getD_eq_getElem?_getD]
    · rw [if_neg e, List.getD_eq_getElem?_getD, List.getD_eq_getElem?_getD]
      rcases Nat.lt_or_ge k T.length with h2 | h2
      · rw [List.getElem?_append_left h2]
      · rw [List.getElem?_eq_none (by simp; omega), List.getElem?_eq_none h2]

/-- The heaps' last numbers, and on which heap each number lies. -/
def splitP (l : List Int) : List Int × List Nat := l.foldl (fun p x => ((rin x p.1).1, p.2 ++ [hpl x p.1])) ([], [])
theorem split_nil : splitP [] = ([], []) := rfl
theorem split_snoc (l : List Int) (x : Int) : splitP (l ++ [x]) = ((rin x (splitP l).1).1, (splitP l).2 ++ [hpl x (splitP l).1]) := by
  simp [splitP, List.foldl_append]
theorem split_length (l : List Int) : (splitP l).2.length = l.length := by
  induction l using snoc_ind with
  | h0 => rfl
  | h1 l x ih => rw [split_snoc, List.length_append, List.length_append, ih]; rfl

/-- What holds of the heaps. -/
structure PInv (l : List Int) (T : List Int) (s : List Nat) : Prop where
  len : s.length = l.length
  on : ∀ j, j < l.length → s.getD j 0 < T.length ∧ T.getD (s.getD j 0) 0 ≤ l.getD j 0
  fr : ∀ k, k < T.length → ∃ j, j < l.length ∧ s.getD j 0 = k ∧ l.getD j 0 = T.getD k 0
  srt : ∀ i j, i < j → j < T.length → T.getD i 0 < T.getD j 0
  up : ∀ j i, j < i → i < l.length → l.getD j 0 < l.getD i 0 → s.getD j 0 < s.getD i 0
  dn : ∀ i k, i < l.length → s.getD i 0 = k + 1 → ∃ j, j < i ∧ s.getD j 0 = k ∧ l.getD j 0 < l.getD i 0
theorem getD_front {α : Type} (l : List α) (x d : α) {j : Nat} (h : j < l.length) : (l ++ [x]).getD j d = l.getD j d := by
  rw [List.getD_eq_getElem?_getD, List.getD_eq_getElem?_getD, List.getElem?_append_left h]
theorem getD_back {α : Type} (l : List α) (x d : α) {j : Nat} (h : j = l.length) : (l ++ [x]).getD j d = x := by
  subst h
  simp [List.getD_eq_getElem?_getD]
theorem srt_le {T : List Int} (h : ∀ i j, i < j → j < T.length → T.getD i 0 < T.getD j 0) {i j : Nat} (hij : i ≤ j) (hj : j < T.length) : T.getD i 0 ≤ T.getD j 0 := by
  rcases Nat.lt_or_eq_of_le hij with h1 | rfl
  · exact Int.le_of_lt (h i j h1 hj)
  · exact Int.le_refl _
/-- Where the last ones rise, a number goes behind all that are smaller. -/
theorem hpl_over {x : Int} {T : List Int} (h : ∀ i j, i < j → j < T.length → T.getD i 0 < T.getD j 0) {k : Nat} (hk : k < T.length) (hx : T.getD k 0 < x) : k < hpl x T := by
  rcases Nat.lt_or_ge k (hpl x T) with h1 | h1
  · exact h1
  · exfalso
    have h2 := hpl_there (x := x) (T := T) (by omega)
    have h3 := srt_le h h1 hk
    omega
theorem pinv_step {l : List Int} {T : List Int} {s : List Nat} (h : PInv l T s) (x : Int) : PInv (l ++ [x]) (rin x T).1 (s ++ [hpl x T]) := by
  have hl : (l ++ [x]).length = l.length + 1 := by simp
  have hT := rin_length x T
  have hp := hpl_le x T
  have hs := h.len
  have htop : ∀ j, j < l.length → (rin x T).1.getD (s.getD j 0) 0 ≤ l.getD j 0 := by
    intro j hj
    obtain ⟨h1, h2⟩ := h.on j hj
    rw [rin_getD]
    split
    · rename_i e
      have h3 := hpl_there (x := x) (T := T) (by omega)
      rw [← e] at h3
      omega
    · exact h2
  refine ⟨by simp [hs], ?_, ?_, ?_, ?_, ?_⟩
  · intro j hj
    rw [hl] at hj
    by_cases e : j = l.length
    · rw [getD_back l x 0 e, getD_back s _ 0 (by omega), rin_getD, if_pos rfl]
      omega
    · rw [getD_front l x 0 (by omega), getD_front s _ 0 (by omega)]
      exact ⟨by have := (h.on j (by omega)).1; omega, htop j (by omega)⟩
  · intro k hk
    rw [rin_getD]
    by_cases e : k = hpl x T
    · rw [if_pos e]
      exact ⟨l.length, by omega, by rw [getD_back s _ 0 (by omega), e], getD_back l x 0 rfl⟩
    · rw [if_neg e]
      obtain ⟨j, h1, h2, h3⟩ := h.fr k (by omega)
      exact ⟨j, by omega, by rw [getD_front s _ 0 (by omega)]; exact h2, by rw [getD_front l x 0 h1]; exact h3⟩
  · intro i j hij hj
    rw [rin_getD, rin_getD]
    by_cases ei : i = hpl x T
    · rw [if_pos ei, if_neg (by omega)]
      have h1 : j < T.length := by omega
      have h2 := hpl_there (x := x) (T := T) (by omega)
      have h3 := h.srt (hpl x T) j (by omega) h1
      omega
    · rw [if_neg ei]
      by_cases ej : j = hpl x T
      · rw [if_pos ej]
        exact hpl_before (by omega)
      · rw [if_neg ej]
        exact h.srt i j hij (by omega)
  · intro j i hji hi hx
    rw [hl] at hi
    by_cases e : i = l.length
    · rw [getD_front l x 0 (by omega), getD_back l x 0 e] at hx
      rw [getD_front s _ 0 (by omega), getD_back s _ 0 (by omega)]
      obtain ⟨h1, h2⟩ := h.on j (by omega)
      exact hpl_over h.srt h1 (by omega)
    · rw [getD_front l x 0 (by omega), getD_front l x 0 (by omega)] at hx
      rw [getD_front s _ 0 (by omega), getD_front s _ 0 (by omega)]
      exact h.up j i hji (by omega) hx
  · intro i k hi hk
    rw [hl] at hi
    by_cases e : i = l.length
    · rw [getD_back s _ 0 (by omega)] at hk
      obtain ⟨j, h1, h2, h3⟩ := h.fr k (by omega)
      refine ⟨j, by omega, by rw [getD_front s _ 0 (by omega)]; exact h2, ?_⟩
      rw [getD_front l x 0 h1, getD_back l x 0 e, h3]
      exact hpl_before (by omega)
    · rw [getD_front s _ 0 (by omega)] at hk
      obtain ⟨j, h1, h2, h3⟩ := h.dn i k (by omega) hk
      exact ⟨j, h1, by rw [getD_front s _ 0 (by omega)]; exact h2, by rw [getD_front l x 0 (by omega), getD_front l x 0 (by omega)]; exact h3⟩
theorem pinv (l : List Int) : PInv l (splitP l).1 (splitP l).2 := by
  induction l using snoc_ind with
  | h0 => exact ⟨rfl, fun j h => absurd h (by simp), fun k h => absurd h (by simp [split_nil]), fun i j _ h => absurd h (by simp [split_nil]), fun j i _ h => absurd h (by simp), fun i k h => absurd h (by simp)⟩
  | h1 l x ih => rw [split_snoc]; exact pinv_step ih x

/-- MIRSKY: as many heaps as the longest row that rises has numbers. -/
theorem heap_line (l : List Int) : ∀ k i, i < l.length → (splitP l).2.getD i 0 = k → ∃ c, Line (upF l) l.length c ∧ c.getLast? = some i ∧ c.length = k + 1
  | 0, i, hi, _ => ⟨[i], line_one hi, rfl, rfl⟩
  | k + 1, i, hi, hk => by
    obtain ⟨j, h1, h2, h3⟩ := (pinv l).dn i k hi hk
    obtain ⟨c, c1, c2, c3⟩ := heap_line l k j (by omega) h2
    refine ⟨c ++ [i], line_append c1 hi (fun m hm => ?_), by simp, by simp [c3]⟩
    rw [c2] at hm
    injection hm with hm
    subst hm
    exact ⟨h1, decide_eq_true h3⟩
theorem heaps_longest (l : List Int) : Longest (upF l) l.length (splitP l).1.length := by
  have H := pinv l
  constructor
  · rcases Nat.eq_zero_or_pos (splitP l).1.length with h0 | h0
    · exact ⟨[], trivial, h0.symm⟩
    · obtain ⟨j, h1, h2, _⟩ := H.fr ((splitP l).1.length - 1) (by omega)
      obtain ⟨c, c1, _, c3⟩ := heap_line l _ j h1 h2
      exact ⟨c, c1, by omega⟩
  · intro c hc
    have hp : c.Pairwise (fun i j => (splitP l).2.getD i 0 < (splitP l).2.getD j 0) :=
      hc.pairs (fun i j h1 h2 h3 => H.up i j h1 h2 (of_decide_eq_true h3)) (fun _ _ _ h1 h2 => Nat.lt_trans h1 h2)
    have hp2 : (c.map (fun i => (splitP l).2.getD i 0)).Pairwise (· < ·) := List.pairwise_map.2 hp
    have := nodup_short (n := (splitP l).1.length) hp2 (fun k hk => ?_) 0 (fun _ _ => Nat.zero_le _) (Nat.zero_le _)
    · rw [List.length_map] at this; omega
    · obtain ⟨i, hi, rfl⟩ := List.mem_map.1 hk
      exact (H.on i (hc.lt i hi)).1

/-! ### ERDOES, SZEKERES -/
theorem count_step (s : Nat → Nat) (k : Nat) : ∀ L : List Nat, (L.filter (fun i => decide (s i < k + 1))).length = (L.filter (fun i => decide (s i < k))).length + (L.filter (fun i => decide (s i = k))).length
  | [] => rfl
  | i :: L => by
    have ih := count_step s k L
    rw [List.filter_cons, List.filter_cons, List.filter_cons]
    by_cases h1 : s i < k
    · rw [if_pos (decide_eq_true (show s i < k + 1 by omega)), if_pos (decide_eq_true h1), if_neg (by simp; omega)]
      simp only [List.length_cons]
      omega
    · by_cases h2 : s i = k
      · rw [if_pos (decide_eq_true (show s i < k + 1 by omega)), if_neg (by simp; omega), if_pos (decide_eq_true h2)]
        simp only [List.length_cons]
        omega
      · rw [if_neg (by simp; omega), if_neg (by simp; omega), if_neg (by simp; omega)]
        exact ih
theorem count_all (s : Nat → Nat) (L : List Nat) (D : Nat) (h : ∀ k, (L.filter (fun i => decide (s i = k))).length ≤ D) : ∀ k, (L.filter (fun i => decide (s i < k))).length ≤ k * D
  | 0 => by simp
  | k + 1 => by
    rw [count_step, Nat.succ_mul]
    have := count_all s L D h k
    have := h k
    omega
theorem range_rising (n : Nat) : (List.range n).Pairwise (· < ·) := List.pairwise_lt_range
/-- ERDOES, SZEKERES. -/
theorem erdoes_szekeres {l : List Int} {u d : Nat} (hu : Longest (upF l) l.length u) (hd : Longest (downF l) l.length d) : l.length ≤ u * d := by
  have H := pinv l
  obtain rfl : u = (splitP l).1.length := hu.eq (heaps_longest l)
  have h := count_all (fun i => (splitP l).2.getD i 0) (List.range l.length) d (fun k => ?_) (splitP l).1.length
  · have e : (List.range l.length).filter (fun i => decide ((splitP l).2.getD i 0 < (splitP l).1.length)) = List.range l.length := by
      rw [List.filter_eq_self]
      intro i hi
      exact decide_eq_true (H.on i (List.mem_range.1 hi)).1
    rw [e, List.length_range] at h
    exact h
  · refine hd.2 _ (line_of_pairs (fun i hi => List.mem_range.1 (List.mem_filter.1 hi).1) ?_)
    have hr : ((List.range l.length).filter (fun i => decide ((splitP l).2.getD i 0 = k))).Pairwise (· < ·) := (range_rising _).sublist List.filter_sublist
    refine hr.imp_of_mem ?_
    intro i j hi hj hij
    refine ⟨hij, decide_eq_true ?_⟩
    have h1 : (splitP l).2.getD i 0 = k := of_decide_eq_true (List.mem_filter.1 hi).2
    have h2 : (splitP l).2.getD j 0 = k := of_decide_eq_true (List.mem_filter.1 hj).2
    by_cases hlt : l.getD i 0 < l.getD j 0
    · have := H.up i j hij (List.mem_range.1 (List.mem_filter.1 hj).1) hlt
      omega
    · omega

/-! ### A row from behind -/
theorem line_behind {f g : Nat → Nat → Bool} {n : Nat} (hfg : ∀ i j, i < j → j < n → f i j = true → g (n - 1 - j) (n - 1 - i) = true) : ∀ {c : List Nat}, Line f n c → Line g n (c.map (fun i => n - 1 - i)).reverse
  | [], _ => trivial
  | i :: c, h => by
    rw [List.map_cons, List.reverse_cons]
    have hi := h.head
    refine line_append (line_behind hfg h.tail) (by omega) (fun k hk => ?_)
    rw [List.getLast?_reverse, List.head?_map] at hk
    cases c with
    | nil => simp at hk
    | cons j c =>
      simp only [List.head?_cons, Option.map_some, Option.some.injEq] at hk
      subst hk
      have hj := h.tail.head
      obtain ⟨h1, h2⟩ := h.two
      exact ⟨by omega, hfg i j h1 hj h2⟩
theorem longest_behind {f g : Nat → Nat → Bool} {n m : Nat} (h1 : ∀ i j, i < j → j < n → f i j = true → g (n - 1 - j) (n - 1 - i) = true) (h2 : ∀ i j, i < j → j < n → g i j = true → f (n - 1 - j) (n - 1 - i) = true) (h : Longest f n m) : Longest g n m := by
  obtain ⟨⟨c, c1, c2⟩, c3⟩ := h
  refine ⟨⟨_, line_behind h1 c1, by simp [c2]⟩, fun d hd => ?_⟩
  have := c3 _ (line_behind h2 hd)
  simpa using this
theorem getD_reverse {l : List Int} {i : Nat} (h : i < l.length) : l.reverse.getD i 0 = l.getD (l.length - 1 - i) 0 := by
  rw [List.getD_eq_getElem?_getD, List.getD_eq_getElem?_getD, List.getElem?_reverse h]
/-- From behind, and below nought, what rose rises. -/
theorem longest_back {l b : List Int} {m : Nat} (hb : b.length = l.length) (he : ∀ i, i < l.length → b.getD i 0 = -1 - l.getD (l.length - 1 - i) 0) (h : Longest (upF l) l.length m) : Longest (upF b) b.length m := by
  rw [hb]
  refine longest_behind (fun i j h1 h2 h3 => ?_) (fun i j h1 h2 h3 => ?_) h
  · have h4 : l.getD i 0 < l.getD j 0 := of_decide_eq_true h3
    refine decide_eq_true ?_
    rw [he _ (by omega), he _ (by omega), show l.length - 1 - (l.length - 1 - j) = j by omega, show l.length - 1 - (l.length - 1 - i) = i by omega]
    omega
  · have h4 : b.getD i 0 < b.getD j 0 := of_decide_eq_true h3
    rw [he _ (by omega), he _ (by omega)] at h4
    refine decide_eq_true ?_
    omega

/-! ### A number more -/
theorem longest_more {f g : Nat → Nat → Bool} {n a b : Nat} (hfg : ∀ i j, i < j → j < n → f i j = g i j) (ha : Longest f n a) (hb : Longest g (n + 1) b) : a ≤ b ∧ b ≤ a + 1 := by
  constructor
  · obtain ⟨c, c1, c2⟩ := ha.1
    have h := hb.2 c (c1.law (fun i hi => by have := c1.lt i hi; omega) (fun i hi j hj hij h => by rw [← hfg i j hij (c1.lt j hj)]; exact h))
    omega
  · obtain ⟨c, c1, c2⟩ := hb.1
    rcases List.eq_nil_or_concat c with rfl | ⟨d, k, rfl⟩
    · simp at c2; omega
    · rw [List.concat_eq_append] at c1 c2
      have hr := c1.rising
      have hk := c1.lt k (by simp)
      have hlt : ∀ i ∈ d, i < n := fun i hi => by
        have := (List.pairwise_append.1 hr).2.2 i hi k (by simp)
        omega
      have hd : Line g (n + 1) d := by
        have : ∀ (d : List Nat), Line g (n + 1) (d ++ [k]) → Line g (n + 1) d := by
          intro d
          induction d with
          | nil => intro _; trivial
          | cons i d ih =>
            intro h
            refine ⟨h.head, fun j hj => ?_, ih h.tail⟩
            refine h.2.1 j ?_
            cases d with
            | nil => simp at hj
            | cons u d => simpa using hj
        exact this d c1
      have h := ha.2 d (hd.law hlt (fun i hi j hj hij h => by rw [hfg i j hij (hlt j hj)]; exact h))
      rw [List.length_append] at c2
      simp at c2
      omega
theorem upF_more (l : List Int) (x : Int) {i j : Nat} (hi : i < l.length) (hj : j < l.length) : upF l i j = upF (l ++ [x]) i j := by
  unfold upF
  rw [getD_front l x 0 hi, getD_front l x 0 hj]
theorem downF_more (l : List Int) (x : Int) {i j : Nat} (hi : i < l.length) (hj : j < l.length) : downF l i j = downF (l ++ [x]) i j := by
  unfold downF
  rw [getD_front l x 0 hi, getD_front l x 0 hj]

/-! ### SCHENSTED: the first row -/
theorem tin_first (T : List (List Int)) (x : Int) : (tin T x).1.getD 0 [] = (rin x (T.getD 0 [])).1 := by
  cases T with
  | nil => rfl
  | cons row T =>
    rw [tin]
    cases (rin x row).2 <;> rfl
theorem first_row (l : List Int) : (PT l).getD 0 [] = (splitP l).1 := by
  induction l using snoc_ind with
  | h0 => rfl
  | h1 l x ih => rw [PT_snoc, tin_first, ih, split_snoc]
theorem down_behind {l : List Int} (hd : l.Nodup) {m : Nat} (h : Longest (upF l.reverse) l.length m) : Longest (downF l) l.length m := by
  refine longest_behind (fun i j h1 h2 h3 => ?_) (fun i j h1 h2 h3 => ?_) h
  · have h4 : l.reverse.getD i 0 < l.reverse.getD j 0 := of_decide_eq_true h3
    rw [getD_reverse (by omega), getD_reverse (by omega)] at h4
    exact decide_eq_true (by omega)
  · have h4 : l.getD j 0 ≤ l.getD i 0 := of_decide_eq_true h3
    have h5 : l.getD i 0 ≠ l.getD j 0 := by
      rw [List.getD_eq_getElem?_getD, List.getD_eq_getElem?_getD, List.getElem?_eq_getElem (by omega), List.getElem?_eq_getElem h2]
      intro e
      exact absurd ((List.getElem_inj hd).1 e) (by omega)
    refine decide_eq_true ?_
    rw [getD_reverse (by omega), getD_reverse (by omega), show l.length - 1 - (l.length - 1 - j) = j by omega, show l.length - 1 - (l.length - 1 - i) = i by omega]
    omega
end Go.Proofs.YtmdpfadfimodjaaDoor

/-
  lines.Split (P43).
-/
namespace Go.Proofs.YtmdpfadfimodjaaDoor
open Go.RowKit

/-- On which heap each number lies. -/
def pilesI (xs : List Int) : List Int := (splitP xs).2.map (fun i : Nat => (i : Int))
theorem length_pilesI (xs : List Int) : (pilesI xs).length = xs.length := by rw [pilesI, List.length_map, split_length]
theorem getD_pilesI (xs : List Int) (i : Nat) : (pilesI xs).getD i 0 = (((splitP xs).2.getD i 0 : Nat) : Int) := by
  rw [pilesI, List.getD_eq_getElem?_getD, List.getElem?_map, List.getD_eq_getElem?_getD]
  cases (splitP xs).2[i]? <;> rfl
/-- What Split has after k rounds. -/
def pcells (xs : List Int) (k : Nat) : List Int := pilesI (xs.take k) ++ List.replicate (xs.length - k) 0
theorem pcells_start (xs : List Int) : pcells xs 0 = List.replicate xs.length 0 := by simp [pcells, pilesI, split_nil]
theorem pcells_end (xs : List Int) : pcells xs xs.length = pilesI xs := by simp [pcells]
theorem length_pcells {xs : List Int} {k : Nat} (h : k ≤ xs.length) : (pcells xs k).length = xs.length := by
  rw [pcells, List.length_append, length_pilesI, List.length_take, List.length_replicate]
  omega
theorem pilesI_snoc (l : List Int) (x : Int) : pilesI (l ++ [x]) = pilesI l ++ [((hpl x (splitP l).1 : Nat) : Int)] := by
  rw [pilesI, split_snoc, List.map_append]
  rfl
theorem pcells_step {xs : List Int} {k : Nat} (h : k < xs.length) : (pcells xs k).set k ((hpl (xs.getD k 0) (splitP (xs.take k)).1 : Nat) : Int) = pcells xs (k + 1) := by
  have hl : (pilesI (xs.take k)).length = k := by rw [length_pilesI, List.length_take]; omega
  obtain ⟨r, hr⟩ : ∃ r, xs.length - k = r + 1 := ⟨xs.length - k - 1, by omega⟩
  rw [pcells, pcells, take_snoc h, pilesI_snoc, hr, show xs.length - (k + 1) = r by omega, List.replicate_succ, List.set_append, if_neg (by omega), hl, Nat.sub_self, List.append_assoc]
  rfl
theorem tops_step {xs : List Int} {k : Nat} (h : k < xs.length) : (splitP (xs.take (k + 1))).1 = (rin (xs.getD k 0) (splitP (xs.take k)).1).1 := by
  rw [take_snoc h, split_snoc]
theorem tops_length (l : List Int) : (splitP l).1.length ≤ l.length := (heaps_longest l).le

theorem OwnInts.below_set {w : World} {base g : Nat} {v : Value} {xs : List Int} (h : OwnInts w base v xs) (hg : g < base) (j : Nat) (u : Value) : OwnInts (w.setCell ⟨g, j, none⟩ u) base v xs := by
  refine World.ownsRow.kept h (row := some g) (one_set (one_refl _ _) j u) ?_
  rcases hb : v.ownBlock with _ | k
  · exact .inl rfl
  · right
    have := World.ownsRow.lt h k hb
    intro e
    injection e with e
    omega
theorem OwnInts.frozen' {w : World} {base g n cap : Nat} {xs : List Int} (h : OwnInts w base (.slice (some ⟨g, 0, none⟩) n cap) xs) (hn : n = xs.length) (j : Nat) : w.frozen? ⟨g, j, none⟩ = false := by
  subst hn
  exact World.ownsRow.frozenAt h j

theorem OwnInts.cell' {w : World} {base g n cap : Nat} {xs : List Int} (h : OwnInts w base (.slice (some ⟨g, 0, none⟩) n cap) xs) (hn : n = xs.length) {j : Nat} (hj : j < n) : w.cell? ⟨g, j, none⟩ = some (.int .i64 (xs.getD j 0)) := by
  subst hn
  exact h.cell hj
theorem lsplit_large (A : Option Addr) (n c : Nat) (w : World) (hn : 30 < n) (hm : n ≤ 9223372036854775807) :
    Calls Tryd.prog 18 #[.slice A n c] w fun e w' => e = .returned (.tuple #[.slice none 0 0, .int .i64 2]) ∧ w = w' := by
  go_enter Tryd.func18, Tryd.ntmps18
  go_wp2_with fail
  refine (lcheck_large A n c _ hn hm).mono ?_
  rintro e w1 ⟨rfl, rfl⟩
  go_wp2
  go_ret2
  exact ⟨rfl, rfl⟩

set_option maxHeartbeats 2000000 in
theorem lsplit_own (A : Option Addr) (n c : Nat) (xs : List Int) (w : World) (h : Ints w A n xs) (hn : n ≤ 30) :
    Calls Tryd.prog 18 #[.slice A n c] w (RetOwnE w (pilesI xs) 0) := by
  have hmk : ∀ W : World, (Instr.makeSlice 22 (.int .i64 (n : Int)) (.int .i64 (n : Int))).run Tryd.prog W = .ok (.slice (some ⟨W.heap.size, 0, none⟩) n n) (W.alloc (.cells (madeCells #[.int .i64 0] n) 3)) :=
    fun W => run_make_row' (P := Tryd.prog) 22 3 (.int .i64 0) 8 Tryd.underlying22 infoInt rfl .i64 .i64 n (by omega) (by omega) W
  have HI := hid h
  have HL := hid h.len
  have HA : Hid (Arr (w.alloc (.cells (madeCells #[.int .i64 0] n) 3)) w.heap.size (pcells xs 0)) := by rw [pcells_start, h.len]; exact Arr.made w n
  have HBA := hid (below_alloc w (.cells (madeCells #[.int .i64 0] n) 3))
  have HSZ : Hid (w.heap.size < (w.alloc (.cells (madeCells #[.int .i64 0] n) 3)).heap.size) := by show w.heap.size < _; simp
  clear h
  go_enter Tryd.func18, Tryd.ntmps18
  go_wp2_with fail
  refine (lcheck_ok A n c _ hn).mono ?_
  rintro e w1 ⟨rfl, rfl⟩
  go_wp2_with fail
  clear hmk
  go_loopg [6, 20] n (fun g tv iv wr => ∃ k : Nat, k ≤ n ∧ n - k ≤ g ∧ iv = .int .i64 (k : Int) ∧ Arr wr w.heap.size (pcells xs k) ∧ OwnInts wr (w.heap.size + 1) tv (splitP (xs.take k)).1 ∧ Below w.heap.size w wr ∧ w.heap.size + 1 ≤ wr.heap.size)
  case atStart => exact ⟨0, Nat.zero_le _, by omega, rfl, HA.out, OwnInts.nil _ _, HBA.out, HSZ.out⟩
  case round =>
    clear HA HBA HSZ
    rename_i tv
    obtain ⟨k, hk, hg, rfl, harr, hown, hbel, hsz⟩ := hrel
    by_cases hlt : k < n
    · have hkx : k < xs.length := by rw [HL.out]; exact hlt
      obtain ⟨b, o, hA, hb, hc⟩ := (HI.out.keep hbel).row (by omega)
      have g1 := hc k hlt
      subst hA
      have HAR := hid harr
      have HBE := hid hbel
      have HSZ := hid hsz
      have HPS := hid (pcells_step hkx)
      have HTS := hid (tops_step hkx)
      have HTL := hid (tops_length (xs.take k))
      have HLP := hid (length_pcells (xs := xs) (k := k) (by omega))
      have htl : (splitP (xs.take k)).1.length ≤ 30 := Nat.le_trans HTL.out (by rw [List.length_take]; omega)
      obtain ⟨A2, d, hv, hIT, hCT⟩ := hown.ints
      subst hv
      have HO := hid hown
      have HIT := hid hIT
      have gy := harr.cell (j := k) (by rw [HLP.out]; exact hkx)
      have fk := harr.frozen k
      clear hc hown hIT hCT harr hbel hsz HTL
      generalize (splitP (xs.take k)).1 = T at *
      generalize xs.getD k 0 = x at *
      generalize (pcells xs k).getD k 0 = y0 at gy
      obtain ⟨tl, htl'⟩ : ∃ tl, tl = T.length := ⟨_, rfl⟩
      have HT := hid htl'
      rw [← htl'] at HO HIT htl ⊢
      clear htl'
      have HPL := hid (hpl_le x T)
      rw [← HT.out] at HPL
      have hkI : (k : Int) < (n : Int) := by omega
      have HBF := hid (fun j => @hpl_before x T j)
      by_cases hcase : hpl x T < tl
      · have HTH := hid (hpl_there (x := x) (T := T) (by rw [← HT.out]; exact hcase))
        have HRS := hid (rin_set (x := x) (T := T) (by rw [← HT.out]; exact hcase))
        obtain ⟨g', cap, hv, hgb, hglt, hcap⟩ := HO.out.form (by rw [← HT.out]; omega)
        rw [← HT.out] at hv hcap
        injection hv with hv1 hv2 hv3
        subst hv1
        subst hv3
        have HC := hid (fun j (hj : j < T.length) => (by have := HO.out; rw [HT.out] at this; exact this.cell hj : wr.cell? ⟨g', j, none⟩ = some (.int .i64 (T.getD j 0))))
        have hcap' : tl ≤ d := hcap
        generalize hp : hpl x T = p at *
        have HPP := hid hp
        clear hp
        go_wp2_with fail
        obtain ⟨w8, hw8⟩ : ∃ w8, w8 = wr := ⟨_, rfl⟩
        rw [← hw8] at HO HIT HC HAR HBE HSZ gy fk hglt hb g1 ⊢
        clear hw8
        go_loopg [9] p (fun g jv wq => ∃ j : Nat, j ≤ p ∧ p - j ≤ g ∧ jv = .int .i64 (j : Int) ∧ w8 = wq)
        case atStart => exact ⟨0, Nat.zero_le _, by omega, rfl, rfl⟩
        case round =>
          obtain ⟨j, hj, hg2, rfl, rfl⟩ := hrel
          by_cases hjp : j < p
          · have g2 := HC.out j (by rw [← HT.out]; omega)
            have h2 := HBF.out j hjp
            have hd : decide (T.getD j 0 < x) = true := decide_eq_true h2
            have hjt : (j : Int) < (tl : Int) := by omega
            generalize T.getD j 0 = y at *
            go_wp2
            go_roundg (p - (j + 1))
            case measure => omega
            case rel => exact ⟨j + 1, by omega, by omega, by go_num, rfl⟩
          · obtain rfl : j = p := by omega
            have g2 := HC.out j (by rw [← HT.out]; omega)
            have h2 := HTH.out
            have hd : decide (T.getD j 0 < x) = false := decide_eq_false (by omega)
            have hjt : (j : Int) < (tl : Int) := by omega
            have f2 := HO.out.frozen' HT.out j
            have hne : ((j : Int) == (tl : Int)) = false := by simp; omega
            have HAR2 := hid (HAR.out.setOther (a := ⟨g', j, none⟩) (by show w.heap.size ≠ g'; omega) (.int .i64 x))
            have gy2 := HAR2.out.cell (j := k) (by rw [HLP.out, HL.out]; exact hlt)
            have fk2 := HAR2.out.frozen k
            have HO2 := hid ((HO.out.set HT.out j x).below_set (g := w.heap.size) (by omega) k (.int .i64 (j : Int)))
            have HA3 := hid (HAR2.out.set k (j : Int))
            have HB3 : Hid (Below w.heap.size w ((w8.setCell ⟨g', j, none⟩ (.int .i64 x)).setCell ⟨w.heap.size, k, none⟩ (.int .i64 (j : Int)))) :=
              below_one (below_one HBE.out (by omega) HBE.out.size (one_set (one_refl _ _) _ _)) (Nat.le_refl _) (by simpa [World.setCell] using HBE.out.size) (one_set (one_refl _ _) _ _)
            have HS3 := hid (by simpa [World.setCell] using HSZ.out : w.heap.size + 1 ≤ ((w8.setCell ⟨g', j, none⟩ (.int .i64 x)).setCell ⟨w.heap.size, k, none⟩ (.int .i64 (j : Int))).heap.size)
            generalize T.getD j 0 = y at *
            generalize (pcells xs k).getD k 0 = y1 at *
            go_wp2
            go_roundg (n - (k + 1))
            case measure => omega
            case rel =>
              refine ⟨k + 1, by omega, by omega, by go_num, ?_, ?_, HB3.out, HS3.out⟩
              · rw [← HPS.out]; exact HA3.out
              · rw [HTS.out, HRS.out]; exact HO2.out
      · have HRA := hid (rin_app (x := x) (T := T) (by rw [← HT.out]; have := HPL.out; omega))
        have HPT : Hid (hpl x T = tl) := Nat.le_antisymm HPL.out (by omega)
        have HC := hid (fun j (hj : j < tl) => HIT.out.row (by omega))
        have HCI : Hid (∀ j, j < tl → ∃ b2 o2, A2 = some ⟨b2, o2, none⟩ ∧ wr.cell? ⟨b2, o2 + j, none⟩ = some (.int .i64 (T.getD j 0))) := by
          intro j hj
          obtain ⟨b2, o2, e, _, hc2⟩ := HIT.out.row (by omega)
          exact ⟨b2, o2, e, hc2 j hj⟩
        rw [HPT.out] at HPS HBF
        clear hcase HPL HC
        go_wp2_with fail
        obtain ⟨w8, hw8⟩ : ∃ w8, w8 = wr := ⟨_, rfl⟩
        rw [← hw8] at HO HIT HCI HAR HBE HSZ gy fk hb g1 ⊢
        clear hw8
        go_loopg [9] tl (fun g jv wq => ∃ j : Nat, j ≤ tl ∧ tl - j ≤ g ∧ jv = .int .i64 (j : Int) ∧ w8 = wq)
        case atStart => exact ⟨0, Nat.zero_le _, by omega, rfl, rfl⟩
        case round =>
          obtain ⟨j, hj, hg2, rfl, rfl⟩ := hrel
          by_cases hjp : j < tl
          · obtain ⟨b2, o2, rfl, g2⟩ := HCI.out j hjp
            have h2 := HBF.out j hjp
            have hd : decide (T.getD j 0 < x) = true := decide_eq_true h2
            have hjt : (j : Int) < (tl : Int) := by omega
            generalize T.getD j 0 = y at *
            go_wp2
            go_roundg (tl - (j + 1))
            case measure => omega
            case rel => exact ⟨j + 1, by omega, by omega, by go_num, rfl⟩
          · obtain rfl : j = tl := by omega
            have hee : ((j : Int) == (j : Int)) = true := by simp
            have hdd : decide ((j : Int) < (j : Int)) = false := by simp
            go_wp2_with (first
              | (at_builtin; refine wpList_app1 _ rfl (.tmp 43) (.tmp 45) rfl (w.heap.size + 1) _ T x rfl rfl HO.out (by rw [← HT.out]; omega) HSZ.out ?_)
              | go_quiet (fail))
            intro v' w1 hown1 _ hbel1
            obtain ⟨g', cap, hv, hgb, hglt, hcap⟩ := hown1.form (by simp)
            have hlen : (T ++ [x]).length = j + 1 := by rw [List.length_append, ← HT.out]; rfl
            rw [hlen] at hv hcap
            subst hv
            have HO1 := hid hown1
            have g2 := OwnInts.cell' hown1 hlen.symm (j := j) (by omega)
            rw [getD_back T x 0 HT.out] at g2
            have f2 := HO1.out.frozen' hlen.symm j
            have HAR1 := hid (HAR.out.of_block (hbel1.block w.heap.size (by omega)))
            have HBE1 := hid (HBE.out.trans (hbel1.mono (by omega)))
            have HS1 := hid (Nat.le_trans HSZ.out hbel1.size)
            have HAR2 := hid (HAR1.out.setOther (a := ⟨g', j, none⟩) (by show w.heap.size ≠ g'; omega) (.int .i64 x))
            have gy2 := HAR2.out.cell (j := k) (by rw [HLP.out, HL.out]; exact hlt)
            have fk2 := HAR2.out.frozen k
            have HO2 := hid ((HO1.out.set hlen.symm j x).below_set (g := w.heap.size) (by omega) k (.int .i64 (j : Int)))
            have HA3 := hid (HAR2.out.set k (j : Int))
            have HB3 : Hid (Below w.heap.size w ((w1.setCell ⟨g', j, none⟩ (.int .i64 x)).setCell ⟨w.heap.size, k, none⟩ (.int .i64 (j : Int)))) :=
              below_one (below_one HBE1.out (by omega) HBE1.out.size (one_set (one_refl _ _) _ _)) (Nat.le_refl _) (by simpa [World.setCell] using HBE1.out.size) (one_set (one_refl _ _) _ _)
            have HS3 := hid (by simpa [World.setCell] using HS1.out : w.heap.size + 1 ≤ ((w1.setCell ⟨g', j, none⟩ (.int .i64 x)).setCell ⟨w.heap.size, k, none⟩ (.int .i64 (j : Int))).heap.size)
            have HSS : Hid ((T ++ [x]).set j x = T ++ [x]) := by
              have e : T.length = j := HT.out.symm
              exact show (T ++ [x]).set j x = T ++ [x] by rw [List.set_append, if_neg (by omega), e, Nat.sub_self]; rfl
            have hjI : (j : Int) < (j : Int) + 1 := by omega
            clear hown1 hbel1 hlen gy fk g1
            generalize (pcells xs k).getD k 0 = y1 at *
            go_wp2
            go_roundg (n - (k + 1))
            case measure => omega
            case rel =>
              refine ⟨k + 1, by omega, by omega, by go_num, ?_, ?_, HB3.out, HS3.out⟩
              · rw [← HPS.out]; exact HA3.out
              · rw [HTS.out, HRA.out, ← HSS.out]; exact HO2.out
    · obtain rfl : k = n := by omega
      have HAE : Hid (OwnInts wr w.heap.size (.slice (some ⟨w.heap.size, 0, none⟩) k k) (pilesI xs)) := by
        have e := harr
        rw [← HL.out, pcells_end] at e
        have h2 := own_of_rowIs (base := w.heap.size) e rfl (fun j _ => rfl) (Nat.le_refl _) (by unfold maxLen; rw [length_pilesI, HL.out]; omega)
        rw [length_pilesI, HL.out] at h2
        exact h2
      have HBE := hid hbel
      clear harr hown hbel hsz
      go_wp2
      go_ret2
      exact ⟨_, rfl, HAE.out, HBE.out⟩
theorem lsplit_ok (A : Option Addr) (n c : Nat) (xs : List Int) (w : World) (h : Ints w A n xs) (hn : n ≤ 30) :
    Calls Tryd.prog 18 #[.slice A n c] w (RetInts w (pilesI xs) 0) := by
  refine (lsplit_own A n c xs w h hn).mono ?_
  rintro e w' ⟨v, rfl, ho, hbel⟩
  obtain ⟨A', c', rfl, hI, hc⟩ := ho.ints
  exact ⟨_, _, _, rfl, hbel, hI, hc⟩

end Go.Proofs.YtmdpfadfimodjaaDoor

/-
  blocks.Of.
-/
namespace Go.Proofs.YtmdpfadfimodjaaDoor
open Go.RowKit

set_option maxHeartbeats 400000 in
theorem bof_large (A : Option Addr) (n c : Nat) (w : World) (hn : 10 < n) (hm : n ≤ 9223372036854775807) :
    Calls Tryd.prog 19 #[.slice A n c] w fun e w' => e = .returned (.tuple #[.slice none 0 0, .int .i64 2]) ∧ w = w' := by
  go_enter Tryd.func19, Tryd.ntmps19
  go_wp2
  go_ret2
  exact ⟨rfl, rfl⟩

set_option maxHeartbeats 1600000 in
theorem bof_own (A : Option Addr) (n c : Nat) (xs : List Int) (w : World) (h : Ints w A n xs) (hn : n ≤ 10) :
    Calls Tryd.prog 19 #[.slice A n c] w (RetOwnE w (ofL xs) 0) := by
  have hmk : ∀ W : World, (Instr.makeSlice 22 (.int .i64 (n : Int)) (.int .i64 (n : Int))).run Tryd.prog W = .ok (.slice (some ⟨W.heap.size, 0, none⟩) n n) (W.alloc (.cells (madeCells #[.int .i64 0] n) 3)) :=
    fun W => run_make_row' (P := Tryd.prog) 22 3 (.int .i64 0) 8 Tryd.underlying22 infoInt rfl .i64 .i64 n (by omega) (by omega) W
  have HMD := hid (World.rowIs_made w (.int .i64 0) n 3)
  have h10 : decide (10 < (n : Int)) = false := by simp; omega
  have HL := hid h.len
  have HI := hid h
  clear h
  go_enter Tryd.func19, Tryd.ntmps19
  go_wp2_with fail
  clear hmk h10
  go_loopg [5, 17] n (fun g u s wr => ∃ k : Nat, k ≤ n ∧ n - k ≤ g ∧ u = .int .i64 ((nf xs k : Nat) : Int) ∧ s = .int .i64 k ∧ wr.rowIs w.heap.size 3 n (partCell (ofL xs) k) ∧ Below w.heap.size w wr)
  case atStart => exact ⟨0, Nat.zero_le _, by omega, rfl, rfl, HMD.out.congr (fun j _ => by unfold partCell; rw [if_neg (Nat.not_lt_zero _)]), (Below.refl _ _).alloc (Nat.le_refl _) _⟩
  case round =>
    obtain ⟨k, hk, hg, rfl, rfl, hrow, hbel⟩ := hrel
    have HR := hid hrow
    have HB := hid hbel
    clear hrow hbel HMD
    by_cases hlt : k < n
    · have hkx : k < xs.length := by rw [HL.out]; exact hlt
      obtain ⟨b, o, hA, hb, hc⟩ := (HI.out.keep HB.out).row (by omega)
      have g1 := hc k hlt
      have HF := hid (ix_first hkx)
      have HLE := hid (ix_le hkx)
      have HGO := hid (getD_ofL hkx)
      have HNF := hid (nf_le xs k)
      have HIX := hid (ix_ix hkx)
      have HGI := hid (fun h => getD_ofL (l := xs) (i := ix xs k) h)
      have hfr : wr.frozen? ⟨w.heap.size, k, none⟩ = false := HR.out.frozen k
      have gk1 : wr.cell? ⟨w.heap.size, k, none⟩ = some (partCell (ofL xs) k k) := HR.out.cell hlt
      have HI2 := hid (HI.out.keep HB.out)
      have HM := hid (getD_mem hkx)
      have hnf := nf_le xs k
      subst hA
      clear hc hkx
      generalize hx : xs.getD k 0 = x at *
      by_cases hnew : ix xs k = k
      · have HW := hid ((HR.out.set k (.int .i64 ((ofL xs).getD k 0))).congr (fun j _ => partCell_step (ofL xs) k j))
        have HN := hid (nf_new hnew)
        rw [HGO.out, hnew] at HW
        have HNEW := hid hnew
        have hx' := hid hx
        clear hx hnew
        generalize nf xs k = y at *
        go_wp2_with fail
        refine (index_any _ n c xs x _ HI2.out (by omega)).mono ?_
        rintro e w' ⟨r, rfl, _, rfl, hr⟩
        obtain ⟨r', rfl, hfst⟩ := hr HM.out
        have hrk : r' = k := (hfst.only HF.out).trans HNEW.out
        subst hrk
        clear hr hfst
        have hkk : ¬ (r' : Int) < (r' : Int) := by omega
        go_wp2
        go_roundg (n - (r' + 1))
        case measure => omega
        case rel => exact ⟨r' + 1, by omega, by omega, by rw [HN.out]; go_num, by go_num, HW.out, HB.out.setCell (Nat.le_refl _) _⟩
      · have hle := HLE.out
        have HW := hid ((HR.out.set k (.int .i64 ((ofL xs).getD k 0))).congr (fun j _ => partCell_step (ofL xs) k j))
        have HN := hid (nf_old hnew)
        have gi : wr.cell? ⟨w.heap.size, ix xs k, none⟩ = some (.int .i64 ((nf xs (ix xs k) : Nat) : Int)) := by
          rw [HR.out.cell (by omega)]
          unfold partCell
          rw [if_pos (by omega), HGI.out (by rw [HL.out]; omega), HIX.out]
        rw [HGO.out] at HW
        have hilt : ((ix xs k : Nat) : Int) < (k : Int) := by omega
        have hix := hid HF.out
        clear HGO HGI HIX
        generalize nf xs (ix xs k) = z at *
        generalize ix xs k = i at *
        have hx' := hid hx
        clear hx
        generalize nf xs k = y at *
        go_wp2_with fail
        refine (index_any _ n c xs x _ HI2.out (by omega)).mono ?_
        rintro e w' ⟨r, rfl, _, rfl, hr⟩
        obtain ⟨r', rfl, hfst⟩ := hr HM.out
        have hrk : r' = i := hfst.only hix.out
        subst hrk
        clear hr hfst
        go_wp2
        go_roundg (n - (k + 1))
        case measure => omega
        case rel => exact ⟨k + 1, by omega, by omega, by rw [HN.out], by go_num, HW.out, HB.out.setCell (Nat.le_refl _) _⟩
    · have hkn : k = n := by omega
      subst hkn
      go_wp2
      go_ret2
      refine ⟨_, rfl, own_of_rowIs HR.out (by rw [length_ofL]; exact HL.out) (fun j hj => ?_) (Nat.le_refl _) (by unfold maxLen; omega), HB.out⟩
      unfold partCell
      rw [if_pos hj]
theorem bof_ok (A : Option Addr) (n c : Nat) (xs : List Int) (w : World) (h : Ints w A n xs) (hn : n ≤ 10) :
    Calls Tryd.prog 19 #[.slice A n c] w (RetInts w (ofL xs) 0) := by
  refine (bof_own A n c xs w h hn).mono ?_
  rintro e w' ⟨v, rfl, ho, hbel⟩
  obtain ⟨A', c', rfl, hI, hc⟩ := ho.ints
  exact ⟨_, _, _, rfl, hbel, hI, hc⟩

end Go.Proofs.YtmdpfadfimodjaaDoor

/-
  blocks.Check, blocks.lastToGrow; the verifier's castref.HeapsErr.
-/
namespace Go.Proofs.YtmdpfadfimodjaaDoor
open Go.RowKit

set_option maxHeartbeats 400000 in
theorem bcheck_large (A : Option Addr) (n c : Nat) (w : World) (hn : 10 < n) (hm : n ≤ 9223372036854775807) :
    Calls Tryd.prog 43 #[.slice A n c] w fun e w' => e = .returned (.int .i64 2) ∧ w = w' := by
  go_enter Tryd.func43, Tryd.ntmps43
  go_wp2
  go_ret
  exact ⟨rfl, rfl⟩

set_option maxHeartbeats 800000 in
theorem bcheck_small (A : Option Addr) (n c : Nat) (xs : List Int) (w : World) (h : Ints w A n xs) (hn : n ≤ 10) :
    Calls Tryd.prog 43 #[.slice A n c] w fun e w' => e = .returned (.int .i64 (heapErr xs)) ∧ w = w' := by
  have h10 : decide (10 < (n : Int)) = false := by simp; omega
  have HL := hid h.len
  go_enter Tryd.func43, Tryd.ntmps43
  go_wp2
  go_loopg [3, 11] n (fun g u s wr => ∃ k : Nat, k ≤ n ∧ n - k ≤ g ∧ u = .int .i64 ((bk (xs.take k) : Nat) : Int) ∧ s = .int .i64 k ∧ w = wr ∧ RgsTo xs k)
  case atStart => exact ⟨0, Nat.zero_le _, by omega, rfl, rfl, rfl, fun j hj => absurd hj (Nat.not_lt_zero _)⟩
  case round =>
    obtain ⟨k, hk, hg, rfl, rfl, rfl, hr⟩ := hrel
    have HR := hid hr
    clear hr
    by_cases hlt : k < n
    · obtain ⟨b, o, rfl, hb, hc⟩ := h.row (by omega)
      have g1 := hc k hlt
      have hbl := bk_le xs k
      have HN := hid (bk_take (g := xs) (k := k) (by rw [HL.out]; exact hlt))
      have HNO : Hid (¬ (0 ≤ xs.getD k 0 ∧ xs.getD k 0 ≤ ((bk (xs.take k) : Nat) : Int)) → heapErr xs = 3) := fun hb => heapErr_form (by rw [HL.out]; exact hn) (fun hh => hb (hh k (by rw [HL.out]; exact hlt)))
      have HY : Hid (0 ≤ xs.getD k 0 → xs.getD k 0 ≤ ((bk (xs.take k) : Nat) : Int) → RgsTo xs (k + 1)) := fun h1 h2 => HR.out.succ h1 h2
      clear hc h HR
      generalize xs.getD k 0 = x at g1 HN HNO HY
      generalize hB : bk (xs.take k) = B at *
      have HB := hid hB
      clear hB
      by_cases h1 : x < 0
      · go_wp2
        go_ret
        exact ⟨ret_int (HNO.out (by omega)).symm, rfl⟩
      · by_cases h2 : (B : Int) < x
        · go_wp2
          go_ret
          exact ⟨ret_int (HNO.out (by omega)).symm, rfl⟩
        · by_cases h3 : x = (B : Int)
          · have h3' : (x == (B : Int)) = true := by simpa using h3
            have HN2 : Hid (bk (xs.take (k + 1)) = B + 1) := by rw [HN.out, if_pos h3]; exact rfl
            have HY2 := hid (HY.out (by omega) (by omega))
            clear h3 HN HY
            go_wp2
            go_roundg (n - (k + 1))
            case measure => omega
            case rel => exact ⟨k + 1, by omega, by omega, by rw [HN2.out]; go_num, by go_num, rfl, HY2.out⟩
          · have h3' : (x == (B : Int)) = false := by simpa using h3
            go_wp2
            go_roundg (n - (k + 1))
            case measure => omega
            case rel => exact ⟨k + 1, by omega, by omega, by rw [HN.out, if_neg h3], by go_num, rfl, HY.out (by omega) (by omega)⟩
    · have hkn : k = n := by omega
      subst hkn
      go_wp2
      go_ret
      exact ⟨ret_int (heapErr_ok (by rw [HL.out]; exact hn) (by unfold Rgs; rw [HL.out]; exact HR.out)).symm, rfl⟩

theorem bcheck_any (A : Option Addr) (n c : Nat) (xs : List Int) (w : World) (h : Ints w A n xs) (hm : n ≤ 9223372036854775807) :
    Calls Tryd.prog 43 #[.slice A n c] w fun e w' => e = .returned (.int .i64 (heapErr xs)) ∧ w = w' := by
  by_cases hn : 10 < n
  · refine (bcheck_large A n c w hn hm).mono ?_
    rintro e w' ⟨rfl, rfl⟩
    rw [heapErr_large (by rw [h.len]; exact hn)]
    exact ⟨rfl, rfl⟩
  · exact bcheck_small A n c xs w h (by omega)

set_option maxHeartbeats 800000 in
theorem lastToGrow_any (A : Option Addr) (n c : Nat) (xs : List Int) (w : World) (h : Ints w A n xs) (hn : n ≤ 10) (hr : Rgs xs) :
    Calls Tryd.prog 44 #[.slice A n c] w fun e w' => e = .returned (.int .i64 (ltg xs n)) ∧ w = w' := by
  have HL := hid h.len
  have HR := hid hr
  clear hr
  go_enter Tryd.func44, Tryd.ntmps44
  go_wp2
  go_loopg [3, 4, 9] n (fun g v u s wr => ∃ k : Nat, k ≤ n ∧ n - k ≤ g ∧ v = .int .i64 (ltg xs k) ∧ u = .int .i64 ((bk (xs.take k) : Nat) : Int) ∧ s = .int .i64 k ∧ w = wr)
  case atStart => exact ⟨0, Nat.zero_le _, by omega, rfl, rfl, rfl, rfl⟩
  case round =>
    obtain ⟨k, hk, hg, rfl, rfl, rfl, rfl⟩ := hrel
    by_cases hlt : k < n
    · obtain ⟨b, o, rfl, hb, hc⟩ := h.row (by omega)
      have g1 := hc k hlt
      have hbl := bk_le xs k
      have HN := hid (bk_take (g := xs) (k := k) (by rw [HL.out]; exact hlt))
      have hx := HR.out k (by rw [HL.out]; exact hlt)
      have HY := hid (@ltg_yes xs k)
      have HNO := hid (@ltg_no xs k)
      have hbd := ltg_bd xs k
      clear hc h
      generalize xs.getD k 0 = x at *
      generalize hB : bk (xs.take k) = B at *
      have HB := hid hB
      clear hB
      generalize hT : ltg xs k = T at *
      have HT := hid hT
      clear hT
      by_cases h2 : x < (B : Int)
      · go_wp2
        go_roundg (n - (k + 1))
        case measure => omega
        case rel => exact ⟨k + 1, by omega, by omega, by rw [HY.out h2], by rw [HN.out, if_neg (by omega)], by go_num, rfl⟩
      · go_wp2
        go_roundg (n - (k + 1))
        case measure => omega
        case rel => exact ⟨k + 1, by omega, by omega, by rw [HNO.out h2], by rw [HN.out, if_pos (by omega)]; go_num, by go_num, rfl⟩
    · have hkn : k = n := by omega
      subst hkn
      go_wp2
      go_ret
      exact ⟨rfl, rfl⟩

end Go.Proofs.YtmdpfadfimodjaaDoor

/-
  blocks.Next, blocks.Of.
-/
namespace Go.Proofs.YtmdpfadfimodjaaDoor
open Go.RowKit

theorem OwnInts.sets {base g n cap : Nat} : ∀ {ys : List Int} {w : World} {xs : List Int} {o : Nat}, OwnInts w base (.slice (some ⟨g, 0, none⟩) n cap) xs → n = xs.length → o + ys.length ≤ xs.length →
    OwnInts (w.setCells g o (ys.map (Value.int .i64))) base (.slice (some ⟨g, 0, none⟩) n cap) (xs.take o ++ ys ++ xs.drop (o + ys.length))
  | [], w, xs, o, h, _, _ => by simpa [World.setCells] using h
  | y :: ys, w, xs, o, h, hn, hl => by
    rw [List.length_cons] at hl
    have ih := OwnInts.sets (ys := ys) (o := o + 1) (h.set hn o y) (by rw [List.length_set]; exact hn) (by rw [List.length_set]; omega)
    rw [List.map_cons, World.setCells]
    have e : (xs.set o y).take (o + 1) ++ ys ++ (xs.set o y).drop (o + 1 + ys.length) = xs.take o ++ (y :: ys) ++ xs.drop (o + (y :: ys).length) := by
      rw [take_snoc (by rw [List.length_set]; omega), getD_set, if_pos ⟨rfl, by omega⟩, List.take_set_of_le (by omega), List.drop_set_of_lt (by omega), List.length_cons]
      simp [Nat.add_assoc, Nat.add_comm 1]
    rw [← e]
    exact ih
theorem below_sets {B g : Nat} {a : World} (hg : B ≤ g) : ∀ {vs : List Value} {w : World} {o : Nat}, Below B a w → Below B a (w.setCells g o vs)
  | [], _, _, h => h
  | v :: vs, _, _, h => below_sets hg (vs := vs) (h.setCell hg v)
theorem nextL_of {xs : List Int} {L : Nat} (h : L < xs.length) :
    (xs.set L (xs.getD L 0 + 1)).take (L + 1) ++ List.replicate (xs.length - (L + 1)) 0 ++ (xs.set L (xs.getD L 0 + 1)).drop (L + 1 + (List.replicate (xs.length - (L + 1)) (0 : Int)).length) = nextL xs L := by
  rw [List.drop_of_length_le (by rw [List.length_set, List.length_replicate]; omega), List.append_nil, take_snoc (by rw [List.length_set]; exact h), getD_set, if_pos ⟨rfl, h⟩, List.take_set_of_le (by omega)]
  rfl

theorem run_clear_none (A : Option Addr) (c : Nat) (ty : TypeId) (w : World) : (Builtin.clear_ #[22] ty #[.slice A 0 c]).run Tryd.prog w = .ok (.tuple #[]) w := by
  cases A <;> simp [Builtin.clear_, run_underlying Tryd.underlying22]

set_option maxHeartbeats 400000 in
theorem bnext_bad (A : Option Addr) (n c : Nat) (xs : List Int) (w : World) (h : Ints w A n xs) (hm : n ≤ 9223372036854775807) (he : heapErr xs ≠ 0) :
    Calls Tryd.prog 20 #[.slice A n c] w fun e w' => e = .returned (.tuple #[.slice none 0 0, .int .i64 (heapErr xs)]) ∧ w = w' := by
  have H := hid (bcheck_any A n c xs w h hm)
  clear h
  generalize heapErr xs = er at *
  have hne : (er != 0) = true := by simpa using he
  go_enter Tryd.func20, Tryd.ntmps20
  go_wp2_with fail
  refine H.out.mono ?_
  rintro e w' ⟨rfl, rfl⟩
  go_wp2
  go_ret2
  exact ⟨rfl, rfl⟩

set_option maxHeartbeats 400000 in
theorem bnext_none (A : Option Addr) (n c : Nat) (xs : List Int) (w : World) (h : Ints w A n xs) (hn : n ≤ 10) (hr : Rgs xs) (hl : ltg xs n < 0) :
    Calls Tryd.prog 20 #[.slice A n c] w fun e w' => e = .returned (.tuple #[.slice none 0 0, .int .i64 4]) ∧ w = w' := by
  have H1 := hid (bcheck_any A n c xs w h (by omega))
  rw [heapErr_ok (by rw [h.len]; exact hn) hr] at H1
  have H2 := hid (lastToGrow_any A n c xs w h hn hr)
  generalize ltg xs n = L at *
  clear h hr
  go_enter Tryd.func20, Tryd.ntmps20
  go_wp2_with fail
  refine H1.out.mono ?_
  rintro e w' ⟨rfl, rfl⟩
  go_wp2_with fail
  refine H2.out.mono ?_
  rintro e w' ⟨rfl, rfl⟩
  go_wp2
  go_ret2
  exact ⟨rfl, rfl⟩

/-- The same, in memory of the call's own. -/
def RetNewO (w : World) (n : Nat) (ys : List Int) (er : Int) (e : Ending) (w' : World) : Prop :=
  ∃ g c, e = .returned (.tuple #[.slice (some ⟨g, 0, none⟩) n c, .int .i64 er]) ∧ w.heap.size ≤ g ∧ Below w.heap.size w w' ∧ OwnInts w' w.heap.size (.slice (some ⟨g, 0, none⟩) n c) ys

/-- A list in new memory, and an error, come back. -/
def RetNew (w : World) (n : Nat) (ys : List Int) (er : Int) (e : Ending) (w' : World) : Prop :=
  ∃ g c, e = .returned (.tuple #[.slice (some ⟨g, 0, none⟩) n c, .int .i64 er]) ∧ w.heap.size ≤ g ∧ Below w.heap.size w w' ∧ Ints w' (some ⟨g, 0, none⟩) n ys ∧ Cap n c

set_option maxHeartbeats 1600000 in
theorem bnext_mine (A : Option Addr) (n c L : Nat) (xs : List Int) (w : World) (h : Ints w A n xs) (hn : n ≤ 10) (hr : Rgs xs) (hl : ltg xs n = (L : Int)) :
    Calls Tryd.prog 20 #[.slice A n c] w (RetNewO w n (nextL xs L) 0) := by
  have H1 := hid (bcheck_any A n c xs w h (by omega))
  rw [heapErr_ok (by rw [h.len]; exact hn) hr] at H1
  have H2 := hid (lastToGrow_any A n c xs w h hn hr)
  rw [hl] at H2
  have HC := hid (clone_any A n c xs w h (by omega))
  have hL := (ltg_some hl).1
  have hxL := (ltg_some hl).2.1
  have hbk := bk_le xs L
  have hx0 := (hr L (by rw [h.len]; exact hL)).1
  have HN := hid (nextL_of (xs := xs) (L := L) (by rw [h.len]; exact hL))
  have HLEN := hid h.len
  rw [h.len] at HN
  clear h hr hl
  go_enter Tryd.func20, Tryd.ntmps20
  go_wp2_with fail
  refine H1.out.mono ?_
  rintro e w' ⟨rfl, rfl⟩
  go_wp2_with fail
  refine H2.out.mono ?_
  rintro e w' ⟨rfl, rfl⟩
  have hLI : ¬ (L : Int) < 0 := by omega
  go_wp2_with fail
  refine HC.out.mono ?_
  rintro e w1 ⟨v, rfl, hown, hbel⟩
  obtain ⟨g, cap, rfl, hbg, hgl, hcap⟩ := hown.form (by rw [HLEN.out]; omega)
  have hcx := hown.ints
  have hown2 := hown
  rw [HLEN.out] at hown2 hcap ⊢
  have g1 := hown.cell (j := L) (by rw [HLEN.out]; exact hL)
  have f1 := hown.frozen L
  have HO := hid (hown2.set HLEN.out.symm L (xs.getD L 0 + 1))
  have HB := hid (hbel.setCell (p := ⟨g, L, none⟩) hbg (.int .i64 (xs.getD L 0 + 1)))
  clear hown hown2 hbel H1 H2 HC
  generalize hx : xs.getD L 0 = x at *
  have HX := hid hx
  clear hx
  have hcap2 : cap ≤ 9223372036854775807 := by
    obtain ⟨_, _, e, _, hc⟩ := hcx
    injection e with _ _ e
    rw [e]
    exact hc.2
  clear hcx
  have hsl := fun W => run_from (some ⟨g, 0, none⟩) n cap (L + 1) ((L : Int) + 1) (by omega) (by omega) W
  have hLn : (L : Int) < (n : Int) := by omega
  by_cases hlast : n = L + 1
  · subst hlast
    rw [Nat.sub_self] at hsl
    rw [Nat.sub_self] at HN
    have hcl := fun (ty : TypeId) (W : World) => run_clear_none (subA (some ⟨g, 0, none⟩) cap (L + 1)) (cap - (L + 1)) ty W
    go_wp2
    go_ret2
    refine ⟨_, _, rfl, hbg, HB.out, ?_⟩
    have hI := HO.out
    rw [← HN.out]
    simp only [List.replicate_zero, List.append_nil, List.length_nil, Nat.add_zero, List.take_append_drop]
    exact hI
  · generalize hW : w1.setCell ⟨g, L, none⟩ (.int .i64 (x + 1)) = W at *
    have hsub : subA (some ⟨g, 0, none⟩) cap (L + 1) = some ⟨g, L + 1, none⟩ := by
      unfold subA
      rw [if_neg (by omega)]
      simp [Addr.add]
    rw [hsub] at hsl
    have hOW := HO.out
    have hwl : (xs.set L (x + 1)).length = n := by rw [List.length_set]; exact HLEN.out
    have hcl : ∀ ty, (Builtin.clear_ #[22] ty #[.slice (some ⟨g, L + 1, none⟩) (n - (L + 1)) (cap - (L + 1))]).run Tryd.prog W = .ok (.tuple #[]) (W.setCells g (L + 1) (List.replicate (n - (L + 1)) (.int .i64 0))) :=
      fun ty => Lib.run_clear_slice W 22 3 ty (.int .i64 0) Tryd.underlying22 (fun _ => by kernel_rfl) rfl rfl g (L + 1) _ _ (by omega) (fun t ht => by rw [← hwl] at hOW; rw [hOW.cell (by rw [hwl]; omega)]; rfl) (fun t ht => by rw [← hwl] at hOW; exact hOW.frozen _)
    have HS := hid (HO.out.sets (ys := List.replicate (n - (L + 1)) 0) (o := L + 1) hwl.symm (by rw [hwl, List.length_replicate]; omega))
    rw [HN.out, List.map_replicate] at HS
    have HB2 := hid (below_sets (g := g) (o := L + 1) (vs := List.replicate (n - (L + 1)) (.int .i64 0)) hbg HB.out)
    clear hOW hwl hsub HO HB HN
    go_wp2
    go_ret2
    exact ⟨_, _, rfl, hbg, HB2.out, HS.out⟩
theorem bnext_new (A : Option Addr) (n c L : Nat) (xs : List Int) (w : World) (h : Ints w A n xs) (hn : n ≤ 10) (hr : Rgs xs) (hl : ltg xs n = (L : Int)) :
    Calls Tryd.prog 20 #[.slice A n c] w (RetNew w n (nextL xs L) 0) :=
  (bnext_mine A n c L xs w h hn hr hl).mono fun _ _ ⟨_, _, he, hg, hb, ho⟩ => ⟨_, _, he, hg, hb, ho.asInts.1, ho.asInts.2⟩

theorem bnext_ok (A : Option Addr) (n c L : Nat) (xs : List Int) (w : World) (h : Ints w A n xs) (hn : n ≤ 10) (hr : Rgs xs) (hl : ltg xs n = (L : Int)) :
    Calls Tryd.prog 20 #[.slice A n c] w (RetInts w (nextL xs L) 0) :=
  (bnext_new A n c L xs w h hn hr hl).mono fun _ _ ⟨_, _, he, _, hb, hI, hc⟩ => ⟨_, _, _, he, hb, hI, hc⟩

end Go.Proofs.YtmdpfadfimodjaaDoor

/-
  Unlike numbers and odd numbers (Glaisher): plain facts over numbers up to 40.
-/
namespace Go.Proofs.YtmdpfadfimodjaaDoor

def tz6 (p : Nat) : Nat := if p % 2 = 1 then 0 else if p % 4 = 2 then 1 else if p % 8 = 4 then 2 else if p % 16 = 8 then 3 else if p % 32 = 16 then 4 else 5
/-- The power of two in p, and the odd number beside it. -/
def pwr (p : Nat) : Nat := 2 ^ tz6 p
def odp (p : Nat) : Nat := p / pwr p

theorem tz6_lt (p : Nat) : tz6 p < 6 := by
  unfold tz6
  repeat' split
  all_goals omega
theorem pwr_pos (p : Nat) : 0 < pwr p := Nat.two_pow_pos _
theorem pwr_le (p : Nat) : pwr p ≤ 32 := by
  have := tz6_lt p
  exact Nat.pow_le_pow_right (by omega) (show tz6 p ≤ 5 by omega)
theorem od_tab : ((List.range 41).all fun p => p == 0 || (decide (odp p * pwr p = p) && decide (odp p % 2 = 1) && decide (odp p ≤ 40) && decide (0 < odp p))) = true := by decide +kernel
theorem od_at {p : Nat} (h0 : 0 < p) (h : p ≤ 40) : odp p * pwr p = p ∧ odp p % 2 = 1 ∧ odp p ≤ 40 ∧ 0 < odp p := by
  have := List.all_eq_true.1 od_tab p (List.mem_range.2 (by omega))
  simp only [Bool.or_eq_true, beq_iff_eq, Bool.and_eq_true, decide_eq_true_eq] at this
  rcases this with h1 | ⟨⟨⟨a, b⟩, c⟩, d⟩
  · omega
  · exact ⟨a, b, c, d⟩
theorem odp_odd {p : Nat} (h : p % 2 = 1) : odp p = p := by
  unfold odp pwr tz6
  rw [if_pos h]
  simp
theorem pwr_odd {p : Nat} (h : p % 2 = 1) : pwr p = 1 := by
  unfold pwr tz6
  rw [if_pos h]
theorem half_tab : ((List.range 41).all fun p => p == 0 || p % 2 == 1 || (decide (odp (p / 2) = odp p) && decide (2 * pwr (p / 2) = pwr p) && decide (tz6 (p / 2) + 1 = tz6 p))) = true := by decide +kernel
theorem half_at {p : Nat} (h0 : 0 < p) (h : p ≤ 40) (he : p % 2 = 0) : odp (p / 2) = odp p ∧ 2 * pwr (p / 2) = pwr p ∧ tz6 (p / 2) + 1 = tz6 p := by
  have := List.all_eq_true.1 half_tab p (List.mem_range.2 (by omega))
  simp only [Bool.or_eq_true, beq_iff_eq, Bool.and_eq_true, decide_eq_true_eq] at this
  rcases this with (h1 | h1) | ⟨⟨a, b⟩, c⟩
  · omega
  · omega
  · exact ⟨a, b, c⟩

/-- What the numbers of m with the odd number d hold together. -/
def cO (m : List Nat) (d : Nat) : Nat := (m.map (fun x => if odp x = d then pwr x else 0)).sum
/-- Each number as so many odd ones. -/
def flat (m : List Nat) : List Nat := m.flatMap (fun x => List.replicate (pwr x) (odp x))
theorem cO_nil (d : Nat) : cO [] d = 0 := rfl
theorem cO_cons (x : Nat) (m : List Nat) (d : Nat) : cO (x :: m) d = (if odp x = d then pwr x else 0) + cO m d := by simp [cO]
theorem cO_append (a b : List Nat) (d : Nat) : cO (a ++ b) d = cO a d + cO b d := by simp [cO]
theorem cO_perm {a b : List Nat} (h : a.Perm b) (d : Nat) : cO a d = cO b d := by
  induction h with
  | nil => rfl
  | cons x _ ih => rw [cO_cons, cO_cons, ih]
  | swap x y l => simp only [cO_cons]; omega
  | trans _ _ h1 h2 => rw [h1, h2]
theorem count_flat (m : List Nat) (d : Nat) : (flat m).count d = cO m d := by
  induction m with
  | nil => rfl
  | cons x m ih =>
    rw [cO_cons, ← ih, flat, List.flatMap_cons, List.count_append, List.count_replicate]
    simp only [beq_iff_eq]
    rfl
theorem mem_flat {m : List Nat} (h : ∀ x ∈ m, 0 < x ∧ x ≤ 40) {y : Nat} (hy : y ∈ flat m) : y % 2 = 1 ∧ 0 < y ∧ y ≤ 40 := by
  obtain ⟨x, hx, hy⟩ := List.mem_flatMap.1 hy
  rw [List.mem_replicate] at hy
  obtain ⟨_, b, c, d⟩ := od_at (h x hx).1 (h x hx).2
  rw [hy.2]
  exact ⟨b, d, c⟩
theorem sum_flat {m : List Nat} (h : ∀ x ∈ m, 0 < x ∧ x ≤ 40) : (flat m).sum = m.sum := by
  induction m with
  | nil => rfl
  | cons x m ih =>
    rw [flat, List.flatMap_cons, List.sum_append, List.sum_replicate_nat, List.sum_cons]
    have e : (List.flatMap (fun x => List.replicate (pwr x) (odp x)) m).sum = m.sum := ih (fun y hy => h y (List.mem_cons_of_mem _ hy))
    rw [e]
    have := (od_at (h x (List.mem_cons_self ..)).1 (h x (List.mem_cons_self ..)).2).1
    rw [Nat.mul_comm] at this
    rw [this]
theorem flat_odd {m : List Nat} (h : ∀ x ∈ m, x % 2 = 1) : flat m = m := by
  induction m with
  | nil => rfl
  | cons x m ih =>
    have hx := h x (List.mem_cons_self ..)
    rw [flat, List.flatMap_cons, pwr_odd hx, odp_odd hx]
    have e : List.flatMap (fun x => List.replicate (pwr x) (odp x)) m = m := ih (fun y hy => h y (List.mem_cons_of_mem _ hy))
    rw [e]
    rfl
theorem cO_odd {m : List Nat} (h : ∀ x ∈ m, x % 2 = 1) (d : Nat) : cO m d = m.count d := by rw [← count_flat, flat_odd h]
theorem cO_even {m : List Nat} (h : ∀ x ∈ m, 0 < x ∧ x ≤ 40) {d : Nat} (hd : d % 2 = 0) : cO m d = 0 := by
  rw [← count_flat, List.count_eq_zero]
  intro hm
  have := mem_flat h hm
  omega

/-- c(40) times 40, and so on down to 1. -/
def down (c : Nat → Nat) : Nat → List Nat
  | 0 => []
  | k + 1 => List.replicate (c (k + 1)) (k + 1) ++ down c k
theorem mem_down {c : Nat → Nat} {k x : Nat} (h : x ∈ down c k) : 0 < x ∧ x ≤ k := by
  induction k with
  | zero => simp [down] at h
  | succ k ih =>
    rw [down] at h
    rcases List.mem_append.1 h with h | h
    · rw [List.mem_replicate] at h
      omega
    · have := ih h
      omega
theorem falls_down (c : Nat → Nat) (k : Nat) : (down c k).Pairwise (· ≥ ·) := by
  induction k with
  | zero => simp [down]
  | succ k ih =>
    rw [down, List.pairwise_append]
    refine ⟨?_, ih, fun a ha b hb => ?_⟩
    · rw [List.pairwise_replicate]
      exact Or.inr (Nat.le_refl _)
    · rw [List.mem_replicate] at ha
      have := mem_down hb
      omega
theorem count_down (c : Nat → Nat) (k x : Nat) : (down c k).count x = if 0 < x ∧ x ≤ k then c x else 0 := by
  induction k with
  | zero => rw [if_neg (by omega)]; rfl
  | succ k ih =>
    rw [down, List.count_append, ih, List.count_replicate]
    simp only [beq_iff_eq]
    by_cases e : k + 1 = x
    · subst e
      rw [if_pos rfl, if_neg (by omega), if_pos (by omega)]
      omega
    · rw [if_neg e]
      by_cases h : 0 < x ∧ x ≤ k
      · rw [if_pos h, if_pos (by omega)]
        omega
      · rw [if_neg h, if_neg (by omega)]
theorem down_congr {c c' : Nat → Nat} (k : Nat) (h : ∀ x, 0 < x → x ≤ k → c x = c' x) : down c k = down c' k := by
  induction k with
  | zero => rfl
  | succ k ih => rw [down, down, h (k + 1) (by omega) (Nat.le_refl _), ih (fun x h0 h1 => h x h0 (by omega))]
theorem falls_unique {a b : List Nat} (ha : a.Pairwise (· ≥ ·)) (hb : b.Pairwise (· ≥ ·)) (h : a.Perm b) : a = b :=
  h.eq_of_pairwise (fun _ _ _ _ h1 h2 => Nat.le_antisymm h2 h1) ha hb
/-- A falling list, told by how often each number is in it. -/
theorem down_count {m : List Nat} {k : Nat} (hf : m.Pairwise (· ≥ ·)) (h : ∀ x ∈ m, 0 < x ∧ x ≤ k) : down (fun x => m.count x) k = m := by
  refine falls_unique (falls_down _ _) hf (List.perm_iff_count.2 fun x => ?_)
  rw [count_down]
  split
  · rfl
  · rename_i hx
    symm
    rw [List.count_eq_zero]
    intro hm
    exact hx (h x hm)
theorem perm_flat {m : List Nat} (h : ∀ x ∈ m, 0 < x ∧ x ≤ 40) : (down (cO m) 40).Perm (flat m) := by
  refine List.perm_iff_count.2 fun x => ?_
  rw [count_down, count_flat]
  split
  · rfl
  · rename_i hx
    rw [← count_flat]
    symm
    rw [List.count_eq_zero]
    intro hm
    have := mem_flat h hm
    omega

/-- The unlike numbers that c's binary digits tell. -/
def bitOf (c : Nat → Nat) (p : Nat) : Bool := (c (odp p)).testBit (tz6 p)
def unl (c : Nat → Nat) : Nat → List Nat
  | 0 => []
  | k + 1 => if bitOf c (k + 1) then (k + 1) :: unl c k else unl c k
theorem mem_unl {c : Nat → Nat} {k x : Nat} : x ∈ unl c k ↔ 0 < x ∧ x ≤ k ∧ bitOf c x = true := by
  induction k with
  | zero => simp [unl]; omega
  | succ k ih =>
    rw [unl]
    split
    · rename_i h
      rw [List.mem_cons, ih]
      constructor
      · rintro (rfl | ⟨a, b, d⟩)
        · exact ⟨by omega, Nat.le_refl _, h⟩
        · exact ⟨a, by omega, d⟩
      · rintro ⟨a, b, d⟩
        by_cases e : x = k + 1
        · exact Or.inl e
        · exact Or.inr ⟨a, by omega, d⟩
    · rename_i h
      rw [ih]
      constructor
      · rintro ⟨a, b, d⟩
        exact ⟨a, by omega, d⟩
      · rintro ⟨a, b, d⟩
        by_cases e : x = k + 1
        · subst e
          exact absurd d h
        · exact ⟨a, by omega, d⟩
theorem falls_unl (c : Nat → Nat) (k : Nat) : (unl c k).Pairwise (· > ·) := by
  induction k with
  | zero => simp [unl]
  | succ k ih =>
    rw [unl]
    split
    · rw [List.pairwise_cons]
      refine ⟨fun x hx => ?_, ih⟩
      have := mem_unl.1 hx
      omega
    · exact ih
theorem unl_congr {c c' : Nat → Nat} (k : Nat) (h : ∀ x, 0 < x → x ≤ k → c (odp x) = c' (odp x)) : unl c k = unl c' k := by
  induction k with
  | zero => rfl
  | succ k ih =>
    have e : bitOf c (k + 1) = bitOf c' (k + 1) := by unfold bitOf; rw [h (k + 1) (by omega) (Nat.le_refl _)]
    rw [unl, unl, e, ih (fun x h0 h1 => h x h0 (by omega))]

/-- Six binary digits. -/
def six (b0 b1 b2 b3 b4 b5 : Bool) : Nat := b0.toNat + 2 * b1.toNat + 4 * b2.toNat + 8 * b3.toNat + 16 * b4.toNat + 32 * b5.toNat
theorem six_bit : ∀ b0 b1 b2 b3 b4 b5 : Bool, (six b0 b1 b2 b3 b4 b5).testBit 0 = b0 ∧ (six b0 b1 b2 b3 b4 b5).testBit 1 = b1 ∧ (six b0 b1 b2 b3 b4 b5).testBit 2 = b2 ∧ (six b0 b1 b2 b3 b4 b5).testBit 3 = b3 ∧ (six b0 b1 b2 b3 b4 b5).testBit 4 = b4 ∧ (six b0 b1 b2 b3 b4 b5).testBit 5 = b5 := by decide +kernel
def mb (m : List Nat) (x : Nat) : Bool := decide (x ∈ m)
theorem one_tab : ((List.range 41).all fun x => x == 0 || (List.range 41).all fun d => d % 2 == 0 || decide ((if odp x = d then pwr x else 0) = six (decide (d = x)) (decide (2 * d = x)) (decide (4 * d = x)) (decide (8 * d = x)) (decide (16 * d = x)) (decide (32 * d = x)))) = true := by decide +kernel
theorem one_at {x d : Nat} (h0 : 0 < x) (hx : x ≤ 40) (hd : d ≤ 40) (ho : d % 2 = 1) : (if odp x = d then pwr x else 0) = six (decide (d = x)) (decide (2 * d = x)) (decide (4 * d = x)) (decide (8 * d = x)) (decide (16 * d = x)) (decide (32 * d = x)) := by
  have := List.all_eq_true.1 one_tab x (List.mem_range.2 (by omega))
  simp only [Bool.or_eq_true, beq_iff_eq] at this
  rcases this with h1 | h1
  · omega
  · have := List.all_eq_true.1 h1 d (List.mem_range.2 (by omega))
    simp only [Bool.or_eq_true, beq_iff_eq] at this
    rcases this with h2 | h2
    · omega
    · exact of_decide_eq_true h2
theorem mb_cons {x y : Nat} {m : List Nat} (h : x ∉ m) : (mb (x :: m) y).toNat = (decide (y = x)).toNat + (mb m y).toNat := by
  unfold mb
  by_cases e : y = x
  · subst e
    simp [h]
  · simp [e]
theorem cO_six {m : List Nat} (hn : m.Nodup) (h : ∀ x ∈ m, 0 < x ∧ x ≤ 40) {d : Nat} (hd : d ≤ 40) (ho : d % 2 = 1) :
    cO m d = six (mb m d) (mb m (2 * d)) (mb m (4 * d)) (mb m (8 * d)) (mb m (16 * d)) (mb m (32 * d)) := by
  induction m with
  | nil => rfl
  | cons x m ih =>
    rw [List.nodup_cons] at hn
    have hx := h x (List.mem_cons_self ..)
    rw [cO_cons, ih hn.2 (fun y hy => h y (List.mem_cons_of_mem _ hy)), one_at hx.1 hx.2 hd ho]
    unfold six
    simp only [mb_cons hn.1]
    omega
theorem place_tab : ((List.range 41).all fun p => p == 0 || (decide (tz6 p = 0 ∧ p = odp p) || decide (tz6 p = 1 ∧ p = 2 * odp p) || decide (tz6 p = 2 ∧ p = 4 * odp p) || decide (tz6 p = 3 ∧ p = 8 * odp p) || decide (tz6 p = 4 ∧ p = 16 * odp p) || decide (tz6 p = 5 ∧ p = 32 * odp p))) = true := by decide +kernel
/-- The digit at p tells whether p is there. -/
theorem bit_cO {m : List Nat} (hn : m.Nodup) (h : ∀ x ∈ m, 0 < x ∧ x ≤ 40) {p : Nat} (h0 : 0 < p) (hp : p ≤ 40) : bitOf (cO m) p = mb m p := by
  obtain ⟨_, ho, hd, _⟩ := od_at h0 hp
  have := List.all_eq_true.1 place_tab p (List.mem_range.2 (by omega))
  simp only [Bool.or_eq_true, beq_iff_eq, decide_eq_true_eq] at this
  have hb := six_bit (mb m (odp p)) (mb m (2 * odp p)) (mb m (4 * odp p)) (mb m (8 * odp p)) (mb m (16 * odp p)) (mb m (32 * odp p))
  unfold bitOf
  rw [cO_six hn h hd ho]
  rcases this with h1 | ((((⟨a, b⟩ | ⟨a, b⟩) | ⟨a, b⟩) | ⟨a, b⟩) | ⟨a, b⟩) | ⟨a, b⟩
  · omega
  · rw [a, hb.1, ← b]
  · rw [a, hb.2.1, ← b]
  · rw [a, hb.2.2.1, ← b]
  · rw [a, hb.2.2.2.1, ← b]
  · rw [a, hb.2.2.2.2.1, ← b]
  · rw [a, hb.2.2.2.2.2, ← b]
theorem gt_nodup {m : List Nat} (h : m.Pairwise (· > ·)) : m.Nodup := h.imp (fun h => by omega)
/-- GLAISHER, one way. -/
theorem unl_cO {m : List Nat} (hf : m.Pairwise (· > ·)) (h : ∀ x ∈ m, 0 < x ∧ x ≤ 40) : unl (cO m) 40 = m := by
  refine falls_unique ((falls_unl _ _).imp Nat.le_of_lt) (hf.imp Nat.le_of_lt) ?_
  refine (List.perm_ext_iff_of_nodup (gt_nodup (falls_unl _ _)) (gt_nodup hf)).2 fun x => ?_
  rw [mem_unl]
  constructor
  · rintro ⟨a, b, d⟩
    rw [bit_cO (gt_nodup hf) h a b] at d
    exact of_decide_eq_true d
  · intro hx
    have hb := h x hx
    refine ⟨hb.1, hb.2, ?_⟩
    rw [bit_cO (gt_nodup hf) h hb.1 hb.2]
    exact decide_eq_true hx

/-! Two that are the same are one. -/
theorem cO_join {x : Nat} (h0 : 0 < x) (h : 2 * x ≤ 40) (m : List Nat) (d : Nat) : cO (2 * x :: m) d = cO (x :: x :: m) d := by
  obtain ⟨a, b, _⟩ := half_at (p := 2 * x) (by omega) h (by omega)
  rw [show 2 * x / 2 = x by omega] at a b
  simp only [cO_cons, ← a, ← b]
  split <;> omega
theorem sorted_or (m : List Nat) (h : ¬ m.Nodup) : ∃ x m', m.Perm (x :: x :: m') := by
  induction m with
  | nil => simp at h
  | cons y m ih =>
    by_cases hy : y ∈ m
    · exact ⟨y, m.erase y, List.Perm.cons y (List.perm_cons_erase hy)⟩
    · rw [List.nodup_cons] at h
      obtain ⟨x, m', hp⟩ := ih (fun hn => h ⟨hy, hn⟩)
      refine ⟨x, y :: m', (List.Perm.cons y hp).trans ?_⟩
      exact (List.Perm.swap x y (x :: m')).trans (List.Perm.cons x (List.Perm.swap x y m'))
theorem sum_permN {a b : List Nat} (h : a.Perm b) : a.sum = b.sum := by
  induction h with
  | nil => rfl
  | cons x _ ih => simp [ih]
  | swap x y l => simp only [List.sum_cons]; omega
  | trans _ _ h1 h2 => rw [h1, h2]
theorem le_sum {m : List Nat} {x : Nat} (h : x ∈ m) : x ≤ m.sum := by
  induction m with
  | nil => simp at h
  | cons y m ih =>
    rw [List.sum_cons]
    rcases List.mem_cons.1 h with rfl | h
    · omega
    · have := ih h
      omega
theorem joined : ∀ (k : Nat) (m : List Nat), m.length ≤ k → m.sum ≤ 40 → (∀ x ∈ m, 0 < x) → ∃ m', m'.Nodup ∧ m'.sum = m.sum ∧ (∀ x ∈ m', 0 < x) ∧ ∀ d, cO m' d = cO m d
  | 0, m, hk, _, _ => by
    have : m = [] := List.eq_nil_of_length_eq_zero (by omega)
    subst this
    exact ⟨[], by simp, rfl, by simp, fun _ => rfl⟩
  | k + 1, m, hk, hs, h0 => by
    by_cases hn : m.Nodup
    · exact ⟨m, hn, rfl, h0, fun _ => rfl⟩
    · obtain ⟨x, m1, hp⟩ := sorted_or m hn
      have hsum := sum_permN hp
      have hlen := hp.length_eq
      simp only [List.sum_cons, List.length_cons] at hsum hlen
      have hx : 0 < x := h0 x (hp.mem_iff.2 (List.mem_cons_self ..))
      obtain ⟨m', a, b, c, d⟩ := joined k (2 * x :: m1) (by simp; omega) (by rw [List.sum_cons]; omega) (by
        intro y hy
        rcases List.mem_cons.1 hy with rfl | hy
        · omega
        · exact h0 y (hp.mem_iff.2 (List.mem_cons_of_mem _ (List.mem_cons_of_mem _ hy))))
      refine ⟨m', a, by rw [b, List.sum_cons]; omega, c, fun e => ?_⟩
      rw [d, cO_join hx (by omega), ← cO_perm hp]
/-- The unlike numbers of c, where c is of numbers that hold at most 40 together. -/
theorem unl_of {m : List Nat} (hs : m.sum ≤ 40) (h0 : ∀ x ∈ m, 0 < x) : (unl (cO m) 40).sum = m.sum ∧ ∀ d, cO (unl (cO m) 40) d = cO m d := by
  obtain ⟨m', a, b, c, d⟩ := joined m.length m (Nat.le_refl _) hs h0
  have hb : ∀ x ∈ m', 0 < x ∧ x ≤ 40 := fun x hx => ⟨c x hx, by have := le_sum hx; omega⟩
  have hp : (unl (cO m) 40).Perm m' := by
    rw [unl_congr 40 (c' := cO m') (fun x _ _ => (d (odp x)).symm)]
    refine (List.perm_ext_iff_of_nodup (gt_nodup (falls_unl _ _)) a).2 fun x => ?_
    rw [mem_unl]
    constructor
    · rintro ⟨e, f, g⟩
      rw [bit_cO a hb e f] at g
      exact of_decide_eq_true g
    · intro hx
      have hx2 := hb x hx
      refine ⟨hx2.1, hx2.2, ?_⟩
      rw [bit_cO a hb hx2.1 hx2.2]
      exact decide_eq_true hx
  exact ⟨(sum_permN hp).trans b, fun e => (cO_perm hp e).trans (d e)⟩

end Go.Proofs.YtmdpfadfimodjaaDoor

/-
  math/bits.TrailingZeros over its table; parts.split.
-/
namespace Go.Proofs.YtmdpfadfimodjaaDoor
open Go.RowKit

/-- The table of TrailingZeros64, as Go lays it. -/
def tz64Tab : List Int := [0, 1, 56, 2, 57, 49, 28, 3, 61, 58, 42, 50, 38, 29, 17, 4, 62, 47, 59, 36, 45, 43, 51, 22, 53, 39, 33, 30, 24, 18, 12, 5, 63, 55, 48, 27, 60, 41, 37, 16, 46, 35, 44, 21, 52, 32, 23, 11, 54, 26, 40, 15, 34, 20, 31, 10, 25, 14, 19, 9, 13, 8, 7, 6]
/-- The table lies in the world. -/
def Tab64 (w : World) : Prop := ∀ i, i < 64 → w.cell? ⟨1, i, none⟩ = some (.int .u8 (tz64Tab.getD i 0))
theorem Tab64.keep {w w' : World} (h : Tab64 w) (hb : Below w.heap.size w w') : Tab64 w' := fun i hi =>
  (hb.cell (p := ⟨1, i, none⟩) (World.block_lt_of_cell? w _ (h i hi))).trans (h i hi)

set_option maxRecDepth 100000 in
set_option maxHeartbeats 800000 in
theorem tz64_at (s m t : Nat) (w : World) (hs : s ≤ 40) (h0 : 0 < s) (he : bits .and .u64 (s : Int) (IntKind.u64.wrap (-(s : Int))) = (m : Int)) (hm2 : m ≤ 40) (hi : m * 285870213051353865 / 288230376151711744 < 64) (hc : w.cell? ⟨1, m * 285870213051353865 / 288230376151711744, none⟩ = some (.int .u8 (t : Int))) (ht : t < 64) :
    Calls Tryd.prog 71 #[.int .u64 (s : Int)] w fun e w' => e = .returned (.int .i64 (t : Int)) ∧ w = w' := by
  have hne : ((s : Int) == 0) = false := by simp; omega
  go_enter Tryd.func71, Tryd.ntmps71
  go_wp2
  go_ret
  exact ⟨rfl, rfl⟩

theorem tz64_tab : ∀ p : Fin 41, p.val ≠ 0 → bits .and .u64 (p.val : Int) (IntKind.u64.wrap (-(p.val : Int))) = ((pwr p.val : Nat) : Int) ∧ pwr p.val ≤ 40 ∧ pwr p.val * 285870213051353865 / 288230376151711744 < 64 ∧ tz64Tab.getD (pwr p.val * 285870213051353865 / 288230376151711744) 0 = ((tz6 p.val : Nat) : Int) := by decide +kernel

theorem trailingZeros64_any (p : Nat) (w : World) (ht : Tab64 w) (h0 : 0 < p) (hp : p ≤ 40) :
    Calls Tryd.prog 71 #[.int .u64 (p : Int)] w fun e w' => e = .returned (.int .i64 ((tz6 p : Nat) : Int)) ∧ w = w' := by
  obtain ⟨h1, h2, h3, h4⟩ := tz64_tab ⟨p, by omega⟩ (by simp; omega)
  simp only at h1 h2 h3 h4
  have hc := ht _ h3
  rw [h4] at hc
  exact tz64_at p (pwr p) (tz6 p) w hp h0 h1 h2 h3 hc (by have := tz6_lt p; omega)

set_option maxHeartbeats 800000 in
theorem trailingZeros_any (p : Nat) (w : World) (ht : Tab64 w) (h0 : 0 < p) (hp : p ≤ 40) :
    Calls Tryd.prog 56 #[.int .u64 (p : Int)] w fun e w' => e = .returned (.int .i64 ((tz6 p : Nat) : Int)) ∧ w = w' := by
  have HT := hid ht
  clear ht
  have hl := tz6_lt p
  go_enter Tryd.func56, Tryd.ntmps56
  go_wp2_with fail
  refine (trailingZeros64_any p _ HT.out h0 hp).mono ?_
  rintro e w' ⟨rfl, rfl⟩
  generalize hq : tz6 p = t at *
  have HQ := hid hq
  clear hq
  go_wp2
  go_ret
  exact ⟨by rw [HQ.out]; rfl, rfl⟩

set_option maxHeartbeats 800000 in
theorem split_any (p : Nat) (w : World) (ht : Tab64 w) (h0 : 0 < p) (hp : p ≤ 40) :
    Calls Tryd.prog 46 #[.int .i64 (p : Int)] w fun e w' => e = .returned (.tuple #[.int .i64 ((odp p : Nat) : Int), .int .i64 ((pwr p : Nat) : Int)]) ∧ Below w.heap.size w w' := by
  have HT := hid ht
  clear ht
  have hw : IntKind.u64.wrap (p : Int) = (p : Int) := by rw [IntKind.wrap_u64]; omega
  have hl := tz6_lt p
  go_enter Tryd.func46, Tryd.ntmps46
  go_wp2_with fail
  refine (trailingZeros_any p _ HT.out h0 hp).mono ?_
  rintro e w' ⟨rfl, rfl⟩
  generalize hq : tz6 p = t at *
  have HQ := hid hq
  clear hq
  rcases (show t = 0 ∨ t = 1 ∨ t = 2 ∨ t = 3 ∨ t = 4 ∨ t = 5 by omega) with rfl | rfl | rfl | rfl | rfl | rfl
  all_goals
    go_wp2_with fail
    go_region
    go_wp2
    go_ret2
    refine ⟨?_, (Below.refl _ _).drew⟩
    unfold odp pwr
    rw [HQ.out]
    simp

end Go.Proofs.YtmdpfadfimodjaaDoor

/-
  Sums of a number (partitions): plain facts. No program, no memory.
-/
namespace Go.Proofs.YtmdpfadfimodjaaDoor

/-- P18: what is wrong at place k. -/
def partErrAt (xs : List Int) (k : Nat) : Int :=
  if xs.getD k 0 < 1 ∨ 40 < xs.getD k 0 then 1 else if 0 < k ∧ xs.getD (k - 1) 0 < xs.getD k 0 then 3 else if 40 < (xs.take (k + 1)).sum then 2 else 0
/-- P18: the first thing that is wrong. -/
def partErr (xs : List Int) : Int :=
  match (List.range xs.length).find? (fun k => !(partErrAt xs k == 0)) with
  | some k => partErrAt xs k
  | none => 0

def IsPart (xs : List Int) : Prop := ∀ j, j < xs.length → partErrAt xs j = 0

theorem partErr_at {xs : List Int} {k : Nat} {e : Int} (hk : k < xs.length) (hall : ∀ j, j < k → partErrAt xs j = 0) (he : partErrAt xs k = e) (h0 : e ≠ 0) : partErr xs = e := by
  have : (List.range xs.length).find? (fun k => !(partErrAt xs k == 0)) = some k := by
    rw [List.find?_range_eq_some]
    refine ⟨by simp [he, h0], by simpa using hk, fun j hj => by simp [hall j hj]⟩
  unfold partErr
  rw [this]
  exact he
theorem partErr_ok {xs : List Int} (h : IsPart xs) : partErr xs = 0 := by
  have : (List.range xs.length).find? (fun k => !(partErrAt xs k == 0)) = none := by
    rw [List.find?_range_eq_none]
    intro j hj
    simp [h j hj]
  unfold partErr
  rw [this]
theorem isPart_of {xs : List Int} (h : partErr xs = 0) : IsPart xs := by
  intro j hj
  rcases hf : (List.range xs.length).find? (fun k => !(partErrAt xs k == 0)) with _ | k
  · rw [List.find?_range_eq_none] at hf
    simpa using hf j hj
  · unfold partErr at h
    rw [hf] at h
    simp only at h
    rw [List.find?_range_eq_some] at hf
    simp [h] at hf
theorem partErr_iff {xs : List Int} : partErr xs = 0 ↔ IsPart xs := ⟨isPart_of, partErr_ok⟩

theorem partErrAt_zero {xs : List Int} {k : Nat} (h : partErrAt xs k = 0) : 1 ≤ xs.getD k 0 ∧ xs.getD k 0 ≤ 40 ∧ (0 < k → xs.getD k 0 ≤ xs.getD (k - 1) 0) ∧ (xs.take (k + 1)).sum ≤ 40 := by
  unfold partErrAt at h
  split at h
  · cases h
  · split at h
    · cases h
    · split at h
      · cases h
      · refine ⟨by omega, by omega, fun h0 => by omega, by omega⟩
theorem partErrAt_mk {xs : List Int} {k : Nat} (h1 : 1 ≤ xs.getD k 0) (h2 : xs.getD k 0 ≤ 40) (h3 : 0 < k → xs.getD k 0 ≤ xs.getD (k - 1) 0) (h4 : (xs.take (k + 1)).sum ≤ 40) : partErrAt xs k = 0 := by
  unfold partErrAt
  rw [if_neg (by omega), if_neg (fun h => by have := h3 h.1; omega), if_neg (by omega)]
theorem partErr_codes (xs : List Int) : 0 ≤ partErr xs ∧ partErr xs ≤ 3 := by
  have h : ∀ k, 0 ≤ partErrAt xs k ∧ partErrAt xs k ≤ 3 := by
    intro k
    unfold partErrAt
    split
    · omega
    · split
      · omega
      · split <;> omega
  unfold partErr
  split
  · exact h _
  · omega

theorem sum_take_snoc {xs : List Int} {k : Nat} (hk : k < xs.length) : (xs.take (k + 1)).sum = (xs.take k).sum + xs.getD k 0 := by
  rw [take_snoc hk, List.sum_append]
  simp

namespace IsPart
variable {xs : List Int}
theorem ge (h : IsPart xs) {j : Nat} (hj : j < xs.length) : 1 ≤ xs.getD j 0 := (partErrAt_zero (h j hj)).1
theorem le (h : IsPart xs) {j : Nat} (hj : j < xs.length) : xs.getD j 0 ≤ 40 := (partErrAt_zero (h j hj)).2.1
theorem falls (h : IsPart xs) {j : Nat} (hj : j + 1 < xs.length) : xs.getD (j + 1) 0 ≤ xs.getD j 0 := (partErrAt_zero (h (j + 1) hj)).2.2.1 (by omega)
theorem mono (h : IsPart xs) {i j : Nat} (hij : i ≤ j) (hj : j < xs.length) : xs.getD j 0 ≤ xs.getD i 0 := by
  induction j with
  | zero => rw [show i = 0 by omega]; exact Int.le_refl _
  | succ j ih =>
    rcases Nat.lt_or_ge j i with h1 | h1
    · rw [show i = j + 1 by omega]; exact Int.le_refl _
    · exact Int.le_trans (h.falls hj) (ih h1 (by omega))
theorem sum_take (h : IsPart xs) (k : Nat) : (k : Int) ≤ (xs.take k).sum ∨ xs.length < k := by
  induction k with
  | zero => left; simp
  | succ k ih =>
    rcases Nat.lt_or_ge k xs.length with h1 | h1
    · left
      rw [sum_take_snoc h1]
      have := h.ge h1
      rcases ih with h2 | h2
      · omega
      · omega
    · right; omega
theorem sum_le (h : IsPart xs) : xs.sum ≤ 40 := by
  rcases Nat.eq_zero_or_pos xs.length with h0 | h0
  · have : xs = [] := List.eq_nil_of_length_eq_zero h0
    subst this
    simp
  · have := (partErrAt_zero (h (xs.length - 1) (by omega))).2.2.2
    rwa [show xs.length - 1 + 1 = xs.length by omega, List.take_of_length_le (Nat.le_refl _)] at this
theorem length_le (h : IsPart xs) : xs.length ≤ 40 := by
  have h1 := h.sum_take xs.length
  rw [List.take_of_length_le (Nat.le_refl _)] at h1
  have := h.sum_le
  omega
end IsPart

/-- What makes a sum, told at once. -/
theorem isPart_mk {xs : List Int} (h1 : ∀ j, j < xs.length → 1 ≤ xs.getD j 0) (h2 : ∀ j, j + 1 < xs.length → xs.getD (j + 1) 0 ≤ xs.getD j 0) (h3 : xs.sum ≤ 40) : IsPart xs := by
  have hs : ∀ d k, k + d = xs.length → (xs.take k).sum + (d : Int) ≤ xs.sum := by
    intro d
    induction d with
    | zero => intro k hk; rw [List.take_of_length_le (by omega)]; simp
    | succ d ih =>
      intro k hk
      have := ih (k + 1) (by omega)
      rw [sum_take_snoc (by omega)] at this
      have := h1 k (by omega)
      omega
  have hp : ∀ k, k ≤ xs.length → 0 ≤ (xs.take k).sum := by
    intro k
    induction k with
    | zero => intro _; simp
    | succ k ih =>
      intro hk
      rw [sum_take_snoc (by omega)]
      have := h1 k (by omega)
      have := ih (by omega)
      omega
  intro j hj
  have a := hs (xs.length - (j + 1)) (j + 1) (by omega)
  have b := hp j (by omega)
  have c := sum_take_snoc (xs := xs) (k := j) hj
  refine partErrAt_mk (h1 j hj) (by omega) (fun h0 => ?_) (by omega)
  have := h2 (j - 1) (by omega)
  rwa [show j - 1 + 1 = j by omega] at this

end Go.Proofs.YtmdpfadfimodjaaDoor

/-
  parts.Check and castref.SumErr: the answer is partErr of the list.
-/
namespace Go.Proofs.YtmdpfadfimodjaaDoor
open Go.RowKit

theorem partErr_code_of {xs : List Int} {k : Nat} {e : Int} (hk : k < xs.length) (hall : ∀ j, j < k → partErrAt xs j = 0) (he : partErrAt xs k = e) (h0 : e ≠ 0) : Ending.returned (.int .i64 e) = .returned (.int .i64 (partErr xs)) := by rw [partErr_at hk hall he h0]

set_option maxHeartbeats 800000 in
theorem pcheck_any (A : Option Addr) (n c : Nat) (xs : List Int) (w : World) (h : Ints w A n xs) (hm : n ≤ 9223372036854775807) :
    Calls Tryd.prog 45 #[.slice A n c] w fun e w' => e = .returned (.int .i64 (partErr xs)) ∧ w = w' := by
  go_enter Tryd.func45, Tryd.ntmps45
  go_wp2
  go_loopg [3, 8] n (fun g s t wr => ∃ (k : Nat) (S : Int), k ≤ n ∧ n - k ≤ g ∧ s = .int .i64 S ∧ t = .int .i64 k ∧ S = (xs.take k).sum ∧ 0 ≤ S ∧ S ≤ 40 ∧ w = wr ∧ ∀ j, j < k → partErrAt xs j = 0)
  case atStart => exact ⟨0, 0, Nat.zero_le _, by omega, rfl, rfl, by simp, by omega, by omega, rfl, fun j hj => absurd hj (Nat.not_lt_zero _)⟩
  case round =>
    obtain ⟨k, S, hk, hg, rfl, rfl, hS, hS0, hS1, rfl, hall⟩ := hrel
    have HA := hid hall
    have HS := hid hS
    clear hall hS
    by_cases hlt : k < n
    · obtain ⟨b, o, rfl, hb, hc⟩ := h.row (by omega)
      have HL := hid h.len
      have g1 := hc k hlt
      have HK : Hid (k < xs.length) := by rw [HL.out]; exact hlt
      have HT : Hid ((xs.take (k + 1)).sum = S + xs.getD k 0) := by rw [HS.out]; exact sum_take_snoc HK.out
      have HP : Hid (0 < k → w.cell? ⟨b, o + (k - 1), none⟩ = some (.int .i64 (xs.getD (k - 1) 0))) := fun h0 => hc (k - 1) (by omega)
      clear hc h
      generalize hx : xs.getD k 0 = x at g1 HT
      have HX := hid hx
      clear hx
      by_cases h1 : x < 1
      · go_wp2
        go_ret
        exact ⟨partErr_code_of HK.out HA.out (by unfold partErrAt; rw [if_pos (by rw [HX.out]; exact Or.inl h1)]) (by decide), rfl⟩
      · by_cases h2 : 40 < x
        · go_wp2
          go_ret
          exact ⟨partErr_code_of HK.out HA.out (by unfold partErrAt; rw [if_pos (by rw [HX.out]; exact Or.inr h2)]) (by decide), rfl⟩
        · by_cases h0 : k = 0
          · subst h0
            rw [Nat.add_zero] at g1
            have hS00 : S = 0 := by rw [HS.out]; simp
            subst hS00
            have h3 : ¬ 40 < 0 + x := by omega
            go_wp2
            go_roundg (n - 1)
            case measure => omega
            case rel =>
              refine ⟨1, x, by omega, by omega, by go_num, by go_num, by rw [HT.out]; omega, by omega, by omega, rfl, fun j hj => ?_⟩
              obtain rfl : j = 0 := by omega
              exact partErrAt_mk (by rw [HX.out]; omega) (by rw [HX.out]; omega) (fun h => by omega) (by rw [HT.out]; omega)
          · obtain ⟨m, hkm⟩ : ∃ m, k = m + 1 := ⟨k - 1, by omega⟩
            have g2 : w.cell? ⟨b, o + m, none⟩ = some (.int .i64 (xs.getD m 0)) := by have := HP.out (by omega); rwa [hkm] at this
            have HKM := hid hkm
            have hd : decide (0 < k) = true := by simp; omega
            have hwr : IntKind.i64.wrap ((k : Int) - 1) = (m : Int) := by rw [IntWalk.i64_in _ (by omega)]; omega
            have hmn : m < n := by omega
            have hmN : (m : Int) < (n : Int) := by omega
            clear hkm HP
            generalize hy : xs.getD m 0 = y at g2
            have HY := hid hy
            clear hy
            by_cases h3 : y < x
            · go_wp2
              go_ret
              exact ⟨partErr_code_of HK.out HA.out (by unfold partErrAt; rw [if_neg (by rw [HX.out]; omega), if_pos (by rw [HX.out]; have := HKM.out; refine ⟨by omega, ?_⟩; rw [this, Nat.add_sub_cancel, HY.out]; exact h3)]) (by decide), rfl⟩
            · have HC : Hid (0 < k → xs.getD k 0 ≤ xs.getD (k - 1) 0) := by
                intro _
                have e := HKM.out
                rw [HX.out, e, Nat.add_sub_cancel, HY.out]
                omega
              by_cases h4 : 40 < S + x
              · go_wp2
                go_ret
                exact ⟨partErr_code_of HK.out HA.out (by unfold partErrAt; rw [if_neg (by rw [HX.out]; omega), if_neg (fun h => by have := HC.out h.1; omega), if_pos (by rw [HT.out]; exact h4)]) (by decide), rfl⟩
              · go_wp2
                go_roundg (n - (k + 1))
                case measure => omega
                case rel =>
                  refine ⟨k + 1, S + x, by omega, by omega, by go_num, by go_num, HT.out.symm, by omega, by omega, rfl, fun j hj => ?_⟩
                  by_cases e : j = k
                  · subst e
                    exact partErrAt_mk (by rw [HX.out]; omega) (by rw [HX.out]; omega) HC.out (by rw [HT.out]; omega)
                  · exact HA.out j (by omega)
    · have hkn : k = n := by omega
      subst hkn
      go_wp2
      go_ret
      rw [partErr_ok (by rw [← h.len] at HA; exact HA.out)]
      exact ⟨rfl, rfl⟩

end Go.Proofs.YtmdpfadfimodjaaDoor

/-
  parts.Turned: the sum turned (P20).
-/
namespace Go.Proofs.YtmdpfadfimodjaaDoor
open Go.RowKit

/-- How many numbers are greater than i. -/
def above (xs : List Int) (i : Nat) : Nat := xs.countP (fun x => decide ((i : Int) < x))
/-- P20. -/
def conj (xs : List Int) : List Int := (List.range (xs.getD 0 0).toNat).map (fun i => ((above xs i : Nat) : Int))

theorem above_le (xs : List Int) (i : Nat) : above xs i ≤ xs.length := List.countP_le_length
theorem above_snoc {xs : List Int} {k : Nat} (hk : k < xs.length) (i : Nat) : above (xs.take (k + 1)) i = above (xs.take k) i + (if (i : Int) < xs.getD k 0 then 1 else 0) := by
  unfold above
  rw [take_snoc hk, List.countP_append]
  congr 1
  simp [List.countP_cons]
theorem length_conj (xs : List Int) : (conj xs).length = (xs.getD 0 0).toNat := by simp [conj]
theorem getD_conj {xs : List Int} {i : Nat} (h : i < (xs.getD 0 0).toNat) : (conj xs).getD i 0 = ((above xs i : Nat) : Int) := by
  rw [conj, List.getD_eq_getElem?_getD, List.getElem?_map, List.getElem?_range h]
  rfl

/-- What Turned has reckoned: of k numbers all, of the next one i. -/
def turnCell (xs : List Int) (k i j : Nat) : Value := .int .i64 ((above (xs.take k) j + (if j < i then 1 else 0) : Nat) : Int)
theorem turnCell_zero (xs : List Int) (j : Nat) : turnCell xs 0 0 j = .int .i64 0 := by simp [turnCell, above]
theorem turnCell_step (xs : List Int) (k i j : Nat) : (if j = i then Value.int .i64 (((above (xs.take k) i : Nat) : Int) + 1) else turnCell xs k i j) = turnCell xs k (i + 1) j := by
  unfold turnCell
  by_cases h : j = i
  · subst h
    rw [if_pos rfl, if_pos (by omega)]
    rfl
  · rw [if_neg h]
    by_cases h2 : j < i
    · rw [if_pos h2, if_pos (by omega)]
    · rw [if_neg h2, if_neg (by omega)]
theorem turnCell_next {xs : List Int} {k X : Nat} (hk : k < xs.length) (hx : xs.getD k 0 = (X : Int)) (j : Nat) : turnCell xs k X j = turnCell xs (k + 1) 0 j := by
  unfold turnCell
  rw [above_snoc hk, hx]
  simp only [Nat.not_lt_zero, if_false, Nat.add_zero]
  by_cases h : j < X
  · rw [if_pos h, if_pos (by omega)]
  · rw [if_neg h, if_neg (by omega)]

set_option maxHeartbeats 800000 in
theorem turned_bad (A : Option Addr) (n c : Nat) (xs : List Int) (w : World) (h : Ints w A n xs) (hm : n ≤ 9223372036854775807) (he : partErr xs ≠ 0) :
    Calls Tryd.prog 21 #[.slice A n c] w fun e w' => e = .returned (.tuple #[.slice none 0 0, .int .i64 (partErr xs)]) ∧ w = w' := by
  generalize hq : partErr xs = er at *
  have he' : (er != 0) = true := by simpa using he
  have HQ := hid hq
  clear hq
  go_enter Tryd.func21, Tryd.ntmps21
  go_wp2_with fail
  refine (pcheck_any A n c xs _ h hm).mono ?_
  rintro e w' ⟨rfl, rfl⟩
  rw [HQ.out]
  go_wp2
  go_ret2
  exact ⟨rfl, rfl⟩

set_option maxHeartbeats 1600000 in
theorem turned_own (A : Option Addr) (n c : Nat) (xs : List Int) (w : World) (h : Ints w A n xs) (hp : IsPart xs) :
    Calls Tryd.prog 21 #[.slice A n c] w (RetOwnE w (conj xs) 0) := by
  have hn : n ≤ 40 := by rw [← h.len]; exact hp.length_le
  rcases Nat.eq_zero_or_pos n with h0 | h0
  · subst h0
    have hx : xs = [] := List.eq_nil_of_length_eq_zero h.len
    subst hx
    go_enter Tryd.func21, Tryd.ntmps21
    go_wp2_with fail
    refine (pcheck_any A 0 c [] _ h (by omega)).mono ?_
    rintro e w' ⟨rfl, rfl⟩
    rw [show partErr [] = 0 by rfl]
    go_wp2
    go_ret2
    exact ⟨_, rfl, OwnInts.nil _ _, Below.refl _ _⟩
  · obtain ⟨b, o, rfl, hb, hc⟩ := h.row h0
    have hlen := h.len
    have HL := hid hlen
    have HP := hid hp
    have HI := hid h
    obtain ⟨L, hL⟩ := Int.eq_ofNat_of_zero_le (show 0 ≤ xs.getD 0 0 by have := hp.ge (j := 0) (by omega); omega)
    have hL1 : L ≤ 40 := by have := hp.le (j := 0) (by omega); omega
    have g0 : w.cell? ⟨b, o, none⟩ = some (.int .i64 (L : Int)) := by have := hc 0 h0; rwa [hL, Nat.add_zero] at this
    have HX : Hid (∀ k, k < n → ∃ X : Nat, xs.getD k 0 = (X : Int) ∧ X ≤ L ∧ w.cell? ⟨b, o + k, none⟩ = some (.int .i64 (X : Int))) := by
      intro k hk
      have h1 := hp.ge (j := k) (by omega)
      have h2 := hp.mono (Nat.zero_le k) (by omega)
      obtain ⟨X, hX⟩ := Int.eq_ofNat_of_zero_le (show 0 ≤ xs.getD k 0 by omega)
      exact ⟨X, hX, by omega, by rw [hc k hk, hX]⟩
    have HLL := hid hL
    clear hc hp h hL hlen
    have hmk := fun W => run_make_row' (P := Tryd.prog) 22 3 (.int .i64 0) 8 Tryd.underlying22 infoInt rfl .i64 .i64 L (by omega) (by omega) W
    have hne : ((n : Int) == 0) = false := by simp; omega
    go_enter Tryd.func21, Tryd.ntmps21
    go_wp2_with fail
    refine (pcheck_any _ n c xs _ HI.out (by omega)).mono ?_
    rintro e w' ⟨rfl, rfl⟩
    rw [partErr_ok HP.out]
    go_wp2_with fail
    go_loopg [23] n (fun g s wr => ∃ k : Nat, k ≤ n ∧ n - k ≤ g ∧ s = .int .i64 k ∧ wr.rowIs w.heap.size 3 L (turnCell xs k 0) ∧ Below w.heap.size w wr)
    case atStart => exact ⟨0, Nat.zero_le _, by omega, rfl, (World.rowIs_made w _ L _).congr (fun j _ => by rw [turnCell_zero]), (Below.refl _ _).alloc (Nat.le_refl _) _⟩
    case round =>
      obtain ⟨k, hk, hg, rfl, hrow, hbel⟩ := hrel
      have HR := hid hrow
      have HB := hid hbel
      clear hrow hbel hmk
      by_cases hlt : k < n
      · obtain ⟨X, hX, hXL, gX⟩ := HX.out k hlt
        have gk : wr.cell? ⟨b, o + k, none⟩ = some (.int .i64 (X : Int)) := (HB.out.cell (p := ⟨b, o + k, none⟩) hb).trans gX
        have HXX := hid hX
        clear hX gX
        go_wp2
        obtain ⟨w8, hw8⟩ : ∃ w8, w8 = wr := ⟨_, rfl⟩
        rw [← hw8] at HR HB
        rw [← hw8]
        clear hw8 gk
        go_loopg [28] X (fun g s wr => ∃ i : Nat, i ≤ X ∧ X - i ≤ g ∧ s = .int .i64 i ∧ wr.rowIs w.heap.size 3 L (turnCell xs k i) ∧ Below w.heap.size w wr)
        case atStart => exact ⟨0, Nat.zero_le _, by omega, rfl, HR.out, HB.out⟩
        case round =>
          obtain ⟨i, hi, hg2, rfl, hrow, hbel⟩ := hrel
          have HR2 := hid hrow
          have HB2 := hid hbel
          clear hrow hbel HR HB
          by_cases hlt2 : i < X
          · have hiL : i < L := by omega
            have g1 : wr.cell? ⟨w.heap.size, i, none⟩ = some (.int .i64 ((above (xs.take k) i : Nat) : Int)) := by
              have := HR2.out.cell hiL
              rw [this]
              unfold turnCell
              rw [if_neg (by omega), Nat.add_zero]
            have f1 : wr.frozen? ⟨w.heap.size, i, none⟩ = false := HR2.out.frozen i
            have hab := above_le (xs.take k) i
            have hab2 : above (xs.take k) i ≤ 40 := by rw [List.length_take] at hab; omega
            have HST := hid (fun j => turnCell_step xs k i j)
            clear hab
            generalize above (xs.take k) i = a at *
            go_wp2
            go_roundg (X - (i + 1))
            case measure => omega
            case rel => exact ⟨i + 1, by omega, by omega, by go_num, (HR2.out.set i (.int .i64 ((a : Int) + 1))).congr (fun j _ => HST.out j), HB2.out.setCell (Nat.le_refl _) _⟩
          · have hiX : i = X := by omega
            subst hiX
            go_wp2
            go_roundg (n - (k + 1))
            case measure => omega
            case rel => exact ⟨k + 1, by omega, by omega, by go_num, HR2.out.congr (fun j _ => turnCell_next (by rw [HL.out]; exact hlt) HXX.out j), HB2.out⟩
      · have hkn : k = n := by omega
        subst hkn
        go_wp2
        go_ret2
        refine ⟨_, rfl, own_of_rowIs HR.out (by rw [length_conj, HLL.out]; rfl) (fun j hj => ?_) (Nat.le_refl _) (by unfold maxLen; omega), HB.out⟩
        rw [getD_conj (by rw [HLL.out]; exact hj)]
        unfold turnCell
        rw [List.take_of_length_le (by rw [HL.out]; exact Nat.le_refl _), if_neg (by omega), Nat.add_zero]
theorem turned_ok (A : Option Addr) (n c : Nat) (xs : List Int) (w : World) (h : Ints w A n xs) (hp : IsPart xs) :
    Calls Tryd.prog 21 #[.slice A n c] w (RetInts w (conj xs) 0) := by
  refine (turned_own A n c xs w h hp).mono ?_
  rintro e w' ⟨v, rfl, ho, hbel⟩
  obtain ⟨A', c', rfl, hI, hc⟩ := ho.ints
  exact ⟨_, _, _, rfl, hbel, hI, hc⟩

end Go.Proofs.YtmdpfadfimodjaaDoor

/-
  parts.Odd (P21).
-/
namespace Go.Proofs.YtmdpfadfimodjaaDoor
open Go.RowKit

/-- Natural numbers as ints. -/
def ofN (ns : List Nat) : List Int := ns.map (fun n : Nat => (n : Int))
theorem length_ofN (ns : List Nat) : (ofN ns).length = ns.length := by simp [ofN]
theorem ofN_append (a b : List Nat) : ofN (a ++ b) = ofN a ++ ofN b := by simp [ofN]
theorem getD_ofN (ns : List Nat) (j : Nat) : (ofN ns).getD j 0 = ((ns.getD j 0 : Nat) : Int) := by
  simp only [ofN, List.getD_eq_getElem?_getD, List.getElem?_map]
  rcases ns[j]? with _ | x <;> rfl
theorem sum_ofN (ns : List Nat) : (ofN ns).sum = ((ns.sum : Nat) : Int) := by
  induction ns with
  | nil => rfl
  | cons x m ih =>
    show (x : Int) + (ofN m).sum = _
    rw [ih, List.sum_cons]
    omega
theorem take_snocN {m : List Nat} {k : Nat} (hk : k < m.length) : m.take (k + 1) = m.take k ++ [m.getD k 0] := by
  rw [List.take_add_one, List.getD_eq_getElem?_getD, List.getElem?_eq_getElem hk]
  rfl
theorem getD_memN {m : List Nat} {k : Nat} (hk : k < m.length) : m.getD k 0 ∈ m := by
  rw [List.getD_eq_getElem?_getD, List.getElem?_eq_getElem hk]
  exact List.getElem_mem hk
theorem mem_getDN {m : List Nat} {x : Nat} (h : x ∈ m) : ∃ k, k < m.length ∧ m.getD k 0 = x := by
  obtain ⟨k, hk, e⟩ := List.getElem_of_mem h
  refine ⟨k, hk, ?_⟩
  rw [List.getD_eq_getElem?_getD, List.getElem?_eq_getElem hk]
  exact e
/-- A right sum is of natural numbers. -/
theorem ofN_of {xs : List Int} (h : IsPart xs) : ∃ ns, xs = ofN ns := by
  refine ⟨xs.map Int.toNat, ?_⟩
  rw [ofN, List.map_map]
  conv => lhs; rw [← List.map_id xs]
  refine List.map_congr_left fun x hx => ?_
  obtain ⟨k, hk, e⟩ := List.getElem_of_mem hx
  have := h.ge hk
  rw [List.getD_eq_getElem?_getD, List.getElem?_eq_getElem hk, e] at this
  simp at this ⊢
  omega
theorem part_mem {ns : List Nat} (h : IsPart (ofN ns)) {x : Nat} (hx : x ∈ ns) : 0 < x ∧ x ≤ 40 := by
  obtain ⟨k, hk, rfl⟩ := mem_getDN hx
  have h1 := h.ge (j := k) (by rw [length_ofN]; exact hk)
  have h2 := h.le (j := k) (by rw [length_ofN]; exact hk)
  rw [getD_ofN] at h1 h2
  omega
theorem part_falls {ns : List Nat} (h : IsPart (ofN ns)) : ns.Pairwise (· ≥ ·) := by
  rw [List.pairwise_iff_getElem]
  intro i j hi hj hij
  have := h.mono (Nat.le_of_lt hij) (by rw [length_ofN]; exact hj)
  rw [getD_ofN, getD_ofN, List.getD_eq_getElem?_getD, List.getD_eq_getElem?_getD, List.getElem?_eq_getElem hi, List.getElem?_eq_getElem hj] at this
  simpa using this
theorem part_sumN {ns : List Nat} (h : IsPart (ofN ns)) : ns.sum ≤ 40 := by
  have := h.sum_le
  rw [sum_ofN] at this
  omega
theorem part_lenN {ns : List Nat} (h : IsPart (ofN ns)) : ns.length ≤ 40 := by
  have := h.length_le
  rwa [length_ofN] at this
theorem part_mkN {ns : List Nat} (h0 : ∀ x ∈ ns, 0 < x) (hf : ns.Pairwise (· ≥ ·)) (hs : ns.sum ≤ 40) : IsPart (ofN ns) := by
  refine isPart_mk (fun j hj => ?_) (fun j hj => ?_) (by rw [sum_ofN]; omega)
  · rw [length_ofN] at hj
    have := h0 _ (getD_memN hj)
    rw [getD_ofN]
    omega
  · rw [length_ofN] at hj
    have := List.pairwise_iff_getElem.1 hf j (j + 1) (by omega) hj (by omega)
    rw [getD_ofN, getD_ofN, List.getD_eq_getElem?_getD, List.getD_eq_getElem?_getD, List.getElem?_eq_getElem hj, List.getElem?_eq_getElem (show j < ns.length by omega)]
    simp
    omega

theorem cO_le (m : List Nat) (d : Nat) : cO m d ≤ 32 * m.length := by
  induction m with
  | nil => simp [cO]
  | cons x m ih =>
    rw [cO_cons, List.length_cons]
    have := pwr_le x
    split <;> omega
theorem cO_snoc (m : List Nat) (x d : Nat) : cO (m ++ [x]) d = cO m d + (if odp x = d then pwr x else 0) := by rw [cO_append, cO_cons, cO_nil]; omega
theorem length_down {c : Nat → Nat} {B : Nat} (h : ∀ x, c x ≤ B) (k : Nat) : (down c k).length ≤ k * B := by
  induction k with
  | zero => simp [down]
  | succ k ih =>
    rw [down, List.length_append, List.length_replicate, Nat.add_mul]
    have := h (k + 1)
    omega

theorem zeros_start (w : World) : (w.alloc (Obj.cells #[Value.int .i64 0, Value.int .i64 0, Value.int .i64 0, Value.int .i64 0, Value.int .i64 0, Value.int .i64 0, Value.int .i64 0, Value.int .i64 0, Value.int .i64 0, Value.int .i64 0, Value.int .i64 0, Value.int .i64 0, Value.int .i64 0, Value.int .i64 0, Value.int .i64 0, Value.int .i64 0, Value.int .i64 0, Value.int .i64 0, Value.int .i64 0, Value.int .i64 0, Value.int .i64 0, Value.int .i64 0, Value.int .i64 0, Value.int .i64 0, Value.int .i64 0, Value.int .i64 0, Value.int .i64 0, Value.int .i64 0, Value.int .i64 0, Value.int .i64 0, Value.int .i64 0, Value.int .i64 0, Value.int .i64 0, Value.int .i64 0, Value.int .i64 0, Value.int .i64 0, Value.int .i64 0, Value.int .i64 0, Value.int .i64 0, Value.int .i64 0, Value.int .i64 0] 45)).rowIs w.heap.size 45 41 (fun _ => .int .i64 0) := by
  refine World.rowIs_alloc w _ _ _ fun i hi => ?_
  have hi' : i < 41 := by simpa using hi
  clear hi
  iterate 41
    rcases i with _ | i
    · rfl
  omega

/-- No number beside its like. -/
def NoTwin (ns : List Nat) (k : Nat) : Prop := ∀ j, 0 < j → j < k → ns.getD j 0 ≠ ns.getD (j - 1) 0
theorem falls_gt {ns : List Nat} (hf : ns.Pairwise (· ≥ ·)) (h : NoTwin ns ns.length) : ns.Pairwise (· > ·) := by
  rw [List.pairwise_iff_getElem] at hf ⊢
  intro i j hi hj hij
  have h1 := hf (j - 1) j (by omega) hj (by omega)
  have h2 := h j (by omega) hj
  rw [List.getD_eq_getElem?_getD, List.getD_eq_getElem?_getD, List.getElem?_eq_getElem hj, List.getElem?_eq_getElem (show j - 1 < ns.length by omega)] at h2
  simp only [Option.getD_some] at h2
  rcases Nat.lt_or_ge i (j - 1) with h3 | h3
  · have := hf i (j - 1) hi (by omega) h3
    omega
  · have e : i = j - 1 := by omega
    subst e
    omega

/-- What comes back: a refusal where two are alike, else the odd numbers. -/
def RetOddO (w : World) (ns : List Nat) (e : Ending) (w' : World) : Prop :=
  (¬ NoTwin ns ns.length ∧ e = .returned (.tuple #[.slice none 0 0, .int .i64 3]) ∧ Below w.heap.size w w') ∨ (NoTwin ns ns.length ∧ RetOwnE w (ofN (down (cO ns) 40)) 0 e w')
def RetOdd (w : World) (ns : List Nat) (e : Ending) (w' : World) : Prop :=
  (¬ NoTwin ns ns.length ∧ e = .returned (.tuple #[.slice none 0 0, .int .i64 3]) ∧ Below w.heap.size w w') ∨ (NoTwin ns ns.length ∧ RetInts w (ofN (down (cO ns) 40)) 0 e w')

set_option maxHeartbeats 800000 in
theorem odd_bad (A : Option Addr) (n c : Nat) (xs : List Int) (w : World) (h : Ints w A n xs) (hm : n ≤ 9223372036854775807) (he : partErr xs ≠ 0) :
    Calls Tryd.prog 22 #[.slice A n c] w fun e w' => e = .returned (.tuple #[.slice none 0 0, .int .i64 (partErr xs)]) ∧ w = w' := by
  generalize hq : partErr xs = er at *
  have he' : (er != 0) = true := by simpa using he
  have HQ := hid hq
  clear hq
  go_enter Tryd.func22, Tryd.ntmps22
  go_wp2_with fail
  refine (pcheck_any A n c xs _ h hm).mono ?_
  rintro e w' ⟨rfl, rfl⟩
  rw [HQ.out]
  go_wp2
  go_ret2
  exact ⟨rfl, rfl⟩

set_option maxHeartbeats 3000000 in
set_option maxRecDepth 100000 in
theorem odd_own (A : Option Addr) (n c : Nat) (ns : List Nat) (w : World) (h : Ints w A n (ofN ns)) (hp : IsPart (ofN ns)) (ht : Tab64 w) :
    Calls Tryd.prog 22 #[.slice A n c] w (RetOddO w ns) := by
  have hlen : ns.length = n := by rw [← h.len, length_ofN]
  have hn : n ≤ 40 := by rw [← hlen]; exact part_lenN hp
  have HL := hid hlen
  have HP := hid hp
  have HI := hid h
  have HT := hid ht
  have HX : Hid (∀ k, k < n → 0 < ns.getD k 0 ∧ ns.getD k 0 ≤ 40) := fun k hk => part_mem hp (getD_memN (by omega))
  have HC : Hid (0 < n → ∃ b o, A = some ⟨b, o, none⟩ ∧ b < w.heap.size ∧ ∀ k, k < n → w.cell? ⟨b, o + k, none⟩ = some (.int .i64 ((ns.getD k 0 : Nat) : Int))) := by
    intro h0
    obtain ⟨b, o, e, hb, hc⟩ := h.row h0
    exact ⟨b, o, e, hb, fun k hk => by rw [hc k hk, getD_ofN]⟩
  clear h hp ht hlen
  go_enter Tryd.func22, Tryd.ntmps22
  go_wp2_with fail
  refine (pcheck_any A n c (ofN ns) _ HI.out (by omega)).mono ?_
  rintro e w' ⟨rfl, rfl⟩
  rw [partErr_ok HP.out]
  go_wp2_with fail
  go_loopg [19] n (fun g s wr => ∃ k : Nat, k ≤ n ∧ n - k ≤ g ∧ s = .int .i64 (k : Int) ∧ wr.rowIs w.heap.size 45 41 (fun j => .int .i64 ((cO (ns.take k) j : Nat) : Int)) ∧ Below w.heap.size w wr ∧ NoTwin ns k)
  case atStart => exact ⟨0, Nat.zero_le _, by omega, rfl, zeros_start w, (Below.refl _ _).alloc (Nat.le_refl _) _, fun j h0 h1 => by omega⟩
  case round =>
    obtain ⟨k, hk, hg, rfl, hrow, hbel, htw⟩ := hrel
    have HR := hid hrow
    have HB := hid hbel
    have HTW := hid htw
    clear hrow hbel htw
    by_cases hlt : k < n
    · obtain ⟨b, o, hA, hb, hc⟩ := HC.out (by omega)
      have g1 : wr.cell? ⟨b, o + k, none⟩ = some (.int .i64 ((ns.getD k 0 : Nat) : Int)) := (HB.out.cell (p := ⟨b, o + k, none⟩) hb).trans (hc k hlt)
      have HCC := hid hc
      have hx := HX.out k hlt
      subst hA
      clear hc
      have HSN : Hid (∀ j, cO (ns.take (k + 1)) j = cO (ns.take k) j + (if odp (ns.getD k 0) = j then pwr (ns.getD k 0) else 0)) := fun j => by rw [take_snocN (by rw [HL.out]; exact hlt), cO_snoc]
      obtain ⟨_, _, ho40, _⟩ := od_at hx.1 hx.2
      have hpw := pwr_le (ns.getD k 0)
      have hcb := cO_le (ns.take k) (odp (ns.getD k 0))
      rw [List.length_take, HL.out] at hcb
      have hcb2 : cO (ns.take k) (odp (ns.getD k 0)) ≤ 1280 := by omega
      clear hcb
      by_cases h0 : k = 0
      · subst h0
        rw [Nat.add_zero] at g1
        have HNE : Hid (NoTwin ns (0 + 1)) := fun j h1 h2 => by omega
        clear HX HCC
        generalize ns.getD 0 0 = x at *
        go_wp2_with fail
        refine (split_any x _ (HT.out.keep HB.out) hx.1 hx.2).mono ?_
        rintro e w5 ⟨rfl, hb5⟩
        have HB5 := hid (below_step HB.out (Nat.le_refl _) hb5)
        have HR5 := hid (HR.out.of_block (hb5.block w.heap.size HR.out.lt))
        clear hb5 g1
        have g3 : w5.cell? ⟨w.heap.size, odp x, none⟩ = some (.int .i64 ((cO (ns.take 0) (odp x) : Nat) : Int)) := HR5.out.cell (by omega)
        have f3 : w5.frozen? ⟨w.heap.size, odp x, none⟩ = false := HR5.out.frozen (odp x)
        have ho41 : odp x < 41 := by omega
        have hoi : ((odp x : Nat) : Int) < 41 := by omega
        have HUP : Hid (∀ j, (if j = odp x then Value.int .i64 (((cO (ns.take 0) (odp x) : Nat) : Int) + ((pwr x : Nat) : Int)) else .int .i64 ((cO (ns.take 0) j : Nat) : Int)) = .int .i64 ((cO (ns.take (0 + 1)) j : Nat) : Int)) := by
          intro j
          rw [HSN.out j]
          by_cases e : j = odp x
          · subst e
            rw [if_pos rfl, if_pos rfl]
            rfl
          · rw [if_neg e, if_neg (fun h => e h.symm)]
            rfl
        clear HSN
        generalize cO (ns.take 0) (odp x) = C at *
        generalize odp x = D at *
        generalize pwr x = P at *
        go_wp2
        go_roundg (n - (0 + 1))
        case measure => omega
        case rel => exact ⟨0 + 1, by omega, by omega, by go_num, (HR5.out.set D (.int .i64 ((C : Int) + (P : Int)))).congr (fun j _ => HUP.out j), HB5.out.setCell (Nat.le_refl _) _, HNE.out⟩
      · obtain ⟨m, hkm⟩ : ∃ m, k = m + 1 := ⟨k - 1, by omega⟩
        have g2 : wr.cell? ⟨b, o + m, none⟩ = some (.int .i64 ((ns.getD m 0 : Nat) : Int)) := (HB.out.cell (p := ⟨b, o + m, none⟩) hb).trans (HCC.out m (by omega))
        have HKM := hid hkm
        have hd : decide (0 < k) = true := by simp; omega
        have hwr : IntKind.i64.wrap ((k : Int) - 1) = (m : Int) := by rw [IntWalk.i64_in _ (by omega)]; omega
        have hmn : m < n := by omega
        have hmN : (m : Int) < (n : Int) := by omega
        clear hkm
        by_cases heq : ns.getD k 0 = ns.getD m 0
        · have HNT : Hid (¬ NoTwin ns ns.length) := fun h => h k (by omega) (by rw [HL.out]; exact hlt) (by have e := HKM.out; rw [show k - 1 = m by omega]; exact heq)
          have heb : (((ns.getD k 0 : Nat) : Int) == ((ns.getD m 0 : Nat) : Int)) = true := by rw [heq]; exact beq_self_eq_true _
          clear heq HSN HX HCC
          generalize ns.getD k 0 = x at *
          generalize ns.getD m 0 = y at *
          go_wp2
          go_ret2
          exact Or.inl ⟨HNT.out, rfl, HB.out⟩
        · have HNE : Hid (NoTwin ns (k + 1)) := fun j h1 h2 => by
            by_cases e : j = k
            · rw [e, show k - 1 = m by have := HKM.out; omega]
              exact heq
            · exact HTW.out j h1 (by omega)
          have heb : (((ns.getD k 0 : Nat) : Int) == ((ns.getD m 0 : Nat) : Int)) = false := beq_eq_false_iff_ne.2 (fun e => heq (Int.ofNat_inj.1 e))
          clear heq HX HCC
          generalize ns.getD m 0 = y at *
          generalize ns.getD k 0 = x at *
          go_wp2_with fail
          refine (split_any x _ (HT.out.keep HB.out) hx.1 hx.2).mono ?_
          rintro e w5 ⟨rfl, hb5⟩
          have HB5 := hid (below_step HB.out (Nat.le_refl _) hb5)
          have HR5 := hid (HR.out.of_block (hb5.block w.heap.size HR.out.lt))
          clear hb5 g1
          have g3 : w5.cell? ⟨w.heap.size, odp x, none⟩ = some (.int .i64 ((cO (ns.take k) (odp x) : Nat) : Int)) := HR5.out.cell (by omega)
          have f3 : w5.frozen? ⟨w.heap.size, odp x, none⟩ = false := HR5.out.frozen (odp x)
          have ho41 : odp x < 41 := by omega
          have hoi : ((odp x : Nat) : Int) < 41 := by omega
          have HUP : Hid (∀ j, (if j = odp x then Value.int .i64 (((cO (ns.take k) (odp x) : Nat) : Int) + ((pwr x : Nat) : Int)) else .int .i64 ((cO (ns.take k) j : Nat) : Int)) = .int .i64 ((cO (ns.take (k + 1)) j : Nat) : Int)) := by
            intro j
            rw [HSN.out j]
            by_cases e : j = odp x
            · subst e
              rw [if_pos rfl, if_pos rfl]
              rfl
            · rw [if_neg e, if_neg (fun h => e h.symm)]
              rfl
          clear HSN
          generalize cO (ns.take k) (odp x) = C at *
          generalize odp x = D at *
          generalize pwr x = P at *
          go_wp2
          go_roundg (n - (k + 1))
          case measure => omega
          case rel => exact ⟨k + 1, by omega, by omega, by go_num, (HR5.out.set D (.int .i64 ((C : Int) + (P : Int)))).congr (fun j _ => HUP.out j), HB5.out.setCell (Nat.le_refl _) _, HNE.out⟩
    · have hkn : n = k := by omega
      subst hkn
      have HTK : Hid (ns.take n = ns) := List.take_of_length_le (by rw [HL.out]; exact Nat.le_refl _)
      rw [HTK.out] at HR
      have HTN : Hid (NoTwin ns ns.length) := by rw [HL.out]; exact HTW.out
      have HCB : Hid (∀ d, cO ns d ≤ 1280) := fun d => by
        have h1 := cO_le ns d
        have h2 := HL.out
        omega
      have HDL := hid (length_down (c := cO ns) (B := 1280) HCB.out 40)
      have hlast := HR.out.lt
      obtain ⟨w1, hw1⟩ : ∃ w1, w1 = wr := ⟨_, rfl⟩
      rw [← hw1] at HR HB hlast
      rw [← hw1]
      clear hw1 HTW hk hg hlt
      generalize hcq : cO ns = cc at *
      have HCQ := hid hcq
      clear hcq
      go_wp2_with fail
      go_loopg [10, 11] 40 (fun g v t wr => ∃ (p : Nat) (acc : List Nat), p ≤ 40 ∧ p ≤ g ∧ t = .int .i64 (p : Int) ∧ OwnInts wr (w.heap.size + 1) v (ofN acc) ∧ acc ++ down cc p = down cc 40 ∧ Below (w.heap.size + 1) w1 wr)
      case atStart => exact ⟨40, [], by omega, by omega, rfl, OwnInts.nil _ _, rfl, Below.refl _ _⟩
      case round =>
        obtain ⟨p, acc, hp40, hpg, rfl, hown, hacc, hbel⟩ := hrel
        have HO := hid hown
        have HA := hid hacc
        have HB1 := hid hbel
        clear hown hacc hbel
        by_cases hp1 : 1 ≤ p
        · have hpi : (1 : Int) ≤ (p : Int) := by omega
          have hp41 : (p : Int) < 41 := by omega
          have hpn : p < 41 := by omega
          obtain ⟨q, hq⟩ : ∃ q, p = q + 1 := ⟨p - 1, by omega⟩
          have HQ := hid hq
          have HDQ : Hid (down cc p = List.replicate (cc p) p ++ down cc q) := by rw [hq]; exact rfl
          clear hq
          have g1 : wr.cell? ⟨w.heap.size, p, none⟩ = some (.int .i64 ((cc p : Nat) : Int)) := (HB1.out.cell (p := ⟨w.heap.size, p, none⟩) (Nat.lt_succ_self _)).trans (HR.out.cell hpn)
          have hcb := HCB.out p
          have HLN : Hid (acc.length + cc p ≤ 51200) := by
            have e := congrArg List.length HA.out
            rw [HDQ.out] at e
            simp only [List.length_append, List.length_replicate] at e
            have := HDL.out
            exact show acc.length + cc p ≤ 51200 by omega
          generalize cc p = C at *
          go_wp2_with fail
          obtain ⟨w8, hw8⟩ : ∃ w8, w8 = wr := ⟨_, rfl⟩
          rw [← hw8] at HO HB1
          rw [← hw8]
          clear hw8 g1
          go_loopg [10, 54] C (fun g v t wq => ∃ j : Nat, j ≤ C ∧ C - j ≤ g ∧ t = .int .i64 (j : Int) ∧ OwnInts wq (w.heap.size + 1) v (ofN (acc ++ List.replicate j p)) ∧ Below (w.heap.size + 1) w1 wq)
          case atStart => exact ⟨0, Nat.zero_le _, by omega, rfl, by simpa using HO.out, HB1.out⟩
          case round =>
            obtain ⟨j, hj, hg2, rfl, ho2, hb2⟩ := hrel
            have HO2 := hid ho2
            have HB2 := hid hb2
            clear ho2 hb2 HO HB1
            by_cases hlt2 : j < C
            · have HLL : Hid ((ofN (acc ++ List.replicate j p)).length ≤ 1000000000000) := by
                have := HLN.out
                rw [length_ofN, List.length_append, List.length_replicate]
                exact show acc.length + j ≤ 1000000000000 by omega
              have HSZ : Hid (w.heap.size + 1 ≤ wr.heap.size) := Nat.le_trans hlast HB2.out.size
              have HRP : Hid (ofN (acc ++ List.replicate j p) ++ [(p : Int)] = ofN (acc ++ List.replicate (j + 1) p)) := by
                have e : acc ++ List.replicate (j + 1) p = acc ++ List.replicate j p ++ [p] := by rw [List.replicate_succ', List.append_assoc]
                rw [e, ofN_append (acc ++ List.replicate j p) [p]]
                exact rfl
              generalize ofN (acc ++ List.replicate j p) = zs at *
              go_wp2_with (at_builtin; refine wpList_app1 _ rfl (.tmp 56) (.tmp 58) rfl (w.heap.size + 1) _ zs (p : Int) rfl rfl HO2.out HLL.out HSZ.out ?_)
              intro v' w3 hown3 _ hbel3
              have HO3 := hid hown3
              have HB3 := hid (HB2.out.trans hbel3)
              clear hown3 hbel3 HO2 HB2
              go_wp2
              go_roundg (C - (j + 1))
              case measure => omega
              case rel => exact ⟨j + 1, by omega, by omega, by go_num, by rw [← HRP.out]; exact HO3.out, HB3.out⟩
            · have hjc : C = j := by omega
              subst hjc
              go_wp2
              go_roundg q
              case measure => have := HQ.out; omega
              case rel =>
                have hq2 := HQ.out
                refine ⟨q, acc ++ List.replicate C p, by omega, by omega, ?_, HO2.out, ?_, HB2.out⟩
                · first | rfl | (rw [hq2]; go_num)
                · rw [List.append_assoc, ← HDQ.out]
                  exact HA.out
        · have hp0 : p = 0 := by omega
          subst hp0
          have HE := HA.out
          rw [down, List.append_nil] at HE
          have HBF := hid (HB.out.trans (HB1.out.mono (by omega)))
          go_wp2
          go_ret2
          exact Or.inr ⟨HTN.out, _, rfl, by rw [HCQ.out, ← HE]; exact HO.out.mono (Nat.le_succ _), HBF.out⟩
theorem odd_any (A : Option Addr) (n c : Nat) (ns : List Nat) (w : World) (h : Ints w A n (ofN ns)) (hp : IsPart (ofN ns)) (ht : Tab64 w) :
    Calls Tryd.prog 22 #[.slice A n c] w (RetOdd w ns) := by
  refine (odd_own A n c ns w h hp ht).mono ?_
  rintro e w' (h1 | ⟨h1, v, rfl, ho, hbel⟩)
  · exact .inl h1
  · obtain ⟨A', c', rfl, hI, hc⟩ := ho.ints
    exact .inr ⟨h1, _, _, _, rfl, hbel, hI, hc⟩

end Go.Proofs.YtmdpfadfimodjaaDoor
