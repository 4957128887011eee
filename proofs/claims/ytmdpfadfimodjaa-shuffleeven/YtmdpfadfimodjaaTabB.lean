/-
  Putting out again what was put in (P39; ROBINSON, SCHENSTED, KNUTH). Plain facts; no program, no memory.
-/
import Derived.Test.YtmdpfadfimodjaaTabK
namespace Go.Proofs.Ytmdpfadfimodjaa

def Srt (r : List Int) : Prop := r.Pairwise (· < ·)
/-- Row b may stand below row a. -/
def Fits (a b : List Int) : Prop := b.length ≤ a.length ∧ ∀ k, k < b.length → a.getD k 0 < b.getD k 0
/-- Rows that rise, each below the one above it (the last ones may be empty). -/
def TabL : List (List Int) → Prop
  | [] => True
  | r :: T => Srt r ∧ Fits r (T.headD []) ∧ TabL T

/-- Where the last number lies that is not greater. -/
def rpos (row : List Int) (y : Int) : Nat → Nat
  | 0 => 0
  | k + 1 => if y < row.getD (k + 1) 0 then rpos row y k else k + 1
def rout (y : Int) (row : List Int) : List Int × Int := (row.set (rpos row y (row.length - 1)) y, row.getD (rpos row y (row.length - 1)) 0)
/-- What is put out again, if row r became longer. -/
def trem : List (List Int) → Nat → List (List Int) × Int
  | [], _ => ([], 0)
  | row :: T, 0 => (row.dropLast :: T, row.getLastD 0)
  | row :: T, r + 1 => ((rout (trem T r).2 row).1 :: (trem T r).1, (rout (trem T r).2 row).2)

theorem getD_mid0 (l1 : List Int) (x : Int) (l2 : List Int) : (l1 ++ x :: l2).getD l1.length 0 = x := by
  rw [List.getD_eq_getElem?_getD, List.getElem?_append_right (Nat.le_refl _), Nat.sub_self]
  rfl
theorem getD_right0 (l1 : List Int) (x : Int) (l2 : List Int) (j : Nat) : (l1 ++ x :: l2).getD (l1.length + 1 + j) 0 = l2.getD j 0 := by
  rw [List.getD_eq_getElem?_getD, List.getElem?_append_right (by omega), show l1.length + 1 + j - l1.length = j + 1 by omega, List.getElem?_cons_succ, ← List.getD_eq_getElem?_getD]
theorem rpos_mid {l1 : List Int} {x : Int} {l2 : List Int} {y : Int} (hx : x ≤ y) (h2 : ∀ z ∈ l2, y < z) : ∀ d, d ≤ l2.length → rpos (l1 ++ x :: l2) y (l1.length + d) = l1.length
  | 0, _ => by
    rcases e : l1.length with _ | k
    · rfl
    · have h := getD_mid0 l1 x l2
      rw [Nat.add_zero, rpos, ← e, h, if_neg (by omega)]
  | d + 1, hd => by
    have h := getD_right0 l1 x l2 d
    have hm : l2.getD d 0 ∈ l2 := by
      rw [List.getD_eq_getElem?_getD, List.getElem?_eq_getElem (by omega)]
      exact List.getElem_mem (by omega)
    rw [show l1.length + (d + 1) = (l1.length + d) + 1 by omega, rpos, show l1.length + d + 1 = l1.length + 1 + d by omega, h, if_pos (h2 _ hm)]
    exact rpos_mid hx h2 d (by omega)
theorem rout_mid {l1 : List Int} {x : Int} {l2 : List Int} {y : Int} (hx : x ≤ y) (h2 : ∀ z ∈ l2, y < z) : rout y (l1 ++ x :: l2) = (l1 ++ y :: l2, x) := by
  have h := rpos_mid (l1 := l1) hx h2 l2.length (Nat.le_refl _)
  have hl : (l1 ++ x :: l2).length - 1 = l1.length + l2.length := by simp
  unfold rout
  rw [hl, h, getD_mid0, List.set_append_right _ _ (Nat.le_refl _), Nat.sub_self]
  rfl

/-- What was put in is put out. -/
theorem trem_tin : ∀ (T : List (List Int)) (x : Int) (E : List (List Int)), (∀ r ∈ T, Srt r) → trem ((tin T x).1 ++ E) (tin T x).2 = (T ++ (if (tin T x).2 = T.length then [] :: E else E), x)
  | [], x, E, _ => rfl
  | row :: T, x, E, h => by
    have hrow := h row (by simp)
    rcases rin_cases x row with h1 | ⟨l1, y, l2, rfl, h1, h2⟩
    · rw [tin_all T h1, if_neg (by simp)]
      simp [trem]
    · rw [tin_at l2 T h1 h2]
      have ih := trem_tin T y E (fun r hr => h r (by simp [hr]))
      have hy : ∀ z ∈ l2, y < z := by
        unfold Srt at hrow
        rw [List.pairwise_append] at hrow
        exact fun z hz => (List.pairwise_cons.1 hrow.2.1).1 z hz
      simp only [List.cons_append, trem, ih, rout_mid (show x ≤ y by omega) hy, List.length_cons, Nat.add_right_cancel_iff]

def tbk : List (List Int) → List Nat → List Int
  | _, [] => []
  | P, g :: gs => (trem P g).2 :: tbk (trem P g).1 gs
/-- Into which row each index went, the last first. -/
def gR : List Int → List Nat
  | [] => []
  | x :: w => (tin (rsR w).1 x).2 :: gR w
theorem gR_snoc (w : List Int) (x : Int) : gR (w ++ [x]).reverse = (tin (PT w) x).2 :: gR w.reverse := by simp [gR, PT]
theorem gR_length (w : List Int) : (gR w).length = w.length := by
  induction w with
  | nil => rfl
  | cons x w ih => simp [gR, ih]
theorem tbk_of (w : List Int) : (∀ u v, w = u ++ v → ∀ r ∈ PT u, Srt r) → ∀ E, tbk (PT w ++ E) (gR w.reverse) = w.reverse := by
  induction w using snoc_ind with
  | h0 => intro _ E; rfl
  | h1 w x ih =>
    intro h E
    rw [PT_snoc, gR_snoc, tbk, trem_tin _ _ _ (h w [x] rfl), ih (fun u v e => h u (v ++ [x]) (by rw [e, List.append_assoc]))]
    simp
/-- Each index lies in its row. -/
theorem mem_tadd_old {M y : Int} : ∀ {T : List (List Int)} {r i : Nat}, y ∈ T.getD i [] → y ∈ (tadd T r M).getD i []
  | [], r, i, h => by simp at h
  | row :: T, 0, 0, h => by
    simp only [tadd, List.getD_cons_zero] at h ⊢
    exact List.mem_append_left _ h
  | row :: T, 0, i + 1, h => by simpa [tadd] using h
  | row :: T, r + 1, 0, h => by simpa [tadd] using h
  | row :: T, r + 1, i + 1, h => by
    simp only [tadd, List.getD_cons_succ] at h ⊢
    exact mem_tadd_old (T := T) (r := r) (i := i) h
theorem mem_tadd_new {M : Int} : ∀ {T : List (List Int)} {r : Nat}, r ≤ T.length → M ∈ (tadd T r M).getD r []
  | [], r, h => by
    have : r = 0 := by simpa using h
    subst this
    simp [tadd]
  | row :: T, 0, _ => by simp [tadd]
  | row :: T, r + 1, h => by
    simp only [tadd, List.getD_cons_succ]
    exact mem_tadd_new (by simpa using h)
theorem gR_rows (w : List Int) : ∀ i, i < w.length → (i : Int) ∈ (QT w).getD ((gR w.reverse).reverse.getD i 0) [] := by
  induction w using snoc_ind with
  | h0 => intro i hi; simp at hi
  | h1 w x ih =>
    intro i hi
    rw [QT_snoc, gR_snoc, List.reverse_cons]
    have hl : (gR w.reverse).reverse.length = w.length := by rw [List.length_reverse, gR_length, List.length_reverse]
    rw [List.length_append, List.length_singleton] at hi
    by_cases e : i < w.length
    · have e2 : ((gR w.reverse).reverse ++ [(tin (PT w) x).2]).getD i 0 = (gR w.reverse).reverse.getD i 0 := by
        rw [List.getD_eq_getElem?_getD, List.getD_eq_getElem?_getD, List.getElem?_append_left (by rw [hl]; exact e)]
      rw [e2]
      exact mem_tadd_old (T := QT w) (ih i e)
    · have ei : i = w.length := by omega
      subst ei
      have e2 : ((gR w.reverse).reverse ++ [(tin (PT w) x).2]).getD w.length 0 = (tin (PT w) x).2 := by
        rw [List.getD_eq_getElem?_getD, List.getElem?_append_right (by rw [hl]; exact Nat.le_refl _), hl, Nat.sub_self]
        rfl
      rw [e2]
      exact mem_tadd_new (by rw [← PQ_length]; exact tin_le _ _)

/-! ### The other way round -/
theorem srt_getD {r : List Int} (h : Srt r) {i j : Nat} (hij : i < j) (hj : j < r.length) : r.getD i 0 < r.getD j 0 := by
  have := List.pairwise_iff_getElem.1 h i j (by omega) hj hij
  rw [List.getD_eq_getElem?_getD, List.getD_eq_getElem?_getD, List.getElem?_eq_getElem (by omega), List.getElem?_eq_getElem hj]
  exact this
theorem srt_of_getD {r : List Int} (h : ∀ i j, i < j → j < r.length → r.getD i 0 < r.getD j 0) : Srt r := by
  unfold Srt
  rw [List.pairwise_iff_getElem]
  intro i j hi hj hij
  have := h i j hij hj
  rw [List.getD_eq_getElem?_getD, List.getD_eq_getElem?_getD, List.getElem?_eq_getElem hi, List.getElem?_eq_getElem hj] at this
  exact this
/-- The last one that is not greater than y. -/
theorem last_le (y : Int) : ∀ (row : List Int), Srt row → (∃ z ∈ row, z ≤ y) → ∃ m1 x m2, row = m1 ++ x :: m2 ∧ x ≤ y ∧ ∀ z ∈ m2, y < z
  | [], _, ⟨z, hz, _⟩ => by simp at hz
  | a :: r, h, ⟨z, hz, hzy⟩ => by
    unfold Srt at h
    rw [List.pairwise_cons] at h
    by_cases h1 : ∃ z ∈ r, z ≤ y
    · obtain ⟨m1, x, m2, e, h2, h3⟩ := last_le y r h.2 h1
      exact ⟨a :: m1, x, m2, by rw [e]; rfl, h2, h3⟩
    · refine ⟨[], a, r, rfl, ?_, fun z hz => ?_⟩
      · rcases List.mem_cons.1 hz with rfl | hz
        · exact hzy
        · exact absurd ⟨z, hz, hzy⟩ h1
      · rcases Int.lt_or_le y z with h2 | h2
        · exact h2
        · exact absurd ⟨z, hz, h2⟩ h1

theorem getD_mem0 {l : List Int} {k : Nat} (hk : k < l.length) : l.getD k 0 ∈ l := by
  rw [List.getD_eq_getElem?_getD, List.getElem?_eq_getElem hk]
  exact List.getElem_mem hk
theorem getD_left0 (l1 : List Int) (l2 : List Int) {k : Nat} (hk : k < l1.length) : (l1 ++ l2).getD k 0 = l1.getD k 0 := by
  rw [List.getD_eq_getElem?_getD, List.getD_eq_getElem?_getD, List.getElem?_append_left hk]

structure Out (P P' : List (List Int)) (x : Int) (g : Nat) : Prop where
  tab : TabL P'
  put : tin P' x = (P, g)
  flat : P.flatten.Perm (x :: P'.flatten)
  len : P'.length = P.length
  lens : ∀ i, tlen P i = tlen P' i + (if i = g then 1 else 0)
  head : ∃ c, c < (P.headD []).length ∧ (P.headD []).getD c 0 = x ∧ (P'.headD []).length ≤ (P.headD []).length ∧ (∀ k, k < (P'.headD []).length → (P.headD []).getD k 0 ≤ (P'.headD []).getD k 0) ∧ (c < (P'.headD []).length → x < (P'.headD []).getD c 0)

theorem headD_mem {T : List (List Int)} {k : Nat} (hk : k < (T.headD []).length) : (T.headD []).getD k 0 ∈ T.flatten := by
  cases T with
  | nil => simp at hk
  | cons r T =>
    simp only [List.headD_cons] at hk ⊢
    rw [List.flatten_cons]
    exact List.mem_append_left _ (getD_mem0 hk)

theorem trem_out : ∀ (P : List (List Int)) (g : Nat), TabL P → P.flatten.Nodup → g < P.length → (P.getD (g + 1) []).length < (P.getD g []).length → Out P (trem P g).1 (trem P g).2 g
  | [], _, _, _, h, _ => absurd h (Nat.not_lt_zero _)
  | row :: T, 0, ht, hd, _, hc => by
    obtain ⟨hs, hf, hT⟩ := ht
    simp only [List.getD_cons_zero] at hc
    have hne : row ≠ [] := by rintro rfl; simp at hc
    obtain ⟨l, x, rfl⟩ : ∃ l x, row = l ++ [x] := by
      rcases List.eq_nil_or_concat row with h | ⟨l, x, h⟩
      · exact absurd h hne
      · exact ⟨l, x, by rw [h, List.concat_eq_append]⟩
    have e : trem ((l ++ [x]) :: T) 0 = (l :: T, x) := by simp [trem]
    rw [e]
    have hth : (T.headD []).length ≤ l.length := by
      cases T with
      | nil => simp
      | cons r T =>
        simp only [List.headD_cons, List.length_append, List.length_singleton] at hc ⊢
        simp at hc
        omega
    unfold Srt at hs
    rw [List.pairwise_append] at hs
    refine ⟨⟨hs.1, ⟨hth, fun k hk => ?_⟩, hT⟩, ?_, ?_, rfl, fun i => ?_, ⟨l.length, by simp, ?_, by simp, fun k hk => ?_, fun h => absurd h (by simp)⟩⟩
    · have := hf.2 k hk
      rwa [getD_left0 l [x] (by omega)] at this
    · exact tin_all T (fun z hz => hs.2.2 z hz x (by simp))
    · rw [List.flatten_cons, List.flatten_cons, List.append_assoc]
      exact List.perm_middle
    · rw [tlen_cons, tlen_cons]
      by_cases e : i = 0
      · simp [e]
      · simp [e]
    · simp only [List.headD_cons]
      exact getD_mid0 l x []
    · simp only [List.headD_cons] at hk ⊢
      rw [getD_left0 l [x] hk]
      exact Int.le_refl _
  | row :: T, g + 1, ht, hd, hg, hc => by
    obtain ⟨hs, hf, hT⟩ := ht
    rw [List.flatten_cons, List.nodup_append] at hd
    obtain ⟨hd1, hd2, hd3⟩ := hd
    have ih := trem_out T g hT hd2 (by simpa using hg) (by simpa using hc)
    generalize hq : trem T g = q at ih
    obtain ⟨T', y⟩ := q
    obtain ⟨i1, i2, i3, i4, i5, ⟨c, c1, c2, c3, c4, c5⟩⟩ := ih
    simp only at i1 i2 i3 i4 i5 c1 c2 c3 c4 c5
    have hcr : c < row.length := Nat.lt_of_lt_of_le c1 hf.1
    have hlt : row.getD c 0 < y := by have := hf.2 c c1; rwa [c2] at this
    obtain ⟨m1, x, m2, rfl, hxy, hm2⟩ := last_le y row hs ⟨_, getD_mem0 hcr, by omega⟩
    have hyT : y ∈ T.flatten := by rw [← c2]; exact headD_mem c1
    have hxne : x ≠ y := fun e => hd3 x (by simp) y hyT e
    have hcm : c ≤ m1.length := by
      rcases Nat.lt_or_ge m1.length c with h1 | h1
      · exfalso
        obtain ⟨j, rfl⟩ : ∃ j, c = m1.length + 1 + j := ⟨c - m1.length - 1, by omega⟩
        rw [getD_right0] at hlt
        have := hm2 _ (getD_mem0 (l := m2) (k := j) (by simp at hcr; omega))
        omega
      · exact h1
    have e : trem ((m1 ++ x :: m2) :: T) (g + 1) = ((m1 ++ y :: m2) :: T', x) := by
      rw [trem, hq, rout_mid hxy hm2]
    rw [e]
    have hs' := hs
    unfold Srt at hs'
    rw [List.pairwise_append, List.pairwise_cons] at hs'
    have hnew : ∀ k, k ≠ m1.length → (m1 ++ y :: m2).getD k 0 = (m1 ++ x :: m2).getD k 0 := by
      intro k hk
      rcases Nat.lt_or_ge k m1.length with h1 | h1
      · rw [getD_left0 _ _ h1, getD_left0 _ _ h1]
      · obtain ⟨j, rfl⟩ : ∃ j, k = m1.length + 1 + j := ⟨k - m1.length - 1, by omega⟩
        rw [getD_right0, getD_right0]
    refine ⟨⟨?_, ⟨?_, fun k hk => ?_⟩, i1⟩, ?_, ?_, by simp [i4], fun i => ?_, ⟨m1.length, by simp, ?_, by simp, fun k hk => ?_, fun _ => ?_⟩⟩
    · unfold Srt
      rw [List.pairwise_append, List.pairwise_cons]
      refine ⟨hs'.1, ⟨hm2, hs'.2.1.2⟩, fun a ha b hb => ?_⟩
      rcases List.mem_cons.1 hb with rfl | hb
      · have := hs'.2.2 a ha x (by simp)
        omega
      · exact hs'.2.2 a ha b (by simp [hb])
    · have := hf.1
      simp only [List.length_append, List.length_cons] at this ⊢
      omega
    · by_cases e1 : k = m1.length
      · subst e1
        rw [getD_mid0]
        by_cases e2 : c = m1.length
        · rw [← e2] at hk ⊢
          exact c5 hk
        · have h1 := c4 m1.length hk
          have hsT : Srt (T.headD []) := by
            cases T with
            | nil => exact List.Pairwise.nil
            | cons r T => exact hT.1
          have h2 := srt_getD hsT (show c < m1.length by omega) (Nat.lt_of_lt_of_le hk c3)
          omega
      · rw [hnew k e1]
        have h1 := hf.2 k (Nat.lt_of_lt_of_le hk c3)
        have h2 := c4 k hk
        omega
    · rw [tin_at m2 T' (fun z hz => hs'.2.2 z hz x (by simp)) (show ¬ y < x by omega), i2]
    · rw [List.flatten_cons, List.flatten_cons, List.append_assoc, List.append_assoc, List.cons_append, List.cons_append]
      refine List.perm_middle.trans (List.Perm.cons x ?_)
      refine List.Perm.append_left m1 ?_
      exact (List.Perm.append_left m2 i3).trans List.perm_middle
    · rw [tlen_cons, tlen_cons]
      by_cases e1 : i = 0
      · simp [e1]
      · rw [if_neg e1, if_neg e1, i5 (i - 1)]
        congr 1
        by_cases e2 : i - 1 = g
        · rw [if_pos e2, if_pos (by omega)]
        · rw [if_neg e2, if_neg (by omega)]
    · simp only [List.headD_cons]
      exact getD_mid0 m1 x m2
    · simp only [List.headD_cons] at hk ⊢
      by_cases e1 : k = m1.length
      · subst e1
        rw [getD_mid0, getD_mid0]
        exact hxy
      · rw [hnew k e1]
        exact Int.le_refl _
    · simp only [List.headD_cons]
      rw [getD_mid0]
      omega

/-- All empty. -/
def Emp (E : List (List Int)) : Prop := ∀ r ∈ E, r = []
theorem tin_app : ∀ (T E : List (List Int)) (x : Int), Emp E → tin (T ++ E) x = ((tin T x).1 ++ (if (tin T x).2 = T.length then E.tail else E), (tin T x).2)
  | [], [], x, _ => rfl
  | [], r :: E, x, h => by
    have : r = [] := h r (by simp)
    subst this
    rfl
  | row :: T, E, x, h => by
    rcases rin_cases x row with h1 | ⟨l1, y, l2, rfl, h1, h2⟩
    · rw [tin_all T h1, List.cons_append, tin_all _ h1, if_neg (by simp)]
      rfl
    · rw [tin_at l2 T h1 h2, List.cons_append, tin_at l2 _ h1 h2, tin_app T E y h]
      simp
theorem tadd_app : ∀ (T E : List (List Int)) (g : Nat) (M : Int), Emp E → g < (T ++ E).length → g ≤ T.length → (T ++ E).set g ((T ++ E).getD g [] ++ [M]) = tadd T g M ++ (if g = T.length then E.tail else E)
  | [], [], g, M, _, h, _ => absurd h (Nat.not_lt_zero _)
  | [], r :: E, g, M, h, _, h2 => by
    have : g = 0 := by simpa using h2
    subst this
    have : r = [] := h r (by simp)
    subst this
    simp [tadd]
  | row :: T, E, 0, M, h, _, _ => by simp [tadd]
  | row :: T, E, g + 1, M, h, h1, h2 => by
    have ih := tadd_app T E g M h (by simpa using h1) (by simpa using h2)
    simp only [List.cons_append, List.set_cons_succ, List.getD_cons_succ, tadd, ih, List.length_cons, Nat.add_right_cancel_iff]

theorem emp_tail {E : List (List Int)} (h : Emp E) : Emp E.tail := fun r hr => h r (List.mem_of_mem_tail hr)
theorem emp_of_lens {T : List (List Int)} (h : ∀ i, tlen T i = 0) : Emp T := by
  intro r hr
  obtain ⟨i, hi, rfl⟩ := List.getElem_of_mem hr
  have := h i
  rw [tlen, List.getD_eq_getElem?_getD, List.getElem?_eq_getElem hi] at this
  exact List.eq_nil_of_length_eq_zero this

/-- Row g cut short by its last number. -/
theorem cut_tab : ∀ (Q : List (List Int)) (g : Nat) (l : List Int) (M : Int), TabL Q → g < Q.length → Q.getD g [] = l ++ [M] → (Q.getD (g + 1) []).length ≤ l.length → TabL (Q.set g l)
  | [], _, _, _, _, h, _, _ => absurd h (Nat.not_lt_zero _)
  | row :: T, 0, l, M, ht, _, he, hc => by
    simp only [List.getD_cons_zero] at he
    subst he
    obtain ⟨hs, hf, hT⟩ := ht
    unfold Srt at hs
    rw [List.pairwise_append] at hs
    have hth : (T.headD []).length ≤ l.length := by
      cases T with
      | nil => simp
      | cons r T => simpa using hc
    refine ⟨hs.1, ⟨hth, fun k hk => ?_⟩, hT⟩
    have := hf.2 k hk
    rwa [getD_left0 l [M] (by omega)] at this
  | row :: T, g + 1, l, M, ht, hg, he, hc => by
    obtain ⟨hs, hf, hT⟩ := ht
    have ih := cut_tab T g l M hT (by simpa using hg) (by simpa using he) (by simpa using hc)
    refine ⟨hs, ?_, ih⟩
    cases g with
    | zero =>
      cases T with
      | nil => simp at hg
      | cons r T =>
        simp only [List.getD_cons_succ, List.getD_cons_zero] at he
        subst he
        simp only [List.set_cons_zero, List.headD_cons] at hf ⊢
        refine ⟨by have := hf.1; simp at this; omega, fun k hk => ?_⟩
        have := hf.2 k (by simp; omega)
        rwa [getD_left0 l [M] hk] at this
    | succ g =>
      cases T with
      | nil => simp at hg
      | cons r T => simpa using hf
theorem tlen_set {T : List (List Int)} {g : Nat} {l : List Int} (hg : g < T.length) (i : Nat) : tlen (T.set g l) i = if i = g then l.length else tlen T i := by
  unfold tlen
  simp only [List.getD_eq_getElem?_getD, List.getElem?_set]
  by_cases h : g = i
  · subst h
    simp [hg]
  · have h' : ¬ i = g := fun e => h e.symm
    simp [h, h']
theorem flat_set : ∀ {T : List (List Int)} {g : Nat} {l : List Int} {M : Int}, g < T.length → T.getD g [] = l ++ [M] → T.flatten.Perm (M :: (T.set g l).flatten)
  | [], _, _, _, h, _ => absurd h (Nat.not_lt_zero _)
  | row :: T, 0, l, M, _, he => by
    simp only [List.getD_cons_zero] at he
    subst he
    rw [List.set_cons_zero, List.flatten_cons, List.flatten_cons, List.append_assoc]
    exact List.perm_middle
  | row :: T, g + 1, l, M, hg, he => by
    rw [List.set_cons_succ, List.flatten_cons, List.flatten_cons]
    exact (List.Perm.append_left row (flat_set (by simpa using hg) (by simpa using he))).trans List.perm_middle
theorem tmem_flat {T : List (List Int)} {y : Int} (h : y ∈ T.flatten) : ∃ i, i < T.length ∧ y ∈ T.getD i [] := by
  obtain ⟨r, hr, hy⟩ := List.mem_flatten.1 h
  obtain ⟨i, hi, rfl⟩ := List.getElem_of_mem hr
  refine ⟨i, hi, ?_⟩
  rw [List.getD_eq_getElem?_getD, List.getElem?_eq_getElem hi]
  exact hy
theorem flat_mem {T : List (List Int)} {y : Int} {i : Nat} (h : y ∈ T.getD i []) : y ∈ T.flatten := by
  rcases Nat.lt_or_ge i T.length with h1 | h1
  · rw [List.getD_eq_getElem?_getD, List.getElem?_eq_getElem h1] at h
    exact List.mem_flatten.2 ⟨_, List.getElem_mem h1, h⟩
  · rw [List.getD_eq_getElem?_getD, List.getElem?_eq_none h1] at h
    simp at h
theorem tab_at : ∀ {T : List (List Int)} {i : Nat}, TabL T → Srt (T.getD i []) ∧ Fits (T.getD i []) (T.getD (i + 1) [])
  | [], i, _ => by
    simp only [List.getD_nil]
    exact ⟨List.Pairwise.nil, Nat.le_refl _, fun k hk => absurd hk (Nat.not_lt_zero _)⟩
  | r :: T, 0, h => by
    refine ⟨h.1, ?_⟩
    have := h.2.1
    cases T with
    | nil => simpa using this
    | cons r' T => simpa using this
  | r :: T, i + 1, h => by simpa using tab_at (T := T) (i := i) h.2.2

/-- ROBINSON, SCHENSTED, KNUTH: two tableaux of one form tell a list. -/
theorem back_all : ∀ (n : Nat) (P Q : List (List Int)) (G : List Nat), TabL P → P.flatten.Nodup → TabL Q → (∀ i, tlen P i = tlen Q i) → P.length = Q.length → Q.flatten.Nodup → (∀ y, y ∈ Q.flatten ↔ 0 ≤ y ∧ y < (n : Int)) → G.length = n → (∀ i y, y ∈ Q.getD i [] → G.getD y.toNat 0 = i) →
    ∃ E E', Emp E ∧ Emp E' ∧ (tbk P G.reverse).length = n ∧ P = PT (tbk P G.reverse).reverse ++ E ∧ Q = QT (tbk P G.reverse).reverse ++ E'
  | 0, P, Q, G, _, _, _, hl, _, _, hm, hG, _ => by
    have hG0 : G = [] := List.eq_nil_of_length_eq_zero hG
    subst hG0
    have hQ : Emp Q := by
      intro r hr
      rcases r with _ | ⟨y, r⟩
      · rfl
      · have := (hm y).1 (List.mem_flatten.2 ⟨_, hr, by simp⟩)
        omega
    have hP : Emp P := emp_of_lens (fun i => by
      rw [hl i, tlen]
      rcases Nat.lt_or_ge i Q.length with h1 | h1
      · rw [List.getD_eq_getElem?_getD, List.getElem?_eq_getElem h1]
        show (Q[i]).length = 0
        rw [hQ _ (List.getElem_mem h1)]
        rfl
      · rw [List.getD_eq_getElem?_getD, List.getElem?_eq_none h1]
        rfl)
    exact ⟨P, Q, hP, hQ, rfl, rfl, rfl⟩
  | n + 1, P, Q, G, tP, dP, tQ, hl, hle, dQ, hm, hG, hr => by
    obtain ⟨g, hg, hgm⟩ := tmem_flat ((hm (n : Int)).2 (by omega))
    have hGg := hr g _ hgm
    rw [Int.toNat_natCast] at hGg
    obtain ⟨G', hG'⟩ : ∃ G', G = G' ++ [g] := by
      rcases List.eq_nil_or_concat G with h | ⟨G', z, h⟩
      · subst h; simp at hG
      · rw [List.concat_eq_append] at h
        subst h
        rw [List.length_append, List.length_singleton] at hG
        have e : G'.length = n := by omega
        rw [List.getD_eq_getElem?_getD, List.getElem?_append_right (by omega), e, Nat.sub_self] at hGg
        simp at hGg
        exact ⟨G', by rw [hGg]⟩
    subst hG'
    have hGl : G'.length = n := by rw [List.length_append, List.length_singleton] at hG; omega
    -- the greatest is the last of its row
    obtain ⟨sg, fg⟩ := tab_at (T := Q) (i := g) tQ
    obtain ⟨a, b, hab⟩ := List.append_of_mem hgm
    have hb : b = [] := by
      rcases b with _ | ⟨z, b⟩
      · rfl
      · exfalso
        rw [hab] at sg
        unfold Srt at sg
        rw [List.pairwise_append, List.pairwise_cons] at sg
        have h1 := sg.2.1.1 z (by simp)
        have h2 := (hm z).1 (flat_mem (i := g) (by rw [hab]; simp))
        omega
    subst hb
    have hcut : (Q.getD (g + 1) []).length ≤ a.length := by
      have h1 := fg.1
      rw [hab, List.length_append, List.length_singleton] at h1
      rcases Nat.lt_or_ge a.length (Q.getD (g + 1) []).length with h2 | h2
      · exfalso
        have h3 := fg.2 a.length h2
        rw [hab, getD_mid0] at h3
        have h4 := (hm _).1 (flat_mem (i := g + 1) (getD_mem0 h2))
        omega
      · exact h2
    have hgP : g < P.length := by rw [hle]; exact hg
    have hcP : (P.getD (g + 1) []).length < (P.getD g []).length := by
      have h1 := hl (g + 1)
      have h2 := hl g
      unfold tlen at h1 h2
      rw [h1, h2, hab, List.length_append, List.length_singleton]
      omega
    have O := trem_out P g tP dP hgP hcP
    have tQ' := cut_tab Q g a n tQ hg hab hcut
    have fQ := flat_set hg hab
    have dQ2 := fQ.nodup_iff.1 dQ
    rw [List.nodup_cons] at dQ2
    have dP2 := O.flat.nodup_iff.1 dP
    rw [List.nodup_cons] at dP2
    have hgetQ : ∀ i, (Q.set g a).getD i [] = if i = g then a else Q.getD i [] := by
      intro i
      simp only [List.getD_eq_getElem?_getD, List.getElem?_set]
      by_cases h : g = i
      · subst h
        simp [hg]
      · have h' : ¬ i = g := fun e => h e.symm
        simp [h, h']
    obtain ⟨E, E', hE, hE', hbl, hP, hQ⟩ := back_all n (trem P g).1 (Q.set g a) G' O.tab dP2.2 tQ' (fun i => by
        have h1 := O.lens i
        have h2 := hl i
        rw [tlen_set hg]
        by_cases e : i = g
        · subst e
          have h3 : tlen Q i = a.length + 1 := by unfold tlen; rw [hab]; simp
          rw [if_pos rfl] at h1 ⊢
          omega
        · rw [if_neg e] at h1 ⊢
          omega) (by rw [O.len, List.length_set]; exact hle) dQ2.2 (fun y => by
        have h1 := hm y
        have h2 := fQ.mem_iff (a := y)
        rw [List.mem_cons] at h2
        constructor
        · intro h3
          have h4 := h1.1 (h2.2 (.inr h3))
          have h5 : y ≠ (n : Int) := fun e => dQ2.1 (e ▸ h3)
          omega
        · intro h3
          rcases h2.1 (h1.2 (by omega)) with h4 | h4
          · omega
          · exact h4) hGl (fun i y hy => by
        have hyQ : y ∈ Q.getD i [] := by
          rw [hgetQ i] at hy
          by_cases e : i = g
          · subst e
            rw [if_pos rfl] at hy
            rw [hab]
            exact List.mem_append_left _ hy
          · rwa [if_neg e] at hy
        have h1 := hr i y hyQ
        have h2 := (hm y).1 (flat_mem hyQ)
        have h3 : y ≠ (n : Int) := by
          rintro rfl
          exact dQ2.1 (flat_mem hy)
        rw [List.getD_eq_getElem?_getD, List.getElem?_append_left (by omega), ← List.getD_eq_getElem?_getD] at h1
        exact h1)
    have hbk : tbk P (G' ++ [g]).reverse = (trem P g).2 :: tbk (trem P g).1 G'.reverse := by
      rw [List.reverse_append, List.reverse_singleton, List.singleton_append, tbk]
    rw [hbk, List.reverse_cons]
    generalize hp : (tbk (trem P g).1 G'.reverse).reverse = p at hP hQ ⊢
    have hpl : p.length = n := by rw [← hp, List.length_reverse]; exact hbl
    have A := O.put
    rw [hP, tin_app (PT p) E _ hE] at A
    have A1 := congrArg Prod.fst A
    have A2 := congrArg Prod.snd A
    simp only at A1 A2
    have hgl : g ≤ (QT p).length := by rw [← A2, ← PQ_length]; exact tin_le _ _
    have B := tadd_app (QT p) E' g (n : Int) hE' (by rw [← hQ, List.length_set]; exact hg) hgl
    rw [← hQ, hgetQ g, if_pos rfl, List.set_set, ← hab] at B
    have hsame : Q.set g (Q.getD g []) = Q := by
      rw [List.getD_eq_getElem?_getD, List.getElem?_eq_getElem hg]
      exact List.set_getElem_self hg
    rw [hsame] at B
    refine ⟨if (tin (PT p) (trem P g).2).2 = (PT p).length then E.tail else E, if g = (QT p).length then E'.tail else E', ?_, ?_, by rw [List.length_cons, hbl], ?_, ?_⟩
    · split
      · exact emp_tail hE
      · exact hE
    · split
      · exact emp_tail hE'
      · exact hE'
    · rw [PT_snoc]
      exact A1.symm
    · rw [QT_snoc, A2, hpl]
      exact B

end Go.Proofs.Ytmdpfadfimodjaa
