/-
  Texts joined: TabB, TabC, TabD, TabI, TabF, TabG.
-/
import Derived.Test.YtbcjfiobggggjaaRowsOwnUptoPart3
import Derived.Lib.AppendZeros
import Derived.Lib.AppendZerosOnto
import Derived.Laws.AppendOwnNone

/-
  Putting out again what was put in (P39; ROBINSON, SCHENSTED, KNUTH). Plain facts; no program, no memory.
-/
namespace Go.Proofs.Ytbcjfiobggggjaa

def Srt (r : List Int) : Prop := r.Pairwise (· < ·)
/-- Row b may stand below row a. -/
def Fits (a b : List Int) : Prop := b.length ≤ a.length ∧ ∀ k, k < b.length → a.getD k 0 < b.getD k 0
/-- Rows that rise, each below the one above it (the last ones may be empty). -/
def TabL : List (List Int) → Prop
  | [] => True
  | r :: T => Srt r ∧ Fits r (T.headD []) ∧ TabL T

/-- Where the last number lies that is not greater. -/
def rpos (row : List Int) (y : Int) : Nat → Nat
  | 0 => 0
  | k + 1 => if y < row.getD (k + 1) 0 then rpos row y k else k + 1
def rout (y : Int) (row : List Int) : List Int × Int := (row.set (rpos row y (row.length - 1)) y, row.getD (rpos row y (row.length - 1)) 0)
/-- What is put out again, if row r became longer. -/
def trem : List (List Int) → Nat → List (List Int) × Int
  | [], _ => ([], 0)
  | row :: T, 0 => (row.dropLast :: T, row.getLastD 0)
  | row :: T, r + 1 => ((rout (trem T r).2 row).1 :: (trem T r).1, (rout (trem T r).2 row).2)

theorem getD_mid0 (l1 : List Int) (x : Int) (l2 : List Int) : (l1 ++ x :: l2).getD l1.length 0 = x := by
  rw [List.getD_eq_getElem?_getD, List.getElem?_append_right (Nat.le_refl _), Nat.sub_self]
  rfl
theorem getD_right0 (l1 : List Int) (x : Int) (l2 : List Int) (j : Nat) : (l1 ++ x :: l2).getD (l1.length + 1 + j) 0 = l2.getD j 0 := by
  rw [List.getD_eq_getElem?_getD, List.getElem?_append_right (by omega), show l1.length + 1 + j - l1.length = j + 1 by omega, List.getElem?_cons_succ, ← List.getD_eq_getElem?_getD]
theorem rpos_mid {l1 : List Int} {x : Int} {l2 : List Int} {y : Int} (hx : x ≤ y) (h2 : ∀ z ∈ l2, y < z) : ∀ d, d ≤ l2.length → rpos (l1 ++ x :: l2) y (l1.length + d) = l1.length
  | 0, _ => by
    rcases e : l1.length with _ | k
    · rfl
    · have h := getD_mid0 l1 x l2
      rw [Nat.add_zero, rpos, ← e, h, if_neg (by omega)]
  | d + 1, hd => by
    have h := getD_right0 l1 x l2 d
    have hm : l2.getD d 0 ∈ l2 := by
      rw [List.getD_eq_getElem?_getD, List.getElem?_eq_getElem (by omega)]
      exact List.getElem_mem (by omega)
    rw [show l1.length + (d + 1) = (l1.length + d) + 1 by omega, rpos, show l1.length + d + 1 = l1.length + 1 + d by omega, h, if_pos (h2 _ hm)]
    exact rpos_mid hx h2 d (by omega)
theorem rout_mid {l1 : List Int} {x : Int} {l2 : List Int} {y : Int} (hx : x ≤ y) (h2 : ∀ z ∈ l2, y < z) : rout y (l1 ++ x :: l2) = (l1 ++ y :: l2, x) := by
  have h := rpos_mid (l1 := l1) hx h2 l2.length (Nat.le_refl _)
  have hl : (l1 ++ x :: l2).length - 1 = l1.length + l2.length := by simp
  unfold rout
  rw [hl, h, getD_mid0, List.set_append_right _ _ (Nat.le_refl _), Nat.sub_self]
  rfl

/-- What was put in is put out. -/
theorem trem_tin : ∀ (T : List (List Int)) (x : Int) (E : List (List Int)), (∀ r ∈ T, Srt r) → trem ((tin T x).1 ++ E) (tin T x).2 = (T ++ (if (tin T x).2 = T.length then [] :: E else E), x)
  | [], x, E, _ => rfl
  | row :: T, x, E, h => by
    have hrow := h row (by simp)
    rcases rin_cases x row with h1 | ⟨l1, y, l2, rfl, h1, h2⟩
    · rw [tin_all T h1, if_neg (by simp)]
      simp [trem]
    · rw [tin_at l2 T h1 h2]
      have ih := trem_tin T y E (fun r hr => h r (by simp [hr]))
      have hy : ∀ z ∈ l2, y < z := by
        unfold Srt at hrow
        rw [List.pairwise_append] at hrow
        exact fun z hz => (List.pairwise_cons.1 hrow.2.1).1 z hz
      simp only [List.cons_append, trem, ih, rout_mid (show x ≤ y by omega) hy, List.length_cons, Nat.add_right_cancel_iff]

def tbk : List (List Int) → List Nat → List Int
  | _, [] => []
  | P, g :: gs => (trem P g).2 :: tbk (trem P g).1 gs
/-- Into which row each index went, the last first. -/
def gR : List Int → List Nat
  | [] => []
  | x :: w => (tin (rsR w).1 x).2 :: gR w
theorem gR_snoc (w : List Int) (x : Int) : gR (w ++ [x]).reverse = (tin (PT w) x).2 :: gR w.reverse := by simp [gR, PT]
theorem gR_length (w : List Int) : (gR w).length = w.length := by
  induction w with
  | nil => rfl
  | cons x w ih => simp [gR, ih]
theorem tbk_of (w : List Int) : (∀ u v, w = u ++ v → ∀ r ∈ PT u, Srt r) → ∀ E, tbk (PT w ++ E) (gR w.reverse) = w.reverse := by
  induction w using snoc_ind with
  | h0 => intro _ E; rfl
  | h1 w x ih =>
    intro h E
    rw [PT_snoc, gR_snoc, tbk, trem_tin _ _ _ (h w [x] rfl), ih (fun u v e => h u (v ++ [x]) (by rw [e, List.append_assoc]))]
    simp
/-- Each index lies in its row. -/
theorem mem_tadd_old {M y : Int} : ∀ {T : List (List Int)} {r i : Nat}, y ∈ T.getD i [] → y ∈ (tadd T r M).getD i []
  | [], r, i, h => by simp at h
  | row :: T, 0, 0, h => by
    simp only [tadd, List.getD_cons_zero] at h ⊢
    exact List.mem_append_left _ h
  | row :: T, 0, i + 1, h => by simpa [tadd] using h
  | row :: T, r + 1, 0, h => by simpa [tadd] using h
  | row :: T, r + 1, i + 1, h => by
    simp only [tadd, List.getD_cons_succ] at h ⊢
    exact mem_tadd_old (T := T) (r := r) (i := i) h
theorem mem_tadd_new {M : Int} : ∀ {T : List (List Int)} {r : Nat}, r ≤ T.length → M ∈ (tadd T r M).getD r []
  | [], r, h => by
    have : r = 0 := by simpa using h
    subst this
    simp [tadd]
  | row :: T, 0, _ => by simp [tadd]
  | row :: T, r + 1, h => by
    simp only [tadd, List.getD_cons_succ]
    exact mem_tadd_new (by simpa using h)
theorem gR_rows (w : List Int) : ∀ i, i < w.length → (i : Int) ∈ (QT w).getD ((gR w.reverse).reverse.getD i 0) [] := by
  induction w using snoc_ind with
  | h0 => intro i hi; simp at hi
  | h1 w x ih =>
    intro i hi
    rw [QT_snoc, gR_snoc, List.reverse_cons]
    have hl : (gR w.reverse).reverse.length = w.length := by rw [List.length_reverse, gR_length, List.length_reverse]
    rw [List.length_append, List.length_singleton] at hi
    by_cases e : i < w.length
    · have e2 : ((gR w.reverse).reverse ++ [(tin (PT w) x).2]).getD i 0 = (gR w.reverse).reverse.getD i 0 := by
        rw [List.getD_eq_getElem?_getD, List.getD_eq_getElem?_getD, List.getElem?_append_left (by rw [hl]; exact e)]
      rw [e2]
      exact mem_tadd_old (T := QT w) (ih i e)
    · have ei : i = w.length := by omega
      subst ei
      have e2 : ((gR w.reverse).reverse ++ [(tin (PT w) x).2]).getD w.length 0 = (tin (PT w) x).2 := by
        rw [List.getD_eq_getElem?_getD, List.getElem?_append_right (by rw [hl]; exact Nat.le_refl _), hl, Nat.sub_self]
        rfl
      rw [e2]
      exact mem_tadd_new (by rw [← PQ_length]; exact tin_le _ _)

/-! ### The other way round -/
theorem srt_getD {r : List Int} (h : Srt r) {i j : Nat} (hij : i < j) (hj : j < r.length) : r.getD i 0 < r.getD j 0 := by
  have := List.pairwise_iff_getElem.1 h i j (by omega) hj hij
  rw [List.getD_eq_getElem?_getD, List.getD_eq_getElem?_getD, List.getElem?_eq_getElem (by omega), List.getElem?_eq_getElem hj]
  exact this
theorem srt_of_getD {r : List Int} (h : ∀ i j, i < j → j < r.length → r.getD i 0 < r.getD j 0) : Srt r := by
  unfold Srt
  rw [List.pairwise_iff_getElem]
  intro i j hi hj hij
  have := h i j hij hj
  rw [List.getD_eq_getElem?_getD, List.getD_eq_getElem?_getD, List.getElem?_eq_getElem hi, List.getElem?_eq_getElem hj] at this
  exact this
/-- The last one that is not greater than y. -/
theorem last_le (y : Int) : ∀ (row : List Int), Srt row → (∃ z ∈ row, z ≤ y) → ∃ m1 x m2, row = m1 ++ x :: m2 ∧ x ≤ y ∧ ∀ z ∈ m2, y < z
  | [], _, ⟨z, hz, _⟩ => by simp at hz
  | a :: r, h, ⟨z, hz, hzy⟩ => by
    unfold Srt at h
    rw [List.pairwise_cons] at h
    by_cases h1 : ∃ z ∈ r, z ≤ y
    · obtain ⟨m1, x, m2, e, h2, h3⟩ := last_le y r h.2 h1
      exact ⟨a :: m1, x, m2, by rw [e]; rfl, h2, h3⟩
    · refine ⟨[], a, r, rfl, ?_, fun z hz => ?_⟩
      · rcases List.mem_cons.1 hz with rfl | hz
        · exact hzy
        · exact absurd ⟨z, hz, hzy⟩ h1
      · rcases Int.lt_or_le y z with h2 | h2
        · exact h2
        · exact absurd ⟨z, hz, h2⟩ h1

theorem getD_mem0 {l : List Int} {k : Nat} (hk : k < l.length) : l.getD k 0 ∈ l := by
  rw [List.getD_eq_getElem?_getD, List.getElem?_eq_getElem hk]
  exact List.getElem_mem hk
theorem getD_left0 (l1 : List Int) (l2 : List Int) {k : Nat} (hk : k < l1.length) : (l1 ++ l2).getD k 0 = l1.getD k 0 := by
  rw [List.getD_eq_getElem?_getD, List.getD_eq_getElem?_getD, List.getElem?_append_left hk]

structure Out (P P' : List (List Int)) (x : Int) (g : Nat) : Prop where
  tab : TabL P'
  put : tin P' x = (P, g)
  flat : P.flatten.Perm (x :: P'.flatten)
  len : P'.length = P.length
  lens : ∀ i, tlen P i = tlen P' i + (if i = g then 1 else 0)
  head : ∃ c, c < (P.headD []).length ∧ (P.headD []).getD c 0 = x ∧ (P'.headD []).length ≤ (P.headD []).length ∧ (∀ k, k < (P'.headD []).length → (P.headD []).getD k 0 ≤ (P'.headD []).getD k 0) ∧ (c < (P'.headD []).length → x < (P'.headD []).getD c 0)

theorem headD_mem {T : List (List Int)} {k : Nat} (hk : k < (T.headD []).length) : (T.headD []).getD k 0 ∈ T.flatten := by
  cases T with
  | nil => simp at hk
  | cons r T =>
    simp only [List.headD_cons] at hk ⊢
    rw [List.flatten_cons]
    exact List.mem_append_left _ (getD_mem0 hk)

theorem trem_out : ∀ (P : List (List Int)) (g : Nat), TabL P → P.flatten.Nodup → g < P.length → (P.getD (g + 1) []).length < (P.getD g []).length → Out P (trem P g).1 (trem P g).2 g
  | [], _, _, _, h, _ => absurd h (Nat.not_lt_zero _)
  | row :: T, 0, ht, hd, _, hc => by
    obtain ⟨hs, hf, hT⟩ := ht
    simp only [List.getD_cons_zero] at hc
    have hne : row ≠ [] := by rintro rfl; simp at hc
    obtain ⟨l, x, rfl⟩ : ∃ l x, row = l ++ [x] := by
      rcases List.eq_nil_or_concat row with h | ⟨l, x, h⟩
      · exact absurd h hne
      · exact ⟨l, x, by rw [h, List.concat_eq_append]⟩
    have e : trem ((l ++ [x]) :: T) 0 = (l :: T, x) := by simp [trem]
    rw [e]
    have hth : (T.headD []).length ≤ l.length := by
      cases T with
      | nil => simp
      | cons r T =>
        simp only [List.headD_cons, List.length_append, List.length_singleton] at hc ⊢
        simp at hc
        omega
    unfold Srt at hs
    rw [List.pairwise_append] at hs
    refine ⟨⟨hs.1, ⟨hth, fun k hk => ?_⟩, hT⟩, ?_, ?_, rfl, fun i => ?_, ⟨l.length, by simp, ?_, by simp, fun k hk => ?_, fun h => absurd h (by simp)⟩⟩
    · have := hf.2 k hk
      rwa [getD_left0 l [x] (by omega)] at this
    · exact tin_all T (fun z hz => hs.2.2 z hz x (by simp))
    · rw [List.flatten_cons, List.flatten_cons, List.append_assoc]
      exact List.perm_middle
    · rw [tlen_cons, tlen_cons]
      by_cases e : i = 0
      · simp [e]
      · simp [e]
    · simp only [List.headD_cons]
      exact getD_mid0 l x []
    · simp only [List.headD_cons] at hk ⊢
      rw [getD_left0 l [x] hk]
      exact Int.le_refl _
  | row :: T, g + 1, ht, hd, hg, hc => by
    obtain ⟨hs, hf, hT⟩ := ht
    rw [List.flatten_cons, List.nodup_append] at hd
    obtain ⟨hd1, hd2, hd3⟩ := hd
    have ih := trem_out T g hT hd2 (by simpa using hg) (by simpa using hc)
    generalize hq : trem T g = q at ih
    obtain ⟨T', y⟩ := q
    obtain ⟨i1, i2, i3, i4, i5, ⟨c, c1, c2, c3, c4, c5⟩⟩ := ih
    simp only at i1 i2 i3 i4 i5 c1 c2 c3 c4 c5
    have hcr : c < row.length := Nat.lt_of_lt_of_le c1 hf.1
    have hlt : row.getD c 0 < y := by have := hf.2 c c1; rwa [c2] at this
    obtain ⟨m1, x, m2, rfl, hxy, hm2⟩ := last_le y row hs ⟨_, getD_mem0 hcr, by omega⟩
    have hyT : y ∈ T.flatten := by rw [← c2]; exact headD_mem c1
    have hxne : x ≠ y := fun e => hd3 x (by simp) y hyT e
    have hcm : c ≤ m1.length := by
      rcases Nat.lt_or_ge m1.length c with h1 | h1
      · exfalso
        obtain ⟨j, rfl⟩ : ∃ j, c = m1.length + 1 + j := ⟨c - m1.length - 1, by omega⟩
        rw [getD_right0] at hlt
        have := hm2 _ (getD_mem0 (l := m2) (k := j) (by simp at hcr; omega))
        omega
      · exact h1
    have e : trem ((m1 ++ x :: m2) :: T) (g + 1) = ((m1 ++ y :: m2) :: T', x) := by
      rw [trem, hq, rout_mid hxy hm2]
    rw [e]
    have hs' := hs
    unfold Srt at hs'
    rw [List.pairwise_append, List.pairwise_cons] at hs'
    have hnew : ∀ k, k ≠ m1.length → (m1 ++ y :: m2).getD k 0 = (m1 ++ x :: m2).getD k 0 := by
      intro k hk
      rcases Nat.lt_or_ge k m1.length with h1 | h1
      · rw [getD_left0 _ _ h1, getD_left0 _ _ h1]
      · obtain ⟨j, rfl⟩ : ∃ j, k = m1.length + 1 + j := ⟨k - m1.length - 1, by omega⟩
        rw [getD_right0, getD_right0]
    refine ⟨⟨?_, ⟨?_, fun k hk => ?_⟩, i1⟩, ?_, ?_, by simp [i4], fun i => ?_, ⟨m1.length, by simp, ?_, by simp, fun k hk => ?_, fun _ => ?_⟩⟩
    · unfold Srt
      rw [List.pairwise_append, List.pairwise_cons]
      refine ⟨hs'.1, ⟨hm2, hs'.2.1.2⟩, fun a ha b hb => ?_⟩
      rcases List.mem_cons.1 hb with rfl | hb
      · have := hs'.2.2 a ha x (by simp)
        omega
      · exact hs'.2.2 a ha b (by simp [hb])
    · have := hf.1
      simp only [List.length_append, List.length_cons] at this ⊢
      omega
    · by_cases e1 : k = m1.length
      · subst e1
        rw [getD_mid0]
        by_cases e2 : c = m1.length
        · rw [← e2] at hk ⊢
          exact c5 hk
        · have h1 := c4 m1.length hk
          have hsT : Srt (T.headD []) := by
            cases T with
            | nil => exact List.Pairwise.nil
            | cons r T => exact hT.1
          have h2 := srt_getD hsT (show c < m1.length by omega) (Nat.lt_of_lt_of_le hk c3)
          omega
      · rw [hnew k e1]
        have h1 := hf.2 k (Nat.lt_of_lt_of_le hk c3)
        have h2 := c4 k hk
        omega
    · rw [tin_at m2 T' (fun z hz => hs'.2.2 z hz x (by simp)) (show ¬ y < x by omega), i2]
    · rw [List.flatten_cons, List.flatten_cons, List.append_assoc, List.append_assoc, List.cons_append, List.cons_append]
      refine List.perm_middle.trans (List.Perm.cons x ?_)
      refine List.Perm.append_left m1 ?_
      exact (List.Perm.append_left m2 i3).trans List.perm_middle
    · rw [tlen_cons, tlen_cons]
      by_cases e1 : i = 0
      · simp [e1]
      · rw [if_neg e1, if_neg e1, i5 (i - 1)]
        congr 1
        by_cases e2 : i - 1 = g
        · rw [if_pos e2, if_pos (by omega)]
        · rw [if_neg e2, if_neg (by omega)]
    · simp only [List.headD_cons]
      exact getD_mid0 m1 x m2
    · simp only [List.headD_cons] at hk ⊢
      by_cases e1 : k = m1.length
      · subst e1
        rw [getD_mid0, getD_mid0]
        exact hxy
      · rw [hnew k e1]
        exact Int.le_refl _
    · simp only [List.headD_cons]
      rw [getD_mid0]
      omega

/-- All empty. -/
def Emp (E : List (List Int)) : Prop := ∀ r ∈ E, r = []
theorem tin_app : ∀ (T E : List (List Int)) (x : Int), Emp E → tin (T ++ E) x = ((tin T x).1 ++ (if (tin T x).2 = T.length then E.tail else E), (tin T x).2)
  | [], [], x, _ => rfl
  | [], r :: E, x, h => by
    have : r = [] := h r (by simp)
    subst this
    rfl
  | row :: T, E, x, h => by
    rcases rin_cases x row with h1 | ⟨l1, y, l2, rfl, h1, h2⟩
    · rw [tin_all T h1, List.cons_append, tin_all _ h1, if_neg (by simp)]
      rfl
    · rw [tin_at l2 T h1 h2, List.cons_append, tin_at l2 _ h1 h2, tin_app T E y h]
      simp
theorem tadd_app : ∀ (T E : List (List Int)) (g : Nat) (M : Int), Emp E → g < (T ++ E).length → g ≤ T.length → (T ++ E).set g ((T ++ E).getD g [] ++ [M]) = tadd T g M ++ (if g = T.length then E.tail else E)
  | [], [], g, M, _, h, _ => absurd h (Nat.not_lt_zero _)
  | [], r :: E, g, M, h, _, h2 => by
    have : g = 0 := by simpa using h2
    subst this
    have : r = [] := h r (by simp)
    subst this
    simp [tadd]
  | row :: T, E, 0, M, h, _, _ => by simp [tadd]
  | row :: T, E, g + 1, M, h, h1, h2 => by
    have ih := tadd_app T E g M h (by simpa using h1) (by simpa using h2)
    simp only [List.cons_append, List.set_cons_succ, List.getD_cons_succ, tadd, ih, List.length_cons, Nat.add_right_cancel_iff]

theorem emp_tail {E : List (List Int)} (h : Emp E) : Emp E.tail := fun r hr => h r (List.mem_of_mem_tail hr)
theorem emp_of_lens {T : List (List Int)} (h : ∀ i, tlen T i = 0) : Emp T := by
  intro r hr
  obtain ⟨i, hi, rfl⟩ := List.getElem_of_mem hr
  have := h i
  rw [tlen, List.getD_eq_getElem?_getD, List.getElem?_eq_getElem hi] at this
  exact List.eq_nil_of_length_eq_zero this

/-- Row g cut short by its last number. -/
theorem cut_tab : ∀ (Q : List (List Int)) (g : Nat) (l : List Int) (M : Int), TabL Q → g < Q.length → Q.getD g [] = l ++ [M] → (Q.getD (g + 1) []).length ≤ l.length → TabL (Q.set g l)
  | [], _, _, _, _, h, _, _ => absurd h (Nat.not_lt_zero _)
  | row :: T, 0, l, M, ht, _, he, hc => by
    simp only [List.getD_cons_zero] at he
    subst he
    obtain ⟨hs, hf, hT⟩ := ht
    unfold Srt at hs
    rw [List.pairwise_append] at hs
    have hth : (T.headD []).length ≤ l.length := by
      cases T with
      | nil => simp
      | cons r T => simpa using hc
    refine ⟨hs.1, ⟨hth, fun k hk => ?_⟩, hT⟩
    have := hf.2 k hk
    rwa [getD_left0 l [M] (by omega)] at this
  | row :: T, g + 1, l, M, ht, hg, he, hc => by
    obtain ⟨hs, hf, hT⟩ := ht
    have ih := cut_tab T g l M hT (by simpa using hg) (by simpa using he) (by simpa using hc)
    refine ⟨hs, ?_, ih⟩
    cases g with
    | zero =>
      cases T with
      | nil => simp at hg
      | cons r T =>
        simp only [List.getD_cons_succ, List.getD_cons_zero] at he
        subst he
        simp only [List.set_cons_zero, List.headD_cons] at hf ⊢
        refine ⟨by have := hf.1; simp at this; omega, fun k hk => ?_⟩
        have := hf.2 k (by simp; omega)
        rwa [getD_left0 l [M] hk] at this
    | succ g =>
      cases T with
      | nil => simp at hg
      | cons r T => simpa using hf
theorem tlen_set {T : List (List Int)} {g : Nat} {l : List Int} (hg : g < T.length) (i : Nat) : tlen (T.set g l) i = if i = g then l.length else tlen T i := by
  unfold tlen
  simp only [List.getD_eq_getElem?_getD, List.getElem?_set]
  by_cases h : g = i
  · subst h
    simp [hg]
  · have h' : ¬ i = g := fun e => h e.symm
    simp [h, h']
theorem flat_set : ∀ {T : List (List Int)} {g : Nat} {l : List Int} {M : Int}, g < T.length → T.getD g [] = l ++ [M] → T.flatten.Perm (M :: (T.set g l).flatten)
  | [], _, _, _, h, _ => absurd h (Nat.not_lt_zero _)
  | row :: T, 0, l, M, _, he => by
    simp only [List.getD_cons_zero] at he
    subst he
    rw [List.set_cons_zero, List.flatten_cons, List.flatten_cons, List.append_assoc]
    exact List.perm_middle
  | row :: T, g + 1, l, M, hg, he => by
    rw [List.set_cons_succ, List.flatten_cons, List.flatten_cons]
    exact (List.Perm.append_left row (flat_set (by simpa using hg) (by simpa using he))).trans List.perm_middle
theorem tmem_flat {T : List (List Int)} {y : Int} (h : y ∈ T.flatten) : ∃ i, i < T.length ∧ y ∈ T.getD i [] := by
  obtain ⟨r, hr, hy⟩ := List.mem_flatten.1 h
  obtain ⟨i, hi, rfl⟩ := List.getElem_of_mem hr
  refine ⟨i, hi, ?_⟩
  rw [List.getD_eq_getElem?_getD, List.getElem?_eq_getElem hi]
  exact hy
theorem flat_mem {T : List (List Int)} {y : Int} {i : Nat} (h : y ∈ T.getD i []) : y ∈ T.flatten := by
  rcases Nat.lt_or_ge i T.length with h1 | h1
  · rw [List.getD_eq_getElem?_getD, List.getElem?_eq_getElem h1] at h
    exact List.mem_flatten.2 ⟨_, List.getElem_mem h1, h⟩
  · rw [List.getD_eq_getElem?_getD, List.getElem?_eq_none h1] at h
    simp at h
theorem tab_at : ∀ {T : List (List Int)} {i : Nat}, TabL T → Srt (T.getD i []) ∧ Fits (T.getD i []) (T.getD (i + 1) [])
  | [], i, _ => by
    simp only [List.getD_nil]
    exact ⟨List.Pairwise.nil, Nat.le_refl _, fun k hk => absurd hk (Nat.not_lt_zero _)⟩
  | r :: T, 0, h => by
    refine ⟨h.1, ?_⟩
    have := h.2.1
    cases T with
    | nil => simpa using this
    | cons r' T => simpa using this
  | r :: T, i + 1, h => by simpa using tab_at (T := T) (i := i) h.2.2

/-- ROBINSON, SCHENSTED, KNUTH: two tableaux of one form tell a list. -/
theorem back_all : ∀ (n : Nat) (P Q : List (List Int)) (G : List Nat), TabL P → P.flatten.Nodup → TabL Q → (∀ i, tlen P i = tlen Q i) → P.length = Q.length → Q.flatten.Nodup → (∀ y, y ∈ Q.flatten ↔ 0 ≤ y ∧ y < (n : Int)) → G.length = n → (∀ i y, y ∈ Q.getD i [] → G.getD y.toNat 0 = i) →
    ∃ E E', Emp E ∧ Emp E' ∧ (tbk P G.reverse).length = n ∧ P = PT (tbk P G.reverse).reverse ++ E ∧ Q = QT (tbk P G.reverse).reverse ++ E'
  | 0, P, Q, G, _, _, _, hl, _, _, hm, hG, _ => by
    have hG0 : G = [] := List.eq_nil_of_length_eq_zero hG
    subst hG0
    have hQ : Emp Q := by
      intro r hr
      rcases r with _ | ⟨y, r⟩
      · rfl
      · have := (hm y).1 (List.mem_flatten.2 ⟨_, hr, by simp⟩)
        omega
    have hP : Emp P := emp_of_lens (fun i => by
      rw [hl i, tlen]
      rcases Nat.lt_or_ge i Q.length with h1 | h1
      · rw [List.getD_eq_getElem?_getD, List.getElem?_eq_getElem h1]
        show (Q[i]).length = 0
        rw [hQ _ (List.getElem_mem h1)]
        rfl
      · rw [List.getD_eq_getElem?_getD, List.getElem?_eq_none h1]
        rfl)
    exact ⟨P, Q, hP, hQ, rfl, rfl, rfl⟩
  | n + 1, P, Q, G, tP, dP, tQ, hl, hle, dQ, hm, hG, hr => by
    obtain ⟨g, hg, hgm⟩ := tmem_flat ((hm (n : Int)).2 (by omega))
    have hGg := hr g _ hgm
    rw [Int.toNat_natCast] at hGg
    obtain ⟨G', hG'⟩ : ∃ G', G = G' ++ [g] := by
      rcases List.eq_nil_or_concat G with h | ⟨G', z, h⟩
      · subst h; simp at hG
      · rw [List.concat_eq_append] at h
        subst h
        rw [List.length_append, List.length_singleton] at hG
        have e : G'.length = n := by omega
        rw [List.getD_eq_getElem?_getD, List.getElem?_append_right (by omega), e, Nat.sub_self] at hGg
        simp at hGg
        exact ⟨G', by rw [hGg]⟩
    subst hG'
    have hGl : G'.length = n := by rw [List.length_append, List.length_singleton] at hG; omega
    -- the greatest is the last of its row
    obtain ⟨sg, fg⟩ := tab_at (T := Q) (i := g) tQ
    obtain ⟨a, b, hab⟩ := List.append_of_mem hgm
    have hb : b = [] := by
      rcases b with _ | ⟨z, b⟩
      · rfl
      · exfalso
        rw [hab] at sg
        unfold Srt at sg
        rw [List.pairwise_append, List.pairwise_cons] at sg
        have h1 := sg.2.1.1 z (by simp)
        have h2 := (hm z).1 (flat_mem (i := g) (by rw [hab]; simp))
        omega
    subst hb
    have hcut : (Q.getD (g + 1) []).length ≤ a.length := by
      have h1 := fg.1
      rw [hab, List.length_append, List.length_singleton] at h1
      rcases Nat.lt_or_ge a.length (Q.getD (g + 1) []).length with h2 | h2
      · exfalso
        have h3 := fg.2 a.length h2
        rw [hab, getD_mid0] at h3
        have h4 := (hm _).1 (flat_mem (i := g + 1) (getD_mem0 h2))
        omega
      · exact h2
    have hgP : g < P.length := by rw [hle]; exact hg
    have hcP : (P.getD (g + 1) []).length < (P.getD g []).length := by
      have h1 := hl (g + 1)
      have h2 := hl g
      unfold tlen at h1 h2
      rw [h1, h2, hab, List.length_append, List.length_singleton]
      omega
    have O := trem_out P g tP dP hgP hcP
    have tQ' := cut_tab Q g a n tQ hg hab hcut
    have fQ := flat_set hg hab
    have dQ2 := fQ.nodup_iff.1 dQ
    rw [List.nodup_cons] at dQ2
    have dP2 := O.flat.nodup_iff.1 dP
    rw [List.nodup_cons] at dP2
    have hgetQ : ∀ i, (Q.set g a).getD i [] = if i = g then a else Q.getD i [] := by
      intro i
      simp only [List.getD_eq_getElem?_getD, List.getElem?_set]
      by_cases h : g = i
      · subst h
        simp [hg]
      · have h' : ¬ i = g := fun e => h e.symm
        simp [h, h']
    obtain ⟨E, E', hE, hE', hbl, hP, hQ⟩ := back_all n (trem P g).1 (Q.set g a) G' O.tab dP2.2 tQ' (fun i => by
        have h1 := O.lens i
        have h2 := hl i
        rw [tlen_set hg]
        by_cases e : i = g
        · subst e
          have h3 : tlen Q i = a.length + 1 := by unfold tlen; rw [hab]; simp
          rw [if_pos rfl] at h1 ⊢
          omega
        · rw [if_neg e] at h1 ⊢
          omega) (by rw [O.len, List.length_set]; exact hle) dQ2.2 (fun y => by
        have h1 := hm y
        have h2 := fQ.mem_iff (a := y)
        rw [List.mem_cons] at h2
        constructor
        · intro h3
          have h4 := h1.1 (h2.2 (.inr h3))
          have h5 : y ≠ (n : Int) := fun e => dQ2.1 (e ▸ h3)
          omega
        · intro h3
          rcases h2.1 (h1.2 (by omega)) with h4 | h4
          · omega
          · exact h4) hGl (fun i y hy => by
        have hyQ : y ∈ Q.getD i [] := by
          rw [hgetQ i] at hy
          by_cases e : i = g
          · subst e
            rw [if_pos rfl] at hy
            rw [hab]
            exact List.mem_append_left _ hy
          · rwa [if_neg e] at hy
        have h1 := hr i y hyQ
        have h2 := (hm y).1 (flat_mem hyQ)
        have h3 : y ≠ (n : Int) := by
          rintro rfl
          exact dQ2.1 (flat_mem hy)
        rw [List.getD_eq_getElem?_getD, List.getElem?_append_left (by omega), ← List.getD_eq_getElem?_getD] at h1
        exact h1)
    have hbk : tbk P (G' ++ [g]).reverse = (trem P g).2 :: tbk (trem P g).1 G'.reverse := by
      rw [List.reverse_append, List.reverse_singleton, List.singleton_append, tbk]
    rw [hbk, List.reverse_cons]
    generalize hp : (tbk (trem P g).1 G'.reverse).reverse = p at hP hQ ⊢
    have hpl : p.length = n := by rw [← hp, List.length_reverse]; exact hbl
    have A := O.put
    rw [hP, tin_app (PT p) E _ hE] at A
    have A1 := congrArg Prod.fst A
    have A2 := congrArg Prod.snd A
    simp only at A1 A2
    have hgl : g ≤ (QT p).length := by rw [← A2, ← PQ_length]; exact tin_le _ _
    have B := tadd_app (QT p) E' g (n : Int) hE' (by rw [← hQ, List.length_set]; exact hg) hgl
    rw [← hQ, hgetQ g, if_pos rfl, List.set_set, ← hab] at B
    have hsame : Q.set g (Q.getD g []) = Q := by
      rw [List.getD_eq_getElem?_getD, List.getElem?_eq_getElem hg]
      exact List.set_getElem_self hg
    rw [hsame] at B
    refine ⟨if (tin (PT p) (trem P g).2).2 = (PT p).length then E.tail else E, if g = (QT p).length then E'.tail else E', ?_, ?_, by rw [List.length_cons, hbl], ?_, ?_⟩
    · split
      · exact emp_tail hE
      · exact hE
    · split
      · exact emp_tail hE'
      · exact hE'
    · rw [PT_snoc]
      exact A1.symm
    · rw [QT_snoc, A2, hpl]
      exact B

end Go.Proofs.Ytbcjfiobggggjaa

/-
  Tableaux (P37): what Check answers, in plain words; the two tableaux of an order are such. No program, no memory.
-/
namespace Go.Proofs.Ytbcjfiobggggjaa

theorem anti_tail {T : List (List Int)} {r : List Int} {d : Nat} (h : Anti (grow (tlen (r :: T)) (d + 1))) : Anti (grow (tlen T) d) := by
  intro i
  have := h (i + 1)
  simp only [grow, tlen_cons] at this ⊢
  have e1 : ¬ i + 1 + 1 = 0 := by omega
  have e2 : ¬ i + 1 = 0 := by omega
  rw [if_neg e1, if_neg e2] at this
  simp only [Nat.add_sub_cancel, Nat.add_right_cancel_iff] at this
  exact this
theorem tab_tadd : ∀ (T : List (List Int)) (d : Nat) (M : Int), TabL T → (∀ y ∈ T.flatten, y < M) → d ≤ T.length → Anti (grow (tlen T) d) → TabL (tadd T d M)
  | [], d, M, _, _, h, _ => by
    have : d = 0 := by simpa using h
    subst this
    exact ⟨List.pairwise_singleton _ _, ⟨Nat.zero_le _, fun k hk => absurd hk (Nat.not_lt_zero _)⟩, trivial⟩
  | row :: T, 0, M, ht, hM, _, _ => by
    obtain ⟨hs, hf, hT⟩ := ht
    refine ⟨?_, ⟨?_, fun k hk => ?_⟩, hT⟩
    · unfold Srt
      rw [List.pairwise_append]
      refine ⟨hs, List.pairwise_singleton _ _, fun a ha b hb => ?_⟩
      rw [List.mem_singleton] at hb
      rw [hb]
      exact hM a (by simp [ha])
    · have := hf.1
      rw [List.length_append, List.length_singleton]
      omega
    · rw [getD_left0 _ _ (Nat.lt_of_lt_of_le hk hf.1)]
      exact hf.2 k hk
  | row :: T, d + 1, M, ht, hM, hd, hA => by
    obtain ⟨hs, hf, hT⟩ := ht
    have hMT : ∀ y ∈ T.flatten, y < M := fun y hy => hM y (by rw [List.flatten_cons]; exact List.mem_append_right _ hy)
    refine ⟨hs, ?_, tab_tadd T d M hT hMT (by simpa using hd) (anti_tail hA)⟩
    cases d with
    | zero =>
      have h0 := hA 0
      simp only [grow, tlen_cons] at h0
      simp at h0
      cases T with
      | nil =>
        simp only [tadd, List.headD_cons]
        rw [tlen_nil] at h0
        refine ⟨by simpa using h0, fun k hk => ?_⟩
        have : k = 0 := by simpa using hk
        subst this
        exact hM _ (by rw [List.flatten_cons]; exact List.mem_append_left _ (getD_mem0 (by omega)))
      | cons r T =>
        simp only [tadd, List.headD_cons] at hf ⊢
        rw [tlen_cons, if_pos rfl] at h0
        refine ⟨by simpa using h0, fun k hk => ?_⟩
        rw [List.length_append, List.length_singleton] at hk
        by_cases e : k < r.length
        · rw [getD_left0 _ _ e]
          exact hf.2 k e
        · have : k = r.length := by omega
          subst this
          rw [getD_mid0]
          exact hM _ (by rw [List.flatten_cons]; exact List.mem_append_left _ (getD_mem0 (by omega)))
    | succ d =>
      cases T with
      | nil => simp at hd
      | cons r T => simpa [tadd] using hf

theorem tab_PT : ∀ (N : Nat) (w : List Int), w.length = N → w.Nodup → TabL (PT w)
  | 0, w, hl, _ => by
    have : w = [] := List.eq_nil_of_length_eq_zero hl
    subst this
    exact trivial
  | N + 1, w, hl, hd => by
    obtain ⟨u, M, v, rfl, hM⟩ := max_of w (by rintro rfl; simp at hl) hd
    obtain ⟨r, h1, h2, h3⟩ := mid_row u M v hM
    have hA := anti_sh hd
    rw [h3] at hA
    rw [h2]
    exact tab_tadd _ r M (tab_PT N (u ++ v) (by simp at hl ⊢; omega) (nodup_mid hd)) (fun y hy => hM y (PT_mem hy)) h1 hA
theorem tlen_QT (w : List Int) : tlen (QT w) = Sh w := by
  funext i
  exact (PQ_tlen w i).symm
theorem tab_QT (w : List Int) : w.Nodup → TabL (QT w) := by
  induction w using snoc_ind with
  | h0 => intro _; exact trivial
  | h1 w x ih =>
    intro hd
    have hA := anti_sh hd
    rw [sh_snoc, ← tlen_QT] at hA
    rw [QT_snoc]
    exact tab_tadd _ _ _ (ih (nodup_front hd)) (fun y hy => (QT_mem w y hy).2) (by rw [← PQ_length]; exact tin_le _ _) hA
theorem QT_flat (w : List Int) : (QT w).flatten.Perm (iota w.length) := by
  induction w using snoc_ind with
  | h0 => exact List.Perm.refl _
  | h1 w x ih =>
    rw [QT_snoc, List.length_append, List.length_singleton]
    refine (tadd_flat _ _ _).trans ((List.Perm.cons _ ih).trans ?_)
    have e : iota (w.length + 1) = iota w.length ++ [(w.length : Int)] := by simp [iota, List.range_succ]
    rw [e]
    exact (List.perm_append_singleton _ _).symm

/-- May row stand below the one above? As the program asks it. -/
def fitsB (row above : List Int) : Bool := decide (row.length ≤ above.length) && (List.range row.length).all (fun j => decide (above.getD j 0 < row.getD j 0))
theorem fitsB_iff {row above : List Int} : fitsB row above = true ↔ Fits above row := by
  unfold fitsB Fits
  simp only [Bool.and_eq_true, decide_eq_true_eq, List.all_eq_true, List.mem_range]
def rowOK (T : List (List Int)) (i : Nat) : Bool := !decide ((T.getD i []).length = 0) && sortedB (T.getD i []) && (decide (i = 0) || fitsB (T.getD i []) (T.getD (i - 1) []))
/-- P37. -/
def tabErr (T : List (List Int)) : Int :=
  if 10 < T.length ∨ 10 < T.flatten.length then 2 else if permErr T.flatten = 0 ∧ ∀ i, i < T.length → rowOK T i = true then 0 else 3

theorem srt_of_sorted {r : List Int} (h : sortedB r = true) (hd : r.Nodup) : Srt r := by
  have h1 := sortedB_true.1 h
  have h2 : ∀ d i, i + d < r.length → r.getD i 0 ≤ r.getD (i + d) 0 := by
    intro d
    induction d with
    | zero => intro i _; exact Int.le_refl _
    | succ d ih => intro i hi; exact Int.le_trans (ih i (by omega)) (h1 (i + d) hi)
  refine srt_of_getD fun i j hij hj => ?_
  have h3 := h2 (j - i) i (by omega)
  rw [show i + (j - i) = j by omega] at h3
  have h4 : r.getD i 0 ≠ r.getD j 0 := by
    intro e
    rw [List.getD_eq_getElem?_getD, List.getD_eq_getElem?_getD, List.getElem?_eq_getElem (by omega), List.getElem?_eq_getElem hj] at e
    exact List.pairwise_iff_getElem.1 hd i j (by omega) hj hij e
  omega
theorem sorted_of_srt {r : List Int} (h : Srt r) : sortedB r = true := sortedB_true.2 fun i hi => Int.le_of_lt (srt_getD h (Nat.lt_succ_self i) hi)

/-- From all the rows' own to the tableau. -/
theorem tab_of_rows : ∀ (T : List (List Int)), (∀ i, Srt (T.getD i [])) → (∀ i, Fits (T.getD i []) (T.getD (i + 1) [])) → TabL T
  | [], _, _ => trivial
  | r :: T, h1, h2 => by
    refine ⟨h1 0, ?_, tab_of_rows T (fun i => by simpa using h1 (i + 1)) (fun i => by simpa using h2 (i + 1))⟩
    have := h2 0
    cases T with
    | nil => simpa using this
    | cons r' T => simpa using this
theorem row_nodup : ∀ {T : List (List Int)}, T.flatten.Nodup → ∀ i, (T.getD i []).Nodup
  | [], _, i => by
    rw [List.getD_nil]
    exact List.nodup_nil
  | r :: T, h, 0 => by
    rw [List.flatten_cons, List.nodup_append] at h
    exact h.1
  | r :: T, h, i + 1 => by
    rw [List.flatten_cons, List.nodup_append] at h
    simpa using row_nodup (T := T) h.2.1 i
structure IsTab (T : List (List Int)) : Prop where
  len : T.length ≤ 10
  flat : T.flatten.length ≤ 10
  perm : IsPerm T.flatten
  tab : TabL T
  full : ∀ r ∈ T, r ≠ []
theorem tab_of_err {T : List (List Int)} (h : tabErr T = 0) : IsTab T := by
  unfold tabErr at h
  split at h
  · cases h
  · rename_i h1
    split at h
    · rename_i h2
      obtain ⟨h3, h4⟩ := permErr_ok.1 h2.1
      have hd : T.flatten.Nodup := h4.nodup_iff.2 (nodup_iota _)
      have hrow : ∀ i, i < T.length → (T.getD i []).length ≠ 0 ∧ sortedB (T.getD i []) = true ∧ (i = 0 ∨ fitsB (T.getD i []) (T.getD (i - 1) []) = true) := by
        intro i hi
        have := h2.2 i hi
        unfold rowOK at this
        simpa [and_assoc] using this
      have hout : ∀ i, T.length ≤ i → T.getD i [] = [] := fun i hi => by rw [List.getD_eq_getElem?_getD, List.getElem?_eq_none hi]; rfl
      refine ⟨by omega, by omega, h4, tab_of_rows T (fun i => ?_) (fun i => ?_), fun r hr => ?_⟩
      · rcases Nat.lt_or_ge i T.length with h5 | h5
        · exact srt_of_sorted (hrow i h5).2.1 (row_nodup hd i)
        · rw [hout i h5]
          exact List.Pairwise.nil
      · rcases Nat.lt_or_ge (i + 1) T.length with h5 | h5
        · rcases (hrow (i + 1) h5).2.2 with h6 | h6
          · omega
          · exact fitsB_iff.1 h6
        · rw [hout (i + 1) h5]
          exact ⟨Nat.zero_le _, fun k hk => absurd hk (Nat.not_lt_zero _)⟩
      · obtain ⟨i, hi, rfl⟩ := List.getElem_of_mem hr
        have := (hrow i hi).1
        rw [List.getD_eq_getElem?_getD, List.getElem?_eq_getElem hi] at this
        intro e
        exact this (by simp [e])
    · cases h
theorem err_of_tab {T : List (List Int)} (h : IsTab T) : tabErr T = 0 := by
  have h1 := h.len
  have h2 := h.flat
  unfold tabErr
  rw [if_neg (by omega), if_pos]
  refine ⟨permErr_ok.2 ⟨h2, h.perm⟩, fun i hi => ?_⟩
  have hm : T.getD i [] ∈ T := by
    rw [List.getD_eq_getElem?_getD, List.getElem?_eq_getElem hi]
    exact List.getElem_mem hi
  have h3 := h.full _ hm
  obtain ⟨s1, _⟩ := tab_at (i := i) h.tab
  unfold rowOK
  simp only [Bool.and_eq_true, Bool.not_eq_true', decide_eq_false_iff_not, Bool.or_eq_true, decide_eq_true_eq]
  refine ⟨⟨fun e => h3 (List.eq_nil_of_length_eq_zero e), sorted_of_srt s1⟩, ?_⟩
  cases i with
  | zero => exact .inl rfl
  | succ i => exact .inr (fitsB_iff.2 (tab_at (i := i) h.tab).2)
theorem tabErr_codes (T : List (List Int)) : tabErr T = 0 ∨ tabErr T = 2 ∨ tabErr T = 3 := by
  unfold tabErr
  split
  · exact .inr (.inl rfl)
  · split
    · exact .inl rfl
    · exact .inr (.inr rfl)

theorem full_len : ∀ (T : List (List Int)), (∀ r ∈ T, r ≠ []) → T.length ≤ T.flatten.length
  | [], _ => Nat.le_refl _
  | r :: T, h => by
    have h1 := full_len T (fun x hx => h x (by simp [hx]))
    have h2 := List.length_pos_iff.2 (h r (by simp))
    rw [List.length_cons, List.flatten_cons, List.length_append]
    omega
theorem isTab_PT {p : List Int} (hp : IsPerm p) (hl : p.length ≤ 10) : IsTab (PT p) := by
  have hd : p.Nodup := hp.nodup_iff.2 (nodup_iota _)
  have hf := (PT_flat p).length_eq
  have h2 := full_len _ (PT_full p)
  refine ⟨by omega, by omega, ?_, tab_PT _ p rfl hd, PT_full p⟩
  unfold IsPerm
  rw [hf]
  exact (PT_flat p).trans hp
theorem isTab_QT {p : List Int} (hd : p.Nodup) (hl : p.length ≤ 10) : IsTab (QT p) := by
  have hf : (QT p).flatten.length = p.length := by rw [(QT_flat p).length_eq, length_iota]
  have h2 := full_len _ (QT_full p)
  refine ⟨by omega, by omega, ?_, tab_QT p hd, QT_full p⟩
  unfold IsPerm
  rw [hf]
  exact QT_flat p

/-- What Back gives, of a pair with a table of rows. -/
def backL (P : List (List Int)) (G : List Nat) : List Int := (tbk P G.reverse).reverse
/-- G tells the row of each number of Q. -/
def RowsOf (Q : List (List Int)) (G : List Nat) : Prop := G.length = Q.flatten.length ∧ ∀ i y, y ∈ Q.getD i [] → G.getD y.toNat 0 = i

theorem emp_full {T E : List (List Int)} (hE : Emp E) (h : ∀ r ∈ T ++ E, r ≠ []) : E = [] := by
  rcases E with _ | ⟨r, E⟩
  · rfl
  · exact absurd (hE r (by simp)) (h r (by simp))
theorem tlen_of_map {P Q : List (List Int)} (h : P.map List.length = Q.map List.length) (i : Nat) : tlen P i = tlen Q i := by
  have h1 : ∀ T : List (List Int), tlen T i = (T.map List.length).getD i 0 := by
    intro T
    unfold tlen
    rw [List.getD_eq_getElem?_getD, List.getD_eq_getElem?_getD, List.getElem?_map]
    rcases T[i]? with _ | r <;> rfl
  rw [h1, h1, h]
/-- Two tableaux of one form: Back gives an order, and Of gives them again. -/
theorem back_of_tab {P Q : List (List Int)} {G : List Nat} (hP : IsTab P) (hQ : IsTab Q) (hl : P.map List.length = Q.map List.length) (hG : RowsOf Q G) :
    PT (backL P G) = P ∧ QT (backL P G) = Q ∧ IsPerm (backL P G) ∧ (backL P G).length = Q.flatten.length := by
  have hlen : P.length = Q.length := by
    have := congrArg List.length hl
    simpa using this
  obtain ⟨E, E', hE, hE', h1, h2, h3⟩ := back_all Q.flatten.length P Q G hP.tab (hP.perm.nodup_iff.2 (nodup_iota _)) hQ.tab (tlen_of_map hl) hlen (hQ.perm.nodup_iff.2 (nodup_iota _))
    (fun y => by rw [hQ.perm.mem_iff, mem_iota]) hG.1 hG.2
  have hE0 : E = [] := emp_full (T := PT (backL P G)) hE (by unfold backL; rw [← h2]; exact hP.full)
  have hE1 : E' = [] := emp_full (T := QT (backL P G)) hE' (by unfold backL; rw [← h3]; exact hQ.full)
  subst hE0
  subst hE1
  rw [List.append_nil] at h2 h3
  have hbl : (backL P G).length = Q.flatten.length := by unfold backL; rw [List.length_reverse]; exact h1
  refine ⟨h2.symm, h3.symm, ?_, hbl⟩
  have hpf := PT_flat (backL P G)
  have e : PT (backL P G) = P := h2.symm
  rw [e] at hpf
  unfold IsPerm
  have hfl := hpf.length_eq
  rw [← hfl]
  exact hpf.symm.trans hP.perm
/-- Back undoes Of. -/
theorem back_undoes {p : List Int} (hp : IsPerm p) {G : List Nat} (hG : RowsOf (QT p) G) : backL (PT p) G = p := by
  have hd : p.Nodup := hp.nodup_iff.2 (nodup_iota _)
  have hf : (QT p).flatten.length = p.length := by rw [(QT_flat p).length_eq, length_iota]
  have e : G = (gR p.reverse).reverse := by
    apply List.ext_getElem
    · rw [hG.1, hf, List.length_reverse, gR_length, List.length_reverse]
    · intro i h1 h2
      have hi : i < p.length := by rw [hG.1, hf] at h1; exact h1
      have h3 := hG.2 _ _ (gR_rows p i hi)
      rw [Int.toNat_natCast, List.getD_eq_getElem?_getD, List.getElem?_eq_getElem h1, List.getD_eq_getElem?_getD, List.getElem?_eq_getElem h2] at h3
      exact h3
  unfold backL
  rw [e, List.reverse_reverse]
  have := tbk_of p (fun u v e r hr => by
    have hdu : u.Nodup := by rw [e] at hd; exact nodup_front hd
    obtain ⟨i, hi, rfl⟩ := List.getElem_of_mem hr
    have := (tab_at (i := i) (tab_PT _ u rfl hdu)).1
    rw [List.getD_eq_getElem?_getD, List.getElem?_eq_getElem hi] at this
    exact this) []
  rw [List.append_nil] at this
  rw [this, List.reverse_reverse]

end Go.Proofs.Ytbcjfiobggggjaa

/-
  tableau.isLarge, slices.Grow, slices.Concat, tableau.fitsBelow, tableau.Check (P37).
-/
namespace Go.Proofs.Ytbcjfiobggggjaa
open Go.RowKit

theorem flat_take {T : List (List Int)} {i : Nat} (hi : i < T.length) : (T.take (i + 1)).flatten = (T.take i).flatten ++ T.getD i [] := by
  rw [List.take_succ_eq_append_getElem hi, List.flatten_append, List.getD_eq_getElem?_getD, List.getElem?_eq_getElem hi]
  simp
theorem length_le_flat2 : ∀ (T : List (List Int)) (j : Nat), (T.getD j []).length ≤ T.flatten.length
  | [], j => by simp
  | r :: T, 0 => by simp
  | r :: T, j + 1 => by
    have := length_le_flat2 T j
    simp only [List.getD_cons_succ, List.flatten_cons, List.length_append]
    omega
theorem flat_take_le (T : List (List Int)) (i : Nat) : (T.take i).flatten.length ≤ T.flatten.length := by
  conv => rhs; rw [← List.take_append_drop i T]
  rw [List.flatten_append, List.length_append]
  omega
def largeB (T : List (List Int)) : Bool := decide (10 < T.length ∨ 10 < T.flatten.length)

set_option maxRecDepth 100000 in
set_option maxHeartbeats 800000 in
theorem isLarge_any (A : Option Addr) (n c : Nat) (T : List (List Int)) (w : World) (h : RRows w A n T) (hn : n ≤ 9223372036854775807) (hL : ∀ j, (T.getD j []).length ≤ 4611686018427387904) :
    Calls Try.prog 92 #[.slice A n c] w fun e w' => e = .returned (.bool (largeB T)) ∧ w = w' := by
  have H := hid h
  have HL := hid h.len
  have HLL := hid hL
  clear h hL
  by_cases hbig : 10 < n
  · have hq : largeB T = true := by unfold largeB; rw [HL.out]; exact decide_eq_true (.inl hbig)
    rw [hq]
    go_enter Try.func92, Try.ntmps92
    go_wp2
    go_ret
    exact ⟨rfl, rfl⟩
  · go_enter Try.func92, Try.ntmps92
    go_wp2
    go_loopg [3, 11] n (fun g s t wr => ∃ (i S : Nat), i ≤ n ∧ n - i ≤ g ∧ s = .int .i64 (S : Int) ∧ t = .int .i64 (i : Int) ∧ S = (T.take i).flatten.length ∧ S ≤ 10 ∧ w = wr)
    case atStart => exact ⟨0, 0, Nat.zero_le _, by omega, rfl, rfl, by simp, by omega, rfl⟩
    case round =>
      obtain ⟨i, S, hi, hg, rfl, rfl, hS, hS10, rfl⟩ := hrel
      have HS := hid hS
      clear hS
      by_cases hlt : i < n
      · obtain ⟨b1, o1, Aj, nj, cj, rfl, g1, hI1, hc1⟩ := H.out.at hlt
        have HF := hid (flat_take (T := T) (i := i) (by rw [HL.out]; exact hlt))
        have HTL := hid (flat_take_le T (i + 1))
        have hnj : nj ≤ 4611686018427387904 := by rw [← hI1.len]; exact HLL.out i
        have HLJ := hid hI1.len
        have HN : Hid ((T.take (i + 1)).flatten.length = S + nj) := by rw [HF.out, List.length_append, ← HS.out, HLJ.out]; exact rfl
        clear hI1 hc1
        by_cases hb : 10 < S + nj
        · have hq : largeB T = true := by
            unfold largeB
            have h1 := HTL.out
            have h2 := HN.out
            exact decide_eq_true (.inr (by omega))
          have HQ := hid hq
          clear hq
          go_wp2
          go_ret
          refine ⟨?_, rfl⟩
          rw [HQ.out]
          rfl
        · have hbI : ¬ (10 : Int) < (S : Int) + (nj : Int) := by omega
          go_wp2
          go_roundg (n - (i + 1))
          case measure => omega
          case rel => exact ⟨i + 1, S + nj, by omega, by omega, by go_num, by go_num, HN.out.symm, by omega, rfl⟩
      · have hin : i = n := by omega
        subst hin
        have hq : largeB T = false := by
          unfold largeB
          have h1 := HS.out
          rw [List.take_of_length_le (by rw [HL.out]; exact Nat.le_refl _)] at h1
          rw [HL.out]
          exact decide_eq_false (by omega)
        have HQ := hid hq
        clear hq
        go_wp2
        go_ret
        refine ⟨?_, rfl⟩
        rw [HQ.out]
        rfl

set_option maxRecDepth 100000 in
set_option maxHeartbeats 800000 in
theorem fitsBelow_any (A : Option Addr) (n c : Nat) (xs : List Int) (B : Option Addr) (m d : Nat) (ys : List Int) (w : World) (h1 : Ints w A n xs) (h2 : Ints w B m ys) (hn : n ≤ 9223372036854775807) (hm : m ≤ 9223372036854775807) :
    Calls Try.prog 95 #[.slice A n c, .slice B m d] w fun e w' => e = .returned (.bool (fitsB xs ys)) ∧ w = w' := by
  have H1 := hid h1
  have H2 := hid h2
  have L1 := hid h1.len
  have L2 := hid h2.len
  clear h1 h2
  by_cases hnm : m < n
  · have hq : fitsB xs ys = false := by
      unfold fitsB
      rw [L1.out, L2.out, decide_eq_false (by omega), Bool.false_and]
    rw [hq]
    go_enter Try.func95, Try.ntmps95
    go_wp2
    go_ret
    exact ⟨rfl, rfl⟩
  · have hnm2 : ¬ (m : Int) < (n : Int) := by omega
    go_enter Try.func95, Try.ntmps95
    go_wp2
    go_loopg [14] n (fun g t wr => ∃ j : Nat, j ≤ n ∧ n - j ≤ g ∧ t = .int .i64 (j : Int) ∧ w = wr ∧ ∀ k, k < j → ys.getD k 0 < xs.getD k 0)
    case atStart => exact ⟨0, Nat.zero_le _, by omega, rfl, rfl, fun k hk => absurd hk (Nat.not_lt_zero _)⟩
    case round =>
      obtain ⟨j, hj, hg, rfl, rfl, hall⟩ := hrel
      have HA := hid hall
      clear hall
      by_cases hlt : j < n
      · obtain ⟨b1, o1, rfl, hb1, hc1⟩ := H1.out.row (by omega)
        obtain ⟨b2, o2, rfl, hb2, hc2⟩ := H2.out.row (by omega)
        have g1 := hc1 j hlt
        have g2 := hc2 j (by omega)
        have hjm : j < m := by omega
        clear hc1 hc2
        by_cases hle : xs.getD j 0 ≤ ys.getD j 0
        · have hq : fitsB xs ys = false := by
            unfold fitsB
            rw [Bool.and_eq_false_iff]
            right
            rw [List.all_eq_false]
            refine ⟨j, by rw [List.mem_range, L1.out]; exact hlt, ?_⟩
            simp only [decide_eq_true_eq]
            omega
          have HQ := hid hq
          clear hq
          generalize xs.getD j 0 = x at *
          generalize ys.getD j 0 = y at *
          go_wp2
          go_ret
          refine ⟨?_, rfl⟩
          rw [HQ.out]
          rfl
        · have HX : Hid (ys.getD j 0 < xs.getD j 0) := by exact (by omega : ys.getD j 0 < xs.getD j 0)
          generalize hx : xs.getD j 0 = x at *
          generalize hy : ys.getD j 0 = y at *
          have HXX := hid hx
          have HYY := hid hy
          clear hx hy
          go_wp2
          go_roundg (n - (j + 1))
          case measure => omega
          case rel =>
            refine ⟨j + 1, by omega, by omega, by go_num, rfl, fun k hk => ?_⟩
            by_cases e : k = j
            · rw [e, HXX.out, HYY.out]; exact HX.out
            · exact HA.out k (by omega)
      · have hjn : j = n := by omega
        subst hjn
        have hq : fitsB xs ys = true := fitsB_iff.2 ⟨by rw [L1.out, L2.out]; omega, fun k hk => HA.out k (by rw [L1.out] at hk; exact hk)⟩
        have HQ := hid hq
        clear hq
        go_wp2
        go_ret
        refine ⟨?_, rfl⟩
        rw [HQ.out]
        rfl

/-- A row of the call's own, cut short. -/
theorem OwnInts.cut {w : World} {base g n cap : Nat} {xs : List Int} (h : OwnInts w base (.slice (some ⟨g, 0, none⟩) n cap) xs) (k : Nat) (hk : k ≤ xs.length) : OwnInts w base (.slice (some ⟨g, 0, none⟩) k cap) (xs.take k) := by
  have h1 := h.1
  rcases h.2 with ⟨e, _⟩ | ⟨g', cap', cur, e, hb, hh, hn, hm, hs, ht⟩
  · cases e
  · injection e with e1 e2 e3
    injection e1 with e1
    injection e1 with e1 _
    subst e1
    subst e2
    subst e3
    have hl : (xs.take k).length = k := by rw [List.length_take]; omega
    unfold OwnInts
    rw [hl]
    refine ⟨by simp; omega, .inr ⟨g, cap, cur, rfl, hb, hh, by omega, hm, hs, ?_⟩⟩
    rw [Nat.mul_one] at ht ⊢
    rw [List.map_take, ← ht, List.take_take, Nat.min_eq_left hk]

set_option maxRecDepth 100000 in
set_option maxHeartbeats 800000 in
theorem growNil_any (n : Nat) (w : World) (hn : n ≤ 1000000) :
    Calls Try.prog 113 #[.slice none 0 0, .int .i64 (n : Int)] w fun e w' => ∃ v, e = .returned v ∧ OwnInts w' w.heap.size v [] ∧ Below w.heap.size w w' := by
  rcases Nat.eq_zero_or_pos n with h0 | h0
  · subst h0
    go_enter Try.func113, Try.ntmps113
    go_wp2
    go_ret
    exact ⟨_, rfl, OwnInts.nil _ _, Below.refl _ _⟩
  · obtain ⟨i0, hi, hz0, hz1, hz2⟩ := info_parts infoInt
    have hrun := fun W => Lib.run_append_nil_zeros (P := Try.prog) W 23 3 23 3 i0 (.int .i64 0) .i64 .i64 Try.underlying23 Try.underlying3 hi hz0 n h0 (by omega) (by omega) (by rw [hz2]; omega)
    have hpos : (0 : Int) < (n : Int) := by omega
    have HRUN := hid hrun
    clear hrun
    go_enter Try.func113, Try.ntmps113
    go_wp2_with (at_builtin; refine Lib.wpList_append_run _ rfl (.tmp 20) (.tmp 21) 23 3 rfl (.slice none 0 0) (.int .i64 (n : Int)) rfl rfl _ _ (HRUN.out _) ?_)
    have hge := grownCap_ge w n 0 3
    have hle := grownCap_le_maxLen w n 0 3 (by unfold maxLen; omega)
    have HOW : Hid (OwnInts (w.alloc (.cells (Builtin.zeroCells #[.int .i64 0] n ++ Builtin.zeroCells #[.int .i64 0] (grownCap w n 0 3 - n)) 3)) w.heap.size (.slice (some ⟨w.heap.size, 0, none⟩) 0 (grownCap w n 0 3)) []) := World.ownsRow_made w _ _ (Nat.le_refl _) hle (by
      rw [Array.size_append, size_zeroCells, size_zeroCells]
      simp
      omega)
    go_ret
    exact ⟨_, rfl, HOW.out.keep (below_drewN (Below.refl _ _) 1), below_drewN (below_alloc w _) 1⟩

/-- Onto what the call made: a row that may be nil. -/
theorem wpList_appMaybe {ops : Array Oper} {rest : List Oper} {o : Oper} {a : Act} {Q : Exit → Act → World → Prop} (W : World) (hgd : o.guard = none) (s x : Operand)
    (ho : o.op = .call { callee := .builtin .append, args := #[s, x], argTypes := #[23, 23] })
    (base : Nat) (v : Value) (xs : List Int) (hs : a.eval s = v) (A : Option Addr) (n c : Nat) (ys : List Int) (hx : a.eval x = .slice A n c) (hown : OwnInts W base v xs) (hI : Ints W A n ys) (hcap : A = none → c = 0)
    (hlen : xs.length + n ≤ 1000000000000) (hbase : base ≤ W.heap.size)
    (h : ∀ v' w', OwnInts w' base v' (xs ++ ys) → Below base W w' → wpList Try.prog ops Q rest (a.put o.dst v') w') :
    wpList Try.prog ops Q (o :: rest) a W := by
  rcases A with _ | ad
  · have hn0 : n = 0 := by
      rcases Nat.eq_zero_or_pos n with h0 | h0
      · exact h0
      · obtain ⟨b, o', e, _⟩ := hI.row h0
        cases e
    subst hn0
    have hc0 := hcap rfl
    subst hc0
    have hy0 : ys = [] := List.eq_nil_of_length_eq_zero hI.len
    subst hy0
    obtain ⟨i0, hi, _⟩ := info_parts infoInt
    refine wpList_append_own_none hgd s x 23 ho base 3 i0 1 Try.underlying23 hi _ xs.length _ hs hown hx ?_
    refine h _ _ ?_ (Below.refl _ _)
    rw [List.append_nil]
    exact hown
  · exact wpList_appN W hgd s x ho base v xs hs ad n c ys hx hown hI hlen hbase (fun v' w' h1 _ h3 => h v' w' h1 h3)

set_option maxRecDepth 100000 in
set_option maxHeartbeats 1600000 in
theorem concat_any (A : Option Addr) (n c : Nat) (T : List (List Int)) (w : World) (h : RRows w A n T) (hn : n ≤ 1000) (hL : T.flatten.length ≤ 1000) :
    Calls Try.prog 93 #[.slice A n c] w fun e w' => ∃ v, e = .returned v ∧ OwnInts w' w.heap.size v T.flatten ∧ Below w.heap.size w w' := by
  have H := hid h
  have HL := hid h.len
  clear h
  go_enter Try.func93, Try.ntmps93
  go_wp2
  go_loopg [3, 11] n (fun g s t wr => ∃ (i S : Nat), i ≤ n ∧ n - i ≤ g ∧ s = .int .i64 (S : Int) ∧ t = .int .i64 (i : Int) ∧ S = (T.take i).flatten.length ∧ w = wr)
  case atStart => exact ⟨0, 0, Nat.zero_le _, by omega, rfl, rfl, by simp, rfl⟩
  case round =>
    obtain ⟨i, S, hi, hg, rfl, rfl, hS, rfl⟩ := hrel
    have hSle : S ≤ 1000 := by rw [hS]; exact Nat.le_trans (flat_take_le T i) hL
    have HS := hid hS
    clear hS
    by_cases hlt : i < n
    · obtain ⟨b1, o1, Aj, nj, cj, rfl, g1, hI1, hc1⟩ := H.out.at hlt
      have HF := hid (flat_take (T := T) (i := i) (by rw [HL.out]; exact hlt))
      have HTL := hid (flat_take_le T (i + 1))
      have HLJ := hid hI1.len
      have HN : Hid ((T.take (i + 1)).flatten.length = S + nj) := by rw [HF.out, List.length_append, ← HS.out, HLJ.out]; exact rfl
      have hSn : S + nj ≤ 1000 := by have h1 := HTL.out; rw [HN.out] at h1; omega
      have hneg : ¬ (S : Int) + (nj : Int) < 0 := by omega
      clear hI1 hc1
      go_wp2
      go_roundg (n - (i + 1))
      case measure => omega
      case rel => exact ⟨i + 1, S + nj, by omega, by omega, by go_num, by go_num, HN.out.symm, rfl⟩
    · have hin : i = n := by omega
      subst hin
      clear HS
      go_wp2_with fail
      refine (growNil_any S w (by omega)).mono ?_
      rintro e w1 ⟨v1, rfl, ho1, hb1⟩
      have HO1 := hid ho1
      have HB1 := hid hb1
      clear ho1 hb1
      go_wp2_with fail
      obtain ⟨w8, hw8⟩ : ∃ w8, w8 = w1 := ⟨_, rfl⟩
      rw [← hw8] at HO1 HB1
      rw [← hw8]
      clear hw8
      go_loopg [6, 27] i (fun g s t wr => ∃ k : Nat, k ≤ i ∧ i - k ≤ g ∧ t = .int .i64 (k : Int) ∧ OwnInts wr w.heap.size s (T.take k).flatten ∧ Below w.heap.size w wr)
      case atStart => exact ⟨0, Nat.zero_le _, by omega, rfl, HO1.out, HB1.out⟩
      case round =>
        obtain ⟨k, hk, hg2, rfl, ho, hb⟩ := hrel
        have HO := hid ho
        have HB := hid hb
        clear ho hb HO1 HB1
        by_cases hlt2 : k < i
        · obtain ⟨b1, o1, Aj, nj, cj, rfl, g1, hI1, hc1, hz1⟩ := (H.out.keep HB.out).at0 hlt2
          have HI1 := hid hI1
          have HZ1 := hid hz1
          have HF := hid (flat_take (T := T) (i := k) (by rw [HL.out]; exact hlt2))
          have HLN : Hid ((T.take k).flatten.length + nj ≤ 1000000000000) := by
            have h1 := flat_take_le T (k + 1)
            rw [HF.out, List.length_append, HI1.out.len] at h1
            exact (by omega : (T.take k).flatten.length + nj ≤ 1000000000000)
          clear hI1 hz1 hc1
          go_wp2_with (at_builtin; refine wpList_appMaybe _ rfl (.tmp 31) (.tmp 32) rfl w.heap.size _ _ rfl _ _ _ _ rfl HO.out HI1.out HZ1.out HLN.out HB.out.size ?_)
          intro v2 w2 ho2 hb2
          rw [← List.getD_eq_getElem?_getD, ← HF.out] at ho2
          have HO2 := hid ho2
          have HB2 := hid (HB.out.trans hb2)
          clear ho2 hb2 g1
          go_wp2
          go_roundg (i - (k + 1))
          case measure => omega
          case rel => exact ⟨k + 1, by omega, by omega, by go_num, HO2.out, HB2.out⟩
        · have hki : k = i := by omega
          subst hki
          have HT : Hid (T.take k = T) := List.take_of_length_le (by rw [HL.out]; exact Nat.le_refl _)
          rw [HT.out] at HO
          go_wp2
          go_ret
          exact ⟨_, rfl, HO.out, HB.out⟩

theorem tabErr_large {T : List (List Int)} (h : largeB T = true) : tabErr T = 2 := by
  unfold tabErr
  rw [if_pos (by simpa [largeB] using h)]
theorem tabErr_form {T : List (List Int)} (h : largeB T = false) (h2 : ¬ (permErr T.flatten = 0 ∧ ∀ i, i < T.length → rowOK T i = true)) : tabErr T = 3 := by
  unfold tabErr
  rw [if_neg (by simpa [largeB] using h), if_neg h2]
theorem tabErr_good {T : List (List Int)} (h : largeB T = false) (h2 : permErr T.flatten = 0) (h3 : ∀ i, i < T.length → rowOK T i = true) : tabErr T = 0 := by
  unfold tabErr
  rw [if_neg (by simpa [largeB] using h), if_pos ⟨h2, h3⟩]
theorem large_no {T : List (List Int)} (h : largeB T = false) : T.length ≤ 10 ∧ T.flatten.length ≤ 10 := by
  unfold largeB at h
  have := of_decide_eq_false h
  omega
theorem rowOK_empty {T : List (List Int)} {i : Nat} (h : (T.getD i []).length = 0) : rowOK T i = false := by
  unfold rowOK
  rw [decide_eq_true h]
  rfl
theorem rowOK_sort {T : List (List Int)} {i : Nat} (h : sortedB (T.getD i []) = false) : rowOK T i = false := by
  unfold rowOK
  rw [h, Bool.and_false, Bool.false_and]
theorem rowOK_fit {T : List (List Int)} {i : Nat} (h : fitsB (T.getD (i + 1) []) (T.getD i []) = false) : rowOK T (i + 1) = false := by
  unfold rowOK
  rw [Nat.add_sub_cancel, h]
  simp
theorem rowOK_yes {T : List (List Int)} {i : Nat} (h1 : (T.getD i []).length ≠ 0) (h2 : sortedB (T.getD i []) = true) (h3 : i = 0 ∨ fitsB (T.getD i []) (T.getD (i - 1) []) = true) : rowOK T i = true := by
  unfold rowOK
  rw [h2, decide_eq_false h1]
  rcases h3 with h3 | h3
  · rw [decide_eq_true h3]; rfl
  · rw [h3]; simp

set_option maxRecDepth 100000 in
set_option maxHeartbeats 2000000 in
theorem tcheck_any (A : Option Addr) (n c : Nat) (T : List (List Int)) (w : World) (h : RRows w A n T) (hn : n ≤ 9223372036854775807) (hL : ∀ j, (T.getD j []).length ≤ 4611686018427387904) :
    Calls Try.prog 66 #[.slice A n c] w fun e w' => e = .returned (.int .i64 (tabErr T)) ∧ Below w.heap.size w w' := by
  have H := hid h
  have HL := hid h.len
  have HLL := hid hL
  clear h hL
  rcases hlg : largeB T with _ | _
  · obtain ⟨l1, l2⟩ := large_no hlg
    have HLG := hid hlg
    have L2 := hid l2
    rw [HL.out] at l1
    clear hlg l2
    go_enter Try.func66, Try.ntmps66
    go_wp2_with fail
    refine (isLarge_any A n c T _ H.out hn HLL.out).mono ?_
    rintro e w' ⟨rfl, rfl⟩
    rw [HLG.out]
    go_wp2_with fail
    refine (concat_any A n c T _ H.out (by omega) (by have := L2.out; omega)).mono ?_
    rintro e w1 ⟨v1, rfl, ho1, hb1⟩
    obtain ⟨A1, c1, rfl, hI1, hC1⟩ := ho1.ints
    obtain ⟨fl, hfl⟩ : ∃ fl, fl = T.flatten.length := ⟨_, rfl⟩
    rw [← hfl] at hI1
    rw [← hfl]
    have hfl10 : fl ≤ 10 := by rw [hfl]; exact L2.out
    have HB1 := hid hb1
    have HI1 := hid hI1
    clear ho1 hb1 hI1 hC1 hfl
    go_wp2_with fail
    refine (check_any A1 fl c1 T.flatten _ HI1.out (by omega)).mono ?_
    rintro e w2 ⟨rfl, hb2⟩
    have HB2 := hid (below_step HB1.out (Nat.le_refl _) hb2)
    clear hb2 HB1 HI1
    by_cases hpe : permErr T.flatten = 0
    · rw [hpe]
      have HPE := hid hpe
      clear hpe
      go_wp2_with fail
      obtain ⟨w8, hw8⟩ : ∃ w8, w8 = w2 := ⟨_, rfl⟩
      rw [← hw8] at HB2
      rw [← hw8]
      clear hw8
      go_loopg [16] n (fun g t wr => ∃ i : Nat, i ≤ n ∧ n - i ≤ g ∧ t = .int .i64 (i : Int) ∧ Below w.heap.size w wr ∧ ∀ j, j < i → rowOK T j = true)
      case atStart => exact ⟨0, Nat.zero_le _, by omega, rfl, HB2.out, fun j hj => absurd hj (Nat.not_lt_zero _)⟩
      case round =>
        obtain ⟨i, hi, hg, rfl, hb, hall⟩ := hrel
        have HB := hid hb
        have HA := hid hall
        clear hb hall HB2
        by_cases hlt : i < n
        · have HBAD : Hid (rowOK T i = false → tabErr T = 3) := fun hbad => tabErr_form HLG.out (fun hh => by have := hh.2 i (by rw [HL.out]; exact hlt); rw [hbad] at this; cases this)
          obtain ⟨b1, o1, Aj, nj, cj, rfl, g1, hI1, hc1⟩ := (H.out.keep HB.out).at hlt
          have hnj : nj ≤ 10 := by
            have h1 := length_le_flat2 T i
            have h2 := hI1.len
            have h3 := L2.out
            omega
          have HIJ := hid hI1
          have HLJ := hid hI1.len
          clear hI1 hc1
          by_cases hz : nj = 0
          · subst hz
            have HQ := hid (HBAD.out (rowOK_empty HLJ.out))
            go_wp2
            go_ret
            refine ⟨?_, HB.out⟩
            rw [HQ.out]
            rfl
          · have hzI : ((nj : Int) == 0) = false := by simp; omega
            go_wp2_with fail
            refine (isSorted_bel Aj nj cj _ _ HIJ.out (by omega)).mono ?_
            rintro e w3 ⟨rfl, hb3⟩
            have HB3 := hid (below_step HB.out (Nat.le_refl _) hb3)
            have HIJ3 := hid (HIJ.out.keep hb3)
            clear hb3 HIJ HB g1
            rcases hso : sortedB (T.getD i []) with _ | _
            · have HQ := hid (HBAD.out (rowOK_sort hso))
              clear hso
              go_wp2
              go_ret
              refine ⟨?_, HB3.out⟩
              rw [HQ.out]
              rfl
            · have HSO := hid hso
              clear hso
              by_cases hi0 : i = 0
              · subst hi0
                have HOK := hid (rowOK_yes (T := T) (i := 0) (by rw [HLJ.out]; exact hz) HSO.out (.inl rfl))
                go_wp2
                go_roundg (n - 1)
                case measure => omega
                case rel =>
                  refine ⟨1, by omega, by omega, by go_num, HB3.out, fun j hj => ?_⟩
                  have : j = 0 := by omega
                  rw [this]
                  exact HOK.out
              · obtain ⟨m, hm⟩ : ∃ m, i = m + 1 := ⟨i - 1, by omega⟩
                obtain ⟨b2, o2, Ak, nk, ck, hA2, g2, hI2, hc2⟩ := (H.out.keep HB3.out).at (j := m) (by omega)
                injection hA2 with hA2
                injection hA2 with e1 e2
                subst e1
                subst e2
                have hnk : nk ≤ 10 := by
                  have h1 := length_le_flat2 T m
                  have h2 := hI2.len
                  have h3 := L2.out
                  omega
                have HIK := hid hI2
                clear hI2 hc2
                have hd : decide (0 < i) = true := by simp; omega
                have hwr : IntKind.i64.wrap ((i : Int) - 1) = (m : Int) := by rw [IntWalk.i64_in _ (by omega)]; omega
                have hmn : m < n := by omega
                have hmN : (m : Int) < (n : Int) := by omega
                have HMI := hid hm
                clear hm
                go_wp2_with fail
                refine (fitsBelow_any Aj nj cj (T.getD i []) Ak nk ck (T.getD m []) _ HIJ3.out HIK.out (by omega) (by omega)).mono ?_
                rintro e w' ⟨rfl, rfl⟩
                rcases hfi : fitsB (T.getD i []) (T.getD m []) with _ | _
                · have HQ : Hid (tabErr T = 3) := HBAD.out (by
                    have e := HMI.out
                    rw [e] at hfi ⊢
                    exact rowOK_fit hfi)
                  clear hfi g2
                  go_wp2
                  go_ret
                  refine ⟨?_, HB3.out⟩
                  rw [HQ.out]
                  rfl
                · have HOK : Hid (rowOK T i = true) := rowOK_yes (by rw [HLJ.out]; exact hz) HSO.out (.inr (by
                    have e := HMI.out
                    rw [e] at hfi ⊢
                    rw [Nat.add_sub_cancel]
                    exact hfi))
                  clear hfi g2
                  go_wp2
                  go_roundg (n - (i + 1))
                  case measure => omega
                  case rel =>
                    refine ⟨i + 1, by omega, by omega, by go_num, HB3.out, fun j hj => ?_⟩
                    by_cases e : j = i
                    · rw [e]; exact HOK.out
                    · exact HA.out j (by omega)
        · have hin : i = n := by omega
          subst hin
          have HQ := hid (tabErr_good HLG.out HPE.out (by rw [HL.out]; exact HA.out))
          go_wp2
          go_ret
          refine ⟨?_, HB.out⟩
          rw [HQ.out]
          rfl
    · have HQ := hid (tabErr_form HLG.out (fun hh => hpe hh.1))
      have he3 : permErr T.flatten = 3 := by
        unfold permErr at hpe ⊢
        rw [if_neg (by have := L2.out; omega)] at hpe ⊢
        split
        · rename_i h
          rw [if_pos h] at hpe
          exact absurd rfl hpe
        · rfl
      rw [he3]
      clear he3 hpe
      go_wp2
      go_ret
      refine ⟨?_, HB2.out⟩
      rw [HQ.out]
      rfl
  · rw [tabErr_large hlg]
    have HLG := hid hlg
    clear hlg
    go_enter Try.func66, Try.ntmps66
    go_wp2_with fail
    refine (isLarge_any A n c T _ H.out hn HLL.out).mono ?_
    rintro e w' ⟨rfl, rfl⟩
    rw [HLG.out]
    go_wp2
    go_ret
    exact ⟨rfl, Below.refl _ _⟩

end Go.Proofs.Ytbcjfiobggggjaa

/-
  tableau.insert: a number put into the rows (P38).
-/
namespace Go.Proofs.Ytbcjfiobggggjaa
open Go.RowKit

theorem set_mid (D : List (List Int)) (r r' : List Int) (R : List (List Int)) {i : Nat} (hi : D.length = i) : (D ++ r :: R).set i r' = D ++ r' :: R := by
  subst hi
  rw [List.set_append_right _ _ (Nat.le_refl _), Nat.sub_self, List.set_cons_zero]
theorem getD_mid (D : List (List Int)) (r : List Int) (R : List (List Int)) {i : Nat} (hi : D.length = i) : (D ++ r :: R).getD i [] = r := by
  subst hi
  rw [List.getD_eq_getElem?_getD, List.getElem?_append_right (Nat.le_refl _), Nat.sub_self]
  rfl
theorem drop_rowT {T : List (List Int)} {i : Nat} (hi : i < T.length) : T.drop i = T.getD i [] :: T.drop (i + 1) := by
  rw [List.drop_eq_getElem_cons hi, List.getD_eq_getElem?_getD, List.getElem?_eq_getElem hi]
  rfl
theorem row_split {row : List Int} {k : Nat} (hk : k < row.length) : row = row.take k ++ row.getD k 0 :: row.drop (k + 1) := by
  conv => lhs; rw [← List.take_append_drop k row]
  rw [List.drop_eq_getElem_cons hk, List.getD_eq_getElem?_getD, List.getElem?_eq_getElem hk]
  rfl
theorem set_split {row : List Int} {k : Nat} (hk : k < row.length) (x : Int) : row.set k x = row.take k ++ x :: row.drop (k + 1) := by
  rw [List.set_eq_take_append_cons_drop, if_pos hk]
theorem take_lt_snoc {row : List Int} {k : Nat} {x : Int} (hk : k < row.length) (h : ∀ z ∈ row.take k, z < x) (hx : row.getD k 0 < x) : ∀ z ∈ row.take (k + 1), z < x := by
  intro z hz
  rw [take_snoc hk] at hz
  rcases List.mem_append.1 hz with h1 | h1
  · exact h z h1
  · rw [List.mem_singleton] at h1
    rw [h1]
    exact hx

def RetIns (base : Nat) (fp : Nat → Prop) (w : World) (T : List (List Int)) (x : Int) (e : Ending) (w' : World) : Prop :=
  ∃ v', e = .returned (.tuple #[v', .int .i64 ((tin T x).2 : Int)]) ∧ Grid w' base (fpN fp w.heap.size w'.heap.size) v' (tin T x).1 ∧ Only fp w w'

set_option maxRecDepth 100000 in
set_option maxHeartbeats 3200000 in
theorem insert_any (base : Nat) (fp : Nat → Prop) (v : Value) (T : List (List Int)) (x : Int) (w : World) (h : Grid w base fp v T) (hT : T.length ≤ 1000) (hR : ∀ j, (T.getD j []).length ≤ 1000) (hbase : base ≤ w.heap.size) :
    Calls Try.prog 64 #[v, .int .i64 x] w (RetIns base fp w T x) := by
  obtain ⟨A, c, hv, hcap⟩ := h.form
  subst hv
  have HG := hid h
  have HR := hid hR
  obtain ⟨n, hn⟩ : ∃ n, n = T.length := ⟨_, rfl⟩
  rw [← hn] at HG hT hcap ⊢
  have HN := hid hn
  clear h hR hn
  go_enter Try.func64, Try.ntmps64
  go_wp2
  go_loopg [1, 11] n (fun g s t wr => ∃ (i : Nat) (y : Int) (D : List (List Int)), i ≤ n ∧ n - i ≤ g ∧ s = .int .i64 y ∧ t = .int .i64 (i : Int) ∧ D.length = i ∧ Grid wr base fp (.slice A n c) (D ++ T.drop i) ∧ Only fp w wr ∧ tin T x = (D ++ (tin (T.drop i) y).1, i + (tin (T.drop i) y).2))
  case atStart => exact ⟨0, x, [], Nat.zero_le _, by omega, rfl, rfl, rfl, HG.out, Only.refl _ _, by simp⟩
  case round =>
    obtain ⟨i, y, D, hi, hg, rfl, rfl, hD, hgr, hon, htin⟩ := hrel
    have HD := hid hD
    have HGR := hid hgr
    have HON := hid hon
    have HT := hid htin
    clear hD hgr hon htin HG
    by_cases hlt : i < n
    · have HDR := hid (drop_rowT (T := T) (i := i) (by rw [← HN.out]; exact hlt))
      have hrl := HR.out i
      have hlen2 : i < (D ++ T.drop i).length := by rw [List.length_append, HD.out, HDR.out]; simp
      have HGD : Hid ((D ++ T.drop i).getD i [] = T.getD i []) := by rw [HDR.out]; exact getD_mid D _ _ HD.out
      obtain ⟨gb, cap, u, e1, hcell, hfrz, hu⟩ := HGR.out.at hlen2
      injection e1 with e1 e2 e3
      subst e1
      subst e3
      rw [HGD.out] at hu
      have HS := hid (fun h m c1 hu2 hm2 => HGR.out.store (h := h) (m := m) (c := c1) hlen2 hu2 hm2)
      have HRP := hid (fun w' u1 (ys : List Int) (hb1 : wr.grownBy w' u.ownBlock) (ho1 : OwnInts w' base u1 ys) hb2 => HGR.out.replace hlen2 hcell hb1 ho1 hb2 (Nat.le_trans hbase HON.out.size))
      have HSM : Hid (∀ r', (D ++ T.drop i).set i r' = (D ++ [r']) ++ T.drop (i + 1)) := fun r' => by
        rw [HDR.out, set_mid D _ r' _ HD.out]
        simp
      rw [HDR.out] at HT
      clear e2
      generalize hrow : T.getD i [] = row at *
      obtain ⟨Au, cu, rfl, hIu, hcu⟩ := hu.ints
      obtain ⟨m, hm⟩ : ∃ m, m = row.length := ⟨_, rfl⟩
      rw [← hm] at hIu hcu hcell hrl
      rw [← hm] at hu
      rw [← hm] at HRP
      have HM := hid hm
      have HU := hid hu
      have HIU := hid hIu
      clear hm hu hIu hrow hlen2
      go_wp2
      go_loopg [8] m (fun g s wq => ∃ k : Nat, k ≤ m ∧ m - k ≤ g ∧ s = .int .i64 (k : Int) ∧ wr = wq ∧ ∀ z ∈ row.take k, z < y)
      case atStart => exact ⟨0, Nat.zero_le _, by omega, rfl, rfl, by simp⟩
      case round =>
        obtain ⟨k, hk, hg2, rfl, rfl, hall⟩ := hrel
        have HA := hid hall
        clear hall
        by_cases hkm : k < m
        · obtain ⟨b, o, rfl, hb, hc⟩ := HIU.out.row (by omega)
          have g1 := hc k hkm
          have HKL : Hid (k < row.length) := by rw [← HM.out]; exact hkm
          clear hc
          by_cases hz : row.getD k 0 < y
          · have HTL := hid (take_lt_snoc HKL.out HA.out hz)
            generalize row.getD k 0 = z at *
            go_wp2
            go_roundg (m - (k + 1))
            case measure => omega
            case rel => exact ⟨k + 1, by omega, by omega, by go_num, rfl, HTL.out⟩
          · have hfo := HU.out.form (by rw [← HM.out]; omega)
            obtain ⟨gg, capg, e5, hg5, _, _⟩ := hfo
            injection e5 with e5 e6 e7
            injection e5 with e5
            injection e5 with e8 e9
            subst e8
            subst e9
            have hfz : wr.frozen? ⟨b, k, none⟩ = false := by
              have := HU.out
              rw [HM.out] at this
              exact this.frozen k
            rw [Nat.zero_add] at g1
            have HST := hid (HS.out b m cu hcell (by rw [HGD.out]; exact HM.out) k y)
            have HZ := hid hz
            have HSP := hid (row_split HKL.out)
            have HSS := hid (set_split HKL.out y)
            rw [HGD.out, HSM.out, HSS.out] at HST
            have HTA := hid (tin_at (x := y) (row.drop (k + 1)) (T.drop (i + 1)) HA.out hz)
            rw [← HSP.out] at HTA
            rw [HTA.out] at HT
            have hne : ((k : Int) == (m : Int)) = false := by simp; omega
            clear hcell hfrz e6 e7 hz
            generalize row.getD k 0 = z at *
            go_wp2
            go_roundg (n - (i + 1))
            case measure => omega
            case rel =>
              refine ⟨i + 1, z, D ++ [row.take k ++ y :: row.drop (k + 1)], by omega, by omega, rfl, by go_num, by rw [List.length_append, HD.out]; rfl, HST.out.1, HON.out.trans HST.out.2, ?_⟩
              rw [HT.out]
              simp only [List.append_assoc, List.singleton_append, Prod.mk.injEq, true_and]
              omega
        · have hkm2 : k = m := by omega
          subst hkm2
          have HAL : Hid (∀ z ∈ row, z < y) := by
            have := HA.out
            rwa [List.take_of_length_le (by rw [← HM.out]; exact Nat.le_refl _)] at this
          rw [tin_all _ HAL.out] at HT
          go_wp2_with (at_builtin; refine wpList_app1At _ rfl (.tmp 36) (.tmp 38) rfl base _ row y rfl rfl HU.out (by rw [← HM.out]; omega) (Nat.le_trans hbase HON.out.size) ?_)
          intro v1 w1 ho1 hb1 hb2
          obtain ⟨hgr2, hon2⟩ := HRP.out w1 v1 (row ++ [y]) hb1 ho1 hb2
          have hfrz1 : w1.frozen? ⟨gb, i, none⟩ = false := by
            have h1 := World.frozen?_of_block (a := ⟨gb, i, none⟩) (hb1.block gb (by
              have := HGR.out.bound
              obtain ⟨vals, hG⟩ := HGR.out
              exact (hG.bound gb (hG.inV gb rfl)).2) (fun e => by
              obtain ⟨vals, hG⟩ := HGR.out
              exact own_apart HU.out hG.own gb e.symm rfl))
            rw [h1]
            exact hfrz
          have HG2 := hid hgr2
          have HO2 := hid hon2
          obtain ⟨A1, c1, rfl, _, _⟩ := ho1.ints
          have hcell1 : ∃ u0, w1.cell? ⟨gb, i, none⟩ = some u0 := ⟨_, (World.cell?_of_block (a := ⟨gb, i, none⟩) (hb1.block gb (by
              obtain ⟨vals, hG⟩ := HGR.out
              exact (hG.bound gb (hG.inV gb rfl)).2) (fun e => by
              obtain ⟨vals, hG⟩ := HGR.out
              exact own_apart HU.out hG.own gb e.symm rfl))).trans hcell⟩
          obtain ⟨u0, hcell1⟩ := hcell1
          obtain ⟨q1, hq1⟩ : ∃ q1, q1 = (row ++ [y]).length := ⟨_, rfl⟩
          rw [← hq1] at HG2 HO2
          rw [← hq1]
          clear hq1
          clear ho1 hb1 hb2 hgr2 hon2 hcell hfrz
          go_wp2
          go_ret2
          refine ⟨.slice (some ⟨gb, 0, none⟩) n c, ?_, ?_, HON.out.trans HO2.out⟩
          · rw [HT.out]
            rfl
          · rw [HT.out]
            have h5 := HG2.out
            rw [HSM.out] at h5
            simp only [List.append_assoc, List.singleton_append] at h5
            refine h5.up ?_ ?_
            · intro k' hk'
              rcases hk' with hk' | hk'
              · exact .inl hk'
              · refine .inr ⟨Nat.le_trans HON.out.size hk'.1, ?_⟩
                have e : (w1.setCell ⟨gb, i, none⟩ (.slice A1 q1 c1)).heap.size = w1.heap.size := by simp [World.setCell]
                rw [e]
                exact hk'.2
            · intro k' hk'
              rcases hk' with hk' | hk'
              · exact h5.bound k' (.inl hk')
              · exact ⟨by omega, hk'.2⟩
    · have hin : i = n := by omega
      subst hin
      have HDE : Hid (T.drop i = []) := List.drop_of_length_le (by rw [← HN.out]; exact Nat.le_refl _)
      rw [HDE.out, List.append_nil] at HGR
      rw [HDE.out] at HT
      have hb0 : base ≤ wr.heap.size := Nat.le_trans hbase HON.out.size
      have HOY : Hid (OwnInts (wr.alloc (.cells #[.int .i64 y] 3)) base (.slice (some ⟨wr.heap.size, 0, none⟩) 1 1) [y]) := World.ownsRow_lit wr #[.int .i64 y] 1 hb0 (by unfold maxLen; omega) rfl
      have HGA := hid (HGR.out.keep (below_alloc wr (.cells #[.int .i64 y] 3)))
      have HBD := hid HGR.out.bound
      have hszv : (wr.alloc (.cells #[.int .i64 y] 3)).heap.size = wr.heap.size + 1 := by simp
      have HSZ := hid hszv
      clear hszv
      go_wp2_with (at_builtin; refine wpList_gridApp _ rfl (.tmp 52) (.tmp 55) rfl base fp _ D _ [y] rfl (by rw [HSZ.out]; rfl) HGA.out HOY.out (fun k hk e => by simp only [Value.ownBlock, Option.some.injEq] at hk; have := (HBD.out k e).2; omega) (by rw [HD.out]; omega) (by simp; omega) ?_)
      intro v1 w1 hg1 ho1
      have HG1 := hid hg1
      have HO1 := hid ho1
      obtain ⟨A1, c1, rfl, _⟩ := hg1.form
      obtain ⟨q1, hq1⟩ : ∃ q1, q1 = (D ++ [[y]]).length := ⟨_, rfl⟩
      rw [← hq1] at HG1
      rw [← hq1]
      clear hg1 ho1 hq1
      go_wp2
      go_ret2
      have hsz : (wr.alloc (.cells #[.int .i64 y] 3)).heap.size = wr.heap.size + 1 := by simp
      have hO2 : Only fp wr w1 := (Only.of_below (below_alloc wr _)).trans HO1.out
      refine ⟨.slice A1 q1 c1, ?_, ?_, HON.out.trans hO2⟩
      · rw [HT.out, tin_nil]
        rfl
      · rw [HT.out, tin_nil]
        refine HG1.out.up ?_ ?_
        · intro k' hk'
          have h8 := HG1.out.bound k' hk'
          rcases hk' with (hk' | hk') | hk'
          · exact .inl hk'
          · exact .inr ⟨by have := HON.out.size; omega, h8.2⟩
          · simp only [Value.ownBlock, Option.some.injEq] at hk'
            exact .inr ⟨by have := HON.out.size; omega, h8.2⟩
        · intro k' hk'
          rcases hk' with hk' | hk'
          · exact HG1.out.bound k' (.inl (.inl hk'))
          · exact ⟨by omega, hk'.2⟩

end Go.Proofs.Ytbcjfiobggggjaa

/-
  tableau.remove, tableau.rowOfEach.
-/
namespace Go.Proofs.Ytbcjfiobggggjaa
open Go.RowKit

theorem trem_drop {T : List (List Int)} {g j : Nat} (hj : j < g) (hg : g < T.length) :
    trem (T.drop j) (g - j) = ((rout (trem (T.drop (j + 1)) (g - (j + 1))).2 (T.getD j [])).1 :: (trem (T.drop (j + 1)) (g - (j + 1))).1, (rout (trem (T.drop (j + 1)) (g - (j + 1))).2 (T.getD j [])).2) := by
  rw [drop_rowT (T := T) (i := j) (by omega), show g - j = (g - (j + 1)) + 1 by omega, trem]
theorem trem_base {T : List (List Int)} {g : Nat} (hg : g < T.length) : trem (T.drop g) (g - g) = ((T.getD g []).dropLast :: T.drop (g + 1), (T.getD g []).getLastD 0) := by
  rw [drop_rowT hg, Nat.sub_self, trem]
theorem set_take {T : List (List Int)} {g : Nat} (hg : g < T.length) (r : List Int) : T.set g r = T.take g ++ r :: T.drop (g + 1) := by
  rw [List.set_eq_take_append_cons_drop, if_pos hg]
theorem take_split {T : List (List Int)} {j : Nat} (hj : j < T.length) (S : List (List Int)) (r : List Int) : (T.take (j + 1) ++ S).set j r = T.take j ++ r :: S := by
  have e : T.take (j + 1) = T.take j ++ [T.getD j []] := by
    rw [List.take_succ_eq_append_getElem hj, List.getD_eq_getElem?_getD, List.getElem?_eq_getElem hj]
    rfl
  rw [e, List.append_assoc, List.singleton_append]
  exact set_mid _ _ _ _ (by rw [List.length_take]; omega)
theorem take_getD {T : List (List Int)} {j : Nat} (hj : j < T.length) (S : List (List Int)) : (T.take (j + 1) ++ S).getD j [] = T.getD j [] := by
  rw [List.getD_eq_getElem?_getD, List.getElem?_append_left (by rw [List.length_take]; omega), List.getElem?_take_of_lt (by omega), ← List.getD_eq_getElem?_getD]
theorem rpos_step {row : List Int} {y : Int} {k : Nat} (h : y < row.getD (k + 1) 0) : rpos row y (k + 1) = rpos row y k := by rw [rpos, if_pos h]
theorem rpos_stop {row : List Int} {y : Int} {k : Nat} (h : ¬ y < row.getD k 0) : rpos row y k = k := by
  cases k with
  | zero => rfl
  | succ k => rw [rpos, if_neg h]
theorem last_getD {r : List Int} {m : Nat} (h : r.length = m + 1) : r.getD m 0 = r.getLastD 0 := by
  rcases List.eq_nil_or_concat r with rfl | ⟨l, x, rfl⟩
  · simp at h
  · rw [List.concat_eq_append] at *
    have hm : m = l.length := by simp at h; omega
    subst hm
    rw [getD_mid0]
    simp

def RetRem (base : Nat) (fp : Nat → Prop) (w : World) (v : Value) (T : List (List Int)) (g : Nat) (e : Ending) (w' : World) : Prop :=
  e = .returned (.int .i64 (trem T g).2) ∧ Grid w' base fp v (trem T g).1 ∧ Only fp w w'

set_option maxRecDepth 100000 in
set_option maxHeartbeats 3200000 in
theorem remove_any (base : Nat) (fp : Nat → Prop) (v : Value) (T : List (List Int)) (g : Nat) (w : World) (h : Grid w base fp v T) (hT : T.length ≤ 1000) (hR : ∀ j, (T.getD j []).length ≤ 1000) (hg : g < T.length) (hne : ∀ j, j ≤ g → (T.getD j []).length ≠ 0) (hbase : base ≤ w.heap.size) :
    Calls Try.prog 70 #[v, .int .i64 (g : Int)] w (RetRem base fp w v T g) := by
  obtain ⟨gb, cap, u, hv, hcell, hfrz, hu⟩ := h.at hg
  subst hv
  have hng := hne g (Nat.le_refl _)
  obtain ⟨hb, cu, hue, _, _, hcu⟩ := hu.form (by omega)
  subst hue
  obtain ⟨n, hn⟩ : ∃ n, n = T.length := ⟨_, rfl⟩
  obtain ⟨m, hm⟩ : ∃ m, (T.getD g []).length = m + 1 := ⟨(T.getD g []).length - 1, by omega⟩
  have hmr := hR g
  rw [hm] at hmr hcu hcell hu
  have g2 : w.cell? ⟨hb, m, none⟩ = some (.int .i64 ((T.getD g []).getLastD 0)) := by
    rw [← last_getD hm]
    have hu' := hu
    rw [← hm] at hu'
    exact hu'.cell (by omega)
  have HB := hid (trem_base hg)
  have hrep := h.replace (w' := w) (u' := .slice (some ⟨hb, 0, none⟩) m cu) (ys := (T.getD g []).dropLast) hg hcell (one_refl2 w _) (by
    have := hu.cut m (by omega)
    rwa [show (T.getD g []).take m = (T.getD g []).dropLast by rw [List.dropLast_eq_take, hm, Nat.add_sub_cancel]] at this) (.inl rfl) hbase
  obtain ⟨hG1, hO1⟩ := hrep
  have hG1' : Grid (w.setCell ⟨gb, g, none⟩ (.slice (some ⟨hb, 0, none⟩) m cu)) base fp (.slice (some ⟨gb, 0, none⟩) n cap) (T.take g ++ (trem (T.drop g) (g - g)).1) := by
    rw [HB.out, ← set_take hg, hn]
    refine hG1.up (fun k hk => ?_) (fun k hk => ?_)
    · rcases hk with hk | hk
      · exact hk
      · omega
    · exact hG1.bound k (.inl hk)
  have HG1 := hid hG1'
  have HO1 := hid hO1
  have HN := hid hn
  have HR := hid hR
  have HNE := hid hne
  have hgn : g < n := by omega
  have hm1 : m < m + 1 := by omega
  have hmc : m ≤ cu := by omega
  have HL2 : Hid ((trem (T.drop g) (g - g)).2 = (T.getD g []).getLastD 0) := by rw [HB.out]; exact rfl
  rw [← hn] at hT ⊢
  have HGT : Hid (g < T.length) := hg
  clear h hu hR hne hn hm hG1 hG1' hO1 HB hng
  generalize (T.getD g []).getLastD 0 = z at *
  go_enter Try.func70, Try.ntmps70
  go_wp2
  obtain ⟨w8, hw8⟩ : ∃ w8, w8 = w.setCell ⟨gb, g, none⟩ (.slice (some ⟨hb, 0, none⟩) m cu) := ⟨_, rfl⟩
  rw [← hw8] at HG1 HO1
  rw [← hw8]
  clear hw8 hcell hfrz g2
  go_loopg [6, 7] g (fun gh s t wr => ∃ k : Nat, k ≤ g ∧ k ≤ gh ∧ t = .int .i64 ((k : Int) - 1) ∧ s = .int .i64 (trem (T.drop k) (g - k)).2 ∧ Grid wr base fp (.slice (some ⟨gb, 0, none⟩) n cap) (T.take k ++ (trem (T.drop k) (g - k)).1) ∧ Only fp w wr)
  case atStart => exact ⟨g, Nat.le_refl _, Nat.le_refl _, by go_num, by rw [HL2.out], HG1.out, HO1.out⟩
  case round =>
    obtain ⟨k, hk, hgh, rfl, rfl, hgr, hon⟩ := hrel
    have HGR := hid hgr
    have HON := hid hon
    clear hgr hon HG1 HO1
    rcases k with _ | j
    · have hlt0 : ¬ (0 : Int) ≤ -1 := by omega
      rw [List.take_zero, List.nil_append, List.drop_zero, Nat.sub_zero] at HGR
      rw [List.drop_zero, Nat.sub_zero]
      rw [show (((0 : Nat) : Int) - 1) = -1 by omega]
      generalize hx : (trem T g).2 = x
      have HX := hid hx
      clear hx
      go_wp2
      go_ret
      refine ⟨?_, HGR.out, HON.out⟩
      rw [HX.out]
      rfl
    · rw [show (((j + 1 : Nat) : Int) - 1) = (j : Int) by omega]
      have HTD := hid (trem_drop (T := T) (g := g) (j := j) (by omega) HGT.out)
      have hjT : j < T.length := by have := HGT.out; omega
      have hlen2 : j < (T.take (j + 1) ++ (trem (T.drop (j + 1)) (g - (j + 1))).1).length := by rw [List.length_append, List.length_take]; omega
      have HGD := hid (take_getD hjT (trem (T.drop (j + 1)) (g - (j + 1))).1)
      have HSM := hid (take_split hjT (trem (T.drop (j + 1)) (g - (j + 1))).1)
      have hnj := HNE.out j (by omega)
      have hrl := HR.out j
      obtain ⟨gb2, cap2, u, e1, hcell, hfrz, hu⟩ := HGR.out.at hlen2
      injection e1 with e1 e2 e3
      injection e1 with e1
      injection e1 with e1 _
      subst e1
      rw [HGD.out] at hu
      have HS := hid (fun h m c1 hu2 hm2 => HGR.out.store (h := h) (m := m) (c := c1) hlen2 hu2 hm2)
      clear e2 e3
      generalize (trem (T.drop (j + 1)) (g - (j + 1))).2 = y at *
      generalize (trem (T.drop (j + 1)) (g - (j + 1))).1 = S at *
      generalize T.getD j [] = row at *
      obtain ⟨h2, c2, rfl, _, hlt2, hc2⟩ := hu.form (by omega)
      obtain ⟨p, hp⟩ : ∃ p, row.length = p + 1 := ⟨row.length - 1, by omega⟩
      have HU := hid hu
      have HP := hid hp
      rw [hp] at hcell hrl
      have hwr : IntKind.i64.wrap (((p + 1 : Nat) : Int) - 1) = (p : Int) := by rw [IntWalk.i64_in _ (by omega)]; omega
      have hjn : j < n := by omega
      clear hu hp hlen2 hnj hc2
      go_wp2
      go_loopg [9] p (fun gh s wq => ∃ q : Nat, q ≤ p ∧ q ≤ gh ∧ s = .int .i64 (q : Int) ∧ wr = wq ∧ rpos row y p = rpos row y q)
      case atStart => exact ⟨p, Nat.le_refl _, Nat.le_refl _, by go_num, rfl, rfl⟩
      case round =>
        obtain ⟨q, hq, hgh2, rfl, rfl, hrp⟩ := hrel
        have HRP := hid hrp
        clear hrp
        have g4 : wr.cell? ⟨h2, q, none⟩ = some (.int .i64 (row.getD q 0)) := by
          have := HU.out
          exact this.cell (by rw [HP.out]; omega)
        have f4 : wr.frozen? ⟨h2, q, none⟩ = false := HU.out.frozen q
        have hqp : q < p + 1 := by omega
        by_cases hgo : 0 < q ∧ y < row.getD q 0
        · obtain ⟨r, hr⟩ : ∃ r, q = r + 1 := ⟨q - 1, by omega⟩
          have HST : Hid (rpos row y q = rpos row y r) := by rw [hr] at hgo ⊢; exact rpos_step hgo.2
          have hd : decide (0 < q) = true := by simp; omega
          have hlt4 := hgo.2
          have hwq : IntKind.i64.wrap ((q : Int) - 1) = (r : Int) := by rw [IntWalk.i64_in _ (by omega)]; omega
          have HRR := hid hr
          clear hr hgo
          generalize row.getD q 0 = z at *
          go_wp2
          go_roundg r
          case measure => have := HRR.out; omega
          case rel => exact ⟨r, by have := HRR.out; omega, by omega, by have := HRR.out; go_num, rfl, by rw [HRP.out, HST.out]⟩
        · have HPQ : Hid (rpos row y p = q) := by
            rw [HRP.out]
            rcases Nat.eq_zero_or_pos q with h0 | h0
            · rw [h0]; exact rfl
            · exact rpos_stop (fun h5 => hgo ⟨h0, h5⟩)
          have HRO : Hid (rout y row = (row.set q y, row.getD q 0)) := by
            unfold rout
            rw [HP.out, Nat.add_sub_cancel, HPQ.out]
            exact rfl
          have HST := hid (HS.out h2 (p + 1) c2 hcell (by rw [HGD.out]; exact HP.out.symm) q y)
          rw [HGD.out, HSM.out] at HST
          rw [HRO.out] at HTD
          by_cases h0 : 0 < q
          · have hd : decide (0 < q) = true := by simp; omega
            have hnl : ¬ y < row.getD q 0 := fun h5 => hgo ⟨h0, h5⟩
            clear hgo
            generalize row.getD q 0 = z at *
            go_wp2
            go_roundg j
            case measure => omega
            case rel =>
              refine ⟨j, by omega, Nat.le_refl _, by go_num, by rw [HTD.out], ?_, HON.out.trans HST.out.2⟩
              rw [HTD.out]
              exact HST.out.1
          · have hq0 : q = 0 := by omega
            subst hq0
            clear hgo
            generalize row.getD 0 0 = z at *
            go_wp2
            go_roundg j
            case measure => omega
            case rel =>
              refine ⟨j, by omega, Nat.le_refl _, by go_num, by rw [HTD.out], ?_, HON.out.trans HST.out.2⟩
              rw [HTD.out]
              exact HST.out.1

end Go.Proofs.Ytbcjfiobggggjaa

/-
  tableau.rowOfEach: the row of each number.
-/
namespace Go.Proofs.Ytbcjfiobggggjaa
open Go.RowKit

theorem rows_cross : ∀ {T : List (List Int)}, T.flatten.Nodup → ∀ {i j : Nat} {y z : Int}, i ≠ j → y ∈ T.getD i [] → z ∈ T.getD j [] → y ≠ z
  | [], _, i, j, y, z, _, hy, _ => by simp at hy
  | r :: T, h, 0, 0, _, _, hij, _, _ => absurd rfl hij
  | r :: T, h, 0, j + 1, y, z, _, hy, hz => by
    rw [List.flatten_cons, List.nodup_append] at h
    exact h.2.2 y (by simpa using hy) z (flat_mem (by simpa using hz))
  | r :: T, h, i + 1, 0, y, z, _, hy, hz => by
    rw [List.flatten_cons, List.nodup_append] at h
    exact fun e => h.2.2 z (by simpa using hz) y (flat_mem (by simpa using hy)) e.symm
  | r :: T, h, i + 1, j + 1, y, z, hij, hy, hz => by
    rw [List.flatten_cons, List.nodup_append] at h
    exact rows_cross (T := T) h.2.1 (i := i) (j := j) (by omega) (by simpa using hy) (by simpa using hz)
/-- What rowOfEach knows: of i rows all, of the next one k numbers. -/
def RowsTo (Q : List (List Int)) (i k : Nat) (G : List Nat) : Prop := G.length = Q.flatten.length ∧ ∀ i' y, ((i' < i ∧ y ∈ Q.getD i' []) ∨ (i' = i ∧ y ∈ (Q.getD i []).take k)) → G.getD y.toNat 0 = i'
theorem take_not_mem {r : List Int} (h : r.Nodup) {k : Nat} (hk : k < r.length) : r.getD k 0 ∉ r.take k := by
  intro hm
  obtain ⟨i, hi, e⟩ := List.getElem_of_mem hm
  rw [List.length_take] at hi
  rw [List.getElem_take, List.getD_eq_getElem?_getD, List.getElem?_eq_getElem hk] at e
  exact List.pairwise_iff_getElem.1 h i k (by omega) hk (by omega) e
theorem RowsTo.step {Q : List (List Int)} {i k : Nat} {G : List Nat} (h : RowsTo Q i k G) (hd : Q.flatten.Nodup) (hb : ∀ y ∈ Q.flatten, 0 ≤ y ∧ y < (Q.flatten.length : Int)) (hk : k < (Q.getD i []).length) : RowsTo Q i (k + 1) (G.set ((Q.getD i []).getD k 0).toNat i) := by
  have hzm : (Q.getD i []).getD k 0 ∈ Q.getD i [] := getD_mem0 hk
  have hz := hb _ (flat_mem hzm)
  refine ⟨by rw [List.length_set]; exact h.1, fun i' y hy => ?_⟩
  have hyQ : y ∈ Q.flatten := by
    rcases hy with ⟨_, hy⟩ | ⟨_, hy⟩
    · exact flat_mem hy
    · exact flat_mem (List.mem_of_mem_take hy)
  have hyb := hb y hyQ
  rw [List.getD_eq_getElem?_getD, List.getElem?_set]
  by_cases e : y = (Q.getD i []).getD k 0
  · subst e
    rw [if_pos rfl, if_pos (by rw [h.1]; omega)]
    rcases hy with ⟨h1, hy⟩ | ⟨h1, _⟩
    · exact absurd rfl (rows_cross hd (by omega) hy hzm)
    · exact h1.symm
  · rw [if_neg (by omega), ← List.getD_eq_getElem?_getD]
    refine h.2 i' y ?_
    rcases hy with hy | ⟨h1, hy⟩
    · exact .inl hy
    · refine .inr ⟨h1, ?_⟩
      rw [take_snoc hk] at hy
      rcases List.mem_append.1 hy with h2 | h2
      · exact h2
      · rw [List.mem_singleton] at h2
        exact absurd h2 e
theorem RowsTo.next {Q : List (List Int)} {i : Nat} {G : List Nat} (h : RowsTo Q i (Q.getD i []).length G) : RowsTo Q (i + 1) 0 G := by
  refine ⟨h.1, fun i' y hy => h.2 i' y ?_⟩
  rcases hy with ⟨h1, hy⟩ | ⟨_, hy⟩
  · by_cases e : i' = i
    · subst e
      exact .inr ⟨rfl, by rw [List.take_of_length_le (Nat.le_refl _)]; exact hy⟩
    · exact .inl ⟨by omega, hy⟩
  · simp at hy
theorem RowsTo.done {Q : List (List Int)} {G : List Nat} (h : RowsTo Q Q.length 0 G) : RowsOf Q G := by
  refine ⟨h.1, fun i y hy => h.2 i y (.inl ⟨?_, hy⟩)⟩
  rcases Nat.lt_or_ge i Q.length with h1 | h1
  · exact h1
  · rw [List.getD_eq_getElem?_getD, List.getElem?_eq_none h1] at hy
    simp at hy

def intsOf (G : List Nat) : List Int := G.map (fun n : Nat => (n : Int))
theorem intsOf_set (G : List Nat) (j i : Nat) : intsOf (G.set j i) = (intsOf G).set j (i : Int) := by simp [intsOf, List.map_set]
theorem intsOf_getD (G : List Nat) (j : Nat) : (intsOf G).getD j 0 = ((G.getD j 0 : Nat) : Int) := by
  unfold intsOf
  rw [List.getD_eq_getElem?_getD, List.getD_eq_getElem?_getD, List.getElem?_map]
  rcases G[j]? with _ | x <;> rfl

set_option maxRecDepth 100000 in
set_option maxHeartbeats 2000000 in
theorem rowOfEach_any (A : Option Addr) (n c : Nat) (Q : List (List Int)) (w : World) (h : RRows w A n Q) (hQ : IsTab Q) :
    Calls Try.prog 69 #[.slice A n c] w fun e w' => ∃ g G, e = .returned (.slice (some ⟨g, 0, none⟩) Q.flatten.length Q.flatten.length) ∧ RowsOf Q G ∧ w.heap.size ≤ g ∧ Arr w' g (intsOf G) ∧ Below w.heap.size w w' := by
  have H := hid h
  have HL := hid h.len
  have hn10 : n ≤ 10 := by rw [← h.len]; exact hQ.len
  obtain ⟨fl, hfl⟩ : ∃ fl, fl = Q.flatten.length := ⟨_, rfl⟩
  have hf10 : fl ≤ 10 := by rw [hfl]; exact hQ.flat
  have HQ := hid hQ
  have HD : Hid (Q.flatten.Nodup) := hQ.perm.nodup_iff.2 (nodup_iota _)
  have HBD : Hid (∀ y ∈ Q.flatten, 0 ≤ y ∧ y < (Q.flatten.length : Int)) := fun y hy => mem_iota.1 (hQ.perm.mem_iff.1 hy)
  have HFL := hid hfl
  have hmk := fun W => run_make_row' (P := Try.prog) 23 3 (.int .i64 0) 8 Try.underlying23 infoInt rfl .i64 .i64 fl (by omega) (by omega) W
  rw [← hfl]
  clear h hQ hfl
  go_enter Try.func69, Try.ntmps69
  go_wp2_with fail
  refine (concat_any A n c Q _ H.out (by omega) (by rw [← HFL.out]; omega)).mono ?_
  rintro e w1 ⟨v1, rfl, ho1, hb1⟩
  obtain ⟨A1, c1, rfl, _, _⟩ := ho1.ints
  rw [← HFL.out]
  have HB1 := hid hb1
  clear ho1 hb1
  go_wp2_with fail
  clear hmk
  obtain ⟨gb, hgb⟩ : ∃ gb, gb = w1.heap.size := ⟨_, rfl⟩
  have HW0 : Hid (w.heap.size ≤ gb) := by rw [hgb]; exact HB1.out.size
  obtain ⟨w8, hw8⟩ : ∃ w8, w8 = w1.alloc (.cells (madeCells #[.int .i64 0] fl) 3) := ⟨_, rfl⟩
  have HAR0 : Hid (Arr w8 gb (intsOf (List.replicate fl 0))) := by
    rw [hw8, hgb, show intsOf (List.replicate fl 0) = List.replicate fl 0 by simp [intsOf]]
    exact Arr.made w1 fl
  have HB8 : Hid (Below w.heap.size w w8) := by rw [hw8]; exact below_step HB1.out (Nat.le_refl _) (below_alloc _ _)
  rw [← hw8, ← hgb]
  clear hw8 hgb HB1
  go_loopg [14] n (fun g t wr => ∃ (i : Nat) (G : List Nat), i ≤ n ∧ n - i ≤ g ∧ t = .int .i64 (i : Int) ∧ RowsTo Q i 0 G ∧ Arr wr gb (intsOf G) ∧ Below w.heap.size w wr)
  case atStart =>
    refine ⟨0, List.replicate fl 0, Nat.zero_le _, by omega, rfl, ⟨by rw [List.length_replicate, HFL.out], fun i' y hy => ?_⟩, HAR0.out, HB8.out⟩
    rcases hy with ⟨h1, _⟩ | ⟨_, h1⟩
    · omega
    · simp at h1
  case round =>
    obtain ⟨i, G, hi, hg, rfl, hrt, har, hb⟩ := hrel
    have HRT := hid hrt
    have HAR := hid har
    have HB := hid hb
    clear hrt har hb HAR0 HB8
    by_cases hlt : i < n
    · obtain ⟨b1, o1, Aj, nj, cj, rfl, g1, hI1, hc1⟩ := (H.out.keep HB.out).at hlt
      have HLJ := hid hI1.len
      have hnj : nj ≤ 10 := by
        have h1 := length_le_flat2 Q i
        have h2 := hI1.len
        have h3 := HFL.out
        omega
      have HIJ := hid ((H.out).at hlt)
      obtain ⟨b1', o1', Aj', nj', cj', e1, g1', hI1', _⟩ := H.out.at hlt
      have hsame : Aj' = Aj ∧ nj' = nj := by
        injection e1 with e1
        injection e1 with e2 e3
        subst e2
        subst e3
        obtain ⟨b9, o9, e9, hl9, _⟩ := H.out.row (by omega)
        injection e9 with e9
        injection e9 with e9 _
        have := (HB.out.cell (p := ⟨b1, o1 + i, none⟩) (by rw [e9]; exact hl9)).symm.trans g1
        rw [g1'] at this
        injection this with this
        injection this with t1 t2 t3
        exact ⟨t1, t2⟩
      obtain ⟨rfl, rfl⟩ := hsame
      have HI0 := hid hI1'
      clear hI1 hI1' hc1 e1 g1' HIJ
      go_wp2
      obtain ⟨w9, hw9⟩ : ∃ w9, w9 = wr := ⟨_, rfl⟩
      rw [← hw9] at HAR HB
      rw [← hw9]
      clear hw9 g1
      go_loopg [21] nj' (fun g t wq => ∃ (k : Nat) (G2 : List Nat), k ≤ nj' ∧ nj' - k ≤ g ∧ t = .int .i64 (k : Int) ∧ RowsTo Q i k G2 ∧ Arr wq gb (intsOf G2) ∧ Below w.heap.size w wq)
      case atStart => exact ⟨0, G, Nat.zero_le _, by omega, rfl, HRT.out, HAR.out, HB.out⟩
      case round =>
        obtain ⟨k, G2, hk, hg2, rfl, hrt, har, hb⟩ := hrel
        have HRT2 := hid hrt
        have HAR2 := hid har
        have HB2 := hid hb
        clear hrt har hb HRT HAR HB
        by_cases hlt2 : k < nj'
        · obtain ⟨b2, o2, rfl, hbb2, hc2⟩ := (HI0.out.keep HB2.out).row (by omega)
          have g2 := hc2 k hlt2
          have hkl : k < (Q.getD i []).length := by rw [HLJ.out]; exact hlt2
          have HST := hid (HRT2.out.step HD.out HBD.out hkl)
          obtain ⟨y1, y2⟩ := HBD.out _ (flat_mem (getD_mem0 hkl))
          rw [← HFL.out] at y2
          clear hc2
          generalize hyy : (Q.getD i []).getD k 0 = yy at *
          obtain ⟨y, rfl⟩ := Int.eq_ofNat_of_zero_le y1
          have hyf : y < fl := by omega
          have hlen : (intsOf G2).length = fl := by unfold intsOf; rw [List.length_map, HRT2.out.1, HFL.out]
          have g3 := HAR2.out.cell (j := y) (by rw [hlen]; exact hyf)
          have f3 := HAR2.out.frozen y
          have HAS := hid (HAR2.out.set y (i : Int))
          rw [← intsOf_set] at HAS
          have hwl := HW0.out
          clear hyy y1 y2 hkl hlen
          generalize (intsOf G2).getD y 0 = oldv at *
          go_wp2
          go_roundg (nj' - (k + 1))
          case measure => omega
          case rel => exact ⟨k + 1, _, by omega, by omega, by go_num, HST.out, by rw [Int.toNat_natCast]; exact HAS.out, HB2.out.setCell (show w.heap.size ≤ gb from hwl) _⟩
        · have hkj : k = nj' := by omega
          subst hkj
          have HNX := hid (RowsTo.next (Q := Q) (i := i) (G := G2) (by rw [HLJ.out]; exact HRT2.out))
          go_wp2
          go_roundg (n - (i + 1))
          case measure => omega
          case rel => exact ⟨i + 1, G2, by omega, by omega, by go_num, HNX.out, HAR2.out, HB2.out⟩
    · have hin : i = n := by omega
      subst hin
      have HDN := hid (RowsTo.done (Q := Q) (G := G) (by rw [HL.out]; exact HRT.out))
      go_wp2
      go_ret
      exact ⟨gb, G, rfl, HDN.out, HW0.out, HAR.out, HB.out⟩

end Go.Proofs.Ytbcjfiobggggjaa
