/-
  Texts joined: TabB, TabC, PartF, Grid, TabE, TabD, TpM, TpA, ShufC.
-/
import Derived.Test.YtmdpfadfimodjaaDoorPermsOwnPart1
import Derived.Laws.AppendOwnNone
import Derived.Maps.AppendAt
import Derived.Lib.AppendZeros
import Derived.Lib.AppendZerosOnto
import Derived.Lib.BitFns
import Derived.Laws.OwnMore

/-
  Putting out again what was put in (P39; ROBINSON, SCHENSTED, KNUTH). Plain facts; no program, no memory.
-/
namespace Go.Proofs.YtmdpfadfimodjaaDoor

def Srt (r : List Int) : Prop := r.Pairwise (· < ·)
/-- Row b may stand below row a. -/
def Fits (a b : List Int) : Prop := b.length ≤ a.length ∧ ∀ k, k < b.length → a.getD k 0 < b.getD k 0
/-- Rows that rise, each below the one above it (the last ones may be empty). -/
def TabL : List (List Int) → Prop
  | [] => True
  | r :: T => Srt r ∧ Fits r (T.headD []) ∧ TabL T

/-- Where the last number lies that is not greater. -/
def rpos (row : List Int) (y : Int) : Nat → Nat
  | 0 => 0
  | k + 1 => if y < row.getD (k + 1) 0 then rpos row y k else k + 1
def rout (y : Int) (row : List Int) : List Int × Int := (row.set (rpos row y (row.length - 1)) y, row.getD (rpos row y (row.length - 1)) 0)
/-- What is put out again, if row r became longer. -/
def trem : List (List Int) → Nat → List (List Int) × Int
  | [], _ => ([], 0)
  | row :: T, 0 => (row.dropLast :: T, row.getLastD 0)
  | row :: T, r + 1 => ((rout (trem T r).2 row).1 :: (trem T r).1, (rout (trem T r).2 row).2)

theorem getD_mid0 (l1 : List Int) (x : Int) (l2 : List Int) : (l1 ++ x :: l2).getD l1.length 0 = x := by
  rw [List.getD_eq_getElem?_getD, List.getElem?_append_right (Nat.le_refl _), Nat.sub_self]
  rfl
theorem getD_right0 (l1 : List Int) (x : Int) (l2 : List Int) (j : Nat) : (l1 ++ x :: l2).getD (l1.length + 1 + j) 0 = l2.getD j 0 := by
  rw [List.getD_eq_getElem?_getD, List.getElem?_append_right (by omega), show l1.length + 1 + j - l1.length = j + 1 by omega, List.getElem?_cons_succ, ← List.getD_eq_getElem?_getD]
theorem rpos_mid {l1 : List Int} {x : Int} {l2 : List Int} {y : Int} (hx : x ≤ y) (h2 : ∀ z ∈ l2, y < z) : ∀ d, d ≤ l2.length → rpos (l1 ++ x :: l2) y (l1.length + d) = l1.length
  | 0, _ => by
    rcases e : l1.length with _ | k
    · rfl
    · have h := getD_mid0 l1 x l2
      rw [Nat.add_zero, rpos, ← e, h, if_neg (by omega)]
  | d + 1, hd => by
    have h := getD_right0 l1 x l2 d
    have hm : l2.getD d 0 ∈ l2 := by
      rw [List.getD_eq_getElem?_getD, List.getElem?_eq_getElem (by omega)]
      exact List.getElem_mem (by omega)
    rw [show l1.length + (d + 1) = (l1.length + d) + 1 by omega, rpos, show l1.length + d + 1 = l1.length + 1 + d by omega, h, if_pos (h2 _ hm)]
    exact rpos_mid hx h2 d (by omega)
theorem rout_mid {l1 : List Int} {x : Int} {l2 : List Int} {y : Int} (hx : x ≤ y) (h2 : ∀ z ∈ l2, y < z) : rout y (l1 ++ x :: l2) = (l1 ++ y :: l2, x) := by
  have h := rpos_mid (l1 := l1) hx h2 l2.length (Nat.le_refl _)
  have hl : (l1 ++ x :: l2).length - 1 = l1.length + l2.length := by simp
  unfold rout
  rw [hl, h, getD_mid0, List.set_append_right _ _ (Nat.le_refl _), Nat.sub_self]
  rfl

/-- What was put in is put out. -/
theorem trem_tin : ∀ (T : List (List Int)) (x : Int) (E : List (List Int)), (∀ r ∈ T, Srt r) → trem ((tin T x).1 ++ E) (tin T x).2 = (T ++ (if (tin T x).2 = T.length then [] :: E else E), x)
  | [], x, E, _ => rfl
  | row :: T, x, E, h => by
    have hrow := h row (by simp)
    rcases rin_cases x row with h1 | ⟨l1, y, l2, rfl, h1, h2⟩
    · rw [tin_all T h1, if_neg (by simp)]
      simp [trem]
    · rw [tin_at l2 T h1 h2]
      have ih := trem_tin T y E (fun r hr => h r (by simp [hr]))
      have hy : ∀ z ∈ l2, y < z := by
        unfold Srt at hrow
        rw [List.pairwise_append] at hrow
        exact fun z hz => (List.pairwise_cons.1 hrow.2.1).1 z hz
      simp only [List.cons_append, trem, ih, rout_mid (show x ≤ y by omega) hy, List.length_cons, Nat.add_right_cancel_iff]

def tbk : List (List Int) → List Nat → List Int
  | _, [] => []
  | P, g :: gs => (trem P g).2 :: tbk (trem P g).1 gs
/-- Into which row each index went, the last first. -/
def gR : List Int → List Nat
  | [] => []
  | x :: w => (tin (rsR w).1 x).2 :: gR w
theorem gR_snoc (w : List Int) (x : Int) : gR (w ++ [x]).reverse = (tin (PT w) x).2 :: gR w.reverse := by simp [gR, PT]
theorem gR_length (w : List Int) : (gR w).length = w.length := by
  induction w with
  | nil => rfl
  | cons x w ih => simp [gR, ih]
theorem tbk_of (w : List Int) : (∀ u v, w = u ++ v → ∀ r ∈ PT u, Srt r) → ∀ E, tbk (PT w ++ E) (gR w.reverse) = w.reverse := by
  induction w using snoc_ind with
  | h0 => intro _ E; rfl
  | h1 w x ih =>
    intro h E
    rw [PT_snoc, gR_snoc, tbk, trem_tin _ _ _ (h w [x] rfl), ih (fun u v e => h u (v ++ [x]) (by rw [e, List.append_assoc]))]
    simp
/-- Each index lies in its row. -/
theorem mem_tadd_old {M y : Int} : ∀ {T : List (List Int)} {r i : Nat}, y ∈ T.getD i [] → y ∈ (tadd T r M).getD i []
  | [], r, i, h => by simp at h
  | row :: T, 0, 0, h => by
    simp only [tadd, List.getD_cons_zero] at h ⊢
    exact List.mem_append_left _ h
  | row :: T, 0, i + 1, h => by simpa [tadd] using h
  | row :: T, r + 1, 0, h => by simpa [tadd] using h
  | row :: T, r + 1, i + 1, h => by
    simp only [tadd, List.getD_cons_succ] at h ⊢
    exact mem_tadd_old (T := T) (r := r) (i := i) h
theorem mem_tadd_new {M : Int} : ∀ {T : List (List Int)} {r : Nat}, r ≤ T.length → M ∈ (tadd T r M).getD r []
  | [], r, h => by
    have : r = 0 := by simpa using h
    subst this
    simp [tadd]
  | row :: T, 0, _ => by simp [tadd]
  | row :: T, r + 1, h => by
    simp only [tadd, List.getD_cons_succ]
    exact mem_tadd_new (by simpa using h)
theorem gR_rows (w : List Int) : ∀ i, i < w.length → (i : Int) ∈ (QT w).getD ((gR w.reverse).reverse.getD i 0) [] := by
  induction w using snoc_ind with
  | h0 => intro i hi; simp at hi
  | h1 w x ih =>
    intro i hi
    rw [QT_snoc, gR_snoc, List.reverse_cons]
    have hl : (gR w.reverse).reverse.length = w.length := by rw [List.length_reverse, gR_length, List.length_reverse]
    rw [List.length_append, List.length_singleton] at hi
    by_cases e : i < w.length
    · have e2 : ((gR w.reverse).reverse ++ [(tin (PT w) x).2]).getD i 0 = (gR w.reverse).reverse.getD i 0 := by
        rw [List.getD_eq_getElem?_getD, List.getD_eq_getElem?_getD, List.getElem?_append_left (by rw [hl]; exact e)]
      rw [e2]
      exact mem_tadd_old (T := QT w) (ih i e)
    · have ei : i = w.length := by omega
      subst ei
      have e2 : ((gR w.reverse).reverse ++ [(tin (PT w) x).2]).getD w.length 0 = (tin (PT w) x).2 := by
        rw [List.getD_eq_getElem?_getD, List.getElem?_append_right (by rw [hl]; exact Nat.le_refl _), hl, Nat.sub_self]
        rfl
      rw [e2]
      exact mem_tadd_new (by rw [← PQ_length]; exact tin_le _ _)

/-! ### The other way round -/
theorem srt_getD {r : List Int} (h : Srt r) {i j : Nat} (hij : i < j) (hj : j < r.length) : r.getD i 0 < r.getD j 0 := by
  have := List.pairwise_iff_getElem.1 h i j (by omega) hj hij
  rw [List.getD_eq_getElem?_getD, List.getD_eq_getElem?_getD, List.getElem?_eq_getElem (by omega), List.getElem?_eq_getElem hj]
  exact this
theorem srt_of_getD {r : List Int} (h : ∀ i j, i < j → j < r.length → r.getD i 0 < r.getD j 0) : Srt r := by
  unfold Srt
  rw [List.pairwise_iff_getElem]
  intro i j hi hj hij
  have := h i j hij hj
  rw [List.getD_eq_getElem?_getD, List.getD_eq_getElem?_getD, List.getElem?_eq_getElem hi, List.getElem?_eq_getElem hj] at this
  exact this
/-- The last one that is not greater than y. -/
theorem last_le (y : Int) : ∀ (row : List Int), Srt row → (∃ z ∈ row, z ≤ y) → ∃ m1 x m2, row = m1 ++ x :: m2 ∧ x ≤ y ∧ ∀ z ∈ m2, y < z
  | [], _, ⟨z, hz, _⟩ => by simp at hz
  | a :: r, h, ⟨z, hz, hzy⟩ => by
    unfold Srt at h
    rw [List.pairwise_cons] at h
    by_cases h1 : ∃ z ∈ r, z ≤ y
    · obtain ⟨m1, x, m2, e, h2, h3⟩ := last_le y r h.2 h1
      exact ⟨a :: m1, x, m2, by rw [e]; rfl, h2, h3⟩
    · refine ⟨[], a, r, rfl, ?_, fun z hz => ?_⟩
      · rcases List.mem_cons.1 hz with rfl | hz
        · exact hzy
        · exact absurd ⟨z, hz, hzy⟩ h1
      · rcases Int.lt_or_le y z with h2 | h2
        · exact h2
        · exact absurd ⟨z, hz, h2⟩ h1

theorem getD_mem0 {l : List Int} {k : Nat} (hk : k < l.length) : l.getD k 0 ∈ l := by
  rw [List.getD_eq_getElem?_getD, List.getElem?_eq_getElem hk]
  exact List.getElem_mem hk
theorem getD_left0 (l1 : List Int) (l2 : List Int) {k : Nat} (hk : k < l1.length) : (l1 ++ l2).getD k 0 = l1.getD k 0 := by
  rw [List.getD_eq_getElem?_getD, List.getD_eq_getElem?_getD, List.getElem?_append_left hk]

structure Out (P P' : List (List Int)) (x : Int) (g : Nat) : Prop where
  tab : TabL P'
  put : tin P' x = (P, g)
  flat : P.flatten.Perm (x :: P'.flatten)
  len : P'.length = P.length
  lens : ∀ i, tlen P i = tlen P' i + (if i = g then 1 else 0)
  head : ∃ c, c < (P.headD []).length ∧ (P.headD []).getD c 0 = x ∧ (P'.headD []).length ≤ (P.headD []).length ∧ (∀ k, k < (P'.headD []).length → (P.headD []).getD k 0 ≤ (P'.headD []).getD k 0) ∧ (c < (P'.headD []).length → x < (P'.headD []).getD c 0)

theorem headD_mem {T : List (List Int)} {k : Nat} (hk : k < (T.headD []).length) : (T.headD []).getD k 0 ∈ T.flatten := by
  cases T with
  | nil => simp at hk
  | cons r T =>
    simp only [List.headD_cons] at hk ⊢
    rw [List.flatten_cons]
    exact List.mem_append_left _ (getD_mem0 hk)

theorem trem_out : ∀ (P : List (List Int)) (g : Nat), TabL P → P.flatten.Nodup → g < P.length → (P.getD (g + 1) []).length < (P.getD g []).length → Out P (trem P g).1 (trem P g).2 g
  | [], _, _, _, h, _ => absurd h (Nat.not_lt_zero _)
  | row :: T, 0, ht, hd, _, hc => by
    obtain ⟨hs, hf, hT⟩ := ht
    simp only [List.getD_cons_zero] at hc
    have hne : row ≠ [] := by rintro rfl; simp at hc
    obtain ⟨l, x, rfl⟩ : ∃ l x, row = l ++ [x] := by
      rcases List.eq_nil_or_concat row with h | ⟨l, x, h⟩
      · exact absurd h hne
      · exact ⟨l, x, by rw [h, List.concat_eq_append]⟩
    have e : trem ((l ++ [x]) :: T) 0 = (l :: T, x) := by simp [trem]
    rw [e]
    have hth : (T.headD []).length ≤ l.length := by
      cases T with
      | nil => simp
      | cons r T =>
        simp only [List.headD_cons, List.length_append, List.length_singleton] at hc ⊢
        simp at hc
        omega
    unfold Srt at hs
    rw [List.pairwise_append] at hs
    refine ⟨⟨hs.1, ⟨hth, fun k hk => ?_⟩, hT⟩, ?_, ?_, rfl, fun i => ?_, ⟨l.length, by simp, ?_, by simp, fun k hk => ?_, fun h => absurd h (by simp)⟩⟩
    · have := hf.2 k hk
      rwa [getD_left0 l [x] (by omega)] at this
    · exact tin_all T (fun z hz => hs.2.2 z hz x (by simp))
    · rw [List.flatten_cons, List.flatten_cons, List.append_assoc]
      exact List.perm_middle
    · rw [tlen_cons, tlen_cons]
      by_cases e : i = 0
      · simp [e]
      · simp [e]
    · simp only [List.headD_cons]
      exact getD_mid0 l x []
    · simp only [List.headD_cons] at hk ⊢
      rw [getD_left0 l [x] hk]
      exact Int.le_refl _
  | row :: T, g + 1, ht, hd, hg, hc => by
    obtain ⟨hs, hf, hT⟩ := ht
    rw [List.flatten_cons, List.nodup_append] at hd
    obtain ⟨hd1, hd2, hd3⟩ := hd
    have ih := trem_out T g hT hd2 (by simpa using hg) (by simpa using hc)
    generalize hq : trem T g = q at ih
    obtain ⟨T', y⟩ := q
    obtain ⟨i1, i2, i3, i4, i5, ⟨c, c1, c2, c3, c4, c5⟩⟩ := ih
    simp only at i1 i2 i3 i4 i5 c1 c2 c3 c4 c5
    have hcr : c < row.length := Nat.lt_of_lt_of_le c1 hf.1
    have hlt : row.getD c 0 < y := by have := hf.2 c c1; rwa [c2] at this
    obtain ⟨m1, x, m2, rfl, hxy, hm2⟩ := last_le y row hs ⟨_, getD_mem0 hcr, by omega⟩
    have hyT : y ∈ T.flatten := by rw [← c2]; exact headD_mem c1
    have hxne : x ≠ y := fun e => hd3 x (by simp) y hyT e
    have hcm : c ≤ m1.length := by
      rcases Nat.lt_or_ge m1.length c with h1 | h1
      · exfalso
        obtain ⟨j, rfl⟩ : ∃ j, c = m1.length + 1 + j := ⟨c - m1.length - 1, by omega⟩
        rw [getD_right0] at hlt
        have := hm2 _ (getD_mem0 (l := m2) (k := j) (by simp at hcr; omega))
        omega
      · exact h1
    have e : trem ((m1 ++ x :: m2) :: T) (g + 1) = ((m1 ++ y :: m2) :: T', x) := by
      rw [trem, hq, rout_mid hxy hm2]
    rw [e]
    have hs' := hs
    unfold Srt at hs'
    rw [List.pairwise_append, List.pairwise_cons] at hs'
    have hnew : ∀ k, k ≠ m1.length → (m1 ++ y :: m2).getD k 0 = (m1 ++ x :: m2).getD k 0 := by
      intro k hk
      rcases Nat.lt_or_ge k m1.length with h1 | h1
      · rw [getD_left0 _ _ h1, getD_left0 _ _ h1]
      · obtain ⟨j, rfl⟩ : ∃ j, k = m1.length + 1 + j := ⟨k - m1.length - 1, by omega⟩
        rw [getD_right0, getD_right0]
    refine ⟨⟨?_, ⟨?_, fun k hk => ?_⟩, i1⟩, ?_, ?_, by simp [i4], fun i => ?_, ⟨m1.length, by simp, ?_, by simp, fun k hk => ?_, fun _ => ?_⟩⟩
    · unfold Srt
      rw [List.pairwise_append, List.pairwise_cons]
      refine ⟨hs'.1, ⟨hm2, hs'.2.1.2⟩, fun a ha b hb => ?_⟩
      rcases List.mem_cons.1 hb with rfl | hb
      · have := hs'.2.2 a ha x (by simp)
        omega
      · exact hs'.2.2 a ha b (by simp [hb])
    · have := hf.1
      simp only [List.length_append, List.length_cons] at this ⊢
      omega
    · by_cases e1 : k = m1.length
      · subst e1
        rw [getD_mid0]
        by_cases e2 : c = m1.length
        · rw [← e2] at hk ⊢
          exact c5 hk
        · have h1 := c4 m1.length hk
          have hsT : Srt (T.headD []) := by
            cases T with
            | nil => exact List.Pairwise.nil
            | cons r T => exact hT.1
          have h2 := srt_getD hsT (show c < m1.length by omega) (Nat.lt_of_lt_of_le hk c3)
          omega
      · rw [hnew k e1]
        have h1 := hf.2 k (Nat.lt_of_lt_of_le hk c3)
        have h2 := c4 k hk
        omega
    · rw [tin_at m2 T' (fun z hz => hs'.2.2 z hz x (by simp)) (show ¬ y < x by omega), i2]
    · rw [List.flatten_cons, List.flatten_cons, List.append_assoc, List.append_assoc, List.cons_append, List.cons_append]
      refine List.perm_middle.trans (List.Perm.cons x ?_)
      refine List.Perm.append_left m1 ?_
      exact (List.Perm.append_left m2 i3).trans List.perm_middle
    · rw [tlen_cons, tlen_cons]
      by_cases e1 : i = 0
      · simp [e1]
      · rw [if_neg e1, if_neg e1, i5 (i - 1)]
        congr 1
        by_cases e2 : i - 1 = g
        · rw [if_pos e2, if_pos (by omega)]
        · rw [if_neg e2, if_neg (by omega)]
    · simp only [List.headD_cons]
      exact getD_mid0 m1 x m2
    · simp only [List.headD_cons] at hk ⊢
      by_cases e1 : k = m1.length
      · subst e1
        rw [getD_mid0, getD_mid0]
        exact hxy
      · rw [hnew k e1]
        exact Int.le_refl _
    · simp only [List.headD_cons]
      rw [getD_mid0]
      omega

/-- All empty. -/
def Emp (E : List (List Int)) : Prop := ∀ r ∈ E, r = []
theorem tin_app : ∀ (T E : List (List Int)) (x : Int), Emp E → tin (T ++ E) x = ((tin T x).1 ++ (if (tin T x).2 = T.length then E.tail else E), (tin T x).2)
  | [], [], x, _ => rfl
  | [], r :: E, x, h => by
    have : r = [] := h r (by simp)
    subst this
    rfl
  | row :: T, E, x, h => by
    rcases rin_cases x row with h1 | ⟨l1, y, l2, rfl, h1, h2⟩
    · rw [tin_all T h1, List.cons_append, tin_all _ h1, if_neg (by simp)]
      rfl
    · rw [tin_at l2 T h1 h2, List.cons_append, tin_at l2 _ h1 h2, tin_app T E y h]
      simp
theorem tadd_app : ∀ (T E : List (List Int)) (g : Nat) (M : Int), Emp E → g < (T ++ E).length → g ≤ T.length → (T ++ E).set g ((T ++ E).getD g [] ++ [M]) = tadd T g M ++ (if g = T.length then E.tail else E)
  | [], [], g, M, _, h, _ => absurd h (Nat.not_lt_zero _)
  | [], r :: E, g, M, h, _, h2 => by
    have : g = 0 := by simpa using h2
    subst this
    have : r = [] := h r (by simp)
    subst this
    simp [tadd]
  | row :: T, E, 0, M, h, _, _ => by simp [tadd]
  | row :: T, E, g + 1, M, h, h1, h2 => by
    have ih := tadd_app T E g M h (by simpa using h1) (by simpa using h2)
    simp only [List.cons_append, List.set_cons_succ, List.getD_cons_succ, tadd, ih, List.length_cons, Nat.add_right_cancel_iff]

theorem emp_tail {E : List (List Int)} (h : Emp E) : Emp E.tail := fun r hr => h r (List.mem_of_mem_tail hr)
theorem emp_of_lens {T : List (List Int)} (h : ∀ i, tlen T i = 0) : Emp T := by
  intro r hr
  obtain ⟨i, hi, rfl⟩ := List.getElem_of_mem hr
  have := h i
  rw [tlen, List.getD_eq_getElem?_getD, List.getElem?_eq_getElem hi] at this
  exact List.eq_nil_of_length_eq_zero this

/-- Row g cut short by its last number. -/
theorem cut_tab : ∀ (Q : List (List Int)) (g : Nat) (l : List Int) (M : Int), TabL Q → g < Q.length → Q.getD g [] = l ++ [M] → (Q.getD (g + 1) []).length ≤ l.length → TabL (Q.set g l)
  | [], _, _, _, _, h, _, _ => absurd h (Nat.not_lt_zero _)
  | row :: T, 0, l, M, ht, _, he, hc => by
    simp only [List.getD_cons_zero] at he
    subst he
    obtain ⟨hs, hf, hT⟩ := ht
    unfold Srt at hs
    rw [List.pairwise_append] at hs
    have hth : (T.headD []).length ≤ l.length := by
      cases T with
      | nil => simp
      | cons r T => simpa using hc
    refine ⟨hs.1, ⟨hth, fun k hk => ?_⟩, hT⟩
    have := hf.2 k hk
    rwa [getD_left0 l [M] (by omega)] at this
  | row :: T, g + 1, l, M, ht, hg, he, hc => by
    obtain ⟨hs, hf, hT⟩ := ht
    have ih := cut_tab T g l M hT (by simpa using hg) (by simpa using he) (by simpa using hc)
    refine ⟨hs, ?_, ih⟩
    cases g with
    | zero =>
      cases T with
      | nil => simp at hg
      | cons r T =>
        simp only [List.getD_cons_succ, List.getD_cons_zero] at he
        subst he
        simp only [List.set_cons_zero, List.headD_cons] at hf ⊢
        refine ⟨by have := hf.1; simp at this; omega, fun k hk => ?_⟩
        have := hf.2 k (by simp; omega)
        rwa [getD_left0 l [M] hk] at this
    | succ g =>
      cases T with
      | nil => simp at hg
      | cons r T => simpa using hf
theorem tlen_set {T : List (List Int)} {g : Nat} {l : List Int} (hg : g < T.length) (i : Nat) : tlen (T.set g l) i = if i = g then l.length else tlen T i := by
  unfold tlen
  simp only [List.getD_eq_getElem?_getD, List.getElem?_set]
  by_cases h : g = i
  · subst h
    simp [hg]
  · have h' : ¬ i = g := fun e => h e.symm
    simp [h, h']
theorem flat_set : ∀ {T : List (List Int)} {g : Nat} {l : List Int} {M : Int}, g < T.length → T.getD g [] = l ++ [M] → T.flatten.Perm (M :: (T.set g l).flatten)
  | [], _, _, _, h, _ => absurd h (Nat.not_lt_zero _)
  | row :: T, 0, l, M, _, he => by
    simp only [List.getD_cons_zero] at he
    subst he
    rw [List.set_cons_zero, List.flatten_cons, List.flatten_cons, List.append_assoc]
    exact List.perm_middle
  | row :: T, g + 1, l, M, hg, he => by
    rw [List.set_cons_succ, List.flatten_cons, List.flatten_cons]
    exact (List.Perm.append_left row (flat_set (by simpa using hg) (by simpa using he))).trans List.perm_middle
theorem tmem_flat {T : List (List Int)} {y : Int} (h : y ∈ T.flatten) : ∃ i, i < T.length ∧ y ∈ T.getD i [] := by
  obtain ⟨r, hr, hy⟩ := List.mem_flatten.1 h
  obtain ⟨i, hi, rfl⟩ := List.getElem_of_mem hr
  refine ⟨i, hi, ?_⟩
  rw [List.getD_eq_getElem?_getD, List.getElem?_eq_getElem hi]
  exact hy
theorem flat_mem {T : List (List Int)} {y : Int} {i : Nat} (h : y ∈ T.getD i []) : y ∈ T.flatten := by
  rcases Nat.lt_or_ge i T.length with h1 | h1
  · rw [List.getD_eq_getElem?_getD, List.getElem?_eq_getElem h1] at h
    exact List.mem_flatten.2 ⟨_, List.getElem_mem h1, h⟩
  · rw [List.getD_eq_getElem?_getD, List.getElem?_eq_none h1] at h
    simp at h
theorem tab_at : ∀ {T : List (List Int)} {i : Nat}, TabL T → Srt (T.getD i []) ∧ Fits (T.getD i []) (T.getD (i + 1) [])
  | [], i, _ => by
    simp only [List.getD_nil]
    exact ⟨List.Pairwise.nil, Nat.le_refl _, fun k hk => absurd hk (Nat.not_lt_zero _)⟩
  | r :: T, 0, h => by
    refine ⟨h.1, ?_⟩
    have := h.2.1
    cases T with
    | nil => simpa using this
    | cons r' T => simpa using this
  | r :: T, i + 1, h => by simpa using tab_at (T := T) (i := i) h.2.2

/-- ROBINSON, SCHENSTED, KNUTH: two tableaux of one form tell a list. -/
theorem back_all : ∀ (n : Nat) (P Q : List (List Int)) (G : List Nat), TabL P → P.flatten.Nodup → TabL Q → (∀ i, tlen P i = tlen Q i) → P.length = Q.length → Q.flatten.Nodup → (∀ y, y ∈ Q.flatten ↔ 0 ≤ y ∧ y < (n : Int)) → G.length = n → (∀ i y, y ∈ Q.getD i [] → G.getD y.toNat 0 = i) →
    ∃ E E', Emp E ∧ Emp E' ∧ (tbk P G.reverse).length = n ∧ P = PT (tbk P G.reverse).reverse ++ E ∧ Q = QT (tbk P G.reverse).reverse ++ E'
  | 0, P, Q, G, _, _, _, hl, _, _, hm, hG, _ => by
    have hG0 : G = [] := List.eq_nil_of_length_eq_zero hG
    subst hG0
    have hQ : Emp Q := by
      intro r hr
      rcases r with _ | ⟨y, r⟩
      · rfl
      · have := (hm y).1 (List.mem_flatten.2 ⟨_, hr, by simp⟩)
        omega
    have hP : Emp P := emp_of_lens (fun i => by
      rw [hl i, tlen]
      rcases Nat.lt_or_ge i Q.length with h1 | h1
      · rw [List.getD_eq_getElem?_getD, List.getElem?_eq_getElem h1]
        show (Q[i]).length = 0
        rw [hQ _ (List.getElem_mem h1)]
        rfl
      · rw [List.getD_eq_getElem?_getD, List.getElem?_eq_none h1]
        rfl)
    exact ⟨P, Q, hP, hQ, rfl, rfl, rfl⟩
  | n + 1, P, Q, G, tP, dP, tQ, hl, hle, dQ, hm, hG, hr => by
    obtain ⟨g, hg, hgm⟩ := tmem_flat ((hm (n : Int)).2 (by omega))
    have hGg := hr g _ hgm
    rw [Int.toNat_natCast] at hGg
    obtain ⟨G', hG'⟩ : ∃ G', G = G' ++ [g] := by
      rcases List.eq_nil_or_concat G with h | ⟨G', z, h⟩
      · subst h; simp at hG
      · rw [List.concat_eq_append] at h
        subst h
        rw [List.length_append, List.length_singleton] at hG
        have e : G'.length = n := by omega
        rw [List.getD_eq_getElem?_getD, List.getElem?_append_right (by omega), e, Nat.sub_self] at hGg
        simp at hGg
        exact ⟨G', by rw [hGg]⟩
    subst hG'
    have hGl : G'.length = n := by rw [List.length_append, List.length_singleton] at hG; omega
    -- the greatest is the last of its row
    obtain ⟨sg, fg⟩ := tab_at (T := Q) (i := g) tQ
    obtain ⟨a, b, hab⟩ := List.append_of_mem hgm
    have hb : b = [] := by
      rcases b with _ | ⟨z, b⟩
      · rfl
      · exfalso
        rw [hab] at sg
        unfold Srt at sg
        rw [List.pairwise_append, List.pairwise_cons] at sg
        have h1 := sg.2.1.1 z (by simp)
        have h2 := (hm z).1 (flat_mem (i := g) (by rw [hab]; simp))
        omega
    subst hb
    have hcut : (Q.getD (g + 1) []).length ≤ a.length := by
      have h1 := fg.1
      rw [hab, List.length_append, List.length_singleton] at h1
      rcases Nat.lt_or_ge a.length (Q.getD (g + 1) []).length with h2 | h2
      · exfalso
        have h3 := fg.2 a.length h2
        rw [hab, getD_mid0] at h3
        have h4 := (hm _).1 (flat_mem (i := g + 1) (getD_mem0 h2))
        omega
      · exact h2
    have hgP : g < P.length := by rw [hle]; exact hg
    have hcP : (P.getD (g + 1) []).length < (P.getD g []).length := by
      have h1 := hl (g + 1)
      have h2 := hl g
      unfold tlen at h1 h2
      rw [h1, h2, hab, List.length_append, List.length_singleton]
      omega
    have O := trem_out P g tP dP hgP hcP
    have tQ' := cut_tab Q g a n tQ hg hab hcut
    have fQ := flat_set hg hab
    have dQ2 := fQ.nodup_iff.1 dQ
    rw [List.nodup_cons] at dQ2
    have dP2 := O.flat.nodup_iff.1 dP
    rw [List.nodup_cons] at dP2
    have hgetQ : ∀ i, (Q.set g a).getD i [] = if i = g then a else Q.getD i [] := by
      intro i
      simp only [List.getD_eq_getElem?_getD, List.getElem?_set]
      by_cases h : g = i
      · subst h
        simp [hg]
      · have h' : ¬ i = g := fun e => h e.symm
        simp [h, h']
    obtain ⟨E, E', hE, hE', hbl, hP, hQ⟩ := back_all n (trem P g).1 (Q.set g a) G' O.tab dP2.2 tQ' (fun i => by
        have h1 := O.lens i
        have h2 := hl i
        rw [tlen_set hg]
        by_cases e : i = g
        · subst e
          have h3 : tlen Q i = a.length + 1 := by unfold tlen; rw [hab]; simp
          rw [if_pos rfl] at h1 ⊢
          omega
        · rw [if_neg e] at h1 ⊢
          omega) (by rw [O.len, List.length_set]; exact hle) dQ2.2 (fun y => by
        have h1 := hm y
        have h2 := fQ.mem_iff (a := y)
        rw [List.mem_cons] at h2
        constructor
        · intro h3
          have h4 := h1.1 (h2.2 (.inr h3))
          have h5 : y ≠ (n : Int) := fun e => dQ2.1 (e ▸ h3)
          omega
        · intro h3
          rcases h2.1 (h1.2 (by omega)) with h4 | h4
          · omega
          · exact h4) hGl (fun i y hy => by
        have hyQ : y ∈ Q.getD i [] := by
          rw [hgetQ i] at hy
          by_cases e : i = g
          · subst e
            rw [if_pos rfl] at hy
            rw [hab]
            exact List.mem_append_left _ hy
          · rwa [if_neg e] at hy
        have h1 := hr i y hyQ
        have h2 := (hm y).1 (flat_mem hyQ)
        have h3 : y ≠ (n : Int) := by
          rintro rfl
          exact dQ2.1 (flat_mem hy)
        rw [List.getD_eq_getElem?_getD, List.getElem?_append_left (by omega), ← List.getD_eq_getElem?_getD] at h1
        exact h1)
    have hbk : tbk P (G' ++ [g]).reverse = (trem P g).2 :: tbk (trem P g).1 G'.reverse := by
      rw [List.reverse_append, List.reverse_singleton, List.singleton_append, tbk]
    rw [hbk, List.reverse_cons]
    generalize hp : (tbk (trem P g).1 G'.reverse).reverse = p at hP hQ ⊢
    have hpl : p.length = n := by rw [← hp, List.length_reverse]; exact hbl
    have A := O.put
    rw [hP, tin_app (PT p) E _ hE] at A
    have A1 := congrArg Prod.fst A
    have A2 := congrArg Prod.snd A
    simp only at A1 A2
    have hgl : g ≤ (QT p).length := by rw [← A2, ← PQ_length]; exact tin_le _ _
    have B := tadd_app (QT p) E' g (n : Int) hE' (by rw [← hQ, List.length_set]; exact hg) hgl
    rw [← hQ, hgetQ g, if_pos rfl, List.set_set, ← hab] at B
    have hsame : Q.set g (Q.getD g []) = Q := by
      rw [List.getD_eq_getElem?_getD, List.getElem?_eq_getElem hg]
      exact List.set_getElem_self hg
    rw [hsame] at B
    refine ⟨if (tin (PT p) (trem P g).2).2 = (PT p).length then E.tail else E, if g = (QT p).length then E'.tail else E', ?_, ?_, by rw [List.length_cons, hbl], ?_, ?_⟩
    · split
      · exact emp_tail hE
      · exact hE
    · split
      · exact emp_tail hE'
      · exact hE'
    · rw [PT_snoc]
      exact A1.symm
    · rw [QT_snoc, A2, hpl]
      exact B

end Go.Proofs.YtmdpfadfimodjaaDoor

/-
  Tableaux (P37): what Check answers, in plain words; the two tableaux of an order are such. No program, no memory.
-/
namespace Go.Proofs.YtmdpfadfimodjaaDoor

theorem anti_tail {T : List (List Int)} {r : List Int} {d : Nat} (h : Anti (grow (tlen (r :: T)) (d + 1))) : Anti (grow (tlen T) d) := by
  intro i
  have := h (i + 1)
  simp only [grow, tlen_cons] at this ⊢
  have e1 : ¬ i + 1 + 1 = 0 := by omega
  have e2 : ¬ i + 1 = 0 := by omega
  rw [if_neg e1, if_neg e2] at this
  simp only [Nat.add_sub_cancel, Nat.add_right_cancel_iff] at this
  exact this
theorem tab_tadd : ∀ (T : List (List Int)) (d : Nat) (M : Int), TabL T → (∀ y ∈ T.flatten, y < M) → d ≤ T.length → Anti (grow (tlen T) d) → TabL (tadd T d M)
  | [], d, M, _, _, h, _ => by
    have : d = 0 := by simpa using h
    subst this
    exact ⟨List.pairwise_singleton _ _, ⟨Nat.zero_le _, fun k hk => absurd hk (Nat.not_lt_zero _)⟩, trivial⟩
  | row :: T, 0, M, ht, hM, _, _ => by
    obtain ⟨hs, hf, hT⟩ := ht
    refine ⟨?_, ⟨?_, fun k hk => ?_⟩, hT⟩
    · unfold Srt
      rw [List.pairwise_append]
      refine ⟨hs, List.pairwise_singleton _ _, fun a ha b hb => ?_⟩
      rw [List.mem_singleton] at hb
      rw [hb]
      exact hM a (by simp [ha])
    · have := hf.1
      rw [List.length_append, List.length_singleton]
      omega
    · rw [getD_left0 _ _ (Nat.lt_of_lt_of_le hk hf.1)]
      exact hf.2 k hk
  | row :: T, d + 1, M, ht, hM, hd, hA => by
    obtain ⟨hs, hf, hT⟩ := ht
    have hMT : ∀ y ∈ T.flatten, y < M := fun y hy => hM y (by rw [List.flatten_cons]; exact List.mem_append_right _ hy)
    refine ⟨hs, ?_, tab_tadd T d M hT hMT (by simpa using hd) (anti_tail hA)⟩
    cases d with
    | zero =>
      have h0 := hA 0
      simp only [grow, tlen_cons] at h0
      simp at h0
      cases T with
      | nil =>
        simp only [tadd, List.headD_cons]
        rw [tlen_nil] at h0
        refine ⟨by simpa using h0, fun k hk => ?_⟩
        have : k = 0 := by simpa using hk
        subst this
        exact hM _ (by rw [List.flatten_cons]; exact List.mem_append_left _ (getD_mem0 (by omega)))
      | cons r T =>
        simp only [tadd, List.headD_cons] at hf ⊢
        rw [tlen_cons, if_pos rfl] at h0
        refine ⟨by simpa using h0, fun k hk => ?_⟩
        rw [List.length_append, List.length_singleton] at hk
        by_cases e : k < r.length
        · rw [getD_left0 _ _ e]
          exact hf.2 k e
        · have : k = r.length := by omega
          subst this
          rw [getD_mid0]
          exact hM _ (by rw [List.flatten_cons]; exact List.mem_append_left _ (getD_mem0 (by omega)))
    | succ d =>
      cases T with
      | nil => simp at hd
      | cons r T => simpa [tadd] using hf

theorem tab_PT : ∀ (N : Nat) (w : List Int), w.length = N → w.Nodup → TabL (PT w)
  | 0, w, hl, _ => by
    have : w = [] := List.eq_nil_of_length_eq_zero hl
    subst this
    exact trivial
  | N + 1, w, hl, hd => by
    obtain ⟨u, M, v, rfl, hM⟩ := max_of w (by rintro rfl; simp at hl) hd
    obtain ⟨r, h1, h2, h3⟩ := mid_row u M v hM
    have hA := anti_sh hd
    rw [h3] at hA
    rw [h2]
    exact tab_tadd _ r M (tab_PT N (u ++ v) (by simp at hl ⊢; omega) (nodup_mid hd)) (fun y hy => hM y (PT_mem hy)) h1 hA
theorem tlen_QT (w : List Int) : tlen (QT w) = Sh w := by
  funext i
  exact (PQ_tlen w i).symm
theorem tab_QT (w : List Int) : w.Nodup → TabL (QT w) := by
  induction w using snoc_ind with
  | h0 => intro _; exact trivial
  | h1 w x ih =>
    intro hd
    have hA := anti_sh hd
    rw [sh_snoc, ← tlen_QT] at hA
    rw [QT_snoc]
    exact tab_tadd _ _ _ (ih (nodup_front hd)) (fun y hy => (QT_mem w y hy).2) (by rw [← PQ_length]; exact tin_le _ _) hA
theorem QT_flat (w : List Int) : (QT w).flatten.Perm (iota w.length) := by
  induction w using snoc_ind with
  | h0 => exact List.Perm.refl _
  | h1 w x ih =>
    rw [QT_snoc, List.length_append, List.length_singleton]
    refine (tadd_flat _ _ _).trans ((List.Perm.cons _ ih).trans ?_)
    have e : iota (w.length + 1) = iota w.length ++ [(w.length : Int)] := by simp [iota, List.range_succ]
    rw [e]
    exact (List.perm_append_singleton _ _).symm

/-- May row stand below the one above? As the program asks it. -/
def fitsB (row above : List Int) : Bool := decide (row.length ≤ above.length) && (List.range row.length).all (fun j => decide (above.getD j 0 < row.getD j 0))
theorem fitsB_iff {row above : List Int} : fitsB row above = true ↔ Fits above row := by
  unfold fitsB Fits
  simp only [Bool.and_eq_true, decide_eq_true_eq, List.all_eq_true, List.mem_range]
def rowOK (T : List (List Int)) (i : Nat) : Bool := !decide ((T.getD i []).length = 0) && sortedB (T.getD i []) && (decide (i = 0) || fitsB (T.getD i []) (T.getD (i - 1) []))
/-- P37. -/
def tabErr (T : List (List Int)) : Int :=
  if 10 < T.length ∨ 10 < T.flatten.length then 2 else if permErr T.flatten = 0 ∧ ∀ i, i < T.length → rowOK T i = true then 0 else 3

theorem srt_of_sorted {r : List Int} (h : sortedB r = true) (hd : r.Nodup) : Srt r := by
  have h1 := sortedB_true.1 h
  have h2 : ∀ d i, i + d < r.length → r.getD i 0 ≤ r.getD (i + d) 0 := by
    intro d
    induction d with
    | zero => intro i _; exact Int.le_refl _
    | succ d ih => intro i hi; exact Int.le_trans (ih i (by omega)) (h1 (i + d) hi)
  refine srt_of_getD fun i j hij hj => ?_
  have h3 := h2 (j - i) i (by omega)
  rw [show i + (j - i) = j by omega] at h3
  have h4 : r.getD i 0 ≠ r.getD j 0 := by
    intro e
    rw [List.getD_eq_getElem?_getD, List.getD_eq_getElem?_getD, List.getElem?_eq_getElem (by omega), List.getElem?_eq_getElem hj] at e
    exact List.pairwise_iff_getElem.1 hd i j (by omega) hj hij e
  omega
theorem sorted_of_srt {r : List Int} (h : Srt r) : sortedB r = true := sortedB_true.2 fun i hi => Int.le_of_lt (srt_getD h (Nat.lt_succ_self i) hi)

/-- From all the rows' own to the tableau. -/
theorem tab_of_rows : ∀ (T : List (List Int)), (∀ i, Srt (T.getD i [])) → (∀ i, Fits (T.getD i []) (T.getD (i + 1) [])) → TabL T
  | [], _, _ => trivial
  | r :: T, h1, h2 => by
    refine ⟨h1 0, ?_, tab_of_rows T (fun i => by simpa using h1 (i + 1)) (fun i => by simpa using h2 (i + 1))⟩
    have := h2 0
    cases T with
    | nil => simpa using this
    | cons r' T => simpa using this
theorem row_nodup : ∀ {T : List (List Int)}, T.flatten.Nodup → ∀ i, (T.getD i []).Nodup
  | [], _, i => by
    rw [List.getD_nil]
    exact List.nodup_nil
  | r :: T, h, 0 => by
    rw [List.flatten_cons, List.nodup_append] at h
    exact h.1
  | r :: T, h, i + 1 => by
    rw [List.flatten_cons, List.nodup_append] at h
    simpa using row_nodup (T := T) h.2.1 i
structure IsTab (T : List (List Int)) : Prop where
  len : T.length ≤ 10
  flat : T.flatten.length ≤ 10
  perm : IsPerm T.flatten
  tab : TabL T
  full : ∀ r ∈ T, r ≠ []
theorem tab_of_err {T : List (List Int)} (h : tabErr T = 0) : IsTab T := by
  unfold tabErr at h
  split at h
  · cases h
  · rename_i h1
    split at h
    · rename_i h2
      obtain ⟨h3, h4⟩ := permErr_ok.1 h2.1
      have hd : T.flatten.Nodup := h4.nodup_iff.2 (nodup_iota _)
      have hrow : ∀ i, i < T.length → (T.getD i []).length ≠ 0 ∧ sortedB (T.getD i []) = true ∧ (i = 0 ∨ fitsB (T.getD i []) (T.getD (i - 1) []) = true) := by
        intro i hi
        have := h2.2 i hi
        unfold rowOK at this
        simpa [and_assoc] using this
      have hout : ∀ i, T.length ≤ i → T.getD i [] = [] := fun i hi => by rw [List.getD_eq_getElem?_getD, List.getElem?_eq_none hi]; rfl
      refine ⟨by omega, by omega, h4, tab_of_rows T (fun i => ?_) (fun i => ?_), fun r hr => ?_⟩
      · rcases Nat.lt_or_ge i T.length with h5 | h5
        · exact srt_of_sorted (hrow i h5).2.1 (row_nodup hd i)
        · rw [hout i h5]
          exact List.Pairwise.nil
      · rcases Nat.lt_or_ge (i + 1) T.length with h5 | h5
        · rcases (hrow (i + 1) h5).2.2 with h6 | h6
          · omega
          · exact fitsB_iff.1 h6
        · rw [hout (i + 1) h5]
          exact ⟨Nat.zero_le _, fun k hk => absurd hk (Nat.not_lt_zero _)⟩
      · obtain ⟨i, hi, rfl⟩ := List.getElem_of_mem hr
        have := (hrow i hi).1
        rw [List.getD_eq_getElem?_getD, List.getElem?_eq_getElem hi] at this
        intro e
        exact this (by simp [e])
    · cases h
theorem err_of_tab {T : List (List Int)} (h : IsTab T) : tabErr T = 0 := by
  have h1 := h.len
  have h2 := h.flat
  unfold tabErr
  rw [if_neg (by omega), if_pos]
  refine ⟨permErr_ok.2 ⟨h2, h.perm⟩, fun i hi => ?_⟩
  have hm : T.getD i [] ∈ T := by
    rw [List.getD_eq_getElem?_getD, List.getElem?_eq_getElem hi]
    exact List.getElem_mem hi
  have h3 := h.full _ hm
  obtain ⟨s1, _⟩ := tab_at (i := i) h.tab
  unfold rowOK
  simp only [Bool.and_eq_true, Bool.not_eq_true', decide_eq_false_iff_not, Bool.or_eq_true, decide_eq_true_eq]
  refine ⟨⟨fun e => h3 (List.eq_nil_of_length_eq_zero e), sorted_of_srt s1⟩, ?_⟩
  cases i with
  | zero => exact .inl rfl
  | succ i => exact .inr (fitsB_iff.2 (tab_at (i := i) h.tab).2)
theorem tabErr_codes (T : List (List Int)) : tabErr T = 0 ∨ tabErr T = 2 ∨ tabErr T = 3 := by
  unfold tabErr
  split
  · exact .inr (.inl rfl)
  · split
    · exact .inl rfl
    · exact .inr (.inr rfl)

theorem full_len : ∀ (T : List (List Int)), (∀ r ∈ T, r ≠ []) → T.length ≤ T.flatten.length
  | [], _ => Nat.le_refl _
  | r :: T, h => by
    have h1 := full_len T (fun x hx => h x (by simp [hx]))
    have h2 := List.length_pos_iff.2 (h r (by simp))
    rw [List.length_cons, List.flatten_cons, List.length_append]
    omega
theorem isTab_PT {p : List Int} (hp : IsPerm p) (hl : p.length ≤ 10) : IsTab (PT p) := by
  have hd : p.Nodup := hp.nodup_iff.2 (nodup_iota _)
  have hf := (PT_flat p).length_eq
  have h2 := full_len _ (PT_full p)
  refine ⟨by omega, by omega, ?_, tab_PT _ p rfl hd, PT_full p⟩
  unfold IsPerm
  rw [hf]
  exact (PT_flat p).trans hp
theorem isTab_QT {p : List Int} (hd : p.Nodup) (hl : p.length ≤ 10) : IsTab (QT p) := by
  have hf : (QT p).flatten.length = p.length := by rw [(QT_flat p).length_eq, length_iota]
  have h2 := full_len _ (QT_full p)
  refine ⟨by omega, by omega, ?_, tab_QT p hd, QT_full p⟩
  unfold IsPerm
  rw [hf]
  exact QT_flat p

/-- What Back gives, of a pair with a table of rows. -/
def backL (P : List (List Int)) (G : List Nat) : List Int := (tbk P G.reverse).reverse
/-- G tells the row of each number of Q. -/
def RowsOf (Q : List (List Int)) (G : List Nat) : Prop := G.length = Q.flatten.length ∧ ∀ i y, y ∈ Q.getD i [] → G.getD y.toNat 0 = i

theorem emp_full {T E : List (List Int)} (hE : Emp E) (h : ∀ r ∈ T ++ E, r ≠ []) : E = [] := by
  rcases E with _ | ⟨r, E⟩
  · rfl
  · exact absurd (hE r (by simp)) (h r (by simp))
theorem tlen_of_map {P Q : List (List Int)} (h : P.map List.length = Q.map List.length) (i : Nat) : tlen P i = tlen Q i := by
  have h1 : ∀ T : List (List Int), tlen T i = (T.map List.length).getD i 0 := by
    intro T
    unfold tlen
    rw [List.getD_eq_getElem?_getD, List.getD_eq_getElem?_getD, List.getElem?_map]
    rcases T[i]? with _ | r <;> rfl
  rw [h1, h1, h]
/-- Two tableaux of one form: Back gives an order, and Of gives them again. -/
theorem back_of_tab {P Q : List (List Int)} {G : List Nat} (hP : IsTab P) (hQ : IsTab Q) (hl : P.map List.length = Q.map List.length) (hG : RowsOf Q G) :
    PT (backL P G) = P ∧ QT (backL P G) = Q ∧ IsPerm (backL P G) ∧ (backL P G).length = Q.flatten.length := by
  have hlen : P.length = Q.length := by
    have := congrArg List.length hl
    simpa using this
  obtain ⟨E, E', hE, hE', h1, h2, h3⟩ := back_all Q.flatten.length P Q G hP.tab (hP.perm.nodup_iff.2 (nodup_iota _)) hQ.tab (tlen_of_map hl) hlen (hQ.perm.nodup_iff.2 (nodup_iota _))
    (fun y => by rw [hQ.perm.mem_iff, mem_iota]) hG.1 hG.2
  have hE0 : E = [] := emp_full (T := PT (backL P G)) hE (by unfold backL; rw [← h2]; exact hP.full)
  have hE1 : E' = [] := emp_full (T := QT (backL P G)) hE' (by unfold backL; rw [← h3]; exact hQ.full)
  subst hE0
  subst hE1
  rw [List.append_nil] at h2 h3
  have hbl : (backL P G).length = Q.flatten.length := by unfold backL; rw [List.length_reverse]; exact h1
  refine ⟨h2.symm, h3.symm, ?_, hbl⟩
  have hpf := PT_flat (backL P G)
  have e : PT (backL P G) = P := h2.symm
  rw [e] at hpf
  unfold IsPerm
  have hfl := hpf.length_eq
  rw [← hfl]
  exact hpf.symm.trans hP.perm
/-- Back undoes Of. -/
theorem back_undoes {p : List Int} (hp : IsPerm p) {G : List Nat} (hG : RowsOf (QT p) G) : backL (PT p) G = p := by
  have hd : p.Nodup := hp.nodup_iff.2 (nodup_iota _)
  have hf : (QT p).flatten.length = p.length := by rw [(QT_flat p).length_eq, length_iota]
  have e : G = (gR p.reverse).reverse := by
    apply List.ext_getElem
    · rw [hG.1, hf, List.length_reverse, gR_length, List.length_reverse]
    · intro i h1 h2
      have hi : i < p.length := by rw [hG.1, hf] at h1; exact h1
      have h3 := hG.2 _ _ (gR_rows p i hi)
      rw [Int.toNat_natCast, List.getD_eq_getElem?_getD, List.getElem?_eq_getElem h1, List.getD_eq_getElem?_getD, List.getElem?_eq_getElem h2] at h3
      exact h3
  unfold backL
  rw [e, List.reverse_reverse]
  have := tbk_of p (fun u v e r hr => by
    have hdu : u.Nodup := by rw [e] at hd; exact nodup_front hd
    obtain ⟨i, hi, rfl⟩ := List.getElem_of_mem hr
    have := (tab_at (i := i) (tab_PT _ u rfl hdu)).1
    rw [List.getD_eq_getElem?_getD, List.getElem?_eq_getElem hi] at this
    exact this) []
  rw [List.append_nil] at this
  rw [this, List.reverse_reverse]

end Go.Proofs.YtmdpfadfimodjaaDoor

/-
  Words of my own for a row of rows of ints that the call made.
-/
namespace Go.Proofs.YtmdpfadfimodjaaDoor
open Go.RowKit

/-- v is the call's own row of rows; each of them lies in memory of its own. -/
def Rows2 (w : World) (base : Nat) (v : Value) (xss : List (List Int)) : Prop :=
  ∃ vals : List Value, vals.length = xss.length ∧ w.ownsRow base 22 1 v vals.length vals ∧ ∀ j, j < xss.length → OwnInts w 0 (vals.getD j (.slice none 0 0)) (xss.getD j [])

theorem infoRow : (Tryd.prog.info? 22).map (fun i => (i.zero, i.size, i.bytes)) = some (some (.slice none 0 0), 1, 24) := by kernel_rfl

theorem Rows2.nil (w : World) (base : Nat) : Rows2 w base (.slice none 0 0) [] := ⟨[], rfl, World.ownsRow_nil w base 22 1, fun _ hj => absurd hj (Nat.not_lt_zero _)⟩

theorem own_keep {w w' : World} {base e size n : Nat} {v : Value} {xs : List Value} (h : w.ownsRow base e size v n xs) (hb : Below w.heap.size w w') : w'.ownsRow base e size v n xs := by
  refine ⟨h.1, ?_⟩
  rcases h.2 with h0 | ⟨g, cap, cur, hv, hg, hh, r⟩
  · exact .inl h0
  · exact .inr ⟨g, cap, cur, hv, hg, (hb.block g (Array.getElem?_eq_some_iff.1 hh).1).trans hh, r⟩
theorem own_mono {w : World} {base base' e size n : Nat} {v : Value} {xs : List Value} (h : w.ownsRow base e size v n xs) (hb : base' ≤ base) : w.ownsRow base' e size v n xs := by
  refine ⟨h.1, ?_⟩
  rcases h.2 with h0 | ⟨g, cap, cur, hv, hg, r⟩
  · exact .inl h0
  · exact .inr ⟨g, cap, cur, hv, Nat.le_trans hb hg, r⟩
theorem Rows2.keep {w w' : World} {base : Nat} {v : Value} {xss : List (List Int)} (h : Rows2 w base v xss) (hb : Below w.heap.size w w') : Rows2 w' base v xss := by
  obtain ⟨vals, hl, ho, hv⟩ := h
  exact ⟨vals, hl, own_keep ho hb, fun j hj => (hv j hj).keep hb⟩
theorem Rows2.mono {w : World} {base base' : Nat} {v : Value} {xss : List (List Int)} (h : Rows2 w base v xss) (hb : base' ≤ base) : Rows2 w base' v xss := by
  obtain ⟨vals, hl, ho, hv⟩ := h
  exact ⟨vals, hl, own_mono ho hb, hv⟩
/-- Another kind of row has grown: this one is as it was. -/
theorem OwnInts.other {w w' : World} {base base2 n : Nat} {v u : Value} {xs : List Int} {ys : List Value} (h : OwnInts w base v xs) (ho : w.ownsRow base2 22 1 u n ys) (hg : w.grownBy w' u.ownBlock) : OwnInts w' base v xs := by
  refine World.ownsRow.kept h hg ?_
  rcases h.2 with ⟨rfl, _⟩ | ⟨g, cap, cur, rfl, _, hh, _⟩
  · exact .inl rfl
  · right
    rcases ho.2 with ⟨rfl, _⟩ | ⟨g2, cap2, cur2, rfl, _, hh2, _⟩
    · simp [Value.ownBlock]
    · simp only [Value.ownBlock, ne_eq, Option.some.injEq]
      intro e
      rw [e, hh2] at hh
      injection hh with hh
      injection hh with _ hh
      exact absurd hh (by decide)

/-- What lies at place j. -/
theorem Rows2.at {w : World} {base : Nat} {v : Value} {xss : List (List Int)} (h : Rows2 w base v xss) {j : Nat} (hj : j < xss.length) :
    ∃ g cap u, v = .slice (some ⟨g, 0, none⟩) xss.length cap ∧ w.cell? ⟨g, j, none⟩ = some u ∧ OwnInts w 0 u (xss.getD j []) := by
  obtain ⟨vals, hl, ho, hv⟩ := h
  rcases ho.2 with ⟨_, h0⟩ | ⟨g, cap, cur, rfl, _, hh, _⟩
  · omega
  · refine ⟨g, cap, vals.getD j (.slice none 0 0), by rw [hl], ?_, hv j hj⟩
    rw [World.ownsRow.cellAt ho j (by omega), List.getD_eq_getElem?_getD, List.getElem?_eq_getElem (by omega)]
    rfl
/-- The row's own length. -/
theorem Rows2.form {w : World} {base : Nat} {v : Value} {xss : List (List Int)} (h : Rows2 w base v xss) : ∃ A c, v = .slice A xss.length c ∧ Cap xss.length c := by
  obtain ⟨vals, hl, ho, _⟩ := h
  rw [hl] at ho
  rcases ho.2 with ⟨rfl, h0⟩ | ⟨g, cap, cur, rfl, _, _, h1, h2, _⟩
  · exact ⟨none, 0, by rw [h0], by rw [h0]; exact ⟨Nat.le_refl _, by omega⟩⟩
  · exact ⟨_, _, rfl, h1, by unfold maxLen at h2; exact h2⟩

theorem cell_oneV (W : World) (y : Value) : ∀ j u, [y][j]? = some u → (W.alloc (.cells #[y] 22)).cell? ((⟨W.heap.size, 0, none⟩ : Addr).add j) = some u := by
  intro j u hj
  match j, hj with
  | 0, hj => simp at hj; subst hj; simp [Addr.add]
theorem own_oneCell {w : World} {base : Nat} {v : Value} {xs : List Int} (h : OwnInts w base v xs) : v.oneCell' = true := by
  obtain ⟨A, c, rfl, _⟩ := h.ints
  rfl

/-- Two rows that do not lie in one block. -/
def ApartV (v u : Value) : Prop := ∀ k, v.ownBlock = some k → u.ownBlock ≠ some k
theorem Rows2.other {w w' : World} {base base2 n : Nat} {v u : Value} {xss : List (List Int)} {ys : List Value} (h : Rows2 w base v xss) (ho : w.ownsRow base2 22 1 u n ys) (ha : ApartV u v) (hg : w.grownBy w' u.ownBlock) : Rows2 w' base v xss := by
  obtain ⟨vals, hl, hv, he⟩ := h
  refine ⟨vals, hl, World.ownsRow.kept hv hg ?_, fun j hj => (he j hj).other ho hg⟩
  rcases e : v.ownBlock with _ | k
  · exact .inl rfl
  · right
    intro e2
    exact ha k e2.symm e
theorem Rows2.lt {w : World} {base : Nat} {v : Value} {xss : List (List Int)} (h : Rows2 w base v xss) : ∀ k, v.ownBlock = some k → base ≤ k ∧ k < w.heap.size := by
  obtain ⟨vals, _, hv, _⟩ := h
  exact World.ownsRow.lt hv

/-- 'append([]int{X}, ys...)'. -/
theorem wpList_consL {ops : Array Oper} {rest : List Oper} {o : Oper} {a : Act} {Q : Exit → Act → World → Prop} (W : World) (hgd : o.guard = none) (s x : Operand)
    (ho : o.op = .call { callee := .builtin .append, args := #[s, x], argTypes := #[22, 22] })
    (X : Int) (hs : a.eval s = .slice (some ⟨W.heap.size, 0, none⟩) 1 1) (y : Value) (ys : List Int) (hx : a.eval x = y) (hy : OwnInts W 0 y ys) (hlen : ys.length ≤ 1000000)
    (h : ∀ v' w', OwnInts w' W.heap.size v' (X :: ys) → Below W.heap.size W w' → wpList Tryd.prog ops Q rest (a.put o.dst v') w') :
    wpList Tryd.prog ops Q (o :: rest) a (W.alloc (.cells #[.int .i64 X] 3)) := by
  have hO : OwnInts (W.alloc (.cells #[.int .i64 X] 3)) W.heap.size (.slice (some ⟨W.heap.size, 0, none⟩) 1 1) [X] := World.ownsRow_lit W #[.int .i64 X] 1 (Nat.le_refl _) (by unfold maxLen; omega) rfl
  have hB := below_alloc W (.cells #[.int .i64 X] 3)
  rcases hy.2 with ⟨rfl, h0⟩ | ⟨g, cap, cur, rfl, _, hh, _⟩
  · have hy0 : ys = [] := List.eq_nil_of_length_eq_zero h0
    subst hy0
    obtain ⟨i0, hi, _⟩ := info_parts infoInt
    refine wpList_append_own_none hgd s x 22 ho W.heap.size 3 i0 1 Tryd.underlying22 hi _ 1 _ hs hO hx ?_
    exact h _ _ hO hB
  · obtain ⟨A', c', e, hI, _⟩ := hy.ints
    injection e with e1 _ e3
    subst e1
    subst e3
    refine wpList_appN _ hgd s x ho W.heap.size _ [X] hs _ _ _ ys hx hO (hI.keep hB) (by simp; omega) (by simp) ?_
    intro v' w' h1 _ h3
    exact h v' w' h1 (hB.trans h3)

/-- One row, which is nil. -/
theorem Rows2.one (w : World) : Rows2 (w.alloc (.cells #[.slice none 0 0] 22)) w.heap.size (.slice (some ⟨w.heap.size, 0, none⟩) 1 1) [[]] :=
  ⟨[.slice none 0 0], rfl, World.ownsRow_lit w #[.slice none 0 0] 1 (Nat.le_refl _) (by unfold maxLen; omega) rfl, fun j hj => by
    have : j = 0 := by simpa using hj
    subst this
    exact OwnInts.nil _ _⟩

end Go.Proofs.YtmdpfadfimodjaaDoor

/-
  Words of my own for rows of rows of ints: rows that are only read, and rows that the call made and changes in place. Nothing of the program is proved here.
-/
namespace Go.Proofs.YtmdpfadfimodjaaDoor
open Go.RowKit

/-- The slice value '.slice A n c' holds the rows T in the world w; each of them is only read. -/
structure RRows (w : World) (A : Option Addr) (n : Nat) (T : List (List Int)) : Prop where
  len : T.length = n
  row : 0 < n → ∃ b off, A = some ⟨b, off, none⟩ ∧ b < w.heap.size ∧ ∀ j, j < n → ∃ Aj nj cj, w.cell? ⟨b, off + j, none⟩ = some (.slice Aj nj cj) ∧ Ints w Aj nj (T.getD j []) ∧ Cap nj cj ∧ (Aj = none → cj = 0)

theorem RRows.nil (w : World) (A : Option Addr) : RRows w A 0 [] := ⟨rfl, fun h => absurd h (by omega)⟩
theorem RRows.keep {w w' : World} {A : Option Addr} {n : Nat} {T : List (List Int)} (h : RRows w A n T) (hb : Below w.heap.size w w') : RRows w' A n T := by
  refine ⟨h.len, fun hn => ?_⟩
  obtain ⟨b, off, e, hlt, hc⟩ := h.row hn
  refine ⟨b, off, e, Nat.lt_of_lt_of_le hlt hb.size, fun j hj => ?_⟩
  obtain ⟨Aj, nj, cj, h1, h2, h3, h4⟩ := hc j hj
  exact ⟨Aj, nj, cj, (hb.cell (p := ⟨b, off + j, none⟩) hlt).trans h1, h2.keep hb, h3, h4⟩
theorem RRows.drewN {w : World} {A : Option Addr} {n : Nat} {T : List (List Int)} (h : RRows w A n T) (k : Nat) : RRows (w.drewN k) A n T := h.keep (below_drewN (Below.refl _ _) k)

/-- Blocks of fp alone may have turned. -/
structure Only (fp : Nat → Prop) (a b : World) : Prop where
  os : b.os = a.os
  tape : b.tape = a.tape
  output : b.output = a.output
  size : a.heap.size ≤ b.heap.size
  block : ∀ k, k < a.heap.size → ¬ fp k → b.heap[k]? = a.heap[k]?
/-- fp, and what has been made since. -/
def fpN (fp : Nat → Prop) (a b : Nat) (k : Nat) : Prop := fp k ∨ (a ≤ k ∧ k < b)

namespace Only
variable {fp : Nat → Prop} {a b c : World}
theorem refl (fp : Nat → Prop) (a : World) : Only fp a a := ⟨rfl, rfl, rfl, Nat.le_refl _, fun _ _ _ => rfl⟩
theorem trans (h : Only fp a b) (k : Only fp b c) : Only fp a c :=
  ⟨k.os.trans h.os, k.tape.trans h.tape, k.output.trans h.output, Nat.le_trans h.size k.size, fun i hi hn => (k.block i (Nat.lt_of_lt_of_le hi h.size) hn).trans (h.block i hi hn)⟩
theorem transN (h : Only fp a b) (k : Only (fpN fp a.heap.size b.heap.size) b c) : Only fp a c :=
  ⟨k.os.trans h.os, k.tape.trans h.tape, k.output.trans h.output, Nat.le_trans h.size k.size, fun i hi hn => (k.block i (Nat.lt_of_lt_of_le hi h.size) (fun e => e.elim hn (fun e => by omega))).trans (h.block i hi hn)⟩
theorem up {fp' : Nat → Prop} (h : Only fp a b) (hs : ∀ k, k < a.heap.size → fp k → fp' k) : Only fp' a b := ⟨h.os, h.tape, h.output, h.size, fun k hk hn => h.block k hk (fun e => hn (hs k hk e))⟩
theorem of_below (h : Below a.heap.size a b) : Only fp a b := ⟨h.os, h.tape, h.output, h.size, fun k hk _ => h.block k hk⟩
theorem below {B : Nat} (h : Only fp a b) (hB : B ≤ a.heap.size) (hf : ∀ k, fp k → B ≤ k) : Below B a b := ⟨h.os, h.tape, h.output, h.size, fun k hk => h.block k (by omega) (fun e => by have := hf k e; omega)⟩
theorem set {g : Nat} (h : Only fp a b) (hg : fp g) (j : Nat) (u : Value) : Only fp a (b.setCell ⟨g, j, none⟩ u) :=
  ⟨h.os, h.tape, h.output, by simpa [World.setCell] using h.size, fun i hi hne => (Below.heap_setCell b ⟨g, j, none⟩ u i (by rintro rfl; exact hne hg)).trans (h.block i hi hne)⟩
theorem grown {row : Option Nat} (h : Only fp a b) (hg : b.grownBy c row) (hr : ∀ k, row = some k → k < a.heap.size → fp k) : Only fp a c :=
  ⟨hg.os.trans h.os, hg.tape.trans h.tape, hg.output.trans h.output, Nat.le_trans h.size hg.size, fun k hk hn => (hg.block k (Nat.lt_of_lt_of_le hk h.size) (fun e => hn (hr k e.symm hk))).trans (h.block k hk hn)⟩
theorem drewN (h : Only fp a b) (n : Nat) : Only fp a (b.drewN n) := ⟨h.os, h.tape, h.output, h.size, h.block⟩
end Only

/-- v holds the rows T; all of it is the call's own, each row in a block of its own; all these blocks are in fp. -/
structure GridAt (w : World) (base : Nat) (fp : Nat → Prop) (v : Value) (vals : List Value) (T : List (List Int)) : Prop where
  len : vals.length = T.length
  own : w.ownsRow base 22 1 v T.length vals
  row : ∀ j, j < T.length → OwnInts w base (vals.getD j (.slice none 0 0)) (T.getD j [])
  apart : ∀ i j, i < T.length → j < T.length → i ≠ j → ∀ k, (vals.getD i (.slice none 0 0)).ownBlock = some k → (vals.getD j (.slice none 0 0)).ownBlock ≠ some k
  inV : ∀ k, v.ownBlock = some k → fp k
  inR : ∀ j, j < T.length → ∀ k, (vals.getD j (.slice none 0 0)).ownBlock = some k → fp k
  bound : ∀ k, fp k → base ≤ k ∧ k < w.heap.size
def Grid (w : World) (base : Nat) (fp : Nat → Prop) (v : Value) (T : List (List Int)) : Prop := ∃ vals, GridAt w base fp v vals T

theorem own_of_block {w w' : World} {base e size n : Nat} {v : Value} {xs : List Value} (h : w.ownsRow base e size v n xs) (hb : ∀ k, v.ownBlock = some k → w'.heap[k]? = w.heap[k]?) : w'.ownsRow base e size v n xs := by
  refine ⟨h.1, ?_⟩
  rcases h.2 with h0 | ⟨g, cap, cur, hv, hg, hh, r⟩
  · exact .inl h0
  · exact .inr ⟨g, cap, cur, hv, hg, (hb g (by rw [hv]; rfl)).trans hh, r⟩
theorem one_refl2 (w : World) (row : Option Nat) : w.grownBy w row := ⟨rfl, rfl, rfl, Nat.le_refl _, fun _ _ _ => rfl⟩
theorem own_apart {w : World} {base base2 n m size : Nat} {v u : Value} {xs ys : List Value} (h : w.ownsRow base 3 size v n xs) (ho : w.ownsRow base2 22 1 u m ys) : ∀ k, v.ownBlock = some k → u.ownBlock ≠ some k := by
  intro k hk e2
  rcases h.2 with ⟨rfl, _⟩ | ⟨g, cap, cur, rfl, _, hh, _⟩
  · cases hk
  · rcases ho.2 with ⟨rfl, _⟩ | ⟨g2, cap2, cur2, rfl, _, hh2, _⟩
    · cases e2
    · simp only [Value.ownBlock, Option.some.injEq] at hk e2
      subst hk
      rw [e2] at hh2
      rw [hh2] at hh
      injection hh with hh
      injection hh with _ hh
      exact absurd hh (by decide)

theorem GridAt.only {w w' : World} {base : Nat} {fp fp2 : Nat → Prop} {v : Value} {vals : List Value} {T : List (List Int)} (h : GridAt w base fp v vals T) (ho : Only fp2 w w') (ha : ∀ k, fp k → ¬ fp2 k) : GridAt w' base fp v vals T := by
  refine ⟨h.len, own_of_block h.own (fun k hk => ?_), fun j hj => own_of_block (h.row j hj) (fun k hk => ?_), h.apart, h.inV, h.inR, fun k hk => ⟨(h.bound k hk).1, Nat.lt_of_lt_of_le (h.bound k hk).2 ho.size⟩⟩
  · exact ho.block k (h.bound k (h.inV k hk)).2 (ha k (h.inV k hk))
  · exact ho.block k (h.bound k (h.inR j hj k hk)).2 (ha k (h.inR j hj k hk))
theorem Grid.only {w w' : World} {base : Nat} {fp fp2 : Nat → Prop} {v : Value} {T : List (List Int)} (h : Grid w base fp v T) (ho : Only fp2 w w') (ha : ∀ k, fp k → ¬ fp2 k) : Grid w' base fp v T := by
  obtain ⟨vals, h⟩ := h
  exact ⟨vals, h.only ho ha⟩
theorem Grid.keep {w w' : World} {base : Nat} {fp : Nat → Prop} {v : Value} {T : List (List Int)} (h : Grid w base fp v T) (hb : Below w.heap.size w w') : Grid w' base fp v T :=
  h.only (Only.of_below (fp := fun _ => False) hb) (fun _ _ e => e)
theorem Grid.bound {w : World} {base : Nat} {fp : Nat → Prop} {v : Value} {T : List (List Int)} (h : Grid w base fp v T) : ∀ k, fp k → base ≤ k ∧ k < w.heap.size := by
  obtain ⟨vals, h⟩ := h
  exact h.bound
theorem Grid.up {w : World} {base : Nat} {fp fp' : Nat → Prop} {v : Value} {T : List (List Int)} (h : Grid w base fp v T) (h1 : ∀ k, fp k → fp' k) (h2 : ∀ k, fp' k → base ≤ k ∧ k < w.heap.size) : Grid w base fp' v T := by
  obtain ⟨vals, h⟩ := h
  exact ⟨vals, h.len, h.own, h.row, h.apart, fun k hk => h1 k (h.inV k hk), fun j hj k hk => h1 k (h.inR j hj k hk), h2⟩
theorem Grid.nil (w : World) (base : Nat) : Grid w base (fun _ => False) (.slice none 0 0) [] :=
  ⟨[], rfl, World.ownsRow_nil w base 22 1, fun _ hj => absurd hj (Nat.not_lt_zero _), fun _ _ hj => absurd hj (Nat.not_lt_zero _), fun _ hk => (by cases hk), fun _ hj => absurd hj (Nat.not_lt_zero _), fun _ hk => hk.elim⟩
theorem Grid.drewN {w : World} {base : Nat} {fp : Nat → Prop} {v : Value} {T : List (List Int)} (h : Grid w base fp v T) (n : Nat) : Grid (w.drewN n) base fp v T := h.keep (below_drewN (Below.refl _ _) n)
theorem Grid.form {w : World} {base : Nat} {fp : Nat → Prop} {v : Value} {T : List (List Int)} (h : Grid w base fp v T) : ∃ A c, v = .slice A T.length c ∧ Cap T.length c := by
  obtain ⟨vals, h⟩ := h
  rcases h.own.2 with ⟨rfl, h0⟩ | ⟨g, cap, cur, rfl, _, _, h1, h2, _⟩
  · exact ⟨none, 0, by rw [h0], by rw [h0]; exact ⟨Nat.le_refl _, by omega⟩⟩
  · exact ⟨_, _, rfl, h1, by unfold maxLen at h2; exact h2⟩

theorem getD_vals {vals : List Value} {j : Nat} (hj : j < vals.length) : vals[j]? = some (vals.getD j (.slice none 0 0)) := by
  rw [List.getD_eq_getElem?_getD, List.getElem?_eq_getElem hj]
  rfl
/-- What lies at place j. -/
theorem Grid.at {w : World} {base : Nat} {fp : Nat → Prop} {v : Value} {T : List (List Int)} (h : Grid w base fp v T) {j : Nat} (hj : j < T.length) :
    ∃ g cap u, v = .slice (some ⟨g, 0, none⟩) T.length cap ∧ w.cell? ⟨g, j, none⟩ = some u ∧ w.frozen? ⟨g, j, none⟩ = false ∧ OwnInts w base u (T.getD j []) := by
  obtain ⟨vals, h⟩ := h
  rcases h.own.2 with ⟨_, h0⟩ | ⟨g, cap, cur, rfl, _, hh, _⟩
  · omega
  · refine ⟨g, cap, vals.getD j (.slice none 0 0), rfl, ?_, World.ownsRow.frozenAt h.own j, h.row j hj⟩
    rw [World.ownsRow.cellAt h.own j (by omega), getD_vals (by rw [h.len]; exact hj)]
theorem GridAt.cell_eq {w : World} {base g n cap : Nat} {fp : Nat → Prop} {vals : List Value} {T : List (List Int)} {j : Nat} {u : Value} (h : GridAt w base fp (.slice (some ⟨g, 0, none⟩) n cap) vals T) (hj : j < T.length) (hu : w.cell? ⟨g, j, none⟩ = some u) : u = vals.getD j (.slice none 0 0) ∧ n = T.length := by
  have hn : n = T.length := by
    rcases h.own.2 with ⟨e, _⟩ | ⟨g', cap', cur, e, _⟩
    · cases e
    · injection e
  subst hn
  rw [World.ownsRow.cellAt h.own j (by omega), getD_vals (by rw [h.len]; exact hj)] at hu
  injection hu with hu
  exact ⟨hu.symm, rfl⟩

theorem getD_setV {vals : List Value} {i j : Nat} (u : Value) (hj : j < vals.length) : (vals.set j u).getD i (.slice none 0 0) = if i = j then u else vals.getD i (.slice none 0 0) := by
  simp only [List.getD_eq_getElem?_getD, List.getElem?_set]
  by_cases h : j = i
  · subst h
    simp [hj]
  · have h' : ¬ i = j := fun e => h e.symm
    simp [h, h']
theorem getD_setT {T : List (List Int)} {i j : Nat} (ys : List Int) (hj : j < T.length) : (T.set j ys).getD i [] = if i = j then ys else T.getD i [] := by
  simp only [List.getD_eq_getElem?_getD, List.getElem?_set]
  by_cases h : j = i
  · subst h
    simp [hj]
  · have h' : ¬ i = j := fun e => h e.symm
    simp [h, h']

/-- One number in one row is another. -/
theorem Grid.store {w : World} {base g n cap h m c : Nat} {fp : Nat → Prop} {T : List (List Int)} {j : Nat} (hG : Grid w base fp (.slice (some ⟨g, 0, none⟩) n cap) T) (hj : j < T.length) (hu : w.cell? ⟨g, j, none⟩ = some (.slice (some ⟨h, 0, none⟩) m c)) (hm : m = (T.getD j []).length) (i : Nat) (x : Int) :
    Grid (w.setCell ⟨h, i, none⟩ (.int .i64 x)) base fp (.slice (some ⟨g, 0, none⟩) n cap) (T.set j ((T.getD j []).set i x)) ∧ Only fp w (w.setCell ⟨h, i, none⟩ (.int .i64 x)) := by
  obtain ⟨vals, hG⟩ := hG
  obtain ⟨e, rfl⟩ := hG.cell_eq hj hu
  have hfp : fp h := hG.inR j hj h (by rw [← e]; rfl)
  have hO : Only fp w (w.setCell ⟨h, i, none⟩ (.int .i64 x)) := (Only.refl fp w).set hfp i _
  have hrow := hG.row j hj
  rw [← e] at hrow
  have hset := hrow.set hm i x
  have hblk : ∀ k, k ≠ h → (w.setCell ⟨h, i, none⟩ (.int .i64 x)).heap[k]? = w.heap[k]? := fun k hk => Below.heap_setCell w ⟨h, i, none⟩ _ k hk
  refine ⟨⟨vals, by rw [List.length_set]; exact hG.len, ?_, fun a ha => ?_, by rw [List.length_set]; exact hG.apart, hG.inV, by rw [List.length_set]; exact hG.inR, fun k hk => ⟨(hG.bound k hk).1, Nat.lt_of_lt_of_le (hG.bound k hk).2 hO.size⟩⟩, hO⟩
  · rw [List.length_set]
    refine own_of_block hG.own (fun k hk => hblk k ?_)
    rintro rfl
    exact own_apart hrow hG.own k rfl hk
  · rw [List.length_set] at ha
    rw [getD_setT _ hj]
    by_cases ea : a = j
    · subst ea
      rw [if_pos rfl, ← e]
      exact hset
    · rw [if_neg ea]
      refine own_of_block (hG.row a ha) (fun k hk => hblk k ?_)
      rintro rfl
      exact hG.apart a j ha hj ea k hk (by rw [← e]; rfl)

/-- One row is another, which has grown out of it (or is new); the cell that holds it has been stored. -/
theorem Grid.replace {w w' : World} {base g n cap : Nat} {fp : Nat → Prop} {T : List (List Int)} {j : Nat} {u u' : Value} {ys : List Int} (hG : Grid w base fp (.slice (some ⟨g, 0, none⟩) n cap) T) (hj : j < T.length) (hu : w.cell? ⟨g, j, none⟩ = some u)
    (hg : w.grownBy w' u.ownBlock) (ho : OwnInts w' base u' ys) (hb : u'.ownBlock = u.ownBlock ∨ ∀ k, u'.ownBlock = some k → w.heap.size ≤ k) (hbase : base ≤ w.heap.size) :
    Grid (w'.setCell ⟨g, j, none⟩ u') base (fpN fp w.heap.size w'.heap.size) (.slice (some ⟨g, 0, none⟩) n cap) (T.set j ys) ∧ Only fp w (w'.setCell ⟨g, j, none⟩ u') := by
  obtain ⟨vals, hG⟩ := hG
  obtain ⟨e, rfl⟩ := hG.cell_eq hj hu
  have hfg : fp g := hG.inV g rfl
  have hgr : Only fp w w' := (Only.refl fp w).grown hg (fun k hk _ => hG.inR j hj k (by rw [← e]; exact hk))
  have hO : Only fp w (w'.setCell ⟨g, j, none⟩ u') := hgr.set hfg j _
  have hown' : w'.ownsRow base 22 1 (.slice (some ⟨g, 0, none⟩) T.length cap) T.length vals := by
    refine World.ownsRow.kept hG.own hg (.inr ?_)
    intro e2
    have hrow := hG.row j hj
    rw [← e] at hrow
    exact own_apart hrow hG.own g e2.symm rfl
  have hst := (World.ownsRow.stored hown' j u').1
  have hsz : (w'.setCell ⟨g, j, none⟩ u').heap.size = w'.heap.size := by simp [World.setCell]
  have hblk : ∀ k, k ≠ g → (w'.setCell ⟨g, j, none⟩ u').heap[k]? = w'.heap[k]? := fun k hk => Below.heap_setCell w' ⟨g, j, none⟩ _ k hk
  have hfr : ∀ k, u'.ownBlock = some k → fpN fp w.heap.size w'.heap.size k := by
    intro k hk
    rcases hb with hb | hb
    · exact .inl (hG.inR j hj k (by rw [← e, ← hb]; exact hk))
    · exact .inr ⟨hb k hk, (World.ownsRow.lt ho k hk).2⟩
  have hjl : j < vals.length := by rw [hG.len]; exact hj
  have hap : ∀ a, a < T.length → a ≠ j → ∀ k, (vals.getD a (.slice none 0 0)).ownBlock = some k → u'.ownBlock ≠ some k := by
    intro a ha hne k hk e2
    rcases hb with hb | hb
    · exact hG.apart a j ha hj hne k hk (by rw [← e, ← hb]; exact e2)
    · have h1 := hb k e2
      have h2 := (hG.bound k (hG.inR a ha k hk)).2
      omega
  refine ⟨⟨vals.set j u', by rw [List.length_set, List.length_set]; exact hG.len, by rw [List.length_set]; exact hst, fun a ha => ?_, fun a b ha hb' hne k hk => ?_, fun k hk => .inl (hG.inV k hk), fun a ha k hk => ?_, fun k hk => ?_⟩, hO⟩
  · rw [List.length_set] at ha
    rw [getD_setV _ hjl, getD_setT _ hj]
    by_cases ea : a = j
    · rw [if_pos ea, if_pos ea]
      refine own_of_block ho (fun k hk => hblk k ?_)
      rintro rfl
      exact own_apart ho hown' k hk rfl
    · rw [if_neg ea, if_neg ea]
      have h1 : OwnInts w' base (vals.getD a (.slice none 0 0)) (T.getD a []) := by
        refine World.ownsRow.kept (hG.row a ha) hg ?_
        rcases eb : (vals.getD a (.slice none 0 0)).ownBlock with _ | k
        · exact .inl rfl
        · right
          intro e3
          exact hG.apart a j ha hj ea k eb (by rw [← e]; exact e3.symm)
      refine own_of_block h1 (fun k hk => hblk k ?_)
      rintro rfl
      exact own_apart h1 hown' k hk rfl
  · rw [List.length_set] at ha hb'
    rw [getD_setV _ hjl] at hk ⊢
    by_cases ea : a = j
    · rw [if_pos ea] at hk
      rw [if_neg (fun eb => hne (ea.trans eb.symm))]
      intro e2
      exact hap b hb' (fun eb => hne (ea.trans eb.symm)) k e2 hk
    · rw [if_neg ea] at hk
      by_cases eb : b = j
      · rw [if_pos eb]
        exact hap a ha ea k hk
      · rw [if_neg eb]
        exact hG.apart a b ha hb' hne k hk
  · rw [List.length_set] at ha
    rw [getD_setV _ hjl] at hk
    by_cases ea : a = j
    · rw [if_pos ea] at hk
      exact hfr k hk
    · rw [if_neg ea] at hk
      exact .inl (hG.inR a ha k hk)
  · rw [hsz]
    rcases hk with hk | hk
    · exact ⟨(hG.bound k hk).1, Nat.lt_of_lt_of_le (hG.bound k hk).2 hg.size⟩
    · exact ⟨by omega, hk.2⟩

/-- As rows that are only read. -/
theorem Grid.rrows {w : World} {base : Nat} {fp : Nat → Prop} {A : Option Addr} {n c : Nat} {T : List (List Int)} (h : Grid w base fp (.slice A n c) T) : RRows w A n T := by
  obtain ⟨vals, h⟩ := h
  rcases h.own.2 with ⟨e, h0⟩ | ⟨g, cap, cur, e, hb, hh, _⟩
  · injection e with e1 e2 e3
    subst e2
    have : T = [] := List.eq_nil_of_length_eq_zero h0
    subst this
    exact RRows.nil _ _
  · injection e with e1 e2 e3
    subst e1 e2 e3
    refine ⟨rfl, fun _ => ⟨g, 0, rfl, (Array.getElem?_eq_some_iff.1 hh).1, fun j hj => ?_⟩⟩
    obtain ⟨Aj, cj, ev, hI, hc⟩ := (h.row j hj).ints
    have hnil : Aj = none → cj = 0 := by
      intro e
      rcases (h.row j hj).2 with ⟨e2, _⟩ | ⟨g2, cap2, cur2, e2, _⟩
      · rw [ev] at e2
        injection e2
      · rw [ev, e] at e2
        injection e2 with e2
        cases e2
    refine ⟨Aj, (T.getD j []).length, cj, ?_, hI, hc, hnil⟩
    rw [Nat.zero_add, World.ownsRow.cellAt h.own j (by omega), getD_vals (by rw [h.len]; exact hj), ev]

/-- 'out = append(out, y)' with out nil or the call's own: where the new row lies. -/
theorem wpList_app1At {ops : Array Oper} {rest : List Oper} {o : Oper} {a : Act} {Q : Exit → Act → World → Prop} (W : World) (hgd : o.guard = none) (s x : Operand)
    (ho : o.op = .call { callee := .builtin .append, args := #[s, x], argTypes := #[22, 22] })
    (base : Nat) (v : Value) (xs : List Int) (y : Int) (hs : a.eval s = v) (hx : a.eval x = .slice (some ⟨W.heap.size, 0, none⟩) 1 1) (hown : OwnInts W base v xs)
    (hlen : xs.length ≤ 1000000000000) (hbase : base ≤ W.heap.size)
    (h : ∀ v' w', OwnInts w' base v' (xs ++ [y]) → W.grownBy w' v.ownBlock → (v'.ownBlock = v.ownBlock ∨ ∀ k, v'.ownBlock = some k → W.heap.size ≤ k) → wpList Tryd.prog ops Q rest (a.put o.dst v') w') :
    wpList Tryd.prog ops Q (o :: rest) a (W.alloc (.cells #[.int .i64 y] 3)) := by
  obtain ⟨i0, hi, hz0, hz1, hz2⟩ := info_parts infoInt
  refine wpList_append_own_at _ hgd s x 22 ho base 3 i0 (.int .i64 0) 1 8 Tryd.underlying22 hi hz0 hz1 hz2 rfl (by decide) v xs.length (xs.map (Value.int .i64)) hs (World.ownsRow.alloc hown _)
    ⟨W.heap.size, 0, none⟩ 1 1 [.int .i64 y] hx rfl (cell_one W y) (by intro u hu; simp at hu; subst hu; rfl) (by unfold maxLen; omega) (by omega) (by simp; omega) ?_
  intro v' w' h1 h2 _ hat
  have hg : W.grownBy w' v.ownBlock := ⟨h2.os, h2.tape, h2.output, Nat.le_trans (by simp) h2.size, fun k hk hne => (h2.block k (by simp; omega) hne).trans (Below.heap_alloc W _ k hk)⟩
  refine h v' w' ?_ hg ?_
  · unfold OwnInts
    simpa using h1
  · rcases hat with e | e
    · exact .inl e
    · right
      intro k hk
      rw [e] at hk
      injection hk with hk
      have hsz : (W.alloc (.cells #[.int .i64 y] 3)).heap.size = W.heap.size + 1 := by simp
      omega

/-- The outer block is none of the rows'. -/
theorem Grid.outer_kept {w w' : World} {base g n cap : Nat} {fp : Nat → Prop} {T : List (List Int)} {j : Nat} {u : Value} (hG : Grid w base fp (.slice (some ⟨g, 0, none⟩) n cap) T) (hj : j < T.length) (hu : w.cell? ⟨g, j, none⟩ = some u) (hg : w.grownBy w' u.ownBlock) : w'.heap[g]? = w.heap[g]? := by
  obtain ⟨vals, hG⟩ := hG
  obtain ⟨e, rfl⟩ := hG.cell_eq hj hu
  refine hg.block g (hG.bound g (hG.inV g rfl)).2 (fun e2 => ?_)
  have hrow := hG.row j hj
  rw [← e] at hrow
  exact own_apart hrow hG.own g e2.symm rfl
theorem Grid.outer_lt {w : World} {base g n cap : Nat} {fp : Nat → Prop} {T : List (List Int)} (hG : Grid w base fp (.slice (some ⟨g, 0, none⟩) n cap) T) : g < w.heap.size := by
  obtain ⟨vals, hG⟩ := hG
  exact (hG.bound g (hG.inV g rfl)).2
theorem Grid.outer_ge {w : World} {base g n cap : Nat} {fp : Nat → Prop} {T : List (List Int)} (hG : Grid w base fp (.slice (some ⟨g, 0, none⟩) n cap) T) : base ≤ g := by
  obtain ⟨vals, hG⟩ := hG
  exact (hG.bound g (hG.inV g rfl)).1

/-- v is the call's own row of rows; each of them lies in the call's own memory too. -/
def BRows (w : World) (base : Nat) (v : Value) (T : List (List Int)) : Prop :=
  ∃ vals : List Value, vals.length = T.length ∧ w.ownsRow base 22 1 v vals.length vals ∧ ∀ j, j < T.length → OwnInts w base (vals.getD j (.slice none 0 0)) (T.getD j [])
theorem BRows.mono {w : World} {base base' : Nat} {v : Value} {T : List (List Int)} (h : BRows w base v T) (hb : base' ≤ base) : BRows w base' v T := by
  obtain ⟨vals, hl, ho, hv⟩ := h
  exact ⟨vals, hl, own_mono ho hb, fun j hj => (hv j hj).mono hb⟩
theorem Grid.brows {w : World} {base : Nat} {fp : Nat → Prop} {v : Value} {T : List (List Int)} (h : Grid w base fp v T) : BRows w base v T := by
  obtain ⟨vals, hg⟩ := h
  have ho := hg.own
  rw [← hg.len] at ho
  exact ⟨vals, hg.len, ho, hg.row⟩

end Go.Proofs.YtmdpfadfimodjaaDoor

/-
  slices.EqualFunc at rows of rows, castkeep.sameRows, castref.SamePair.
-/
namespace Go.Proofs.YtmdpfadfimodjaaDoor
open Go.RowKit

/-- Row by row alike. -/
def sameBy (p : List Int → List Int → Bool) : List (List Int) → List (List Int) → Bool
  | [], [] => true
  | a :: T, b :: U => p a b && sameBy p T U
  | _, _ => false
theorem sameBy_len {p : List Int → List Int → Bool} : ∀ {T U : List (List Int)}, T.length ≠ U.length → sameBy p T U = false
  | [], [], h => absurd rfl h
  | [], _ :: _, _ => rfl
  | _ :: _, [], _ => rfl
  | a :: T, b :: U, h => by
    rw [sameBy, sameBy_len (T := T) (U := U) (fun e => h (by simp [e])), Bool.and_false]
theorem sameBy_not {p : List Int → List Int → Bool} : ∀ {T U : List (List Int)} {j : Nat}, j < T.length → p (T.getD j []) (U.getD j []) = false → sameBy p T U = false
  | [], _, _, h, _ => absurd h (Nat.not_lt_zero _)
  | _ :: _, [], _, _, _ => rfl
  | a :: T, b :: U, 0, _, h => by
    have h' : p a b = false := h
    rw [sameBy, h', Bool.false_and]
  | a :: T, b :: U, j + 1, hj, h => by
    rw [sameBy, sameBy_not (T := T) (U := U) (j := j) (by simpa using hj) (by simpa using h), Bool.and_false]
theorem sameBy_all {p : List Int → List Int → Bool} : ∀ {T U : List (List Int)}, T.length = U.length → (∀ j, j < T.length → p (T.getD j []) (U.getD j []) = true) → sameBy p T U = true
  | [], [], _, _ => rfl
  | [], _ :: _, h, _ => by simp at h
  | _ :: _, [], h, _ => by simp at h
  | a :: T, b :: U, h, hall => by
    have h0 : p a b = true := hall 0 (by simp)
    rw [sameBy, h0, Bool.true_and]
    exact sameBy_all (by simpa using h) (fun j hj => by simpa using hall (j + 1) (by simpa using hj))
theorem sameBy_eq : ∀ (T U : List (List Int)), sameBy (fun a b => decide (a = b)) T U = decide (T = U)
  | [], [] => rfl
  | [], _ :: _ => rfl
  | _ :: _, [] => rfl
  | a :: T, b :: U => by
    rw [sameBy, sameBy_eq T U]
    by_cases h1 : a = b
    · by_cases h2 : T = U
      · simp [h1, h2]
      · simp [h1, h2]
    · simp [h1]

/-- What a function that compares two rows does. -/
def CmpBy (F : Nat) (p : List Int → List Int → Bool) (L : Nat) : Prop := ∀ (A1 : Option Addr) (n c : Nat) (A2 : Option Addr) (m d : Nat) (xs ys : List Int) (w : World), Ints w A1 n xs → Ints w A2 m ys → Cap n c → Cap m d → n ≤ L → m ≤ L →
  Calls Tryd.prog F #[.slice A1 n c, .slice A2 m d] w fun e w' => e = .returned (.bool (p xs ys)) ∧ Below w.heap.size w w'

theorem RRows.at {w : World} {A : Option Addr} {n : Nat} {T : List (List Int)} (h : RRows w A n T) {j : Nat} (hj : j < n) : ∃ b off Aj nj cj, A = some ⟨b, off, none⟩ ∧ w.cell? ⟨b, off + j, none⟩ = some (.slice Aj nj cj) ∧ Ints w Aj nj (T.getD j []) ∧ Cap nj cj := by
  obtain ⟨b, off, e, _, hc⟩ := h.row (by omega)
  obtain ⟨Aj, nj, cj, h1, h2, h3, _⟩ := hc j hj
  exact ⟨b, off, Aj, nj, cj, e, h1, h2, h3⟩
theorem RRows.at0 {w : World} {A : Option Addr} {n : Nat} {T : List (List Int)} (h : RRows w A n T) {j : Nat} (hj : j < n) : ∃ b off Aj nj cj, A = some ⟨b, off, none⟩ ∧ w.cell? ⟨b, off + j, none⟩ = some (.slice Aj nj cj) ∧ Ints w Aj nj (T.getD j []) ∧ Cap nj cj ∧ (Aj = none → cj = 0) := by
  obtain ⟨b, off, e, _, hc⟩ := h.row (by omega)
  obtain ⟨Aj, nj, cj, h1, h2, h3, h4⟩ := hc j hj
  exact ⟨b, off, Aj, nj, cj, e, h1, h2, h3, h4⟩

theorem cmpEqual : CmpBy 24 (fun a b => decide (a = b)) 1000000 := fun A1 n c A2 m d xs ys w h1 h2 _ _ hn hm => equal_bel A1 n c A2 m d xs ys w h1 h2 hn hm

def sameLenB (a b : List Int) : Bool := decide (a.length = b.length)
end Go.Proofs.YtmdpfadfimodjaaDoor

/-
  tableau.isLarge, slices.Grow, slices.Concat, tableau.fitsBelow, tableau.Check (P37).
-/
namespace Go.Proofs.YtmdpfadfimodjaaDoor
open Go.RowKit

theorem flat_take {T : List (List Int)} {i : Nat} (hi : i < T.length) : (T.take (i + 1)).flatten = (T.take i).flatten ++ T.getD i [] := by
  rw [List.take_succ_eq_append_getElem hi, List.flatten_append, List.getD_eq_getElem?_getD, List.getElem?_eq_getElem hi]
  simp
theorem length_le_flat2 : ∀ (T : List (List Int)) (j : Nat), (T.getD j []).length ≤ T.flatten.length
  | [], j => by simp
  | r :: T, 0 => by simp
  | r :: T, j + 1 => by
    have := length_le_flat2 T j
    simp only [List.getD_cons_succ, List.flatten_cons, List.length_append]
    omega
theorem flat_take_le (T : List (List Int)) (i : Nat) : (T.take i).flatten.length ≤ T.flatten.length := by
  conv => rhs; rw [← List.take_append_drop i T]
  rw [List.flatten_append, List.length_append]
  omega
def largeB (T : List (List Int)) : Bool := decide (10 < T.length ∨ 10 < T.flatten.length)

/-- A row of the call's own, cut short. -/
theorem OwnInts.cut {w : World} {base g n cap : Nat} {xs : List Int} (h : OwnInts w base (.slice (some ⟨g, 0, none⟩) n cap) xs) (k : Nat) (hk : k ≤ xs.length) : OwnInts w base (.slice (some ⟨g, 0, none⟩) k cap) (xs.take k) := by
  have h1 := h.1
  rcases h.2 with ⟨e, _⟩ | ⟨g', cap', cur, e, hb, hh, hn, hm, hs, ht⟩
  · cases e
  · injection e with e1 e2 e3
    injection e1 with e1
    injection e1 with e1 _
    subst e1
    subst e2
    subst e3
    have hl : (xs.take k).length = k := by rw [List.length_take]; omega
    unfold OwnInts
    rw [hl]
    refine ⟨by simp; omega, .inr ⟨g, cap, cur, rfl, hb, hh, by omega, hm, hs, ?_⟩⟩
    rw [Nat.mul_one] at ht ⊢
    rw [List.map_take, ← ht, List.take_take, Nat.min_eq_left hk]

/-- Onto what the call made: a row that may be nil. -/
theorem wpList_appMaybe {ops : Array Oper} {rest : List Oper} {o : Oper} {a : Act} {Q : Exit → Act → World → Prop} (W : World) (hgd : o.guard = none) (s x : Operand)
    (ho : o.op = .call { callee := .builtin .append, args := #[s, x], argTypes := #[22, 22] })
    (base : Nat) (v : Value) (xs : List Int) (hs : a.eval s = v) (A : Option Addr) (n c : Nat) (ys : List Int) (hx : a.eval x = .slice A n c) (hown : OwnInts W base v xs) (hI : Ints W A n ys) (hcap : A = none → c = 0)
    (hlen : xs.length + n ≤ 1000000000000) (hbase : base ≤ W.heap.size)
    (h : ∀ v' w', OwnInts w' base v' (xs ++ ys) → Below base W w' → wpList Tryd.prog ops Q rest (a.put o.dst v') w') :
    wpList Tryd.prog ops Q (o :: rest) a W := by
  rcases A with _ | ad
  · have hn0 : n = 0 := by
      rcases Nat.eq_zero_or_pos n with h0 | h0
      · exact h0
      · obtain ⟨b, o', e, _⟩ := hI.row h0
        cases e
    subst hn0
    have hc0 := hcap rfl
    subst hc0
    have hy0 : ys = [] := List.eq_nil_of_length_eq_zero hI.len
    subst hy0
    obtain ⟨i0, hi, _⟩ := info_parts infoInt
    refine wpList_append_own_none hgd s x 22 ho base 3 i0 1 Tryd.underlying22 hi _ xs.length _ hs hown hx ?_
    refine h _ _ ?_ (Below.refl _ _)
    rw [List.append_nil]
    exact hown
  · exact wpList_appN W hgd s x ho base v xs hs ad n c ys hx hown hI hlen hbase (fun v' w' h1 _ h3 => h v' w' h1 h3)

theorem tabErr_large {T : List (List Int)} (h : largeB T = true) : tabErr T = 2 := by
  unfold tabErr
  rw [if_pos (by simpa [largeB] using h)]
theorem tabErr_form {T : List (List Int)} (h : largeB T = false) (h2 : ¬ (permErr T.flatten = 0 ∧ ∀ i, i < T.length → rowOK T i = true)) : tabErr T = 3 := by
  unfold tabErr
  rw [if_neg (by simpa [largeB] using h), if_neg h2]
theorem tabErr_good {T : List (List Int)} (h : largeB T = false) (h2 : permErr T.flatten = 0) (h3 : ∀ i, i < T.length → rowOK T i = true) : tabErr T = 0 := by
  unfold tabErr
  rw [if_neg (by simpa [largeB] using h), if_pos ⟨h2, h3⟩]
theorem large_no {T : List (List Int)} (h : largeB T = false) : T.length ≤ 10 ∧ T.flatten.length ≤ 10 := by
  unfold largeB at h
  have := of_decide_eq_false h
  omega
theorem rowOK_empty {T : List (List Int)} {i : Nat} (h : (T.getD i []).length = 0) : rowOK T i = false := by
  unfold rowOK
  rw [decide_eq_true h]
  rfl
theorem rowOK_sort {T : List (List Int)} {i : Nat} (h : sortedB (T.getD i []) = false) : rowOK T i = false := by
  unfold rowOK
  rw [h, Bool.and_false, Bool.false_and]
theorem rowOK_fit {T : List (List Int)} {i : Nat} (h : fitsB (T.getD (i + 1) []) (T.getD i []) = false) : rowOK T (i + 1) = false := by
  unfold rowOK
  rw [Nat.add_sub_cancel, h]
  simp
theorem rowOK_yes {T : List (List Int)} {i : Nat} (h1 : (T.getD i []).length ≠ 0) (h2 : sortedB (T.getD i []) = true) (h3 : i = 0 ∨ fitsB (T.getD i []) (T.getD (i - 1) []) = true) : rowOK T i = true := by
  unfold rowOK
  rw [h2, decide_eq_false h1]
  rcases h3 with h3 | h3
  · rw [decide_eq_true h3]; rfl
  · rw [h3]; simp

end Go.Proofs.YtmdpfadfimodjaaDoor

/-
  Numbers drawn from bits, as plain lists: how many bits, what number, one draw, a row of draws. Nothing of the program is proved here.
-/
namespace Go.Proofs.YtmdpfadfimodjaaDoor
open Go.RowKit

/-- How many bits one try reads. -/
def wd (n : Nat) : Nat := Lib.bitLen (n - 1)
theorem wd_all : ∀ n : Fin 1025, 1 ≤ n.val → (n.val ≤ 2 ^ wd n.val ∧ (0 < wd n.val → 2 ^ (wd n.val - 1) < n.val) ∧ wd n.val ≤ 10) := by decide +kernel
theorem wd_recF : ∀ n : Fin 1025, 2 ≤ n.val → wd n.val = 1 + wd ((n.val + 1) / 2) := by decide +kernel
theorem wd_one : wd 1 = 0 := by decide +kernel
theorem wd_ge {n : Nat} (h1 : 1 ≤ n) (h2 : n ≤ 1024) : n ≤ 2 ^ wd n := (wd_all ⟨n, by omega⟩ h1).1
theorem wd_least {n : Nat} (h1 : 1 ≤ n) (h2 : n ≤ 1024) (h0 : 0 < wd n) : 2 ^ (wd n - 1) < n := (wd_all ⟨n, by omega⟩ h1).2.1 h0
theorem wd_le {n : Nat} (h1 : 1 ≤ n) (h2 : n ≤ 1024) : wd n ≤ 10 := (wd_all ⟨n, by omega⟩ h1).2.2
theorem wd_rec {n : Nat} (h1 : 2 ≤ n) (h2 : n ≤ 1024) : wd n = 1 + wd ((n + 1) / 2) := wd_recF ⟨n, by omega⟩ h1
theorem wd_pos {n : Nat} (h1 : 2 ≤ n) (h2 : n ≤ 1024) : 0 < wd n := by rw [wd_rec h1 h2]; omega

/-- Bytes that are bits. -/
def Bin (xs : List Nat) : Prop := ∀ x ∈ xs, x ≤ 1
theorem Bin.take {xs : List Nat} (h : Bin xs) (k : Nat) : Bin (xs.take k) := fun x hx => h x (List.mem_of_mem_take hx)
theorem Bin.drop {xs : List Nat} (h : Bin xs) (k : Nat) : Bin (xs.drop k) := fun x hx => h x (List.mem_of_mem_drop hx)
theorem Bin.append {xs ys : List Nat} (h : Bin xs) (k : Bin ys) : Bin (xs ++ ys) := fun x hx => by
  rcases List.mem_append.1 hx with h1 | h1
  · exact h x h1
  · exact k x h1
/-- The error of a tape. -/
def tapeErr (xs : List Nat) : Int := if 200 < xs.length then 2 else if xs.all (fun x => decide (x ≤ 1)) = false then 3 else 0
theorem tapeErr_large {xs : List Nat} (h : 200 < xs.length) : tapeErr xs = 2 := if_pos h
theorem tapeErr_form {xs : List Nat} (h : ¬ 200 < xs.length) {x : Nat} (hx : x ∈ xs) (h1 : 1 < x) : tapeErr xs = 3 := by
  rw [tapeErr, if_neg h, if_pos]
  exact List.all_eq_false.2 ⟨x, hx, by simp; omega⟩
theorem tapeErr_ok {xs : List Nat} (h : ¬ 200 < xs.length) (hb : Bin xs) : tapeErr xs = 0 := by
  rw [tapeErr, if_neg h, if_neg]
  rw [List.all_eq_true.2 fun x hx => decide_eq_true (hb x hx)]
  decide
theorem tapeErr_zero {xs : List Nat} (h : tapeErr xs = 0) : xs.length ≤ 200 ∧ Bin xs := by
  unfold tapeErr at h
  split at h
  · cases h
  · split at h
    · cases h
    · rename_i h1 h2
      refine ⟨by omega, fun x hx => ?_⟩
      rcases Nat.lt_or_ge 1 x with h3 | h3
      · exact absurd (List.all_eq_false.2 ⟨x, hx, by simp; omega⟩) h2
      · exact h3
theorem tapeErr_drop {xs : List Nat} (h : tapeErr xs = 0) (k : Nat) : tapeErr (xs.drop k) = 0 := by
  have h1 := tapeErr_zero h
  exact tapeErr_ok (by rw [List.length_drop]; omega) (h1.2.drop k)
theorem tapeErr_take {xs : List Nat} (h : tapeErr xs = 0) (k : Nat) : tapeErr (xs.take k) = 0 := by
  have h1 := tapeErr_zero h
  exact tapeErr_ok (by rw [List.length_take]; omega) (h1.2.take k)

/-- The number that bits write, the greatest first, behind a. -/
def bvl (a : Nat) (xs : List Nat) : Nat := xs.foldl (fun a b => 2 * a + b) a
theorem bvl_nil (a : Nat) : bvl a [] = a := rfl
theorem bvl_snoc (a b : Nat) (xs : List Nat) : bvl a (xs ++ [b]) = 2 * bvl a xs + b := by simp [bvl, List.foldl_append]
theorem bvl_lt {xs : List Nat} : ∀ (a : Nat), Bin xs → bvl a xs < (a + 1) * 2 ^ xs.length := by
  induction xs with
  | nil => intro a _; simp [bvl]
  | cons x xs ih =>
    intro a h
    have h1 := ih (2 * a + x) (fun y hy => h y (List.mem_cons_of_mem _ hy))
    have h2 := h x (List.mem_cons_self ..)
    show bvl (2 * a + x) xs < _
    refine Nat.lt_of_lt_of_le h1 ?_
    rw [List.length_cons, Nat.pow_succ, Nat.mul_comm (2 ^ xs.length) 2, ← Nat.mul_assoc]
    exact Nat.mul_le_mul_right _ (by omega)
theorem bvl_lt0 {xs : List Nat} (h : Bin xs) : bvl 0 xs < 2 ^ xs.length := by
  have := bvl_lt 0 h
  omega
theorem getD_memT {xs : List Nat} {j : Nat} (h : j < xs.length) : xs.getD j 0 ∈ xs := by
  rw [List.getD_eq_getElem?_getD, List.getElem?_eq_getElem h]
  exact List.getElem_mem h
theorem take_snocT {xs : List Nat} {k : Nat} (hk : k < xs.length) : xs.take (k + 1) = xs.take k ++ [xs.getD k 0] := by
  rw [List.take_succ_eq_append_getElem hk, List.getD_eq_getElem?_getD, List.getElem?_eq_getElem hk]
  rfl
theorem bvl_step {xs : List Nat} {k : Nat} (hk : k < xs.length) : bvl 0 (xs.take (k + 1)) = 2 * bvl 0 (xs.take k) + xs.getD k 0 := by rw [take_snocT hk, bvl_snoc]
theorem bvl_take_le {xs : List Nat} (h : Bin xs) {k : Nat} (hk : k ≤ 10) : bvl 0 (xs.take k) < 1024 := by
  have h1 := bvl_lt0 (h.take k)
  have h2 : 2 ^ (xs.take k).length ≤ 2 ^ 10 := Nat.pow_le_pow_right (by omega) (by rw [List.length_take]; omega)
  omega

/-- One draw below n: the number, and how many bits. -/
def drw (n : Nat) (xs : List Nat) : Option (Nat × Nat) :=
  if xs.length < wd n then none
  else if bvl 0 (xs.take (wd n)) < n then some (bvl 0 (xs.take (wd n)), wd n)
  else if _h : 0 < wd n ∧ wd n ≤ xs.length then (drw n (xs.drop (wd n))).map (fun p => (p.1, p.2 + wd n))
  else none
  termination_by xs.length
  decreasing_by rw [List.length_drop]; omega
theorem drw_short {n : Nat} {xs : List Nat} (h : xs.length < wd n) : drw n xs = none := by rw [drw, if_pos h]
theorem drw_hit {n : Nat} {xs : List Nat} (h : wd n ≤ xs.length) (h2 : bvl 0 (xs.take (wd n)) < n) : drw n xs = some (bvl 0 (xs.take (wd n)), wd n) := by rw [drw, if_neg (by omega), if_pos h2]
theorem drw_miss {n : Nat} {xs : List Nat} (h : wd n ≤ xs.length) (h2 : ¬ bvl 0 (xs.take (wd n)) < n) (h0 : 0 < wd n) : drw n xs = (drw n (xs.drop (wd n))).map (fun p => (p.1, p.2 + wd n)) := by
  rw [drw, if_neg (by omega), if_neg h2, dif_pos ⟨h0, h⟩]
theorem miss_pos {n : Nat} {xs : List Nat} (h1 : 1 ≤ n) (h : ¬ bvl 0 (xs.take (wd n)) < n) : 0 < wd n := by
  rcases Nat.eq_zero_or_pos (wd n) with h0 | h0
  · rw [h0, List.take_zero] at h
    exact absurd (show bvl 0 [] < n by rw [bvl_nil]; omega) h
  · exact h0

/-- What a draw that came out tells. -/
theorem drw_bd {n : Nat} (h1 : 1 ≤ n) : ∀ (m : Nat) (xs : List Nat) (x u : Nat), xs.length ≤ m → drw n xs = some (x, u) → x < n ∧ wd n ≤ u ∧ u ≤ xs.length := by
  intro m
  induction m with
  | zero =>
    intro xs x u hm h
    have hx : xs = [] := List.eq_nil_of_length_eq_zero (by omega)
    subst hx
    by_cases hs : ([] : List Nat).length < wd n
    · rw [drw_short hs] at h; cases h
    · by_cases hb : bvl 0 (([] : List Nat).take (wd n)) < n
      · rw [drw_hit (by omega) hb] at h
        injection h with h
        injection h with h2 h3
        subst h2 h3
        exact ⟨hb, Nat.le_refl _, by omega⟩
      · have := miss_pos h1 hb
        simp at hs
        omega
  | succ m ih =>
    intro xs x u hm h
    by_cases hs : xs.length < wd n
    · rw [drw_short hs] at h; cases h
    · by_cases hb : bvl 0 (xs.take (wd n)) < n
      · rw [drw_hit (by omega) hb] at h
        injection h with h
        injection h with h2 h3
        subst h2 h3
        exact ⟨hb, Nat.le_refl _, by omega⟩
      · have h0 := miss_pos h1 hb
        rw [drw_miss (by omega) hb h0] at h
        cases hd : drw n (xs.drop (wd n)) with
        | none => rw [hd] at h; cases h
        | some p =>
          rw [hd] at h
          obtain ⟨y, v⟩ := p
          simp only [Option.map_some, Option.some.injEq, Prod.mk.injEq] at h
          obtain ⟨rfl, rfl⟩ := h
          have := ih _ _ _ (by rw [List.length_drop]; omega) hd
          rw [List.length_drop] at this
          omega
theorem drw_lt {n : Nat} (h1 : 1 ≤ n) {xs : List Nat} {x u : Nat} (h : drw n xs = some (x, u)) : x < n ∧ wd n ≤ u ∧ u ≤ xs.length := drw_bd h1 _ xs x u (Nat.le_refl _) h

/-- What is behind makes no difference. -/
theorem drw_behind {n : Nat} (h1 : 1 ≤ n) (ys : List Nat) : ∀ (m : Nat) (xs : List Nat) (x u : Nat), xs.length ≤ m → drw n xs = some (x, u) → drw n (xs.take u ++ ys) = some (x, u) := by
  intro m
  induction m with
  | zero =>
    intro xs x u hm h
    have hx : xs = [] := List.eq_nil_of_length_eq_zero (by omega)
    subst hx
    have h2 := drw_lt h1 h
    have hw : wd n = 0 := by have := h2.2.2; simp at this; omega
    have hu : u = 0 := by have := h2.2.2; simpa using this
    subst hu
    have hz : bvl 0 (([] : List Nat).take (wd n)) < n := by rw [hw]; show 0 < n; omega
    rw [drw_hit (by omega) hz] at h
    injection h with h
    injection h with h3 h4
    subst h3
    rw [drw_hit (by omega) (by rw [hw]; show 0 < n; omega), hw]
    rfl
  | succ m ih =>
    intro xs x u hm h
    by_cases hs : xs.length < wd n
    · rw [drw_short hs] at h; cases h
    · have hl := drw_lt h1 h
      have hwl : wd n ≤ (xs.take u ++ ys).length := by rw [List.length_append, List.length_take]; omega
      have ht : (xs.take u ++ ys).take (wd n) = xs.take (wd n) := by
        rw [List.take_append_of_le_length (by rw [List.length_take]; omega), List.take_take, Nat.min_eq_left hl.2.1]
      by_cases hb : bvl 0 (xs.take (wd n)) < n
      · rw [drw_hit (by omega) hb] at h
        injection h with h
        injection h with h2 h3
        rw [drw_hit hwl (by rw [ht]; exact hb), ht, h2, h3]
      · have h0 := miss_pos h1 hb
        rw [drw_miss (by omega) hb h0] at h
        cases hd : drw n (xs.drop (wd n)) with
        | none => rw [hd] at h; cases h
        | some p =>
          rw [hd] at h
          obtain ⟨y, v⟩ := p
          simp only [Option.map_some, Option.some.injEq, Prod.mk.injEq] at h
          obtain ⟨rfl, rfl⟩ := h
          have h3 := ih _ _ _ (by rw [List.length_drop]; omega) hd
          have e : (xs.take (v + wd n) ++ ys).drop (wd n) = (xs.drop (wd n)).take v ++ ys := by
            rw [List.drop_append_of_le_length (by rw [List.length_take]; omega), List.drop_take, Nat.add_sub_cancel]
          rw [drw_miss hwl (by rw [ht]; exact hb) h0, e, h3]
          rfl
theorem drw_on {n : Nat} (h1 : 1 ≤ n) {xs : List Nat} {x u : Nat} (h : drw n xs = some (x, u)) (ys : List Nat) : drw n (xs.take u ++ ys) = some (x, u) := drw_behind h1 ys _ xs x u (Nat.le_refl _) h

/-- With fewer bits it is too short. -/
theorem drw_less {n : Nat} (h1 : 1 ≤ n) : ∀ (m : Nat) (xs : List Nat) (x u : Nat), xs.length ≤ m → drw n xs = some (x, u) → 0 < u → drw n (xs.take (u - 1)) = none := by
  intro m
  induction m with
  | zero =>
    intro xs x u hm h hu
    have := drw_lt h1 h
    omega
  | succ m ih =>
    intro xs x u hm h hu
    by_cases hs : xs.length < wd n
    · rw [drw_short hs] at h; cases h
    · have hl := drw_lt h1 h
      by_cases hb : bvl 0 (xs.take (wd n)) < n
      · rw [drw_hit (by omega) hb] at h
        injection h with h
        injection h with h2 h3
        exact drw_short (by rw [List.length_take]; omega)
      · have h0 := miss_pos h1 hb
        rw [drw_miss (by omega) hb h0] at h
        cases hd : drw n (xs.drop (wd n)) with
        | none => rw [hd] at h; cases h
        | some p =>
          rw [hd] at h
          obtain ⟨y, v⟩ := p
          simp only [Option.map_some, Option.some.injEq, Prod.mk.injEq] at h
          obtain ⟨rfl, rfl⟩ := h
          have h4 := drw_lt h1 hd
          have h3 := ih _ _ _ (by rw [List.length_drop]; omega) hd (by omega)
          have ht : (xs.take (v + wd n - 1)).take (wd n) = xs.take (wd n) := by rw [List.take_take, Nat.min_eq_left (by omega)]
          have hwl : wd n ≤ (xs.take (v + wd n - 1)).length := by rw [List.length_take]; omega
          have e : (xs.take (v + wd n - 1)).drop (wd n) = (xs.drop (wd n)).take (v - 1) := by
            rw [List.drop_take, show v + wd n - 1 - wd n = v - 1 by omega]
          rw [drw_miss hwl (by rw [ht]; exact hb) h0, e, h3]
          rfl
theorem drw_cut {n : Nat} (h1 : 1 ≤ n) {xs : List Nat} {x u : Nat} (h : drw n xs = some (x, u)) (hu : 0 < u) : drw n (xs.take (u - 1)) = none := drw_less h1 _ xs x u (Nat.le_refl _) h hu
/-- As many bits as one try takes. -/
theorem drw_one {n : Nat} (h1 : 1 ≤ n) {xs : List Nat} (hl : xs.length = wd n) : drw n xs = if bvl 0 xs < n then some (bvl 0 xs, wd n) else none := by
  have ht : xs.take (wd n) = xs := List.take_of_length_le (by omega)
  by_cases hb : bvl 0 xs < n
  · rw [drw_hit (by omega) (by rw [ht]; exact hb), ht, if_pos hb]
  · have h0 := miss_pos h1 (xs := xs) (by rw [ht]; exact hb)
    rw [drw_miss (by omega) (by rw [ht]; exact hb) h0, if_neg hb, drw_short (by rw [List.length_drop]; omega)]
    rfl

/-- One draw of a right tape, with its error. -/
def drx (n : Int) (xs : List Nat) : Nat × Nat × Int := if n < 1 ∨ 1024 < n then (0, 0, 1) else match drw n.toNat xs with
  | none => (0, 0, 6)
  | some p => (p.1, p.2, 0)
theorem drx_arg {n : Int} (xs : List Nat) (h : n < 1 ∨ 1024 < n) : drx n xs = (0, 0, 1) := if_pos h
theorem drx_none {n : Nat} {xs : List Nat} (h1 : 1 ≤ n) (h2 : n ≤ 1024) (h : drw n xs = none) : drx n xs = (0, 0, 6) := by
  rw [drx, if_neg (by omega), Int.toNat_natCast, h]
theorem drx_some {n : Nat} {xs : List Nat} {x u : Nat} (h1 : 1 ≤ n) (h2 : n ≤ 1024) (h : drw n xs = some (x, u)) : drx n xs = (x, u, 0) := by
  rw [drx, if_neg (by omega), Int.toNat_natCast, h]
/-- Refused, or drawn. -/
theorem drx_cases (n : Int) (xs : List Nat) : (∃ e, drx n xs = (0, 0, e) ∧ e ≠ 0 ∧ (e = 1 ∨ e = 6)) ∨ ∃ (m x u : Nat), n = m ∧ 1 ≤ m ∧ m ≤ 1024 ∧ drw m xs = some (x, u) ∧ drx n xs = (x, u, 0) ∧ x < m ∧ wd m ≤ u ∧ u ≤ xs.length := by
  by_cases h : n < 1 ∨ 1024 < n
  · exact .inl ⟨1, drx_arg xs h, by decide, .inl rfl⟩
  · obtain ⟨m, rfl⟩ := Int.eq_ofNat_of_zero_le (show 0 ≤ n by omega)
    cases hd : drw m xs with
    | none => exact .inl ⟨6, drx_none (by omega) (by omega) hd, by decide, .inr rfl⟩
    | some p =>
      obtain ⟨x, u⟩ := p
      exact .inr ⟨m, x, u, rfl, by omega, by omega, hd, drx_some (by omega) (by omega) hd, drw_lt (by omega) hd⟩

/-- Draws, one behind another. -/
def rowx : List Int → List Nat → List Int × Nat × Int
  | [], _ => ([], 0, 0)
  | n :: ms, xs => if (drx n xs).2.2 ≠ 0 then ([], 0, (drx n xs).2.2)
    else if (rowx ms (xs.drop (drx n xs).2.1)).2.2 ≠ 0 then ([], 0, (rowx ms (xs.drop (drx n xs).2.1)).2.2)
    else (((drx n xs).1 : Int) :: (rowx ms (xs.drop (drx n xs).2.1)).1, (drx n xs).2.1 + (rowx ms (xs.drop (drx n xs).2.1)).2.1, 0)
theorem rowx_nil (xs : List Nat) : rowx [] xs = ([], 0, 0) := rfl
theorem rowx_bad {n : Int} {ms : List Int} {xs : List Nat} {e : Int} (h : drx n xs = (0, 0, e)) (he : e ≠ 0) : rowx (n :: ms) xs = ([], 0, e) := by
  rw [rowx, h, if_pos he]
theorem rowx_fail {n : Int} {ms : List Int} {xs : List Nat} {x u : Nat} {r : List Int} {v : Nat} {e : Int} (h : drx n xs = (x, u, 0)) (h2 : rowx ms (xs.drop u) = (r, v, e)) (he : e ≠ 0) : rowx (n :: ms) xs = ([], 0, e) := by
  rw [rowx, h, if_neg (by simp), h2, if_pos he]
theorem rowx_good {n : Int} {ms : List Int} {xs : List Nat} {x u : Nat} {r : List Int} {v : Nat} (h : drx n xs = (x, u, 0)) (h2 : rowx ms (xs.drop u) = (r, v, 0)) : rowx (n :: ms) xs = ((x : Int) :: r, u + v, 0) := by
  rw [rowx, h, if_neg (by simp), h2, if_neg (by simp)]
/-- Refused, or as many numbers as were asked for. -/
theorem rowx_cases : ∀ (ms : List Int) (xs : List Nat), (∃ e, rowx ms xs = ([], 0, e) ∧ e ≠ 0 ∧ (e = 1 ∨ e = 6)) ∨ ∃ r u, rowx ms xs = (r, u, 0) ∧ r.length = ms.length ∧ u ≤ xs.length ∧ ∀ y ∈ r, 0 ≤ y ∧ y < 1024
  | [], xs => .inr ⟨[], 0, rfl, rfl, Nat.zero_le _, fun _ h => (List.not_mem_nil h).elim⟩
  | n :: ms, xs => by
    rcases drx_cases n xs with ⟨e, h, he, hc⟩ | ⟨m, x, u, rfl, h1, h2, hd, hx, hb, hw, hu⟩
    · exact .inl ⟨e, rowx_bad h he, he, hc⟩
    · rcases rowx_cases ms (xs.drop u) with ⟨e, h, he, hc⟩ | ⟨r, v, h, hl, hv, hr⟩
      · exact .inl ⟨e, rowx_fail hx h he, he, hc⟩
      · refine .inr ⟨_, _, rowx_good hx h, by simp [hl], by rw [List.length_drop] at hv; omega, fun y hy => ?_⟩
        rcases List.mem_cons.1 hy with rfl | hy
        · omega
        · exact hr y hy
theorem rowx_append_bad : ∀ (a b : List Int) (xs : List Nat) (e : Int), rowx a xs = ([], 0, e) → e ≠ 0 → rowx (a ++ b) xs = ([], 0, e)
  | [], b, xs, e, h, he => by
    rw [rowx_nil] at h
    injection h with _ h
    injection h with _ h
    exact absurd h.symm he
  | n :: ms, b, xs, e, h, he => by
    rcases drx_cases n xs with ⟨e', h2, he', _⟩ | ⟨m, x, u, rfl, h1, h2, hd, hx, _⟩
    · rw [rowx_bad h2 he'] at h
      rw [List.cons_append, rowx_bad h2 he', h]
    · rcases rowx_cases ms (xs.drop u) with ⟨e', h3, he', _⟩ | ⟨r, v, h3, _⟩
      · rw [rowx_fail hx h3 he'] at h
        injection h with _ h
        injection h with _ h
        subst h
        rw [List.cons_append, rowx_fail hx (rowx_append_bad ms b _ _ h3 he') he']
      · rw [rowx_good hx h3] at h
        injection h with h _
        cases h
theorem rowx_append : ∀ (a b : List Int) (xs : List Nat) (r : List Int) (u : Nat), rowx a xs = (r, u, 0) → rowx (a ++ b) xs = if (rowx b (xs.drop u)).2.2 ≠ 0 then ([], 0, (rowx b (xs.drop u)).2.2) else (r ++ (rowx b (xs.drop u)).1, u + (rowx b (xs.drop u)).2.1, 0)
  | [], b, xs, r, u, h => by
    rw [rowx_nil] at h
    injection h with h1 h
    injection h with h2 h
    subst h1 h2
    rw [List.nil_append, List.drop_zero]
    rcases rowx_cases b xs with ⟨e, h3, he, _⟩ | ⟨r, v, h3, _⟩
    · rw [h3, if_pos he]
    · rw [h3, if_neg (by simp), List.nil_append, Nat.zero_add]
  | n :: ms, b, xs, r, u, h => by
    rcases drx_cases n xs with ⟨e', h2, he', _⟩ | ⟨m, x, u1, rfl, h1, h2, hd, hx, _⟩
    · rw [rowx_bad h2 he'] at h
      injection h with _ h
      injection h with _ h
      exact absurd h he'
    · rcases rowx_cases ms (xs.drop u1) with ⟨e', h3, he', _⟩ | ⟨r1, v, h3, _⟩
      · rw [rowx_fail hx h3 he'] at h
        injection h with _ h
        injection h with _ h
        exact absurd h he'
      · rw [rowx_good hx h3] at h
        injection h with hr h
        injection h with hu _
        subst hr hu
        have ih := rowx_append ms b _ _ _ h3
        rw [List.drop_drop] at ih
        rcases rowx_cases b (xs.drop (u1 + v)) with ⟨e, h4, he, _⟩ | ⟨r2, v2, h4, _⟩
        · rw [h4, if_pos he] at ih ⊢
          rw [List.cons_append, rowx_fail hx ih he]
        · rw [h4, if_neg (by simp)] at ih ⊢
          rw [List.cons_append, rowx_good hx ih, List.cons_append, Nat.add_assoc]
/-- One more. -/
theorem rowx_snoc {ms : List Int} {xs : List Nat} {k : Nat} (hk : k < ms.length) {r : List Int} {u x v : Nat} (h : rowx (ms.take k) xs = (r, u, 0)) (hd : drx (ms.getD k 0) (xs.drop u) = (x, v, 0)) : rowx (ms.take (k + 1)) xs = (r ++ [(x : Int)], u + v, 0) := by
  have e : ms.take (k + 1) = ms.take k ++ [ms.getD k 0] := by
    rw [List.take_succ_eq_append_getElem hk, List.getD_eq_getElem?_getD, List.getElem?_eq_getElem hk]
    rfl
  have h1 : rowx [ms.getD k 0] (xs.drop u) = ([(x : Int)], v, 0) := rowx_good hd (rowx_nil _)
  rw [e, rowx_append _ _ _ _ _ h, h1, if_neg (by simp)]
theorem rowx_stop {ms : List Int} {xs : List Nat} {k : Nat} (hk : k < ms.length) {r : List Int} {u : Nat} {e : Int} (h : rowx (ms.take k) xs = (r, u, 0)) (hd : drx (ms.getD k 0) (xs.drop u) = (0, 0, e)) (he : e ≠ 0) : rowx ms xs = ([], 0, e) := by
  have e1 : ms = ms.take k ++ (ms.getD k 0 :: ms.drop (k + 1)) := by
    rw [List.getD_eq_getElem?_getD, List.getElem?_eq_getElem hk]
    simp
  have h1 : rowx (ms.getD k 0 :: ms.drop (k + 1)) (xs.drop u) = ([], 0, e) := rowx_bad hd he
  have h2 := rowx_append _ (ms.getD k 0 :: ms.drop (k + 1)) _ _ _ h
  rw [h1, if_pos he] at h2
  rw [e1]
  exact h2
/-- What Draw and Row answer, whatever comes in. -/
def drawX (n : Int) (xs : List Nat) : Nat × Nat × Int := if tapeErr xs ≠ 0 then (0, 0, tapeErr xs) else drx n xs
def rowX (ms : List Int) (xs : List Nat) : List Int × Nat × Int := if tapeErr xs ≠ 0 then ([], 0, tapeErr xs) else if 30 < ms.length then ([], 0, 2) else rowx ms xs
theorem drawX_bad {n : Int} {xs : List Nat} (h : tapeErr xs ≠ 0) : drawX n xs = (0, 0, tapeErr xs) := if_pos h
theorem drawX_ok {n : Int} {xs : List Nat} (h : tapeErr xs = 0) : drawX n xs = drx n xs := if_neg (by simp [h])
theorem rowX_bad {ms : List Int} {xs : List Nat} (h : tapeErr xs ≠ 0) : rowX ms xs = ([], 0, tapeErr xs) := if_pos h
theorem rowX_large {ms : List Int} {xs : List Nat} (h : tapeErr xs = 0) (h2 : 30 < ms.length) : rowX ms xs = ([], 0, 2) := by rw [rowX, if_neg (by simp [h]), if_pos h2]
theorem rowX_ok {ms : List Int} {xs : List Nat} (h : tapeErr xs = 0) (h2 : ¬ 30 < ms.length) : rowX ms xs = rowx ms xs := by rw [rowX, if_neg (by simp [h]), if_neg h2]
end Go.Proofs.YtmdpfadfimodjaaDoor

/-
  Bytes that are read, and bytes that the call itself has made: slices of them, appends. Nothing of the program is proved here.
-/
namespace Go.Proofs.YtmdpfadfimodjaaDoor
open Go.RowKit

theorem infoByte : (Tryd.prog.info? 5).map (fun i => (i.zero, i.size, i.bytes)) = some (some (.int .u8 0), 1, 1) := by kernel_rfl
def encB (n : Nat) : Value := .int .u8 (n : Int)

/-- The slice value '.slice A n c' holds the bytes xs in the world w. -/
structure Byts (w : World) (A : Option Addr) (n : Nat) (xs : List Nat) : Prop where
  len : xs.length = n
  lt : ∀ x ∈ xs, x < 256
  row : 0 < n → ∃ b off, A = some ⟨b, off, none⟩ ∧ b < w.heap.size ∧ ∀ j, j < n → w.cell? ⟨b, off + j, none⟩ = some (.int .u8 ((xs.getD j 0 : Nat) : Int))
theorem Byts.nil (w : World) (A : Option Addr) : Byts w A 0 [] := ⟨rfl, fun _ h => (List.not_mem_nil h).elim, fun h => absurd h (by omega)⟩
theorem Byts.keep {w w' : World} {A : Option Addr} {n : Nat} {xs : List Nat} (h : Byts w A n xs) (hb : Below w.heap.size w w') : Byts w' A n xs := by
  refine ⟨h.len, h.lt, fun hn => ?_⟩
  obtain ⟨b, off, e, hlt, hc⟩ := h.row hn
  exact ⟨b, off, e, Nat.lt_of_lt_of_le hlt hb.size, fun j hj => (hb.cell (p := ⟨b, off + j, none⟩) hlt).trans (hc j hj)⟩
theorem Byts.get {w : World} {A : Option Addr} {n : Nat} {xs : List Nat} (h : Byts w A n xs) {j : Nat} (hj : j < n) : xs.getD j 0 < 256 := by
  have hl := h.len
  have hj' : j < xs.length := by omega
  rw [List.getD_eq_getElem?_getD, List.getElem?_eq_getElem hj']
  exact h.lt _ (List.getElem_mem hj')
theorem byts_lit (w : World) (cs : Array Value) (t n : Nat) (xs : List Nat) (h : cs = (xs.map encB).toArray) (hn : xs.length = n) (hx : ∀ x ∈ xs, x < 256) : Byts (w.alloc (.cells cs t)) (some ⟨w.heap.size, 0, none⟩) n xs := by
  subst h
  subst hn
  refine ⟨rfl, hx, fun _ => ⟨w.heap.size, 0, rfl, by simp, fun j hj => ?_⟩⟩
  rw [cell_of_row (w.alloc _) w.heap.size (0 + j) _ t (0, 0) (heap_alloc_new w _)]
  simp [List.getD_eq_getElem?_getD, List.getElem?_eq_getElem hj, encB]
theorem lit_u8 {a : Int} (h : (Lit.int .u8 a).wf = true) : ∃ s : Nat, a = s ∧ s < 256 := by
  simp only [Lit.wf, Bool.and_eq_true, decide_eq_true_eq] at h
  have h1 : (0 : Int) ≤ a := h.1
  have h2 : a ≤ 255 := h.2
  exact ⟨a.toNat, by omega, by omega⟩
/-- A row of bytes that came in. -/
theorem IsRow.byts {w : World} {a : Option Addr} {len cap : Nat} {zs : List Int} (h : IsRow .u8 w a len cap zs) : Byts w a len ((zs.take len).map Int.toNat) ∧ len ≤ cap ∧ cap ≤ maxLen := by
  rcases h with ⟨rfl, rfl, rfl, rfl⟩ | ⟨⟨b, off, sp⟩, rfl, hl, hm, hz, hcell, hwf⟩
  · exact ⟨Byts.nil _ _, Nat.le_refl _, Nat.zero_le _⟩
  · have hlt : ∀ j, j < len → ∃ s : Nat, zs.getD j 0 = s ∧ s < 256 := fun j hj => by
      have hj' : j < zs.length := by omega
      refine lit_u8 (hwf _ ?_)
      rw [List.getD_eq_getElem?_getD, List.getElem?_eq_getElem hj']
      exact List.getElem_mem hj'
    refine ⟨⟨by rw [List.length_map, List.length_take]; omega, ?_, fun hp => ?_⟩, hl, hm⟩
    · intro x hx
      rw [List.mem_map] at hx
      obtain ⟨y, hy, rfl⟩ := hx
      obtain ⟨s, rfl, hs⟩ := lit_u8 (hwf y (List.mem_of_mem_take hy))
      simpa using hs
    · have h0 := hcell 0 (by omega)
      have hsp : sp = none := by simpa [Addr.add] using World.cell?_spot h0
      subst hsp
      refine ⟨b, off, rfl, by have := block_lt_of_cell h0; simpa [Addr.add] using this, fun j hj => ?_⟩
      have hj' : j < zs.length := by omega
      have h1 := hcell j hj'
      obtain ⟨s, e, hs⟩ := hlt j hj
      have e2 : ((zs.take len).map Int.toNat).getD j 0 = s := by
        have hjt : j < (zs.take len).length := by rw [List.length_take]; omega
        rw [List.getD_eq_getElem?_getD, List.getElem?_eq_getElem (by rw [List.length_map]; exact hjt)]
        rw [List.getD_eq_getElem?_getD, List.getElem?_eq_getElem hj'] at e
        simp only [Option.getD_some] at e
        simp [e]
      have ha : (⟨b, off, none⟩ : Addr).add j = ⟨b, off + j, none⟩ := by unfold Addr.add; split <;> simp_all
      rw [ha] at h1
      rw [e2, ← e]
      exact h1
theorem Byts.take {w : World} {A : Option Addr} {n m : Nat} {xs : List Nat} (h : Byts w A n xs) (hm : m ≤ n) : Byts w A m (xs.take m) := by
  refine ⟨by rw [List.length_take, h.len]; omega, fun x hx => h.lt x (List.mem_of_mem_take hx), fun hp => ?_⟩
  obtain ⟨b, o, e, hb, hc⟩ := h.row (by omega)
  refine ⟨b, o, e, hb, fun j hj => ?_⟩
  rw [hc j (by omega)]
  simp [List.getD_eq_getElem?_getD, hj]
theorem Byts.drop {w : World} {A : Option Addr} {n c l : Nat} {xs : List Nat} (h : Byts w A n xs) (hl : l ≤ n) (hc : n ≤ c) : Byts w (subA A c l) (n - l) (xs.drop l) := by
  refine ⟨by rw [List.length_drop, h.len], fun x hx => h.lt x (List.mem_of_mem_drop hx), fun hp => ?_⟩
  obtain ⟨b, o, rfl, hb, hcell⟩ := h.row (by omega)
  refine ⟨b, o + l, ?_, hb, fun j hj => ?_⟩
  · unfold subA
    rw [if_neg (by omega)]
    simp only [Option.map_some, Addr.add]
    by_cases h0 : l = 0
    · subst h0
      rfl
    · rw [if_neg h0]
  · rw [show o + l + j = o + (l + j) by omega, hcell (l + j) (by omega)]
    simp [List.getD_eq_getElem?_getD]
theorem Byts.bin {w : World} {A : Option Addr} {n : Nat} {xs : List Nat} (h : Byts w A n xs) (hx : ∀ j, j < n → xs.getD j 0 ≤ 1) : Bin xs := fun x hm => by
  obtain ⟨j, hj, rfl⟩ := List.getElem_of_mem hm
  have := hx j (by rw [← h.len]; exact hj)
  rw [List.getD_eq_getElem?_getD, List.getElem?_eq_getElem hj] at this
  exact this

set_option maxRecDepth 100000 in
theorem sizeByte : ∀ w, (Go.sizeOf 5).run Tryd.prog w = .ok 1 w := by
  exact fun _ => by kernel_rfl
theorem map_add0 (A : Option Addr) : A.map (·.add 0) = A := by
  cases A with
  | none => rfl
  | some a => simp [Addr.add]
theorem run_toI (A : Option Addr) (n c h : Nat) (H : Int) (hH : H = (h : Int)) (hh : h ≤ c) (W : World) :
    (Instr.slice 22 (.slice A n c) none (some (.int .i64 H)) none).run Tryd.prog W = .ok (.slice A h c) W := by
  subst hH
  have ht' : Tryd.prog.underlying 22 = some (.slice (Tryd.prog.elem 22)) := by simp [Program.elem, Tryd.underlying22]
  have he : Tryd.prog.elem 22 = 3 := by simp [Program.elem, Tryd.underlying22]
  rw [run_slice_h W _ _ _ _ ht' .i64 _ (by omega) (by omega), he, sizeInt]
  simp [Result.andThen, sliced, map_add0]

/-- v is a slice of bytes of the call's own (its block from 'base' on), and holds xs. -/
def OwnByts (w : World) (base : Nat) (v : Value) (xs : List Nat) : Prop := w.ownsRow base 5 1 v xs.length (xs.map encB)
theorem OwnByts.nil (w : World) (base : Nat) : OwnByts w base (.slice none 0 0) [] := World.ownsRow_nil w base 5 1
theorem OwnByts.drewN {w : World} {base : Nat} {v : Value} {xs : List Nat} (h : OwnByts w base v xs) (k : Nat) : OwnByts (w.drewN k) base v xs := h
theorem OwnByts.keep {w w' : World} {base : Nat} {v : Value} {xs : List Nat} (h : OwnByts w base v xs) (hb : Below w.heap.size w w') : OwnByts w' base v xs := by
  refine ⟨h.1, ?_⟩
  rcases h.2 with h0 | ⟨g, cap, cur, hv, hg, hh, r⟩
  · exact .inl h0
  · exact .inr ⟨g, cap, cur, hv, hg, (hb.block g (Array.getElem?_eq_some_iff.1 hh).1).trans hh, r⟩
theorem OwnByts.mono {w : World} {base base' : Nat} {v : Value} {xs : List Nat} (h : OwnByts w base v xs) (hb : base' ≤ base) : OwnByts w base' v xs := by
  refine ⟨h.1, ?_⟩
  rcases h.2 with h0 | ⟨g, cap, cur, hv, hg, r⟩
  · exact .inl h0
  · exact .inr ⟨g, cap, cur, hv, Nat.le_trans hb hg, r⟩
/-- The slice as one that is only read. -/
theorem OwnByts.byts {w : World} {base : Nat} {v : Value} {xs : List Nat} (h : OwnByts w base v xs) (hx : ∀ x ∈ xs, x < 256) : ∃ A c, v = .slice A xs.length c ∧ Byts w A xs.length xs ∧ Cap xs.length c ∧ (A = none → c = 0) := by
  rcases h.2 with ⟨rfl, h0⟩ | ⟨g, cap, cur, rfl, hb, hg, hc1, hc2, _⟩
  · have : xs = [] := List.eq_nil_of_length_eq_zero h0
    subst this
    exact ⟨none, 0, rfl, Byts.nil _ _, ⟨Nat.le_refl _, by omega⟩, fun _ => rfl⟩
  · refine ⟨_, _, rfl, ⟨rfl, hx, fun _ => ⟨g, 0, rfl, (Array.getElem?_eq_some_iff.1 hg).1, fun j hj => ?_⟩⟩, ⟨hc1, by unfold maxLen at hc2; exact hc2⟩, fun e => by cases e⟩
    rw [Nat.zero_add, World.ownsRow.cellAt h j (by omega)]
    simp [List.getD_eq_getElem?_getD, List.getElem?_eq_getElem hj, encB]
theorem cells_of_byts {w : World} {ad : Addr} {n : Nat} {ys : List Nat} (h : Byts w (some ad) n ys) : ∀ j u, (ys.map encB)[j]? = some u → w.cell? (ad.add j) = some u := by
  intro j u hj
  rw [List.getElem?_map] at hj
  have hjl : j < ys.length := by
    rcases Nat.lt_or_ge j ys.length with h1 | h1
    · exact h1
    · rw [List.getElem?_eq_none h1] at hj; cases hj
  rw [List.getElem?_eq_getElem hjl] at hj
  simp only [Option.map_some, Option.some.injEq] at hj
  obtain ⟨b, off, e, hb, hc⟩ := h.row (by have := h.len; omega)
  injection e with e
  subst e
  have ha : (⟨b, off, none⟩ : Addr).add j = ⟨b, off + j, none⟩ := by unfold Addr.add; split <;> simp_all
  rw [ha, hc j (by have := h.len; omega), ← hj]
  simp [List.getD_eq_getElem?_getD, List.getElem?_eq_getElem hjl, encB]
theorem cell_oneT (W : World) (y : Int) : ∀ j u, [Value.int .u8 y][j]? = some u → (W.alloc (.cells #[.int .u8 y] 5)).cell? ((⟨W.heap.size, 0, none⟩ : Addr).add j) = some u := by
  intro j u hj
  match j, hj with
  | 0, hj => simp at hj; subst hj; simp [Addr.add]
end Go.Proofs.YtmdpfadfimodjaaDoor

/-
  shuffle.Lots.
-/
namespace Go.Proofs.YtmdpfadfimodjaaDoor
open Go.RowKit

theorem index_last (A : Option Addr) (k c : Nat) (q : List Int) (w : World) (h : Ints w A (k + 1) q) (hq : IsPerm q) (hk : k ≤ 1000) :
    Calls Tryd.prog 37 #[.slice A (k + 1) c, .int .i64 (k : Int)] w fun e w' => e = .returned (.int .i64 ((ixf q (k : Int) : Nat) : Int)) ∧ w = w' := by
  refine (index_any A (k + 1) c q (k : Int) w h (by omega)).mono ?_
  rintro e w' ⟨r, rfl, -, rfl, hf⟩
  obtain ⟨j, rfl, hj⟩ := hf (hq.all k (by rw [h.len]; omega))
  rw [hj.only (isPerm_last h.len hq)]
  exact ⟨rfl, rfl⟩

theorem OwnInts.frozenN {w : World} {base g n cap : Nat} {xs : List Int} (h : OwnInts w base (.slice (some ⟨g, 0, none⟩) n cap) xs) (hn : n = xs.length) (j : Nat) : w.frozen? ⟨g, j, none⟩ = false := by
  subst hn
  exact World.ownsRow.frozenAt h j
theorem OwnInts.cellN {w : World} {base g n cap : Nat} {xs : List Int} (h : OwnInts w base (.slice (some ⟨g, 0, none⟩) n cap) xs) (hn : n = xs.length) {j : Nat} (hj : j < n) : w.cell? ⟨g, j, none⟩ = some (.int .i64 (xs.getD j 0)) := by
  subst hn
  exact h.cell hj
theorem set_replicate (k : Nat) (t : List Int) (x : Int) : (List.replicate (k + 1) (0 : Int) ++ t).set k x = List.replicate k (0 : Int) ++ (x :: t) := by
  have e : List.replicate (k + 1) (0 : Int) ++ t = List.replicate k (0 : Int) ++ ((0 : Int) :: t) := by rw [List.replicate_succ']; simp
  rw [e, List.set_append_right _ _ (by simp)]
  simp

theorem shLots_bad (A : Option Addr) (n c : Nat) (xs : List Int) (w : World) (h : Ints w A n xs) (hn : n ≤ 9223372036854775807) (he : permErr xs ≠ 0) :
    Calls Tryd.prog 14 #[.slice A n c] w (RetOwnE w [] (permErr xs)) := by
  have HC := hid (check_any A n c xs w h hn)
  have hz : (permErr xs != 0) = true := by simpa using he
  clear h he
  generalize permErr xs = E at *
  go_enter Tryd.func14, Tryd.ntmps14
  go_wp2_with fail
  refine HC.out.mono ?_
  rintro e w' ⟨rfl, hb⟩
  have HB := hid hb
  clear hb
  go_wp2
  go_ret2
  exact ⟨_, rfl, OwnInts.nil _ _, HB.out⟩

/-- What the loop of Lots keeps: k numbers are left. -/
structure LInv (w : World) (g n : Nat) (p : List Int) (wr : World) (lv : Value) (k : Nat) (L t : List Int) : Prop where
  len : L.length = k
  perm : IsPerm L
  un : unlots n p = unlots k L ++ t
  arr : Arr wr g (List.replicate k (0 : Int) ++ t)
  own : OwnInts wr (g + 1) lv L
  bel : Below w.heap.size w wr

set_option maxHeartbeats 2000000 in
set_option maxRecDepth 100000 in
theorem shLots_good (A : Option Addr) (n c : Nat) (p : List Int) (w : World) (h : Ints w A n p) (he : permErr p = 0) :
    Calls Tryd.prog 14 #[.slice A n c] w (RetOwnE w (unlots n p) 0) := by
  obtain ⟨hn, hp⟩ := permErr_ok.1 he
  rw [h.len] at hn
  have HL := hid h.len
  have HC := hid (check_any A n c p w h (by omega))
  rw [he] at HC
  have HI := hid h
  have HP := hid hp
  have hmk := fun W => run_make_row' (P := Tryd.prog) 22 3 (.int .i64 0) 8 Tryd.underlying22 infoInt rfl .i64 .i64 n (by omega) (by omega) W
  clear h he hp
  go_enter Tryd.func14, Tryd.ntmps14
  go_wp2_with fail
  refine HC.out.mono ?_
  rintro e w0 ⟨rfl, hb⟩
  have HB0 := hid hb
  clear hb HC
  have HA1 := hid (Arr.made w0 n)
  have HB1 := hid (below_step HB0.out (Nat.le_refl _) (below_alloc w0 (.cells (madeCells #[.int .i64 0] n) 3)))
  have HI1 := hid (HI.out.keep HB1.out)
  have hsz : (w0.alloc (.cells (madeCells #[.int .i64 0] n) 3)).heap.size = w0.heap.size + 1 := by simp
  have HSZ := hid hsz
  clear hsz
  go_wp2_with fail
  refine (clone_any A n c p _ HI1.out (by omega)).mono ?_
  rintro e w1 ⟨lv, rfl, ho, hb⟩
  rw [HSZ.out] at ho
  have hinv : LInv w w0.heap.size n p w1 lv n p [] :=
    ⟨HL.out, HP.out, by rw [List.append_nil], by rw [List.append_nil]; exact HA1.out.keep hb, ho, below_step HB1.out (Nat.le_refl _) hb⟩
  have HV := hid hinv
  have HGB : Hid (w.heap.size ≤ w0.heap.size) := hid HB0.out.size
  have hrep : ∃ A c, lv = .slice A n c := by
    obtain ⟨A1, c1, e, -, -⟩ := ho.ints
    rw [HL.out] at e
    exact ⟨A1, c1, e⟩
  obtain ⟨A1, c1, rfl⟩ := hrep
  clear ho hb hinv HA1 HB1 HI1 HB0 HI HP HSZ
  generalize w0.heap.size = g0 at *
  go_wp2
  go_loopg [6, 7, 8] (n + 1) (fun g lv iv jv wr => ∃ (k : Nat) (L t : List Int) (A : Option Addr) (c : Nat), k ≤ n ∧ k + 1 ≤ g ∧ iv = .int .i64 ((k : Int) - 1) ∧ lv = .slice A k c ∧ LInv w g0 n p wr (.slice A k c) k L t)
  case atStart => exact ⟨n, p, [], A1, c1, by omega, by omega, by go_num, rfl, HV.out⟩
  case round =>
    obtain ⟨k, L, t, A2, c2, hk, hg, rfl, rfl, hinv⟩ := hrel
    have HW := hid hinv
    clear hinv
    rcases Nat.eq_zero_or_pos k with rfl | hpos
    · have HT : Hid (unlots n p = t) := HW.out.un
      have HTA : Hid (Arr wr g0 t) := HW.out.arr
      have HTL : Hid (t.length = n) := by rw [← HT.out, length_unlots]; exact rfl
      have HB := hid HW.out.bel
      clear HW HV hmk
      go_wp2
      go_ret2
      exact ⟨_, rfl, by rw [HT.out]; exact HTA.out.own HGB.out HTL.out (by omega), HB.out⟩
    · obtain ⟨k, rfl⟩ : ∃ k', k = k' + 1 := ⟨k - 1, by omega⟩
      have hi : ((((k + 1 : Nat) : Int)) - 1) = (k : Int) := by omega
      rw [hi]
      have hLL := HW.out.len
      have hown := HW.out.own
      obtain ⟨gl, cap, hv, hgl, hgl2, hcap⟩ := hown.form (by omega)
      rw [hLL] at hv hcap
      injection hv with e1 _ e3
      subst e1
      subst e3
      have HX := hid (index_last _ k c2 L wr hown.asInts.1 HW.out.perm (by omega))
      have hf := isPerm_last hLL HW.out.perm
      have hU : unlots (k + 1) L = unlots k (undo L k (ixf L (k : Int))) ++ [((ixf L (k : Int) : Nat) : Int)] := rfl
      have hun := HW.out.un
      rw [hU, List.append_assoc, List.singleton_append] at hun
      generalize ixf L (k : Int) = m at *
      have hm : m ≤ k := by have := hf.1; omega
      have hne : gl ≠ g0 := by omega
      have a2 := HW.out.arr.cell (j := k) (by simp; omega)
      have af := HW.out.arr.frozen k
      have A2 := HW.out.arr.set k (m : Int)
      rw [set_replicate] at A2
      have O2 := hown.setFar g0 k (by omega) (.int .i64 (m : Int))
      have c3 := OwnInts.cellN O2 hLL.symm (j := k) (by omega)
      have c4 := OwnInts.cellN O2 hLL.symm (j := m) (by omega)
      have f4 := OwnInts.frozenN O2 hLL.symm m
      have O3 := (O2.set hLL.symm m (L.getD k 0)).cut k (by rw [List.length_set, hLL]; omega)
      have A3 := A2.setOther (a := ⟨gl, m, none⟩) (by show g0 ≠ gl; omega) (.int .i64 (L.getD k 0))
      have hcut := run_toI (some ⟨gl, 0, none⟩) (k + 1) c2 k (k : Int) rfl (by omega)
      have HN : Hid (LInv w g0 n p ((wr.setCell ⟨g0, k, none⟩ (.int .i64 (m : Int))).setCell ⟨gl, m, none⟩ (.int .i64 (L.getD k 0))) (.slice (some ⟨gl, 0, none⟩) k c2) k (undo L k m) ((m : Int) :: t)) :=
        ⟨length_undo hLL, isPerm_undo hLL HW.out.perm hm hf.2.1, hun, A3, O3, (HW.out.bel.setCell (by exact HGB.out) _).setCell (show w.heap.size ≤ gl by have := HGB.out; omega) _⟩
      clear HW hf hU hun A2 O2 O3 A3 hown hLL HV hmk hi
      generalize L.getD k 0 = y at *
      generalize L.getD m 0 = z at *
      generalize (List.replicate (k + 1) (0 : Int) ++ t).getD k 0 = z2 at *
      generalize undo L k m = L2 at *
      go_wp2_with fail
      refine HX.out.mono ?_
      rintro e w2 ⟨rfl, rfl⟩
      clear HX
      go_wp2
      go_roundg (k + 1)
      case measure => omega
      case rel => exact ⟨k, L2, (m : Int) :: t, _, _, by omega, by omega, by go_num, rfl, HN.out⟩

/-- shuffle.Lots, whatever comes in. -/
theorem shLots_any (A : Option Addr) (n c : Nat) (xs : List Int) (w : World) (h : Ints w A n xs) (hn : n ≤ 9223372036854775807) :
    Calls Tryd.prog 14 #[.slice A n c] w (RetOwnE w (lotsX xs) (permErr xs)) := by
  by_cases he : permErr xs = 0
  · rw [lotsX_ok he, he, h.len]
    exact shLots_good A n c xs w h he
  · rw [lotsX_bad he]
    exact shLots_bad A n c xs w h hn he

end Go.Proofs.YtmdpfadfimodjaaDoor
