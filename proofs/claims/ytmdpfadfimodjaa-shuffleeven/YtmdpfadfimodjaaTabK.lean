/-
  From behind the rows are columns: the transpose, entry by entry. Plain facts; no program, no memory.
-/
import Derived.Test.YtmdpfadfimodjaaTabR
namespace Go.Proofs.Ytmdpfadfimodjaa

/-- The one's rows are the other's columns. -/
def Tr (f g : Nat → Nat) : Prop := ∀ i k, k < f i ↔ i < g k
theorem tr_grow {f g : Nat → Nat} {r c : Nat} (h : Tr f g) (hc : c = f r) (hr : r = g c) : Tr (grow f r) (grow g c) := by
  intro i k
  have h1 := h i k
  have h2 := h r k
  have h3 := h i c
  simp only [grow]
  have p1 := ind i r
  have p2 := ind k c
  by_cases e1 : i = r
  · by_cases e2 : k = c
    · subst e1
      subst e2
      simp
      omega
    · subst e1
      simp only [if_pos, if_neg e2]
      omega
  · by_cases e2 : k = c
    · subst e2
      simp only [if_pos, if_neg e1]
      omega
    · simp only [if_neg e1, if_neg e2]
      omega
theorem tr_inv {f g : Nat → Nat} {a b : Nat} (h : Tr f g) (h2 : Tr (grow f a) (grow g b)) : b = f a ∧ a = g b := by
  have h3 := (h2 a (f a)).1 (by rw [grow_at]; omega)
  have h4 : ¬ a < g (f a) := fun e => by have := (h a (f a)).2 e; omega
  by_cases e : f a = b
  · subst e
    rw [grow_at] at h3
    exact ⟨rfl, by omega⟩
  · rw [grow_ne g e] at h3
    exact absurd h3 h4

theorem tr_all : ∀ (N : Nat) (w : List Int), w.length = N → w.Nodup → Tr (Sh w) (Sh w.reverse)
  | N, w, hl, hd => by
    by_cases h0 : w = []
    · subst h0
      intro i k
      rw [List.reverse_nil, sh_nil, sh_nil]
      omega
    · obtain ⟨u, M, v, rfl, hM⟩ := max_of w h0 hd
      have hdr : (u ++ M :: v).reverse.Nodup := (List.reverse_perm _).nodup_iff.2 hd
      rcases List.eq_nil_or_concat v with rfl | ⟨v, z, rfl⟩
      · have hu : ∀ x ∈ u, x < M := fun x hx => hM x (by simp [hx])
        have hdu := nodup_front hd
        have IH := tr_all u.length u rfl hdu
        rw [sh_last u M hu]
        have er : (u ++ [M]).reverse = [] ++ M :: u.reverse := by simp
        rw [er]
        obtain ⟨d, _, _, hdd⟩ := mid_row [] M u.reverse (fun x hx => hu x (by simpa using hx))
        rw [hdd]
        simp only [List.nil_append] at hdd ⊢
        have hz := front_max M u.reverse (fun x hx => hu x (by simpa using hx)) ((List.reverse_perm _).nodup_iff.2 hdu) (fun w _ hn => anti_sh hn) d hdd
        rw [er, List.nil_append] at hdr
        have hA := anti_sh hdr
        rw [hdd] at hA
        have hd0 : d = Sh u 0 := by
          have h1 : ¬ d < Sh u 0 := fun e => by have := (IH 0 d).1 e; omega
          rcases Nat.eq_zero_or_pos d with h2 | h2
          · omega
          · obtain ⟨c, rfl⟩ : ∃ c, d = c + 1 := ⟨d - 1, by omega⟩
            have h3 := anti_gap hA
            have h4 := (IH 0 c).2 (by omega)
            omega
        exact tr_grow IH hd0 hz.symm
      · rw [List.concat_eq_append] at *
        have e1 : u ++ M :: (v ++ [z]) = (u ++ M :: v) ++ [z] := by simp
        have e2 : u ++ (v ++ [z]) = (u ++ v) ++ [z] := by simp
        rw [e2] at hM
        have hdm := nodup_mid hd
        rw [e2] at hdm
        rw [e1] at hd hl ⊢
        have hMuv : ∀ x ∈ u ++ v, x < M := fun x hx => hM x (List.mem_append_left _ hx)
        have hMz : z < M := hM z (by simp)
        have hln : (u ++ v).length + 2 = N := by simp at hl ⊢; omega
        have T0 := tr_all (u ++ v).length (u ++ v) rfl (nodup_front hdm)
        have Tz := tr_all ((u ++ v) ++ [z]).length ((u ++ v) ++ [z]) rfl hdm
        have TM := tr_all (u ++ M :: v).length (u ++ M :: v) rfl (nodup_front hd)
        have r0 : (u ++ v).reverse = v.reverse ++ u.reverse := by simp
        have rz : ((u ++ v) ++ [z]).reverse = z :: (v.reverse ++ u.reverse) := by simp
        have rM : (u ++ M :: v).reverse = v.reverse ++ M :: u.reverse := by simp
        have rzM : ((u ++ M :: v) ++ [z]).reverse = z :: (v.reverse ++ M :: u.reverse) := by simp
        rw [r0] at T0
        rw [rz] at Tz
        rw [rM] at TM
        rw [rzM]
        have hdz : (z :: (v.reverse ++ u.reverse)).Nodup := by rw [← rz]; exact (List.reverse_perm _).nodup_iff.2 hdm
        have hdzM : (z :: (v.reverse ++ M :: u.reverse)).Nodup := by rw [← rzM]; exact (List.reverse_perm _).nodup_iff.2 hd
        obtain ⟨a, ha⟩ : ∃ a, Sh ((u ++ v) ++ [z]) = grow (Sh (u ++ v)) a := ⟨_, sh_snoc _ _⟩
        obtain ⟨d, _, _, hdd⟩ := mid_row u M v hMuv
        obtain ⟨b, hb⟩ := (upto_all _).ee z (v.reverse ++ u.reverse) (Nat.lt_succ_self _) hdz
        have hMr : ∀ x ∈ v.reverse ++ u.reverse, x < M := fun x hx => hMuv x (by simp only [List.mem_append, List.mem_reverse] at hx ⊢; exact hx.symm)
        obtain ⟨d', _, _, hd'⟩ := mid_row v.reverse M u.reverse hMr
        obtain ⟨g1, g2⟩ := (upto_all _).ge z v.reverse M u.reverse b d' (Nat.lt_succ_self _) hdzM (fun x hx => by
          rcases List.mem_cons.1 hx with rfl | hx
          · exact hMz
          · exact hMr x hx) hb hd'
        have hr := row_rule u M v z hMuv hMz ha hdd
        rw [ha, hb] at Tz
        rw [hdd, hd'] at TM
        obtain ⟨q1, q2⟩ := tr_inv T0 Tz
        obtain ⟨q3, q4⟩ := tr_inv T0 TM
        rw [hr]
        by_cases e : a = d
        · subst e
          have hbd : b = d' := q1.trans q3.symm
          subst hbd
          rw [if_pos rfl]
          obtain ⟨s, hs, hsM⟩ := g2 rfl
          rw [hsM]
          refine tr_grow Tz ?_ ?_
          · have k1 : ¬ s < grow (Sh (u ++ v)) a (a + 1) := fun e => by
              have := (Tz (a + 1) s).1 e
              rw [hs.1] at this
              omega
            rcases Nat.eq_zero_or_pos s with h2 | h2
            · omega
            · obtain ⟨c, rfl⟩ : ∃ c, s = c + 1 := ⟨s - 1, by omega⟩
              have h3 := hs.2 c (by omega)
              have h4 := (Tz (a + 1) c).2 (by omega)
              omega
          · rw [hs.1]
            omega
        · rw [if_neg e]
          have hbd : b ≠ d' := fun e2 => e (by rw [q2, q4, e2])
          rw [g1 hbd]
          refine tr_grow Tz ?_ ?_
          · rw [grow_ne _ (fun h => e h.symm)]
            exact q3
          · rw [grow_ne _ (fun h => hbd h.symm)]
            exact q4
  termination_by N w _ _ => w.length
  decreasing_by
    all_goals simp_wf
    all_goals (try simp at *)
    all_goals (try omega)

/-- What stands in row i at place k. -/
def tget (T : List (List Int)) (i k : Nat) : Option Int := (T.getD i [])[k]?
theorem tget_tadd : ∀ (T : List (List Int)) (r : Nat) (M : Int) (i k : Nat), r ≤ T.length → tget (tadd T r M) i k = if i = r ∧ k = tlen T r then some M else tget T i k
  | [], r, M, i, k, h => by
    have : r = 0 := by simpa using h
    subst this
    cases i with
    | zero =>
      cases k with
      | zero => simp [tadd, tget, tlen]
      | succ k => simp [tadd, tget, tlen]
    | succ i => simp [tadd, tget]
  | row :: T, 0, M, i, k, _ => by
    cases i with
    | zero =>
      rw [tadd]
      simp only [tget, tlen, List.getD_cons_zero, true_and]
      by_cases e : k = row.length
      · subst e
        simp
      · rw [if_neg e, List.getElem?_append]
        split
        · rfl
        · rw [List.getElem?_eq_none (by simp; omega), List.getElem?_eq_none (by omega)]
    | succ i => simp [tadd, tget]
  | row :: T, r + 1, M, i, k, h => by
    cases i with
    | zero => simp [tadd, tget]
    | succ i =>
      have := tget_tadd T r M i k (by simpa using h)
      simp only [tget, tlen] at this
      simp only [tadd, tget, tlen, List.getD_cons_succ, this, Nat.add_right_cancel_iff]
      rfl

/-- SCHENSTED. -/
theorem turned_behind : ∀ (N : Nat) (w : List Int), w.length = N → w.Nodup → ∀ i k, tget (PT w) i k = tget (PT w.reverse) k i
  | 0, w, hl, _ => by
    have : w = [] := List.eq_nil_of_length_eq_zero hl
    subst this
    intro i k
    simp [PT_nil, tget]
  | N + 1, w, hl, hd => by
    obtain ⟨u, M, v, rfl, hM⟩ := max_of w (by rintro rfl; simp at hl) hd
    have hdm := nodup_mid hd
    have IH := turned_behind N (u ++ v) (by simp at hl ⊢; omega) hdm
    have T0 := tr_all _ (u ++ v) rfl hdm
    have T1 := tr_all _ _ rfl hd
    have r0 : (u ++ v).reverse = v.reverse ++ u.reverse := by simp
    have rM : (u ++ M :: v).reverse = v.reverse ++ M :: u.reverse := by simp
    have hMr : ∀ x ∈ v.reverse ++ u.reverse, x < M := fun x hx => hM x (by simp only [List.mem_append, List.mem_reverse] at hx ⊢; exact hx.symm)
    obtain ⟨d, hd1, hd2, hd3⟩ := mid_row u M v hM
    obtain ⟨d', hd1', hd2', hd3'⟩ := mid_row v.reverse M u.reverse hMr
    rw [r0] at T0 IH
    rw [rM] at T1 ⊢
    rw [hd3, hd3'] at T1
    obtain ⟨q1, q2⟩ := tr_inv T0 T1
    intro i k
    rw [hd2, hd2', tget_tadd _ _ _ _ _ hd1, tget_tadd _ _ _ _ _ hd1', IH i k]
    have q1' : d' = tlen (PT (u ++ v)) d := q1
    have q2' : d = tlen (PT (v.reverse ++ u.reverse)) d' := q2
    rw [← q1', ← q2']
    by_cases e : i = d ∧ k = d'
    · rw [if_pos e, if_pos ⟨e.2, e.1⟩]
    · rw [if_neg e, if_neg (fun h => e ⟨h.2, h.1⟩)]

/-! ### No row is empty -/
theorem tadd_full : ∀ (T : List (List Int)) (r : Nat) (M : Int), (∀ x ∈ T, x ≠ []) → ∀ x ∈ tadd T r M, x ≠ []
  | [], r, M, _ => by cases r <;> simp [tadd]
  | row :: T, 0, M, h => by
    intro x hx
    rw [tadd] at hx
    rcases List.mem_cons.1 hx with rfl | hx
    · simp
    · exact h x (by simp [hx])
  | row :: T, r + 1, M, h => by
    intro x hx
    rw [tadd] at hx
    rcases List.mem_cons.1 hx with rfl | hx
    · exact h x (by simp)
    · exact tadd_full T r M (fun y hy => h y (by simp [hy])) x hx
theorem tin_full : ∀ (T : List (List Int)) (x : Int), (∀ r ∈ T, r ≠ []) → ∀ r ∈ (tin T x).1, r ≠ []
  | [], x, _ => by simp [tin]
  | row :: T, x, h => by
    intro r hr
    rcases rin_cases x row with h1 | ⟨l1, y, l2, rfl, h1, h2⟩
    · rw [tin_all T h1] at hr
      rcases List.mem_cons.1 hr with rfl | hr
      · simp
      · exact h r (by simp [hr])
    · rw [tin_at l2 T h1 h2] at hr
      rcases List.mem_cons.1 hr with rfl | hr
      · simp
      · exact tin_full T y (fun y hy => h y (by simp [hy])) r hr
theorem PT_full (w : List Int) : ∀ r ∈ PT w, r ≠ [] := by
  induction w using snoc_ind with
  | h0 => simp [PT_nil]
  | h1 w x ih => rw [PT_snoc]; exact tin_full _ _ ih
theorem QT_full (w : List Int) : ∀ r ∈ QT w, r ≠ [] := by
  induction w using snoc_ind with
  | h0 => simp [QT_nil]
  | h1 w x ih => rw [QT_snoc]; exact tadd_full _ _ _ ih
theorem full_iff {T : List (List Int)} (h : ∀ r ∈ T, r ≠ []) (i : Nat) : i < T.length ↔ 0 < tlen T i := by
  constructor
  · intro hi
    have h1 : T.getD i [] ∈ T := by
      rw [List.getD_eq_getElem?_getD, List.getElem?_eq_getElem hi]
      exact List.getElem_mem hi
    exact List.length_pos_iff.2 (h _ h1)
  · intro hi
    rcases Nat.lt_or_ge i T.length with h1 | h1
    · exact h1
    · rw [tlen, List.getD_eq_getElem?_getD, List.getElem?_eq_none h1] at hi
      simp at hi
/-- As many rows from behind as the first row is long. -/
theorem rows_behind {w : List Int} (hd : w.Nodup) : (PT w.reverse).length = tlen (PT w) 0 := by
  have T0 := tr_all _ w rfl hd
  have h1 : ∀ k, k < tlen (PT w) 0 ↔ k < (PT w.reverse).length := fun k => (T0 0 k).trans (full_iff (PT_full _) k).symm
  rcases Nat.lt_trichotomy (PT w.reverse).length (tlen (PT w) 0) with h | h | h
  · have := (h1 _).1 h
    omega
  · exact h
  · have := (h1 _).2 h
    omega

end Go.Proofs.Ytmdpfadfimodjaa
