/-
  Tableaux (P37): what Check answers, in plain words; the two tableaux of an order are such. No program, no memory.
-/
import Derived.Test.YtmdpfadfimodjaaTabB
import Derived.Test.YtmdpfadfimodjaaPlain
import Derived.Test.YtmdpfadfimodjaaSmall
namespace Go.Proofs.Ytmdpfadfimodjaa

theorem anti_tail {T : List (List Int)} {r : List Int} {d : Nat} (h : Anti (grow (tlen (r :: T)) (d + 1))) : Anti (grow (tlen T) d) := by
  intro i
  have := h (i + 1)
  simp only [grow, tlen_cons] at this ⊢
  have e1 : ¬ i + 1 + 1 = 0 := by omega
  have e2 : ¬ i + 1 = 0 := by omega
  rw [if_neg e1, if_neg e2] at this
  simp only [Nat.add_sub_cancel, Nat.add_right_cancel_iff] at this
  exact this
theorem tab_tadd : ∀ (T : List (List Int)) (d : Nat) (M : Int), TabL T → (∀ y ∈ T.flatten, y < M) → d ≤ T.length → Anti (grow (tlen T) d) → TabL (tadd T d M)
  | [], d, M, _, _, h, _ => by
    have : d = 0 := by simpa using h
    subst this
    exact ⟨List.pairwise_singleton _ _, ⟨Nat.zero_le _, fun k hk => absurd hk (Nat.not_lt_zero _)⟩, trivial⟩
  | row :: T, 0, M, ht, hM, _, _ => by
    obtain ⟨hs, hf, hT⟩ := ht
    refine ⟨?_, ⟨?_, fun k hk => ?_⟩, hT⟩
    · unfold Srt
      rw [List.pairwise_append]
      refine ⟨hs, List.pairwise_singleton _ _, fun a ha b hb => ?_⟩
      rw [List.mem_singleton] at hb
      rw [hb]
      exact hM a (by simp [ha])
    · have := hf.1
      rw [List.length_append, List.length_singleton]
      omega
    · rw [getD_left0 _ _ (Nat.lt_of_lt_of_le hk hf.1)]
      exact hf.2 k hk
  | row :: T, d + 1, M, ht, hM, hd, hA => by
    obtain ⟨hs, hf, hT⟩ := ht
    have hMT : ∀ y ∈ T.flatten, y < M := fun y hy => hM y (by rw [List.flatten_cons]; exact List.mem_append_right _ hy)
    refine ⟨hs, ?_, tab_tadd T d M hT hMT (by simpa using hd) (anti_tail hA)⟩
    cases d with
    | zero =>
      have h0 := hA 0
      simp only [grow, tlen_cons] at h0
      simp at h0
      cases T with
      | nil =>
        simp only [tadd, List.headD_cons]
        rw [tlen_nil] at h0
        refine ⟨by simpa using h0, fun k hk => ?_⟩
        have : k = 0 := by simpa using hk
        subst this
        exact hM _ (by rw [List.flatten_cons]; exact List.mem_append_left _ (getD_mem0 (by omega)))
      | cons r T =>
        simp only [tadd, List.headD_cons] at hf ⊢
        rw [tlen_cons, if_pos rfl] at h0
        refine ⟨by simpa using h0, fun k hk => ?_⟩
        rw [List.length_append, List.length_singleton] at hk
        by_cases e : k < r.length
        · rw [getD_left0 _ _ e]
          exact hf.2 k e
        · have : k = r.length := by omega
          subst this
          rw [getD_mid0]
          exact hM _ (by rw [List.flatten_cons]; exact List.mem_append_left _ (getD_mem0 (by omega)))
    | succ d =>
      cases T with
      | nil => simp at hd
      | cons r T => simpa [tadd] using hf

theorem tab_PT : ∀ (N : Nat) (w : List Int), w.length = N → w.Nodup → TabL (PT w)
  | 0, w, hl, _ => by
    have : w = [] := List.eq_nil_of_length_eq_zero hl
    subst this
    exact trivial
  | N + 1, w, hl, hd => by
    obtain ⟨u, M, v, rfl, hM⟩ := max_of w (by rintro rfl; simp at hl) hd
    obtain ⟨r, h1, h2, h3⟩ := mid_row u M v hM
    have hA := anti_sh hd
    rw [h3] at hA
    rw [h2]
    exact tab_tadd _ r M (tab_PT N (u ++ v) (by simp at hl ⊢; omega) (nodup_mid hd)) (fun y hy => hM y (PT_mem hy)) h1 hA
theorem tlen_QT (w : List Int) : tlen (QT w) = Sh w := by
  funext i
  exact (PQ_tlen w i).symm
theorem tab_QT (w : List Int) : w.Nodup → TabL (QT w) := by
  induction w using snoc_ind with
  | h0 => intro _; exact trivial
  | h1 w x ih =>
    intro hd
    have hA := anti_sh hd
    rw [sh_snoc, ← tlen_QT] at hA
    rw [QT_snoc]
    exact tab_tadd _ _ _ (ih (nodup_front hd)) (fun y hy => (QT_mem w y hy).2) (by rw [← PQ_length]; exact tin_le _ _) hA
theorem QT_flat (w : List Int) : (QT w).flatten.Perm (iota w.length) := by
  induction w using snoc_ind with
  | h0 => exact List.Perm.refl _
  | h1 w x ih =>
    rw [QT_snoc, List.length_append, List.length_singleton]
    refine (tadd_flat _ _ _).trans ((List.Perm.cons _ ih).trans ?_)
    have e : iota (w.length + 1) = iota w.length ++ [(w.length : Int)] := by simp [iota, List.range_succ]
    rw [e]
    exact (List.perm_append_singleton _ _).symm

/-- May row stand below the one above? As the program asks it. -/
def fitsB (row above : List Int) : Bool := decide (row.length ≤ above.length) && (List.range row.length).all (fun j => decide (above.getD j 0 < row.getD j 0))
theorem fitsB_iff {row above : List Int} : fitsB row above = true ↔ Fits above row := by
  unfold fitsB Fits
  simp only [Bool.and_eq_true, decide_eq_true_eq, List.all_eq_true, List.mem_range]
def rowOK (T : List (List Int)) (i : Nat) : Bool := !decide ((T.getD i []).length = 0) && sortedB (T.getD i []) && (decide (i = 0) || fitsB (T.getD i []) (T.getD (i - 1) []))
/-- P37. -/
def tabErr (T : List (List Int)) : Int :=
  if 10 < T.length ∨ 10 < T.flatten.length then 2 else if permErr T.flatten = 0 ∧ ∀ i, i < T.length → rowOK T i = true then 0 else 3

theorem srt_of_sorted {r : List Int} (h : sortedB r = true) (hd : r.Nodup) : Srt r := by
  have h1 := sortedB_true.1 h
  have h2 : ∀ d i, i + d < r.length → r.getD i 0 ≤ r.getD (i + d) 0 := by
    intro d
    induction d with
    | zero => intro i _; exact Int.le_refl _
    | succ d ih => intro i hi; exact Int.le_trans (ih i (by omega)) (h1 (i + d) hi)
  refine srt_of_getD fun i j hij hj => ?_
  have h3 := h2 (j - i) i (by omega)
  rw [show i + (j - i) = j by omega] at h3
  have h4 : r.getD i 0 ≠ r.getD j 0 := by
    intro e
    rw [List.getD_eq_getElem?_getD, List.getD_eq_getElem?_getD, List.getElem?_eq_getElem (by omega), List.getElem?_eq_getElem hj] at e
    exact List.pairwise_iff_getElem.1 hd i j (by omega) hj hij e
  omega
theorem sorted_of_srt {r : List Int} (h : Srt r) : sortedB r = true := sortedB_true.2 fun i hi => Int.le_of_lt (srt_getD h (Nat.lt_succ_self i) hi)

/-- From all the rows' own to the tableau. -/
theorem tab_of_rows : ∀ (T : List (List Int)), (∀ i, Srt (T.getD i [])) → (∀ i, Fits (T.getD i []) (T.getD (i + 1) [])) → TabL T
  | [], _, _ => trivial
  | r :: T, h1, h2 => by
    refine ⟨h1 0, ?_, tab_of_rows T (fun i => by simpa using h1 (i + 1)) (fun i => by simpa using h2 (i + 1))⟩
    have := h2 0
    cases T with
    | nil => simpa using this
    | cons r' T => simpa using this
theorem row_nodup : ∀ {T : List (List Int)}, T.flatten.Nodup → ∀ i, (T.getD i []).Nodup
  | [], _, i => by
    rw [List.getD_nil]
    exact List.nodup_nil
  | r :: T, h, 0 => by
    rw [List.flatten_cons, List.nodup_append] at h
    exact h.1
  | r :: T, h, i + 1 => by
    rw [List.flatten_cons, List.nodup_append] at h
    simpa using row_nodup (T := T) h.2.1 i
structure IsTab (T : List (List Int)) : Prop where
  len : T.length ≤ 10
  flat : T.flatten.length ≤ 10
  perm : IsPerm T.flatten
  tab : TabL T
  full : ∀ r ∈ T, r ≠ []
theorem tab_of_err {T : List (List Int)} (h : tabErr T = 0) : IsTab T := by
  unfold tabErr at h
  split at h
  · cases h
  · rename_i h1
    split at h
    · rename_i h2
      obtain ⟨h3, h4⟩ := permErr_ok.1 h2.1
      have hd : T.flatten.Nodup := h4.nodup_iff.2 (nodup_iota _)
      have hrow : ∀ i, i < T.length → (T.getD i []).length ≠ 0 ∧ sortedB (T.getD i []) = true ∧ (i = 0 ∨ fitsB (T.getD i []) (T.getD (i - 1) []) = true) := by
        intro i hi
        have := h2.2 i hi
        unfold rowOK at this
        simpa [and_assoc] using this
      have hout : ∀ i, T.length ≤ i → T.getD i [] = [] := fun i hi => by rw [List.getD_eq_getElem?_getD, List.getElem?_eq_none hi]; rfl
      refine ⟨by omega, by omega, h4, tab_of_rows T (fun i => ?_) (fun i => ?_), fun r hr => ?_⟩
      · rcases Nat.lt_or_ge i T.length with h5 | h5
        · exact srt_of_sorted (hrow i h5).2.1 (row_nodup hd i)
        · rw [hout i h5]
          exact List.Pairwise.nil
      · rcases Nat.lt_or_ge (i + 1) T.length with h5 | h5
        · rcases (hrow (i + 1) h5).2.2 with h6 | h6
          · omega
          · exact fitsB_iff.1 h6
        · rw [hout (i + 1) h5]
          exact ⟨Nat.zero_le _, fun k hk => absurd hk (Nat.not_lt_zero _)⟩
      · obtain ⟨i, hi, rfl⟩ := List.getElem_of_mem hr
        have := (hrow i hi).1
        rw [List.getD_eq_getElem?_getD, List.getElem?_eq_getElem hi] at this
        intro e
        exact this (by simp [e])
    · cases h
theorem err_of_tab {T : List (List Int)} (h : IsTab T) : tabErr T = 0 := by
  have h1 := h.len
  have h2 := h.flat
  unfold tabErr
  rw [if_neg (by omega), if_pos]
  refine ⟨permErr_ok.2 ⟨h2, h.perm⟩, fun i hi => ?_⟩
  have hm : T.getD i [] ∈ T := by
    rw [List.getD_eq_getElem?_getD, List.getElem?_eq_getElem hi]
    exact List.getElem_mem hi
  have h3 := h.full _ hm
  obtain ⟨s1, _⟩ := tab_at (i := i) h.tab
  unfold rowOK
  simp only [Bool.and_eq_true, Bool.not_eq_true', decide_eq_false_iff_not, Bool.or_eq_true, decide_eq_true_eq]
  refine ⟨⟨fun e => h3 (List.eq_nil_of_length_eq_zero e), sorted_of_srt s1⟩, ?_⟩
  cases i with
  | zero => exact .inl rfl
  | succ i => exact .inr (fitsB_iff.2 (tab_at (i := i) h.tab).2)
theorem tabErr_codes (T : List (List Int)) : tabErr T = 0 ∨ tabErr T = 2 ∨ tabErr T = 3 := by
  unfold tabErr
  split
  · exact .inr (.inl rfl)
  · split
    · exact .inl rfl
    · exact .inr (.inr rfl)

theorem full_len : ∀ (T : List (List Int)), (∀ r ∈ T, r ≠ []) → T.length ≤ T.flatten.length
  | [], _ => Nat.le_refl _
  | r :: T, h => by
    have h1 := full_len T (fun x hx => h x (by simp [hx]))
    have h2 := List.length_pos_iff.2 (h r (by simp))
    rw [List.length_cons, List.flatten_cons, List.length_append]
    omega
theorem isTab_PT {p : List Int} (hp : IsPerm p) (hl : p.length ≤ 10) : IsTab (PT p) := by
  have hd : p.Nodup := hp.nodup_iff.2 (nodup_iota _)
  have hf := (PT_flat p).length_eq
  have h2 := full_len _ (PT_full p)
  refine ⟨by omega, by omega, ?_, tab_PT _ p rfl hd, PT_full p⟩
  unfold IsPerm
  rw [hf]
  exact (PT_flat p).trans hp
theorem isTab_QT {p : List Int} (hd : p.Nodup) (hl : p.length ≤ 10) : IsTab (QT p) := by
  have hf : (QT p).flatten.length = p.length := by rw [(QT_flat p).length_eq, length_iota]
  have h2 := full_len _ (QT_full p)
  refine ⟨by omega, by omega, ?_, tab_QT p hd, QT_full p⟩
  unfold IsPerm
  rw [hf]
  exact QT_flat p

/-- What Back gives, of a pair with a table of rows. -/
def backL (P : List (List Int)) (G : List Nat) : List Int := (tbk P G.reverse).reverse
/-- G tells the row of each number of Q. -/
def RowsOf (Q : List (List Int)) (G : List Nat) : Prop := G.length = Q.flatten.length ∧ ∀ i y, y ∈ Q.getD i [] → G.getD y.toNat 0 = i

theorem emp_full {T E : List (List Int)} (hE : Emp E) (h : ∀ r ∈ T ++ E, r ≠ []) : E = [] := by
  rcases E with _ | ⟨r, E⟩
  · rfl
  · exact absurd (hE r (by simp)) (h r (by simp))
theorem tlen_of_map {P Q : List (List Int)} (h : P.map List.length = Q.map List.length) (i : Nat) : tlen P i = tlen Q i := by
  have h1 : ∀ T : List (List Int), tlen T i = (T.map List.length).getD i 0 := by
    intro T
    unfold tlen
    rw [List.getD_eq_getElem?_getD, List.getD_eq_getElem?_getD, List.getElem?_map]
    rcases T[i]? with _ | r <;> rfl
  rw [h1, h1, h]
/-- Two tableaux of one form: Back gives an order, and Of gives them again. -/
theorem back_of_tab {P Q : List (List Int)} {G : List Nat} (hP : IsTab P) (hQ : IsTab Q) (hl : P.map List.length = Q.map List.length) (hG : RowsOf Q G) :
    PT (backL P G) = P ∧ QT (backL P G) = Q ∧ IsPerm (backL P G) ∧ (backL P G).length = Q.flatten.length := by
  have hlen : P.length = Q.length := by
    have := congrArg List.length hl
    simpa using this
  obtain ⟨E, E', hE, hE', h1, h2, h3⟩ := back_all Q.flatten.length P Q G hP.tab (hP.perm.nodup_iff.2 (nodup_iota _)) hQ.tab (tlen_of_map hl) hlen (hQ.perm.nodup_iff.2 (nodup_iota _))
    (fun y => by rw [hQ.perm.mem_iff, mem_iota]) hG.1 hG.2
  have hE0 : E = [] := emp_full (T := PT (backL P G)) hE (by unfold backL; rw [← h2]; exact hP.full)
  have hE1 : E' = [] := emp_full (T := QT (backL P G)) hE' (by unfold backL; rw [← h3]; exact hQ.full)
  subst hE0
  subst hE1
  rw [List.append_nil] at h2 h3
  have hbl : (backL P G).length = Q.flatten.length := by unfold backL; rw [List.length_reverse]; exact h1
  refine ⟨h2.symm, h3.symm, ?_, hbl⟩
  have hpf := PT_flat (backL P G)
  have e : PT (backL P G) = P := h2.symm
  rw [e] at hpf
  unfold IsPerm
  have hfl := hpf.length_eq
  rw [← hfl]
  exact hpf.symm.trans hP.perm
/-- Back undoes Of. -/
theorem back_undoes {p : List Int} (hp : IsPerm p) {G : List Nat} (hG : RowsOf (QT p) G) : backL (PT p) G = p := by
  have hd : p.Nodup := hp.nodup_iff.2 (nodup_iota _)
  have hf : (QT p).flatten.length = p.length := by rw [(QT_flat p).length_eq, length_iota]
  have e : G = (gR p.reverse).reverse := by
    apply List.ext_getElem
    · rw [hG.1, hf, List.length_reverse, gR_length, List.length_reverse]
    · intro i h1 h2
      have hi : i < p.length := by rw [hG.1, hf] at h1; exact h1
      have h3 := hG.2 _ _ (gR_rows p i hi)
      rw [Int.toNat_natCast, List.getD_eq_getElem?_getD, List.getElem?_eq_getElem h1, List.getD_eq_getElem?_getD, List.getElem?_eq_getElem h2] at h3
      exact h3
  unfold backL
  rw [e, List.reverse_reverse]
  have := tbk_of p (fun u v e r hr => by
    have hdu : u.Nodup := by rw [e] at hd; exact nodup_front hd
    obtain ⟨i, hi, rfl⟩ := List.getElem_of_mem hr
    have := (tab_at (i := i) (tab_PT _ u rfl hdu)).1
    rw [List.getD_eq_getElem?_getD, List.getElem?_eq_getElem hi] at this
    exact this) []
  rw [List.append_nil] at this
  rw [this, List.reverse_reverse]

end Go.Proofs.Ytmdpfadfimodjaa
