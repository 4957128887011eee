/-
  Texts joined: SortZ, Cyc, CycLen, Order, Perms, All, Sign, SgnSwap, Ins, SortF, SortG, SortO, RefE, RefA, CycT, RefC, Alk, Errs, Fct, RankM.
-/
import Derived.Test.YtmdpfadfimodjaaDoorPermsOwnPart2
import Derived.Test.YtmdpfadfimodjaaDoorRows

/-
  slices.Reverse at []int.
-/
namespace Go.Proofs.YtmdpfadfimodjaaDoor
open Go.RowKit

/-- The first k and the last k numbers have changed places. -/
def revUpto (xs : List Int) (k : Nat) : List Int := (List.range xs.length).map (fun u => if u < k ∨ xs.length - k ≤ u then xs.getD (xs.length - 1 - u) 0 else xs.getD u 0)

theorem length_revUpto (xs : List Int) (k : Nat) : (revUpto xs k).length = xs.length := by simp [revUpto]

theorem getD_revUpto {xs : List Int} {u : Nat} (hu : u < xs.length) (k : Nat) : (revUpto xs k).getD u 0 = if u < k ∨ xs.length - k ≤ u then xs.getD (xs.length - 1 - u) 0 else xs.getD u 0 := by
  simp [revUpto, List.getD_eq_getElem?_getD, hu]

theorem revUpto_zero (xs : List Int) : revUpto xs 0 = xs := by
  apply ext_getD (length_revUpto xs 0)
  intro u hu
  rw [length_revUpto] at hu
  rw [getD_revUpto hu, if_neg (by omega)]

theorem revUpto_step {xs : List Int} {k m : Nat} (hm : m + k + 1 = xs.length) (hk : k < m) : swapAt (revUpto xs k) k m = revUpto xs (k + 1) := by
  apply ext_getD (by rw [length_swapAt, length_revUpto, length_revUpto])
  intro u hu
  rw [length_swapAt, length_revUpto] at hu
  rw [getD_swapAt (by rw [length_revUpto]; omega) (by rw [length_revUpto]; omega), getD_revUpto hu, getD_revUpto (show k < xs.length by omega), getD_revUpto (show m < xs.length by omega), getD_revUpto hu]
  by_cases h1 : u = m
  · subst h1
    rw [if_pos rfl, if_neg (by omega), if_pos (by omega), show xs.length - 1 - u = k by omega]
  · rw [if_neg h1]
    by_cases h2 : u = k
    · subst h2
      rw [if_pos rfl, if_neg (by omega), if_pos (by omega), show xs.length - 1 - u = m by omega]
    · rw [if_neg h2]
      by_cases h3 : u < k ∨ xs.length - k ≤ u
      · rw [if_pos h3, if_pos (by omega)]
      · rw [if_neg h3, if_neg (by omega)]

theorem revUpto_end {xs : List Int} {k : Nat} (h : xs.length ≤ k + k + 1) : revUpto xs k = xs.reverse := by
  apply ext_getD (by rw [length_revUpto, List.length_reverse])
  intro u hu
  rw [length_revUpto] at hu
  have e : xs.reverse.getD u 0 = xs.getD (xs.length - 1 - u) 0 := by
    rw [List.getD_eq_getElem?_getD, List.getElem?_reverse hu, List.getD_eq_getElem?_getD]
  rw [getD_revUpto hu, e]
  by_cases h3 : u < k ∨ xs.length - k ≤ u
  · rw [if_pos h3]
  · rw [if_neg h3, show xs.length - 1 - u = u by omega]

/-- In place: the slice holds other numbers; nothing else that was there has turned. -/
def RetPut (w : World) (base : Nat) (v : Value) (ys : List Int) (e : Ending) (w' : World) : Prop := e = .returned (.tuple #[]) ∧ OwnInts w' base v ys ∧ w.grownBy w' v.ownBlock

set_option maxHeartbeats 800000 in
theorem reverse_any (base : Nat) (v : Value) (xs : List Int) (w : World) (h : OwnInts w base v xs) (hn : xs.length ≤ 1000000) :
    Calls Tryd.prog 36 #[v] w (RetPut w base v xs.reverse) := by
  obtain ⟨A, c, rfl, _, _⟩ := h.ints
  have HO := hid h
  clear h
  generalize hm : xs.length = n at *
  have HL := hid hm
  clear hm
  go_enter Tryd.func36, Tryd.ntmps36
  go_wp2
  go_loopg [2, 3] n (fun g s t wr => ∃ k : Nat, k ≤ n ∧ n - k ≤ g ∧ s = .int .i64 k ∧ t = .int .i64 ((n : Int) - 1 - k) ∧ OwnInts wr base (.slice A n c) (revUpto xs k) ∧ w.grownBy wr (Value.slice A n c).ownBlock)
  case atStart => exact ⟨0, Nat.zero_le _, by omega, rfl, by go_num, by rw [revUpto_zero]; exact HO.out, only_refl _ _⟩
  case round =>
    obtain ⟨k, hk, hg, rfl, rfl, hown, hgrow⟩ := hrel
    have HO2 := hid hown
    have HG2 := hid hgrow
    clear hown hgrow
    by_cases hlt : k + k + 1 < n
    · obtain ⟨m, hmk⟩ : ∃ m, m + k + 1 = n := ⟨n - 1 - k, by omega⟩
      have hkm : k < m := by omega
      have hj : (n : Int) - 1 - k = m := by omega
      have HJ := hid hj
      have HMK := hid hmk
      have hmn : m < n := by omega
      have hkn : k < n := by omega
      have hlr : (revUpto xs k).length = n := by rw [length_revUpto, HL.out]
      obtain ⟨gb, cap, hv, hb, hgl, hcap⟩ := HO2.out.form (by rw [hlr]; omega)
      rw [hlr] at hv
      injection hv with hA _ hc
      subst hA
      subst hc
      rw [HJ.out]
      have hO : OwnInts wr base (.slice (some ⟨gb, 0, none⟩) (revUpto xs k).length c) (revUpto xs k) := by rw [hlr]; exact HO2.out
      have g1 : wr.cell? ⟨gb, k, none⟩ = some (.int .i64 ((revUpto xs k).getD k 0)) := hO.cell (by omega)
      have g2 : wr.cell? ⟨gb, m, none⟩ = some (.int .i64 ((revUpto xs k).getD m 0)) := hO.cell (by omega)
      have f1 : wr.frozen? ⟨gb, k, none⟩ = false := hO.frozen k
      have f2 : wr.frozen? ⟨gb, m, none⟩ = false := hO.frozen m
      have HSW : Hid (swapAt (revUpto xs k) k m = ((revUpto xs k).set k ((revUpto xs k).getD m 0)).set m ((revUpto xs k).getD k 0)) := rfl
      have HLR := hid hlr
      have HST := hid (revUpto_step (xs := xs) (k := k) (m := m) (by rw [HL.out]; exact hmk) hkm)
      clear hO hlr hj hmk
      generalize (revUpto xs k).getD k 0 = x at g1 HSW
      generalize (revUpto xs k).getD m 0 = y at g2 HSW
      go_wp2_with fail
      go_region
      go_wp2
      have hmk := HMK.out
      go_roundg (n - (k + 1))
      case measure => omega
      case rel =>
        refine ⟨k + 1, by omega, by omega, by go_num, by go_num, ?_, ?_⟩
        · rw [← HST.out, HSW.out]
          exact ((HO2.out.set HLR.out.symm k y).set (by rw [List.length_set]; exact HLR.out.symm) m x).drew
        · exact only_drewN (only_set (only_set HG2.out k _) m _) 1
    · have hd : ¬ ((k : Int) < (n : Int) - 1 - k) := by omega
      go_wp2
      go_end0
      exact ⟨rfl, by rw [← revUpto_end (xs := xs) (k := k) (by rw [HL.out]; omega)]; exact HO2.out, HG2.out⟩

end Go.Proofs.YtmdpfadfimodjaaDoor

/-
  Plain facts on the cycles of a permutation given as a list. No program, no memory.
-/
namespace Go.Proofs.YtmdpfadfimodjaaDoor

def nx (p : List Int) (i : Nat) : Nat := (p.getD i 0).toNat
/-- k steps from i. -/
def it (p : List Int) : Nat → Nat → Nat
  | 0, i => i
  | k + 1, i => nx p (it p k i)

theorem length_le_of_nodup {l : List Nat} {n : Nat} (hn : l.Nodup) (hl : ∀ x, x ∈ l → x < n) : l.length ≤ n := by
  by_cases h : l.length ≤ n
  · exact h
  · have := (perm_of_nodup_subset (l := l) (l' := List.range n) hn (fun x hx => List.mem_range.2 (hl x hx)) (by simp; omega)).length_eq
    simp at this
    omega

section
variable {p : List Int}

theorem nx_lt (h : IsPerm p) {i : Nat} (hi : i < p.length) : nx p i < p.length := by
  have := h.range (getD_mem hi)
  unfold nx
  omega
theorem nx_inj (h : IsPerm p) {i j : Nat} (hi : i < p.length) (hj : j < p.length) (e : nx p i = nx p j) : i = j := by
  have h1 := h.range (getD_mem hi)
  have h2 := h.range (getD_mem hj)
  have e' : p.getD i 0 = p.getD j 0 := by unfold nx at e; omega
  have hn := nodup_iff_getD.1 h.nodup
  rcases Nat.lt_trichotomy i j with hlt | he | hgt
  · exact absurd e' (hn i j hlt hj)
  · exact he
  · exact absurd e'.symm (hn j i hgt hi)

theorem it_lt (h : IsPerm p) {i : Nat} (hi : i < p.length) (k : Nat) : it p k i < p.length := by
  induction k with
  | zero => exact hi
  | succ k ih => exact nx_lt h ih
theorem it_add (p : List Int) (a b i : Nat) : it p (a + b) i = it p a (it p b i) := by
  induction a with
  | zero => simp [it]
  | succ a ih => rw [Nat.succ_add]; simp only [it]; rw [ih]
theorem it_inj (h : IsPerm p) {i j : Nat} (hi : i < p.length) (hj : j < p.length) (k : Nat) (e : it p k i = it p k j) : i = j := by
  induction k with
  | zero => exact e
  | succ k ih => exact ih (nx_inj h (it_lt h hi k) (it_lt h hj k) e)

theorem it_back (h : IsPerm p) {i : Nat} (hi : i < p.length) : ∃ k, 1 ≤ k ∧ k ≤ p.length ∧ it p k i = i := by
  apply Classical.byContradiction
  intro hno
  have hd : ((List.range (p.length + 1)).map (fun k => it p k i)).Nodup := by
    rw [List.nodup_iff_pairwise_ne, List.pairwise_map]
    have hr := List.pairwise_lt_range (n := p.length + 1)
    refine List.Pairwise.imp_of_mem ?_ hr
    intro a b ha hb hab e
    have hb' := List.mem_range.1 hb
    refine hno ⟨b - a, by omega, by omega, ?_⟩
    have e2 : it p b i = it p a (it p (b - a) i) := by rw [← it_add]; congr 1; omega
    exact (it_inj h hi (it_lt h hi _) a (e.trans e2)).symm
  have := length_le_of_nodup hd (n := p.length) (fun x hx => by
    obtain ⟨k, _, rfl⟩ := List.mem_map.1 hx
    exact it_lt h hi k)
  simp at this
  omega

/-- How many steps it takes to come back. -/
def per (p : List Int) (i : Nat) : Nat := ((List.range p.length).find? (fun k => decide (it p (k + 1) i = i))).getD 0 + 1

theorem per_spec (h : IsPerm p) {i : Nat} (hi : i < p.length) : 1 ≤ per p i ∧ per p i ≤ p.length ∧ it p (per p i) i = i ∧ ∀ k, 1 ≤ k → k < per p i → it p k i ≠ i := by
  obtain ⟨k, h1, h2, h3⟩ := it_back h hi
  unfold per
  cases hf : (List.range p.length).find? (fun k => decide (it p (k + 1) i = i)) with
  | none =>
    have := List.find?_eq_none.1 hf (k - 1) (List.mem_range.2 (by omega))
    rw [show k - 1 + 1 = k by omega] at this
    simp [h3] at this
  | some m =>
    rw [List.find?_range_eq_some] at hf
    obtain ⟨ha, hb, hc⟩ := hf
    have hb' := List.mem_range.1 hb
    refine ⟨by omega, by simp; omega, by simpa using ha, fun k hk1 hk2 => ?_⟩
    simp only [Option.getD_some] at hk2
    have := hc (k - 1) (by omega)
    rw [show k - 1 + 1 = k by omega] at this
    simpa using this

theorem it_mul (h : IsPerm p) {i : Nat} (hi : i < p.length) (t : Nat) : it p (t * per p i) i = i := by
  induction t with
  | zero => simp [it]
  | succ t ih => rw [Nat.succ_mul, it_add, (per_spec h hi).2.2.1, ih]
theorem it_mod (h : IsPerm p) {i : Nat} (hi : i < p.length) (k : Nat) : it p k i = it p (k % per p i) i := by
  have e : k % per p i + k / per p i * per p i = k := by rw [Nat.mul_comm]; exact Nat.mod_add_div k (per p i)
  rw [← it_mul h hi (k / per p i)]
  conv => lhs; rw [← e]
  rw [it_add, it_mul h hi, it_mul h hi]
theorem it_ne (h : IsPerm p) {i : Nat} (hi : i < p.length) {a b : Nat} (hab : a < b) (hb : b < per p i) : it p a i ≠ it p b i := by
  intro e
  have e2 : it p b i = it p a (it p (b - a) i) := by rw [← it_add]; congr 1; omega
  exact (per_spec h hi).2.2.2 (b - a) (by omega) (by omega) (it_inj h hi (it_lt h hi _) a (e.trans e2)).symm

/-- The way back within a cycle. -/
theorem it_symm (h : IsPerm p) {i : Nat} (hi : i < p.length) (k : Nat) : ∃ m, it p m (it p k i) = i := by
  refine ⟨k * per p i - k, ?_⟩
  have h1 := (per_spec h hi).1
  have h2 : k ≤ k * per p i := Nat.le_mul_of_pos_right k (by omega)
  rw [← it_add, show k * per p i - k + k = k * per p i by omega, it_mul h hi]

/-- The least number of a cycle. -/
def lo (p : List Int) (j : Nat) : Nat := (List.range p.length).foldr (fun k m => min (it p k j) m) j

theorem foldr_min_le (f : Nat → Nat) (l : List Nat) (z k : Nat) (hk : k ∈ l) : l.foldr (fun k m => min (f k) m) z ≤ f k := by
  induction l with
  | nil => cases hk
  | cons a t ih =>
    rw [List.foldr_cons]
    rcases List.mem_cons.1 hk with rfl | hk
    · exact Nat.min_le_left _ _
    · exact Nat.le_trans (Nat.min_le_right _ _) (ih hk)
theorem foldr_min_mem (f : Nat → Nat) (l : List Nat) (z : Nat) : l.foldr (fun k m => min (f k) m) z = z ∨ ∃ k, l.foldr (fun k m => min (f k) m) z = f k := by
  induction l with
  | nil => exact .inl rfl
  | cons a t ih =>
    rw [List.foldr_cons]
    rcases Nat.le_total (f a) (t.foldr (fun k m => min (f k) m) z) with hle | hle
    · exact .inr ⟨a, Nat.min_eq_left hle⟩
    · rw [Nat.min_eq_right hle]
      exact ih

theorem lo_mem (p : List Int) (j : Nat) : ∃ k, lo p j = it p k j := by
  rcases foldr_min_mem (fun k => it p k j) (List.range p.length) j with h | ⟨k, h⟩
  · exact ⟨0, h⟩
  · exact ⟨k, h⟩
theorem lo_le (h : IsPerm p) {j : Nat} (hj : j < p.length) (k : Nat) : lo p j ≤ it p k j := by
  rw [it_mod h hj k]
  have h1 := (per_spec h hj).1
  have h2 := (per_spec h hj).2.1
  exact foldr_min_le (fun k => it p k j) _ j _ (List.mem_range.2 (Nat.lt_of_lt_of_le (Nat.mod_lt _ (by omega)) h2))
theorem lo_lt (h : IsPerm p) {j : Nat} (hj : j < p.length) : lo p j < p.length := by
  obtain ⟨k, e⟩ := lo_mem p j
  rw [e]
  exact it_lt h hj k
theorem lo_it (h : IsPerm p) {j : Nat} (hj : j < p.length) (k : Nat) : lo p (it p k j) = lo p j := by
  apply Nat.le_antisymm
  · obtain ⟨m, e⟩ := lo_mem p j
    obtain ⟨r, er⟩ := it_symm h hj k
    rw [e]
    have := lo_le h (it_lt h hj k) (m + r)
    rwa [it_add, er] at this
  · obtain ⟨m, e⟩ := lo_mem p (it p k j)
    rw [e, ← it_add]
    exact lo_le h hj _

/-- Whose least number is s lies in the cycle of s. -/
theorem lo_eq (h : IsPerm p) {j s : Nat} (hj : j < p.length) (e : lo p j = s) : s < p.length ∧ lo p s = s ∧ ∃ k, k < per p s ∧ it p k s = j := by
  have hs : s < p.length := by rw [← e]; exact lo_lt h hj
  obtain ⟨m, em⟩ := lo_mem p j
  have hls : lo p s = s := by
    have := lo_it h hj m
    rw [← em, e] at this
    exact this
  obtain ⟨r, er⟩ := it_symm h hj m
  rw [← em, e] at er
  refine ⟨hs, hls, r % per p s, Nat.mod_lt _ (by have := (per_spec h hs).1; omega), ?_⟩
  rw [← it_mod h hs]
  exact er

/-! ### What the loops of cycleLengths keep -/

/-- The lengths of the cycles whose least number is below s, by that number. -/
def cycL (p : List Int) (s : Nat) : List Int := ((List.range s).filter (fun i => decide (lo p i = i))).map (fun i => (per p i : Int))

theorem cycL_yes {s : Nat} (h : lo p s = s) : cycL p (s + 1) = cycL p s ++ [(per p s : Int)] := by
  simp [cycL, List.range_succ, List.filter_append, h]
theorem cycL_no {s : Nat} (h : lo p s ≠ s) : cycL p (s + 1) = cycL p s := by
  simp [cycL, List.range_succ, List.filter_append, h]
theorem length_cycL_le (p : List Int) (s : Nat) : (cycL p s).length ≤ s := by
  have := List.length_filter_le (fun i => decide (lo p i = i)) (List.range s)
  simpa [cycL] using this

/-- Seen: in a cycle whose least number is below s, or among the first m steps from s. -/
def snB (p : List Int) (s m j : Nat) : Bool := decide (j < p.length) && (decide (lo p j < s) || (List.range m).any (fun k => it p k s == j))

theorem snB_true {s m j : Nat} : snB p s m j = true ↔ j < p.length ∧ (lo p j < s ∨ ∃ k, k < m ∧ it p k s = j) := by
  simp [snB]

theorem bool_ext {a b : Bool} (h : a = true ↔ b = true) : a = b := by cases a <;> cases b <;> simp_all

theorem snB_step {s m i : Nat} (hi : i < p.length) (e : it p m s = i) (j : Nat) : (if j = i then Value.bool true else Value.bool (snB p s m j)) = Value.bool (snB p s (m + 1) j) := by
  by_cases h : j = i
  · rw [if_pos h]
    have : snB p s (m + 1) j = true := snB_true.2 ⟨by omega, .inr ⟨m, by omega, by rw [e, h]⟩⟩
    rw [this]
  · rw [if_neg h]
    congr 1
    apply bool_ext
    rw [snB_true, snB_true]
    constructor
    · rintro ⟨h1, h2 | ⟨k, hk, ek⟩⟩
      · exact ⟨h1, .inl h2⟩
      · exact ⟨h1, .inr ⟨k, by omega, ek⟩⟩
    · rintro ⟨h1, h2 | ⟨k, hk, ek⟩⟩
      · exact ⟨h1, .inl h2⟩
      · refine ⟨h1, .inr ⟨k, ?_, ek⟩⟩
        rcases Nat.lt_or_ge k m with hlt | hge
        · exact hlt
        · have : k = m := by omega
          subst this
          exact absurd (ek.symm.trans e) h

theorem snB_go (h : IsPerm p) {s m : Nat} (hs : s < p.length) (hl : lo p s = s) (hm : m < per p s) : snB p s m (it p m s) = false := by
  rw [Bool.eq_false_iff]
  intro e
  rcases (snB_true.1 e).2 with h1 | ⟨k, hk, ek⟩
  · rw [lo_it h hs] at h1
    omega
  · exact it_ne h hs hk hm ek
theorem snB_stop (h : IsPerm p) {s : Nat} (hs : s < p.length) : snB p s (per p s) (it p (per p s) s) = true := by
  have h1 := per_spec h hs
  exact snB_true.2 ⟨by rw [h1.2.2.1]; exact hs, .inr ⟨0, by omega, by rw [h1.2.2.1]; rfl⟩⟩
theorem snB_end (h : IsPerm p) {s : Nat} (hs : s < p.length) (hl : lo p s = s) (j : Nat) : snB p s (per p s) j = snB p (s + 1) 0 j := by
  apply bool_ext
  rw [snB_true, snB_true]
  constructor
  · rintro ⟨h1, h2 | ⟨k, hk, rfl⟩⟩
    · exact ⟨h1, .inl (by omega)⟩
    · exact ⟨h1, .inl (by rw [lo_it h hs]; omega)⟩
  · rintro ⟨h1, h2 | ⟨k, hk, _⟩⟩
    · rcases Nat.lt_or_ge (lo p j) s with hlt | hge
      · exact ⟨h1, .inl hlt⟩
      · obtain ⟨_, _, k, hk, ek⟩ := lo_eq h h1 (show lo p j = s by omega)
        exact ⟨h1, .inr ⟨k, hk, ek⟩⟩
    · omega
theorem snB_skip (h : IsPerm p) {s : Nat} (hl : lo p s ≠ s) (j : Nat) : snB p s 0 j = snB p (s + 1) 0 j := by
  apply bool_ext
  rw [snB_true, snB_true]
  constructor
  · rintro ⟨h1, h2 | ⟨k, hk, _⟩⟩
    · exact ⟨h1, .inl (by omega)⟩
    · omega
  · rintro ⟨h1, h2 | ⟨k, hk, _⟩⟩
    · refine ⟨h1, .inl ?_⟩
      rcases Nat.lt_or_ge (lo p j) s with hlt | hge
      · exact hlt
      · exact absurd (lo_eq h h1 (show lo p j = s by omega)).2.1 hl
    · omega
theorem snB_seen (h : IsPerm p) {s : Nat} (hs : s < p.length) (hl : lo p s ≠ s) : snB p s 0 s = true :=
  snB_true.2 ⟨hs, .inl (by have := lo_le h hs 0; simp only [it] at this; omega)⟩
theorem snB_zero (j : Nat) : snB p 0 0 j = false := by
  rw [Bool.eq_false_iff]
  intro e
  rcases (snB_true.1 e).2 with h1 | ⟨k, hk, _⟩ <;> omega

end
end Go.Proofs.YtmdpfadfimodjaaDoor

/-
  perm.cycleLengths: the lengths of all cycles, by their least numbers.
-/
namespace Go.Proofs.YtmdpfadfimodjaaDoor
open Go.RowKit

theorem seen0 (w : World) (p : List Int) : (w.alloc (Obj.cells #[Value.bool false, Value.bool false, Value.bool false, Value.bool false, Value.bool false, Value.bool false,
      Value.bool false, Value.bool false, Value.bool false, Value.bool false] 53)).rowIs w.heap.size 53 10 (fun j => .bool (snB p 0 0 j)) := by
  refine World.rowIs_alloc w _ _ _ fun i hi => ?_
  simp only [snB_zero]
  match i, hi with
  | 0, _ | 1, _ | 2, _ | 3, _ | 4, _ | 5, _ | 6, _ | 7, _ | 8, _ | 9, _ => rfl

theorem rowIs_below {w w' : World} {B b t n : Nat} {f : Nat → Value} (h : w.rowIs b t n f) (hb : Below B w w') (hlt : b < B) : w'.rowIs b t n f := h.of_block (hb.block b hlt)

set_option maxHeartbeats 1600000 in
theorem cycleLengths_any (A : Option Addr) (n c : Nat) (p : List Int) (w : World) (h : Ints w A n p) (hp : IsPerm p) (hn : n ≤ 10) :
    Calls Tryd.prog 31 #[.slice A n c] w (RetOwn w (cycL p n)) := by
  have HP := hid hp
  have HL := hid h.len
  clear hp
  go_enter Tryd.func31, Tryd.ntmps31
  go_wp2
  go_loopg [3, 10] n (fun g v s wr => ∃ k : Nat, k ≤ n ∧ n - k ≤ g ∧ s = .int .i64 k ∧ OwnInts wr (w.heap.size + 1) v (cycL p k) ∧ wr.rowIs w.heap.size 53 10 (fun j => .bool (snB p k 0 j)) ∧ Below w.heap.size w wr ∧ w.heap.size < wr.heap.size)
  case atStart => exact ⟨0, Nat.zero_le _, by omega, rfl, OwnInts.nil _ _, seen0 w p, (Below.refl _ _).alloc (Nat.le_refl _) _, by simp⟩
  case round =>
    obtain ⟨k, hk, hg, rfl, hown, hrow, hbel, hsz⟩ := hrel
    have HO := hid hown
    have HR := hid hrow
    have HB := hid hbel
    clear hown hrow hbel
    by_cases hlt : k < n
    · obtain ⟨b, o, rfl, hb, hc⟩ := h.row (by omega)
      have HC := hid hc
      clear hc h
      by_cases hl : lo p k = k
      · have HLO := hid hl
        clear hl
        have HPS := hid (per_spec HP.out (show k < p.length by rw [HL.out]; exact hlt))
        go_wp2
        go_loopg [6, 7] (per p k) (fun g u v wq => ∃ m : Nat, m ≤ per p k ∧ per p k - m ≤ g ∧ u = .int .i64 m ∧ v = .int .i64 (it p m k) ∧ OwnInts wq (w.heap.size + 1) u3 (cycL p k) ∧ wq.rowIs w.heap.size 53 10 (fun j => .bool (snB p k m j)) ∧ Below w.heap.size w wq ∧ w.heap.size < wq.heap.size)
        case atStart => exact ⟨0, Nat.zero_le _, by omega, rfl, rfl, HO.out, HR.out, HB.out, hsz⟩
        case round =>
          obtain ⟨m, hm, hgm, rfl, rfl, hownq, hrowq, hbelq, hszq⟩ := hrel
          have HOq := hid hownq
          have HRq := hid hrowq
          have HBq := hid hbelq
          clear hownq hrowq hbelq HO HR HB
          have hkl : k < p.length := by rw [HL.out]; exact hlt
          have hi := it_lt HP.out hkl m
          have hpn := HPS.out.2.1
          have hp1 := HPS.out.1
          rw [HL.out] at hi hpn
          have hrd : p.getD (it p m k) 0 = ((it p (m + 1) k : Nat) : Int) := by
            have := HP.out.range (getD_mem (show it p m k < p.length by rw [HL.out]; exact hi))
            show _ = ((nx p (it p m k) : Nat) : Int)
            unfold nx
            omega
          have g1 : wr.cell? ⟨b, o + it p m k, none⟩ = some (.int .i64 ((it p (m + 1) k : Nat) : Int)) := by
            rw [← hrd]
            exact (HBq.out.cell (p := ⟨b, o + it p m k, none⟩) hb).trans (HC.out _ hi)
          have g2 : wr.cell? ⟨w.heap.size, it p m k, none⟩ = some (.bool (snB p k m (it p m k))) := HRq.out.cell (by omega)
          have g3 : wr.frozen? ⟨w.heap.size, it p m k, none⟩ = false := HRq.out.frozen _
          clear hrd
          by_cases hmp : m < per p k
          · rw [snB_go HP.out hkl HLO.out hmp] at g2
            go_wp2
            go_roundg (per p k - (m + 1))
            case measure => omega
            case rel =>
              exact ⟨m + 1, by omega, by omega, by go_num, rfl, ownsRow_setCell_below HOq.out (by exact Nat.lt_succ_self _) _,
                (HRq.out.set (it p m k) (.bool true)).congr (fun j _ => snB_step (by rw [HL.out]; exact hi) rfl j), HBq.out.setCell (Nat.le_refl _) _, by simpa [World.setCell] using hszq⟩
          · have hme : m = per p k := by omega
            subst hme
            rw [snB_stop HP.out hkl] at g2
            have hpos : decide (0 < ((per p k : Nat) : Int)) = true := by simp; omega
            have hpos' : (0 : Int) < ((per p k : Nat) : Int) := by omega
            have HLC : Hid ((cycL p k).length ≤ 10) := Nat.le_trans (length_cycL_le p k) (by omega)
            go_wp2_with (at_builtin; refine wpList_app1 _ rfl (.tmp 28) (.tmp 30) rfl (w.heap.size + 1) _ (cycL p k) (per p k : Nat) rfl rfl HOq.out (Nat.le_trans HLC.out (by omega)) hszq ?_)
            intro v' w1 hown1 hgrow1 hbel1
            have HO1 := hid hown1
            have HB1 := hid hbel1
            clear hown1 hbel1 hgrow1
            go_wp2
            go_roundg (n - (k + 1))
            case measure => omega
            case rel =>
              exact ⟨k + 1, by omega, by omega, by go_num, by rw [cycL_yes HLO.out]; exact HO1.out,
                (rowIs_below HRq.out HB1.out (Nat.lt_succ_self _)).congr (fun j _ => by rw [snB_end HP.out hkl HLO.out]), HBq.out.trans (HB1.out.mono (Nat.le_succ _)), Nat.lt_of_lt_of_le hszq HB1.out.size⟩
      · have hkl : k < p.length := by rw [HL.out]; exact hlt
        have g2 : wr.cell? ⟨w.heap.size, k, none⟩ = some (.bool (snB p k 0 k)) := HR.out.cell (by omega)
        rw [snB_seen HP.out hkl hl] at g2
        have HLO := hid hl
        clear hl
        go_wp2
        go_loopg [6, 7] 0 (fun g u v wq => u = .int .i64 0 ∧ v = .int .i64 k ∧ wr = wq)
        case atStart => exact ⟨rfl, rfl, rfl⟩
        case round =>
          obtain ⟨rfl, rfl, rfl⟩ := hrel
          go_wp2
          go_roundg (n - (k + 1))
          case measure => omega
          case rel => exact ⟨k + 1, by omega, by omega, by go_num, by rw [cycL_no HLO.out]; exact HO.out, HR.out.congr (fun j _ => by rw [snB_skip HP.out HLO.out]), HB.out, hsz⟩
    · have hkn : k = n := by omega
      subst hkn
      go_wp2
      go_ret
      exact ⟨_, rfl, HO.out.mono (Nat.le_succ _), HB.out⟩

end Go.Proofs.YtmdpfadfimodjaaDoor

/-
  perm.greatestCommonDivisor, perm.leastCommonMultiple, perm.Order.
-/
namespace Go.Proofs.YtmdpfadfimodjaaDoor
open Go.RowKit

set_option maxHeartbeats 400000 in
theorem gcd_any (a b : Nat) (w : World) (ha : a ≤ 1000000000000) (hb : b ≤ 1000000000000) :
    Calls Tryd.prog 57 #[.int .i64 a, .int .i64 b] w fun e w' => e = .returned (.int .i64 (Nat.gcd a b : Nat)) ∧ ∃ q, w' = w.drewN q := by
  have HG : Hid (Nat.gcd a b = Nat.gcd a b) := rfl
  go_enter Tryd.func57, Tryd.ntmps57
  go_wp2
  go_loopg [0, 1] b (fun g u v wr => ∃ x y q : Nat, x ≤ 1000000000000 ∧ y ≤ 1000000000000 ∧ y ≤ g ∧ u = .int .i64 x ∧ v = .int .i64 y ∧ wr = w.drewN q ∧ Nat.gcd x y = Nat.gcd a b)
  case atStart => exact ⟨a, b, 0, ha, hb, Nat.le_refl _, rfl, rfl, rfl, rfl⟩
  case round =>
    obtain ⟨x, y, q, hx, hy, hg, rfl, rfl, hq, he⟩ := hrel
    have HQ := hid hq
    have HE := hid he
    clear hq he HG
    by_cases h0 : y = 0
    · subst h0
      go_wp2
      go_ret
      exact ⟨by rw [← HE.out, Nat.gcd_zero_right]; rfl, q, HQ.out⟩
    · have hpos : 0 < y := by omega
      have hne : ((y : Int) != 0) = true := by simp; omega
      have hne2 : ((y : Int) == 0) = false := by simp; omega
      have hmod := Nat.mod_lt x hpos
      have hcast : (x : Int) % (y : Int) = ((x % y : Nat) : Int) := by omega
      have hw : IntKind.i64.wrap ((x : Int).tmod (y : Int)) = ((x % y : Nat) : Int) := by
        rw [Int.tmod_eq_emod_of_nonneg (by omega), hcast]
        exact IntWalk.i64_in _ (by omega)
      have HC := hid hcast
      clear hcast
      go_wp2_with fail
      go_region
      go_wp2
      go_roundg (x % y)
      case measure => omega
      case rel => exact ⟨y, x % y, q + 1, by omega, by omega, Nat.le_refl _, rfl, by first | rfl | (rw [HC.out]), by rw [HQ.out]; rfl, by rw [← HE.out, Nat.gcd_comm, ← Nat.gcd_rec, Nat.gcd_comm]⟩

theorem lcm_div (a b : Nat) : a / Nat.gcd a b * b = Nat.lcm a b := by
  rw [Nat.lcm]
  exact Nat.div_mul_right_comm (Nat.gcd_dvd_left a b) b

set_option maxHeartbeats 400000 in
theorem lcm_any (a b : Nat) (w : World) (ha : 1 ≤ a) (hb : 1 ≤ b) (ha2 : a ≤ 1000000000000) (hb2 : b ≤ 1000000) :
    Calls Tryd.prog 47 #[.int .i64 a, .int .i64 b] w fun e w' => e = .returned (.int .i64 (Nat.lcm a b : Nat)) ∧ ∃ q, w' = w.drewN q := by
  have hg1 : 1 ≤ Nat.gcd a b := Nat.gcd_pos_of_pos_left b ha
  have hle : a / Nat.gcd a b ≤ a := Nat.div_le_self _ _
  have hprod : a / Nat.gcd a b * b ≤ 1000000000000 * 1000000 := Nat.mul_le_mul (Nat.le_trans hle ha2) hb2
  have HLC := hid (lcm_div a b)
  have HQ : Hid ((a : Int) / ((Nat.gcd a b : Nat) : Int) = ((a / Nat.gcd a b : Nat) : Int)) := (Int.natCast_ediv _ _).symm
  go_enter Tryd.func47, Tryd.ntmps47
  go_wp2_with fail
  refine (gcd_any a b _ ha2 (by omega)).mono ?_
  rintro e w' ⟨rfl, q, rfl⟩
  have hq := HQ.out
  generalize hQ : a / Nat.gcd a b = Q at hle hprod hq HLC
  generalize Nat.gcd a b = G at hg1 hq ⊢
  have hp2 : (Q : Int) * (b : Int) ≤ 1000000000000000000 := by
    have : ((Q * b : Nat) : Int) ≤ 1000000000000000000 := by omega
    simpa using this
  have hp0 : 0 ≤ (Q : Int) * (b : Int) := Int.mul_nonneg (by omega) (by omega)
  have hG : (1 : Int) ≤ (G : Int) := by omega
  clear hprod hQ HQ
  go_wp2
  go_ret
  refine ⟨?_, q, rfl⟩
  rw [← HLC.out, Int.natCast_mul]
  rfl

/-- The least common multiple of all of them. -/
def ordL (l : List Int) : Nat := l.foldl (fun a x => Nat.lcm a x.toNat) 1

def RetOrder (w : World) (r : Int) (er : Int) (e : Ending) (w' : World) : Prop := e = .returned (.tuple #[.int .i64 r, .int .i64 er]) ∧ Below w.heap.size w w'

theorem ordL_snoc (l : List Int) (x : Int) : ordL (l ++ [x]) = Nat.lcm (ordL l) x.toNat := by simp [ordL, List.foldl_append]
theorem ordL_take_bound {l : List Int} (hl : ∀ x, x ∈ l → 1 ≤ x ∧ x ≤ 10) : ∀ k, k ≤ l.length → 1 ≤ ordL (l.take k) ∧ ordL (l.take k) ≤ 10 ^ k
  | 0, _ => by simp [ordL]
  | k + 1, hk => by
    have ih := ordL_take_bound hl k (by omega)
    have hx := hl _ (getD_mem (show k < l.length by omega))
    rw [take_snoc (by omega), ordL_snoc]
    refine ⟨Nat.lcm_pos (by omega) (by omega), ?_⟩
    refine Nat.le_trans (Nat.div_le_self _ _) ?_
    rw [Nat.pow_succ]
    exact Nat.mul_le_mul ih.2 (by omega)
theorem mem_cycL {p : List Int} (hp : IsPerm p) {x : Int} (hx : x ∈ cycL p p.length) : 1 ≤ x ∧ x ≤ p.length := by
  obtain ⟨i, hi, rfl⟩ := List.mem_map.1 hx
  have h := per_spec hp (List.mem_range.1 (List.mem_filter.1 hi).1)
  omega

set_option maxHeartbeats 800000 in
theorem order_ok (A : Option Addr) (n c : Nat) (p : List Int) (w : World) (hA : Ints w A n p) (hp : permErr p = 0) :
    Calls Tryd.prog 26 #[.slice A n c] w (RetOrder w (ordL (cycL p n) : Nat) 0) := by
  have hn10 : n ≤ 10 := by rw [← hA.len]; exact (permErr_ok.1 hp).1
  have HP := hid (permErr_ok.1 hp).2
  go_enter Tryd.func26, Tryd.ntmps26
  go_wp2_with fail
  refine (check_any A n c p _ hA (by omega)).mono ?_
  rintro e w1 ⟨rfl, hb1⟩
  have hA1 := hA.keep hb1
  have HB1 := hid hb1
  have HL := hid hA.len
  clear hA hb1
  go_wp2_with fail
  refine (cycleLengths_any A n c p _ hA1 HP.out hn10).mono ?_
  rintro e w2 ⟨v, rfl, hown, hb2⟩
  have HB2 := hid (HB1.out.trans (hb2.mono HB1.out.size))
  obtain ⟨A2, c2, rfl, hI, _⟩ := hown.ints
  have hl10 := Nat.le_trans (length_cycL_le p n) hn10
  have HM : Hid (∀ x, x ∈ cycL p n → 1 ≤ x ∧ x ≤ 10) := fun x hx => by
    rw [← HL.out] at hx
    have := mem_cycL HP.out hx
    rw [HL.out] at this
    omega
  have HI := hid hI
  clear hA1 hb2 hown HB1 hI
  generalize hl0 : cycL p n = l at HI HM hl10 ⊢
  have HL0 := hid hl0
  clear hl0
  generalize hm : l.length = m at HI hl10 ⊢
  have HLM := hid hm
  clear hm
  go_wp2_with fail
  go_loopg [5, 16] m (fun g u s wr => ∃ k q : Nat, k ≤ m ∧ m - k ≤ g ∧ s = .int .i64 k ∧ u = .int .i64 (ordL (l.take k) : Nat) ∧ wr = w2.drewN q)
  case atStart => exact ⟨0, 0, Nat.zero_le _, by omega, rfl, rfl, rfl⟩
  case round =>
    obtain ⟨k, q, hk, hg, rfl, rfl, hq⟩ := hrel
    have HQ := hid hq
    clear hq
    have hbd := ordL_take_bound HM.out k (by rw [HLM.out]; exact hk)
    have hpow : 10 ^ k ≤ 10 ^ 10 := Nat.pow_le_pow_right (by omega) (by omega)
    have hob : ordL (l.take k) ≤ 10000000000 := Nat.le_trans hbd.2 hpow
    have ho1 := hbd.1
    clear hbd hpow
    by_cases hlt : k < m
    · obtain ⟨b, o, rfl, hb, hc⟩ := HI.out.row (by omega)
      have g1 : wr.cell? ⟨b, o + k, none⟩ = some (.int .i64 (l.getD k 0)) := by rw [HQ.out]; exact hc k hlt
      have hr := HM.out _ (getD_mem (show k < l.length by rw [HLM.out]; exact hlt))
      have HS : Hid (ordL (l.take (k + 1)) = Nat.lcm (ordL (l.take k)) (l.getD k 0).toNat) := by rw [take_snoc (by rw [HLM.out]; exact hlt), ordL_snoc]; exact rfl
      clear hc
      generalize l.getD k 0 = x at g1 hr HS
      obtain ⟨y, rfl⟩ := Int.eq_ofNat_of_zero_le (show 0 ≤ x by omega)
      rw [Int.toNat_natCast] at HS
      generalize ordL (l.take k) = z at HS hob ho1 ⊢
      go_wp2_with fail
      refine (lcm_any z y _ ho1 (by omega) (by omega) (by omega)).mono ?_
      rintro e w' ⟨rfl, q2, rfl⟩
      go_wp2
      go_roundg (m - (k + 1))
      case measure => omega
      case rel => exact ⟨k + 1, q + q2, by omega, by omega, by go_num, by rw [HS.out], by rw [HQ.out, World.drewN_drewN]⟩
    · have hkm : k = m := by omega
      subst hkm
      have HT : Hid (l.take k = l) := List.take_of_length_le (by rw [HLM.out]; exact Nat.le_refl _)
      rw [HT.out]
      go_wp2
      go_ret2
      exact ⟨by rw [HL0.out]; rfl, by rw [HQ.out]; exact below_drewN HB2.out q⟩

end Go.Proofs.YtmdpfadfimodjaaDoor

/-
  castkeep.perms: the closed look at three numbers, turned.
-/
namespace Go.Proofs.YtmdpfadfimodjaaDoor
open Go.RowKit

set_option maxHeartbeats 1000000 in
theorem perms_any (w : World) : Calls Tryd.prog 4 #[] w fun e w' => e = .returned (.bool true) ∧ Below w.heap.size w w' := by
  go_enter Tryd.func4, Tryd.ntmps4
  go_wp2_with fail
  refine (order_ok _ 3 3 [1, 2, 0] _ (ints_lit w _ _ 3 [1, 2, 0] rfl rfl) (by decide)).mono ?_
  rintro e w1 ⟨rfl, hb1⟩
  have HB1 := hid (below_step (below_alloc w _) (Nat.le_refl _) hb1)
  clear hb1
  rw [show ordL (cycL [1, 2, 0] 3) = 3 by decide +kernel]
  go_wp2_with fail
  have hX := (ints_lit w1 #[.int .i64 1, .int .i64 2, .int .i64 0] 3 3 [1, 2, 0] rfl rfl).keep (below_alloc _ (.cells #[.int .i64 1, .int .i64 0, .int .i64 2] 3))
  have hY := ints_lit (w1.alloc (.cells #[.int .i64 1, .int .i64 2, .int .i64 0] 3)) #[.int .i64 1, .int .i64 0, .int .i64 2] 3 3 [1, 0, 2] rfl rfl
  rw [show (w1.alloc (.cells #[.int .i64 1, .int .i64 2, .int .i64 0] 3)).heap.size = w1.heap.size + 1 by simp] at hY
  have HX := hid hX
  have HY := hid hY
  clear hX hY
  refine (times_ok _ 3 3 _ 3 [1, 2, 0] [1, 0, 2] _ HX.out HY.out (by decide) (by decide)).mono ?_
  rintro e w2 ⟨A2, n2, c2, rfl, hb2, hI2, _⟩
  have HB2 := hid (below_step (HB1.out.trans ((below_step (below_alloc w1 _) (Nat.le_refl _) (below_alloc _ _)).mono HB1.out.size)) (Nat.le_refl _) hb2)
  have HI2 := hid hI2
  have hn2 : 3 = n2 := hI2.len
  subst hn2
  clear hb2 hI2 HX HY HB1
  go_wp2_with fail
  refine (good_any _ 2 2 [0, 0] _ (ints_lit w2 _ _ 2 [0, 0] rfl rfl) (by omega)).mono ?_
  rintro e w3 ⟨rfl, rfl⟩
  rw [show allOK [0, 0] = true by decide]
  go_wp2_with fail
  have hX := HI2.out.keep (below_step (below_alloc w2 (.cells #[.int .i64 0, .int .i64 0] 25)) (Nat.le_refl _) (below_alloc _ (.cells #[.int .i64 2, .int .i64 1, .int .i64 0] 3)))
  have hY := ints_lit (w2.alloc (.cells #[.int .i64 0, .int .i64 0] 25)) #[.int .i64 2, .int .i64 1, .int .i64 0] 3 3 [2, 1, 0] rfl rfl
  rw [show (w2.alloc (.cells #[.int .i64 0, .int .i64 0] 25)).heap.size = w2.heap.size + 1 by simp] at hY
  have HX := hid hX
  have HY := hid hY
  clear hX hY
  refine (equal_any A2 3 c2 _ 3 3 _ [2, 1, 0] _ HX.out HY.out (by omega) (by omega)).mono ?_
  rintro e w3 ⟨rfl, q, rfl⟩
  rw [show decide (times [1, 2, 0] [1, 0, 2] = [2, 1, 0]) = true by decide]
  go_wp2
  go_ret
  exact ⟨rfl, below_drewN (HB2.out.trans ((below_step (below_alloc w2 _) (Nat.le_refl _) (below_alloc _ _)).mono HB2.out.size)) q⟩

end Go.Proofs.YtmdpfadfimodjaaDoor

/-
  Several slices known at once; what a law over permutations takes and gives.
-/
namespace Go.Proofs.YtmdpfadfimodjaaDoor
open Go.RowKit

theorem permErr_of {p : List Int} (h : IsPerm p) (hl : p.length ≤ 10) : permErr p = 0 := permErr_ok.2 ⟨hl, h⟩

/-- A permutation of m numbers comes back, in new memory. -/
def RetPerm (w : World) (m : Nat) (e : Ending) (w' : World) : Prop := ∃ A c p, e = .returned (.slice A m c) ∧ IsPerm p ∧ Ints w' A m p ∧ Cap m c ∧ Below w.heap.size w w'

/-- A list of n numbers comes back with OK. -/
def RetP (w : World) (n : Nat) (ys : List Int) (e : Ending) (w' : World) : Prop := ∃ A c, e = .returned (.tuple #[.slice A n c, .int .i64 0]) ∧ Ints w' A n ys ∧ Cap n c ∧ Below w.heap.size w w'

theorem times_perm (A : Option Addr) (n c : Nat) (B : Option Addr) (d : Nat) (a b : List Int) (w : World) (hA : Ints w A n a) (hB : Ints w B n b) (ha : IsPerm a) (hb : IsPerm b) (hn : n ≤ 10) :
    Calls Tryd.prog 8 #[.slice A n c, .slice B n d] w (RetP w n (times a b)) := by
  refine (times_ok A n c B d a b w hA hB (permErr_of ha (by rw [hA.len]; exact hn)) (permErr_of hb (by rw [hB.len]; exact hn))).mono ?_
  rintro e w' ⟨A', n', c', rfl, hbel, hI, hcap⟩
  have : n' = n := by rw [← hI.len, length_times, hB.len]
  subst this
  exact ⟨A', c', rfl, hI, hcap, hbel⟩

def RetPInv (w : World) (n : Nat) (p : List Int) (e : Ending) (w' : World) : Prop := ∃ q, IsInv p q ∧ RetP w n q e w'

theorem inverse_perm (A : Option Addr) (n c : Nat) (p : List Int) (w : World) (hA : Ints w A n p) (hp : IsPerm p) (hn : n ≤ 10) :
    Calls Tryd.prog 10 #[.slice A n c] w (RetPInv w n p) := by
  refine (inverse_ok A n c p w hA (permErr_of hp (by rw [hA.len]; exact hn))).mono ?_
  rintro e w' ⟨q, hq, A', n', c', rfl, hbel, hI, hcap⟩
  have : n' = n := by rw [← hI.len, hq.1, hA.len]
  subst this
  exact ⟨q, hq, A', c', rfl, hI, hcap, hbel⟩

/-! The same contracts, the world told by 'Below' alone. -/
end Go.Proofs.YtmdpfadfimodjaaDoor

/-
  perm.Sign: the parity of the inversions.
-/
namespace Go.Proofs.YtmdpfadfimodjaaDoor
open Go.RowKit

theorem take_drop_snoc {p : List Int} {a m : Nat} (h : a + m < p.length) : (p.drop a).take (m + 1) = (p.drop a).take m ++ [p.getD (a + m) 0] := by
  rw [take_snoc (by rw [List.length_drop]; omega)]
  congr 1
  simp [List.getD_eq_getElem?_getD]

/-- The pairs counted after m rounds of the inner loop. -/
def cntUpto (p : List Int) (k m : Nat) : Nat := invUpto p k + ((p.drop (k + 1)).take m).countP (fun y => decide (y < p.getD k 0))
theorem cntUpto_yes {p : List Int} {k m : Nat} (h : k + 1 + m < p.length) (hlt : p.getD (k + 1 + m) 0 < p.getD k 0) : sg (cntUpto p k (m + 1)) = - sg (cntUpto p k m) := by
  unfold cntUpto
  rw [take_drop_snoc h, List.countP_append, ← Nat.add_assoc]
  simp only [List.countP_cons, List.countP_nil, hlt, decide_true, if_true, Nat.zero_add]
  exact sg_succ _
theorem cntUpto_no {p : List Int} {k m : Nat} (h : k + 1 + m < p.length) (hlt : ¬ p.getD (k + 1 + m) 0 < p.getD k 0) : cntUpto p k (m + 1) = cntUpto p k m := by
  unfold cntUpto
  rw [take_drop_snoc h, List.countP_append]
  simp only [List.countP_cons, List.countP_nil, hlt, decide_false, Nat.zero_add]
  simp
theorem cntUpto_end {p : List Int} {k m : Nat} (h : k + 1 + m = p.length) : cntUpto p k m = invUpto p (k + 1) := by
  unfold cntUpto
  rw [List.take_of_length_le (by rw [List.length_drop]; omega)]
  rfl

end Go.Proofs.YtmdpfadfimodjaaDoor

/-
  The sign behind a change of two places.
-/
namespace Go.Proofs.YtmdpfadfimodjaaDoor
open Go.RowKit

theorem swapAt_split (u m v : List Int) (x y : Int) : swapAt (u ++ x :: (m ++ y :: v)) u.length (u.length + 1 + m.length) = u ++ y :: (m ++ x :: v) := by
  have h1 : (u ++ x :: (m ++ y :: v)).getD u.length 0 = x := by simp [List.getD_eq_getElem?_getD]
  have h2 : (u ++ x :: (m ++ y :: v)).getD (u.length + 1 + m.length) 0 = y := by
    rw [List.getD_eq_getElem?_getD, List.getElem?_append_right (by omega), show u.length + 1 + m.length - u.length = m.length + 1 by omega]
    simp
  unfold swapAt
  rw [h1, h2, List.set_append_right _ _ (Nat.le_refl _), Nat.sub_self, List.set_cons_zero, List.set_append_right _ _ (by omega), show u.length + 1 + m.length - u.length = m.length + 1 by omega, List.set_cons_succ,
    List.set_append_right _ _ (Nat.le_refl _), Nat.sub_self, List.set_cons_zero]

theorem split_at {l : List Int} {i k : Nat} (hik : i < k) (hk : k < l.length) : l = l.take i ++ l.getD i 0 :: ((l.drop (i + 1)).take (k - i - 1) ++ l.getD k 0 :: l.drop (k + 1)) := by
  have h1 : l.drop (i + 1) = (l.drop (i + 1)).take (k - i - 1) ++ (l.drop (i + 1)).drop (k - i - 1) := (List.take_append_drop _ _).symm
  rw [List.drop_drop, show i + 1 + (k - i - 1) = k by omega, drop_cons hk] at h1
  rw [← h1, ← drop_cons (by omega)]
  exact (List.take_append_drop _ _).symm

theorem swapAt_comm {l : List Int} {i k : Nat} (hi : i < l.length) (hk : k < l.length) : swapAt l i k = swapAt l k i := by
  apply ext_getD (by rw [length_swapAt, length_swapAt])
  intro j _
  rw [getD_swapAt hi hk, getD_swapAt hk hi]
  by_cases h1 : j = k
  · by_cases h2 : j = i
    · rw [if_pos h1, if_pos h2, ← h1, ← h2]
    · rw [if_pos h1, if_neg h2, if_pos h1]
  · by_cases h2 : j = i
    · rw [if_neg h1, if_pos h2, if_pos h2]
    · rw [if_neg h1, if_neg h2, if_neg h2, if_neg h1]
theorem swapAt_self {l : List Int} {i : Nat} (hi : i < l.length) : swapAt l i i = l := by
  apply ext_getD (by rw [length_swapAt])
  intro j _
  rw [getD_swapAt hi hi]
  by_cases h1 : j = i
  · rw [if_pos h1, h1]
  · rw [if_neg h1, if_neg h1]

theorem sgn_swapAt_lt {l : List Int} {i k : Nat} (hn : l.Nodup) (hik : i < k) (hk : k < l.length) : sgn (swapAt l i k) = - sgn l := by
  have hs := split_at hik hk
  have hlu : (l.take i).length = i := by rw [List.length_take]; omega
  have hlm : ((l.drop (i + 1)).take (k - i - 1)).length = k - i - 1 := by rw [List.length_take, List.length_drop]; omega
  generalize l.take i = u at hs hlu
  generalize (l.drop (i + 1)).take (k - i - 1) = m at hs hlm
  generalize l.getD i 0 = x at hs
  generalize l.getD k 0 = y at hs
  generalize l.drop (k + 1) = v at hs
  subst hs
  have e : swapAt (u ++ x :: (m ++ y :: v)) i k = u ++ y :: (m ++ x :: v) := by
    have := swapAt_split u m v x y
    rwa [hlu, hlm, show i + 1 + (k - i - 1) = k by omega] at this
  rw [e]
  have h1 := (List.nodup_append.1 hn).2.1
  have h2 := List.nodup_cons.1 h1
  have h3 := List.nodup_append.1 h2.2
  refine sgn_exchange u m v x y (fun e => ?_) (fun e => ?_) (fun e => ?_)
  · exact h2.1 (by simp [e])
  · exact h2.1 (by simp [e])
  · exact h3.2.2 y e y (by simp) rfl
theorem sgn_swapAt {l : List Int} {i k : Nat} (hn : l.Nodup) (hi : i < l.length) (hk : k < l.length) (hne : i ≠ k) : sgn (swapAt l i k) = - sgn l := by
  rcases Nat.lt_or_gt_of_ne hne with h | h
  · exact sgn_swapAt_lt hn h hk
  · rw [swapAt_comm hi hk]
    exact sgn_swapAt_lt hn h hi

theorem sgn_short {l : List Int} (h : l.length < 2) : sgn l = 1 := by
  match l, h with
  | [], _ => rfl
  | [x], _ => rfl

end Go.Proofs.YtmdpfadfimodjaaDoor

/-
  Plain facts on insertion into a sorted list, by changes of neighbours.
-/
namespace Go.Proofs.YtmdpfadfimodjaaDoor

/-- The first i numbers stand in order. -/
def SortedTo (r : Int → Int → Prop) (zs : List Int) (i : Nat) : Prop := ∀ u v, u < v → v < i → r (zs.getD u 0) (zs.getD v 0)
/-- All up to place i stand in order, but for who stands at j: he may have to go further ahead. -/
def InsInv (r : Int → Int → Prop) (zs : List Int) (i j : Nat) : Prop := ∀ u v, u < v → v ≤ i → v ≠ j → r (zs.getD u 0) (zs.getD v 0)

theorem ins_start {r : Int → Int → Prop} {zs : List Int} {i : Nat} (h : SortedTo r zs i) : InsInv r zs i i := fun u v huv hv hne => h u v huv (by omega)

theorem ins_step {r : Int → Int → Prop} {zs : List Int} {i j : Nat} (h : InsInv r zs i (j + 1)) (hj : j + 1 ≤ i) (hi : i < zs.length) (hr : r (zs.getD (j + 1) 0) (zs.getD j 0)) : InsInv r (swapAt zs (j + 1) j) i j := by
  intro u v huv hv hne
  rw [getD_swapAt (by omega) (by omega), getD_swapAt (by omega) (by omega), if_neg hne]
  by_cases h1 : v = j + 1
  · subst h1
    rw [if_pos rfl]
    by_cases h2 : u = j
    · rw [if_pos h2]
      exact hr
    · rw [if_neg h2, if_neg (by omega)]
      exact h u j (by omega) (by omega) (by omega)
  · rw [if_neg h1]
    by_cases h2 : u = j
    · rw [if_pos h2]
      exact h (j + 1) v (by omega) hv h1
    · rw [if_neg h2]
      by_cases h3 : u = j + 1
      · rw [if_pos h3]
        exact h j v (by omega) hv h1
      · rw [if_neg h3]
        exact h u v huv hv h1

theorem ins_zero {r : Int → Int → Prop} {zs : List Int} {i : Nat} (h : InsInv r zs i 0) : SortedTo r zs (i + 1) := fun u v huv hv => h u v huv (by omega) (by omega)
theorem ins_done {r : Int → Int → Prop} (ht : ∀ a b c, r a b → r b c → r a c) {zs : List Int} {i j : Nat} (h : InsInv r zs i (j + 1)) (hr : r (zs.getD j 0) (zs.getD (j + 1) 0)) : SortedTo r zs (i + 1) := by
  intro u v huv hv
  by_cases h1 : v = j + 1
  · subst h1
    by_cases h2 : u = j
    · rw [h2]
      exact hr
    · exact ht _ _ _ (h u j (by omega) (by omega) (by omega)) hr
  · exact h u v huv (by omega) h1

theorem perm_swapAt_lt {l : List Int} {i k : Nat} (hik : i < k) (hk : k < l.length) : (swapAt l i k).Perm l := by
  have hs := split_at hik hk
  have hlu : (l.take i).length = i := by rw [List.length_take]; omega
  have hlm : ((l.drop (i + 1)).take (k - i - 1)).length = k - i - 1 := by rw [List.length_take, List.length_drop]; omega
  generalize l.take i = u at hs hlu
  generalize (l.drop (i + 1)).take (k - i - 1) = m at hs hlm
  generalize l.getD i 0 = x at hs
  generalize l.getD k 0 = y at hs
  generalize l.drop (k + 1) = v at hs
  subst hs
  have e : swapAt (u ++ x :: (m ++ y :: v)) i k = u ++ y :: (m ++ x :: v) := by
    have := swapAt_split u m v x y
    rwa [hlu, hlm, show i + 1 + (k - i - 1) = k by omega] at this
  rw [e]
  exact ((List.perm_middle (a := x) (l₁ := y :: m) (l₂ := v)).trans (List.Perm.cons x (List.perm_middle (a := y) (l₁ := m) (l₂ := v)).symm)).append_left u
theorem perm_swapAt {l : List Int} {i k : Nat} (hi : i < l.length) (hk : k < l.length) : (swapAt l i k).Perm l := by
  rcases Nat.lt_trichotomy i k with h | h | h
  · exact perm_swapAt_lt h hk
  · subst h
    rw [swapAt_self hi]
  · rw [swapAt_comm hi hk]
    exact perm_swapAt_lt h hi

/-- Two lists of the same numbers, both in order, are one. -/
theorem sorted_unique {r : Int → Int → Prop} (ha : ∀ a b, r a b → r b a → a = b) : ∀ {l l' : List Int}, l.Pairwise r → l'.Pairwise r → l.Perm l' → l = l'
  | [], l', _, _, h => by simpa using h.symm
  | x :: t, l', h1, h2, h => by
    have hx : x ∈ l' := h.mem_iff.1 (by simp)
    match l', h2, h, hx with
    | y :: t', h2, h, hx =>
      have p1 := List.pairwise_cons.1 h1
      have p2 := List.pairwise_cons.1 h2
      have hxy : x = y := by
        rcases List.mem_cons.1 hx with e | e
        · exact e
        · have hy : y ∈ x :: t := h.mem_iff.2 (by simp)
          rcases List.mem_cons.1 hy with e' | e'
          · exact e'.symm
          · exact ha _ _ (p1.1 y e') (p2.1 x e)
      subst hxy
      rw [sorted_unique ha p1.2 p2.2 ((List.perm_cons x).1 h)]

theorem pairwise_of_sortedTo {r : Int → Int → Prop} {zs : List Int} (h : SortedTo r zs zs.length) : zs.Pairwise r := by
  rw [List.pairwise_iff_getElem]
  intro i j hi hj hij
  have := h i j hij hj
  simpa [List.getD_eq_getElem?_getD, List.getElem?_eq_getElem hi, List.getElem?_eq_getElem hj] using this

end Go.Proofs.YtmdpfadfimodjaaDoor

/-
  slices.SortFunc at []int with perm.Cycles's comparison, up to twelve numbers: in falling order.
-/
namespace Go.Proofs.YtmdpfadfimodjaaDoor
open Go.RowKit

set_option maxHeartbeats 400000 in
theorem cycles1_any (x y : Int) (w : World) : Calls Tryd.prog 33 #[.int .i64 x, .int .i64 y] w fun e w' => e = .returned (.int .i64 (cmpI y x)) ∧ w = w' := by
  go_enter Tryd.func33, Tryd.ntmps33
  go_wp2_with fail
  refine (compare_any y x _).mono ?_
  rintro e w' ⟨rfl, rfl⟩
  go_wp2
  go_ret
  exact ⟨rfl, rfl⟩

/-- The slice's numbers have been put in order; nothing else that was there has turned. -/
def RetSort (r : Int → Int → Prop) (w : World) (base g n cap : Nat) (xs : List Int) (e : Ending) (w' : World) : Prop :=
  e = .returned (.tuple #[]) ∧ ∃ ys, OwnInts w' base (.slice (some ⟨g, 0, none⟩) n cap) ys ∧ ys.Perm xs ∧ SortedTo r ys n ∧ w.grownBy w' (some g)

def falls (a b : Int) : Prop := b ≤ a

set_option maxHeartbeats 1600000 in
theorem insertionF_any (base g n cap : Nat) (xs : List Int) (w : World) (h : OwnInts w base (.slice (some ⟨g, 0, none⟩) n cap) xs) (hl : xs.length = n) (hn : n ≤ 1000000) (hn1 : 1 ≤ n) :
    Calls Tryd.prog 60 #[.slice (some ⟨g, 0, none⟩) n cap, .int .i64 0, .int .i64 n, .func (.func 33) #[] #[]] w (RetSort falls w base g n cap xs) := by
  go_enter Tryd.func60, Tryd.ntmps60
  go_wp2
  go_loopg [8] n (fun gh s wr => ∃ (i : Nat) (zs : List Int), i ≤ n ∧ 1 ≤ i ∧ n - i ≤ gh ∧ s = .int .i64 i ∧ OwnInts wr base (.slice (some ⟨g, 0, none⟩) n cap) zs ∧ zs.Perm xs ∧ SortedTo falls zs i ∧ w.grownBy wr (some g))
  case atStart => exact ⟨1, xs, hn1, Nat.le_refl _, by omega, rfl, h, List.Perm.refl _, fun u v huv hv => by omega, only_refl _ _⟩
  case round =>
    obtain ⟨i, zs, hi, hi1, hg, rfl, hown, hperm, hsort, hgrow⟩ := hrel
    have HO := hid hown
    have HP := hid hperm
    have HS := hid hsort
    have HG := hid hgrow
    clear hown hperm hsort hgrow h
    by_cases hlt : i < n
    · go_wp2
      go_loopg [9] i (fun gh s wr => ∃ (j : Nat) (ys : List Int), j ≤ i ∧ j ≤ gh ∧ s = .int .i64 j ∧ OwnInts wr base (.slice (some ⟨g, 0, none⟩) n cap) ys ∧ ys.Perm xs ∧ InsInv falls ys i j ∧ w.grownBy wr (some g))
      case atStart => exact ⟨i, zs, Nat.le_refl _, Nat.le_refl _, rfl, HO.out, HP.out, ins_start HS.out, HG.out⟩
      case round =>
        obtain ⟨j, ys, hj, hgj, rfl, hown, hperm, hins, hgrow⟩ := hrel
        have HO2 := hid hown
        have HP2 := hid hperm
        have HI2 := hid hins
        have HG2 := hid hgrow
        clear hown hperm hins hgrow HO HP HS HG
        have hly : ys.length = n := by rw [HP2.out.length_eq, hl]
        have HLY := hid hly
        by_cases hj0 : j = 0
        · subst hj0
          have hd : decide ((0 : Int) < 0) = false := by simp
          go_wp2_with fail
          go_quiet (fail)
          go_wp2
          go_roundg (n - (i + 1))
          case measure => omega
          case rel => exact ⟨i + 1, ys, by omega, by omega, by omega, by go_num, HO2.out.drewN _, HP2.out, ins_zero HI2.out, only_drewN HG2.out _⟩
        · obtain ⟨m, hjm⟩ : ∃ m, j = m + 1 := ⟨j - 1, by omega⟩
          have HJ := hid hjm
          have hmj : m < j := by omega
          have hpos : 0 < j := by omega
          have hd : decide (0 < j) = true := by simp; omega
          have hwr : IntKind.i64.wrap ((j : Int) - 1) = (m : Int) := by rw [IntWalk.i64_in _ (by omega)]; omega
          have hjN : (j : Int) < (n : Int) := by omega
          have hmN : (m : Int) < (n : Int) := by omega
          have hjn : j < n := by omega
          have hmn : m < n := by omega
          have hO : OwnInts wr base (.slice (some ⟨g, 0, none⟩) ys.length cap) ys := by rw [hly]; exact HO2.out
          have g1 : wr.cell? ⟨g, j, none⟩ = some (.int .i64 (ys.getD j 0)) := hO.cell (by omega)
          have g2 : wr.cell? ⟨g, m, none⟩ = some (.int .i64 (ys.getD m 0)) := hO.cell (by omega)
          have f1 : wr.frozen? ⟨g, j, none⟩ = false := hO.frozen j
          have f2 : wr.frozen? ⟨g, m, none⟩ = false := hO.frozen m
          have HSW : Hid (swapAt ys j m = (ys.set j (ys.getD m 0)).set m (ys.getD j 0)) := rfl
          clear hO hly hjm
          generalize hx : ys.getD j 0 = x at g1 HSW
          generalize hy : ys.getD m 0 = y at g2 HSW
          have HX := hid hx
          have HY := hid hy
          clear hx hy
          by_cases hyx : y < x
          · have hc : decide (cmpI y x < 0) = true := by rw [cmpI_neg]; simpa using hyx
            go_wp2_with fail
            go_quiet ((go_at_call 33; exact Calls.quiet_of_same (quiet_left (cycles1_any _ _ _))))
            go_wp2_with fail
            go_region
            go_wp2
            have hjm := HJ.out
            go_roundg m
            case measure => omega
            case rel =>
              refine ⟨m, swapAt ys j m, by omega, Nat.le_refl _, by go_num, ?_, (perm_swapAt (by rw [HLY.out]; exact hjn) (by rw [HLY.out]; exact hmn)).trans HP2.out, ?_, ?_⟩
              · rw [HSW.out]
                exact (((HO2.out.set HLY.out.symm j y).set (by rw [List.length_set]; exact HLY.out.symm) m x).drewN _)
              · have hI := HI2.out
                rw [hjm] at hI ⊢
                refine ins_step hI (by omega) (by rw [HLY.out]; exact hlt) ?_
                rw [← hjm, HX.out, HY.out]
                unfold falls
                omega
              · exact only_drewN (only_set (only_set HG2.out j _) m _) _
          · have hc : decide (cmpI y x < 0) = false := by rw [cmpI_neg]; simpa using hyx
            go_wp2_with fail
            go_quiet ((go_at_call 33; exact Calls.quiet_of_same (quiet_left (cycles1_any _ _ _))))
            go_wp2
            go_roundg (n - (i + 1))
            case measure => omega
            case rel =>
              refine ⟨i + 1, ys, by omega, by omega, by omega, by go_num, HO2.out.drewN _, HP2.out, ?_, only_drewN HG2.out _⟩
              have hI := HI2.out
              rw [HJ.out] at hI
              refine ins_done (fun a b c h1 h2 => by unfold falls at *; omega) hI ?_
              rw [← HJ.out, HX.out, HY.out]
              unfold falls
              omega
    · have hin : i = n := by omega
      subst hin
      go_wp2
      go_end0
      exact ⟨rfl, zs, HO.out, HP.out, HS.out, HG.out⟩

end Go.Proofs.YtmdpfadfimodjaaDoor

/-
  math/bits.Len at small numbers; slices.pdqsortCmpFunc, slices.SortFunc up to twelve numbers.
-/
namespace Go.Proofs.YtmdpfadfimodjaaDoor
open Go.RowKit

def SomeInt (w : World) (e : Ending) (w' : World) : Prop := ∃ r : Int, e = .returned (.int .i64 r) ∧ w = w'

set_option maxHeartbeats 1600000 in
set_option maxRecDepth 100000 in
theorem len64_small (x : Int) (w : World) (h0 : 0 ≤ x) (h1 : x ≤ 12) : Calls Tryd.prog 69 #[.int .u64 x] w (SomeInt w) := by
  have hx : x = 0 ∨ x = 1 ∨ x = 2 ∨ x = 3 ∨ x = 4 ∨ x = 5 ∨ x = 6 ∨ x = 7 ∨ x = 8 ∨ x = 9 ∨ x = 10 ∨ x = 11 ∨ x = 12 := by omega
  rcases hx with rfl | rfl | rfl | rfl | rfl | rfl | rfl | rfl | rfl | rfl | rfl | rfl | rfl
  all_goals
    clear h0 h1
    go_enter Tryd.func69, Tryd.ntmps69
    go_wp2
    go_ret
    exact ⟨_, rfl, rfl⟩

set_option maxHeartbeats 400000 in
theorem len_small (x : Int) (w : World) (h0 : 0 ≤ x) (h1 : x ≤ 12) : Calls Tryd.prog 54 #[.int .u64 x] w (SomeInt w) := by
  go_enter Tryd.func54, Tryd.ntmps54
  go_wp2_with fail
  refine (len64_small x _ h0 h1).mono ?_
  rintro e w' ⟨r, rfl, rfl⟩
  go_wp2
  go_ret
  exact ⟨_, rfl, rfl⟩

set_option maxHeartbeats 1600000 in
set_option maxRecDepth 100000 in
theorem pdqF_any (base g n cap : Nat) (xs : List Int) (r : Int) (w : World) (h : OwnInts w base (.slice (some ⟨g, 0, none⟩) n cap) xs) (hl : xs.length = n) (hn : n ≤ 12) (hn1 : 1 ≤ n) :
    Calls Tryd.prog 53 #[.slice (some ⟨g, 0, none⟩) n cap, .int .i64 0, .int .i64 n, .int .i64 r, .func (.func 33) #[] #[]] w (RetSort falls w base g n cap xs) := by
  go_enter Tryd.func53, Tryd.ntmps53
  go_wp2
  go_loopg [1, 2] 0 (fun _ s1 s2 wr => s1 = .int .i64 0 ∧ s2 = .int .i64 n ∧ w = wr)
  case atStart => exact ⟨rfl, rfl, rfl⟩
  case round =>
    obtain ⟨rfl, rfl, rfl⟩ := hrel
    go_wp2_with fail
    refine (insertionF_any base g n cap xs _ h hl (by omega) hn1).mono ?_
    rintro e w' ⟨rfl, hys⟩
    have HYS := hid hys
    clear hys
    go_wp2
    go_end0
    exact ⟨rfl, HYS.out⟩

/-- Nothing to put in order. -/
def RetNone (w : World) (e : Ending) (w' : World) : Prop := e = .returned (.tuple #[]) ∧ w = w'

set_option maxHeartbeats 400000 in
theorem insertionF_zero (A : Option Addr) (c : Nat) (f : Value) (w : World) :
    Calls Tryd.prog 60 #[.slice A 0 c, .int .i64 0, .int .i64 0, f] w (RetNone w) := by
  go_enter Tryd.func60, Tryd.ntmps60
  go_wp2
  go_loopg [8] 0 (fun _ s wr => s = .int .i64 1 ∧ w = wr)
  case atStart => exact ⟨rfl, rfl⟩
  case round =>
    obtain ⟨rfl, rfl⟩ := hrel
    go_wp2
    go_end0
    exact ⟨rfl, rfl⟩

set_option maxHeartbeats 1600000 in
set_option maxRecDepth 100000 in
theorem pdqF_zero (A : Option Addr) (c : Nat) (r : Int) (f : Value) (w : World) :
    Calls Tryd.prog 53 #[.slice A 0 c, .int .i64 0, .int .i64 0, .int .i64 r, f] w (RetNone w) := by
  go_enter Tryd.func53, Tryd.ntmps53
  go_wp2
  go_loopg [1, 2] 0 (fun _ s1 s2 wr => s1 = .int .i64 0 ∧ s2 = .int .i64 0 ∧ w = wr)
  case atStart => exact ⟨rfl, rfl, rfl⟩
  case round =>
    obtain ⟨rfl, rfl, rfl⟩ := hrel
    go_wp2_with fail
    refine (insertionF_zero A c f _).mono ?_
    rintro e w' ⟨rfl, rfl⟩
    go_wp2
    go_end0
    exact ⟨rfl, rfl⟩

/-- The slice's numbers have been put in order, in place. -/
def RetSorted (r : Int → Int → Prop) (w : World) (base : Nat) (v : Value) (xs : List Int) (e : Ending) (w' : World) : Prop :=
  e = .returned (.tuple #[]) ∧ ∃ ys, OwnInts w' base v ys ∧ ys.Perm xs ∧ SortedTo r ys ys.length ∧ w.grownBy w' v.ownBlock

set_option maxHeartbeats 800000 in
theorem sortFunc_any (base : Nat) (v : Value) (xs : List Int) (w : World) (h : OwnInts w base v xs) (hn : xs.length ≤ 12) :
    Calls Tryd.prog 32 #[v, .func (.func 33) #[] #[]] w (RetSorted falls w base v xs) := by
  by_cases h0 : xs.length = 0
  · obtain ⟨A, c, rfl, _, _⟩ := h.ints
    have HO := hid h
    clear h
    have hx : xs = [] := List.eq_nil_of_length_eq_zero h0
    subst hx
    go_enter Tryd.func32, Tryd.ntmps32
    go_wp2_with fail
    refine (len_small 0 _ (by omega) (by omega)).mono ?_
    rintro e w' ⟨r, rfl, rfl⟩
    go_wp2_with fail
    refine (pdqF_zero A c r _ _).mono ?_
    rintro e w' ⟨rfl, rfl⟩
    go_wp2
    go_end0
    exact ⟨rfl, [], HO.out, List.Perm.refl _, fun u v huv hv => by simp at hv, only_refl _ _⟩
  · obtain ⟨g, cap, rfl, hb, hg, hc⟩ := h.form (by omega)
    have HO := hid h
    clear h
    generalize hm : xs.length = m at *
    have HM := hid hm
    clear hm
    go_enter Tryd.func32, Tryd.ntmps32
    go_wp2_with fail
    refine (len_small m _ (by omega) (by omega)).mono ?_
    rintro e w' ⟨r, rfl, rfl⟩
    go_wp2_with fail
    refine (pdqF_any base g m cap xs r _ HO.out HM.out hn (by omega)).mono ?_
    rintro e w1 ⟨rfl, ys, hown, hperm, hsort, hgrow⟩
    have HY := hid (And.intro hown (And.intro hperm (And.intro hsort hgrow)))
    clear hown hperm hsort hgrow
    go_wp2
    go_end0
    refine ⟨rfl, ys, HY.out.1, HY.out.2.1, ?_, HY.out.2.2.2⟩
    rw [HY.out.2.1.length_eq, HM.out]
    exact HY.out.2.2.1

/-! ### perm.Cycles -/

/-- The lengths of the cycles, the greatest first. -/
def IsCycles (p : List Int) (ys : List Int) : Prop := ys.Perm (cycL p p.length) ∧ SortedTo falls ys ys.length

def RetCyclesO (w : World) (p : List Int) (e : Ending) (w' : World) : Prop := ∃ ys, IsCycles p ys ∧ RetOwnE w ys 0 e w'
def RetCycles (w : World) (p : List Int) (e : Ending) (w' : World) : Prop := ∃ ys, IsCycles p ys ∧ RetInts w ys 0 e w'

theorem below_grown {B : Nat} {a w w' : World} {row : Option Nat} (h : Below B a w) (hg : w.grownBy w' row) (hB : B ≤ w.heap.size) (hr : ∀ k, row = some k → B ≤ k) : Below B a w' := h.grown hg hB hr

set_option maxHeartbeats 800000 in
theorem cycles_own (A : Option Addr) (n c : Nat) (p : List Int) (w : World) (hA : Ints w A n p) (hp : permErr p = 0) :
    Calls Tryd.prog 11 #[.slice A n c] w (RetCyclesO w p) := by
  have hn10 : n ≤ 10 := by rw [← hA.len]; exact (permErr_ok.1 hp).1
  have HP := hid (permErr_ok.1 hp).2
  go_enter Tryd.func11, Tryd.ntmps11
  go_wp2_with fail
  refine (check_any A n c p _ hA (by omega)).mono ?_
  rintro e w1 ⟨rfl, hb1⟩
  have hA1 := hA.keep hb1
  have HB1 := hid hb1
  have HL := hid hA.len
  clear hA hb1
  go_wp2_with fail
  refine (cycleLengths_any A n c p _ hA1 HP.out hn10).mono ?_
  rintro e w2 ⟨v, rfl, hown, hb2⟩
  have HB2 := hid (HB1.out.trans (hb2.mono HB1.out.size))
  have HO := hid hown
  have hl10 := Nat.le_trans (length_cycL_le p n) hn10
  have HS1 := hid hb2.size
  clear hA1 hb2 hown
  go_wp2_with fail
  refine (sortFunc_any _ v _ _ HO.out (by omega)).mono ?_
  rintro e w3 ⟨rfl, ys, hown3, hperm, hsort, hgrow⟩
  have HB3 : Hid (Below w.heap.size w w3) := HB2.out.grown hgrow HB2.out.size (fun k hk => Nat.le_trans HB1.out.size (World.ownsRow.lt HO.out k hk).1)
  have HC : Hid (IsCycles p ys) := ⟨by rw [HL.out]; exact hperm, hsort⟩
  have HO3 := hid (hown3.mono HB1.out.size)
  clear hown3 hperm hsort hgrow
  go_wp2
  go_ret2
  exact ⟨ys, HC.out, _, rfl, HO3.out, HB3.out⟩
theorem cycles_ok (A : Option Addr) (n c : Nat) (p : List Int) (w : World) (hA : Ints w A n p) (hp : permErr p = 0) :
    Calls Tryd.prog 11 #[.slice A n c] w (RetCycles w p) := by
  refine (cycles_own A n c p w hA hp).mono ?_
  rintro e w' ⟨q, hq, v, rfl, ho, hbel⟩
  obtain ⟨A', c', rfl, hI, hc⟩ := ho.ints
  exact ⟨q, hq, _, _, _, rfl, hbel, hI, hc⟩

end Go.Proofs.YtmdpfadfimodjaaDoor

/-
  slices.Sort at []int, up to twelve numbers: in rising order; slices.Reverse at []int.
-/
namespace Go.Proofs.YtmdpfadfimodjaaDoor
open Go.RowKit

def climbs (a b : Int) : Prop := a ≤ b

/-! ### slices.Reverse -/

end Go.Proofs.YtmdpfadfimodjaaDoor

/-
  castref.PermErr: its answer is permErr of the list.
-/
namespace Go.Proofs.YtmdpfadfimodjaaDoor
open Go.RowKit

end Go.Proofs.YtmdpfadfimodjaaDoor

/-
  The verifier's castref.After, castref.Crossed.
-/
namespace Go.Proofs.YtmdpfadfimodjaaDoor
open Go.RowKit

/-! ### After -/

theorem times_take_snoc {a b : List Int} {k : Nat} (hk : k < b.length) : times a (b.take (k + 1)) = times a (b.take k) ++ [a.getD (b.getD k 0).toNat 0] := by
  rw [take_snoc hk]
  simp [times]

/-! ### Crossed -/

theorem inv_snoc (l : List Int) (x : Int) : inv (l ++ [x]) = inv l + l.countP (fun y => decide (x < y)) := by
  induction l with
  | nil => rfl
  | cons a t ih =>
    simp only [List.cons_append, inv, ih, List.countP_append, List.countP_cons, List.countP_nil]
    omega
/-- The pairs counted after m rounds of the inner loop at place k. -/
def crossUpto (p : List Int) (k m : Nat) : Nat := inv (p.take k) + (p.take m).countP (fun y => decide (p.getD k 0 < y))
theorem crossUpto_yes {p : List Int} {k m : Nat} (h : m < p.length) (hlt : p.getD k 0 < p.getD m 0) : crossUpto p k (m + 1) = crossUpto p k m + 1 := by
  unfold crossUpto
  rw [take_snoc h, List.countP_append]
  simp only [List.countP_cons, List.countP_nil, hlt, decide_true, if_true]
  omega
theorem crossUpto_no {p : List Int} {k m : Nat} (h : m < p.length) (hlt : ¬ p.getD k 0 < p.getD m 0) : crossUpto p k (m + 1) = crossUpto p k m := by
  unfold crossUpto
  rw [take_snoc h, List.countP_append]
  simp only [List.countP_cons, List.countP_nil, hlt, decide_false, Nat.zero_add]
  simp
theorem crossUpto_end {p : List Int} {k : Nat} (h : k < p.length) : crossUpto p k k = inv (p.take (k + 1)) := by
  unfold crossUpto
  rw [take_snoc h, inv_snoc]
theorem crossUpto_le (p : List Int) (k m : Nat) : crossUpto p k m ≤ inv (p.take k) + m := by
  unfold crossUpto
  have h1 := List.countP_le_length (p := fun y => decide (p.getD k 0 < y)) (l := p.take m)
  have h2 : (p.take m).length ≤ m := List.length_take_le _ _
  omega
theorem inv_le (l : List Int) : inv l ≤ l.length * l.length := by
  induction l with
  | nil => simp [inv]
  | cons a t ih =>
    simp only [inv, List.length_cons]
    have h1 := List.countP_le_length (p := fun y => decide (y < a)) (l := t)
    have : (t.length + 1) * (t.length + 1) = t.length * t.length + t.length + t.length + 1 := by rw [Nat.add_mul, Nat.mul_add]; omega
    omega

end Go.Proofs.YtmdpfadfimodjaaDoor

/-
  Plain facts: how the cycle lengths are determined by how many numbers come back after how many steps; undoing and renaming change nothing.
-/
namespace Go.Proofs.YtmdpfadfimodjaaDoor

theorem length_le_of_subset {α : Type} [DecidableEq α] {l l' : List α} (hn : l.Nodup) (hs : ∀ x, x ∈ l → x ∈ l') : l.length ≤ l'.length := by
  by_cases h : l'.length ≤ l.length
  · exact Nat.le_of_eq (perm_of_nodup_subset hn hs h).length_eq.symm
  · omega

section
variable {p : List Int}

/-- A cycle has as many numbers as steps. -/
theorem class_size (h : IsPerm p) {s : Nat} (hs : s < p.length) (hl : lo p s = s) : (List.range p.length).countP (fun j => decide (lo p j = s)) = per p s := by
  rw [List.countP_eq_length_filter]
  have hd : ((List.range (per p s)).map (fun k => it p k s)).Nodup := by
    rw [List.nodup_iff_pairwise_ne, List.pairwise_map]
    refine List.Pairwise.imp_of_mem ?_ List.pairwise_lt_range
    intro a b _ hb hab
    exact it_ne h hs hab (List.mem_range.1 hb)
  have hf : ((List.range p.length).filter (fun j => decide (lo p j = s))).Nodup := (List.nodup_range).filter _
  have h1 := length_le_of_subset hd (l' := (List.range p.length).filter (fun j => decide (lo p j = s))) (by
    intro x hx
    obtain ⟨k, _, rfl⟩ := List.mem_map.1 hx
    exact List.mem_filter.2 ⟨List.mem_range.2 (it_lt h hs k), by simp [lo_it h hs, hl]⟩)
  have h2 := length_le_of_subset hf (l' := (List.range (per p s)).map (fun k => it p k s)) (by
    intro x hx
    have hx' := List.mem_filter.1 hx
    obtain ⟨_, _, k, hk, e⟩ := lo_eq h (List.mem_range.1 hx'.1) (by simpa using hx'.2)
    exact List.mem_map.2 ⟨k, List.mem_range.2 hk, e⟩)
  simp only [List.length_map, List.length_range] at h1 h2
  omega

theorem per_it (h : IsPerm p) {i : Nat} (hi : i < p.length) (k : Nat) : per p (it p k i) = per p i := by
  have h1 := per_spec h hi
  have h2 := per_spec h (it_lt h hi k)
  have key : ∀ m, it p m (it p k i) = it p k i ↔ it p m i = i := fun m => by
    rw [← it_add, Nat.add_comm, it_add]
    exact ⟨fun e => it_inj h (it_lt h hi m) hi k e, fun e => by rw [e]⟩
  rcases Nat.lt_trichotomy (per p (it p k i)) (per p i) with hlt | he | hgt
  · exact absurd ((key _).1 h2.2.2.1) (h1.2.2.2 _ h2.1 hlt)
  · exact he
  · exact absurd ((key _).2 h1.2.2.1) (h2.2.2.2 _ h1.1 hgt)

theorem countP_split (l : List Nat) (f g : Nat → Bool) (h : ∀ x, x ∈ l → ¬ (f x = true ∧ g x = true)) : l.countP (fun x => f x || g x) = l.countP f + l.countP g := by
  induction l with
  | nil => rfl
  | cons a t ih =>
    have ht := ih (fun x hx => h x (by simp [hx]))
    have ha := h a (by simp)
    simp only [List.countP_cons]
    cases hf : f a <;> cases hg : g a <;> simp_all <;> omega

theorem countP_congr' {l : List Nat} {f g : Nat → Bool} (h : ∀ x, x ∈ l → f x = g x) : l.countP f = l.countP g := by
  induction l with
  | nil => rfl
  | cons a t ih =>
    simp only [List.countP_cons, h a (by simp), ih (fun x hx => h x (by simp [hx]))]

/-- Of the numbers in cycles that begin below s, how many come back after k steps: k for each cycle of that length. -/
theorem tot_upto (h : IsPerm p) (k : Nat) : ∀ s, s ≤ p.length → (List.range p.length).countP (fun j => decide (lo p j < s) && decide (per p j = k)) = k * (cycL p s).count (k : Int)
  | 0, _ => by
    rw [countP_congr' (g := fun _ => false) (fun x _ => by simp)]
    simp [cycL]
  | s + 1, hs => by
    have ih := tot_upto h k s (by omega)
    have e1 : (List.range p.length).countP (fun j => decide (lo p j < s + 1) && decide (per p j = k)) =
        (List.range p.length).countP (fun j => (decide (lo p j < s) && decide (per p j = k)) || (decide (lo p j = s) && decide (per p j = k))) := by
      apply countP_congr'
      intro x _
      by_cases h1 : lo p x < s
      · simp [h1, show lo p x < s + 1 by omega]
      · by_cases h2 : lo p x = s
        · simp [h2]
        · simp [h1, h2, show ¬ lo p x < s + 1 by omega]
    rw [e1, countP_split _ _ _ (by intro x _; simp; omega), ih]
    by_cases hl : lo p s = s
    · rw [cycL_yes hl, List.count_append]
      by_cases hk : per p s = k
      · have e2 : (List.range p.length).countP (fun j => decide (lo p j = s) && decide (per p j = k)) = (List.range p.length).countP (fun j => decide (lo p j = s)) := by
          apply countP_congr'
          intro x hx
          by_cases h2 : lo p x = s
          · obtain ⟨_, _, m, _, em⟩ := lo_eq h (List.mem_range.1 hx) h2
            have := per_it h (show s < p.length by omega) m
            rw [em] at this
            simp [h2, this, hk]
          · simp [h2]
        rw [e2, class_size h (by omega) hl, hk]
        simp [Nat.mul_add]
      · have e2 : (List.range p.length).countP (fun j => decide (lo p j = s) && decide (per p j = k)) = 0 := by
          rw [List.countP_eq_zero]
          intro x hx
          by_cases h2 : lo p x = s
          · obtain ⟨_, _, m, _, em⟩ := lo_eq h (List.mem_range.1 hx) h2
            have := per_it h (show s < p.length by omega) m
            rw [em] at this
            simp [this, hk]
          · simp [h2]
        have e3 : [(per p s : Int)].count (k : Int) = 0 := by
          rw [List.count_eq_zero]
          simp
          omega
        rw [e2, e3, Nat.add_zero, Nat.add_zero]
    · rw [cycL_no hl]
      have e2 : (List.range p.length).countP (fun j => decide (lo p j = s) && decide (per p j = k)) = 0 := by
        rw [List.countP_eq_zero]
        intro x hx
        by_cases h2 : lo p x = s
        · exact absurd (lo_eq h (List.mem_range.1 hx) h2).2.1 hl
        · simp [h2]
      rw [e2]
      omega

theorem tot_all (h : IsPerm p) (k : Nat) : (List.range p.length).countP (fun j => decide (per p j = k)) = k * (cycL p p.length).count (k : Int) := by
  rw [← tot_upto h k p.length (Nat.le_refl _)]
  apply countP_congr'
  intro x hx
  simp [lo_lt h (List.mem_range.1 hx)]

/-- All numbers are in cycles. -/
theorem sum_upto (h : IsPerm p) : ∀ s, s ≤ p.length → ((List.range p.length).countP (fun j => decide (lo p j < s)) : Int) = (cycL p s).sum
  | 0, _ => by
    rw [countP_congr' (g := fun _ => false) (fun x _ => by simp)]
    simp [cycL]
  | s + 1, hs => by
    have ih := sum_upto h s (by omega)
    have e1 : (List.range p.length).countP (fun j => decide (lo p j < s + 1)) = (List.range p.length).countP (fun j => decide (lo p j < s) || decide (lo p j = s)) := by
      apply countP_congr'
      intro x _
      by_cases h1 : lo p x < s
      · simp [h1, show lo p x < s + 1 by omega]
      · by_cases h2 : lo p x = s
        · simp [h2]
        · simp [h1, h2, show ¬ lo p x < s + 1 by omega]
    rw [e1, countP_split _ _ _ (by intro x _; simp; omega)]
    by_cases hl : lo p s = s
    · rw [cycL_yes hl, class_size h (by omega) hl, List.sum_append]
      simp only [List.sum_cons, List.sum_nil]
      omega
    · rw [cycL_no hl]
      have e2 : (List.range p.length).countP (fun j => decide (lo p j = s)) = 0 := by
        rw [List.countP_eq_zero]
        intro x hx
        by_cases h2 : lo p x = s
        · exact absurd (lo_eq h (List.mem_range.1 hx) h2).2.1 hl
        · simp [h2]
      rw [e2]
      omega
theorem sum_cycL (h : IsPerm p) : (cycL p p.length).sum = p.length := by
  rw [← sum_upto h p.length (Nat.le_refl _), countP_congr' (g := fun _ => true) (fun x hx => by simp [lo_lt h (List.mem_range.1 hx)])]
  simp

end

theorem cycL_perm_of_tot {p q : List Int} (hp : IsPerm p) (hq : IsPerm q) (ht : ∀ k, (List.range p.length).countP (fun j => decide (per p j = k)) = (List.range q.length).countP (fun j => decide (per q j = k))) :
    (cycL p p.length).Perm (cycL q q.length) := by
  rw [List.perm_iff_count]
  intro x
  by_cases hx : 1 ≤ x
  · obtain ⟨k, rfl⟩ := Int.eq_ofNat_of_zero_le (show 0 ≤ x by omega)
    have h1 := tot_all hp k
    have h2 := tot_all hq k
    rw [ht k] at h1
    exact Nat.eq_of_mul_eq_mul_left (show 0 < k by omega) (h1.symm.trans h2)
  · rw [List.count_eq_zero.2 (fun h => hx (mem_cycL hp h).1), List.count_eq_zero.2 (fun h => hx (mem_cycL hq h).1)]

theorem falls_anti (a b : Int) (h : falls a b) (h' : falls b a) : a = b := by unfold falls at *; omega

theorem cycles_unique {p q c d : List Int} (hc : IsCycles p c) (hd : IsCycles q d) (h : (cycL p p.length).Perm (cycL q q.length)) : c = d :=
  sorted_unique falls_anti (pairwise_of_sortedTo hc.2) (pairwise_of_sortedTo hd.2) ((hc.1.trans h).trans hd.1.symm)

theorem per_eq_of {p q : List Int} (hp : IsPerm p) (hq : IsPerm q) {i j : Nat} (hi : i < p.length) (hj : j < q.length) (key : ∀ m, it p m i = i ↔ it q m j = j) : per p i = per q j := by
  have h1 := per_spec hp hi
  have h2 := per_spec hq hj
  rcases Nat.lt_trichotomy (per p i) (per q j) with hlt | he | hgt
  · exact absurd ((key _).1 h1.2.2.1) (h2.2.2.2 _ h1.1 hlt)
  · exact he
  · exact absurd ((key _).2 h2.2.2.1) (h1.2.2.2 _ h2.1 hgt)

theorem nx_inv {p q : List Int} (h : IsInv p q) {i : Nat} (hi : i < p.length) : nx q (nx p i) = i := by
  have := h.2 i hi
  unfold nx
  rw [this]
  omega
theorem IsInv.symm {p q : List Int} (h : IsInv p q) (hp : IsPerm p) : IsInv q p := by
  refine ⟨h.1.symm, fun i hi => ?_⟩
  rw [h.1] at hi
  obtain ⟨j, hj, ej⟩ := hp.pre hi
  have := h.2 j hj
  rw [ej, Int.toNat_natCast] at this
  rw [this, Int.toNat_natCast, ej]
theorem it_inv {p q : List Int} (h : IsInv p q) (hp : IsPerm p) {i : Nat} (hi : i < p.length) (k : Nat) : it q k (it p k i) = i := by
  induction k generalizing i with
  | zero => rfl
  | succ k ih =>
    have e1 : it p (k + 1) i = it p k (nx p i) := it_add p k 1 i
    have e2 : it q (k + 1) (it p (k + 1) i) = nx q (it q k (it p (k + 1) i)) := rfl
    rw [e2, e1, ih (nx_lt hp hi), nx_inv h hi]

theorem cycL_inv {p q : List Int} (h : IsInv p q) (hp : IsPerm p) : (cycL p p.length).Perm (cycL q q.length) := by
  refine cycL_perm_of_tot hp (h.isPerm hp) fun k => ?_
  rw [h.1]
  apply countP_congr'
  intro i hi
  have hi' := List.mem_range.1 hi
  have : per p i = per q i := per_eq_of hp (h.isPerm hp) hi' (by rw [h.1]; exact hi') fun m => by
    constructor
    · intro e
      have := it_inv h hp hi' m
      rwa [e] at this
    · intro e
      have := it_inv (h.symm hp) (h.isPerm hp) (show i < q.length by rw [h.1]; exact hi') m
      rwa [e] at this
  rw [this]

theorem nx_times {a b : List Int} {i : Nat} (hi : i < b.length) : nx (times a b) i = nx a (nx b i) := by
  unfold nx
  rw [getD_times hi]

/-- Seen by other names: b sends i to its new name. -/
theorem cycL_conj {a b vb : List Int} (ha : IsPerm a) (hb : IsPerm b) (hv : IsInv b vb) (hl : a.length = b.length) : (cycL a a.length).Perm (cycL (times b (times a vb)) (times b (times a vb)).length) := by
  have hpv := hv.isPerm hb
  have hp1 : IsPerm (times a vb) := isPerm_times ha hpv (by rw [hv.1, hl])
  have hp2 : IsPerm (times b (times a vb)) := isPerm_times hb hp1 (by rw [length_times, hv.1])
  have hlen : (times b (times a vb)).length = a.length := by rw [length_times, length_times, hv.1, hl]
  have hstep : ∀ i, i < a.length → nx (times b (times a vb)) (nx b i) = nx b (nx a i) := by
    intro i hi
    have hbi : nx b i < b.length := nx_lt hb (by omega)
    rw [nx_times (by rw [length_times, hv.1]; exact hbi), nx_times (by rw [hv.1]; exact hbi), nx_inv hv (by omega)]
  have hit : ∀ k i, i < a.length → it (times b (times a vb)) k (nx b i) = nx b (it a k i) := by
    intro k
    induction k with
    | zero => intros; rfl
    | succ k ih =>
      intro i hi
      show nx _ (it _ k (nx b i)) = nx b (nx a (it a k i))
      rw [ih i hi, hstep _ (it_lt ha hi k)]
  refine cycL_perm_of_tot ha hp2 fun k => ?_
  rw [hlen]
  have hperm : ((List.range a.length).map (nx b)).Perm (List.range a.length) := by
    refine (perm_of_nodup_subset ?_ ?_ ?_).symm
    · rw [List.nodup_iff_pairwise_ne, List.pairwise_map]
      refine List.Pairwise.imp_of_mem ?_ List.pairwise_lt_range
      intro x y hx hy hxy e
      have hx' := List.mem_range.1 hx
      have hy' := List.mem_range.1 hy
      have := nx_inj hb (by omega) (by omega) e
      omega
    · intro x hx
      obtain ⟨i, hi, rfl⟩ := List.mem_map.1 hx
      have := nx_lt hb (show i < b.length by have := List.mem_range.1 hi; omega)
      exact List.mem_range.2 (by omega)
    · simp
  rw [← hperm.countP_eq (fun j => decide (per (times b (times a vb)) j = k)), List.countP_map]
  apply countP_congr'
  intro i hi
  have hi' := List.mem_range.1 hi
  have hbi : nx b i < b.length := nx_lt hb (by omega)
  have : per a i = per (times b (times a vb)) (nx b i) := per_eq_of ha hp2 hi' (by rw [hlen]; omega) fun m => by
    rw [hit m i hi']
    constructor
    · intro e
      rw [e]
    · intro e
      have hm := it_lt ha hi' m
      exact nx_inj hb (by omega) (by omega) e
  simp [this]

theorem perm_sum {l l' : List Int} (h : l.Perm l') : l.sum = l'.sum := by
  induction h with
  | nil => rfl
  | cons x _ ih => simp only [List.sum_cons, ih]
  | swap x y l => simp only [List.sum_cons]; omega
  | trans _ _ ih1 ih2 => exact ih1.trans ih2

theorem sum_of_cycles {p c : List Int} (hp : IsPerm p) (hc : IsCycles p c) : c.sum = p.length := by
  have h := sum_cycL hp
  have : c.sum = (cycL p p.length).sum := perm_sum hc.1
  omega

/-- The cycle lengths come back. -/
def RetCyc (w : World) (p : List Int) (e : Ending) (w' : World) : Prop :=
  ∃ ys l A c, e = .returned (.tuple #[.slice A l c, .int .i64 0]) ∧ IsCycles p ys ∧ l ≤ 10 ∧ Ints w' A l ys ∧ Cap l c ∧ RowKit.Below w.heap.size w w'

theorem cycles_perm (A : Option Addr) (n c : Nat) (p : List Int) (w : World) (hA : Ints w A n p) (hp : IsPerm p) (hn : n ≤ 10) :
    Calls Tryd.prog 11 #[.slice A n c] w (RetCyc w p) := by
  refine (cycles_ok A n c p w hA (permErr_of hp (by rw [hA.len]; exact hn))).mono ?_
  rintro e w' ⟨ys, hc, A', l, c', rfl, hb, hI, hcap⟩
  refine ⟨ys, l, A', c', rfl, hc, ?_, hI, hcap, hb⟩
  rw [← hI.len, hc.1.length_eq]
  have := length_cycL_le p p.length
  have := hA.len
  omega

theorem sum_take_bound {l : List Int} (h : ∀ x, x ∈ l → 1 ≤ x ∧ x ≤ 10) : ∀ k, k ≤ l.length → 0 ≤ (l.take k).sum ∧ (l.take k).sum ≤ 10 * k
  | 0, _ => by simp
  | k + 1, hk => by
    have ih := sum_take_bound h k (by omega)
    have hx := h _ (getD_mem (show k < l.length by omega))
    rw [take_snoc (by omega), List.sum_append]
    simp only [List.sum_cons, List.sum_nil]
    omega

theorem mem_cycles {p c : List Int} (hp : IsPerm p) (hc : IsCycles p c) (hl : p.length ≤ 10) {x : Int} (hx : x ∈ c) : 1 ≤ x ∧ x ≤ 10 := by
  have := mem_cycL hp (hc.1.mem_iff.1 hx)
  omega

end Go.Proofs.YtmdpfadfimodjaaDoor

/-
  The verifier's castref.CyclesOf and castref.OrderOf.
-/
namespace Go.Proofs.YtmdpfadfimodjaaDoor
open Go.RowKit

/-- The least of the first m numbers met from i on. -/
def lw (p : List Int) (i : Nat) : Nat → Nat
  | 0 => i
  | m + 1 => min (lw p i m) (it p m i)
theorem lw_le (p : List Int) (i : Nat) : ∀ m k, k < m → lw p i m ≤ it p k i
  | m + 1, k, hk => by
    simp only [lw]
    by_cases h : k = m
    · subst h
      exact Nat.min_le_right _ _
    · exact Nat.le_trans (Nat.min_le_left _ _) (lw_le p i m k (by omega))
theorem lw_mem (p : List Int) (i : Nat) : ∀ m, ∃ k, lw p i m = it p k i
  | 0 => ⟨0, rfl⟩
  | m + 1 => by
    simp only [lw]
    rcases Nat.le_total (lw p i m) (it p m i) with h | h
    · rw [Nat.min_eq_left h]
      exact lw_mem p i m
    · rw [Nat.min_eq_right h]
      exact ⟨m, rfl⟩
theorem lw_per {p : List Int} (h : IsPerm p) {i : Nat} (hi : i < p.length) : lw p i (per p i) = lo p i := by
  apply Nat.le_antisymm
  · obtain ⟨k, e⟩ := lo_mem p i
    rw [e, it_mod h hi k]
    exact lw_le p i _ _ (Nat.mod_lt _ (by have := (per_spec h hi).1; omega))
  · obtain ⟨k, e⟩ := lw_mem p i (per p i)
    rw [e]
    exact lo_le h hi k

theorem run_min2 {P : Program} (x y : Nat) (ts : Array TypeId) (t : TypeId) (W : World) :
    (Builtin.min_ ts t #[.int .i64 (x : Int), .int .i64 (y : Int)]).run P W = .ok (.int .i64 ((min x y : Nat) : Int)) W := by
  have e : (if (y : Int) < x then (y : Int) else x) = ((min x y : Nat) : Int) := by split <;> omega
  simp only [Builtin.min_, Builtin.min2, List.foldlM_cons, List.foldlM_nil, pure_bind]
  simp only [e]
  rfl

theorem sorted_reverse {ys : List Int} (h : SortedTo climbs ys ys.length) : SortedTo falls ys.reverse ys.reverse.length := by
  intro u v huv hv
  rw [List.length_reverse] at hv
  have e : ∀ j, j < ys.length → ys.reverse.getD j 0 = ys.getD (ys.length - 1 - j) 0 := fun j hj => by
    rw [List.getD_eq_getElem?_getD, List.getElem?_reverse hj, List.getD_eq_getElem?_getD]
  rw [e u (by omega), e v hv]
  exact h _ _ (by omega) (by omega)

def RetOwnCyc (w : World) (p : List Int) (e : Ending) (w' : World) : Prop := ∃ ys, IsCycles p ys ∧ RetOwn w ys e w'

/-! ### OrderOf -/

/-- p, m times. -/
def pw (p : List Int) (m : Nat) : List Int := (List.range p.length).map (fun i => ((it p m i : Nat) : Int))
theorem length_pw (p : List Int) (m : Nat) : (pw p m).length = p.length := by simp [pw]
theorem getD_pw {p : List Int} {i : Nat} (h : i < p.length) (m : Nat) : (pw p m).getD i 0 = ((it p m i : Nat) : Int) := by simp [pw, List.getD_eq_getElem?_getD, h]
theorem pw_one {p : List Int} (h : IsPerm p) : pw p 1 = p := by
  apply ext_getD (length_pw p 1)
  intro i hi
  rw [length_pw] at hi
  rw [getD_pw hi]
  have := h.range (getD_mem hi)
  show ((nx p i : Nat) : Int) = _
  unfold nx
  omega
theorem pw_succ {p : List Int} (h : IsPerm p) (m : Nat) : times p (pw p m) = pw p (m + 1) := by
  apply ext_getD (by rw [length_times, length_pw, length_pw])
  intro i hi
  rw [length_times, length_pw] at hi
  rw [getD_times (by rw [length_pw]; exact hi), getD_pw hi, getD_pw hi, Int.toNat_natCast]
  have := h.range (getD_mem (it_lt h hi m))
  show _ = ((nx p (it p m i) : Nat) : Int)
  unfold nx
  omega
theorem isPerm_pw {p : List Int} (h : IsPerm p) : ∀ m, 1 ≤ m → IsPerm (pw p m)
  | 1, _ => by rw [pw_one h]; exact h
  | m + 2, _ => by
    rw [← pw_succ h]
    exact isPerm_times h (isPerm_pw h (m + 1) (by omega)) (by rw [length_pw])
theorem pw_range {p : List Int} (h : IsPerm p) (m : Nat) {x : Int} (hx : x ∈ pw p m) : 0 ≤ x ∧ x < p.length := by
  obtain ⟨i, hi, rfl⟩ := List.mem_map.1 hx
  have := it_lt h (List.mem_range.1 hi) m
  omega

theorem sortedTo_of_sortedB {xs : List Int} (h : sortedB xs = true) : SortedTo climbs xs xs.length := by
  have h' := sortedB_true.1 h
  intro u v huv hv
  induction v with
  | zero => omega
  | succ v ih =>
    by_cases e : u = v
    · subst e
      exact h' u hv
    · have h1 := ih (by omega) (by omega)
      have h2 := h' v hv
      unfold climbs at *
      omega
theorem climbs_anti (a b : Int) (h : climbs a b) (h' : climbs b a) : a = b := by unfold climbs at *; omega
theorem sorted_perm {p : List Int} (hp : IsPerm p) (h : sortedB p = true) : p = iota p.length :=
  sorted_unique climbs_anti (pairwise_of_sortedTo (sortedTo_of_sortedB h)) (pairwise_iota _) hp

theorem it_dvd {p : List Int} (h : IsPerm p) {i : Nat} (hi : i < p.length) (m : Nat) : it p m i = i ↔ per p i ∣ m := by
  have hs := per_spec h hi
  rw [it_mod h hi]
  constructor
  · intro e
    apply Nat.dvd_of_mod_eq_zero
    apply Classical.byContradiction
    intro hne
    exact hs.2.2.2 (m % per p i) (by omega) (Nat.mod_lt _ (by omega)) e
  · intro hd
    rw [Nat.mod_eq_zero_of_dvd hd]
    rfl

theorem foldl_lcm_dvd (l : List Int) (a m : Nat) : l.foldl (fun a x => Nat.lcm a x.toNat) a ∣ m ↔ a ∣ m ∧ ∀ x, x ∈ l → x.toNat ∣ m := by
  induction l generalizing a with
  | nil => simp
  | cons y t ih =>
    rw [List.foldl_cons, ih]
    constructor
    · rintro ⟨h1, h2⟩
      refine ⟨Nat.dvd_trans (Nat.dvd_lcm_left _ _) h1, fun x hx => ?_⟩
      rcases List.mem_cons.1 hx with rfl | hx
      · exact Nat.dvd_trans (Nat.dvd_lcm_right _ _) h1
      · exact h2 x hx
    · rintro ⟨h1, h2⟩
      exact ⟨Nat.lcm_dvd h1 (h2 y (by simp)), fun x hx => h2 x (by simp [hx])⟩
theorem ordL_dvd (l : List Int) (m : Nat) : ordL l ∣ m ↔ ∀ x, x ∈ l → x.toNat ∣ m := by
  unfold ordL
  rw [foldl_lcm_dvd]
  simp

/-- p done m times lets each go to itself just where its order divides m. -/
theorem pw_sorted {p : List Int} (h : IsPerm p) {m : Nat} (hm : 1 ≤ m) : sortedB (pw p m) = true ↔ ordL (cycL p p.length) ∣ m := by
  rw [ordL_dvd]
  constructor
  · intro hs x hx
    obtain ⟨i, hi, rfl⟩ := List.mem_map.1 hx
    have hi' := List.mem_range.1 (List.mem_filter.1 hi).1
    rw [Int.toNat_natCast]
    rw [← it_dvd h hi']
    have e := sorted_perm (isPerm_pw h m hm) hs
    have e2 := congrArg (fun l : List Int => l.getD i 0) e
    simp only [length_pw] at e2
    rw [getD_pw hi', getD_iota hi'] at e2
    omega
  · intro hd
    have e : pw p m = iota p.length := by
      apply ext_getD (by rw [length_pw, length_iota])
      intro i hi
      rw [length_pw] at hi
      rw [getD_pw hi, getD_iota hi]
      have hl := lo_eq h hi rfl
      have hmem : ((per p (lo p i) : Nat) : Int) ∈ cycL p p.length := List.mem_map.2 ⟨lo p i, List.mem_filter.2 ⟨List.mem_range.2 hl.1, by simp [hl.2.1]⟩, rfl⟩
      have h1 := hd _ hmem
      rw [Int.toNat_natCast] at h1
      obtain ⟨_, _, k, _, ek⟩ := hl
      have h2 := per_it h (lo_lt h hi) k
      rw [ek] at h2
      rw [← h2] at h1
      rw [(it_dvd h hi m).2 h1]
    rw [e]
    exact sorted_iota _

theorem ordL_bound {p : List Int} (h : IsPerm p) (hl : p.length ≤ 10) : 1 ≤ ordL (cycL p p.length) ∧ ordL (cycL p p.length) ≤ 10000000000 := by
  have hb := ordL_take_bound (l := cycL p p.length) (fun x hx => by have := mem_cycL h hx; omega) (cycL p p.length).length (Nat.le_refl _)
  rw [List.take_of_length_le (Nat.le_refl _)] at hb
  refine ⟨hb.1, Nat.le_trans hb.2 ?_⟩
  have : 10 ^ (cycL p p.length).length ≤ 10 ^ 10 := Nat.pow_le_pow_right (by omega) (Nat.le_trans (length_cycL_le p p.length) hl)
  simpa using this

end Go.Proofs.YtmdpfadfimodjaaDoor

/-
  castlaw.alike at ints.
-/
namespace Go.Proofs.YtmdpfadfimodjaaDoor
open Go.RowKit

end Go.Proofs.YtmdpfadfimodjaaDoor

/-
  Package perm at lists that Check refuses; perm.Times whatever it is handed; castlaw.alike.
-/
namespace Go.Proofs.YtmdpfadfimodjaaDoor
open Go.RowKit

/-- Nothing and an error come back. -/
def RetErr (w : World) (er : Int) (e : Ending) (w' : World) : Prop := e = .returned (.tuple #[.slice none 0 0, .int .i64 er]) ∧ Below w.heap.size w w'

set_option maxHeartbeats 400000 in
theorem inverse_err (A : Option Addr) (n c : Nat) (p : List Int) (w : World) (hA : Ints w A n p) (hp : permErr p ≠ 0) (hn : n ≤ 9223372036854775807) :
    Calls Tryd.prog 10 #[.slice A n c] w (RetErr w (permErr p)) := by
  have hne : (permErr p != 0) = true := by simpa using hp
  go_enter Tryd.func10, Tryd.ntmps10
  go_wp2_with fail
  refine (check_any A n c p _ hA hn).mono ?_
  rintro e w1 ⟨rfl, hb1⟩
  have HB1 := hid hb1
  clear hb1 hp
  go_wp2
  go_ret2
  exact ⟨rfl, HB1.out⟩

set_option maxHeartbeats 400000 in
theorem cycles_err (A : Option Addr) (n c : Nat) (p : List Int) (w : World) (hA : Ints w A n p) (hp : permErr p ≠ 0) (hn : n ≤ 9223372036854775807) :
    Calls Tryd.prog 11 #[.slice A n c] w (RetErr w (permErr p)) := by
  have hne : (permErr p != 0) = true := by simpa using hp
  go_enter Tryd.func11, Tryd.ntmps11
  go_wp2_with fail
  refine (check_any A n c p _ hA hn).mono ?_
  rintro e w1 ⟨rfl, hb1⟩
  have HB1 := hid hb1
  clear hb1 hp
  go_wp2
  go_ret2
  exact ⟨rfl, HB1.out⟩

set_option maxHeartbeats 400000 in
theorem order_err (A : Option Addr) (n c : Nat) (p : List Int) (w : World) (hA : Ints w A n p) (hp : permErr p ≠ 0) (hn : n ≤ 9223372036854775807) :
    Calls Tryd.prog 26 #[.slice A n c] w (RetOrder w 0 (permErr p)) := by
  have hne : (permErr p != 0) = true := by simpa using hp
  go_enter Tryd.func26, Tryd.ntmps26
  go_wp2_with fail
  refine (check_any A n c p _ hA hn).mono ?_
  rintro e w1 ⟨rfl, hb1⟩
  have HB1 := hid hb1
  clear hb1 hp
  go_wp2
  go_ret2
  exact ⟨rfl, HB1.out⟩

set_option maxHeartbeats 400000 in
theorem times_err1 (A : Option Addr) (n c : Nat) (B : Value) (a : List Int) (w : World) (hA : Ints w A n a) (ha : permErr a ≠ 0) (hn : n ≤ 9223372036854775807) :
    Calls Tryd.prog 8 #[.slice A n c, B] w (RetErr w (permErr a)) := by
  have hne : (permErr a != 0) = true := by simpa using ha
  go_enter Tryd.func8, Tryd.ntmps8
  go_wp2_with fail
  refine (check_any A n c a _ hA hn).mono ?_
  rintro e w1 ⟨rfl, hb1⟩
  have HB1 := hid hb1
  clear hb1 ha
  go_wp2
  go_ret2
  exact ⟨rfl, HB1.out⟩

set_option maxHeartbeats 400000 in
theorem times_err2 (A : Option Addr) (n c : Nat) (B : Option Addr) (m d : Nat) (a b : List Int) (w : World) (hA : Ints w A n a) (hB : Ints w B m b) (ha : permErr a = 0) (hb : permErr b ≠ 0) (hm : m ≤ 9223372036854775807) :
    Calls Tryd.prog 8 #[.slice A n c, .slice B m d] w (RetErr w (permErr b)) := by
  have hne : (permErr b != 0) = true := by simpa using hb
  have hn10 : n ≤ 10 := by rw [← hA.len]; exact (permErr_ok.1 ha).1
  go_enter Tryd.func8, Tryd.ntmps8
  go_wp2_with fail
  refine (check_any A n c a _ hA (by omega)).mono ?_
  rintro e w1 ⟨rfl, hb1⟩
  have hB1 := hB.keep hb1
  have HB1 := hid hb1
  clear hb1 hA hB
  go_wp2_with fail
  refine (check_any B m d b _ hB1 hm).mono ?_
  rintro e w2 ⟨rfl, hb2⟩
  have HB2 := hid (below_step HB1.out (Nat.le_refl _) hb2)
  clear hb2 hb
  go_wp2
  go_ret2
  exact ⟨rfl, HB2.out⟩

set_option maxHeartbeats 400000 in
theorem times_err3 (A : Option Addr) (n c : Nat) (B : Option Addr) (m d : Nat) (a b : List Int) (w : World) (hA : Ints w A n a) (hB : Ints w B m b) (ha : permErr a = 0) (hb : permErr b = 0) (hnm : n ≠ m) :
    Calls Tryd.prog 8 #[.slice A n c, .slice B m d] w (RetErr w 1) := by
  have hn10 : n ≤ 10 := by rw [← hA.len]; exact (permErr_ok.1 ha).1
  have hm10 : m ≤ 10 := by rw [← hB.len]; exact (permErr_ok.1 hb).1
  have hne : ((n : Int) != (m : Int)) = true := by simp; omega
  go_enter Tryd.func8, Tryd.ntmps8
  go_wp2_with fail
  refine (check_any A n c a _ hA (by omega)).mono ?_
  rintro e w1 ⟨rfl, hb1⟩
  have hB1 := hB.keep hb1
  have HB1 := hid hb1
  clear hb1 hA hB
  go_wp2_with fail
  refine (check_any B m d b _ hB1 (by omega)).mono ?_
  rintro e w2 ⟨rfl, hb2⟩
  have HB2 := hid (below_step HB1.out (Nat.le_refl _) hb2)
  clear hb2 hnm
  go_wp2
  go_ret2
  exact ⟨rfl, HB2.out⟩

/-- perm.Times, whatever it is handed. -/
theorem times_any (A : Option Addr) (n c : Nat) (B : Option Addr) (m d : Nat) (a b : List Int) (w : World) (hA : Ints w A n a) (hB : Ints w B m b) (hn : n ≤ 9223372036854775807) (hm : m ≤ 9223372036854775807) :
    Calls Tryd.prog 8 #[.slice A n c, .slice B m d] w (RetInts w (timesRes a b) (timesErr a b)) := by
  have bad : ∀ er, timesErr a b = er → er ≠ 0 → ∀ (e : Ending) (w' : World), RetErr w er e w' → RetInts w (timesRes a b) (timesErr a b) e w' := by
    rintro er he hne e w' ⟨rfl, hb⟩
    have hr : timesRes a b = [] := if_neg (by rw [he]; exact hne)
    rw [hr, he]
    exact ⟨none, 0, 0, rfl, hb, Ints.nil _ _, Nat.le_refl _, by omega⟩
  by_cases ha : permErr a = 0
  · by_cases hb : permErr b = 0
    · by_cases hl : a.length = b.length
      · have he : timesErr a b = 0 := by unfold timesErr; rw [if_pos ha, if_pos hb, if_pos hl]
        have hr : timesRes a b = times a b := if_pos he
        rw [hr, he]
        have hnm : m = n := by rw [← hA.len, ← hB.len, hl]
        subst hnm
        exact times_ok A m c B d a b w hA hB ha hb
      · have he : timesErr a b = 1 := by unfold timesErr; rw [if_pos ha, if_pos hb, if_neg hl]
        exact (times_err3 A n c B m d a b w hA hB ha hb (by rw [← hA.len, ← hB.len]; exact hl)).mono (fun e w' h => bad 1 he (by omega) e w' h)
    · have he : timesErr a b = permErr b := by unfold timesErr; rw [if_pos ha, if_neg hb]
      exact (times_err2 A n c B m d a b w hA hB ha hb hm).mono (fun e w' h => bad _ he hb e w' h)
  · have he : timesErr a b = permErr a := by unfold timesErr; rw [if_neg ha]
    exact (times_err1 A n c _ a w hA ha hn).mono (fun e w' h => bad _ he ha e w' h)

end Go.Proofs.YtmdpfadfimodjaaDoor

/-
  n! and castref.Factorial.
-/
namespace Go.Proofs.YtmdpfadfimodjaaDoor
open Go.RowKit

def fact : Nat → Nat
  | 0 => 1
  | n + 1 => (n + 1) * fact n

theorem fact_pos : ∀ n, 0 < fact n
  | 0 => by decide
  | n + 1 => Nat.mul_pos (by omega) (fact_pos n)
theorem fact_mono {a b : Nat} (h : a ≤ b) : fact a ≤ fact b := by
  induction h with
  | refl => exact Nat.le_refl _
  | step _ ih => exact Nat.le_trans ih (Nat.le_mul_of_pos_left _ (by omega))
theorem fact_ten {n : Nat} (h : n ≤ 10) : fact n ≤ 3628800 := Nat.le_trans (fact_mono h) (by decide)

end Go.Proofs.YtmdpfadfimodjaaDoor

/-
  Orders and their numbers: plain mathematics. Nothing of the program is proved here.
-/
namespace Go.Proofs.YtmdpfadfimodjaaDoor
open Go.RowKit

/-- How many of l are less than x. -/
def less (x : Int) (l : List Int) : Nat := l.countP (fun y => decide (y < x))
/-- Lehmer's code. -/
def codeL : List Int → List Int
  | [] => []
  | x :: l => (less x l : Int) :: codeL l
/-- The number of an order. -/
def rk : List Int → Nat
  | [] => 0
  | x :: l => less x l * fact l.length + rk l

theorem less_le (x : Int) (l : List Int) : less x l ≤ l.length := List.countP_le_length
theorem less_cons (x y : Int) (l : List Int) : less x (y :: l) = less x l + if y < x then 1 else 0 := by
  unfold less
  rw [List.countP_cons]
  by_cases h : y < x <;> simp [h]
theorem less_self (x : Int) (l : List Int) : less x (x :: l) = less x l := by rw [less_cons, if_neg (by omega)]; rfl
theorem less_append (x : Int) (l m : List Int) : less x (l ++ m) = less x l + less x m := List.countP_append
theorem less_perm {x : Int} {l l' : List Int} (h : l.Perm l') : less x l = less x l' := h.countP_eq _
theorem less_all {x : Int} {l : List Int} (h : ∀ y, y ∈ l → y < x) : less x l = l.length := by
  unfold less
  rw [List.countP_eq_length]
  intro y hy
  simpa using h y hy
theorem less_none {x : Int} {l : List Int} (h : ∀ y, y ∈ l → x ≤ y) : less x l = 0 := by
  unfold less
  rw [List.countP_eq_zero]
  intro y hy
  have := h y hy
  simp
  omega
theorem less_mono {x y : Int} (h : x ≤ y) (l : List Int) : less x l ≤ less y l := by
  refine List.countP_mono_left fun z _ hz => ?_
  have : z < x := by simpa using hz
  simp
  omega
theorem less_lt {x y : Int} (h : x < y) : ∀ {l : List Int}, x ∈ l → less x l < less y l
  | z :: l, hz => by
    rw [less_cons, less_cons]
    rcases List.mem_cons.1 hz with rfl | hz
    · rw [if_neg (by omega), if_pos h]
      have := less_mono (Int.le_of_lt h) l
      omega
    · have ih := less_lt h hz
      by_cases h1 : z < x
      · rw [if_pos h1, if_pos (by omega)]
        omega
      · rw [if_neg h1]
        split <;> omega

theorem length_codeL : ∀ l : List Int, (codeL l).length = l.length
  | [] => rfl
  | _ :: l => by simp [codeL, length_codeL l]
theorem getD_codeL : ∀ (l : List Int) (i : Nat), i < l.length → (codeL l).getD i 0 = (less (l.getD i 0) (l.drop (i + 1)) : Int)
  | [], _, h => absurd h (Nat.not_lt_zero _)
  | _ :: _, 0, _ => by simp [codeL]
  | _ :: l, i + 1, h => by
    have := getD_codeL l i (by simpa using h)
    simpa [codeL] using this

theorem rk_lt : ∀ l : List Int, rk l < fact l.length
  | [] => by decide
  | x :: l => by
    have ih := rk_lt l
    have h := Nat.mul_le_mul_right (fact l.length) (less_le x l)
    show less x l * fact l.length + rk l < (l.length + 1) * fact l.length
    rw [Nat.succ_mul]
    omega

/-! ### Digits -/

def val : List Int → Nat
  | [] => 0
  | d :: l => d.toNat * fact l.length + val l
theorem val_codeL : ∀ l : List Int, val (codeL l) = rk l
  | [] => rfl
  | x :: l => by simp only [codeL, val, rk, length_codeL, val_codeL l, Int.toNat_natCast]

/-- What the loop over the digits gathers. -/
theorem val_fold : ∀ (l : List Int) (acc : Nat), (∀ d, d ∈ l → 0 ≤ d) → (l.foldl (fun (a : Nat × Nat) d => (a.1 * a.2 + d.toNat, a.2 - 1)) (acc, l.length)).1 = acc * fact l.length + val l
  | [], acc, _ => by simp [fact, val]
  | d :: l, acc, h => by
    have ih := val_fold l (acc * (l.length + 1) + d.toNat) (fun x hx => h x (List.mem_cons_of_mem _ hx))
    rw [List.foldl_cons]
    show (l.foldl _ (acc * (l.length + 1) + d.toNat, l.length + 1 - 1)).1 = _
    rw [Nat.add_sub_cancel, ih]
    show _ = acc * ((l.length + 1) * fact l.length) + (d.toNat * fact l.length + val l)
    rw [Nat.add_mul, Nat.mul_assoc]
    omega

/-- The value of the first k digits, as the loop has it. -/
def part (l : List Int) : Nat → Nat
  | 0 => 0
  | k + 1 => part l k * (l.length - k) + (l.getD k 0).toNat
theorem part_val (l : List Int) : ∀ k, k ≤ l.length → part l k * fact (l.length - k) + val (l.drop k) = val l
  | 0, _ => by simp [part]
  | k + 1, h => by
    have ih := part_val l k (by omega)
    rw [List.drop_eq_getElem_cons (by omega)] at ih
    have e : l.length - k = (l.length - (k + 1)) + 1 := by omega
    have hg : l.getD k 0 = l[k] := by rw [List.getD_eq_getElem?_getD, List.getElem?_eq_getElem (by omega)]; rfl
    have hl : (l.drop (k + 1)).length = l.length - (k + 1) := by simp
    simp only [val, hl] at ih
    rw [← ih]
    simp only [part, hg]
    rw [Nat.add_mul, Nat.mul_assoc]
    rw [e]
    simp only [fact]
    omega
theorem part_le (l : List Int) {k : Nat} (hk : k ≤ l.length) : part l k ≤ val l := by
  have h := part_val l k hk
  have := Nat.le_mul_of_pos_right (part l k) (fact_pos (l.length - k))
  omega
theorem part_end (l : List Int) : part l l.length = val l := by
  have h := part_val l l.length (Nat.le_refl _)
  rw [Nat.sub_self, List.drop_of_length_le (Nat.le_refl _)] at h
  simpa [fact, val] using h

def IsDig : List Int → Prop
  | [] => True
  | d :: l => 0 ≤ d ∧ d ≤ l.length ∧ IsDig l
theorem isDig_codeL : ∀ l : List Int, IsDig (codeL l)
  | [] => trivial
  | x :: l => ⟨by omega, by have := less_le x l; rw [length_codeL]; omega, isDig_codeL l⟩
theorem IsDig.getD : ∀ {l : List Int}, IsDig l → ∀ i, i < l.length → 0 ≤ l.getD i 0 ∧ l.getD i 0 < l.length - i
  | _ :: _, h, 0, _ => by have := h.1; have := h.2.1; simp; omega
  | _ :: l, h, i + 1, hi => by
    have := IsDig.getD h.2.2 i (by simpa using hi)
    simp
    simp at this
    omega

/-- The last m digits of k. -/
def digL : Nat → Nat → List Int
  | 0, _ => []
  | m + 1, k => ((k / fact m % (m + 1) : Nat) : Int) :: digL m k
theorem length_digL : ∀ m k, (digL m k).length = m
  | 0, _ => rfl
  | m + 1, k => by simp [digL, length_digL m k]
theorem isDig_digL : ∀ m k, IsDig (digL m k)
  | 0, _ => trivial
  | m + 1, k => ⟨by omega, by have := Nat.mod_lt (k / fact m) (show 0 < m + 1 by omega); rw [length_digL]; omega, isDig_digL m k⟩
theorem getD_digL : ∀ m k i, i < m → (digL m k).getD i 0 = ((k / fact (m - 1 - i) % (m - i) : Nat) : Int)
  | m + 1, k, 0, _ => by simp [digL]
  | m + 1, k, i + 1, h => by
    have := getD_digL m k i (by omega)
    simp only [digL, List.getD_cons_succ, this]
    rw [show m + 1 - 1 - (i + 1) = m - 1 - i by omega, show m + 1 - (i + 1) = m - i by omega]
theorem val_digL : ∀ m k, val (digL m k) = k % fact m
  | 0, k => by simp [digL, val, fact, Nat.mod_one]
  | m + 1, k => by
    simp only [digL, val, length_digL, val_digL m k, fact, Int.toNat_natCast]
    rw [Nat.mul_comm (m + 1) (fact m), Nat.mod_mul, Nat.mul_comm (fact m)]
    omega
theorem fact_step (k j : Nat) : k / fact j / (j + 1) = k / fact (j + 1) := by
  rw [Nat.div_div_eq_div_mul, Nat.mul_comm (fact j)]
  rfl

/-! ### By digits out of what is left -/

def pick : List Int → List Int → List Int
  | _, [] => []
  | left, d :: ds => left.getD d.toNat 0 :: pick (left.eraseIdx d.toNat) ds
theorem length_pick : ∀ left ds, (pick left ds).length = ds.length
  | _, [] => rfl
  | left, d :: ds => by simp [pick, length_pick _ ds]
theorem perm_erase : ∀ {l : List Int} {i : Nat}, i < l.length → (l.getD i 0 :: l.eraseIdx i).Perm l
  | a :: l, 0, _ => by simp
  | a :: l, i + 1, h => by
    have ih := perm_erase (l := l) (i := i) (by simpa using h)
    rw [List.getD_cons_succ, List.eraseIdx_cons_succ]
    exact (List.Perm.swap _ _ _).trans (ih.cons a)
theorem pick_perm : ∀ {ds left : List Int}, left.length = ds.length → IsDig ds → (pick left ds).Perm left
  | [], left, hl, _ => by
    have : left = [] := List.eq_nil_of_length_eq_zero hl
    subst this
    exact .refl _
  | d :: ds, left, hl, h => by
    have hd : d.toNat < left.length := by have := h.1; have := h.2.1; simp at hl; omega
    have hl2 : (left.eraseIdx d.toNat).length = ds.length := by rw [List.length_eraseIdx, if_pos hd]; simp at hl; omega
    exact ((pick_perm hl2 h.2.2).cons _).trans (perm_erase hd)
theorem less_sorted : ∀ {l : List Int} {i : Nat}, l.Pairwise (· < ·) → i < l.length → less (l.getD i 0) l = i
  | a :: l, 0, h, _ => by
    rw [List.getD_cons_zero, less_self]
    exact less_none fun y hy => Int.le_of_lt ((List.pairwise_cons.1 h).1 y hy)
  | a :: l, i + 1, h, hi => by
    have hi' : i < l.length := by simpa using hi
    rw [List.getD_cons_succ, less_cons, less_sorted (List.pairwise_cons.1 h).2 hi', if_pos ((List.pairwise_cons.1 h).1 _ (getD_mem hi'))]
theorem codeL_pick : ∀ {ds left : List Int}, left.Pairwise (· < ·) → left.length = ds.length → IsDig ds → codeL (pick left ds) = ds
  | [], left, _, _, _ => rfl
  | d :: ds, left, hs, hl, h => by
    have hd : d.toNat < left.length := by have := h.1; have := h.2.1; simp at hl; omega
    have hl2 : (left.eraseIdx d.toNat).length = ds.length := by rw [List.length_eraseIdx, if_pos hd]; simp at hl; omega
    have hs2 : (left.eraseIdx d.toNat).Pairwise (· < ·) := hs.sublist (List.eraseIdx_sublist _ _)
    simp only [pick, codeL, codeL_pick hs2 hl2 h.2.2]
    congr 1
    rw [less_perm (pick_perm hl2 h.2.2), ← less_self, less_perm (perm_erase hd), less_sorted hs hd]
    have := h.1
    omega

theorem sorted_iotaP (n : Nat) : (iota n).Pairwise (· < ·) := by
  unfold iota
  rw [List.pairwise_map]
  exact List.pairwise_lt_range.imp (fun h => by omega)

/-- The order with the number k. -/
def atL (n k : Nat) : List Int := pick (iota n) (digL n k)
theorem length_atL (n k : Nat) : (atL n k).length = n := by rw [atL, length_pick, length_digL]
theorem isPerm_atL (n k : Nat) : IsPerm (atL n k) := by
  unfold IsPerm
  rw [length_atL]
  exact pick_perm (by rw [length_iota, length_digL]) (isDig_digL n k)
theorem rk_atL {n k : Nat} (h : k < fact n) : rk (atL n k) = k := by
  rw [← val_codeL, atL, codeL_pick (sorted_iotaP n) (by rw [length_iota, length_digL]) (isDig_digL n k), val_digL, Nat.mod_eq_of_lt h]

/-! ### The order of orders -/

theorem rk_first {x y : Int} {l m : List Int} (hp : (x :: l).Perm (y :: m)) (h : x < y) : rk (x :: l) < rk (y :: m) := by
  have hl : l.length = m.length := by simpa using hp.length_eq
  have h1 : less x l < less y m := by
    rw [← less_self x l, ← less_self y m, less_perm hp]
    exact less_lt h (hp.mem_iff.1 (List.mem_cons_self ..))
  have h2 := rk_lt l
  have h3 := Nat.mul_le_mul_right (fact l.length) (show less x l + 1 ≤ less y m by omega)
  rw [Nat.succ_mul] at h3
  simp only [rk, ← hl]
  omega
theorem rk_cmp : ∀ {l m : List Int}, l.Perm m → (l = m ∧ cmpL l m = 0) ∨ (cmpL l m = -1 ∧ rk l < rk m) ∨ (cmpL l m = 1 ∧ rk m < rk l)
  | [], m, h => by
    have : m = [] := List.nil_perm.1 h
    subst this
    exact .inl ⟨rfl, rfl⟩
  | x :: l, [], h => absurd h.length_eq (by simp)
  | x :: l, y :: m, h => by
    simp only [cmpL]
    by_cases h1 : x < y
    · rw [if_pos h1]
      exact .inr (.inl ⟨rfl, rk_first h h1⟩)
    · rw [if_neg h1]
      by_cases h2 : y < x
      · rw [if_pos h2]
        exact .inr (.inr ⟨rfl, rk_first h.symm h2⟩)
      · rw [if_neg h2]
        have e : x = y := by omega
        subst e
        have hp := h.cons_inv
        have hl := hp.length_eq
        have hx := less_perm (x := x) hp
        simp only [rk, hl, hx]
        rcases rk_cmp hp with ⟨e, h0⟩ | ⟨h0, h3⟩ | ⟨h0, h3⟩
        · exact .inl ⟨by rw [e], h0⟩
        · exact .inr (.inl ⟨h0, by omega⟩)
        · exact .inr (.inr ⟨h0, by omega⟩)
theorem rk_inj {l m : List Int} (h : l.Perm m) (e : rk l = rk m) : l = m := by
  rcases rk_cmp h with h | h | h
  · exact h.1
  · omega
  · omega
theorem cmp_lt {l m : List Int} (h : l.Perm m) : cmpL l m < 0 ↔ rk l < rk m := by
  rcases rk_cmp h with ⟨rfl, h⟩ | h | h
  · omega
  · omega
  · omega
theorem IsPerm.perm {a b : List Int} (ha : IsPerm a) (hb : IsPerm b) (hl : a.length = b.length) : a.Perm b := by
  unfold IsPerm at ha hb
  rw [hl] at ha
  exact ha.trans hb.symm
theorem atL_rk {p : List Int} (h : IsPerm p) : atL p.length (rk p) = p :=
  rk_inj ((isPerm_atL _ _).perm h (length_atL _ _)) (rk_atL (rk_lt p))

/-! ### The next one -/

theorem rk_falls : ∀ {l : List Int}, l.Pairwise (· > ·) → rk l + 1 = fact l.length
  | [], _ => rfl
  | x :: l, h => by
    have ih := rk_falls (List.pairwise_cons.1 h).2
    simp only [rk, List.length_cons, fact]
    rw [less_all (fun y hy => (List.pairwise_cons.1 h).1 y hy), Nat.succ_mul]
    omega
theorem rk_rises : ∀ {l : List Int}, l.Pairwise (· < ·) → rk l = 0
  | [], _ => rfl
  | x :: l, h => by
    simp only [rk]
    rw [less_none (fun y hy => Int.le_of_lt ((List.pairwise_cons.1 h).1 y hy)), rk_rises (List.pairwise_cons.1 h).2]
    omega
theorem rk_behind : ∀ (pre : List Int) {s s' : List Int}, s.Perm s' → rk (pre ++ s) + rk s' = rk (pre ++ s') + rk s
  | [], s, s', _ => by simp; omega
  | x :: pre, s, s', h => by
    have ih := rk_behind pre h
    have hp : (pre ++ s).Perm (pre ++ s') := h.append_left _
    simp only [List.cons_append, rk]
    rw [less_perm hp, hp.length_eq]
    omega
theorem next_core {x y : Int} {u v : List Int} (hf : (u ++ y :: v).Pairwise (· > ·)) (hxy : x < y) (hv : ∀ z, z ∈ v → z < x) :
    rk (y :: (u ++ x :: v).reverse) = rk (x :: (u ++ y :: v)) + 1 := by
  have hf1 := List.pairwise_append.1 hf
  have hf2 := List.pairwise_cons.1 hf1.2.1
  have huy : ∀ z, z ∈ u → y < z := fun z hz => hf1.2.2 z hz y (List.mem_cons_self ..)
  have h1 : less x (u ++ y :: v) = v.length := by
    rw [less_append, less_cons, less_none (fun z hz => by have := huy z hz; omega), less_all hv, if_neg (by omega)]
    omega
  have h2 : less y ((u ++ x :: v).reverse) = v.length + 1 := by
    rw [less_perm (List.reverse_perm _), less_append, less_cons, less_none (fun z hz => by have := huy z hz; omega), less_all (fun z hz => by have := hv z hz; omega), if_pos hxy]
    omega
  have h3 : (u ++ x :: v).reverse.Pairwise (· < ·) := by
    rw [List.pairwise_reverse]
    refine List.pairwise_append.2 ⟨hf1.1, List.pairwise_cons.2 ⟨fun z hz => hv z hz, hf2.2⟩, fun a ha b hb => ?_⟩
    rcases List.mem_cons.1 hb with rfl | hb
    · have := huy a ha; show b < a; omega
    · have := huy a ha; have := hv b hb; show b < a; omega
  have h4 := rk_falls hf
  have hl : ((u ++ x :: v).reverse).length = (u ++ y :: v).length := by simp; omega
  simp only [rk]
  rw [h1, h2, rk_rises h3, hl, Nat.succ_mul, ← h4]
  omega

/-! ### The other way round -/

theorem rk_turned {n : Int} : ∀ {l : List Int}, l.Nodup → rk l + rk (l.map (fun v => n - v)) + 1 = fact l.length
  | [], _ => rfl
  | x :: l, h => by
    have hn := List.nodup_cons.1 h
    have ih := rk_turned (n := n) hn.2
    have e : less x l + less (n - x) (l.map (fun v => n - v)) = l.length := by
      clear ih h
      have : x ∉ l := hn.1
      clear hn
      induction l with
      | nil => rfl
      | cons y l ih =>
        have hy : y ≠ x := fun e => this (by rw [e]; exact List.mem_cons_self ..)
        have ih := ih (fun h => this (List.mem_cons_of_mem _ h))
        rw [List.map_cons, less_cons, less_cons, List.length_cons]
        by_cases h1 : y < x
        · rw [if_pos h1, if_neg (by omega)]; omega
        · rw [if_neg h1, if_pos (by omega)]; omega
    simp only [List.map_cons, rk, List.length_map, List.length_cons, fact]
    rw [← ih] at *
    have h2 : less x l * (rk l + rk (l.map fun v => n - v) + 1) + less (n - x) (l.map fun v => n - v) * (rk l + rk (l.map fun v => n - v) + 1) = l.length * (rk l + rk (l.map fun v => n - v) + 1) := by rw [← Nat.add_mul, e]
    rw [Nat.succ_mul]
    omega

/-! ### By the first number -/

/-- What is left behind the first number, made an order. -/
def shut (x y : Int) : Int := if x < y then y - 1 else y
theorem rk_map {f : Int → Int} : ∀ {l : List Int}, (∀ a, a ∈ l → ∀ b, b ∈ l → (f a < f b ↔ a < b)) → rk (l.map f) = rk l
  | [], _ => rfl
  | x :: l, h => by
    have ih := rk_map (l := l) (fun a ha b hb => h a (List.mem_cons_of_mem _ ha) b (List.mem_cons_of_mem _ hb))
    have e : less (f x) (l.map f) = less x l := by
      unfold less
      rw [List.countP_map]
      refine List.countP_congr fun a ha => ?_
      have := h a (List.mem_cons_of_mem _ ha) x (List.mem_cons_self ..)
      simpa using this
    simp only [List.map_cons, rk, List.length_map, ih, e]
theorem rk_shut {x : Int} {l : List Int} (h : x ∉ l) : rk (l.map (shut x)) = rk l := by
  refine rk_map fun a ha b hb => ?_
  have h1 : a ≠ x := fun e => h (e ▸ ha)
  have h2 : b ≠ x := fun e => h (e ▸ hb)
  unfold shut
  split <;> split <;> omega
theorem less_perm_head {x : Int} {l : List Int} (h : IsPerm (x :: l)) : (less x l : Int) = x := by
  have hx := h.range (List.mem_cons_self ..)
  have e : less x (x :: l) = less x (iota (x :: l).length) := less_perm h
  obtain ⟨m, hm⟩ := Int.eq_ofNat_of_zero_le hx.1
  have h1 := less_sorted (sorted_iotaP (x :: l).length) (i := m) (by rw [length_iota]; omega)
  rw [getD_iota (by omega)] at h1
  rw [less_self] at e
  subst hm
  rw [e, h1]
theorem isPerm_shut {x : Int} {l : List Int} (h : IsPerm (x :: l)) : IsPerm (l.map (shut x)) := by
  have hn := List.nodup_cons.1 h.nodup
  have hx := h.range (List.mem_cons_self ..)
  refine isPerm_of_nodup ?_ ?_
  · unfold List.Nodup
    rw [List.pairwise_map]
    refine hn.2.imp_of_mem fun {a b} ha hb hab => ?_
    have h1 : a ≠ x := fun e => hn.1 (e ▸ ha)
    have h2 : b ≠ x := fun e => hn.1 (e ▸ hb)
    unfold shut
    split <;> split <;> omega
  · intro y hy
    obtain ⟨a, ha, rfl⟩ := List.mem_map.1 hy
    have h1 : a ≠ x := fun e => hn.1 (e ▸ ha)
    have h2 := h.range (List.mem_cons_of_mem _ ha)
    simp only [List.length_cons, List.length_map] at *
    unfold shut
    split <;> omega

end Go.Proofs.YtmdpfadfimodjaaDoor
