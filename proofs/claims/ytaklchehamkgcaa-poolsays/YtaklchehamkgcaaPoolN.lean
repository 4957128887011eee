/-
  Pools of all rows of lots, counted. Nothing of the program is proved here.
-/
import Derived.Test.YtaklchehamkgcaaPoolM
namespace Go.Proofs.Ytaklchehamkgcaa
open Go.RowKit

/-- The lots of the x-th try. -/
def ptL (n x : Nat) : List Int := (List.range n).map fun j : Nat => ((x / fact j % (j + 1) : Nat) : Int)
theorem ptL_len (n x : Nat) : (ptL n x).length = n := by simp [ptL]
theorem ptL_step (i x : Nat) : ptL (i + 1) x = ptL i x ++ [((x / fact i % (i + 1) : Nat) : Int)] := by simp [ptL, List.range_succ]
theorem ptL_get {n x j : Nat} (h : j < n) : (ptL n x).getD j 0 = ((x / fact j % (j + 1) : Nat) : Int) := by simp [ptL, List.getD_eq_getElem?_getD, h]
theorem ptL_lots (n x : Nat) : IsLots (ptL n x) := by
  intro j hj
  rw [ptL_len] at hj
  rw [ptL_get hj]
  have := Nat.mod_lt (x / fact j) (show 0 < j + 1 by omega)
  omega
theorem ptL_ok {k n : Nat} (x : Nat) (hk : 1 ≤ k ∧ k ≤ 12) (hn : n ≤ 30) : poErr (k : Int) (ptL n x) = 0 := poErr_good (by omega) (by rw [ptL_len]; exact hn) (ptL_lots n x)

/-- The pool of the x-th try, as plain numbers. -/
def qN (k x : Nat) : Nat → List Nat
  | 0 => []
  | m + 1 => if m < k then qN k x m ++ [m] else if x / fact m % (m + 1) < k then (qN k x m).set (x / fact m % (m + 1)) m else qN k x m
theorem pN_qN (k n x : Nat) : ∀ m, m ≤ n → pN k (ptL n x) m = (qN k x m).map fun v : Nat => (v : Int)
  | 0, _ => rfl
  | m + 1, h => by
    have ih := pN_qN k n x m (by omega)
    have hx := ptL_get (n := n) (x := x) (j := m) (by omega)
    unfold qN
    by_cases c : m < k
    · rw [if_pos c, pN_grow _ c, ih, List.map_append]
      rfl
    · rw [if_neg c]
      by_cases c2 : x / fact m % (m + 1) < k
      · rw [if_pos c2, pN_put (by omega) (by rw [hx]; omega), ih, hx, Int.toNat_natCast, List.map_set]
      · rw [if_neg c2, pN_pass (by omega) (by rw [hx]; omega), ih]

/-! ### Which things are in it, as bits -/
def mkF (l : List Int) : Nat := l.foldl (fun s v => s ||| 2 ^ v.toNat) 0
theorem mkF_fold (l : List Int) (i : Nat) : ∀ s : Nat, (l.foldl (fun s v => s ||| 2 ^ v.toNat) s).testBit i = (s.testBit i || decide (∃ v ∈ l, v.toNat = i)) := by
  induction l with
  | nil => intro s; simp
  | cons a t ih =>
    intro s
    rw [List.foldl_cons, ih, Nat.testBit_or, Nat.testBit_two_pow]
    by_cases h1 : s.testBit i = true
    · simp [h1]
    · by_cases h2 : a.toNat = i
      · simp [h2]
      · simp [h2]
theorem mkF_bit (l : List Int) (i : Nat) : (mkF l).testBit i = decide (∃ v ∈ l, v.toNat = i) := by
  unfold mkF
  rw [mkF_fold]
  simp
theorem mkF_perm {l l' : List Int} (h : l.Perm l') : mkF l = mkF l' := by
  refine Nat.eq_of_testBit_eq fun i => ?_
  rw [mkF_bit, mkF_bit]
  congr 1
  exact propext ⟨fun ⟨v, hv, e⟩ => ⟨v, h.mem_iff.1 hv, e⟩, fun ⟨v, hv, e⟩ => ⟨v, h.mem_iff.2 hv, e⟩⟩
theorem mkF_snoc {l : List Int} {j : Nat} (h : j < l.length) : mkF (l.take (j + 1)) = mkF (l.take j) ||| 2 ^ (l.getD j 0).toNat := by
  unfold mkF
  rw [take_snoc h, List.foldl_append]
  rfl
theorem mkF_lt {l : List Int} {n : Nat} (h : ∀ v ∈ l, 0 ≤ v ∧ v < (n : Int)) : mkF l < 2 ^ n := by
  refine Nat.lt_pow_two_of_testBit _ fun i hi => ?_
  rw [mkF_bit, decide_eq_false]
  rintro ⟨v, hv, e⟩
  have := h v hv
  omega
/-- One that is not yet among the first j has its bit off. -/
theorem mkF_off {l : List Int} {j v : Nat} (hn : l.Nodup) (h0 : ∀ v ∈ l, 0 ≤ v) (hj : j < l.length) (hv : l.getD j 0 = (v : Int)) : mkF (l.take j) / 2 ^ v % 2 = 0 := by
  have hb : (mkF (l.take j)).testBit v = false := by
    rw [mkF_bit, decide_eq_false]
    rintro ⟨u, hu, e⟩
    obtain ⟨a, ha, rfl⟩ := mem_getD hu
    rw [List.length_take] at ha
    have hau : (l.take j).getD a 0 = l.getD a 0 := by
      rw [List.getD_eq_getElem?_getD, List.getD_eq_getElem?_getD, List.getElem?_take, if_pos (by omega)]
    rw [hau] at e
    have h1 := h0 _ (getD_mem (show a < l.length by omega))
    exact nodup_iff_getD.1 hn a j (by omega) hj (by omega)
  rw [Nat.testBit_eq_decide_div_mod_eq] at hb
  have := Nat.mod_lt (mkF (l.take j) / 2 ^ v) (show 0 < 2 by omega)
  simp at hb
  omega
def mkN (l : List Nat) : Nat := l.foldl (fun s v => s ||| 2 ^ v) 0
theorem mkF_map (l : List Nat) : mkF (l.map fun v : Nat => (v : Int)) = mkN l := by
  unfold mkF mkN
  rw [List.foldl_map]
  rfl
/-- The set that the x-th try chooses. -/
def fP (n k x : Nat) : Nat := mkN (qN k x n)
theorem fP_eq (n k x : Nat) : mkF (upL (pN k (ptL n x) n)) = fP n k x := by
  rw [mkF_perm (upL_perm _), pN_qN k n x n (Nat.le_refl _), mkF_map]
  rfl
theorem fP_lt (n k x : Nat) : fP n k x < 2 ^ n := by
  rw [← fP_eq]
  exact mkF_lt fun v hv => pN_bd k _ n v (upL_mem.1 hv)

/-! ### How often each set comes -/
def cnP (f : Nat → Nat) : Nat → Nat → Nat
  | 0, _ => 0
  | x + 1, s => cnP f x s + if f x = s then 1 else 0
theorem cnP_le (f : Nat → Nat) (s : Nat) : ∀ x, cnP f x s ≤ x
  | 0 => Nat.le_refl _
  | x + 1 => by
    have := cnP_le f s x
    unfold cnP
    split <;> omega
def smP (g : Nat → Nat) : Nat → Nat
  | 0 => 0
  | m + 1 => smP g m + g m
theorem smP_one (g : Nat → Nat) (s : Nat) : ∀ m, smP (fun t => g t + if s = t then 1 else 0) m = smP g m + if s < m then 1 else 0
  | 0 => by simp [smP]
  | m + 1 => by
    rw [smP, smP, smP_one g s m]
    repeat' split
    all_goals omega
theorem smP_all {f : Nat → Nat} {m : Nat} (h : ∀ x, f x < m) : ∀ x, smP (cnP f x) m = x
  | 0 => by
    have : ∀ m, smP (cnP f 0) m = 0 := fun m => by
      induction m with
      | zero => rfl
      | succ m ih => rw [smP, ih]; rfl
    exact this m
  | x + 1 => by
    have e : cnP f (x + 1) = fun t => cnP f x t + if f x = t then 1 else 0 := rfl
    rw [e, smP_one, smP_all h x, if_pos (h x)]
theorem smP_mono (g : Nat → Nat) {a b : Nat} (h : a ≤ b) : smP g a ≤ smP g b := by
  induction h with
  | refl => exact Nat.le_refl _
  | step _ ih => exact Nat.le_trans ih (Nat.le_add_right _ _)

/-! ### Told by one great number -/
def dsP (g : Nat → Nat) : Nat → Nat
  | 0 => 0
  | m + 1 => g 0 + 1024 * dsP (fun s => g (s + 1)) m
theorem dsP_one : ∀ (m : Nat) (g : Nat → Nat) (s : Nat), s < m → dsP (fun t => g t + if s = t then 1 else 0) m = dsP g m + 1024 ^ s
  | 0, _, _, h => by omega
  | m + 1, g, 0, _ => by
    have h0 : ∀ (m : Nat) (g : Nat → Nat), dsP (fun t => g t + if (0 : Nat) = t + 1 then 1 else 0) m = dsP g m := fun m g => by
      congr 1
    rw [dsP, dsP, h0 m (fun s => g (s + 1))]
    simp
    omega
  | m + 1, g, s + 1, h => by
    have ih := dsP_one m (fun t => g (t + 1)) s (by omega)
    have e : (fun t => g (t + 1) + if s + 1 = t + 1 then 1 else 0) = (fun t => g (t + 1) + if s = t then 1 else 0) := by
      funext t
      congr 1
      simp
    rw [dsP, dsP, e, ih, Nat.pow_succ, if_neg (by omega)]
    omega
theorem dsP_zero : ∀ m, dsP (fun _ => 0) m = 0
  | 0 => rfl
  | m + 1 => by rw [dsP, dsP_zero m]
theorem dsP_unique : ∀ (m : Nat) (g h : Nat → Nat), (∀ s, g s < 1024) → (∀ s, h s < 1024) → dsP g m = dsP h m → ∀ s, s < m → g s = h s
  | 0, _, _, _, _, _, s, hs => by omega
  | m + 1, g, h, hg, hh, e, s, hs => by
    have a := hg 0
    have b := hh 0
    rw [dsP, dsP] at e
    have e0 : g 0 = h 0 := by omega
    match s, hs with
    | 0, _ => exact e0
    | s + 1, hs => exact dsP_unique m (fun s => g (s + 1)) (fun s => h (s + 1)) (fun s => hg (s + 1)) (fun s => hh (s + 1)) (by omega) s (by omega)
def eP (f : Nat → Nat) : Nat → Nat
  | 0 => 0
  | x + 1 => eP f x + 1024 ^ f x
theorem eP_ds {f : Nat → Nat} {m : Nat} (h : ∀ x, f x < m) : ∀ x, eP f x = dsP (cnP f x) m
  | 0 => (dsP_zero m).symm
  | x + 1 => by
    have e : cnP f (x + 1) = fun t => cnP f x t + if f x = t then 1 else 0 := rfl
    rw [eP, eP_ds h x, e, dsP_one m (cnP f x) (f x) (h x)]

/-- How many bits are on, of the first n. -/
def onP (s : Nat) : Nat → Nat
  | 0 => 0
  | i + 1 => onP s i + s / 2 ^ i % 2
def wantP (n k s : Nat) : Nat := if onP s n = min n k then wyN n k else 0
set_option maxRecDepth 1000000 in
theorem even_reckoned : ∀ n : Fin 7, ∀ k : Fin 7, eP (fP n.1 (k.1 + 1)) (fact n.1) = dsP (wantP n.1 (k.1 + 1)) (2 ^ n.1) ∧ wyN n.1 (k.1 + 1) ≤ 720 := by decide +kernel
theorem even_each {n k : Nat} (hn : n < 7) (hk : 1 ≤ k ∧ k ≤ 7) {s : Nat} (hs : s < 2 ^ n) : cnP (fP n k) (fact n) s = 0 ∨ cnP (fP n k) (fact n) s = wyN n k := by
  have h := even_reckoned ⟨n, hn⟩ ⟨k - 1, by omega⟩
  have ek : k - 1 + 1 = k := by omega
  simp only [ek] at h
  have hf : fact n ≤ 720 := Nat.le_trans (fact_mono (show n ≤ 6 by omega)) (by decide)
  have := dsP_unique (2 ^ n) (cnP (fP n k) (fact n)) (wantP n k) (fun s => by have := cnP_le (fP n k) s (fact n); omega) (fun s => by unfold wantP; split <;> omega) (by rw [← eP_ds (fP_lt n k)]; exact h.1) s hs
  rw [this]
  unfold wantP
  split
  · exact Or.inr rfl
  · exact Or.inl rfl

/-! ### How often one of them is kept -/
def ktP (n k i : Nat) : Nat → Nat
  | 0 => 0
  | x + 1 => ktP n k i x + if (qN k x n).contains i then 1 else 0
theorem ktP_le (n k i : Nat) : ∀ x, ktP n k i x ≤ x
  | 0 => Nat.le_refl _
  | x + 1 => by
    have := ktP_le n k i x
    unfold ktP
    split <;> omega
theorem kept_mem (n k x i : Nat) : decide ((i : Int) ∈ upL (pN k (ptL n x) n)) = (qN k x n).contains i := by
  have : ((i : Int) ∈ upL (pN k (ptL n x) n)) ↔ i ∈ qN k x n := by
    rw [upL_mem, pN_qN k n x n (Nat.le_refl _), List.mem_map]
    exact ⟨fun ⟨a, ha, e⟩ => by rw [← Int.ofNat_inj.1 e]; exact ha, fun h => ⟨i, h, rfl⟩⟩
  rw [Bool.eq_iff_iff]
  simp [this]
set_option maxRecDepth 1000000 in
theorem kept_reckoned : ∀ n : Fin 6, ∀ k : Fin 6, ∀ i : Fin 6, i.1 < n.1 + 1 → ktP (n.1 + 1) (k.1 + 1) i.1 (fact (n.1 + 1)) * (n.1 + 1) = fact (n.1 + 1) * min (k.1 + 1) (n.1 + 1) := by decide +kernel
theorem kept_all {n k i : Nat} (hn : 1 ≤ n ∧ n ≤ 6) (hk : 1 ≤ k ∧ k ≤ 6) (hi : i < n) : ktP n k i (fact n) * n = fact n * min k n := by
  have h := kept_reckoned ⟨n - 1, by omega⟩ ⟨k - 1, by omega⟩ ⟨i, by omega⟩
  have en : n - 1 + 1 = n := by omega
  have ek : k - 1 + 1 = k := by omega
  simp only [en, ek] at h
  exact h hi

end Go.Proofs.Ytaklchehamkgcaa
