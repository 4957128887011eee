/-
  POINCARE, BONFERRONI, BOOLE over cases with weights: plain mathematics. Nothing of the program is proved here.
-/
import Derived.Test.YtlepgeipcofapaaDoorEvC
namespace Go.Proofs.YtlepgeipcofapaaDoor
open Go.RowKit

/-- Which of the events have the case i, as a set of places. -/
def col : List Nat → Nat → Nat
  | [], _ => 0
  | x :: t, i => (if x.testBit i then 1 else 0) + 2 * col t i
theorem col_lt : ∀ (l : List Nat) (i : Nat), col l i < 2 ^ l.length
  | [], _ => by simp [col]
  | x :: t, i => by
    have h := col_lt t i
    rw [List.length_cons, Nat.pow_succ]
    simp only [col]
    split <;> omega
theorem col_bit : ∀ (l : List Nat) (i j : Nat), (col l i).testBit j = (l.getD j 0).testBit i
  | [], i, j => by simp [col]
  | x :: t, i, 0 => by
    simp only [col, Nat.testBit_zero, List.getD_cons_zero]
    cases x.testBit i
    · simp
    · simp
  | x :: t, i, j + 1 => by
    have h := col_bit t i j
    rw [List.getD_cons_succ, ← h, Nat.testBit_succ]
    simp only [col]
    congr 1
    split <;> omega
theorem occ_col : ∀ (l : List Nat) (i : Nat), (1 ≤ occ l i ↔ col l i ≠ 0)
  | [], i => by simp [occ, col]
  | x :: t, i => by
    have h := occ_col t i
    have h1 := bt_eq x i
    unfold bt at h1
    simp only [occ, col]
    have h2 : x / 2 ^ i % 2 < 2 := Nat.mod_lt _ (by omega)
    generalize x / 2 ^ i % 2 = b at *
    split at h1
    · rename_i c
      rw [if_pos c]
      constructor <;> intro _ <;> omega
    · rename_i c
      rw [if_neg c]
      obtain rfl : b = 0 := by omega
      rw [Nat.zero_add, Nat.zero_add, h]
      omega

/-- What the first i of the events that s names have in common. -/
def inn (all : Nat) (l : List Nat) (s : Nat) : Nat → Nat
  | 0 => all
  | i + 1 => if s / 2 ^ i % 2 = 1 then inn all l s i &&& l.getD i 0 else inn all l s i
theorem inn_lt {n all : Nat} {l : List Nat} (h : all < 2 ^ n) (s : Nat) : ∀ i, inn all l s i < 2 ^ n
  | 0 => h
  | i + 1 => by
    have h1 := inn_lt (l := l) h s i
    unfold inn
    split
    · exact and_lt h1
    · exact h1
theorem inn_bit (all : Nat) (l : List Nat) (s c : Nat) : ∀ i, (inn all l s i).testBit c = true ↔ (all.testBit c = true ∧ ∀ j, j < i → s.testBit j = true → (col l c).testBit j = true)
  | 0 => by simp [inn]
  | i + 1 => by
    have h := inn_bit all l s c i
    have h2 : s.testBit i = decide (s / 2 ^ i % 2 = 1) := Nat.testBit_eq_decide_div_mod_eq
    unfold inn
    by_cases e : s / 2 ^ i % 2 = 1
    · rw [if_pos e, Nat.testBit_and, Bool.and_eq_true, h, ← col_bit]
      constructor
      · rintro ⟨⟨h3, h4⟩, h5⟩
        refine ⟨h3, fun j hj hs => ?_⟩
        by_cases ej : j = i
        · subst ej; exact h5
        · exact h4 j (by omega) hs
      · rintro ⟨h3, h4⟩
        exact ⟨⟨h3, fun j hj hs => h4 j (by omega) hs⟩, h4 i (by omega) (by rw [h2]; exact decide_eq_true e)⟩
    · rw [if_neg e, h]
      constructor
      · rintro ⟨h3, h4⟩
        refine ⟨h3, fun j hj hs => ?_⟩
        by_cases ej : j = i
        · subst ej
          rw [h2, decide_eq_true_eq] at hs
          exact absurd hs e
        · exact h4 j (by omega) hs
      · rintro ⟨h3, h4⟩
        exact ⟨h3, fun j hj hs => h4 j (by omega) hs⟩
/-- 1 where the places of s are all among those of m. -/
def sI (s m : Nat) : Int := if s &&& m = s then 1 else 0
theorem sub_iff {s m k : Nat} (hs : s < 2 ^ k) : s &&& m = s ↔ ∀ j, j < k → s.testBit j = true → m.testBit j = true := by
  constructor
  · intro h j _ hj
    rw [← h, Nat.testBit_and, Bool.and_eq_true] at hj
    exact hj.2
  · intro h
    apply Nat.eq_of_testBit_eq
    intro j
    rw [Nat.testBit_and]
    by_cases hj : j < k
    · cases hb : s.testBit j with
      | false => rfl
      | true => rw [h j hj hb]; rfl
    · rw [Nat.testBit_lt_two_pow (Nat.lt_of_lt_of_le hs (Nat.pow_le_pow_right (by omega) (by omega)))]
      rfl
theorem wgt_inn (ws : List Int) (l : List Nat) {s : Nat} (hs : s < 2 ^ l.length) : wgt ws (inn (2 ^ ws.length - 1) l s l.length) = cw ws (fun i => sI s (col l i)) := by
  refine cw_congr (fun i hi => ?_)
  have h := inn_bit (2 ^ ws.length - 1) l s i l.length
  rw [← sub_iff hs, full_bit, decide_eq_true hi] at h
  unfold bt sI
  by_cases c : s &&& col l i = s
  · rw [if_pos c, if_pos (h.2 ⟨rfl, c⟩)]
  · rw [if_neg c, if_neg (fun hh => c (h.1 hh).2)]

/-- Of the sets below s with u places, how many lie in m. -/
def gS (m u : Nat) : Nat → Int
  | 0 => 0
  | s + 1 => gS m u s + if ones s = u then sI s m else 0
theorem gS_bd (m u : Nat) : ∀ s : Nat, 0 ≤ gS m u s ∧ gS m u s ≤ (s : Int)
  | 0 => by simp [gS]
  | s + 1 => by
    have h := gS_bd m u s
    unfold gS sI
    split
    · split <;> omega
    · omega
/-- + and - in turn. -/
def sgn1 (u : Nat) : Int := if u % 2 = 1 then 1 else -1
/-- Put in and left out in turn, up to t. -/
def bS (k m : Nat) : Nat → Int
  | 0 => 0
  | t + 1 => bS k m t + sgn1 (t + 1) * gS m (t + 1) (2 ^ k)
def jS (m : Nat) : Int := if m = 0 then 0 else 1
theorem sgn1_bd (u : Nat) {x C : Int} (h0 : 0 ≤ x) (h1 : x ≤ C) : -C ≤ sgn1 u * x ∧ sgn1 u * x ≤ C := by
  unfold sgn1
  split <;> omega
theorem bS_bd {k : Nat} (m : Nat) (hk : k ≤ 6) : ∀ t : Nat, -(64 * (t : Int)) ≤ bS k m t ∧ bS k m t ≤ 64 * (t : Int)
  | 0 => by simp [bS]
  | t + 1 => by
    have h := bS_bd m hk t
    have h1 := gS_bd m (t + 1) (2 ^ k)
    have h2 : 2 ^ k ≤ 64 := Nat.pow_le_pow_right (n := 2) (by omega) hk
    have h3 := sgn1_bd (t + 1) h1.1 (C := 64) (by omega)
    unfold bS
    omega

/-- The same, with the places counted by six bits. -/
def pop6 (s : Nat) : Nat := s % 2 + s / 2 % 2 + s / 4 % 2 + s / 8 % 2 + s / 16 % 2 + s / 32 % 2
theorem ones_pop6 : ∀ s, s < 64 → ones s = pop6 s := by decide +kernel
def gP (m u : Nat) : Nat → Int
  | 0 => 0
  | s + 1 => gP m u s + if pop6 s = u then sI s m else 0
theorem gP_eq (m u : Nat) : ∀ s, s ≤ 64 → gS m u s = gP m u s
  | 0, _ => rfl
  | s + 1, h => by
    unfold gS gP
    rw [gP_eq m u s (by omega), ones_pop6 s (by omega)]
def bP (k m : Nat) : Nat → Int
  | 0 => 0
  | t + 1 => bP k m t + sgn1 (t + 1) * gP m (t + 1) (2 ^ k)
theorem bP_eq {k : Nat} (m : Nat) (hk : k ≤ 6) : ∀ t, bS k m t = bP k m t
  | 0 => rfl
  | t + 1 => by
    have h2 : 2 ^ k ≤ 64 := Nat.pow_le_pow_right (n := 2) (by omega) hk
    unfold bS bP
    rw [bP_eq m hk t, gP_eq m _ _ h2]
def okB (k m t : Nat) : Bool := (t % 2 != 1 || decide (jS m ≤ bP k m t)) && (t % 2 != 0 || t == 0 || decide (bP k m t ≤ jS m)) && (t != k || bP k m t == jS m)
theorem bonferroni_tab : ((List.range 7).all fun k => (List.range (2 ^ k)).all fun m => (List.range (k + 1)).all fun t => okB k m t) = true := by decide +kernel
theorem bonferroni_at {k m t : Nat} (hk : k ≤ 6) (hm : m < 2 ^ k) (ht : t ≤ k) : okB k m t = true := by
  have h := bonferroni_tab
  rw [List.all_eq_true] at h
  have h := h k (List.mem_range.2 (by omega))
  rw [List.all_eq_true] at h
  have h := h m (List.mem_range.2 hm)
  rw [List.all_eq_true] at h
  exact h t (List.mem_range.2 (by omega))
theorem bonf_odd {k m t : Nat} (hk : k ≤ 6) (hm : m < 2 ^ k) (ht : t ≤ k) (h : t % 2 = 1) : jS m ≤ bS k m t := by
  have h1 := bonferroni_at hk hm ht
  unfold okB at h1
  rw [bP_eq m hk]
  simp [h] at h1
  exact h1.1
theorem bonf_even {k m t : Nat} (hk : k ≤ 6) (hm : m < 2 ^ k) (ht : t ≤ k) (h : t % 2 = 0) (h0 : t ≠ 0) : bS k m t ≤ jS m := by
  have h1 := bonferroni_at hk hm ht
  unfold okB at h1
  rw [bP_eq m hk]
  simp [h, h0] at h1
  exact h1.1
theorem poincare {k m : Nat} (hk : k ≤ 6) (hm : m < 2 ^ k) : bS k m k = jS m := by
  have h1 := bonferroni_at hk hm (Nat.le_refl k)
  unfold okB at h1
  rw [bP_eq m hk]
  simp at h1
  exact h1.2

/-- The sum when sizes below t + 1 are done, and of the sets of t + 1 places those below s. -/
def smS (ws : List Int) (l : List Nat) (t s : Nat) : Int := cw ws (fun i => bS l.length (col l i) t + sgn1 (t + 1) * gS (col l i) (t + 1) s)
def smA (ws : List Int) (l : List Nat) (t : Nat) : Int := cw ws (fun i => bS l.length (col l i) t)
def anyS (ws : List Int) (l : List Nat) : Int := cw ws (fun i => jS (col l i))
theorem smS_zero (ws : List Int) (l : List Nat) (t : Nat) : smS ws l t 0 = smA ws l t := cw_congr fun i _ => by simp [gS]
theorem smS_all (ws : List Int) (l : List Nat) (t : Nat) : smS ws l t (2 ^ l.length) = smA ws l (t + 1) := rfl
theorem smA_zero (ws : List Int) (l : List Nat) : smA ws l 0 = 0 := cw_zero ws
theorem smS_skip (ws : List Int) (l : List Nat) (t : Nat) {s : Nat} (h : ones s ≠ t + 1) : smS ws l t (s + 1) = smS ws l t s := cw_congr fun i _ => by
  show _ + sgn1 (t + 1) * gS (col l i) (t + 1) (s + 1) = _
  rw [gS, if_neg h, Int.add_zero]
theorem smS_step (ws : List Int) (l : List Nat) (t : Nat) {s : Nat} (hs : s < 2 ^ l.length) (h : ones s = t + 1) : smS ws l t (s + 1) = smS ws l t s + sgn1 (t + 1) * wgt ws (inn (2 ^ ws.length - 1) l s l.length) := by
  rw [wgt_inn ws l hs, ← cw_smul]
  unfold smS
  rw [← cw_add]
  refine cw_congr fun i _ => ?_
  show _ + sgn1 (t + 1) * gS (col l i) (t + 1) (s + 1) = _
  rw [gS, if_pos h, Int.mul_add]
  omega
theorem smS_odd (ws : List Int) (l : List Nat) (t : Nat) {s : Nat} (hs : s < 2 ^ l.length) (h : ones s = t + 1) (ho : (t + 1) % 2 = 1) : smS ws l t (s + 1) = smS ws l t s + wgt ws (inn (2 ^ ws.length - 1) l s l.length) := by
  rw [smS_step ws l t hs h, sgn1, if_pos ho, Int.one_mul]
theorem smS_even (ws : List Int) (l : List Nat) (t : Nat) {s : Nat} (hs : s < 2 ^ l.length) (h : ones s = t + 1) (ho : ¬ (t + 1) % 2 = 1) : smS ws l t (s + 1) = smS ws l t s - wgt ws (inn (2 ^ ws.length - 1) l s l.length) := by
  rw [smS_step ws l t hs h, sgn1, if_neg ho]
  omega
theorem cw_const (C : Int) (ws : List Int) : cw ws (fun _ => C) = C * totW ws := by
  rw [totW, ← cw_smul]
  exact cw_congr fun i _ => (Int.mul_one C).symm
theorem cw_bd {ws : List Int} (hS : Space ws) {f : Nat → Int} (h : ∀ i, i < ws.length → -500 ≤ f i ∧ f i ≤ 500) : -600000 ≤ cw ws f ∧ cw ws f ≤ 600000 := by
  have h1 := cw_mono (f := fun _ => -500) (g := f) hS.nonneg (fun i hi => (h i hi).1)
  have h2 := cw_mono (f := f) (g := fun _ => 500) hS.nonneg (fun i hi => (h i hi).2)
  rw [cw_const] at h1 h2
  have := hS.totW
  omega
theorem smS_bd {ws : List Int} (hS : Space ws) {l : List Nat} (hl : l.length ≤ 6) {t s : Nat} (ht : t ≤ 6) (hs : s ≤ 2 ^ l.length) : -600000 ≤ smS ws l t s ∧ smS ws l t s ≤ 600000 := by
  refine cw_bd hS fun i _ => ?_
  have h2 : 2 ^ l.length ≤ 64 := Nat.pow_le_pow_right (n := 2) (by omega) hl
  have h1 := gS_bd (col l i) (t + 1) s
  have h3 := sgn1_bd (t + 1) h1.1 (C := 64) (by omega)
  have h4 := bS_bd (col l i) hl t
  omega
theorem any_wgt (ws : List Int) (l : List Nat) : wgt ws (enM l 1 ws.length) = anyS ws l := by
  rw [wgt_enM]
  refine cw_congr fun i _ => ?_
  have h := occ_col l i
  unfold enI jS
  by_cases c : col l i = 0
  · rw [if_pos c, if_neg]
    intro hh
    exact (h.1 (by omega)) c
  · rw [if_neg c, if_pos]
    have := h.2 c
    omega
theorem sm_odd {ws : List Int} (hS : Space ws) {l : List Nat} (hl : l.length ≤ 6) {t : Nat} (ht : t ≤ l.length) (h : t % 2 = 1) : anyS ws l ≤ smA ws l t :=
  cw_mono hS.nonneg fun i _ => bonf_odd hl (col_lt l i) ht h
theorem sm_even {ws : List Int} (hS : Space ws) {l : List Nat} (hl : l.length ≤ 6) {t : Nat} (ht : t ≤ l.length) (h : t % 2 = 0) (h0 : t ≠ 0) : smA ws l t ≤ anyS ws l :=
  cw_mono hS.nonneg fun i _ => bonf_even hl (col_lt l i) ht h h0
theorem sm_all {ws : List Int} {l : List Nat} (hl : l.length ≤ 6) : smA ws l l.length = anyS ws l :=
  cw_congr fun i _ => poincare hl (col_lt l i)

/-- A ratio of weights, times all of them. -/
theorem ratio_back (x : Int) {t : Int} (ht : 1 ≤ t) : (Rat.divInt x t).num * (t / ((Rat.divInt x t).den : Int)) = x ∧ t % ((Rat.divInt x t).den : Int) = 0 := by
  have hg : (0 : Int) < (Int.gcd x t : Int) := by
    have : 0 < Int.gcd x t := Int.gcd_pos_of_ne_zero_right _ (by omega)
    omega
  have h1 := low_num x t (by omega)
  have h2 := low_den x t (by omega)
  rw [if_neg (by omega)] at h1 h2
  obtain ⟨a, ha⟩ : (Int.gcd x t : Int) ∣ x := Int.gcd_dvd_left ..
  obtain ⟨b, hb⟩ : (Int.gcd x t : Int) ∣ t := Int.gcd_dvd_right ..
  have e1 : (Rat.divInt x t).num = a := by
    rw [← h1]
    conv => lhs; lhs; rw [ha]
    exact Int.mul_tdiv_cancel_left _ (by omega)
  have e2 : ((Rat.divInt x t).den : Int) = b := by
    rw [← h2]
    conv => lhs; lhs; rw [hb]
    exact Int.mul_tdiv_cancel_left _ (by omega)
  have hb0 : b ≠ 0 := by
    rintro rfl
    rw [Int.mul_zero] at hb
    omega
  rw [e1, e2]
  have e3 : t / b = (Int.gcd x t : Int) := by
    conv => lhs; lhs; rw [hb]
    exact Int.mul_ediv_cancel _ hb0
  have e4 : t % b = 0 := by
    conv => lhs; lhs; rw [hb]
    exact Int.mul_emod_left _ _
  exact ⟨by rw [e3, Int.mul_comm, ← ha], e4⟩
end Go.Proofs.YtlepgeipcofapaaDoor
