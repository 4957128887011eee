/-
  Events as numbers, their weights: plain mathematics. Nothing of the program is proved here.
-/
import Derived.Test.YtlepgeipcofapaaDoorSubM
namespace Go.Proofs.YtlepgeipcofapaaDoor
open Go.RowKit

/-- The sum of the weights, each as often as f says. -/
def cw : List Int → (Nat → Int) → Int
  | [], _ => 0
  | x :: l, f => x * f 0 + cw l (fun i => f (i + 1))
theorem cw_congr : ∀ {l : List Int} {f g : Nat → Int}, (∀ i, i < l.length → f i = g i) → cw l f = cw l g
  | [], _, _, _ => rfl
  | x :: l, f, g, h => by
    have h0 := h 0 (by simp)
    have h1 := cw_congr (l := l) (f := fun i => f (i + 1)) (g := fun i => g (i + 1)) (fun i hi => h (i + 1) (by simp; omega))
    simp only [cw, h0, h1]
theorem cw_add : ∀ (l : List Int) (f g : Nat → Int), cw l (fun i => f i + g i) = cw l f + cw l g
  | [], _, _ => rfl
  | x :: l, f, g => by
    have h1 := cw_add l (fun i => f (i + 1)) (fun i => g (i + 1))
    simp only [cw, h1, Int.mul_add]
    omega
theorem cw_sub : ∀ (l : List Int) (f g : Nat → Int), cw l (fun i => f i - g i) = cw l f - cw l g
  | [], _, _ => rfl
  | x :: l, f, g => by
    have h1 := cw_sub l (fun i => f (i + 1)) (fun i => g (i + 1))
    simp only [cw, h1, Int.mul_sub]
    omega
theorem cw_smul (c : Int) : ∀ (l : List Int) (f : Nat → Int), cw l (fun i => c * f i) = c * cw l f
  | [], _ => by simp [cw]
  | x :: l, f => by
    have h1 := cw_smul c l (fun i => f (i + 1))
    simp only [cw, h1, Int.mul_add]
    rw [Int.mul_left_comm]
theorem cw_zero : ∀ (l : List Int), cw l (fun _ => 0) = 0
  | [] => rfl
  | x :: l => by simp [cw, cw_zero l]
theorem cw_mono : ∀ {l : List Int} {f g : Nat → Int}, (∀ x ∈ l, 0 ≤ x) → (∀ i, i < l.length → f i ≤ g i) → cw l f ≤ cw l g
  | [], _, _, _, _ => Int.le_refl _
  | x :: l, f, g, hx, h => by
    have h0 := Int.mul_le_mul_of_nonneg_left (h 0 (by simp)) (hx x (by simp))
    have h1 := cw_mono (l := l) (f := fun i => f (i + 1)) (g := fun i => g (i + 1)) (fun y hy => hx y (by simp [hy])) (fun i hi => h (i + 1) (by simp; omega))
    simp only [cw]
    omega
theorem cw_take : ∀ {l : List Int} (f : Nat → Int) {k : Nat}, k < l.length → cw (l.take (k + 1)) f = cw (l.take k) f + l.getD k 0 * f k
  | [], _, _, h => absurd h (by simp)
  | x :: l, f, 0, _ => by simp [cw]
  | x :: l, f, k + 1, h => by
    have h1 := cw_take (l := l) (fun i => f (i + 1)) (k := k) (by simpa using h)
    simp only [List.take_succ_cons, cw, List.getD_cons_succ] at h1 ⊢
    rw [h1]
    omega
theorem cw_one : ∀ {l : List Int} {f g : Nat → Int} {k : Nat}, k < l.length → (∀ i, i < l.length → i ≠ k → f i = g i) → cw l f = cw l g + l.getD k 0 * (f k - g k)
  | [], _, _, _, h, _ => absurd h (by simp)
  | x :: l, f, g, 0, _, h => by
    have h1 := cw_congr (l := l) (f := fun i => f (i + 1)) (g := fun i => g (i + 1)) (fun i hi => h (i + 1) (by simp; omega) (by omega))
    simp only [cw, h1, List.getD_cons_zero, Int.mul_sub]
    omega
  | x :: l, f, g, k + 1, hk, h => by
    have h0 := h 0 (by simp) (by omega)
    have h1 := cw_one (l := l) (f := fun i => f (i + 1)) (g := fun i => g (i + 1)) (k := k) (by simpa using hk) (fun i hi hn => h (i + 1) (by simp; omega) (by omega))
    simp only [cw, h0, List.getD_cons_succ] at h1 ⊢
    rw [h1]
    omega

/-- All weights. -/
def totW (ws : List Int) : Int := cw ws (fun _ => 1)
/-- The case i is in the event s: 1, or 0. -/
def bt (s i : Nat) : Int := if s.testBit i then 1 else 0
theorem bt_eq (s i : Nat) : ((s / 2 ^ i % 2 : Nat) : Int) = bt s i := by
  unfold bt
  rw [Nat.testBit_eq_decide_div_mod_eq]
  have h : s / 2 ^ i % 2 < 2 := Nat.mod_lt _ (by omega)
  generalize s / 2 ^ i % 2 = b at *
  by_cases hb : b = 1
  · subst hb; rfl
  · obtain rfl : b = 0 := by omega
    rfl
theorem bt_bd (s i : Nat) : 0 ≤ bt s i ∧ bt s i ≤ 1 := by unfold bt; split <;> omega
/-- The weight of an event. -/
def wgt (ws : List Int) (s : Nat) : Int := cw ws (bt s)
theorem wgt_zero (ws : List Int) : wgt ws 0 = 0 := by
  refine Eq.trans (cw_congr (g := fun _ => 0) (fun i _ => ?_)) (cw_zero ws)
  simp [bt]
theorem full_bit (n i : Nat) : (2 ^ n - 1).testBit i = decide (i < n) := Nat.testBit_two_pow_sub_one n i
theorem wgt_full (ws : List Int) : wgt ws (2 ^ ws.length - 1) = totW ws := by
  refine cw_congr (fun i hi => ?_)
  unfold bt
  rw [full_bit, decide_eq_true hi]
  rfl
theorem not_bit {b : Nat} (hb : b < 65536) (i : Nat) : (65535 - b).testBit i = (decide (i < 16) && !b.testBit i) := by
  rw [show 65535 - b = 2 ^ 16 - (b + 1) by omega, Nat.testBit_two_pow_sub_succ hb]
theorem bt_and (a b i : Nat) : bt (a &&& b) i = bt a i * bt b i := by
  unfold bt
  rw [Nat.testBit_and]
  cases a.testBit i <;> cases b.testBit i <;> rfl
theorem bt_not (a : Nat) {b i : Nat} (hb : b < 65536) (hi : i < 16) : bt (a &&& (65535 - b)) i = bt a i - bt (a &&& b) i := by
  unfold bt
  rw [Nat.testBit_and, Nat.testBit_and, not_bit hb, decide_eq_true hi]
  cases a.testBit i <;> cases b.testBit i <;> rfl
/-- What is in a but not in b. -/
theorem wgt_not (ws : List Int) (a : Nat) {b : Nat} (hb : b < 65536) (hl : ws.length ≤ 16) : wgt ws (a &&& (65535 - b)) = wgt ws a - wgt ws (a &&& b) := by
  rw [wgt, wgt, wgt, ← cw_sub]
  exact cw_congr (fun i hi => bt_not a hb (by omega))
theorem full_and {n b : Nat} (hb : b < 2 ^ n) : (2 ^ n - 1) &&& b = b := by
  rw [Nat.and_comm, Nat.and_two_pow_sub_one_eq_mod, Nat.mod_eq_of_lt hb]
theorem wgt_other (ws : List Int) {b : Nat} (hb : b < 2 ^ ws.length) (hl : ws.length ≤ 16) : wgt ws ((2 ^ ws.length - 1) &&& (65535 - b)) = totW ws - wgt ws b := by
  have h : 2 ^ ws.length ≤ 2 ^ 16 := Nat.pow_le_pow_right (by omega) hl
  rw [wgt_not ws _ (by omega) hl, full_and hb, wgt_full]
theorem wgt_apart (ws : List Int) {a b : Nat} (hb : b < 2 ^ ws.length) (hl : ws.length ≤ 16) : wgt ws (a &&& ((2 ^ ws.length - 1) &&& (65535 - b))) = wgt ws a - wgt ws (a &&& b) := by
  have h : 2 ^ ws.length ≤ 2 ^ 16 := Nat.pow_le_pow_right (by omega) hl
  rw [← wgt_not ws a (by omega) hl]
  refine cw_congr (fun i hi => ?_)
  unfold bt
  rw [Nat.testBit_and, Nat.testBit_and, full_bit, decide_eq_true hi, Bool.true_and, ← Nat.testBit_and]
theorem wgt_nonneg {ws : List Int} (hw : ∀ x ∈ ws, 0 ≤ x) (s : Nat) : 0 ≤ wgt ws s := by
  rw [← cw_zero ws]
  exact cw_mono hw (fun i _ => (bt_bd s i).1)
theorem wgt_le {ws : List Int} (hw : ∀ x ∈ ws, 0 ≤ x) (s : Nat) : wgt ws s ≤ totW ws := cw_mono hw (fun i _ => (bt_bd s i).2)
theorem wgt_and_le {ws : List Int} (hw : ∀ x ∈ ws, 0 ≤ x) (a b : Nat) : wgt ws (a &&& b) ≤ wgt ws b := by
  refine cw_mono hw (fun i _ => ?_)
  rw [bt_and]
  unfold bt
  split <;> split <;> omega
theorem totW_bd : ∀ {ws : List Int}, (∀ x ∈ ws, 1 ≤ x ∧ x ≤ 100) → (ws.length : Int) ≤ totW ws ∧ totW ws ≤ 100 * (ws.length : Int)
  | [], _ => by simp [totW, cw]
  | x :: l, h => by
    have h0 := h x (by simp)
    have h1 := totW_bd (ws := l) (fun y hy => h y (by simp [hy]))
    simp only [totW, cw, List.length_cons] at h1 ⊢
    omega
theorem le_cw_one {l : List Int} {f : Nat → Int} {k : Nat} (hl : ∀ x ∈ l, 0 ≤ x) (hk : k < l.length) (hf : ∀ i, i < l.length → 0 ≤ f i) (h1 : 1 ≤ f k) : l.getD k 0 ≤ cw l f := by
  have h := cw_one (l := l) (f := fun i => if i = k then 1 else 0) (g := fun _ => 0) hk (fun i _ hne => if_neg hne)
  have h2 := cw_mono (l := l) (f := fun i => if i = k then 1 else 0) (g := f) hl (fun i hi => by
    by_cases e : i = k
    · subst e; rw [if_pos rfl]; exact h1
    · rw [if_neg e]; exact hf i hi)
  rw [h, cw_zero] at h2
  simp at h2
  exact h2
theorem wgt_pos {ws : List Int} {s : Nat} (hw : ∀ x ∈ ws, 1 ≤ x ∧ x ≤ 100) (hs : s < 2 ^ ws.length) (h0 : s ≠ 0) : 1 ≤ wgt ws s := by
  obtain ⟨k, hk⟩ : ∃ k, s.testBit k = true := Nat.exists_testBit_of_ne_zero h0
  have hkl : k < ws.length := by
    apply Classical.byContradiction
    intro h
    rw [Nat.testBit_lt_two_pow (Nat.lt_of_lt_of_le hs (Nat.pow_le_pow_right (by omega) (by omega)))] at hk
    cases hk
  have h1 := le_cw_one (l := ws) (f := bt s) (fun x hx => by have := hw x hx; omega) hkl (fun i _ => (bt_bd s i).1) (by unfold bt; rw [if_pos hk]; exact Int.le_refl _)
  have h2 := hw (ws.getD k 0) (by rw [List.getD_eq_getElem?_getD, List.getElem?_eq_getElem hkl]; exact List.getElem_mem hkl)
  show 1 ≤ cw ws (bt s)
  omega

/-! What is refused. -/
def wOk (x : Int) : Bool := decide (1 ≤ x ∧ x ≤ 100)
def casesErr (ws : List Int) (l : List Nat) : Int :=
  if ws.length < 1 ∨ 12 < ws.length then 2 else if ws.all wOk = false then 1 else if l.all (fun s => decide (s < 2 ^ ws.length)) = false then 3 else 0
theorem casesErr_large {ws : List Int} (l : List Nat) (h : ws.length < 1 ∨ 12 < ws.length) : casesErr ws l = 2 := if_pos h
theorem casesErr_arg {ws : List Int} (l : List Nat) (h1 : ¬ (ws.length < 1 ∨ 12 < ws.length)) {j : Nat} (hj : j < ws.length) (h : wOk (ws.getD j 0) = false) : casesErr ws l = 1 := by
  unfold casesErr
  rw [if_neg h1, if_pos]
  rw [List.all_eq_false]
  exact ⟨_, List.getElem_mem hj, by rw [List.getD_eq_getElem?_getD, List.getElem?_eq_getElem hj] at h; simpa using h⟩
theorem all_wOk {ws : List Int} (h : ∀ j, j < ws.length → wOk (ws.getD j 0) = true) : ws.all wOk = true := by
  rw [List.all_eq_true]
  intro x hx
  obtain ⟨j, hj, rfl⟩ := List.getElem_of_mem hx
  have := h j hj
  rw [List.getD_eq_getElem?_getD, List.getElem?_eq_getElem hj] at this
  simpa using this
theorem casesErr_form {ws : List Int} {l : List Nat} (h1 : ¬ (ws.length < 1 ∨ 12 < ws.length)) (h2 : ws.all wOk = true) {j : Nat} (hj : j < l.length) (h : ¬ l.getD j 0 < 2 ^ ws.length) : casesErr ws l = 3 := by
  unfold casesErr
  rw [if_neg h1, if_neg (by rw [h2]; simp), if_pos]
  rw [List.all_eq_false]
  exact ⟨_, List.getElem_mem hj, by rw [List.getD_eq_getElem?_getD, List.getElem?_eq_getElem hj] at h; simpa using h⟩
theorem casesErr_ok {ws : List Int} {l : List Nat} (h1 : ¬ (ws.length < 1 ∨ 12 < ws.length)) (h2 : ws.all wOk = true) (h : ∀ j, j < l.length → l.getD j 0 < 2 ^ ws.length) : casesErr ws l = 0 := by
  unfold casesErr
  rw [if_neg h1, if_neg (by rw [h2]; simp), if_neg]
  rw [Bool.not_eq_false, List.all_eq_true]
  intro x hx
  obtain ⟨j, hj, rfl⟩ := List.getElem_of_mem hx
  have := h j hj
  rw [List.getD_eq_getElem?_getD, List.getElem?_eq_getElem hj] at this
  simpa using this
/-- A space that is not refused. -/
structure Space (ws : List Int) : Prop where
  lo : 1 ≤ ws.length
  hi : ws.length ≤ 12
  w : ∀ x ∈ ws, 1 ≤ x ∧ x ≤ 100
theorem casesErr_zero {ws : List Int} {l : List Nat} (h : casesErr ws l = 0) : Space ws ∧ ∀ s ∈ l, s < 2 ^ ws.length := by
  unfold casesErr at h
  by_cases h1 : ws.length < 1 ∨ 12 < ws.length
  · rw [if_pos h1] at h; cases h
  · rw [if_neg h1] at h
    by_cases h2 : ws.all wOk = false
    · rw [if_pos h2] at h; cases h
    · rw [if_neg h2] at h
      by_cases h3 : l.all (fun s => decide (s < 2 ^ ws.length)) = false
      · rw [if_pos h3] at h; cases h
      · rw [Bool.not_eq_false, List.all_eq_true] at h2 h3
        exact ⟨⟨by omega, by omega, fun x hx => of_decide_eq_true (h2 x hx)⟩, fun s hs => of_decide_eq_true (h3 s hs)⟩
theorem casesErr_space {ws : List Int} {l : List Nat} (h : Space ws) (hl : ∀ s ∈ l, s < 2 ^ ws.length) : casesErr ws l = 0 :=
  casesErr_ok (by have := h.lo; have := h.hi; omega) (all_wOk fun j hj => decide_eq_true (h.w _ (by rw [List.getD_eq_getElem?_getD, List.getElem?_eq_getElem hj]; exact List.getElem_mem hj)))
    (fun j hj => hl _ (by rw [List.getD_eq_getElem?_getD, List.getElem?_eq_getElem hj]; exact List.getElem_mem hj))
theorem Space.nonneg {ws : List Int} (h : Space ws) : ∀ x ∈ ws, 0 ≤ x := fun x hx => by have := h.w x hx; omega
theorem Space.pow {ws : List Int} (h : Space ws) : 2 ^ ws.length ≤ 4096 := Nat.pow_le_pow_right (n := 2) (by omega) h.hi
theorem Space.totW {ws : List Int} (h : Space ws) : 1 ≤ totW ws ∧ totW ws ≤ 1200 := by have := totW_bd h.w; have := h.lo; have := h.hi; omega
theorem Space.bd {ws : List Int} (h : Space ws) (s : Nat) : 0 ≤ wgt ws s ∧ wgt ws s ≤ 1200 := ⟨wgt_nonneg h.nonneg s, Int.le_trans (wgt_le h.nonneg s) h.totW.2⟩
theorem and_lt {a b n : Nat} (h : a < 2 ^ n) : a &&& b < 2 ^ n := Nat.lt_of_le_of_lt Nat.and_le_left h
end Go.Proofs.YtlepgeipcofapaaDoor
