/-
  Distributions: plain mathematics. A distribution is a list of pairs (value, weight).
-/
import Derived.Test.YtmdpfadfimodjaaRatM
namespace Go.Proofs.Ytmdpfadfimodjaa

def oneOk (v w : Int) : Bool := decide (-20 ≤ v ∧ v ≤ 20 ∧ 1 ≤ w ∧ w ≤ 100)
/-- The error of a distribution. -/
def oddErr (vs ws : List Int) : Int :=
  if vs.length < 1 ∨ 12 < vs.length then 2 else if ws.length ≠ vs.length then 3
  else if (List.range vs.length).all (fun j => oneOk (vs.getD j 0) (ws.getD j 0)) then 0 else 1
theorem oddErr_large {vs ws : List Int} (h : vs.length < 1 ∨ 12 < vs.length) : oddErr vs ws = 2 := if_pos h
theorem oddErr_form {vs ws : List Int} (h : 1 ≤ vs.length) (h' : vs.length ≤ 12) (hw : ws.length ≠ vs.length) : oddErr vs ws = 3 := by
  unfold oddErr
  rw [if_neg (by omega), if_pos hw]
theorem oddErr_ok {vs ws : List Int} (h : 1 ≤ vs.length) (h' : vs.length ≤ 12) (hw : ws.length = vs.length) (ha : ∀ j, j < vs.length → oneOk (vs.getD j 0) (ws.getD j 0) = true) : oddErr vs ws = 0 := by
  unfold oddErr
  rw [if_neg (by omega), if_neg (by omega), if_pos]
  rw [List.all_eq_true]
  intro j hj
  exact ha j (by simpa using hj)
theorem oddErr_arg {vs ws : List Int} (h : 1 ≤ vs.length) (h' : vs.length ≤ 12) (hw : ws.length = vs.length) {j : Nat} (hj : j < vs.length) (ha : oneOk (vs.getD j 0) (ws.getD j 0) = false) : oddErr vs ws = 1 := by
  unfold oddErr
  rw [if_neg (by omega), if_neg (by omega), if_neg]
  intro hall
  rw [List.all_eq_true] at hall
  have := hall j (by simpa using hj)
  rw [ha] at this
  cases this

def vsL (l : List (Int × Int)) : List Int := l.map Prod.fst
def wsL (l : List (Int × Int)) : List Int := l.map Prod.snd
theorem vsL_len (l : List (Int × Int)) : (vsL l).length = l.length := by simp [vsL]
theorem wsL_len (l : List (Int × Int)) : (wsL l).length = l.length := by simp [wsL]
theorem vsL_at (l : List (Int × Int)) (j : Nat) : (vsL l).getD j 0 = (l.getD j (0, 0)).1 := by
  simp only [vsL, List.getD_eq_getElem?_getD, List.getElem?_map]
  cases l[j]? <;> rfl
theorem wsL_at (l : List (Int × Int)) (j : Nat) : (wsL l).getD j 0 = (l.getD j (0, 0)).2 := by
  simp only [wsL, List.getD_eq_getElem?_getD, List.getElem?_map]
  cases l[j]? <;> rfl

/-- Numbers within their bounds, not too many. -/
def Fine (l : List (Int × Int)) : Prop := l.length ≤ 12 ∧ ∀ p ∈ l, -20 ≤ p.1 ∧ p.1 ≤ 20 ∧ 1 ≤ p.2 ∧ p.2 ≤ 100
def GoodD (l : List (Int × Int)) : Prop := 1 ≤ l.length ∧ Fine l
theorem Fine.at {l : List (Int × Int)} (h : Fine l) {j : Nat} (hj : j < l.length) : -20 ≤ (l.getD j (0, 0)).1 ∧ (l.getD j (0, 0)).1 ≤ 20 ∧ 1 ≤ (l.getD j (0, 0)).2 ∧ (l.getD j (0, 0)).2 ≤ 100 := by
  have e : l.getD j (0, 0) = l[j] := by simp [List.getD_eq_getElem?_getD, hj]
  rw [e]
  exact h.2 _ (List.getElem_mem hj)
theorem Fine.take {l : List (Int × Int)} (h : Fine l) (k : Nat) : Fine (l.take k) :=
  ⟨by rw [List.length_take]; have := h.1; omega, fun p hp => h.2 p (List.mem_of_mem_take hp)⟩
theorem Fine.tail {p : Int × Int} {l : List (Int × Int)} (h : Fine (p :: l)) : Fine l :=
  ⟨by have := h.1; simp at this; omega, fun q hq => h.2 q (List.mem_cons_of_mem _ hq)⟩

theorem zip_fst : ∀ (vs ws : List Int), ws.length = vs.length → vsL (vs.zip ws) = vs ∧ wsL (vs.zip ws) = ws
  | [], [], _ => ⟨rfl, rfl⟩
  | [], _ :: _, h => by simp at h
  | _ :: _, [], h => by simp at h
  | v :: vs, w :: ws, h => by
    obtain ⟨a, b⟩ := zip_fst vs ws (by simpa using h)
    constructor
    · show v :: vsL (vs.zip ws) = _
      rw [a]
    · show w :: wsL (vs.zip ws) = _
      rw [b]

theorem oddErr_zero {vs ws : List Int} (h : oddErr vs ws = 0) : ∃ l, GoodD l ∧ vs = vsL l ∧ ws = wsL l := by
  unfold oddErr at h
  split at h
  · omega
  · split at h
    · omega
    · rename_i h1 h2
      have h2 : ws.length = vs.length := by omega
      split at h
      · rename_i h3
        obtain ⟨a, b⟩ := zip_fst vs ws h2
        refine ⟨vs.zip ws, ⟨by simp; omega, by simp; omega, fun p hp => ?_⟩, a.symm, b.symm⟩
        rw [List.all_eq_true] at h3
        obtain ⟨j, hj, rfl⟩ := List.getElem_of_mem hp
        have hj' : j < vs.length := by simp at hj; omega
        have h4 := h3 j (by simpa using hj')
        unfold oneOk at h4
        have h4 := of_decide_eq_true h4
        have hw' : j < ws.length := by omega
        simpa [List.getD_eq_getElem?_getD, hj', hw'] using h4
      · omega
theorem oddErr_of {l : List (Int × Int)} (h : GoodD l) : oddErr (vsL l) (wsL l) = 0 := by
  have := h.2.1
  refine oddErr_ok (by rw [vsL_len]; exact h.1) (by rw [vsL_len]; omega) (by rw [vsL_len, wsL_len]) fun j hj => ?_
  rw [vsL_at, wsL_at]
  have := h.2.at (j := j) (by rwa [vsL_len] at hj)
  unfold oneOk
  exact decide_eq_true this
theorem oddErr_cases (vs ws : List Int) : oddErr vs ws = 0 ∨ oddErr vs ws = 1 ∨ oddErr vs ws = 2 ∨ oddErr vs ws = 3 := by
  unfold oddErr
  split
  · exact .inr (.inr (.inl rfl))
  · split
    · exact .inr (.inr (.inr rfl))
    · split
      · exact .inl rfl
      · exact .inr (.inl rfl)

/-- The weights times what is made of the values. -/
def E (f : Int → Int) : List (Int × Int) → Int
  | [] => 0
  | p :: l => p.2 * f p.1 + E f l
def one (_ : Int) : Int := 1
def idI (x : Int) : Int := x
def sq (x : Int) : Int := x * x
def geI (least x : Int) : Int := if least ≤ x then 1 else 0

theorem E_append (f : Int → Int) : ∀ (l l' : List (Int × Int)), E f (l ++ l') = E f l + E f l'
  | [], l' => by simp [E]
  | p :: l, l' => by
    show _ + E f (l ++ l') = _ + E f l + _
    rw [E_append f l l', Int.add_assoc]
theorem E_take (f : Int → Int) (l : List (Int × Int)) {k : Nat} (hk : k < l.length) : E f (l.take (k + 1)) = E f (l.take k) + (l.getD k (0, 0)).2 * f (l.getD k (0, 0)).1 := by
  have e : l.getD k (0, 0) = l[k] := by simp [List.getD_eq_getElem?_getD, hk]
  rw [List.take_succ_eq_append_getElem hk, E_append, e]
  simp [E]
theorem E_bd (f : Int → Int) (lo hi : Int) (h0 : lo ≤ 0) (h1 : 0 ≤ hi) : ∀ (l : List (Int × Int)), Fine l → (∀ p ∈ l, lo ≤ f p.1 ∧ f p.1 ≤ hi) → 1200 * lo ≤ E f l ∧ E f l ≤ 1200 * hi := by
  have key : ∀ (l : List (Int × Int)), Fine l → (∀ p ∈ l, lo ≤ f p.1 ∧ f p.1 ≤ hi) → (100 * l.length : Nat) * lo ≤ E f l ∧ E f l ≤ (100 * l.length : Nat) * hi := by
    intro l
    induction l with
    | nil => intro _ _; simp [E]
    | cons p l ih =>
      intro hF hp
      obtain ⟨i1, i2⟩ := ih hF.tail (fun q hq => hp q (List.mem_cons_of_mem _ hq))
      obtain ⟨a, b, c, d⟩ := hF.2 p List.mem_cons_self
      obtain ⟨e1, e2⟩ := hp p List.mem_cons_self
      have m1 : 100 * lo ≤ p.2 * f p.1 := by
        rcases Int.le_total 0 (f p.1) with h | h
        · have := Int.mul_nonneg (show 0 ≤ p.2 by omega) h
          omega
        · have := Int.mul_le_mul_of_nonneg_left (show -(f p.1) ≤ -lo by omega) (show (0 : Int) ≤ p.2 by omega)
          have h3 := Int.mul_le_mul_of_nonneg_right (show p.2 ≤ 100 by omega) (show (0 : Int) ≤ -lo by omega)
          simp only [Int.mul_neg] at this h3
          omega
      have m2 : p.2 * f p.1 ≤ 100 * hi := by
        rcases Int.le_total 0 (f p.1) with h | h
        · have := Int.mul_le_mul_of_nonneg_right (show p.2 ≤ 100 by omega) h
          omega
        · have := Int.mul_nonneg (show 0 ≤ p.2 by omega) (show 0 ≤ -(f p.1) by omega)
          simp only [Int.mul_neg] at this
          omega
      have el : ((100 * (p :: l).length : Nat) : Int) = 100 + (100 * l.length : Nat) := by simp; omega
      rw [el, Int.add_mul, Int.add_mul]
      show _ ≤ p.2 * f p.1 + E f l ∧ p.2 * f p.1 + E f l ≤ _
      omega
  intro l hF hp
  obtain ⟨a, b⟩ := key l hF hp
  have hl : ((100 * l.length : Nat) : Int) ≤ 1200 := by have := hF.1; omega
  have c1 := Int.mul_le_mul_of_nonneg_right hl (show (0 : Int) ≤ -lo by omega)
  have c2 := Int.mul_le_mul_of_nonneg_right hl h1
  simp only [Int.mul_neg] at c1
  omega

theorem E_one_bd {l : List (Int × Int)} (h : Fine l) : 0 ≤ E one l ∧ E one l ≤ 1200 := by
  have := E_bd one 0 1 (by omega) (by omega) l h (fun p _ => by simp [one])
  omega
theorem E_one_len : ∀ {l : List (Int × Int)}, Fine l → (l.length : Int) ≤ E one l
  | [], _ => by simp [E]
  | p :: l, h => by
    have := E_one_len h.tail
    have := h.2 p List.mem_cons_self
    show _ ≤ p.2 * 1 + E one l
    simp
    omega
theorem E_one_pos {l : List (Int × Int)} (h : GoodD l) : 1 ≤ E one l := by
  have h1 := E_one_len h.2
  have h2 := h.1
  omega
theorem E_id_bd {l : List (Int × Int)} (h : Fine l) : -24000 ≤ E idI l ∧ E idI l ≤ 24000 := by
  have := E_bd idI (-20) 20 (by omega) (by omega) l h (fun p hp => by have := h.2 p hp; unfold idI; omega)
  omega
theorem sq_bd {x : Int} (h : -20 ≤ x) (h' : x ≤ 20) : 0 ≤ x * x ∧ x * x ≤ 400 := by
  have := mul_bd (A := 20) (B := 20) h h' h h'
  have : 0 ≤ x * x := by
    rcases Int.le_total 0 x with h | h
    · exact Int.mul_nonneg h h
    · have := Int.mul_nonneg (show 0 ≤ -x by omega) (show 0 ≤ -x by omega)
      rwa [Int.neg_mul_neg] at this
  omega
theorem E_sq_bd {l : List (Int × Int)} (h : Fine l) : 0 ≤ E sq l ∧ E sq l ≤ 480000 := by
  have := E_bd sq 0 400 (by omega) (by omega) l h (fun p hp => by have := h.2 p hp; exact sq_bd (by omega) (by omega))
  omega
theorem ge_bd (least x : Int) : 0 ≤ geI least x ∧ geI least x ≤ 1 := by
  unfold geI
  split <;> omega
theorem E_ge_bd (least : Int) {l : List (Int × Int)} (h : Fine l) : 0 ≤ E (geI least) l ∧ E (geI least) l ≤ 1200 := by
  have := E_bd (geI least) 0 1 (by omega) (by omega) l h (fun p _ => ge_bd _ _)
  omega
theorem E_le (f g : Int → Int) : ∀ {l : List (Int × Int)}, Fine l → (∀ p ∈ l, f p.1 ≤ g p.1) → E f l ≤ E g l
  | [], _, _ => Int.le_refl _
  | p :: l, h, hp => by
    have h1 := E_le f g h.tail (fun q hq => hp q (List.mem_cons_of_mem _ hq))
    have h2 := h.2 p List.mem_cons_self
    have h3 := Int.mul_le_mul_of_nonneg_left (hp p List.mem_cons_self) (show (0 : Int) ≤ p.2 by omega)
    show p.2 * f p.1 + E f l ≤ p.2 * g p.1 + E g l
    omega
theorem E_congr (f g : Int → Int) : ∀ {l : List (Int × Int)}, (∀ p ∈ l, f p.1 = g p.1) → E f l = E g l
  | [], _ => rfl
  | p :: l, hp => by
    show p.2 * f p.1 + E f l = p.2 * g p.1 + E g l
    rw [hp p List.mem_cons_self, E_congr f g (fun q hq => hp q (List.mem_cons_of_mem _ hq))]
theorem E_add (f g : Int → Int) : ∀ (l : List (Int × Int)), E (fun x => f x + g x) l = E f l + E g l
  | [] => rfl
  | p :: l => by
    show p.2 * (f p.1 + g p.1) + E _ l = (p.2 * f p.1 + E f l) + (p.2 * g p.1 + E g l)
    rw [E_add f g l, Int.mul_add]
    omega
theorem E_mul (c : Int) (f : Int → Int) : ∀ (l : List (Int × Int)), E (fun x => c * f x) l = c * E f l
  | [] => by simp [E]
  | p :: l => by
    show p.2 * (c * f p.1) + E _ l = c * (p.2 * f p.1 + E f l)
    rw [E_mul c f l, Int.mul_add, ← Int.mul_assoc, ← Int.mul_assoc, Int.mul_comm p.2 c]
/-- Squares of what is off by b, of a times the values. -/
theorem E_off (a b : Int) : ∀ (l : List (Int × Int)), E (fun x => (a * x - b) * (a * x - b)) l = a * a * E sq l - 2 * a * b * E idI l + b * b * E one l
  | [] => by simp [E]
  | p :: l => by
    show p.2 * ((a * p.1 - b) * (a * p.1 - b)) + E _ l = a * a * (p.2 * (p.1 * p.1) + E sq l) - 2 * a * b * (p.2 * p.1 + E idI l) + b * b * (p.2 * 1 + E one l)
    rw [E_off a b l]
    grind

/-- Both together: all values of the one with all of the other. -/
def bothL (l l' : List (Int × Int)) : List (Int × Int) := l.flatMap fun p => l'.map fun q => (p.1 + q.1, p.2 * q.2)
theorem E_row (f : Int → Int) (p : Int × Int) : ∀ (l' : List (Int × Int)), E f (l'.map fun q => (p.1 + q.1, p.2 * q.2)) = p.2 * E (fun x => f (p.1 + x)) l'
  | [] => by simp [E]
  | q :: l' => by
    show (p.2 * q.2) * f (p.1 + q.1) + E f _ = p.2 * (q.2 * f (p.1 + q.1) + E _ l')
    rw [E_row f p l', Int.mul_add, Int.mul_assoc]
theorem E_both_one (l' : List (Int × Int)) : ∀ (l : List (Int × Int)), E one (bothL l l') = E one l * E one l'
  | [] => by simp [bothL, E]
  | p :: l => by
    show E one ((l'.map fun q => (p.1 + q.1, p.2 * q.2)) ++ bothL l l') = (p.2 * 1 + E one l) * E one l'
    rw [E_append, E_both_one l' l, E_row]
    have : E (fun x => one (p.1 + x)) l' = E one l' := rfl
    rw [this]
    grind
theorem E_both_id (l' : List (Int × Int)) : ∀ (l : List (Int × Int)), E idI (bothL l l') = E idI l * E one l' + E one l * E idI l'
  | [] => by simp [bothL, E]
  | p :: l => by
    show E idI ((l'.map fun q => (p.1 + q.1, p.2 * q.2)) ++ bothL l l') = (p.2 * p.1 + E idI l) * E one l' + (p.2 * 1 + E one l) * E idI l'
    rw [E_append, E_both_id l' l, E_row]
    have : E (fun x => idI (p.1 + x)) l' = p.1 * E one l' + E idI l' := by
      rw [← E_mul, ← E_add]
      exact E_congr _ _ (fun q _ => by simp [idI, one])
    rw [this]
    grind
theorem E_both_sq (l' : List (Int × Int)) : ∀ (l : List (Int × Int)), E sq (bothL l l') = E sq l * E one l' + 2 * E idI l * E idI l' + E one l * E sq l'
  | [] => by simp [bothL, E]
  | p :: l => by
    show E sq ((l'.map fun q => (p.1 + q.1, p.2 * q.2)) ++ bothL l l') = (p.2 * (p.1 * p.1) + E sq l) * E one l' + 2 * (p.2 * p.1 + E idI l) * E idI l' + (p.2 * 1 + E one l) * E sq l'
    rw [E_append, E_both_sq l' l, E_row]
    have : E (fun x => sq (p.1 + x)) l' = p.1 * p.1 * E one l' + 2 * p.1 * E idI l' + E sq l' := by
      rw [← E_mul, ← E_mul, ← E_add, ← E_add]
      exact E_congr _ _ (fun q _ => by simp only [idI, one, sq]; grind)
    rw [this]
    grind

/-- The rows of what both together gives, j of row i. -/
def partL (l l' : List (Int × Int)) (i j : Nat) : List (Int × Int) := bothL (l.take i) l' ++ (l'.take j).map fun q => ((l.getD i (0, 0)).1 + q.1, (l.getD i (0, 0)).2 * q.2)
theorem partL_zero (l l' : List (Int × Int)) : partL l l' 0 0 = [] := by simp [partL, bothL]
theorem partL_step (l l' : List (Int × Int)) (i : Nat) {j : Nat} (hj : j < l'.length) : partL l l' i (j + 1) = partL l l' i j ++ [((l.getD i (0, 0)).1 + (l'.getD j (0, 0)).1, (l.getD i (0, 0)).2 * (l'.getD j (0, 0)).2)] := by
  have e : l'.getD j (0, 0) = l'[j] := by simp [List.getD_eq_getElem?_getD, hj]
  unfold partL
  rw [List.take_succ_eq_append_getElem hj, List.map_append, e, List.append_assoc]
  rfl
theorem partL_row (l l' : List (Int × Int)) {i : Nat} (hi : i < l.length) : partL l l' i l'.length = partL l l' (i + 1) 0 := by
  have e : l.getD i (0, 0) = l[i] := by simp [List.getD_eq_getElem?_getD, hi]
  unfold partL
  rw [List.take_succ_eq_append_getElem hi, List.take_length, e]
  unfold bothL
  rw [List.flatMap_append, List.flatMap_cons, List.flatMap_nil, List.take_zero, List.map_nil, List.append_nil, List.append_nil]
theorem partL_all (l l' : List (Int × Int)) : partL l l' l.length 0 = bothL l l' := by simp [partL]
theorem partL_len (l l' : List (Int × Int)) {i j : Nat} (hi : i ≤ l.length) (hj : j ≤ l'.length) : (partL l l' i j).length = i * l'.length + j := by
  have h1 : ∀ (l : List (Int × Int)), (bothL l l').length = l.length * l'.length := by
    intro l
    induction l with
    | nil => simp [bothL]
    | cons p l ih =>
      show ((l'.map _) ++ bothL l l').length = (l.length + 1) * l'.length
      rw [List.length_append, ih, List.length_map, Nat.add_mul]
      omega
  unfold partL
  rw [List.length_append, h1, List.length_map, List.length_take, List.length_take]
  simp [Nat.min_eq_left hi, Nat.min_eq_left hj]
theorem both_len (l l' : List (Int × Int)) : (bothL l l').length = l.length * l'.length := by
  rw [← partL_all, partL_len l l' (Nat.le_refl _) (Nat.zero_le _), Nat.add_zero]

/-- The mean, and how far from it. -/
def mean (l : List (Int × Int)) : Rat := Rat.divInt (E idI l) (E one l)
def var (l : List (Int × Int)) : Rat := Rat.divInt (E sq l) (E one l) + -(mean l * mean l)
theorem E_both_pos {l l' : List (Int × Int)} (h : GoodD l) (h' : GoodD l') : (E one l : Rat) ≠ 0 ∧ (E one l' : Rat) ≠ 0 := by
  have h1 := E_one_pos h
  have h2 := E_one_pos h'
  constructor
  · intro e
    have : E one l = 0 := by exact_mod_cast e
    omega
  · intro e
    have : E one l' = 0 := by exact_mod_cast e
    omega
theorem mean_both {l l' : List (Int × Int)} (h : GoodD l) (h' : GoodD l') : mean (bothL l l') = mean l + mean l' := by
  obtain ⟨h1, h2⟩ := E_both_pos h h'
  unfold mean
  rw [E_both_one, E_both_id]
  simp only [Rat.divInt_eq_div, Rat.intCast_add, Rat.intCast_mul]
  generalize (E one l : Rat) = n at *
  generalize (E one l' : Rat) = m at *
  grind
theorem var_both {l l' : List (Int × Int)} (h : GoodD l) (h' : GoodD l') : var (bothL l l') = var l + var l' := by
  obtain ⟨h1, h2⟩ := E_both_pos h h'
  unfold var
  rw [mean_both h h']
  unfold mean
  rw [E_both_one, E_both_sq]
  simp only [Rat.divInt_eq_div, Rat.intCast_add, Rat.intCast_mul]
  generalize (E one l : Rat) = n at *
  generalize (E one l' : Rat) = m at *
  grind
/-- The same by the squares of what is off (n times the values, less their sum). -/
theorem var_off (l : List (Int × Int)) : E (fun x => (E one l * x - E idI l) * (E one l * x - E idI l)) l = E one l * (E one l * E sq l - E idI l * E idI l) := by
  rw [E_off]
  generalize E one l = n
  generalize E idI l = s
  generalize E sq l = q
  grind
theorem var_eq {l : List (Int × Int)} (h : GoodD l) : var l = Rat.divInt (E one l * E sq l - E idI l * E idI l) (E one l * E one l) := by
  obtain ⟨h1, _⟩ := E_both_pos h h
  unfold var mean
  simp only [Rat.divInt_eq_div, Rat.intCast_sub, Rat.intCast_mul]
  generalize (E one l : Rat) = n at *
  grind
theorem var_cube {l : List (Int × Int)} (h : GoodD l) : var l = Rat.divInt (E (fun x => (E one l * x - E idI l) * (E one l * x - E idI l)) l) (E one l * E one l * E one l) := by
  obtain ⟨h1, _⟩ := E_both_pos h h
  rw [var_eq h, var_off l]
  simp only [Rat.divInt_eq_div, Rat.intCast_sub, Rat.intCast_mul]
  generalize (E one l : Rat) = n at *
  grind
end Go.Proofs.Ytmdpfadfimodjaa
