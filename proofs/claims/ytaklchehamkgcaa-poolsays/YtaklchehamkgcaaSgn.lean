/-
  Plain facts on inversions and the sign of a list of numbers.
-/
import Derived.Test.YtaklchehamkgcaaGrp
namespace Go.Proofs.Ytaklchehamkgcaa

/-- 1 or -1, by parity. -/
def sg (k : Nat) : Int := if k % 2 = 0 then 1 else -1
theorem sg_succ (k : Nat) : sg (k + 1) = - sg k := by unfold sg; split <;> split <;> omega
theorem sg_bd (k : Nat) : -1 ≤ sg k ∧ sg k ≤ 1 ∧ sg k ≠ 0 := by unfold sg; split <;> omega
theorem sg_add (a b : Nat) : sg (a + b) = sg a * sg b := by unfold sg; split <;> split <;> split <;> omega
theorem sg_sq (a : Nat) : sg a * sg a = 1 := by unfold sg; split <;> rfl

/-- How many pairs: the greater one ahead. -/
def inv : List Int → Nat
  | [] => 0
  | x :: t => t.countP (fun y => decide (y < x)) + inv t
def sgn (p : List Int) : Int := sg (inv p)

/-- The pairs whose first place is below i. -/
def invUpto (p : List Int) : Nat → Nat
  | 0 => 0
  | i + 1 => invUpto p i + (p.drop (i + 1)).countP (fun y => decide (y < p.getD i 0))

theorem drop_cons {p : List Int} {i : Nat} (h : i < p.length) : p.drop i = p.getD i 0 :: p.drop (i + 1) := by
  rw [List.drop_eq_getElem_cons h, List.getD_eq_getElem?_getD, List.getElem?_eq_getElem h]
  rfl
theorem inv_upto (p : List Int) : ∀ i, i ≤ p.length → inv p = invUpto p i + inv (p.drop i)
  | 0, _ => by simp [invUpto]
  | i + 1, h => by
    rw [inv_upto p i (by omega), drop_cons (show i < p.length by omega)]
    simp only [inv, invUpto]
    omega
theorem inv_all (p : List Int) : inv p = invUpto p p.length := by
  have h := inv_upto p p.length (Nat.le_refl _)
  rw [List.drop_length] at h
  simpa [inv] using h

/-! ### The sign of a product -/

theorem inv_swap (x y : Int) (l : List Int) (h : x < y) : inv (y :: x :: l) = inv (x :: y :: l) + 1 := by
  have h1 : ¬ y < x := by omega
  simp only [inv, List.countP_cons, h, h1, decide_true, decide_false, if_true]
  simp
  omega
theorem sgn_swap {x y : Int} (l : List Int) (h : x ≠ y) : sgn (y :: x :: l) = - sgn (x :: y :: l) := by
  unfold sgn
  rcases Int.lt_or_gt_of_ne h with hlt | hgt
  · rw [inv_swap x y l hlt, sg_succ]
  · rw [inv_swap y x l hgt, sg_succ, Int.neg_neg]
theorem sgn_cons (x : Int) (l : List Int) : sgn (x :: l) = sg (l.countP (fun y => decide (y < x))) * sgn l := by
  unfold sgn
  rw [← sg_add]
  rfl
theorem sgn_bd (l : List Int) : sgn l = 1 ∨ sgn l = -1 := by have := sg_bd (inv l); unfold sgn; omega
theorem sgn_sq (l : List Int) : sgn l * sgn l = 1 := sg_sq _

theorem mul_four (a b c d : Int) : a * b * (c * d) = a * c * (b * d) := by
  rw [Int.mul_assoc, Int.mul_assoc, ← Int.mul_assoc b, ← Int.mul_assoc c, Int.mul_comm b c]

/-- Under any renaming that keeps numbers apart, lists of the same numbers have the same 'sign times sign of the renamed list'. -/
theorem sgn_map {f : Int → Int} {l l' : List Int} (h : l.Perm l') : l.Nodup → (∀ x, x ∈ l → ∀ y, y ∈ l → f x = f y → x = y) → sgn (l.map f) * sgn l = sgn (l'.map f) * sgn l' := by
  induction h with
  | nil => intros; rfl
  | cons x h ih =>
    rename_i l1 l2
    intro hn hf
    have hn' := List.nodup_cons.1 hn
    have ih' := ih hn'.2 (fun a ha b hb => hf a (by simp [ha]) b (by simp [hb]))
    have e1 : (l1.map f).countP (fun y => decide (y < f x)) = (l2.map f).countP (fun y => decide (y < f x)) := (h.map f).countP_eq _
    have e2 : l1.countP (fun y => decide (y < x)) = l2.countP (fun y => decide (y < x)) := h.countP_eq _
    simp only [List.map_cons, sgn_cons]
    rw [e1, e2, mul_four, ih', ← mul_four]
  | swap x y l =>
    intro hn hf
    have hxy : x ≠ y := by
      intro e
      subst e
      simp at hn
    have hfxy : f x ≠ f y := fun e => hxy (hf x (by simp) y (by simp) e)
    simp only [List.map_cons]
    rw [sgn_swap _ hxy, sgn_swap _ hfxy, Int.neg_mul_neg]
  | trans h1 h2 ih1 ih2 =>
    intro hn hf
    rw [ih1 hn hf]
    exact ih2 (h1.nodup_iff.1 hn) (fun a ha b hb => hf a (h1.mem_iff.2 ha) b (h1.mem_iff.2 hb))

theorem countP_zero_of {l : List Int} {x : Int} (h : ∀ y, y ∈ l → x ≤ y) : l.countP (fun y => decide (y < x)) = 0 := by
  rw [List.countP_eq_zero]
  intro y hy
  have := h y hy
  simp
  omega
theorem inv_sorted : ∀ {l : List Int}, l.Pairwise (· ≤ ·) → inv l = 0
  | [], _ => rfl
  | x :: t, h => by
    have h' := List.pairwise_cons.1 h
    simp only [inv]
    rw [countP_zero_of h'.1, inv_sorted h'.2]
theorem pairwise_iota (n : Nat) : (iota n).Pairwise (· ≤ ·) := by
  unfold iota
  rw [List.pairwise_map]
  exact List.pairwise_lt_range.imp (fun h => by omega)
theorem sgn_iota (n : Nat) : sgn (iota n) = 1 := by unfold sgn; rw [inv_sorted (pairwise_iota n)]; rfl

theorem map_iota (a : List Int) : (iota a.length).map (fun v => a.getD v.toNat 0) = a := by
  apply ext_getD (by simp [length_iota])
  intro j hj
  simp only [List.length_map, length_iota] at hj
  simp [iota, List.getD_eq_getElem?_getD, hj]

theorem sgn_times {a b : List Int} (ha : IsPerm a) (hb : IsPerm b) (hl : a.length = b.length) : sgn (times a b) = sgn a * sgn b := by
  have h := sgn_map (f := fun v => a.getD v.toNat 0) (l := b) (l' := iota b.length) hb hb.nodup (by
    intro x hx y hy e
    have h1 := hb.range hx
    have h2 := hb.range hy
    have hn := nodup_iff_getD.1 ha.nodup
    rcases Nat.lt_trichotomy x.toNat y.toNat with hlt | he | hgt
    · exact absurd e (hn _ _ hlt (by omega))
    · omega
    · exact absurd e.symm (hn _ _ hgt (by omega)))
  rw [← hl, map_iota, sgn_iota, Int.mul_one] at h
  have : sgn (times a b) * sgn b * sgn b = sgn a * sgn b := by rw [← h]; rfl
  rwa [Int.mul_assoc, sgn_sq, Int.mul_one] at this

theorem sgn_inv {a va : List Int} (h : IsInv a va) (ha : IsPerm a) : sgn va = sgn a := by
  have h1 := sgn_times ha (h.isPerm ha) h.1.symm
  rw [h.right ha, sgn_iota] at h1
  have h2 : sgn a * (sgn a * sgn va) = sgn a * 1 := by rw [← h1]
  rwa [← Int.mul_assoc, sgn_sq, Int.one_mul, Int.mul_one] at h2

/-! ### A change of two places -/

theorem sgn_move (x : Int) (m v : List Int) (h : x ∉ m) : sgn (x :: (m ++ v)) = sg m.length * sgn (m ++ x :: v) := by
  induction m with
  | nil => simp [sg]
  | cons y t ih =>
    have hxy : x ≠ y := fun e => h (by simp [e])
    have ht : x ∉ t := fun e => h (by simp [e])
    have e0 : (t ++ x :: v).countP (fun z => decide (z < y)) = (x :: (t ++ v)).countP (fun z => decide (z < y)) := by
      simp only [List.countP_append, List.countP_cons]
      omega
    have e1 : sgn (y :: x :: (t ++ v)) = sg t.length * sgn (y :: (t ++ x :: v)) := by
      rw [sgn_cons y, ih ht, sgn_cons y (t ++ x :: v), e0, ← Int.mul_assoc, ← Int.mul_assoc, Int.mul_comm (sg _) (sg t.length)]
    have e2 : sgn (x :: y :: (t ++ v)) = - sgn (y :: x :: (t ++ v)) := by rw [sgn_swap _ hxy, Int.neg_neg]
    show sgn (x :: y :: (t ++ v)) = sg (t.length + 1) * sgn (y :: (t ++ x :: v))
    rw [e2, e1, sg_succ, Int.neg_mul]

theorem sgn_front (u : List Int) {l l' : List Int} (h : l.Perm l') (s : Int) (e : sgn l = s * sgn l') : sgn (u ++ l) = s * sgn (u ++ l') := by
  induction u with
  | nil => exact e
  | cons x t ih =>
    show sgn (x :: (t ++ l)) = s * sgn (x :: (t ++ l'))
    have e0 : (t ++ l).countP (fun z => decide (z < x)) = (t ++ l').countP (fun z => decide (z < x)) := (h.append_left t).countP_eq _
    rw [sgn_cons, sgn_cons, ih, e0, ← Int.mul_assoc, ← Int.mul_assoc, Int.mul_comm s]

theorem sgn_exchange (u m v : List Int) (x y : Int) (hxy : x ≠ y) (hx : x ∉ m) (hy : y ∉ m) : sgn (u ++ y :: (m ++ x :: v)) = - sgn (u ++ x :: (m ++ y :: v)) := by
  have h1 : sgn (y :: (m ++ x :: v)) = sg m.length * sgn (m ++ y :: x :: v) := sgn_move y m (x :: v) hy
  have h2 : sgn (x :: (m ++ y :: v)) = sg m.length * sgn (m ++ x :: y :: v) := sgn_move x m (y :: v) hx
  have h3 : sgn (m ++ y :: x :: v) = -1 * sgn (m ++ x :: y :: v) := sgn_front m (List.Perm.swap x y v) (-1) (by rw [sgn_swap _ hxy]; omega)
  have h4 : sgn (y :: (m ++ x :: v)) = -1 * sgn (x :: (m ++ y :: v)) := by
    rw [h1, h2, h3, ← Int.mul_assoc, ← Int.mul_assoc, Int.mul_comm (sg _) (-1)]
  have hp : (y :: (m ++ x :: v)).Perm (x :: (m ++ y :: v)) :=
    (List.perm_middle (a := x) (l₁ := y :: m) (l₂ := v)).trans (List.Perm.cons x (List.perm_middle (a := y) (l₁ := m) (l₂ := v)).symm)
  have := sgn_front u hp (-1) h4
  omega

end Go.Proofs.Ytaklchehamkgcaa
