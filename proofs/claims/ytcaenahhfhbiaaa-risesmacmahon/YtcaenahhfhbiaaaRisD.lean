/-
  What is turned: descents and inversions from behind, and of the inverse. Plain mathematics.
-/
import Derived.Test.YtcaenahhfhbiaaaRisB
import Derived.Test.YtcaenahhfhbiaaaRefA
import Derived.Test.YtcaenahhfhbiaaaSubM
import Derived.Test.YtcaenahhfhbiaaaInverse
namespace Go.Proofs.Ytcaenahhfhbiaaa
open Go.RowKit

/-! ### From behind -/
theorem sumN_rev (f : Nat → Nat) : ∀ n, sumN f n = sumN (fun i => f (n - 1 - i)) n
  | 0 => rfl
  | n + 1 => by
    rw [sumN_front (fun i => f (n + 1 - 1 - i)) n, sumN, sumN_rev f n, Nat.add_comm]
    show f n + _ = f (n + 1 - 1 - 0) + _
    rw [show n + 1 - 1 - 0 = n by omega]
    congr 1
    refine sumN_congr fun i hi => ?_
    show f (n - 1 - i) = f (n + 1 - 1 - (i + 1))
    rw [show n + 1 - 1 - (i + 1) = n - 1 - i by omega]
theorem sumN_one : ∀ n, sumN (fun _ => 1) n = n
  | 0 => rfl
  | n + 1 => by rw [sumN, sumN_one n]
theorem fallK_sum (p : List Int) : ∀ k, fallK p k = sumN (fun i => if dsc p i then 1 else 0) k
  | 0 => rfl
  | k + 1 => by rw [fallK, sumN, fallK_sum p k]
theorem fallN_sum (p : List Int) {m : Nat} (h : p.length = m + 1) : fallN p = sumN (fun i => if p.getD (i + 1) 0 < p.getD i 0 then 1 else 0) m := by
  unfold fallN
  rw [fallK_sum, h, sumN_front]
  show (if dsc p 0 then 1 else 0) + _ = _
  rw [show dsc p 0 = false from rfl]
  rw [if_neg (by decide), Nat.zero_add]
  refine sumN_congr fun i _ => ?_
  unfold dsc
  simp
theorem getD_rev {p : List Int} {i : Nat} (h : i < p.length) : p.reverse.getD i 0 = p.getD (p.length - 1 - i) 0 := by
  rw [List.getD_eq_getElem?_getD, List.getD_eq_getElem?_getD, List.getElem?_reverse h]
theorem fall_rev {p : List Int} (hd : p.Nodup) : fallN p + fallN p.reverse = p.length - 1 := by
  rcases hl : p.length with _ | m
  · have : p = [] := List.eq_nil_of_length_eq_zero hl
    subst this
    rfl
  · rw [fallN_sum p hl, fallN_sum p.reverse (m := m) (by rw [List.length_reverse]; exact hl), sumN_rev (fun i => if p.reverse.getD (i + 1) 0 < p.reverse.getD i 0 then 1 else 0), ← sumN_add]
    refine (sumN_congr (g := fun _ => 1) fun i hi => ?_).trans (sumN_one m)
    have h1 : p.reverse.getD (m - 1 - i + 1) 0 = p.getD i 0 := by
      rw [getD_rev (by omega), hl, show m + 1 - 1 - (m - 1 - i + 1) = i by omega]
    have h2 : p.reverse.getD (m - 1 - i) 0 = p.getD (i + 1) 0 := by
      rw [getD_rev (by omega), hl, show m + 1 - 1 - (m - 1 - i) = i + 1 by omega]
    have h3 := nodup_iff_getD.1 hd i (i + 1) (by omega) (by omega)
    show (if p.getD (i + 1) 0 < p.getD i 0 then 1 else 0) + (if p.reverse.getD (m - 1 - i + 1) 0 < p.reverse.getD (m - 1 - i) 0 then 1 else 0) = 1
    rw [h1, h2]
    split <;> split <;> omega
theorem count_two {x : Int} : ∀ {l : List Int}, x ∉ l → l.countP (fun y => decide (y < x)) + l.countP (fun y => decide (x < y)) = l.length
  | [], _ => rfl
  | a :: l, h => by
    have ih := count_two (x := x) (l := l) (fun hm => h (List.mem_cons_of_mem _ hm))
    have hne : x ≠ a := fun e => h (by rw [e]; exact List.mem_cons_self)
    rw [List.countP_cons, List.countP_cons, List.length_cons]
    simp only [decide_eq_true_eq]
    split <;> split <;> omega
theorem inv_rev : ∀ {p : List Int}, p.Nodup → 2 * (inv p + inv p.reverse) = p.length * (p.length - 1)
  | [], _ => rfl
  | x :: l, h => by
    have hx := (List.nodup_cons.1 h).1
    have ih := inv_rev (List.nodup_cons.1 h).2
    have h2 := count_two hx
    rw [List.reverse_cons, inv_snoc, List.countP_reverse, List.length_cons]
    show 2 * (l.countP (fun y => decide (y < x)) + inv l + (inv l.reverse + l.countP (fun y => decide (x < y)))) = (l.length + 1) * (l.length + 1 - 1)
    have h3 : (l.length + 1) * (l.length + 1 - 1) = l.length * (l.length - 1) + 2 * l.length := by
      rcases l.length with _ | m
      · rfl
      · show (m + 1 + 1) * (m + 1) = (m + 1) * m + 2 * (m + 1)
        rw [Nat.mul_comm (m + 1) m, ← Nat.add_mul]
    omega

/-! ### The inverse -/
/-- All pairs of the one and the other. -/
def tot (R : Int → Int → Bool) (m : List Int) : List Int → Nat
  | [] => 0
  | a :: l => m.countP (R a) + tot R m l
theorem tot_left {R : Int → Int → Bool} {m l l' : List Int} (h : l.Perm l') : tot R m l = tot R m l' := by
  induction h with
  | nil => rfl
  | cons x _ ih => rw [tot, tot, ih]
  | swap x y l => simp only [tot]; omega
  | trans _ _ a b => exact a.trans b
theorem tot_right {R : Int → Int → Bool} {m m' : List Int} (h : m.Perm m') : ∀ l, tot R m l = tot R m' l
  | [] => rfl
  | a :: l => by rw [tot, tot, tot_right h l, h.countP_eq]
theorem tot_nil (R : Int → Int → Bool) : ∀ l, tot R [] l = 0
  | [] => rfl
  | a :: l => by rw [tot, tot_nil R l]; rfl
theorem tot_cons (R : Int → Int → Bool) (b : Int) (m : List Int) : ∀ l, tot R (b :: m) l = l.countP (fun a => R a b) + tot R m l
  | [] => rfl
  | a :: l => by
    rw [tot, tot, tot_cons R b m l, List.countP_cons, List.countP_cons]
    split <;> omega
theorem tot_swap (R : Int → Int → Bool) (m : List Int) : ∀ l, tot R m l = tot (fun a b => R b a) l m
  | [] => by rw [tot_nil]; rfl
  | a :: l => by rw [tot, tot_swap R m l, tot_cons]
theorem tot_map (R : Int → Int → Bool) (f : Int → Int) (m : List Int) : ∀ l, tot R (m.map f) (l.map f) = tot (fun a b => R (f a) (f b)) m l
  | [] => rfl
  | a :: l => by
    rw [List.map_cons, tot, tot, tot_map R f m l, List.countP_map]
    rfl
theorem tot_congr {R S : Int → Int → Bool} {m : List Int} : ∀ {l : List Int}, (∀ a, a ∈ l → ∀ b, b ∈ m → R a b = S a b) → tot R m l = tot S m l
  | [], _ => rfl
  | a :: l, h => by
    rw [tot, tot, tot_congr (l := l) (fun x hx b hb => h x (List.mem_cons_of_mem _ hx) b hb)]
    congr 1
    exact List.countP_congr fun b hb => by rw [h a List.mem_cons_self b hb]
/-- The number at a place. -/
def plc (p : List Int) (v : Int) : Int := p.getD v.toNat 0
def crs (p : List Int) (i j : Int) : Bool := decide (i < j) && decide (plc p j < plc p i)
theorem iota_split {n k : Nat} (h : k ≤ n) : (iota n).take k = iota k := by
  unfold iota
  rw [← List.map_take, List.take_range, Nat.min_eq_left h]
theorem plc_iota (p : List Int) : (iota p.length).map (plc p) = p := map_iota p
theorem crs_count {p : List Int} {k : Nat} (h : k < p.length) : (iota p.length).countP (crs p (k : Int)) = (p.drop (k + 1)).countP (fun y => decide (y < p.getD k 0)) := by
  have e1 : p.drop (k + 1) = ((iota p.length).drop (k + 1)).map (plc p) := by
    rw [List.map_drop, plc_iota]
  rw [e1, List.countP_map]
  have e2 : (iota p.length).countP (crs p (k : Int)) = (((iota p.length).take (k + 1)) ++ ((iota p.length).drop (k + 1))).countP (crs p (k : Int)) := by rw [List.take_append_drop]
  rw [e2, List.countP_append]
  have e3 : ((iota p.length).take (k + 1)).countP (crs p (k : Int)) = 0 := by
    rw [List.countP_eq_zero, iota_split (by omega)]
    intro x hx
    have := mem_iota.1 hx
    unfold crs
    rw [decide_eq_false (by omega)]
    simp
  rw [e3, Nat.zero_add]
  refine List.countP_congr fun x hx => ?_
  have hx2 : (k : Int) < x := by
    obtain ⟨j, hj⟩ := List.mem_iff_getElem?.1 hx
    rw [List.getElem?_drop] at hj
    unfold iota at hj
    rw [List.getElem?_map] at hj
    rcases Nat.lt_or_ge (k + 1 + j) p.length with hl | hl
    · rw [List.getElem?_range hl] at hj
      have : ((k + 1 + j : Nat) : Int) = x := Option.some.inj hj
      omega
    · rw [List.getElem?_eq_none (by rw [List.length_range]; exact hl)] at hj
      cases hj
  unfold crs
  rw [decide_eq_true hx2, Bool.true_and]
  show decide (plc p x < plc p (k : Int)) = true ↔ decide (plc p x < p.getD k 0) = true
  exact Iff.rfl
theorem iota_snoc (k : Nat) : iota (k + 1) = iota k ++ [(k : Int)] := by simp [iota, List.range_succ]
theorem tot_snoc (R : Int → Int → Bool) (m : List Int) (a : Int) : ∀ l, tot R m (l ++ [a]) = tot R m l + m.countP (R a)
  | [] => by simp [tot]
  | b :: l => by rw [List.cons_append, tot, tot, tot_snoc R m a l]; omega
theorem inv_tot_upto {p : List Int} : ∀ k, k ≤ p.length → invUpto p k = tot (crs p) (iota p.length) (iota k)
  | 0, _ => rfl
  | k + 1, h => by
    rw [iota_snoc, tot_snoc, ← inv_tot_upto k (by omega), crs_count (by omega)]
    rfl
theorem inv_tot (p : List Int) : inv p = tot (crs p) (iota p.length) (iota p.length) := by
  rw [inv_all, inv_tot_upto _ (Nat.le_refl _)]
theorem inv_inverse {p q : List Int} (hp : IsPerm p) (h : IsInv p q) : inv q = inv p := by
  rw [inv_tot q, h.1, inv_tot p]
  rw [tot_left (R := crs q) (m := iota p.length) (show (iota p.length).Perm p from hp.symm), tot_right (R := crs q) (show (iota p.length).Perm p from hp.symm)]
  have e : tot (crs q) p p = tot (crs q) ((iota p.length).map (plc p)) ((iota p.length).map (plc p)) := by rw [plc_iota]
  rw [e, tot_map, tot_swap]
  refine tot_congr fun a ha b hb => ?_
  have h1 := mem_iota.1 ha
  have h2 := mem_iota.1 hb
  have q1 : plc q (plc p a) = a := by
    unfold plc
    rw [h.2 a.toNat (by omega)]
    omega
  have q2 : plc q (plc p b) = b := by
    unfold plc
    rw [h.2 b.toNat (by omega)]
    omega
  unfold crs
  rw [q1, q2, Bool.and_comm]

end Go.Proofs.Ytcaenahhfhbiaaa
