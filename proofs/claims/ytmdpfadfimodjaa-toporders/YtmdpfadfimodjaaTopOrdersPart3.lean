/-
  Texts joined: TpM, TpA, ShufC, Own16, SixA, SixB, SixC, SixD, SixE, SixF, SixG, SixH, SixI, TpB, TpC, TpD, ShufD, Cyc, CycLen, Order, Perms.
-/
import Derived.Test.YtmdpfadfimodjaaTopOrdersPart2
import Derived.Lib.BitFns
import Derived.Laws.AppendOwnNone
import Derived.Laws.OwnMore
import Derived.Deep.OwnRows
import Derived.Deep.DeepCutAuto
import Derived.Deep.CutBlock
import Derived.Lib.Strings
import Derived.Lib.Slices
import Derived.Lib.Small
import Derived.Lib.Walk
import Derived.Laws.BitsAllLaws
import Derived.Laws.BitsLemmas
import Derived.Test.YtmdpfadfimodjaaRows

/-
  Numbers drawn from bits, as plain lists: how many bits, what number, one draw, a row of draws. Nothing of the program is proved here.
-/
namespace Go.Proofs.Ytmdpfadfimodjaa
open Go.RowKit

/-- How many bits one try reads. -/
def wd (n : Nat) : Nat := Lib.bitLen (n - 1)
theorem wd_all : ∀ n : Fin 1025, 1 ≤ n.val → (n.val ≤ 2 ^ wd n.val ∧ (0 < wd n.val → 2 ^ (wd n.val - 1) < n.val) ∧ wd n.val ≤ 10) := by decide +kernel
theorem wd_recF : ∀ n : Fin 1025, 2 ≤ n.val → wd n.val = 1 + wd ((n.val + 1) / 2) := by decide +kernel
theorem wd_one : wd 1 = 0 := by decide +kernel
theorem wd_ge {n : Nat} (h1 : 1 ≤ n) (h2 : n ≤ 1024) : n ≤ 2 ^ wd n := (wd_all ⟨n, by omega⟩ h1).1
theorem wd_least {n : Nat} (h1 : 1 ≤ n) (h2 : n ≤ 1024) (h0 : 0 < wd n) : 2 ^ (wd n - 1) < n := (wd_all ⟨n, by omega⟩ h1).2.1 h0
theorem wd_le {n : Nat} (h1 : 1 ≤ n) (h2 : n ≤ 1024) : wd n ≤ 10 := (wd_all ⟨n, by omega⟩ h1).2.2
theorem wd_rec {n : Nat} (h1 : 2 ≤ n) (h2 : n ≤ 1024) : wd n = 1 + wd ((n + 1) / 2) := wd_recF ⟨n, by omega⟩ h1
theorem wd_pos {n : Nat} (h1 : 2 ≤ n) (h2 : n ≤ 1024) : 0 < wd n := by rw [wd_rec h1 h2]; omega

/-- Bytes that are bits. -/
def Bin (xs : List Nat) : Prop := ∀ x ∈ xs, x ≤ 1
theorem Bin.take {xs : List Nat} (h : Bin xs) (k : Nat) : Bin (xs.take k) := fun x hx => h x (List.mem_of_mem_take hx)
theorem Bin.drop {xs : List Nat} (h : Bin xs) (k : Nat) : Bin (xs.drop k) := fun x hx => h x (List.mem_of_mem_drop hx)
theorem Bin.append {xs ys : List Nat} (h : Bin xs) (k : Bin ys) : Bin (xs ++ ys) := fun x hx => by
  rcases List.mem_append.1 hx with h1 | h1
  · exact h x h1
  · exact k x h1
/-- The error of a tape. -/
def tapeErr (xs : List Nat) : Int := if 200 < xs.length then 2 else if xs.all (fun x => decide (x ≤ 1)) = false then 3 else 0
theorem tapeErr_large {xs : List Nat} (h : 200 < xs.length) : tapeErr xs = 2 := if_pos h
theorem tapeErr_form {xs : List Nat} (h : ¬ 200 < xs.length) {x : Nat} (hx : x ∈ xs) (h1 : 1 < x) : tapeErr xs = 3 := by
  rw [tapeErr, if_neg h, if_pos]
  exact List.all_eq_false.2 ⟨x, hx, by simp; omega⟩
theorem tapeErr_ok {xs : List Nat} (h : ¬ 200 < xs.length) (hb : Bin xs) : tapeErr xs = 0 := by
  rw [tapeErr, if_neg h, if_neg]
  rw [List.all_eq_true.2 fun x hx => decide_eq_true (hb x hx)]
  decide
theorem tapeErr_zero {xs : List Nat} (h : tapeErr xs = 0) : xs.length ≤ 200 ∧ Bin xs := by
  unfold tapeErr at h
  split at h
  · cases h
  · split at h
    · cases h
    · rename_i h1 h2
      refine ⟨by omega, fun x hx => ?_⟩
      rcases Nat.lt_or_ge 1 x with h3 | h3
      · exact absurd (List.all_eq_false.2 ⟨x, hx, by simp; omega⟩) h2
      · exact h3
theorem tapeErr_drop {xs : List Nat} (h : tapeErr xs = 0) (k : Nat) : tapeErr (xs.drop k) = 0 := by
  have h1 := tapeErr_zero h
  exact tapeErr_ok (by rw [List.length_drop]; omega) (h1.2.drop k)
theorem tapeErr_take {xs : List Nat} (h : tapeErr xs = 0) (k : Nat) : tapeErr (xs.take k) = 0 := by
  have h1 := tapeErr_zero h
  exact tapeErr_ok (by rw [List.length_take]; omega) (h1.2.take k)

/-- The number that bits write, the greatest first, behind a. -/
def bvl (a : Nat) (xs : List Nat) : Nat := xs.foldl (fun a b => 2 * a + b) a
theorem bvl_nil (a : Nat) : bvl a [] = a := rfl
theorem bvl_snoc (a b : Nat) (xs : List Nat) : bvl a (xs ++ [b]) = 2 * bvl a xs + b := by simp [bvl, List.foldl_append]
theorem bvl_lt {xs : List Nat} : ∀ (a : Nat), Bin xs → bvl a xs < (a + 1) * 2 ^ xs.length := by
  induction xs with
  | nil => intro a _; simp [bvl]
  | cons x xs ih =>
    intro a h
    have h1 := ih (2 * a + x) (fun y hy => h y (List.mem_cons_of_mem _ hy))
    have h2 := h x (List.mem_cons_self ..)
    show bvl (2 * a + x) xs < _
    refine Nat.lt_of_lt_of_le h1 ?_
    rw [List.length_cons, Nat.pow_succ, Nat.mul_comm (2 ^ xs.length) 2, ← Nat.mul_assoc]
    exact Nat.mul_le_mul_right _ (by omega)
theorem bvl_lt0 {xs : List Nat} (h : Bin xs) : bvl 0 xs < 2 ^ xs.length := by
  have := bvl_lt 0 h
  omega
theorem getD_memT {xs : List Nat} {j : Nat} (h : j < xs.length) : xs.getD j 0 ∈ xs := by
  rw [List.getD_eq_getElem?_getD, List.getElem?_eq_getElem h]
  exact List.getElem_mem h
theorem take_snocT {xs : List Nat} {k : Nat} (hk : k < xs.length) : xs.take (k + 1) = xs.take k ++ [xs.getD k 0] := by
  rw [List.take_succ_eq_append_getElem hk, List.getD_eq_getElem?_getD, List.getElem?_eq_getElem hk]
  rfl
theorem bvl_step {xs : List Nat} {k : Nat} (hk : k < xs.length) : bvl 0 (xs.take (k + 1)) = 2 * bvl 0 (xs.take k) + xs.getD k 0 := by rw [take_snocT hk, bvl_snoc]
theorem bvl_take_le {xs : List Nat} (h : Bin xs) {k : Nat} (hk : k ≤ 10) : bvl 0 (xs.take k) < 1024 := by
  have h1 := bvl_lt0 (h.take k)
  have h2 : 2 ^ (xs.take k).length ≤ 2 ^ 10 := Nat.pow_le_pow_right (by omega) (by rw [List.length_take]; omega)
  omega

/-- One draw below n: the number, and how many bits. -/
def drw (n : Nat) (xs : List Nat) : Option (Nat × Nat) :=
  if xs.length < wd n then none
  else if bvl 0 (xs.take (wd n)) < n then some (bvl 0 (xs.take (wd n)), wd n)
  else if _h : 0 < wd n ∧ wd n ≤ xs.length then (drw n (xs.drop (wd n))).map (fun p => (p.1, p.2 + wd n))
  else none
  termination_by xs.length
  decreasing_by rw [List.length_drop]; omega
theorem drw_short {n : Nat} {xs : List Nat} (h : xs.length < wd n) : drw n xs = none := by rw [drw, if_pos h]
theorem drw_hit {n : Nat} {xs : List Nat} (h : wd n ≤ xs.length) (h2 : bvl 0 (xs.take (wd n)) < n) : drw n xs = some (bvl 0 (xs.take (wd n)), wd n) := by rw [drw, if_neg (by omega), if_pos h2]
theorem drw_miss {n : Nat} {xs : List Nat} (h : wd n ≤ xs.length) (h2 : ¬ bvl 0 (xs.take (wd n)) < n) (h0 : 0 < wd n) : drw n xs = (drw n (xs.drop (wd n))).map (fun p => (p.1, p.2 + wd n)) := by
  rw [drw, if_neg (by omega), if_neg h2, dif_pos ⟨h0, h⟩]
theorem miss_pos {n : Nat} {xs : List Nat} (h1 : 1 ≤ n) (h : ¬ bvl 0 (xs.take (wd n)) < n) : 0 < wd n := by
  rcases Nat.eq_zero_or_pos (wd n) with h0 | h0
  · rw [h0, List.take_zero] at h
    exact absurd (show bvl 0 [] < n by rw [bvl_nil]; omega) h
  · exact h0

/-- What a draw that came out tells. -/
theorem drw_bd {n : Nat} (h1 : 1 ≤ n) : ∀ (m : Nat) (xs : List Nat) (x u : Nat), xs.length ≤ m → drw n xs = some (x, u) → x < n ∧ wd n ≤ u ∧ u ≤ xs.length := by
  intro m
  induction m with
  | zero =>
    intro xs x u hm h
    have hx : xs = [] := List.eq_nil_of_length_eq_zero (by omega)
    subst hx
    by_cases hs : ([] : List Nat).length < wd n
    · rw [drw_short hs] at h; cases h
    · by_cases hb : bvl 0 (([] : List Nat).take (wd n)) < n
      · rw [drw_hit (by omega) hb] at h
        injection h with h
        injection h with h2 h3
        subst h2 h3
        exact ⟨hb, Nat.le_refl _, by omega⟩
      · have := miss_pos h1 hb
        simp at hs
        omega
  | succ m ih =>
    intro xs x u hm h
    by_cases hs : xs.length < wd n
    · rw [drw_short hs] at h; cases h
    · by_cases hb : bvl 0 (xs.take (wd n)) < n
      · rw [drw_hit (by omega) hb] at h
        injection h with h
        injection h with h2 h3
        subst h2 h3
        exact ⟨hb, Nat.le_refl _, by omega⟩
      · have h0 := miss_pos h1 hb
        rw [drw_miss (by omega) hb h0] at h
        cases hd : drw n (xs.drop (wd n)) with
        | none => rw [hd] at h; cases h
        | some p =>
          rw [hd] at h
          obtain ⟨y, v⟩ := p
          simp only [Option.map_some, Option.some.injEq, Prod.mk.injEq] at h
          obtain ⟨rfl, rfl⟩ := h
          have := ih _ _ _ (by rw [List.length_drop]; omega) hd
          rw [List.length_drop] at this
          omega
theorem drw_lt {n : Nat} (h1 : 1 ≤ n) {xs : List Nat} {x u : Nat} (h : drw n xs = some (x, u)) : x < n ∧ wd n ≤ u ∧ u ≤ xs.length := drw_bd h1 _ xs x u (Nat.le_refl _) h

/-- What is behind makes no difference. -/
theorem drw_behind {n : Nat} (h1 : 1 ≤ n) (ys : List Nat) : ∀ (m : Nat) (xs : List Nat) (x u : Nat), xs.length ≤ m → drw n xs = some (x, u) → drw n (xs.take u ++ ys) = some (x, u) := by
  intro m
  induction m with
  | zero =>
    intro xs x u hm h
    have hx : xs = [] := List.eq_nil_of_length_eq_zero (by omega)
    subst hx
    have h2 := drw_lt h1 h
    have hw : wd n = 0 := by have := h2.2.2; simp at this; omega
    have hu : u = 0 := by have := h2.2.2; simpa using this
    subst hu
    have hz : bvl 0 (([] : List Nat).take (wd n)) < n := by rw [hw]; show 0 < n; omega
    rw [drw_hit (by omega) hz] at h
    injection h with h
    injection h with h3 h4
    subst h3
    rw [drw_hit (by omega) (by rw [hw]; show 0 < n; omega), hw]
    rfl
  | succ m ih =>
    intro xs x u hm h
    by_cases hs : xs.length < wd n
    · rw [drw_short hs] at h; cases h
    · have hl := drw_lt h1 h
      have hwl : wd n ≤ (xs.take u ++ ys).length := by rw [List.length_append, List.length_take]; omega
      have ht : (xs.take u ++ ys).take (wd n) = xs.take (wd n) := by
        rw [List.take_append_of_le_length (by rw [List.length_take]; omega), List.take_take, Nat.min_eq_left hl.2.1]
      by_cases hb : bvl 0 (xs.take (wd n)) < n
      · rw [drw_hit (by omega) hb] at h
        injection h with h
        injection h with h2 h3
        rw [drw_hit hwl (by rw [ht]; exact hb), ht, h2, h3]
      · have h0 := miss_pos h1 hb
        rw [drw_miss (by omega) hb h0] at h
        cases hd : drw n (xs.drop (wd n)) with
        | none => rw [hd] at h; cases h
        | some p =>
          rw [hd] at h
          obtain ⟨y, v⟩ := p
          simp only [Option.map_some, Option.some.injEq, Prod.mk.injEq] at h
          obtain ⟨rfl, rfl⟩ := h
          have h3 := ih _ _ _ (by rw [List.length_drop]; omega) hd
          have e : (xs.take (v + wd n) ++ ys).drop (wd n) = (xs.drop (wd n)).take v ++ ys := by
            rw [List.drop_append_of_le_length (by rw [List.length_take]; omega), List.drop_take, Nat.add_sub_cancel]
          rw [drw_miss hwl (by rw [ht]; exact hb) h0, e, h3]
          rfl
theorem drw_on {n : Nat} (h1 : 1 ≤ n) {xs : List Nat} {x u : Nat} (h : drw n xs = some (x, u)) (ys : List Nat) : drw n (xs.take u ++ ys) = some (x, u) := drw_behind h1 ys _ xs x u (Nat.le_refl _) h

/-- With fewer bits it is too short. -/
theorem drw_less {n : Nat} (h1 : 1 ≤ n) : ∀ (m : Nat) (xs : List Nat) (x u : Nat), xs.length ≤ m → drw n xs = some (x, u) → 0 < u → drw n (xs.take (u - 1)) = none := by
  intro m
  induction m with
  | zero =>
    intro xs x u hm h hu
    have := drw_lt h1 h
    omega
  | succ m ih =>
    intro xs x u hm h hu
    by_cases hs : xs.length < wd n
    · rw [drw_short hs] at h; cases h
    · have hl := drw_lt h1 h
      by_cases hb : bvl 0 (xs.take (wd n)) < n
      · rw [drw_hit (by omega) hb] at h
        injection h with h
        injection h with h2 h3
        exact drw_short (by rw [List.length_take]; omega)
      · have h0 := miss_pos h1 hb
        rw [drw_miss (by omega) hb h0] at h
        cases hd : drw n (xs.drop (wd n)) with
        | none => rw [hd] at h; cases h
        | some p =>
          rw [hd] at h
          obtain ⟨y, v⟩ := p
          simp only [Option.map_some, Option.some.injEq, Prod.mk.injEq] at h
          obtain ⟨rfl, rfl⟩ := h
          have h4 := drw_lt h1 hd
          have h3 := ih _ _ _ (by rw [List.length_drop]; omega) hd (by omega)
          have ht : (xs.take (v + wd n - 1)).take (wd n) = xs.take (wd n) := by rw [List.take_take, Nat.min_eq_left (by omega)]
          have hwl : wd n ≤ (xs.take (v + wd n - 1)).length := by rw [List.length_take]; omega
          have e : (xs.take (v + wd n - 1)).drop (wd n) = (xs.drop (wd n)).take (v - 1) := by
            rw [List.drop_take, show v + wd n - 1 - wd n = v - 1 by omega]
          rw [drw_miss hwl (by rw [ht]; exact hb) h0, e, h3]
          rfl
theorem drw_cut {n : Nat} (h1 : 1 ≤ n) {xs : List Nat} {x u : Nat} (h : drw n xs = some (x, u)) (hu : 0 < u) : drw n (xs.take (u - 1)) = none := drw_less h1 _ xs x u (Nat.le_refl _) h hu
/-- As many bits as one try takes. -/
theorem drw_one {n : Nat} (h1 : 1 ≤ n) {xs : List Nat} (hl : xs.length = wd n) : drw n xs = if bvl 0 xs < n then some (bvl 0 xs, wd n) else none := by
  have ht : xs.take (wd n) = xs := List.take_of_length_le (by omega)
  by_cases hb : bvl 0 xs < n
  · rw [drw_hit (by omega) (by rw [ht]; exact hb), ht, if_pos hb]
  · have h0 := miss_pos h1 (xs := xs) (by rw [ht]; exact hb)
    rw [drw_miss (by omega) (by rw [ht]; exact hb) h0, if_neg hb, drw_short (by rw [List.length_drop]; omega)]
    rfl

/-- One draw of a right tape, with its error. -/
def drx (n : Int) (xs : List Nat) : Nat × Nat × Int := if n < 1 ∨ 1024 < n then (0, 0, 1) else match drw n.toNat xs with
  | none => (0, 0, 6)
  | some p => (p.1, p.2, 0)
theorem drx_arg {n : Int} (xs : List Nat) (h : n < 1 ∨ 1024 < n) : drx n xs = (0, 0, 1) := if_pos h
theorem drx_none {n : Nat} {xs : List Nat} (h1 : 1 ≤ n) (h2 : n ≤ 1024) (h : drw n xs = none) : drx n xs = (0, 0, 6) := by
  rw [drx, if_neg (by omega), Int.toNat_natCast, h]
theorem drx_some {n : Nat} {xs : List Nat} {x u : Nat} (h1 : 1 ≤ n) (h2 : n ≤ 1024) (h : drw n xs = some (x, u)) : drx n xs = (x, u, 0) := by
  rw [drx, if_neg (by omega), Int.toNat_natCast, h]
/-- Refused, or drawn. -/
theorem drx_cases (n : Int) (xs : List Nat) : (∃ e, drx n xs = (0, 0, e) ∧ e ≠ 0 ∧ (e = 1 ∨ e = 6)) ∨ ∃ (m x u : Nat), n = m ∧ 1 ≤ m ∧ m ≤ 1024 ∧ drw m xs = some (x, u) ∧ drx n xs = (x, u, 0) ∧ x < m ∧ wd m ≤ u ∧ u ≤ xs.length := by
  by_cases h : n < 1 ∨ 1024 < n
  · exact .inl ⟨1, drx_arg xs h, by decide, .inl rfl⟩
  · obtain ⟨m, rfl⟩ := Int.eq_ofNat_of_zero_le (show 0 ≤ n by omega)
    cases hd : drw m xs with
    | none => exact .inl ⟨6, drx_none (by omega) (by omega) hd, by decide, .inr rfl⟩
    | some p =>
      obtain ⟨x, u⟩ := p
      exact .inr ⟨m, x, u, rfl, by omega, by omega, hd, drx_some (by omega) (by omega) hd, drw_lt (by omega) hd⟩

/-- Draws, one behind another. -/
def rowx : List Int → List Nat → List Int × Nat × Int
  | [], _ => ([], 0, 0)
  | n :: ms, xs => if (drx n xs).2.2 ≠ 0 then ([], 0, (drx n xs).2.2)
    else if (rowx ms (xs.drop (drx n xs).2.1)).2.2 ≠ 0 then ([], 0, (rowx ms (xs.drop (drx n xs).2.1)).2.2)
    else (((drx n xs).1 : Int) :: (rowx ms (xs.drop (drx n xs).2.1)).1, (drx n xs).2.1 + (rowx ms (xs.drop (drx n xs).2.1)).2.1, 0)
theorem rowx_nil (xs : List Nat) : rowx [] xs = ([], 0, 0) := rfl
theorem rowx_bad {n : Int} {ms : List Int} {xs : List Nat} {e : Int} (h : drx n xs = (0, 0, e)) (he : e ≠ 0) : rowx (n :: ms) xs = ([], 0, e) := by
  rw [rowx, h, if_pos he]
theorem rowx_fail {n : Int} {ms : List Int} {xs : List Nat} {x u : Nat} {r : List Int} {v : Nat} {e : Int} (h : drx n xs = (x, u, 0)) (h2 : rowx ms (xs.drop u) = (r, v, e)) (he : e ≠ 0) : rowx (n :: ms) xs = ([], 0, e) := by
  rw [rowx, h, if_neg (by simp), h2, if_pos he]
theorem rowx_good {n : Int} {ms : List Int} {xs : List Nat} {x u : Nat} {r : List Int} {v : Nat} (h : drx n xs = (x, u, 0)) (h2 : rowx ms (xs.drop u) = (r, v, 0)) : rowx (n :: ms) xs = ((x : Int) :: r, u + v, 0) := by
  rw [rowx, h, if_neg (by simp), h2, if_neg (by simp)]
/-- Refused, or as many numbers as were asked for. -/
theorem rowx_cases : ∀ (ms : List Int) (xs : List Nat), (∃ e, rowx ms xs = ([], 0, e) ∧ e ≠ 0 ∧ (e = 1 ∨ e = 6)) ∨ ∃ r u, rowx ms xs = (r, u, 0) ∧ r.length = ms.length ∧ u ≤ xs.length ∧ ∀ y ∈ r, 0 ≤ y ∧ y < 1024
  | [], xs => .inr ⟨[], 0, rfl, rfl, Nat.zero_le _, fun _ h => (List.not_mem_nil h).elim⟩
  | n :: ms, xs => by
    rcases drx_cases n xs with ⟨e, h, he, hc⟩ | ⟨m, x, u, rfl, h1, h2, hd, hx, hb, hw, hu⟩
    · exact .inl ⟨e, rowx_bad h he, he, hc⟩
    · rcases rowx_cases ms (xs.drop u) with ⟨e, h, he, hc⟩ | ⟨r, v, h, hl, hv, hr⟩
      · exact .inl ⟨e, rowx_fail hx h he, he, hc⟩
      · refine .inr ⟨_, _, rowx_good hx h, by simp [hl], by rw [List.length_drop] at hv; omega, fun y hy => ?_⟩
        rcases List.mem_cons.1 hy with rfl | hy
        · omega
        · exact hr y hy
theorem rowx_append_bad : ∀ (a b : List Int) (xs : List Nat) (e : Int), rowx a xs = ([], 0, e) → e ≠ 0 → rowx (a ++ b) xs = ([], 0, e)
  | [], b, xs, e, h, he => by
    rw [rowx_nil] at h
    injection h with _ h
    injection h with _ h
    exact absurd h.symm he
  | n :: ms, b, xs, e, h, he => by
    rcases drx_cases n xs with ⟨e', h2, he', _⟩ | ⟨m, x, u, rfl, h1, h2, hd, hx, _⟩
    · rw [rowx_bad h2 he'] at h
      rw [List.cons_append, rowx_bad h2 he', h]
    · rcases rowx_cases ms (xs.drop u) with ⟨e', h3, he', _⟩ | ⟨r, v, h3, _⟩
      · rw [rowx_fail hx h3 he'] at h
        injection h with _ h
        injection h with _ h
        subst h
        rw [List.cons_append, rowx_fail hx (rowx_append_bad ms b _ _ h3 he') he']
      · rw [rowx_good hx h3] at h
        injection h with h _
        cases h
theorem rowx_append : ∀ (a b : List Int) (xs : List Nat) (r : List Int) (u : Nat), rowx a xs = (r, u, 0) → rowx (a ++ b) xs = if (rowx b (xs.drop u)).2.2 ≠ 0 then ([], 0, (rowx b (xs.drop u)).2.2) else (r ++ (rowx b (xs.drop u)).1, u + (rowx b (xs.drop u)).2.1, 0)
  | [], b, xs, r, u, h => by
    rw [rowx_nil] at h
    injection h with h1 h
    injection h with h2 h
    subst h1 h2
    rw [List.nil_append, List.drop_zero]
    rcases rowx_cases b xs with ⟨e, h3, he, _⟩ | ⟨r, v, h3, _⟩
    · rw [h3, if_pos he]
    · rw [h3, if_neg (by simp), List.nil_append, Nat.zero_add]
  | n :: ms, b, xs, r, u, h => by
    rcases drx_cases n xs with ⟨e', h2, he', _⟩ | ⟨m, x, u1, rfl, h1, h2, hd, hx, _⟩
    · rw [rowx_bad h2 he'] at h
      injection h with _ h
      injection h with _ h
      exact absurd h he'
    · rcases rowx_cases ms (xs.drop u1) with ⟨e', h3, he', _⟩ | ⟨r1, v, h3, _⟩
      · rw [rowx_fail hx h3 he'] at h
        injection h with _ h
        injection h with _ h
        exact absurd h he'
      · rw [rowx_good hx h3] at h
        injection h with hr h
        injection h with hu _
        subst hr hu
        have ih := rowx_append ms b _ _ _ h3
        rw [List.drop_drop] at ih
        rcases rowx_cases b (xs.drop (u1 + v)) with ⟨e, h4, he, _⟩ | ⟨r2, v2, h4, _⟩
        · rw [h4, if_pos he] at ih ⊢
          rw [List.cons_append, rowx_fail hx ih he]
        · rw [h4, if_neg (by simp)] at ih ⊢
          rw [List.cons_append, rowx_good hx ih, List.cons_append, Nat.add_assoc]
/-- One more. -/
theorem rowx_snoc {ms : List Int} {xs : List Nat} {k : Nat} (hk : k < ms.length) {r : List Int} {u x v : Nat} (h : rowx (ms.take k) xs = (r, u, 0)) (hd : drx (ms.getD k 0) (xs.drop u) = (x, v, 0)) : rowx (ms.take (k + 1)) xs = (r ++ [(x : Int)], u + v, 0) := by
  have e : ms.take (k + 1) = ms.take k ++ [ms.getD k 0] := by
    rw [List.take_succ_eq_append_getElem hk, List.getD_eq_getElem?_getD, List.getElem?_eq_getElem hk]
    rfl
  have h1 : rowx [ms.getD k 0] (xs.drop u) = ([(x : Int)], v, 0) := rowx_good hd (rowx_nil _)
  rw [e, rowx_append _ _ _ _ _ h, h1, if_neg (by simp)]
theorem rowx_stop {ms : List Int} {xs : List Nat} {k : Nat} (hk : k < ms.length) {r : List Int} {u : Nat} {e : Int} (h : rowx (ms.take k) xs = (r, u, 0)) (hd : drx (ms.getD k 0) (xs.drop u) = (0, 0, e)) (he : e ≠ 0) : rowx ms xs = ([], 0, e) := by
  have e1 : ms = ms.take k ++ (ms.getD k 0 :: ms.drop (k + 1)) := by
    rw [List.getD_eq_getElem?_getD, List.getElem?_eq_getElem hk]
    simp
  have h1 : rowx (ms.getD k 0 :: ms.drop (k + 1)) (xs.drop u) = ([], 0, e) := rowx_bad hd he
  have h2 := rowx_append _ (ms.getD k 0 :: ms.drop (k + 1)) _ _ _ h
  rw [h1, if_pos he] at h2
  rw [e1]
  exact h2
/-- What Draw and Row answer, whatever comes in. -/
def drawX (n : Int) (xs : List Nat) : Nat × Nat × Int := if tapeErr xs ≠ 0 then (0, 0, tapeErr xs) else drx n xs
def rowX (ms : List Int) (xs : List Nat) : List Int × Nat × Int := if tapeErr xs ≠ 0 then ([], 0, tapeErr xs) else if 30 < ms.length then ([], 0, 2) else rowx ms xs
theorem drawX_bad {n : Int} {xs : List Nat} (h : tapeErr xs ≠ 0) : drawX n xs = (0, 0, tapeErr xs) := if_pos h
theorem drawX_ok {n : Int} {xs : List Nat} (h : tapeErr xs = 0) : drawX n xs = drx n xs := if_neg (by simp [h])
theorem rowX_bad {ms : List Int} {xs : List Nat} (h : tapeErr xs ≠ 0) : rowX ms xs = ([], 0, tapeErr xs) := if_pos h
theorem rowX_large {ms : List Int} {xs : List Nat} (h : tapeErr xs = 0) (h2 : 30 < ms.length) : rowX ms xs = ([], 0, 2) := by rw [rowX, if_neg (by simp [h]), if_pos h2]
theorem rowX_ok {ms : List Int} {xs : List Nat} (h : tapeErr xs = 0) (h2 : ¬ 30 < ms.length) : rowX ms xs = rowx ms xs := by rw [rowX, if_neg (by simp [h]), if_neg h2]
end Go.Proofs.Ytmdpfadfimodjaa

/-
  Bytes that are read, and bytes that the call itself has made: slices of them, appends. Nothing of the program is proved here.
-/
namespace Go.Proofs.Ytmdpfadfimodjaa
open Go.RowKit

theorem infoByte : (Try.prog.info? 5).map (fun i => (i.zero, i.size, i.bytes)) = some (some (.int .u8 0), 1, 1) := by kernel_rfl
def encB (n : Nat) : Value := .int .u8 (n : Int)

/-- The slice value '.slice A n c' holds the bytes xs in the world w. -/
structure Byts (w : World) (A : Option Addr) (n : Nat) (xs : List Nat) : Prop where
  len : xs.length = n
  lt : ∀ x ∈ xs, x < 256
  row : 0 < n → ∃ b off, A = some ⟨b, off, none⟩ ∧ b < w.heap.size ∧ ∀ j, j < n → w.cell? ⟨b, off + j, none⟩ = some (.int .u8 ((xs.getD j 0 : Nat) : Int))
theorem Byts.nil (w : World) (A : Option Addr) : Byts w A 0 [] := ⟨rfl, fun _ h => (List.not_mem_nil h).elim, fun h => absurd h (by omega)⟩
theorem Byts.keep {w w' : World} {A : Option Addr} {n : Nat} {xs : List Nat} (h : Byts w A n xs) (hb : Below w.heap.size w w') : Byts w' A n xs := by
  refine ⟨h.len, h.lt, fun hn => ?_⟩
  obtain ⟨b, off, e, hlt, hc⟩ := h.row hn
  exact ⟨b, off, e, Nat.lt_of_lt_of_le hlt hb.size, fun j hj => (hb.cell (p := ⟨b, off + j, none⟩) hlt).trans (hc j hj)⟩
theorem Byts.get {w : World} {A : Option Addr} {n : Nat} {xs : List Nat} (h : Byts w A n xs) {j : Nat} (hj : j < n) : xs.getD j 0 < 256 := by
  have hl := h.len
  have hj' : j < xs.length := by omega
  rw [List.getD_eq_getElem?_getD, List.getElem?_eq_getElem hj']
  exact h.lt _ (List.getElem_mem hj')
theorem byts_lit (w : World) (cs : Array Value) (t n : Nat) (xs : List Nat) (h : cs = (xs.map encB).toArray) (hn : xs.length = n) (hx : ∀ x ∈ xs, x < 256) : Byts (w.alloc (.cells cs t)) (some ⟨w.heap.size, 0, none⟩) n xs := by
  subst h
  subst hn
  refine ⟨rfl, hx, fun _ => ⟨w.heap.size, 0, rfl, by simp, fun j hj => ?_⟩⟩
  rw [cell_of_row (w.alloc _) w.heap.size (0 + j) _ t (0, 0) (heap_alloc_new w _)]
  simp [List.getD_eq_getElem?_getD, List.getElem?_eq_getElem hj, encB]
theorem lit_u8 {a : Int} (h : (Lit.int .u8 a).wf = true) : ∃ s : Nat, a = s ∧ s < 256 := by
  simp only [Lit.wf, Bool.and_eq_true, decide_eq_true_eq] at h
  have h1 : (0 : Int) ≤ a := h.1
  have h2 : a ≤ 255 := h.2
  exact ⟨a.toNat, by omega, by omega⟩
/-- A row of bytes that came in. -/
theorem IsRow.byts {w : World} {a : Option Addr} {len cap : Nat} {zs : List Int} (h : IsRow .u8 w a len cap zs) : Byts w a len ((zs.take len).map Int.toNat) ∧ len ≤ cap ∧ cap ≤ maxLen := by
  rcases h with ⟨rfl, rfl, rfl, rfl⟩ | ⟨⟨b, off, sp⟩, rfl, hl, hm, hz, hcell, hwf⟩
  · exact ⟨Byts.nil _ _, Nat.le_refl _, Nat.zero_le _⟩
  · have hlt : ∀ j, j < len → ∃ s : Nat, zs.getD j 0 = s ∧ s < 256 := fun j hj => by
      have hj' : j < zs.length := by omega
      refine lit_u8 (hwf _ ?_)
      rw [List.getD_eq_getElem?_getD, List.getElem?_eq_getElem hj']
      exact List.getElem_mem hj'
    refine ⟨⟨by rw [List.length_map, List.length_take]; omega, ?_, fun hp => ?_⟩, hl, hm⟩
    · intro x hx
      rw [List.mem_map] at hx
      obtain ⟨y, hy, rfl⟩ := hx
      obtain ⟨s, rfl, hs⟩ := lit_u8 (hwf y (List.mem_of_mem_take hy))
      simpa using hs
    · have h0 := hcell 0 (by omega)
      have hsp : sp = none := by simpa [Addr.add] using World.cell?_spot h0
      subst hsp
      refine ⟨b, off, rfl, by have := block_lt_of_cell h0; simpa [Addr.add] using this, fun j hj => ?_⟩
      have hj' : j < zs.length := by omega
      have h1 := hcell j hj'
      obtain ⟨s, e, hs⟩ := hlt j hj
      have e2 : ((zs.take len).map Int.toNat).getD j 0 = s := by
        have hjt : j < (zs.take len).length := by rw [List.length_take]; omega
        rw [List.getD_eq_getElem?_getD, List.getElem?_eq_getElem (by rw [List.length_map]; exact hjt)]
        rw [List.getD_eq_getElem?_getD, List.getElem?_eq_getElem hj'] at e
        simp only [Option.getD_some] at e
        simp [e]
      have ha : (⟨b, off, none⟩ : Addr).add j = ⟨b, off + j, none⟩ := by unfold Addr.add; split <;> simp_all
      rw [ha] at h1
      rw [e2, ← e]
      exact h1
theorem Byts.take {w : World} {A : Option Addr} {n m : Nat} {xs : List Nat} (h : Byts w A n xs) (hm : m ≤ n) : Byts w A m (xs.take m) := by
  refine ⟨by rw [List.length_take, h.len]; omega, fun x hx => h.lt x (List.mem_of_mem_take hx), fun hp => ?_⟩
  obtain ⟨b, o, e, hb, hc⟩ := h.row (by omega)
  refine ⟨b, o, e, hb, fun j hj => ?_⟩
  rw [hc j (by omega)]
  simp [List.getD_eq_getElem?_getD, hj]
theorem Byts.drop {w : World} {A : Option Addr} {n c l : Nat} {xs : List Nat} (h : Byts w A n xs) (hl : l ≤ n) (hc : n ≤ c) : Byts w (subA A c l) (n - l) (xs.drop l) := by
  refine ⟨by rw [List.length_drop, h.len], fun x hx => h.lt x (List.mem_of_mem_drop hx), fun hp => ?_⟩
  obtain ⟨b, o, rfl, hb, hcell⟩ := h.row (by omega)
  refine ⟨b, o + l, ?_, hb, fun j hj => ?_⟩
  · unfold subA
    rw [if_neg (by omega)]
    simp only [Option.map_some, Addr.add]
    by_cases h0 : l = 0
    · subst h0
      rfl
    · rw [if_neg h0]
  · rw [show o + l + j = o + (l + j) by omega, hcell (l + j) (by omega)]
    simp [List.getD_eq_getElem?_getD]
theorem Byts.bin {w : World} {A : Option Addr} {n : Nat} {xs : List Nat} (h : Byts w A n xs) (hx : ∀ j, j < n → xs.getD j 0 ≤ 1) : Bin xs := fun x hm => by
  obtain ⟨j, hj, rfl⟩ := List.getElem_of_mem hm
  have := hx j (by rw [← h.len]; exact hj)
  rw [List.getD_eq_getElem?_getD, List.getElem?_eq_getElem hj] at this
  exact this

set_option maxRecDepth 100000 in
theorem sizeByte : ∀ w, (Go.sizeOf 5).run Try.prog w = .ok 1 w := by
  exact fun _ => by kernel_rfl
theorem run_fromB (A : Option Addr) (n c l : Nat) (L : Int) (hL : L = (l : Int)) (hl : l ≤ n) (W : World) :
    (Instr.slice 23 (.slice A n c) (some (.int .i64 L)) none none).run Try.prog W = .ok (.slice (subA A c l) (n - l) (c - l)) W := by
  subst hL
  have ht' : Try.prog.underlying 23 = some (.slice (Try.prog.elem 23)) := by simp [Program.elem, Try.underlying23]
  have he : Try.prog.elem 23 = 5 := by simp [Program.elem, Try.underlying23]
  rw [run_slice_l W _ _ _ _ ht' .i64 _ (by omega) (by omega), he, sizeByte]
  simp [Result.andThen, sliced, subA]
theorem run_midB (A : Option Addr) (n c l h : Nat) (L H : Int) (hL : L = (l : Int)) (hH : H = (h : Int)) (hl : l ≤ h) (hh : h ≤ c) (W : World) :
    (Instr.slice 23 (.slice A n c) (some (.int .i64 L)) (some (.int .i64 H)) none).run Try.prog W = .ok (.slice (subA A c l) (h - l) (c - l)) W := by
  subst hL
  subst hH
  have ht' : Try.prog.underlying 23 = some (.slice (Try.prog.elem 23)) := by simp [Program.elem, Try.underlying23]
  have he : Try.prog.elem 23 = 5 := by simp [Program.elem, Try.underlying23]
  rw [run_slice_lh W _ _ _ _ ht' .i64 .i64 _ _ (by omega) (by omega) (by omega), he, sizeByte]
  simp [Result.andThen, sliced, subA]
theorem map_add0 (A : Option Addr) : A.map (·.add 0) = A := by
  cases A with
  | none => rfl
  | some a => simp [Addr.add]
theorem run_toB (A : Option Addr) (n c h : Nat) (H : Int) (hH : H = (h : Int)) (hh : h ≤ c) (W : World) :
    (Instr.slice 23 (.slice A n c) none (some (.int .i64 H)) none).run Try.prog W = .ok (.slice A h c) W := by
  subst hH
  have ht' : Try.prog.underlying 23 = some (.slice (Try.prog.elem 23)) := by simp [Program.elem, Try.underlying23]
  have he : Try.prog.elem 23 = 5 := by simp [Program.elem, Try.underlying23]
  rw [run_slice_h W _ _ _ _ ht' .i64 _ (by omega) (by omega), he, sizeByte]
  simp [Result.andThen, sliced, map_add0]
theorem run_toI (A : Option Addr) (n c h : Nat) (H : Int) (hH : H = (h : Int)) (hh : h ≤ c) (W : World) :
    (Instr.slice 22 (.slice A n c) none (some (.int .i64 H)) none).run Try.prog W = .ok (.slice A h c) W := by
  subst hH
  have ht' : Try.prog.underlying 22 = some (.slice (Try.prog.elem 22)) := by simp [Program.elem, Try.underlying22]
  have he : Try.prog.elem 22 = 3 := by simp [Program.elem, Try.underlying22]
  rw [run_slice_h W _ _ _ _ ht' .i64 _ (by omega) (by omega), he, sizeInt]
  simp [Result.andThen, sliced, map_add0]

/-- v is a slice of bytes of the call's own (its block from 'base' on), and holds xs. -/
def OwnByts (w : World) (base : Nat) (v : Value) (xs : List Nat) : Prop := w.ownsRow base 5 1 v xs.length (xs.map encB)
theorem OwnByts.nil (w : World) (base : Nat) : OwnByts w base (.slice none 0 0) [] := World.ownsRow_nil w base 5 1
theorem OwnByts.drewN {w : World} {base : Nat} {v : Value} {xs : List Nat} (h : OwnByts w base v xs) (k : Nat) : OwnByts (w.drewN k) base v xs := h
theorem OwnByts.keep {w w' : World} {base : Nat} {v : Value} {xs : List Nat} (h : OwnByts w base v xs) (hb : Below w.heap.size w w') : OwnByts w' base v xs := by
  refine ⟨h.1, ?_⟩
  rcases h.2 with h0 | ⟨g, cap, cur, hv, hg, hh, r⟩
  · exact .inl h0
  · exact .inr ⟨g, cap, cur, hv, hg, (hb.block g (Array.getElem?_eq_some_iff.1 hh).1).trans hh, r⟩
theorem OwnByts.mono {w : World} {base base' : Nat} {v : Value} {xs : List Nat} (h : OwnByts w base v xs) (hb : base' ≤ base) : OwnByts w base' v xs := by
  refine ⟨h.1, ?_⟩
  rcases h.2 with h0 | ⟨g, cap, cur, hv, hg, r⟩
  · exact .inl h0
  · exact .inr ⟨g, cap, cur, hv, Nat.le_trans hb hg, r⟩
/-- The slice as one that is only read. -/
theorem OwnByts.byts {w : World} {base : Nat} {v : Value} {xs : List Nat} (h : OwnByts w base v xs) (hx : ∀ x ∈ xs, x < 256) : ∃ A c, v = .slice A xs.length c ∧ Byts w A xs.length xs ∧ Cap xs.length c ∧ (A = none → c = 0) := by
  rcases h.2 with ⟨rfl, h0⟩ | ⟨g, cap, cur, rfl, hb, hg, hc1, hc2, _⟩
  · have : xs = [] := List.eq_nil_of_length_eq_zero h0
    subst this
    exact ⟨none, 0, rfl, Byts.nil _ _, ⟨Nat.le_refl _, by omega⟩, fun _ => rfl⟩
  · refine ⟨_, _, rfl, ⟨rfl, hx, fun _ => ⟨g, 0, rfl, (Array.getElem?_eq_some_iff.1 hg).1, fun j hj => ?_⟩⟩, ⟨hc1, by unfold maxLen at hc2; exact hc2⟩, fun e => by cases e⟩
    rw [Nat.zero_add, World.ownsRow.cellAt h j (by omega)]
    simp [List.getD_eq_getElem?_getD, List.getElem?_eq_getElem hj, encB]
theorem cells_of_byts {w : World} {ad : Addr} {n : Nat} {ys : List Nat} (h : Byts w (some ad) n ys) : ∀ j u, (ys.map encB)[j]? = some u → w.cell? (ad.add j) = some u := by
  intro j u hj
  rw [List.getElem?_map] at hj
  have hjl : j < ys.length := by
    rcases Nat.lt_or_ge j ys.length with h1 | h1
    · exact h1
    · rw [List.getElem?_eq_none h1] at hj; cases hj
  rw [List.getElem?_eq_getElem hjl] at hj
  simp only [Option.map_some, Option.some.injEq] at hj
  obtain ⟨b, off, e, hb, hc⟩ := h.row (by have := h.len; omega)
  injection e with e
  subst e
  have ha : (⟨b, off, none⟩ : Addr).add j = ⟨b, off + j, none⟩ := by unfold Addr.add; split <;> simp_all
  rw [ha, hc j (by have := h.len; omega), ← hj]
  simp [List.getD_eq_getElem?_getD, List.getElem?_eq_getElem hjl, encB]
theorem cell_oneT (W : World) (y : Int) : ∀ j u, [Value.int .u8 y][j]? = some u → (W.alloc (.cells #[.int .u8 y] 5)).cell? ((⟨W.heap.size, 0, none⟩ : Addr).add j) = some u := by
  intro j u hj
  match j, hj with
  | 0, hj => simp at hj; subst hj; simp [Addr.add]
/-- 'out = append(out, y)', out nil or the call's own: the world has laid y in a block of its own first. -/
theorem wpList_appT {ops : Array Oper} {rest : List Oper} {o : Oper} {a : Act} {Q : Exit → Act → World → Prop} (W : World) (yv : Int) (hgd : o.guard = none) (s x : Operand)
    (ho : o.op = .call { callee := .builtin .append, args := #[s, x], argTypes := #[23, 23] })
    (base : Nat) (v : Value) (xs : List Nat) (y : Nat) (hy : yv = (y : Int)) (hs : a.eval s = v) (hx : a.eval x = .slice (some ⟨W.heap.size, 0, none⟩) 1 1) (hown : OwnByts W base v xs)
    (hlen : xs.length ≤ 1000000000000) (hbase : base ≤ W.heap.size)
    (h : ∀ v' w', OwnByts w' base v' (xs ++ [y]) → Below base W w' → W.grownBy w' v.ownBlock → wpList Try.prog ops Q rest (a.put o.dst v') w') :
    wpList Try.prog ops Q (o :: rest) a (W.alloc (.cells #[.int .u8 yv] 5)) := by
  subst hy
  obtain ⟨i0, hi, hz0, hz1, hz2⟩ := info_parts infoByte
  refine wpList_append_own _ hgd s x 23 ho base 5 i0 (.int .u8 0) 1 1 Try.underlying23 hi hz0 hz1 hz2 rfl (by decide) v xs.length (xs.map encB) hs (World.ownsRow.alloc hown _)
    ⟨W.heap.size, 0, none⟩ 1 1 [.int .u8 (y : Int)] hx rfl (cell_oneT W _) (by intro u hu; simp at hu; subst hu; rfl) (by unfold maxLen; omega) (by omega) (by simp; omega) ?_
  intro v' w' h1 h2 _
  have hg : W.grownBy w' v.ownBlock := ⟨h2.os, h2.tape, h2.output, Nat.le_trans (by simp) h2.size, fun k hk hne => (h2.block k (by simp; omega) hne).trans (Below.heap_alloc W _ k hk)⟩
  refine h v' w' ?_ ?_ hg
  · unfold OwnByts
    simpa [encB] using h1
  · refine ⟨hg.os, hg.tape, hg.output, hg.size, fun k hk => hg.block k (by omega) (fun e => ?_)⟩
    have := World.ownsRow.lt hown k e.symm
    omega
/-- A row that may be nil, onto what the call made. -/
theorem wpList_appTs {ops : Array Oper} {rest : List Oper} {o : Oper} {a : Act} {Q : Exit → Act → World → Prop} (W : World) (hgd : o.guard = none) (s x : Operand)
    (ho : o.op = .call { callee := .builtin .append, args := #[s, x], argTypes := #[23, 23] })
    (base : Nat) (v : Value) (xs : List Nat) (hs : a.eval s = v) (A : Option Addr) (n c : Nat) (ys : List Nat) (hx : a.eval x = .slice A n c) (hown : OwnByts W base v xs) (hI : Byts W A n ys) (hcap : A = none → c = 0)
    (hlen : xs.length + n ≤ 1000000000000) (hbase : base ≤ W.heap.size)
    (h : ∀ v' w', OwnByts w' base v' (xs ++ ys) → Below base W w' → wpList Try.prog ops Q rest (a.put o.dst v') w') :
    wpList Try.prog ops Q (o :: rest) a W := by
  obtain ⟨i0, hi, hz0, hz1, hz2⟩ := info_parts infoByte
  rcases A with _ | ad
  · have hn0 : n = 0 := by
      rcases Nat.eq_zero_or_pos n with h0 | h0
      · exact h0
      · obtain ⟨b, o', e, _⟩ := hI.row h0
        cases e
    subst hn0
    have hc0 := hcap rfl
    subst hc0
    have hy0 : ys = [] := List.eq_nil_of_length_eq_zero hI.len
    subst hy0
    refine wpList_append_own_none hgd s x 23 ho base 5 i0 1 Try.underlying23 hi _ xs.length _ hs hown hx ?_
    refine h _ _ ?_ (Below.refl _ _)
    rw [List.append_nil]
    exact hown
  · refine wpList_append_own _ hgd s x 23 ho base 5 i0 (.int .u8 0) 1 1 Try.underlying23 hi hz0 hz1 hz2 rfl (by decide) v xs.length (xs.map encB) hs hown
      ad n c (ys.map encB) hx (by rw [List.length_map, hI.len, Nat.mul_one]) (cells_of_byts hI) (by intro u hu; obtain ⟨y, _, rfl⟩ := List.mem_map.1 hu; rfl) (by unfold maxLen; omega) (by omega) hbase ?_
    intro v' w' h1 h2 _
    refine h v' w' ?_ ?_
    · unfold OwnByts
      rw [List.length_append, List.map_append, hI.len]
      exact h1
    · refine ⟨h2.os, h2.tape, h2.output, h2.size, fun k hk => h2.block k (by omega) (fun e => ?_)⟩
      have := World.ownsRow.lt hown k e.symm
      omega
end Go.Proofs.Ytmdpfadfimodjaa

/-
  shuffle.Lots.
-/
namespace Go.Proofs.Ytmdpfadfimodjaa
open Go.RowKit

theorem index_last (A : Option Addr) (k c : Nat) (q : List Int) (w : World) (h : Ints w A (k + 1) q) (hq : IsPerm q) (hk : k ≤ 1000) :
    Calls Try.prog 40 #[.slice A (k + 1) c, .int .i64 (k : Int)] w fun e w' => e = .returned (.int .i64 ((ixf q (k : Int) : Nat) : Int)) ∧ w = w' := by
  refine (index_any A (k + 1) c q (k : Int) w h (by omega)).mono ?_
  rintro e w' ⟨r, rfl, -, rfl, hf⟩
  obtain ⟨j, rfl, hj⟩ := hf (hq.all k (by rw [h.len]; omega))
  rw [hj.only (isPerm_last h.len hq)]
  exact ⟨rfl, rfl⟩

theorem OwnInts.frozenN {w : World} {base g n cap : Nat} {xs : List Int} (h : OwnInts w base (.slice (some ⟨g, 0, none⟩) n cap) xs) (hn : n = xs.length) (j : Nat) : w.frozen? ⟨g, j, none⟩ = false := by
  subst hn
  exact World.ownsRow.frozenAt h j
theorem OwnInts.cellN {w : World} {base g n cap : Nat} {xs : List Int} (h : OwnInts w base (.slice (some ⟨g, 0, none⟩) n cap) xs) (hn : n = xs.length) {j : Nat} (hj : j < n) : w.cell? ⟨g, j, none⟩ = some (.int .i64 (xs.getD j 0)) := by
  subst hn
  exact h.cell hj
theorem set_replicate (k : Nat) (t : List Int) (x : Int) : (List.replicate (k + 1) (0 : Int) ++ t).set k x = List.replicate k (0 : Int) ++ (x :: t) := by
  have e : List.replicate (k + 1) (0 : Int) ++ t = List.replicate k (0 : Int) ++ ((0 : Int) :: t) := by rw [List.replicate_succ']; simp
  rw [e, List.set_append_right _ _ (by simp)]
  simp

theorem shLots_bad (A : Option Addr) (n c : Nat) (xs : List Int) (w : World) (h : Ints w A n xs) (hn : n ≤ 9223372036854775807) (he : permErr xs ≠ 0) :
    Calls Try.prog 9 #[.slice A n c] w (RetOwnE w [] (permErr xs)) := by
  have HC := hid (check_any A n c xs w h hn)
  have hz : (permErr xs != 0) = true := by simpa using he
  clear h he
  generalize permErr xs = E at *
  go_enter Try.func9, Try.ntmps9
  go_wp2_with fail
  refine HC.out.mono ?_
  rintro e w' ⟨rfl, hb⟩
  have HB := hid hb
  clear hb
  go_wp2
  go_ret2
  exact ⟨_, rfl, OwnInts.nil _ _, HB.out⟩

/-- What the loop of Lots keeps: k numbers are left. -/
structure LInv (w : World) (g n : Nat) (p : List Int) (wr : World) (lv : Value) (k : Nat) (L t : List Int) : Prop where
  len : L.length = k
  perm : IsPerm L
  un : unlots n p = unlots k L ++ t
  arr : Arr wr g (List.replicate k (0 : Int) ++ t)
  own : OwnInts wr (g + 1) lv L
  bel : Below w.heap.size w wr

set_option maxHeartbeats 2000000 in
set_option maxRecDepth 100000 in
theorem shLots_good (A : Option Addr) (n c : Nat) (p : List Int) (w : World) (h : Ints w A n p) (he : permErr p = 0) :
    Calls Try.prog 9 #[.slice A n c] w (RetOwnE w (unlots n p) 0) := by
  obtain ⟨hn, hp⟩ := permErr_ok.1 he
  rw [h.len] at hn
  have HL := hid h.len
  have HC := hid (check_any A n c p w h (by omega))
  rw [he] at HC
  have HI := hid h
  have HP := hid hp
  have hmk := fun W => run_make_row' (P := Try.prog) 22 3 (.int .i64 0) 8 Try.underlying22 infoInt rfl .i64 .i64 n (by omega) (by omega) W
  clear h he hp
  go_enter Try.func9, Try.ntmps9
  go_wp2_with fail
  refine HC.out.mono ?_
  rintro e w0 ⟨rfl, hb⟩
  have HB0 := hid hb
  clear hb HC
  have HA1 := hid (Arr.made w0 n)
  have HB1 := hid (below_step HB0.out (Nat.le_refl _) (below_alloc w0 (.cells (madeCells #[.int .i64 0] n) 3)))
  have HI1 := hid (HI.out.keep HB1.out)
  have hsz : (w0.alloc (.cells (madeCells #[.int .i64 0] n) 3)).heap.size = w0.heap.size + 1 := by simp
  have HSZ := hid hsz
  clear hsz
  go_wp2_with fail
  refine (clone_any A n c p _ HI1.out (by omega)).mono ?_
  rintro e w1 ⟨lv, rfl, ho, hb⟩
  rw [HSZ.out] at ho
  have hinv : LInv w w0.heap.size n p w1 lv n p [] :=
    ⟨HL.out, HP.out, by rw [List.append_nil], by rw [List.append_nil]; exact HA1.out.keep hb, ho, below_step HB1.out (Nat.le_refl _) hb⟩
  have HV := hid hinv
  have HGB : Hid (w.heap.size ≤ w0.heap.size) := hid HB0.out.size
  have hrep : ∃ A c, lv = .slice A n c := by
    obtain ⟨A1, c1, e, -, -⟩ := ho.ints
    rw [HL.out] at e
    exact ⟨A1, c1, e⟩
  obtain ⟨A1, c1, rfl⟩ := hrep
  clear ho hb hinv HA1 HB1 HI1 HB0 HI HP HSZ
  generalize w0.heap.size = g0 at *
  go_wp2
  go_loopg [6, 7, 8] (n + 1) (fun g lv iv jv wr => ∃ (k : Nat) (L t : List Int) (A : Option Addr) (c : Nat), k ≤ n ∧ k + 1 ≤ g ∧ iv = .int .i64 ((k : Int) - 1) ∧ lv = .slice A k c ∧ LInv w g0 n p wr (.slice A k c) k L t)
  case atStart => exact ⟨n, p, [], A1, c1, by omega, by omega, by go_num, rfl, HV.out⟩
  case round =>
    obtain ⟨k, L, t, A2, c2, hk, hg, rfl, rfl, hinv⟩ := hrel
    have HW := hid hinv
    clear hinv
    rcases Nat.eq_zero_or_pos k with rfl | hpos
    · have HT : Hid (unlots n p = t) := HW.out.un
      have HTA : Hid (Arr wr g0 t) := HW.out.arr
      have HTL : Hid (t.length = n) := by rw [← HT.out, length_unlots]; exact rfl
      have HB := hid HW.out.bel
      clear HW HV hmk
      go_wp2
      go_ret2
      exact ⟨_, rfl, by rw [HT.out]; exact HTA.out.own HGB.out HTL.out (by omega), HB.out⟩
    · obtain ⟨k, rfl⟩ : ∃ k', k = k' + 1 := ⟨k - 1, by omega⟩
      have hi : ((((k + 1 : Nat) : Int)) - 1) = (k : Int) := by omega
      rw [hi]
      have hLL := HW.out.len
      have hown := HW.out.own
      obtain ⟨gl, cap, hv, hgl, hgl2, hcap⟩ := hown.form (by omega)
      rw [hLL] at hv hcap
      injection hv with e1 _ e3
      subst e1
      subst e3
      have HX := hid (index_last _ k c2 L wr hown.asInts.1 HW.out.perm (by omega))
      have hf := isPerm_last hLL HW.out.perm
      have hU : unlots (k + 1) L = unlots k (undo L k (ixf L (k : Int))) ++ [((ixf L (k : Int) : Nat) : Int)] := rfl
      have hun := HW.out.un
      rw [hU, List.append_assoc, List.singleton_append] at hun
      generalize ixf L (k : Int) = m at *
      have hm : m ≤ k := by have := hf.1; omega
      have hne : gl ≠ g0 := by omega
      have a2 := HW.out.arr.cell (j := k) (by simp; omega)
      have af := HW.out.arr.frozen k
      have A2 := HW.out.arr.set k (m : Int)
      rw [set_replicate] at A2
      have O2 := hown.setFar g0 k (by omega) (.int .i64 (m : Int))
      have c3 := OwnInts.cellN O2 hLL.symm (j := k) (by omega)
      have c4 := OwnInts.cellN O2 hLL.symm (j := m) (by omega)
      have f4 := OwnInts.frozenN O2 hLL.symm m
      have O3 := (O2.set hLL.symm m (L.getD k 0)).cut k (by rw [List.length_set, hLL]; omega)
      have A3 := A2.setOther (a := ⟨gl, m, none⟩) (by show g0 ≠ gl; omega) (.int .i64 (L.getD k 0))
      have hcut := run_toI (some ⟨gl, 0, none⟩) (k + 1) c2 k (k : Int) rfl (by omega)
      have HN : Hid (LInv w g0 n p ((wr.setCell ⟨g0, k, none⟩ (.int .i64 (m : Int))).setCell ⟨gl, m, none⟩ (.int .i64 (L.getD k 0))) (.slice (some ⟨gl, 0, none⟩) k c2) k (undo L k m) ((m : Int) :: t)) :=
        ⟨length_undo hLL, isPerm_undo hLL HW.out.perm hm hf.2.1, hun, A3, O3, (HW.out.bel.setCell (by exact HGB.out) _).setCell (show w.heap.size ≤ gl by have := HGB.out; omega) _⟩
      clear HW hf hU hun A2 O2 O3 A3 hown hLL HV hmk hi
      generalize L.getD k 0 = y at *
      generalize L.getD m 0 = z at *
      generalize (List.replicate (k + 1) (0 : Int) ++ t).getD k 0 = z2 at *
      generalize undo L k m = L2 at *
      go_wp2_with fail
      refine HX.out.mono ?_
      rintro e w2 ⟨rfl, rfl⟩
      clear HX
      go_wp2
      go_roundg (k + 1)
      case measure => omega
      case rel => exact ⟨k, L2, (m : Int) :: t, _, _, by omega, by omega, by go_num, rfl, HN.out⟩

/-- shuffle.Lots, whatever comes in. -/
theorem shLots_any (A : Option Addr) (n c : Nat) (xs : List Int) (w : World) (h : Ints w A n xs) (hn : n ≤ 9223372036854775807) :
    Calls Try.prog 9 #[.slice A n c] w (RetOwnE w (lotsX xs) (permErr xs)) := by
  by_cases he : permErr xs = 0
  · rw [lotsX_ok he, he, h.len]
    exact shLots_good A n c xs w h he
  · rw [lotsX_bad he]
    exact shLots_bad A n c xs w h hn he

end Go.Proofs.Ytmdpfadfimodjaa

/-
  A row of uint16s that the call itself has made. Nothing of the program is proved here.
-/
namespace Go.Proofs.Ytmdpfadfimodjaa
open Go.RowKit

def enc16 (n : Nat) : Value := .int .u16 (n : Int)
namespace U16
variable {w w' : World} {g cap : Nat} {xs : List Nat}
end U16

/-- The first k are set. -/
def part16 (f : Nat → Nat) (n k : Nat) : List Nat := (List.range n).map (fun i => if i < k then f i else 0)
theorem length_part16 (f : Nat → Nat) (n k : Nat) : (part16 f n k).length = n := by simp [part16]
theorem getD_part16 {f : Nat → Nat} {n k i : Nat} (hi : i < n) : (part16 f n k).getD i 0 = if i < k then f i else 0 := by
  simp [part16, List.getD_eq_getElem?_getD, hi]
theorem part16_zero (f : Nat → Nat) (n : Nat) : part16 f n 0 = List.replicate n 0 := by
  apply List.ext_getElem (by simp [part16])
  intro i h1 h2
  simp [part16]
theorem part16_step (f : Nat → Nat) (n k : Nat) : (part16 f n k).set k (f k) = part16 f n (k + 1) := by
  apply List.ext_getElem (by simp [part16])
  intro i h1 h2
  rw [List.getElem_set]
  by_cases h : k = i
  · subst h
    simp [part16]
  · simp only [if_neg h, part16, List.getElem_map, List.getElem_range]
    by_cases h3 : i < k
    · rw [if_pos h3, if_pos (by omega)]
    · rw [if_neg h3, if_neg (by omega)]
theorem part16_all (f : Nat → Nat) (n : Nat) : part16 f n n = (List.range n).map f := by
  apply List.map_congr_left
  intro i hi
  rw [if_pos (List.mem_range.1 hi)]

end Go.Proofs.Ytmdpfadfimodjaa

/-
  The library's sort at []uint16: what every part of it does: the row holds the same numbers in another order. cmp.Less; reverseRangeOrdered; insertionSortOrdered.
-/
namespace Go.Proofs.Ytmdpfadfimodjaa
open Go.RowKit

theorem grown_refl (a : World) (row : Option Nat) : a.grownBy a row := ⟨rfl, rfl, rfl, Nat.le_refl _, fun _ _ _ => rfl⟩
theorem grown_drewN {a w : World} {row : Option Nat} (h : a.grownBy w row) (n : Nat) : a.grownBy (w.drewN n) row := ⟨h.os, h.tape, h.output, h.size, h.block⟩
theorem grown_set {a w : World} {g : Nat} (h : a.grownBy w (some g)) (j : Nat) (u : Value) : a.grownBy (w.setCell ⟨g, j, none⟩ u) (some g) :=
  ⟨h.os, h.tape, h.output, by simpa [World.setCell] using h.size, fun i hi hne => (Below.heap_setCell w ⟨g, j, none⟩ u i (by rintro rfl; exact hne rfl)).trans (h.block i hi hne)⟩
theorem grown_trans {a b c : World} {row : Option Nat} (h : a.grownBy b row) (k : b.grownBy c row) : a.grownBy c row :=
  ⟨k.os.trans h.os, k.tape.trans h.tape, k.output.trans h.output, Nat.le_trans h.size k.size, fun i hi hne => (k.block i (Nat.lt_of_lt_of_le hi h.size) hne).trans (h.block i hi hne)⟩
theorem grown_below {a b c : World} {row : Option Nat} (h : a.grownBy b row) (k : Below b.heap.size b c) : a.grownBy c row :=
  ⟨k.os.trans h.os, k.tape.trans h.tape, k.output.trans h.output, Nat.le_trans h.size k.size, fun i hi hne => (k.block i (Nat.lt_of_lt_of_le hi h.size)).trans (h.block i hi hne)⟩

/-- Two places of a list change their numbers. -/
def swapN (ys : List Nat) (i j : Nat) : List Nat := (ys.set i (ys.getD j 0)).set j (ys.getD i 0)
theorem swapN_perm {ys : List Nat} {i j : Nat} (hi : i < ys.length) (hj : j < ys.length) : (swapN ys i j).Perm ys := by
  unfold swapN
  rw [List.getD_eq_getElem?_getD, List.getD_eq_getElem?_getD, List.getElem?_eq_getElem hi, List.getElem?_eq_getElem hj]
  exact List.set_set_perm hi hj

namespace Mix
variable {w0 w1 w2 wr : World} {g cap : Nat} {xs ys : List Nat}
end Mix
end Go.Proofs.Ytmdpfadfimodjaa

/-
  The library's sort at []uint16: insertionSortOrdered.
-/
namespace Go.Proofs.Ytmdpfadfimodjaa
open Go.RowKit

end Go.Proofs.Ytmdpfadfimodjaa

/-
  The library's sort at []uint16: siftDownOrdered, heapSortOrdered.
-/
namespace Go.Proofs.Ytmdpfadfimodjaa
open Go.RowKit

end Go.Proofs.Ytmdpfadfimodjaa

/-
  The library's sort at []uint16: heapSortOrdered.
-/
namespace Go.Proofs.Ytmdpfadfimodjaa
open Go.RowKit

end Go.Proofs.Ytmdpfadfimodjaa

/-
  The library's sort at []uint16: partitionEqualOrdered.
-/
namespace Go.Proofs.Ytmdpfadfimodjaa
open Go.RowKit

end Go.Proofs.Ytmdpfadfimodjaa

/-
  The library's sort at []uint16: partitionOrdered.
-/
namespace Go.Proofs.Ytmdpfadfimodjaa
open Go.RowKit

end Go.Proofs.Ytmdpfadfimodjaa

/-
  The library's sort at []uint16: partialInsertionSortOrdered.
-/
namespace Go.Proofs.Ytmdpfadfimodjaa
open Go.RowKit

end Go.Proofs.Ytmdpfadfimodjaa

/-
  The library's sort at []uint16: order2Ordered, medianOrdered, medianAdjacentOrdered, choosePivotOrdered.
-/
namespace Go.Proofs.Ytmdpfadfimodjaa
open Go.RowKit

/-- Block s is one int, c. -/
def Cnt (w : World) (s c : Nat) : Prop := w.rowIs s 3 1 (fun _ => .int .i64 (c : Int))
theorem Cnt.cell {w : World} {s c : Nat} (h : Cnt w s c) : w.cell? ⟨s, 0, none⟩ = some (.int .i64 (c : Int)) := World.rowIs.cell h (by omega)
theorem Cnt.frozen {w : World} {s c : Nat} (h : Cnt w s c) : w.frozen? ⟨s, 0, none⟩ = false := World.rowIs.frozen h 0
theorem Cnt.set {w : World} {s c : Nat} (h : Cnt w s c) (d : Nat) : Cnt (w.setCell ⟨s, 0, none⟩ (.int .i64 (d : Int))) s d :=
  (World.rowIs.set h 0 (.int .i64 (d : Int))).congr fun j hj => by rw [if_pos (by omega)]
theorem Cnt.drewN {w : World} {s c : Nat} (h : Cnt w s c) (k : Nat) : Cnt (w.drewN k) s c := h
theorem Cnt.drew {w : World} {s c : Nat} (h : Cnt w s c) : Cnt w.drew s c := h
theorem Cnt.new (w : World) : Cnt (w.alloc (.cells #[.int .i64 0] 3)) w.heap.size 0 :=
  World.rowIs_alloc w #[.int .i64 0] 3 _ (fun i hi => by
    have h0 : i = 0 := by simpa using hi
    subst h0
    rfl)

/-- The two places in one order or the other; the count may have risen; nothing else has turned. -/
def RetOrd (w : World) (s c a b : Nat) (e : Ending) (w' : World) : Prop :=
  ∃ x y d : Nat, (x = a ∧ y = b ∨ x = b ∧ y = a) ∧ d ≤ c + 1 ∧ e = .returned (.tuple #[.int .i64 (x : Int), .int .i64 (y : Int)]) ∧ Cnt w' s d ∧ w.grownBy w' (some s)

/-- A place between lo and hi; the count may have risen; nothing else has turned. -/
def RetMed (w : World) (s lo hi : Nat) (e : Ending) (w' : World) (top : Nat) : Prop :=
  ∃ m d : Nat, lo ≤ m ∧ m < hi ∧ d ≤ top ∧ e = .returned (.int .i64 (m : Int)) ∧ Cnt w' s d ∧ w.grownBy w' (some s)

/-- A place of the range, and a hint; all that was there is as it was. -/
def RetPivot (w : World) (a b : Nat) (e : Ending) (w' : World) : Prop :=
  ∃ m t : Nat, a ≤ m ∧ m < b ∧ t ≤ 2 ∧ e = .returned (.tuple #[.int .i64 (m : Int), .int .i64 (t : Int)]) ∧ Below w.heap.size w w'
theorem below_grown {w w1 w2 : World} (h : Below w.heap.size w w1) (k : w1.grownBy w2 (some w.heap.size)) : Below w.heap.size w w2 :=
  h.trans ⟨k.os, k.tape, k.output, k.size, fun i hi => k.block i (Nat.lt_of_lt_of_le hi h.size) (fun e => by injection e with e; omega)⟩

end Go.Proofs.Ytmdpfadfimodjaa

/-
  math/bits.Len below 2^16; slices.nextPowerOfTwo; xorshift's Next.
-/
namespace Go.Proofs.Ytmdpfadfimodjaa
open Go.RowKit

theorem bitLen_fits : ∀ x : Fin 256, x.val < 2 ^ Lib.bitLen x.val ∧ (0 < x.val → 2 ^ Lib.bitLen x.val ≤ 2 * x.val) ∧ Lib.bitLen x.val ≤ 8 := by decide +kernel
theorem bitLen_ok {x : Nat} (hx : x < 65536) : x < 2 ^ Lib.bitLen x ∧ (0 < x → 2 ^ Lib.bitLen x ≤ 2 * x) ∧ Lib.bitLen x ≤ 16 := by
  by_cases h : x < 256
  · obtain ⟨h1, h2, h3⟩ := bitLen_fits ⟨x, h⟩
    exact ⟨h1, h2, by simp only at h3; omega⟩
  · have e := Lib.bitLen_shift8 x (by omega) (by omega)
    obtain ⟨h1, h2, h3⟩ := bitLen_fits ⟨x / 256, by omega⟩
    simp only at h1 h2 h3
    rw [e, Nat.pow_add]
    generalize 2 ^ Lib.bitLen (x / 256) = B at *
    refine ⟨by omega, fun _ => ?_, by omega⟩
    have := h2 (by omega)
    omega

set_option maxHeartbeats 4000000 in
set_option maxRecDepth 100000 in
theorem len64_low (x : Int) (w : World) (h0 : 0 ≤ x) (h1 : x ≤ 255) : Calls Try.prog 83 #[.int .u64 x] w fun e w' => e = .returned (.int .i64 ((Lib.bitLen x.toNat : Nat) : Int)) ∧ w = w' := by
  go_enter Try.func83, Try.ntmps83
  go_wp2
  go_ret
  have hl := Lib.len8_of x h0 h1
  have h8 := (bitLen_fits ⟨x.toNat, by omega⟩).2.2
  simp only at h8
  refine ⟨congrArg Ending.returned (congrArg (Value.int IntKind.i64) ?_), rfl⟩
  show wrap64 (wrap64 (Lib.len8 x)) = _
  rw [hl, IntWalk.wrap64_in ((Lib.bitLen x.toNat : Nat) : Int) (by omega), IntWalk.wrap64_in _ (by omega)]

set_option maxHeartbeats 4000000 in
set_option maxRecDepth 100000 in
theorem len64_high (x : Int) (w : World) (h0 : 256 ≤ x) (h1 : x < 65536) : Calls Try.prog 83 #[.int .u64 x] w fun e w' => e = .returned (.int .i64 ((Lib.bitLen x.toNat : Nat) : Int)) ∧ w = w' := by
  have hq0 : 0 ≤ x / 256 := by omega
  have hq1 : x / 256 ≤ 255 := by omega
  go_enter Try.func83, Try.ntmps83
  go_wp2
  go_ret
  have hl := Lib.len8_of (x / 256) hq0 hq1
  have h8 := (bitLen_fits ⟨(x / 256).toNat, by omega⟩).2.2
  have hs := Lib.bitLen_shift8 x.toNat (by omega) (by omega)
  rw [show x.toNat / 256 = (x / 256).toNat by omega] at hs
  simp only at h8
  refine ⟨congrArg Ending.returned (congrArg (Value.int IntKind.i64) ?_), rfl⟩
  show wrap64 (8 + wrap64 (Lib.len8 (x / 256))) = _
  rw [hl, IntWalk.wrap64_in ((Lib.bitLen (x / 256).toNat : Nat) : Int) (by omega), IntWalk.wrap64_in _ (by omega), hs]
  omega

set_option maxRecDepth 100000 in
set_option maxHeartbeats 400000 in
theorem len_any (x : Nat) (w : World) (hx : x < 65536) : Calls Try.prog 75 #[.int .u64 (x : Int)] w fun e w' => e = .returned (.int .i64 ((Lib.bitLen x : Nat) : Int)) ∧ w = w' := by
  have HC : Hid (Calls Try.prog 83 #[.int .u64 (x : Int)] w fun e w' => e = .returned (.int .i64 ((Lib.bitLen x : Nat) : Int)) ∧ w = w') := by
    by_cases h : x < 256
    · exact len64_low (x : Int) w (by omega) (by omega)
    · exact len64_high (x : Int) w (by omega) (by omega)
  go_enter Try.func75, Try.ntmps75
  go_wp2_with fail
  refine HC.out.mono ?_
  rintro e w' ⟨rfl, rfl⟩
  go_wp2
  go_ret
  exact ⟨rfl, rfl⟩

theorem xor64_left (v m : Nat) (hv : v < 18446744073709551616) : ∃ u : Nat, u < 18446744073709551616 ∧ bits .xor .u64 (v : Int) (IntKind.u64.wrap ((v : Int) * (m : Int))) = (u : Int) := by
  refine ⟨v ^^^ (v * m % 18446744073709551616), Nat.xor_lt_two_pow (n := 64) hv (Nat.mod_lt _ (by omega)), ?_⟩
  rw [IntKind.wrap_u64, show (v : Int) * (m : Int) % 18446744073709551616 = ((v * m % 18446744073709551616 : Nat) : Int) by simp, u64_xor_nat _ _ hv (Nat.mod_lt _ (by omega))]
theorem xor64_right (v m : Nat) (hv : v < 18446744073709551616) : ∃ u : Nat, u < 18446744073709551616 ∧ bits .xor .u64 (v : Int) ((v : Int) / (m : Int)) = (u : Int) := by
  have h1 : v / m ≤ v := Nat.div_le_self _ _
  refine ⟨v ^^^ (v / m), Nat.xor_lt_two_pow (n := 64) hv (by omega), ?_⟩
  rw [← Int.natCast_ediv, u64_xor_nat _ _ hv (by omega)]

end Go.Proofs.Ytmdpfadfimodjaa

/-
  package tape: Check, Bits, value; castref.TapeErr, BitsOf.
-/
namespace Go.Proofs.Ytmdpfadfimodjaa
open Go.RowKit

set_option maxHeartbeats 800000 in
theorem tpCheck_any (A : Option Addr) (n c : Nat) (xs : List Nat) (w : World) (h : Byts w A n xs) :
    Calls Try.prog 41 #[.slice A n c] w fun e w' => e = .returned (.int .i64 (tapeErr xs)) ∧ w = w' := by
  have HL := hid h.len
  by_cases hn : 200 < n
  · have HE : Hid (tapeErr xs = 2) := tapeErr_large (by rw [HL.out]; exact hn)
    have hnI : (n : Int) > 200 := by omega
    clear h
    go_enter Try.func41, Try.ntmps41
    go_wp2
    go_ret
    exact ⟨by rw [HE.out]; rfl, rfl⟩
  · have HN : Hid (¬ 200 < xs.length) := by rw [Hid, HL.out]; exact hn
    go_enter Try.func41, Try.ntmps41
    go_wp2
    go_loopg [4, 10] n (fun g _ s wr => ∃ k : Nat, k ≤ n ∧ n - k ≤ g ∧ s = .int .i64 (k : Int) ∧ w = wr ∧ ∀ j, j < k → xs.getD j 0 ≤ 1)
    case atStart => exact ⟨0, Nat.zero_le _, by omega, rfl, rfl, fun j hj => absurd hj (Nat.not_lt_zero _)⟩
    case round =>
      obtain ⟨k, hk, hg, rfl, rfl, hall⟩ := hrel
      have HA := hid hall
      clear hall
      by_cases hlt : k < n
      · obtain ⟨b, o, rfl, hb, hc⟩ := h.row (by omega)
        have g1 := hc k hlt
        have hx := h.get hlt
        have HR : Hid (1 < xs.getD k 0 → tapeErr xs = 3) := fun h1 => tapeErr_form HN.out (getD_memT (by rw [HL.out]; exact hlt)) h1
        have HY : Hid (xs.getD k 0 ≤ 1 → ∀ j, j < k + 1 → xs.getD j 0 ≤ 1) := fun h1 j hj => by
          by_cases e : j = k
          · subst e; exact h1
          · exact HA.out j (by omega)
        clear hc h HA
        generalize xs.getD k 0 = x at *
        by_cases c1 : 1 < x
        · have HX := hid (HR.out c1)
          have c2 : (x : Int) > 1 := by omega
          clear HR HY
          go_wp2
          go_ret
          exact ⟨by rw [HX.out]; rfl, rfl⟩
        · have HX := hid (HY.out (by omega))
          have c2 : ¬ (x : Int) > 1 := by omega
          clear HR HY
          go_wp2
          go_roundg (n - (k + 1))
          case measure => omega
          case rel => exact ⟨k + 1, by omega, by omega, by go_num, rfl, HX.out⟩
      · obtain rfl : k = n := by omega
        have HX : Hid (tapeErr xs = 0) := tapeErr_ok HN.out (h.bin HA.out)
        clear h HA
        go_wp2
        go_ret
        exact ⟨by rw [HX.out]; rfl, rfl⟩

/-- Bits: how many, and the error. -/
def bitsX (n : Int) : Nat × Int := if n < 1 ∨ 1024 < n then (0, 1) else (wd n.toNat, 0)
theorem bitsX_arg {n : Int} (h : n < 1 ∨ 1024 < n) : bitsX n = (0, 1) := if_pos h
theorem bitsX_ok {n : Nat} (h1 : 1 ≤ n) (h2 : n ≤ 1024) : bitsX n = (wd n, 0) := by rw [bitsX, if_neg (by omega), Int.toNat_natCast]

theorem tpBits_bad (n : Int) (w : World) (h : n < 1 ∨ 1024 < n) :
    Calls Try.prog 64 #[.int .i64 n] w fun e w' => e = .returned (.tuple #[.int .i64 0, .int .i64 1]) ∧ w = w' := by
  rcases h with h | h
  · go_enter Try.func64, Try.ntmps64
    go_wp2
    go_ret2
    exact ⟨rfl, rfl⟩
  · have h1 : ¬ n < 1 := by omega
    go_enter Try.func64, Try.ntmps64
    go_wp2
    go_ret2
    exact ⟨rfl, rfl⟩
theorem tpBits_ok (n : Nat) (w : World) (h1 : 1 ≤ n) (h2 : n ≤ 1024) :
    Calls Try.prog 64 #[.int .i64 (n : Int)] w fun e w' => e = .returned (.tuple #[.int .i64 ((wd n : Nat) : Int), .int .i64 0]) ∧ w = w' := by
  have HC : Hid (Calls Try.prog 75 #[.int .u64 (((n : Int) - 1))] w fun e w' => e = .returned (.int .i64 ((wd n : Nat) : Int)) ∧ w = w') := by
    have := len_any (n - 1) w (by omega)
    rw [show (((n - 1 : Nat)) : Int) = (n : Int) - 1 by omega] at this
    exact this
  have c1 : ¬ (n : Int) < 1 := by omega
  have c2 : ¬ (n : Int) > 1024 := by omega
  go_enter Try.func64, Try.ntmps64
  go_wp2_with (go_at_call 75; refine HC.out.mono ?_; rintro e w' ⟨rfl, rfl⟩)
  go_ret2
  exact ⟨rfl, rfl⟩

theorem or_tab : ((List.range 512).all fun x => (List.range 2).all fun d => decide (bits .or .i64 (((2 * x : Nat) : Int)) (d : Int) = ((2 * x + d : Nat) : Int))) = true := by decide +kernel
theorem or_at {x d : Nat} (hx : x < 512) (hd : d ≤ 1) : bits .or .i64 (((2 * x : Nat) : Int)) (d : Int) = ((2 * x + d : Nat) : Int) := by
  have h1 := List.all_eq_true.1 or_tab x (List.mem_range.2 hx)
  have h2 := List.all_eq_true.1 h1 d (List.mem_range.2 (by omega))
  exact of_decide_eq_true h2

set_option maxHeartbeats 800000 in
theorem tpValue_any (A : Option Addr) (n c : Nat) (xs : List Nat) (w : World) (h : Byts w A n xs) (hb : Bin xs) (hn : n ≤ 10) :
    Calls Try.prog 65 #[.slice A n c] w fun e w' => e = .returned (.int .i64 ((bvl 0 xs : Nat) : Int)) ∧ w = w' := by
  have HL := hid h.len
  have HB := hid hb
  clear hb
  go_enter Try.func65, Try.ntmps65
  go_wp2
  go_loopg [3, 5, 8] n (fun g v _ s wr => ∃ k : Nat, k ≤ n ∧ n - k ≤ g ∧ v = .int .i64 ((bvl 0 (xs.take k) : Nat) : Int) ∧ s = .int .i64 (k : Int) ∧ w = wr)
  case atStart => exact ⟨0, Nat.zero_le _, by omega, rfl, rfl, rfl⟩
  case round =>
    obtain ⟨k, hk, hg, rfl, rfl, rfl⟩ := hrel
    by_cases hlt : k < n
    · obtain ⟨b, o, rfl, hb, hc⟩ := h.row (by omega)
      have g1 := hc k hlt
      have hkl : k < xs.length := by rw [HL.out]; exact hlt
      have HS := hid (bvl_step hkl)
      have hd := HB.out _ (getD_memT hkl)
      have hv : bvl 0 (xs.take k) < 512 := by
        have h1 := bvl_lt0 (HB.out.take k)
        have h2 : 2 ^ (xs.take k).length ≤ 2 ^ 9 := Nat.pow_le_pow_right (by omega) (by rw [List.length_take]; omega)
        omega
      clear hc h hkl
      generalize xs.getD k 0 = d at *
      generalize bvl 0 (xs.take k) = x at *
      have h1 : bits .or .i64 (2 * (x : Int)) (d : Int) = ((2 * x + d : Nat) : Int) := by rw [show 2 * (x : Int) = ((2 * x : Nat) : Int) by omega]; exact or_at hv hd
      have h2 : IntKind.i64.wrap ((x : Int) * 2) = ((2 * x : Nat) : Int) := by rw [show (x : Int) * 2 = ((2 * x : Nat) : Int) by omega]; exact IntWalk.i64_in _ (by omega)
      have H1 := hid h1
      clear h1
      go_wp2
      go_roundg (n - (k + 1))
      case measure => omega
      case rel => exact ⟨k + 1, by omega, by omega, by rw [HS.out, H1.out], by go_num, rfl⟩
    · obtain rfl : k = n := by omega
      have HE : Hid (xs.take k = xs) := by rw [← HL.out]; exact List.take_length
      clear h
      go_wp2
      go_ret
      exact ⟨by rw [HE.out]; rfl, rfl⟩

theorem tapeErr1_any (x : Nat) (w : World) (hx : x < 256) : Calls Try.prog 44 #[.int .u8 (x : Int)] w fun e w' => e = .returned (.bool (!decide (x ≤ 1))) ∧ w = w' := by
  by_cases h : x ≤ 1
  · have c1 : ¬ (x : Int) > 1 := by omega
    have HE : Hid (decide (x ≤ 1) = true) := decide_eq_true h
    clear h
    go_enter Try.func44, Try.ntmps44
    go_wp2
    go_ret
    exact ⟨by rw [HE.out]; rfl, rfl⟩
  · have c1 : (x : Int) > 1 := by omega
    have HE : Hid (decide (x ≤ 1) = false) := decide_eq_false h
    clear h
    go_enter Try.func44, Try.ntmps44
    go_wp2
    go_ret
    exact ⟨by rw [HE.out]; rfl, rfl⟩

/-- A place, or none: is it there? -/
def RetSpotB (b : Bool) (w : World) (e : Ending) (w' : World) : Prop := ∃ r : Int, e = .returned (.int .i64 r) ∧ decide (0 ≤ r) = b ∧ w = w'

set_option maxHeartbeats 800000 in
set_option maxRecDepth 100000 in
theorem indexFunc_b (B : Option Addr) (m d : Nat) (l : List Nat) (w : World) (h : Byts w B m l) (hm : m ≤ 9223372036854775807) :
    Calls Try.prog 61 #[.slice B m d, .func (.func 44) #[] #[]] w (RetSpotB (!l.all (fun x => decide (x ≤ 1))) w) := by
  have HL := hid h.len
  have HC := hid (fun (s : Nat) (hs : s < 256) => tapeErr1_any s w hs)
  go_enter Try.func61, Try.ntmps61
  go_wp2
  go_loopg [8] m (fun g s wr => ∃ k : Nat, k ≤ m ∧ m - k ≤ g ∧ s = .int .i64 k ∧ w = wr ∧ ∀ j, j < k → decide (l.getD j 0 ≤ 1) = true)
  case atStart => exact ⟨0, Nat.zero_le _, by omega, rfl, rfl, fun j hj => absurd hj (Nat.not_lt_zero _)⟩
  case round =>
    obtain ⟨k, hk, hg, rfl, rfl, hall⟩ := hrel
    have HA := hid hall
    clear hall
    by_cases hlt : k < m
    · have HG := hid (HC.out _ (h.get hlt))
      obtain ⟨b, o, rfl, hb, hc⟩ := h.row (by omega)
      have g1 := hc k hlt
      have HB : Hid (decide (l.getD k 0 ≤ 1) = false → l.all (fun x => decide (x ≤ 1)) = false) := fun hh => List.all_eq_false.2 ⟨l.getD k 0, getD_memT (by rw [HL.out]; exact hlt), by simpa using hh⟩
      have HX : Hid (decide (l.getD k 0 ≤ 1) = true → ∀ j, j < k + 1 → decide (l.getD j 0 ≤ 1) = true) := fun hh j hj => by
        by_cases e : j = k
        · subst e; exact hh
        · exact HA.out j (by omega)
      clear hc h HA HC
      generalize l.getD k 0 = x at *
      generalize hx : decide (x ≤ 1) = q at *
      cases q with
      | true =>
        have HY := hid (HX.out rfl)
        clear HX HB hx
        go_wp2_with (go_at_call 44; refine HG.out.mono ?_; rintro e w' ⟨rfl, rfl⟩; rw [Bool.not_true])
        go_roundg (m - (k + 1))
        case measure => omega
        case rel => exact ⟨k + 1, by omega, by omega, by go_num, rfl, HY.out⟩
      | false =>
        have HY := hid (HB.out rfl)
        clear HX HB hx
        go_wp2_with (go_at_call 44; refine HG.out.mono ?_; rintro e w' ⟨rfl, rfl⟩; rw [Bool.not_false])
        go_ret
        exact ⟨_, rfl, by rw [HY.out]; simp, rfl⟩
    · obtain rfl : k = m := by omega
      have HS : Hid (l.all (fun x => decide (x ≤ 1)) = true) := List.all_eq_true.2 fun x hx => by
        obtain ⟨j, hj, rfl⟩ := List.getElem_of_mem hx
        have := HA.out j (by rw [← HL.out]; exact hj)
        rw [List.getD_eq_getElem?_getD, List.getElem?_eq_getElem hj] at this
        exact this
      clear h
      go_wp2
      go_ret
      exact ⟨_, rfl, by rw [HS.out]; rfl, rfl⟩

set_option maxHeartbeats 800000 in
theorem containsFunc_b (B : Option Addr) (m d : Nat) (l : List Nat) (w : World) (h : Byts w B m l) (hm : m ≤ 9223372036854775807) :
    Calls Try.prog 43 #[.slice B m d, .func (.func 44) #[] #[]] w fun e w' => e = .returned (.bool (!l.all (fun x => decide (x ≤ 1)))) ∧ w = w' := by
  have HH := hid (indexFunc_b B m d l w h hm)
  clear h
  generalize (!l.all (fun x => decide (x ≤ 1))) = q at *
  go_enter Try.func43, Try.ntmps43
  go_wp2_with fail
  refine HH.out.mono ?_
  rintro e w' ⟨r, rfl, hr, rfl⟩
  have HR := hid hr
  clear hr
  go_wp2
  go_ret
  exact ⟨by rw [← HR.out]; rfl, rfl⟩

set_option maxHeartbeats 800000 in
theorem refTapeErr_any (A : Option Addr) (n c : Nat) (xs : List Nat) (w : World) (h : Byts w A n xs) :
    Calls Try.prog 16 #[.slice A n c] w fun e w' => e = .returned (.int .i64 (tapeErr xs)) ∧ w = w' := by
  have HL := hid h.len
  by_cases hn : 200 < n
  · have HE : Hid (tapeErr xs = 2) := tapeErr_large (by rw [HL.out]; exact hn)
    have hnI : (n : Int) > 200 := by omega
    clear h
    go_enter Try.func16, Try.ntmps16
    go_wp2
    go_ret
    exact ⟨by rw [HE.out]; rfl, rfl⟩
  · have HC := hid (containsFunc_b A n c xs w h (by omega))
    have HN : Hid (tapeErr xs = if xs.all (fun x => decide (x ≤ 1)) = false then 3 else 0) := by
      rw [Hid, tapeErr, if_neg (by rw [HL.out]; exact hn)]
    clear h
    generalize xs.all (fun x => decide (x ≤ 1)) = q at *
    cases q with
    | false =>
      have HE : Hid (tapeErr xs = 3) := by rw [Hid, HN.out]; rfl
      go_enter Try.func16, Try.ntmps16
      go_wp2_with fail
      refine HC.out.mono ?_
      rintro e w' ⟨rfl, rfl⟩
      go_wp2
      go_ret
      exact ⟨by rw [HE.out]; rfl, rfl⟩
    | true =>
      have HE : Hid (tapeErr xs = 0) := by rw [Hid, HN.out]; rfl
      go_enter Try.func16, Try.ntmps16
      go_wp2_with fail
      refine HC.out.mono ?_
      rintro e w' ⟨rfl, rfl⟩
      go_wp2
      go_ret
      exact ⟨by rw [HE.out]; rfl, rfl⟩

end Go.Proofs.Ytmdpfadfimodjaa

/-
  castref.BitsOf; tape.Draw, Row.
-/
namespace Go.Proofs.Ytmdpfadfimodjaa
open Go.RowKit

theorem refBitsOf_ok (w : World) : ∀ (m n : Nat), n ≤ m → 1 ≤ n → n ≤ 1024 → Calls Try.prog 62 #[.int .i64 (n : Int)] w fun e w' => e = .returned (.int .i64 ((wd n : Nat) : Int)) ∧ w = w' := by
  intro m
  induction m with
  | zero => intro n h1 h2; omega
  | succ m ih =>
    intro n hm h1 h2
    by_cases h : n = 1
    · subst h
      have HE := hid wd_one
      clear ih
      go_enter Try.func62, Try.ntmps62
      go_wp2
      go_ret
      exact ⟨by rw [HE.out]; rfl, rfl⟩
    · have HC := hid (ih ((n + 1) / 2) (by omega) (by omega) (by omega))
      have HE := hid (wd_rec (n := n) (by omega) h2)
      have hw := wd_le (n := (n + 1) / 2) (by omega) (by omega)
      have c1 : ((n : Int) == 1) = false := by simp; omega
      have hq : ((n : Int) + 1).tdiv 2 = (((n + 1) / 2 : Nat) : Int) := by rw [Int.tdiv_eq_ediv_of_nonneg (by omega)]; omega
      have hz : (n + 1) / 2 ≤ 1000 := by omega
      clear ih
      generalize wd ((n + 1) / 2) = v at *
      generalize (n + 1) / 2 = z at *
      go_enter Try.func62, Try.ntmps62
      go_wp2_with fail
      refine HC.out.mono ?_
      rintro e w' ⟨rfl, rfl⟩
      go_wp2
      go_ret
      exact ⟨by rw [HE.out]; go_num, rfl⟩

/-- A number, how many bits, an error. -/
def RetDraw (r : Nat × Nat × Int) (w : World) (e : Ending) (w' : World) : Prop := e = .returned (.tuple #[.int .i64 (r.1 : Int), .int .i64 (r.2.1 : Int), .int .i64 r.2.2]) ∧ w = w'

theorem tpDraw_err (A : Option Addr) (n c : Nat) (xs : List Nat) (m : Int) (w : World) (h : Byts w A n xs) (he : tapeErr xs ≠ 0) :
    Calls Try.prog 49 #[.slice A n c, .int .i64 m] w (RetDraw (0, 0, tapeErr xs) w) := by
  have HC := hid (tpCheck_any A n c xs w h)
  have hz : (tapeErr xs != 0) = true := by simpa using he
  clear h he
  generalize tapeErr xs = E at *
  go_enter Try.func49, Try.ntmps49
  go_wp2_with fail
  refine HC.out.mono ?_
  rintro e w' ⟨rfl, rfl⟩
  go_wp2
  go_ret3
  exact ⟨rfl, rfl⟩
theorem tpDraw_arg (A : Option Addr) (n c : Nat) (xs : List Nat) (m : Int) (w : World) (h : Byts w A n xs) (he : tapeErr xs = 0) (hm : m < 1 ∨ 1024 < m) :
    Calls Try.prog 49 #[.slice A n c, .int .i64 m] w (RetDraw (0, 0, 1) w) := by
  have HC := hid (tpCheck_any A n c xs w h)
  have HB := hid (tpBits_bad m w hm)
  rw [he] at HC
  clear h he hm
  go_enter Try.func49, Try.ntmps49
  go_wp2_with fail
  refine HC.out.mono ?_
  rintro e w' ⟨rfl, rfl⟩
  go_wp2_with fail
  refine HB.out.mono ?_
  rintro e w' ⟨rfl, rfl⟩
  go_wp2
  go_ret3
  exact ⟨rfl, rfl⟩

/-- After some tries. -/
def DrawTo (m : Nat) (xs : List Nat) (s : Nat) : Prop := drx m xs = match drw m (xs.drop s) with
  | none => (0, 0, 6)
  | some p => (p.1, p.2 + s, 0)
theorem drawTo_zero {m : Nat} (h1 : 1 ≤ m) (h2 : m ≤ 1024) (xs : List Nat) : DrawTo m xs 0 := by
  unfold DrawTo
  rw [List.drop_zero]
  cases h : drw m xs with
  | none => exact drx_none h1 h2 h
  | some p => exact drx_some h1 h2 h
theorem drawTo_hit {m : Nat} {xs : List Nat} {s : Nat} (h : DrawTo m xs s) (hl : s + wd m ≤ xs.length) (hb : bvl 0 ((xs.drop s).take (wd m)) < m) : drx m xs = (bvl 0 ((xs.drop s).take (wd m)), s + wd m, 0) := by
  unfold DrawTo at h
  rw [drw_hit (by rw [List.length_drop]; omega) hb] at h
  rw [h, Nat.add_comm s]
theorem drawTo_miss {m : Nat} {xs : List Nat} {s : Nat} (h1 : 1 ≤ m) (h : DrawTo m xs s) (hl : s + wd m ≤ xs.length) (hb : ¬ bvl 0 ((xs.drop s).take (wd m)) < m) : DrawTo m xs (s + wd m) ∧ 0 < wd m := by
  have h0 := miss_pos h1 hb
  refine ⟨?_, h0⟩
  unfold DrawTo at h ⊢
  rw [drw_miss (by rw [List.length_drop]; omega) hb h0, List.drop_drop] at h
  rw [h]
  cases drw m (xs.drop (s + wd m)) with
  | none => rfl
  | some p => simp [Nat.add_assoc, Nat.add_comm s]
theorem drawTo_short {m : Nat} {xs : List Nat} {s : Nat} (h : DrawTo m xs s) (hl : xs.length < s + wd m) (hs : s ≤ xs.length) : drx m xs = (0, 0, 6) := by
  unfold DrawTo at h
  rw [drw_short (by rw [List.length_drop]; omega)] at h
  exact h

set_option maxHeartbeats 1600000 in
set_option maxRecDepth 100000 in
theorem tpDraw_good (A : Option Addr) (n c : Nat) (xs : List Nat) (m : Nat) (w : World) (h : Byts w A n xs) (hc : Cap n c) (he : tapeErr xs = 0) (h1 : 1 ≤ m) (h2 : m ≤ 1024) :
    Calls Try.prog 49 #[.slice A n c, .int .i64 (m : Int)] w (RetDraw (drx m xs) w) := by
  have hz := tapeErr_zero he
  have HL := hid h.len
  have hn : n ≤ 200 := by rw [← h.len]; exact hz.1
  have HBN := hid hz.2
  have HC := hid (tpCheck_any A n c xs w h)
  have HB := hid (tpBits_ok m w h1 h2)
  rw [he] at HC
  have hk := wd_le h1 h2
  have HH := hid h
  have HCP := hid hc
  have HM := hid (And.intro h1 h2)
  have H0 := hid (drawTo_zero h1 h2 xs)
  clear h he hz hc
  have HST := hid (fun s (h : DrawTo m xs s) (hl : s + wd m ≤ xs.length) => (drawTo_hit h hl))
  have HMS := hid (fun s (h : DrawTo m xs s) (hl : s + wd m ≤ xs.length) => (drawTo_miss h1 h hl))
  have HSH := hid (fun s (h : DrawTo m xs s) => drawTo_short h)
  generalize hkk : wd m = k at *
  clear hkk
  go_enter Try.func49, Try.ntmps49
  go_wp2_with fail
  refine HC.out.mono ?_
  rintro e w' ⟨rfl, rfl⟩
  go_wp2_with fail
  refine HB.out.mono ?_
  rintro e w' ⟨rfl, rfl⟩
  go_wp2
  clear HC HB
  go_loopg [10, 11] (n + 1) (fun g sv _ wr => ∃ s : Nat, s ≤ n ∧ n + 1 - s ≤ g ∧ sv = .int .i64 (s : Int) ∧ w = wr ∧ DrawTo m xs s)
  case atStart => exact ⟨0, Nat.zero_le _, by omega, rfl, rfl, H0.out⟩
  case round =>
    clear H0
    obtain ⟨s, hs, hg, rfl, rfl, hto⟩ := hrel
    have HT := hid hto
    clear hto
    by_cases hlt : s + k ≤ n
    · have hI : (s : Int) + (k : Int) ≤ (n : Int) := by omega
      have hlx : s + k ≤ xs.length := by rw [HL.out]; exact hlt
      have hcap := HCP.out
      unfold Cap at hcap
      have hrun : ∀ W, (Instr.slice 23 (.slice A n c) (some (.int .i64 (s : Int))) (some (.int .i64 ((s : Int) + (k : Int)))) none).run Try.prog W = .ok (.slice (subA A c s) k (c - s)) W := fun W => by
        have := run_midB A n c s (s + k) (s : Int) ((s : Int) + (k : Int)) rfl (by omega) (by omega) (by omega) W
        rw [Nat.add_sub_cancel_left] at this
        exact this
      have HV := hid (tpValue_any (subA A c s) k (c - s) ((xs.drop s).take k) w ((HH.out.drop hs hcap.1).take (by omega)) ((HBN.out.drop s).take k) hk)
      have HX := hid (HST.out s HT.out hlx)
      have HY := hid (HMS.out s HT.out hlx)
      have hv := bvl_take_le (HBN.out.drop s) hk
      have HRUN := hid hrun
      clear hrun hcap hlx
      generalize bvl 0 ((xs.drop s).take k) = x at *
      have hr2 := HRUN.out
      by_cases hx : x < m
      · have HE := hid (HX.out hx)
        have hxI : (x : Int) < (m : Int) := by omega
        clear HX HY
        go_wp2_with (go_at_call 65; refine HV.out.mono ?_; rintro e w' ⟨rfl, rfl⟩)
        go_ret3
        exact ⟨by rw [HE.out]; exact rfl, rfl⟩
      · have HE := hid (HY.out hx)
        have hp := HE.out.2
        have hxI : ¬ (x : Int) < (m : Int) := by omega
        clear HX HY
        go_wp2_with (go_at_call 65; refine HV.out.mono ?_; rintro e w' ⟨rfl, rfl⟩)
        go_roundg (n + 1 - (s + k))
        case measure => omega
        case rel => exact ⟨s + k, by omega, by omega, by go_num, rfl, HE.out.1⟩
    · have hI : ¬ (s : Int) + (k : Int) ≤ (n : Int) := by omega
      have HE := hid (HSH.out s HT.out (by rw [HL.out]; omega) (by rw [HL.out]; omega))
      go_wp2
      go_ret3
      exact ⟨by rw [HE.out]; exact rfl, rfl⟩

theorem tpDraw_any (A : Option Addr) (n c : Nat) (xs : List Nat) (m : Int) (w : World) (h : Byts w A n xs) (hc : Cap n c) :
    Calls Try.prog 49 #[.slice A n c, .int .i64 m] w (RetDraw (drawX m xs) w) := by
  by_cases he : tapeErr xs = 0
  · rw [drawX_ok he]
    by_cases hm : m < 1 ∨ 1024 < m
    · rw [drx_arg xs hm]
      exact tpDraw_arg A n c xs m w h he hm
    · obtain ⟨k, rfl⟩ := Int.eq_ofNat_of_zero_le (show 0 ≤ m by omega)
      exact tpDraw_good A n c xs k w h hc he (by omega) (by omega)
  · rw [drawX_bad he]
    exact tpDraw_err A n c xs m w h he
end Go.Proofs.Ytmdpfadfimodjaa

/-
  tape.Row.
-/
namespace Go.Proofs.Ytmdpfadfimodjaa
open Go.RowKit

/-- Numbers of the call's own, how many bits, an error. -/
def RetRow (r : List Int × Nat × Int) (w : World) (e : Ending) (w' : World) : Prop := ∃ v, e = .returned (.tuple #[v, .int .i64 (r.2.1 : Int), .int .i64 r.2.2]) ∧ OwnInts w' w.heap.size v r.1 ∧ Below w.heap.size w w'

theorem tpRow_err (A : Option Addr) (n c : Nat) (xs : List Nat) (B : Option Addr) (m d : Nat) (w : World) (h : Byts w A n xs) (he : tapeErr xs ≠ 0) :
    Calls Try.prog 29 #[.slice A n c, .slice B m d] w (RetRow ([], 0, tapeErr xs) w) := by
  have HC := hid (tpCheck_any A n c xs w h)
  have hz : (tapeErr xs != 0) = true := by simpa using he
  clear h he
  generalize tapeErr xs = E at *
  go_enter Try.func29, Try.ntmps29
  go_wp2_with fail
  refine HC.out.mono ?_
  rintro e w' ⟨rfl, rfl⟩
  go_wp2
  go_ret3
  exact ⟨_, rfl, OwnInts.nil _ _, Below.refl _ _⟩
theorem tpRow_large (A : Option Addr) (n c : Nat) (xs : List Nat) (B : Option Addr) (m d : Nat) (w : World) (h : Byts w A n xs) (he : tapeErr xs = 0) (hm : 30 < m) :
    Calls Try.prog 29 #[.slice A n c, .slice B m d] w (RetRow ([], 0, 2) w) := by
  have HC := hid (tpCheck_any A n c xs w h)
  rw [he] at HC
  have hI : (m : Int) > 30 := by omega
  clear h he
  go_enter Try.func29, Try.ntmps29
  go_wp2_with fail
  refine HC.out.mono ?_
  rintro e w' ⟨rfl, rfl⟩
  go_wp2
  go_ret3
  exact ⟨_, rfl, OwnInts.nil _ _, Below.refl _ _⟩

set_option maxHeartbeats 400000 in
set_option maxRecDepth 100000 in
theorem tpRow_good (A : Option Addr) (n c : Nat) (xs : List Nat) (B : Option Addr) (m d : Nat) (ms : List Int) (w : World) (h : Byts w A n xs) (hc : Cap n c) (hI : Ints w B m ms) (he : tapeErr xs = 0) (hm : m ≤ 30) :
    Calls Try.prog 29 #[.slice A n c, .slice B m d] w (RetRow (rowx ms xs) w) := by
  have hz := tapeErr_zero he
  have HL := hid h.len
  have HM := hid hI.len
  have hn : n ≤ 200 := by rw [← h.len]; exact hz.1
  have HC := hid (tpCheck_any A n c xs w h)
  rw [he] at HC
  have HE := hid he
  have HH := hid h
  have HI := hid hI
  have HCP := hid hc
  clear h he hz hc hI
  go_enter Try.func29, Try.ntmps29
  go_wp2_with fail
  refine HC.out.mono ?_
  rintro e w' ⟨rfl, rfl⟩
  clear HC
  go_wp2
  go_loopg [8, 9, 25] m (fun g v tv sv wr => ∃ (k u : Nat) (r : List Int), k ≤ m ∧ m - k ≤ g ∧ u ≤ n ∧ sv = .int .i64 (k : Int) ∧ tv = .int .i64 (u : Int) ∧ r.length = k ∧ rowx (ms.take k) xs = (r, u, 0) ∧ OwnInts wr w.heap.size v r ∧ Below w.heap.size w wr)
  case atStart => exact ⟨0, 0, [], by omega, by omega, by omega, rfl, rfl, rfl, rfl, OwnInts.nil _ _, Below.refl _ _⟩
  case round =>
    obtain ⟨k, u, r, hk, hg, hu, rfl, rfl, hrl, hrow, ho, hb⟩ := hrel
    have HR := hid hrow
    have HO := hid ho
    have HB := hid hb
    clear hrow ho hb
    by_cases hlt : k < m
    · have hkm : k < ms.length := by rw [HM.out]; exact hlt
      obtain ⟨b, o, rfl, hbb, hcc⟩ := HI.out.row (by omega)
      have g1 : wr.cell? ⟨b, o + k, none⟩ = some (.int .i64 (ms.getD k 0)) := (HB.out.cell (p := ⟨b, o + k, none⟩) hbb).trans (hcc k hlt)
      have HRUN := hid (run_fromB A n c u (u : Int) rfl hu)
      have hcap := HCP.out
      unfold Cap at hcap
      have HD : Hid (Calls Try.prog 49 #[.slice (subA A c u) (n - u) (c - u), .int .i64 (ms.getD k 0)] wr (RetDraw (drx (ms.getD k 0) (xs.drop u)) wr)) := by
        have := tpDraw_any (subA A c u) (n - u) (c - u) (xs.drop u) (ms.getD k 0) wr ((HH.out.keep HB.out).drop hu hcap.1) ⟨by omega, by omega⟩
        rw [drawX_ok (tapeErr_drop HE.out u)] at this
        exact this
      have HS := hid (fun x v => rowx_snoc (x := x) (v := v) hkm HR.out)
      have HT := hid (fun e => rowx_stop (e := e) hkm HR.out)
      have hxc := drx_cases (ms.getD k 0) (xs.drop u)
      rw [List.length_drop, HL.out] at hxc
      clear hcc hkm hcap
      have hr2 := HRUN.out
      generalize ms.getD k 0 = y at *
      rcases hxc with ⟨e, hx, hne, -⟩ | ⟨mm, x, v, -, -, hmm, -, hx, hxb, -, hv⟩
      · rw [hx] at HD
        have HX := hid (HT.out e hx hne)
        have hz : (e != 0) = true := by simpa using hne
        clear HS HT hx hne
        go_wp2_with fail
        refine HD.out.mono ?_
        rintro e' w' ⟨rfl, rfl⟩
        go_wp2
        go_ret3
        exact ⟨_, by rw [HX.out]; exact rfl, by rw [HX.out]; exact OwnInts.nil _ _, HB.out⟩
      · rw [hx] at HD
        have HX := hid (HS.out x v hx)
        clear HS HT hx
        go_wp2_with fail
        refine HD.out.mono ?_
        rintro e' w' ⟨rfl, rfl⟩
        go_wp2_with (at_builtin; refine wpList_app1 _ rfl (.tmp 41) (.tmp 43) rfl w.heap.size _ r (x : Int) rfl rfl HO.out (by omega) HB.out.size ?_)
        intro v' w1 ho1 _ hb1
        have HO1 := hid ho1
        have HB1 := hid (HB.out.trans hb1)
        clear ho1 hb1
        go_wp2
        go_roundg (m - (k + 1))
        case measure => omega
        case rel => exact ⟨k + 1, u + v, r ++ [(x : Int)], by omega, by omega, by omega, by go_num, by go_num, by simp; omega, HX.out, HO1.out, HB1.out⟩
    · obtain rfl : k = m := by omega
      have HE : Hid (ms.take k = ms) := by rw [← HM.out]; exact List.take_length
      rw [HE.out] at HR
      go_wp2
      go_ret3
      exact ⟨_, by rw [HR.out]; exact rfl, by rw [HR.out]; exact HO.out, HB.out⟩

theorem tpRow_any (A : Option Addr) (n c : Nat) (xs : List Nat) (B : Option Addr) (m d : Nat) (ms : List Int) (w : World) (h : Byts w A n xs) (hc : Cap n c) (hI : Ints w B m ms) :
    Calls Try.prog 29 #[.slice A n c, .slice B m d] w (RetRow (rowX ms xs) w) := by
  by_cases he : tapeErr xs = 0
  · by_cases hm : 30 < m
    · rw [rowX_large he (by rw [hI.len]; exact hm)]
      exact tpRow_large A n c xs B m d w h he hm
    · rw [rowX_ok he (by rw [hI.len]; exact hm)]
      exact tpRow_good A n c xs B m d ms w h hc hI he (by omega)
  · rw [rowX_bad he]
    exact tpRow_err A n c xs B m d w h he

end Go.Proofs.Ytmdpfadfimodjaa

/-
  shuffle.Cast.
-/
namespace Go.Proofs.Ytmdpfadfimodjaa
open Go.RowKit

/-- 1, 2, ..., n. -/
def upTo (n : Nat) : List Int := (List.range n).map (fun i : Nat => (i : Int) + 1)
theorem length_upTo (n : Nat) : (upTo n).length = n := by simp [upTo]
theorem upTo_succ (n : Nat) : upTo (n + 1) = upTo n ++ [(n : Int) + 1] := by simp [upTo, List.range_succ]
theorem getD_upTo {n i : Nat} (h : i < n) : (upTo n).getD i 0 = (i : Int) + 1 := by simp [upTo, List.getD_eq_getElem?_getD, h]

/-- Each number drawn is below the one that was asked for. -/
theorem rowx_below : ∀ (ms : List Int) (xs : List Nat) (r : List Int) (u : Nat), rowx ms xs = (r, u, 0) → ∀ i, i < ms.length → 0 ≤ r.getD i 0 ∧ r.getD i 0 < ms.getD i 0
  | [], _, _, _, _, i, hi => absurd hi (Nat.not_lt_zero _)
  | n :: ms, xs, r, u, h, i, hi => by
    rcases drx_cases n xs with ⟨e, h2, he, -⟩ | ⟨m, x, v, rfl, -, -, -, hx, hb, -, -⟩
    · rw [rowx_bad h2 he] at h
      injection h with _ h
      injection h with _ h
      exact absurd h he
    · rcases rowx_cases ms (xs.drop v) with ⟨e, h3, he, -⟩ | ⟨s, v2, h3, -, -, -⟩
      · rw [rowx_fail hx h3 he] at h
        injection h with _ h
        injection h with _ h
        exact absurd h he
      · rw [rowx_good hx h3] at h
        injection h with h _
        subst h
        cases i with
        | zero => exact ⟨by simp, by simp; omega⟩
        | succ i =>
          have := rowx_below ms _ s v2 h3 i (by simpa using hi)
          simpa using this
theorem rowx_lots {n : Nat} {xs : List Nat} {r : List Int} {u : Nat} (h : rowx (upTo n) xs = (r, u, 0)) : r.length = n ∧ IsLots r ∧ u ≤ xs.length := by
  rcases rowx_cases (upTo n) xs with ⟨e, h2, he, -⟩ | ⟨s, v, h2, hl, hu, -⟩
  · rw [h2] at h
    injection h with _ h
    injection h with _ h
    exact absurd h he
  · have e := h2
    rw [h] at e
    injection e with e1 e2
    injection e2 with e2 _
    subst e1
    subst e2
    rw [length_upTo] at hl
    refine ⟨hl, fun i hi => ?_, hu⟩
    have := rowx_below _ _ _ _ h i (by rw [length_upTo]; omega)
    rw [getD_upTo (by omega)] at this
    omega

/-- What Cast hands out. -/
def castX (N : Int) (xs : List Nat) : List Int × Nat × Int :=
  if tapeErr xs ≠ 0 then ([], 0, tapeErr xs) else if N < 0 ∨ 10 < N then ([], 0, 1) else
  if (rowx (upTo N.toNat) xs).2.2 ≠ 0 then ([], 0, (rowx (upTo N.toNat) xs).2.2) else (dealt (rowx (upTo N.toNat) xs).1, (rowx (upTo N.toNat) xs).2.1, 0)
theorem castX_tape {N : Int} {xs : List Nat} (h : tapeErr xs ≠ 0) : castX N xs = ([], 0, tapeErr xs) := if_pos h
theorem castX_arg {N : Int} {xs : List Nat} (h : tapeErr xs = 0) (h2 : N < 0 ∨ 10 < N) : castX N xs = ([], 0, 1) := by
  unfold castX
  rw [if_neg (by simp [h]), if_pos h2]
theorem castX_row {n : Nat} {xs : List Nat} {e : Int} (h : tapeErr xs = 0) (hn : n ≤ 10) (h2 : rowx (upTo n) xs = ([], 0, e)) (he : e ≠ 0) : castX (n : Int) xs = ([], 0, e) := by
  unfold castX
  rw [if_neg (by simp [h]), if_neg (by omega), Int.toNat_natCast, h2, if_pos he]
theorem castX_ok {n : Nat} {xs : List Nat} {r : List Int} {u : Nat} (h : tapeErr xs = 0) (hn : n ≤ 10) (h2 : rowx (upTo n) xs = (r, u, 0)) : castX (n : Int) xs = (dealt r, u, 0) := by
  unfold castX
  rw [if_neg (by simp [h]), if_neg (by omega), Int.toNat_natCast, h2, if_neg (by simp)]

/-- An order that was cast, and what it comes of. -/
structure CastOK (N : Int) (xs : List Nat) (n : Nat) (r : List Int) (u : Nat) : Prop where
  eq : N = n
  le : n ≤ 10
  tape : tapeErr xs = 0
  row : rowx (upTo n) xs = (r, u, 0)
  len : r.length = n
  lots : IsLots r
  used : u ≤ xs.length
  err : lotsErr r = 0
  perm : permErr (dealt r) = 0
  plen : (dealt r).length = n
  cast : castX N xs = (dealt r, u, 0)
  back : lotsX (dealt r) = r
theorem castOK_of {xs : List Nat} {n : Nat} {r : List Int} {u : Nat} (h : tapeErr xs = 0) (hn : n ≤ 10) (h2 : rowx (upTo n) xs = (r, u, 0)) : CastOK (n : Int) xs n r u := by
  obtain ⟨h3, h4, h5⟩ := rowx_lots h2
  have h6 := lotsErr_good (by omega) h4
  have h7 := permErr_dealX h6
  have h8 := lotsX_dealX h6
  rw [dealX_ok h6] at h7 h8
  exact ⟨rfl, hn, h, h2, h3, h4, h5, h6, h7, by rw [length_dealt]; exact h3, castX_ok h hn h2, h8⟩
theorem castX_cases (N : Int) (xs : List Nat) : (∃ e, castX N xs = ([], 0, e) ∧ e ≠ 0) ∨ ∃ n r u, CastOK N xs n r u := by
  by_cases h : tapeErr xs = 0
  · by_cases h2 : N < 0 ∨ 10 < N
    · exact .inl ⟨1, castX_arg h h2, by decide⟩
    · obtain ⟨n, rfl⟩ := Int.eq_ofNat_of_zero_le (show 0 ≤ N by omega)
      rcases rowx_cases (upTo n) xs with ⟨e, h3, he, -⟩ | ⟨r, u, h3, -, -, -⟩
      · exact .inl ⟨e, castX_row h (by omega) h3 he, he⟩
      · exact .inr ⟨n, r, u, castOK_of h (by omega) h3⟩
  · exact .inl ⟨_, castX_tape h, h⟩

theorem shCast_tape (A : Option Addr) (n c : Nat) (xs : List Nat) (N : Int) (w : World) (h : Byts w A n xs) (he : tapeErr xs ≠ 0) :
    Calls Try.prog 10 #[.slice A n c, .int .i64 N] w (RetRow ([], 0, tapeErr xs) w) := by
  have HC := hid (tpCheck_any A n c xs w h)
  have hz : (tapeErr xs != 0) = true := by simpa using he
  clear h he
  generalize tapeErr xs = E at *
  go_enter Try.func10, Try.ntmps10
  go_wp2_with fail
  refine HC.out.mono ?_
  rintro e w' ⟨rfl, rfl⟩
  go_wp2
  go_ret3
  exact ⟨_, rfl, OwnInts.nil _ _, Below.refl _ _⟩
theorem shCast_arg (A : Option Addr) (n c : Nat) (xs : List Nat) (N : Int) (w : World) (h : Byts w A n xs) (he : tapeErr xs = 0) (hN : N < 0 ∨ 10 < N) :
    Calls Try.prog 10 #[.slice A n c, .int .i64 N] w (RetRow ([], 0, 1) w) := by
  have HC := hid (tpCheck_any A n c xs w h)
  rw [he] at HC
  clear h he
  rcases hN with hN | hN
  · go_enter Try.func10, Try.ntmps10
    go_wp2_with fail
    refine HC.out.mono ?_
    rintro e w' ⟨rfl, rfl⟩
    go_wp2
    go_ret3
    exact ⟨_, rfl, OwnInts.nil _ _, Below.refl _ _⟩
  · have h1 : ¬ N < 0 := by omega
    have h2 : N > 10 := hN
    go_enter Try.func10, Try.ntmps10
    go_wp2_with fail
    refine HC.out.mono ?_
    rintro e w' ⟨rfl, rfl⟩
    go_wp2
    go_ret3
    exact ⟨_, rfl, OwnInts.nil _ _, Below.refl _ _⟩

theorem upTo_step {n k : Nat} (h : k < n) : (upTo k ++ List.replicate (n - k) (0 : Int)).set k ((k : Int) + 1) = upTo (k + 1) ++ List.replicate (n - (k + 1)) (0 : Int) := by
  obtain ⟨d, rfl⟩ : ∃ d, n = k + 1 + d := ⟨n - (k + 1), by omega⟩
  rw [show k + 1 + d - k = d + 1 by omega, show k + 1 + d - (k + 1) = d by omega, List.replicate_succ, upTo_succ, List.append_assoc, List.singleton_append, List.set_append_right _ _ (by rw [length_upTo]; exact Nat.le_refl _), length_upTo, Nat.sub_self]
  rfl

set_option maxHeartbeats 1000000 in
set_option maxRecDepth 100000 in
theorem shCast_good (A : Option Addr) (n c : Nat) (xs : List Nat) (N : Nat) (w : World) (h : Byts w A n xs) (hc : Cap n c) (he : tapeErr xs = 0) (hN : N ≤ 10) :
    Calls Try.prog 10 #[.slice A n c, .int .i64 (N : Int)] w (RetRow (castX (N : Int) xs) w) := by
  have HC := hid (tpCheck_any A n c xs w h)
  rw [he] at HC
  have HX := hid h
  have HCP := hid hc
  have HE := hid he
  have hmk := fun W => run_make_row' (P := Try.prog) 22 3 (.int .i64 0) 8 Try.underlying22 infoInt rfl .i64 .i64 N (by omega) (by omega) W
  clear h hc he
  go_enter Try.func10, Try.ntmps10
  go_wp2_with fail
  refine HC.out.mono ?_
  rintro e w' ⟨rfl, rfl⟩
  clear HC
  go_wp2_with fail
  go_loopg [30] N (fun g s wr => ∃ k : Nat, k ≤ N ∧ N - k ≤ g ∧ s = .int .i64 k ∧ Arr wr w.heap.size (upTo k ++ List.replicate (N - k) (0 : Int)) ∧ Below w.heap.size w wr)
  case atStart => exact ⟨0, Nat.zero_le _, by omega, rfl, Arr.made w N, below_alloc _ _⟩
  case round =>
    obtain ⟨k, hk, hg, rfl, harr, hbel⟩ := hrel
    have HR := hid harr
    have HB := hid hbel
    clear harr hbel
    by_cases hlt : k < N
    · have hl : (upTo k ++ List.replicate (N - k) (0 : Int)).length = N := by
        rw [List.length_append, length_upTo, List.length_replicate]; omega
      have f1 := HR.out.frozen k
      have g1 := HR.out.cell (j := k) (by rw [hl]; exact hlt)
      have HW := hid (HR.out.set k ((k : Int) + 1))
      rw [upTo_step hlt] at HW
      clear hl HR
      generalize (upTo k ++ List.replicate (N - k) (0 : Int)).getD k 0 = z at g1
      go_wp2
      go_roundg (N - (k + 1))
      case measure => omega
      case rel => exact ⟨k + 1, by omega, by omega, by go_num, HW.out, HB.out.setCell (Nat.le_refl _) _⟩
    · obtain rfl : k = N := by omega
      rw [Nat.sub_self, List.replicate_zero, List.append_nil] at HR
      have HIU : Hid (Ints wr (some ⟨w.heap.size, 0, none⟩) k (upTo k)) := by
        have := HR.out.ints0 k (by rw [length_upTo]; exact Nat.le_refl _)
        rw [List.take_of_length_le (by rw [length_upTo]; exact Nat.le_refl _)] at this
        exact this
      have HRW := hid (tpRow_any A n c xs (some ⟨w.heap.size, 0, none⟩) k k (upTo k) wr (HX.out.keep HB.out) HCP.out HIU.out)
      rw [rowX_ok HE.out (by rw [length_upTo]; omega)] at HRW
      rcases rowx_cases (upTo k) xs with ⟨er, h3, hne, -⟩ | ⟨r, u, h3, -, -, -⟩
      · have HX3 := hid (castX_row HE.out hN h3 hne)
        have hz : (er != 0) = true := by simpa using hne
        rw [h3] at HRW
        clear h3 hne HR HIU
        go_wp2_with fail
        refine HRW.out.mono ?_
        rintro e w2 ⟨v, rfl, ho, hb⟩
        have HB2 := hid (below_step HB.out (Nat.le_refl _) hb)
        clear ho hb
        go_wp2
        go_ret3
        exact ⟨_, by rw [HX3.out]; exact rfl, by rw [HX3.out]; exact OwnInts.nil _ _, HB2.out⟩
      · have HK := hid (castOK_of HE.out hN h3)
        rw [h3] at HRW
        clear h3 HR HIU
        go_wp2_with fail
        refine HRW.out.mono ?_
        rintro e w2 ⟨v, rfl, ho, hb⟩
        have HB2 := hid (below_step HB.out (Nat.le_refl _) hb)
        obtain ⟨A2, c2, rfl, hI2, -⟩ := ho.ints
        have HD := hid (shDeal_any A2 r.length c2 r w2 hI2)
        have hlt : k = r.length := HK.out.len.symm
        rw [dealX_ok HK.out.err, HK.out.err] at HD
        clear ho hb hI2 HRW HB
        go_wp2_with fail
        refine HD.out.mono ?_
        rintro e w3 ⟨v3, rfl, ho, hb⟩
        have HO3 := hid (ho.mono HB2.out.size)
        have HB3 := hid (below_step HB2.out (Nat.le_refl _) hb)
        clear ho hb HD
        go_wp2
        go_ret3
        exact ⟨_, by rw [HK.out.cast]; exact rfl, by rw [HK.out.cast]; exact HO3.out, HB3.out⟩

/-- shuffle.Cast, whatever comes in. -/
theorem shCast_any (A : Option Addr) (n c : Nat) (xs : List Nat) (N : Int) (w : World) (h : Byts w A n xs) (hc : Cap n c) :
    Calls Try.prog 10 #[.slice A n c, .int .i64 N] w (RetRow (castX N xs) w) := by
  by_cases he : tapeErr xs = 0
  · by_cases hN : N < 0 ∨ 10 < N
    · rw [castX_arg he hN]
      exact shCast_arg A n c xs N w h he hN
    · obtain ⟨m, rfl⟩ := Int.eq_ofNat_of_zero_le (show 0 ≤ N by omega)
      exact shCast_good A n c xs m w h hc he (by omega)
  · rw [castX_tape he]
    exact shCast_tape A n c xs N w h he

end Go.Proofs.Ytmdpfadfimodjaa

/-
  Plain facts on the cycles of a permutation given as a list. No program, no memory.
-/
namespace Go.Proofs.Ytmdpfadfimodjaa

def nx (p : List Int) (i : Nat) : Nat := (p.getD i 0).toNat
/-- k steps from i. -/
def it (p : List Int) : Nat → Nat → Nat
  | 0, i => i
  | k + 1, i => nx p (it p k i)

theorem length_le_of_nodup {l : List Nat} {n : Nat} (hn : l.Nodup) (hl : ∀ x, x ∈ l → x < n) : l.length ≤ n := by
  by_cases h : l.length ≤ n
  · exact h
  · have := (perm_of_nodup_subset (l := l) (l' := List.range n) hn (fun x hx => List.mem_range.2 (hl x hx)) (by simp; omega)).length_eq
    simp at this
    omega

section
variable {p : List Int}

theorem nx_lt (h : IsPerm p) {i : Nat} (hi : i < p.length) : nx p i < p.length := by
  have := h.range (getD_mem hi)
  unfold nx
  omega
theorem nx_inj (h : IsPerm p) {i j : Nat} (hi : i < p.length) (hj : j < p.length) (e : nx p i = nx p j) : i = j := by
  have h1 := h.range (getD_mem hi)
  have h2 := h.range (getD_mem hj)
  have e' : p.getD i 0 = p.getD j 0 := by unfold nx at e; omega
  have hn := nodup_iff_getD.1 h.nodup
  rcases Nat.lt_trichotomy i j with hlt | he | hgt
  · exact absurd e' (hn i j hlt hj)
  · exact he
  · exact absurd e'.symm (hn j i hgt hi)

theorem it_lt (h : IsPerm p) {i : Nat} (hi : i < p.length) (k : Nat) : it p k i < p.length := by
  induction k with
  | zero => exact hi
  | succ k ih => exact nx_lt h ih
theorem it_add (p : List Int) (a b i : Nat) : it p (a + b) i = it p a (it p b i) := by
  induction a with
  | zero => simp [it]
  | succ a ih => rw [Nat.succ_add]; simp only [it]; rw [ih]
theorem it_inj (h : IsPerm p) {i j : Nat} (hi : i < p.length) (hj : j < p.length) (k : Nat) (e : it p k i = it p k j) : i = j := by
  induction k with
  | zero => exact e
  | succ k ih => exact ih (nx_inj h (it_lt h hi k) (it_lt h hj k) e)

theorem it_back (h : IsPerm p) {i : Nat} (hi : i < p.length) : ∃ k, 1 ≤ k ∧ k ≤ p.length ∧ it p k i = i := by
  apply Classical.byContradiction
  intro hno
  have hd : ((List.range (p.length + 1)).map (fun k => it p k i)).Nodup := by
    rw [List.nodup_iff_pairwise_ne, List.pairwise_map]
    have hr := List.pairwise_lt_range (n := p.length + 1)
    refine List.Pairwise.imp_of_mem ?_ hr
    intro a b ha hb hab e
    have hb' := List.mem_range.1 hb
    refine hno ⟨b - a, by omega, by omega, ?_⟩
    have e2 : it p b i = it p a (it p (b - a) i) := by rw [← it_add]; congr 1; omega
    exact (it_inj h hi (it_lt h hi _) a (e.trans e2)).symm
  have := length_le_of_nodup hd (n := p.length) (fun x hx => by
    obtain ⟨k, _, rfl⟩ := List.mem_map.1 hx
    exact it_lt h hi k)
  simp at this
  omega

/-- How many steps it takes to come back. -/
def per (p : List Int) (i : Nat) : Nat := ((List.range p.length).find? (fun k => decide (it p (k + 1) i = i))).getD 0 + 1

theorem per_spec (h : IsPerm p) {i : Nat} (hi : i < p.length) : 1 ≤ per p i ∧ per p i ≤ p.length ∧ it p (per p i) i = i ∧ ∀ k, 1 ≤ k → k < per p i → it p k i ≠ i := by
  obtain ⟨k, h1, h2, h3⟩ := it_back h hi
  unfold per
  cases hf : (List.range p.length).find? (fun k => decide (it p (k + 1) i = i)) with
  | none =>
    have := List.find?_eq_none.1 hf (k - 1) (List.mem_range.2 (by omega))
    rw [show k - 1 + 1 = k by omega] at this
    simp [h3] at this
  | some m =>
    rw [List.find?_range_eq_some] at hf
    obtain ⟨ha, hb, hc⟩ := hf
    have hb' := List.mem_range.1 hb
    refine ⟨by omega, by simp; omega, by simpa using ha, fun k hk1 hk2 => ?_⟩
    simp only [Option.getD_some] at hk2
    have := hc (k - 1) (by omega)
    rw [show k - 1 + 1 = k by omega] at this
    simpa using this

theorem it_mul (h : IsPerm p) {i : Nat} (hi : i < p.length) (t : Nat) : it p (t * per p i) i = i := by
  induction t with
  | zero => simp [it]
  | succ t ih => rw [Nat.succ_mul, it_add, (per_spec h hi).2.2.1, ih]
theorem it_mod (h : IsPerm p) {i : Nat} (hi : i < p.length) (k : Nat) : it p k i = it p (k % per p i) i := by
  have e : k % per p i + k / per p i * per p i = k := by rw [Nat.mul_comm]; exact Nat.mod_add_div k (per p i)
  rw [← it_mul h hi (k / per p i)]
  conv => lhs; rw [← e]
  rw [it_add, it_mul h hi, it_mul h hi]
theorem it_ne (h : IsPerm p) {i : Nat} (hi : i < p.length) {a b : Nat} (hab : a < b) (hb : b < per p i) : it p a i ≠ it p b i := by
  intro e
  have e2 : it p b i = it p a (it p (b - a) i) := by rw [← it_add]; congr 1; omega
  exact (per_spec h hi).2.2.2 (b - a) (by omega) (by omega) (it_inj h hi (it_lt h hi _) a (e.trans e2)).symm

/-- The way back within a cycle. -/
theorem it_symm (h : IsPerm p) {i : Nat} (hi : i < p.length) (k : Nat) : ∃ m, it p m (it p k i) = i := by
  refine ⟨k * per p i - k, ?_⟩
  have h1 := (per_spec h hi).1
  have h2 : k ≤ k * per p i := Nat.le_mul_of_pos_right k (by omega)
  rw [← it_add, show k * per p i - k + k = k * per p i by omega, it_mul h hi]

/-- The least number of a cycle. -/
def lo (p : List Int) (j : Nat) : Nat := (List.range p.length).foldr (fun k m => min (it p k j) m) j

theorem foldr_min_le (f : Nat → Nat) (l : List Nat) (z k : Nat) (hk : k ∈ l) : l.foldr (fun k m => min (f k) m) z ≤ f k := by
  induction l with
  | nil => cases hk
  | cons a t ih =>
    rw [List.foldr_cons]
    rcases List.mem_cons.1 hk with rfl | hk
    · exact Nat.min_le_left _ _
    · exact Nat.le_trans (Nat.min_le_right _ _) (ih hk)
theorem foldr_min_mem (f : Nat → Nat) (l : List Nat) (z : Nat) : l.foldr (fun k m => min (f k) m) z = z ∨ ∃ k, l.foldr (fun k m => min (f k) m) z = f k := by
  induction l with
  | nil => exact .inl rfl
  | cons a t ih =>
    rw [List.foldr_cons]
    rcases Nat.le_total (f a) (t.foldr (fun k m => min (f k) m) z) with hle | hle
    · exact .inr ⟨a, Nat.min_eq_left hle⟩
    · rw [Nat.min_eq_right hle]
      exact ih

theorem lo_mem (p : List Int) (j : Nat) : ∃ k, lo p j = it p k j := by
  rcases foldr_min_mem (fun k => it p k j) (List.range p.length) j with h | ⟨k, h⟩
  · exact ⟨0, h⟩
  · exact ⟨k, h⟩
theorem lo_le (h : IsPerm p) {j : Nat} (hj : j < p.length) (k : Nat) : lo p j ≤ it p k j := by
  rw [it_mod h hj k]
  have h1 := (per_spec h hj).1
  have h2 := (per_spec h hj).2.1
  exact foldr_min_le (fun k => it p k j) _ j _ (List.mem_range.2 (Nat.lt_of_lt_of_le (Nat.mod_lt _ (by omega)) h2))
theorem lo_lt (h : IsPerm p) {j : Nat} (hj : j < p.length) : lo p j < p.length := by
  obtain ⟨k, e⟩ := lo_mem p j
  rw [e]
  exact it_lt h hj k
theorem lo_it (h : IsPerm p) {j : Nat} (hj : j < p.length) (k : Nat) : lo p (it p k j) = lo p j := by
  apply Nat.le_antisymm
  · obtain ⟨m, e⟩ := lo_mem p j
    obtain ⟨r, er⟩ := it_symm h hj k
    rw [e]
    have := lo_le h (it_lt h hj k) (m + r)
    rwa [it_add, er] at this
  · obtain ⟨m, e⟩ := lo_mem p (it p k j)
    rw [e, ← it_add]
    exact lo_le h hj _

/-- Whose least number is s lies in the cycle of s. -/
theorem lo_eq (h : IsPerm p) {j s : Nat} (hj : j < p.length) (e : lo p j = s) : s < p.length ∧ lo p s = s ∧ ∃ k, k < per p s ∧ it p k s = j := by
  have hs : s < p.length := by rw [← e]; exact lo_lt h hj
  obtain ⟨m, em⟩ := lo_mem p j
  have hls : lo p s = s := by
    have := lo_it h hj m
    rw [← em, e] at this
    exact this
  obtain ⟨r, er⟩ := it_symm h hj m
  rw [← em, e] at er
  refine ⟨hs, hls, r % per p s, Nat.mod_lt _ (by have := (per_spec h hs).1; omega), ?_⟩
  rw [← it_mod h hs]
  exact er

/-! ### What the loops of cycleLengths keep -/

/-- The lengths of the cycles whose least number is below s, by that number. -/
def cycL (p : List Int) (s : Nat) : List Int := ((List.range s).filter (fun i => decide (lo p i = i))).map (fun i => (per p i : Int))

theorem cycL_yes {s : Nat} (h : lo p s = s) : cycL p (s + 1) = cycL p s ++ [(per p s : Int)] := by
  simp [cycL, List.range_succ, List.filter_append, h]
theorem cycL_no {s : Nat} (h : lo p s ≠ s) : cycL p (s + 1) = cycL p s := by
  simp [cycL, List.range_succ, List.filter_append, h]
theorem length_cycL_le (p : List Int) (s : Nat) : (cycL p s).length ≤ s := by
  have := List.length_filter_le (fun i => decide (lo p i = i)) (List.range s)
  simpa [cycL] using this

/-- Seen: in a cycle whose least number is below s, or among the first m steps from s. -/
def snB (p : List Int) (s m j : Nat) : Bool := decide (j < p.length) && (decide (lo p j < s) || (List.range m).any (fun k => it p k s == j))

theorem snB_true {s m j : Nat} : snB p s m j = true ↔ j < p.length ∧ (lo p j < s ∨ ∃ k, k < m ∧ it p k s = j) := by
  simp [snB]

theorem bool_ext {a b : Bool} (h : a = true ↔ b = true) : a = b := by cases a <;> cases b <;> simp_all

theorem snB_step {s m i : Nat} (hi : i < p.length) (e : it p m s = i) (j : Nat) : (if j = i then Value.bool true else Value.bool (snB p s m j)) = Value.bool (snB p s (m + 1) j) := by
  by_cases h : j = i
  · rw [if_pos h]
    have : snB p s (m + 1) j = true := snB_true.2 ⟨by omega, .inr ⟨m, by omega, by rw [e, h]⟩⟩
    rw [this]
  · rw [if_neg h]
    congr 1
    apply bool_ext
    rw [snB_true, snB_true]
    constructor
    · rintro ⟨h1, h2 | ⟨k, hk, ek⟩⟩
      · exact ⟨h1, .inl h2⟩
      · exact ⟨h1, .inr ⟨k, by omega, ek⟩⟩
    · rintro ⟨h1, h2 | ⟨k, hk, ek⟩⟩
      · exact ⟨h1, .inl h2⟩
      · refine ⟨h1, .inr ⟨k, ?_, ek⟩⟩
        rcases Nat.lt_or_ge k m with hlt | hge
        · exact hlt
        · have : k = m := by omega
          subst this
          exact absurd (ek.symm.trans e) h

theorem snB_go (h : IsPerm p) {s m : Nat} (hs : s < p.length) (hl : lo p s = s) (hm : m < per p s) : snB p s m (it p m s) = false := by
  rw [Bool.eq_false_iff]
  intro e
  rcases (snB_true.1 e).2 with h1 | ⟨k, hk, ek⟩
  · rw [lo_it h hs] at h1
    omega
  · exact it_ne h hs hk hm ek
theorem snB_stop (h : IsPerm p) {s : Nat} (hs : s < p.length) : snB p s (per p s) (it p (per p s) s) = true := by
  have h1 := per_spec h hs
  exact snB_true.2 ⟨by rw [h1.2.2.1]; exact hs, .inr ⟨0, by omega, by rw [h1.2.2.1]; rfl⟩⟩
theorem snB_end (h : IsPerm p) {s : Nat} (hs : s < p.length) (hl : lo p s = s) (j : Nat) : snB p s (per p s) j = snB p (s + 1) 0 j := by
  apply bool_ext
  rw [snB_true, snB_true]
  constructor
  · rintro ⟨h1, h2 | ⟨k, hk, rfl⟩⟩
    · exact ⟨h1, .inl (by omega)⟩
    · exact ⟨h1, .inl (by rw [lo_it h hs]; omega)⟩
  · rintro ⟨h1, h2 | ⟨k, hk, _⟩⟩
    · rcases Nat.lt_or_ge (lo p j) s with hlt | hge
      · exact ⟨h1, .inl hlt⟩
      · obtain ⟨_, _, k, hk, ek⟩ := lo_eq h h1 (show lo p j = s by omega)
        exact ⟨h1, .inr ⟨k, hk, ek⟩⟩
    · omega
theorem snB_skip (h : IsPerm p) {s : Nat} (hl : lo p s ≠ s) (j : Nat) : snB p s 0 j = snB p (s + 1) 0 j := by
  apply bool_ext
  rw [snB_true, snB_true]
  constructor
  · rintro ⟨h1, h2 | ⟨k, hk, _⟩⟩
    · exact ⟨h1, .inl (by omega)⟩
    · omega
  · rintro ⟨h1, h2 | ⟨k, hk, _⟩⟩
    · refine ⟨h1, .inl ?_⟩
      rcases Nat.lt_or_ge (lo p j) s with hlt | hge
      · exact hlt
      · exact absurd (lo_eq h h1 (show lo p j = s by omega)).2.1 hl
    · omega
theorem snB_seen (h : IsPerm p) {s : Nat} (hs : s < p.length) (hl : lo p s ≠ s) : snB p s 0 s = true :=
  snB_true.2 ⟨hs, .inl (by have := lo_le h hs 0; simp only [it] at this; omega)⟩
theorem snB_zero (j : Nat) : snB p 0 0 j = false := by
  rw [Bool.eq_false_iff]
  intro e
  rcases (snB_true.1 e).2 with h1 | ⟨k, hk, _⟩ <;> omega

end
end Go.Proofs.Ytmdpfadfimodjaa

/-
  perm.cycleLengths: the lengths of all cycles, by their least numbers.
-/
namespace Go.Proofs.Ytmdpfadfimodjaa
open Go.RowKit

theorem seen0 (w : World) (p : List Int) : (w.alloc (Obj.cells #[Value.bool false, Value.bool false, Value.bool false, Value.bool false, Value.bool false, Value.bool false,
      Value.bool false, Value.bool false, Value.bool false, Value.bool false] 74)).rowIs w.heap.size 74 10 (fun j => .bool (snB p 0 0 j)) := by
  refine World.rowIs_alloc w _ _ _ fun i hi => ?_
  simp only [snB_zero]
  match i, hi with
  | 0, _ | 1, _ | 2, _ | 3, _ | 4, _ | 5, _ | 6, _ | 7, _ | 8, _ | 9, _ => rfl

theorem rowIs_below {w w' : World} {B b t n : Nat} {f : Nat → Value} (h : w.rowIs b t n f) (hb : Below B w w') (hlt : b < B) : w'.rowIs b t n f := h.of_block (hb.block b hlt)

set_option maxHeartbeats 1600000 in
theorem cycleLengths_any (A : Option Addr) (n c : Nat) (p : List Int) (w : World) (h : Ints w A n p) (hp : IsPerm p) (hn : n ≤ 10) :
    Calls Try.prog 66 #[.slice A n c] w (RetOwn w (cycL p n)) := by
  have HP := hid hp
  have HL := hid h.len
  clear hp
  go_enter Try.func66, Try.ntmps66
  go_wp2
  go_loopg [3, 10] n (fun g v s wr => ∃ k : Nat, k ≤ n ∧ n - k ≤ g ∧ s = .int .i64 k ∧ OwnInts wr (w.heap.size + 1) v (cycL p k) ∧ wr.rowIs w.heap.size 74 10 (fun j => .bool (snB p k 0 j)) ∧ Below w.heap.size w wr ∧ w.heap.size < wr.heap.size)
  case atStart => exact ⟨0, Nat.zero_le _, by omega, rfl, OwnInts.nil _ _, seen0 w p, (Below.refl _ _).alloc (Nat.le_refl _) _, by simp⟩
  case round =>
    obtain ⟨k, hk, hg, rfl, hown, hrow, hbel, hsz⟩ := hrel
    have HO := hid hown
    have HR := hid hrow
    have HB := hid hbel
    clear hown hrow hbel
    by_cases hlt : k < n
    · obtain ⟨b, o, rfl, hb, hc⟩ := h.row (by omega)
      have HC := hid hc
      clear hc h
      by_cases hl : lo p k = k
      · have HLO := hid hl
        clear hl
        have HPS := hid (per_spec HP.out (show k < p.length by rw [HL.out]; exact hlt))
        go_wp2
        go_loopg [6, 7] (per p k) (fun g u v wq => ∃ m : Nat, m ≤ per p k ∧ per p k - m ≤ g ∧ u = .int .i64 m ∧ v = .int .i64 (it p m k) ∧ OwnInts wq (w.heap.size + 1) u3 (cycL p k) ∧ wq.rowIs w.heap.size 74 10 (fun j => .bool (snB p k m j)) ∧ Below w.heap.size w wq ∧ w.heap.size < wq.heap.size)
        case atStart => exact ⟨0, Nat.zero_le _, by omega, rfl, rfl, HO.out, HR.out, HB.out, hsz⟩
        case round =>
          obtain ⟨m, hm, hgm, rfl, rfl, hownq, hrowq, hbelq, hszq⟩ := hrel
          have HOq := hid hownq
          have HRq := hid hrowq
          have HBq := hid hbelq
          clear hownq hrowq hbelq HO HR HB
          have hkl : k < p.length := by rw [HL.out]; exact hlt
          have hi := it_lt HP.out hkl m
          have hpn := HPS.out.2.1
          have hp1 := HPS.out.1
          rw [HL.out] at hi hpn
          have hrd : p.getD (it p m k) 0 = ((it p (m + 1) k : Nat) : Int) := by
            have := HP.out.range (getD_mem (show it p m k < p.length by rw [HL.out]; exact hi))
            show _ = ((nx p (it p m k) : Nat) : Int)
            unfold nx
            omega
          have g1 : wr.cell? ⟨b, o + it p m k, none⟩ = some (.int .i64 ((it p (m + 1) k : Nat) : Int)) := by
            rw [← hrd]
            exact (HBq.out.cell (p := ⟨b, o + it p m k, none⟩) hb).trans (HC.out _ hi)
          have g2 : wr.cell? ⟨w.heap.size, it p m k, none⟩ = some (.bool (snB p k m (it p m k))) := HRq.out.cell (by omega)
          have g3 : wr.frozen? ⟨w.heap.size, it p m k, none⟩ = false := HRq.out.frozen _
          clear hrd
          by_cases hmp : m < per p k
          · rw [snB_go HP.out hkl HLO.out hmp] at g2
            go_wp2
            go_roundg (per p k - (m + 1))
            case measure => omega
            case rel =>
              exact ⟨m + 1, by omega, by omega, by go_num, rfl, ownsRow_setCell_below HOq.out (by exact Nat.lt_succ_self _) _,
                (HRq.out.set (it p m k) (.bool true)).congr (fun j _ => snB_step (by rw [HL.out]; exact hi) rfl j), HBq.out.setCell (Nat.le_refl _) _, by simpa [World.setCell] using hszq⟩
          · have hme : m = per p k := by omega
            subst hme
            rw [snB_stop HP.out hkl] at g2
            have hpos : decide (0 < ((per p k : Nat) : Int)) = true := by simp; omega
            have hpos' : (0 : Int) < ((per p k : Nat) : Int) := by omega
            have HLC : Hid ((cycL p k).length ≤ 10) := Nat.le_trans (length_cycL_le p k) (by omega)
            go_wp2_with (at_builtin; refine wpList_app1 _ rfl (.tmp 28) (.tmp 30) rfl (w.heap.size + 1) _ (cycL p k) (per p k : Nat) rfl rfl HOq.out (Nat.le_trans HLC.out (by omega)) hszq ?_)
            intro v' w1 hown1 hgrow1 hbel1
            have HO1 := hid hown1
            have HB1 := hid hbel1
            clear hown1 hbel1 hgrow1
            go_wp2
            go_roundg (n - (k + 1))
            case measure => omega
            case rel =>
              exact ⟨k + 1, by omega, by omega, by go_num, by rw [cycL_yes HLO.out]; exact HO1.out,
                (rowIs_below HRq.out HB1.out (Nat.lt_succ_self _)).congr (fun j _ => by rw [snB_end HP.out hkl HLO.out]), HBq.out.trans (HB1.out.mono (Nat.le_succ _)), Nat.lt_of_lt_of_le hszq HB1.out.size⟩
      · have hkl : k < p.length := by rw [HL.out]; exact hlt
        have g2 : wr.cell? ⟨w.heap.size, k, none⟩ = some (.bool (snB p k 0 k)) := HR.out.cell (by omega)
        rw [snB_seen HP.out hkl hl] at g2
        have HLO := hid hl
        clear hl
        go_wp2
        go_loopg [6, 7] 0 (fun g u v wq => u = .int .i64 0 ∧ v = .int .i64 k ∧ wr = wq)
        case atStart => exact ⟨rfl, rfl, rfl⟩
        case round =>
          obtain ⟨rfl, rfl, rfl⟩ := hrel
          go_wp2
          go_roundg (n - (k + 1))
          case measure => omega
          case rel => exact ⟨k + 1, by omega, by omega, by go_num, by rw [cycL_no HLO.out]; exact HO.out, HR.out.congr (fun j _ => by rw [snB_skip HP.out HLO.out]), HB.out, hsz⟩
    · have hkn : k = n := by omega
      subst hkn
      go_wp2
      go_ret
      exact ⟨_, rfl, HO.out.mono (Nat.le_succ _), HB.out⟩

end Go.Proofs.Ytmdpfadfimodjaa

/-
  perm.greatestCommonDivisor, perm.leastCommonMultiple, perm.Order.
-/
namespace Go.Proofs.Ytmdpfadfimodjaa
open Go.RowKit

set_option maxHeartbeats 400000 in
theorem gcd_any (a b : Nat) (w : World) (ha : a ≤ 1000000000000) (hb : b ≤ 1000000000000) :
    Calls Try.prog 76 #[.int .i64 a, .int .i64 b] w fun e w' => e = .returned (.int .i64 (Nat.gcd a b : Nat)) ∧ ∃ q, w' = w.drewN q := by
  have HG : Hid (Nat.gcd a b = Nat.gcd a b) := rfl
  go_enter Try.func76, Try.ntmps76
  go_wp2
  go_loopg [0, 1] b (fun g u v wr => ∃ x y q : Nat, x ≤ 1000000000000 ∧ y ≤ 1000000000000 ∧ y ≤ g ∧ u = .int .i64 x ∧ v = .int .i64 y ∧ wr = w.drewN q ∧ Nat.gcd x y = Nat.gcd a b)
  case atStart => exact ⟨a, b, 0, ha, hb, Nat.le_refl _, rfl, rfl, rfl, rfl⟩
  case round =>
    obtain ⟨x, y, q, hx, hy, hg, rfl, rfl, hq, he⟩ := hrel
    have HQ := hid hq
    have HE := hid he
    clear hq he HG
    by_cases h0 : y = 0
    · subst h0
      go_wp2
      go_ret
      exact ⟨by rw [← HE.out, Nat.gcd_zero_right]; rfl, q, HQ.out⟩
    · have hpos : 0 < y := by omega
      have hne : ((y : Int) != 0) = true := by simp; omega
      have hne2 : ((y : Int) == 0) = false := by simp; omega
      have hmod := Nat.mod_lt x hpos
      have hcast : (x : Int) % (y : Int) = ((x % y : Nat) : Int) := by omega
      have hw : IntKind.i64.wrap ((x : Int).tmod (y : Int)) = ((x % y : Nat) : Int) := by
        rw [Int.tmod_eq_emod_of_nonneg (by omega), hcast]
        exact IntWalk.i64_in _ (by omega)
      have HC := hid hcast
      clear hcast
      go_wp2_with fail
      go_region
      go_wp2
      go_roundg (x % y)
      case measure => omega
      case rel => exact ⟨y, x % y, q + 1, by omega, by omega, Nat.le_refl _, rfl, by first | rfl | (rw [HC.out]), by rw [HQ.out]; rfl, by rw [← HE.out, Nat.gcd_comm, ← Nat.gcd_rec, Nat.gcd_comm]⟩

theorem lcm_div (a b : Nat) : a / Nat.gcd a b * b = Nat.lcm a b := by
  rw [Nat.lcm]
  exact Nat.div_mul_right_comm (Nat.gcd_dvd_left a b) b

set_option maxHeartbeats 400000 in
theorem lcm_any (a b : Nat) (w : World) (ha : 1 ≤ a) (hb : 1 ≤ b) (ha2 : a ≤ 1000000000000) (hb2 : b ≤ 1000000) :
    Calls Try.prog 67 #[.int .i64 a, .int .i64 b] w fun e w' => e = .returned (.int .i64 (Nat.lcm a b : Nat)) ∧ ∃ q, w' = w.drewN q := by
  have hg1 : 1 ≤ Nat.gcd a b := Nat.gcd_pos_of_pos_left b ha
  have hle : a / Nat.gcd a b ≤ a := Nat.div_le_self _ _
  have hprod : a / Nat.gcd a b * b ≤ 1000000000000 * 1000000 := Nat.mul_le_mul (Nat.le_trans hle ha2) hb2
  have HLC := hid (lcm_div a b)
  have HQ : Hid ((a : Int) / ((Nat.gcd a b : Nat) : Int) = ((a / Nat.gcd a b : Nat) : Int)) := (Int.natCast_ediv _ _).symm
  go_enter Try.func67, Try.ntmps67
  go_wp2_with fail
  refine (gcd_any a b _ ha2 (by omega)).mono ?_
  rintro e w' ⟨rfl, q, rfl⟩
  have hq := HQ.out
  generalize hQ : a / Nat.gcd a b = Q at hle hprod hq HLC
  generalize Nat.gcd a b = G at hg1 hq ⊢
  have hp2 : (Q : Int) * (b : Int) ≤ 1000000000000000000 := by
    have : ((Q * b : Nat) : Int) ≤ 1000000000000000000 := by omega
    simpa using this
  have hp0 : 0 ≤ (Q : Int) * (b : Int) := Int.mul_nonneg (by omega) (by omega)
  have hG : (1 : Int) ≤ (G : Int) := by omega
  clear hprod hQ HQ
  go_wp2
  go_ret
  refine ⟨?_, q, rfl⟩
  rw [← HLC.out, Int.natCast_mul]
  rfl

/-- The least common multiple of all of them. -/
def ordL (l : List Int) : Nat := l.foldl (fun a x => Nat.lcm a x.toNat) 1

def RetOrder (w : World) (r : Int) (er : Int) (e : Ending) (w' : World) : Prop := e = .returned (.tuple #[.int .i64 r, .int .i64 er]) ∧ Below w.heap.size w w'

theorem ordL_snoc (l : List Int) (x : Int) : ordL (l ++ [x]) = Nat.lcm (ordL l) x.toNat := by simp [ordL, List.foldl_append]
theorem ordL_take_bound {l : List Int} (hl : ∀ x, x ∈ l → 1 ≤ x ∧ x ≤ 10) : ∀ k, k ≤ l.length → 1 ≤ ordL (l.take k) ∧ ordL (l.take k) ≤ 10 ^ k
  | 0, _ => by simp [ordL]
  | k + 1, hk => by
    have ih := ordL_take_bound hl k (by omega)
    have hx := hl _ (getD_mem (show k < l.length by omega))
    rw [take_snoc (by omega), ordL_snoc]
    refine ⟨Nat.lcm_pos (by omega) (by omega), ?_⟩
    refine Nat.le_trans (Nat.div_le_self _ _) ?_
    rw [Nat.pow_succ]
    exact Nat.mul_le_mul ih.2 (by omega)
theorem mem_cycL {p : List Int} (hp : IsPerm p) {x : Int} (hx : x ∈ cycL p p.length) : 1 ≤ x ∧ x ≤ p.length := by
  obtain ⟨i, hi, rfl⟩ := List.mem_map.1 hx
  have h := per_spec hp (List.mem_range.1 (List.mem_filter.1 hi).1)
  omega

set_option maxHeartbeats 800000 in
theorem order_ok (A : Option Addr) (n c : Nat) (p : List Int) (w : World) (hA : Ints w A n p) (hp : permErr p = 0) :
    Calls Try.prog 50 #[.slice A n c] w (RetOrder w (ordL (cycL p n) : Nat) 0) := by
  have hn10 : n ≤ 10 := by rw [← hA.len]; exact (permErr_ok.1 hp).1
  have HP := hid (permErr_ok.1 hp).2
  go_enter Try.func50, Try.ntmps50
  go_wp2_with fail
  refine (check_any A n c p _ hA (by omega)).mono ?_
  rintro e w1 ⟨rfl, hb1⟩
  have hA1 := hA.keep hb1
  have HB1 := hid hb1
  have HL := hid hA.len
  clear hA hb1
  go_wp2_with fail
  refine (cycleLengths_any A n c p _ hA1 HP.out hn10).mono ?_
  rintro e w2 ⟨v, rfl, hown, hb2⟩
  have HB2 := hid (HB1.out.trans (hb2.mono HB1.out.size))
  obtain ⟨A2, c2, rfl, hI, _⟩ := hown.ints
  have hl10 := Nat.le_trans (length_cycL_le p n) hn10
  have HM : Hid (∀ x, x ∈ cycL p n → 1 ≤ x ∧ x ≤ 10) := fun x hx => by
    rw [← HL.out] at hx
    have := mem_cycL HP.out hx
    rw [HL.out] at this
    omega
  have HI := hid hI
  clear hA1 hb2 hown HB1 hI
  generalize hl0 : cycL p n = l at HI HM hl10 ⊢
  have HL0 := hid hl0
  clear hl0
  generalize hm : l.length = m at HI hl10 ⊢
  have HLM := hid hm
  clear hm
  go_wp2_with fail
  go_loopg [5, 16] m (fun g u s wr => ∃ k q : Nat, k ≤ m ∧ m - k ≤ g ∧ s = .int .i64 k ∧ u = .int .i64 (ordL (l.take k) : Nat) ∧ wr = w2.drewN q)
  case atStart => exact ⟨0, 0, Nat.zero_le _, by omega, rfl, rfl, rfl⟩
  case round =>
    obtain ⟨k, q, hk, hg, rfl, rfl, hq⟩ := hrel
    have HQ := hid hq
    clear hq
    have hbd := ordL_take_bound HM.out k (by rw [HLM.out]; exact hk)
    have hpow : 10 ^ k ≤ 10 ^ 10 := Nat.pow_le_pow_right (by omega) (by omega)
    have hob : ordL (l.take k) ≤ 10000000000 := Nat.le_trans hbd.2 hpow
    have ho1 := hbd.1
    clear hbd hpow
    by_cases hlt : k < m
    · obtain ⟨b, o, rfl, hb, hc⟩ := HI.out.row (by omega)
      have g1 : wr.cell? ⟨b, o + k, none⟩ = some (.int .i64 (l.getD k 0)) := by rw [HQ.out]; exact hc k hlt
      have hr := HM.out _ (getD_mem (show k < l.length by rw [HLM.out]; exact hlt))
      have HS : Hid (ordL (l.take (k + 1)) = Nat.lcm (ordL (l.take k)) (l.getD k 0).toNat) := by rw [take_snoc (by rw [HLM.out]; exact hlt), ordL_snoc]; exact rfl
      clear hc
      generalize l.getD k 0 = x at g1 hr HS
      obtain ⟨y, rfl⟩ := Int.eq_ofNat_of_zero_le (show 0 ≤ x by omega)
      rw [Int.toNat_natCast] at HS
      generalize ordL (l.take k) = z at HS hob ho1 ⊢
      go_wp2_with fail
      refine (lcm_any z y _ ho1 (by omega) (by omega) (by omega)).mono ?_
      rintro e w' ⟨rfl, q2, rfl⟩
      go_wp2
      go_roundg (m - (k + 1))
      case measure => omega
      case rel => exact ⟨k + 1, q + q2, by omega, by omega, by go_num, by rw [HS.out], by rw [HQ.out, World.drewN_drewN]⟩
    · have hkm : k = m := by omega
      subst hkm
      have HT : Hid (l.take k = l) := List.take_of_length_le (by rw [HLM.out]; exact Nat.le_refl _)
      rw [HT.out]
      go_wp2
      go_ret2
      exact ⟨by rw [HL0.out]; rfl, by rw [HQ.out]; exact below_drewN HB2.out q⟩

end Go.Proofs.Ytmdpfadfimodjaa

/-
  castkeep.perms: the closed look at three numbers, turned.
-/
namespace Go.Proofs.Ytmdpfadfimodjaa
open Go.RowKit

end Go.Proofs.Ytmdpfadfimodjaa
