/-
  Numbers drawn from bits, as plain lists: how many bits, what number, one draw, a row of draws. Nothing of the program is proved here.
-/
import Derived.Test.YtmdpfadfimodjaaBase
import Derived.Lib.BitFns
namespace Go.Proofs.Ytmdpfadfimodjaa
open Go.RowKit

/-- How many bits one try reads. -/
def wd (n : Nat) : Nat := Lib.bitLen (n - 1)
theorem wd_all : ∀ n : Fin 1025, 1 ≤ n.val → (n.val ≤ 2 ^ wd n.val ∧ (0 < wd n.val → 2 ^ (wd n.val - 1) < n.val) ∧ wd n.val ≤ 10) := by decide +kernel
theorem wd_recF : ∀ n : Fin 1025, 2 ≤ n.val → wd n.val = 1 + wd ((n.val + 1) / 2) := by decide +kernel
theorem wd_one : wd 1 = 0 := by decide +kernel
theorem wd_ge {n : Nat} (h1 : 1 ≤ n) (h2 : n ≤ 1024) : n ≤ 2 ^ wd n := (wd_all ⟨n, by omega⟩ h1).1
theorem wd_least {n : Nat} (h1 : 1 ≤ n) (h2 : n ≤ 1024) (h0 : 0 < wd n) : 2 ^ (wd n - 1) < n := (wd_all ⟨n, by omega⟩ h1).2.1 h0
theorem wd_le {n : Nat} (h1 : 1 ≤ n) (h2 : n ≤ 1024) : wd n ≤ 10 := (wd_all ⟨n, by omega⟩ h1).2.2
theorem wd_rec {n : Nat} (h1 : 2 ≤ n) (h2 : n ≤ 1024) : wd n = 1 + wd ((n + 1) / 2) := wd_recF ⟨n, by omega⟩ h1
theorem wd_pos {n : Nat} (h1 : 2 ≤ n) (h2 : n ≤ 1024) : 0 < wd n := by rw [wd_rec h1 h2]; omega

/-- Bytes that are bits. -/
def Bin (xs : List Nat) : Prop := ∀ x ∈ xs, x ≤ 1
theorem Bin.take {xs : List Nat} (h : Bin xs) (k : Nat) : Bin (xs.take k) := fun x hx => h x (List.mem_of_mem_take hx)
theorem Bin.drop {xs : List Nat} (h : Bin xs) (k : Nat) : Bin (xs.drop k) := fun x hx => h x (List.mem_of_mem_drop hx)
theorem Bin.append {xs ys : List Nat} (h : Bin xs) (k : Bin ys) : Bin (xs ++ ys) := fun x hx => by
  rcases List.mem_append.1 hx with h1 | h1
  · exact h x h1
  · exact k x h1
/-- The error of a tape. -/
def tapeErr (xs : List Nat) : Int := if 200 < xs.length then 2 else if xs.all (fun x => decide (x ≤ 1)) = false then 3 else 0
theorem tapeErr_large {xs : List Nat} (h : 200 < xs.length) : tapeErr xs = 2 := if_pos h
theorem tapeErr_form {xs : List Nat} (h : ¬ 200 < xs.length) {x : Nat} (hx : x ∈ xs) (h1 : 1 < x) : tapeErr xs = 3 := by
  rw [tapeErr, if_neg h, if_pos]
  exact List.all_eq_false.2 ⟨x, hx, by simp; omega⟩
theorem tapeErr_ok {xs : List Nat} (h : ¬ 200 < xs.length) (hb : Bin xs) : tapeErr xs = 0 := by
  rw [tapeErr, if_neg h, if_neg]
  rw [List.all_eq_true.2 fun x hx => decide_eq_true (hb x hx)]
  decide
theorem tapeErr_zero {xs : List Nat} (h : tapeErr xs = 0) : xs.length ≤ 200 ∧ Bin xs := by
  unfold tapeErr at h
  split at h
  · cases h
  · split at h
    · cases h
    · rename_i h1 h2
      refine ⟨by omega, fun x hx => ?_⟩
      rcases Nat.lt_or_ge 1 x with h3 | h3
      · exact absurd (List.all_eq_false.2 ⟨x, hx, by simp; omega⟩) h2
      · exact h3
theorem tapeErr_drop {xs : List Nat} (h : tapeErr xs = 0) (k : Nat) : tapeErr (xs.drop k) = 0 := by
  have h1 := tapeErr_zero h
  exact tapeErr_ok (by rw [List.length_drop]; omega) (h1.2.drop k)
theorem tapeErr_take {xs : List Nat} (h : tapeErr xs = 0) (k : Nat) : tapeErr (xs.take k) = 0 := by
  have h1 := tapeErr_zero h
  exact tapeErr_ok (by rw [List.length_take]; omega) (h1.2.take k)

/-- The number that bits write, the greatest first, behind a. -/
def bvl (a : Nat) (xs : List Nat) : Nat := xs.foldl (fun a b => 2 * a + b) a
theorem bvl_nil (a : Nat) : bvl a [] = a := rfl
theorem bvl_snoc (a b : Nat) (xs : List Nat) : bvl a (xs ++ [b]) = 2 * bvl a xs + b := by simp [bvl, List.foldl_append]
theorem bvl_lt {xs : List Nat} : ∀ (a : Nat), Bin xs → bvl a xs < (a + 1) * 2 ^ xs.length := by
  induction xs with
  | nil => intro a _; simp [bvl]
  | cons x xs ih =>
    intro a h
    have h1 := ih (2 * a + x) (fun y hy => h y (List.mem_cons_of_mem _ hy))
    have h2 := h x (List.mem_cons_self ..)
    show bvl (2 * a + x) xs < _
    refine Nat.lt_of_lt_of_le h1 ?_
    rw [List.length_cons, Nat.pow_succ, Nat.mul_comm (2 ^ xs.length) 2, ← Nat.mul_assoc]
    exact Nat.mul_le_mul_right _ (by omega)
theorem bvl_lt0 {xs : List Nat} (h : Bin xs) : bvl 0 xs < 2 ^ xs.length := by
  have := bvl_lt 0 h
  omega
theorem getD_memT {xs : List Nat} {j : Nat} (h : j < xs.length) : xs.getD j 0 ∈ xs := by
  rw [List.getD_eq_getElem?_getD, List.getElem?_eq_getElem h]
  exact List.getElem_mem h
theorem take_snocT {xs : List Nat} {k : Nat} (hk : k < xs.length) : xs.take (k + 1) = xs.take k ++ [xs.getD k 0] := by
  rw [List.take_succ_eq_append_getElem hk, List.getD_eq_getElem?_getD, List.getElem?_eq_getElem hk]
  rfl
theorem bvl_step {xs : List Nat} {k : Nat} (hk : k < xs.length) : bvl 0 (xs.take (k + 1)) = 2 * bvl 0 (xs.take k) + xs.getD k 0 := by rw [take_snocT hk, bvl_snoc]
theorem bvl_take_le {xs : List Nat} (h : Bin xs) {k : Nat} (hk : k ≤ 10) : bvl 0 (xs.take k) < 1024 := by
  have h1 := bvl_lt0 (h.take k)
  have h2 : 2 ^ (xs.take k).length ≤ 2 ^ 10 := Nat.pow_le_pow_right (by omega) (by rw [List.length_take]; omega)
  omega

/-- One draw below n: the number, and how many bits. -/
def drw (n : Nat) (xs : List Nat) : Option (Nat × Nat) :=
  if xs.length < wd n then none
  else if bvl 0 (xs.take (wd n)) < n then some (bvl 0 (xs.take (wd n)), wd n)
  else if _h : 0 < wd n ∧ wd n ≤ xs.length then (drw n (xs.drop (wd n))).map (fun p => (p.1, p.2 + wd n))
  else none
  termination_by xs.length
  decreasing_by rw [List.length_drop]; omega
theorem drw_short {n : Nat} {xs : List Nat} (h : xs.length < wd n) : drw n xs = none := by rw [drw, if_pos h]
theorem drw_hit {n : Nat} {xs : List Nat} (h : wd n ≤ xs.length) (h2 : bvl 0 (xs.take (wd n)) < n) : drw n xs = some (bvl 0 (xs.take (wd n)), wd n) := by rw [drw, if_neg (by omega), if_pos h2]
theorem drw_miss {n : Nat} {xs : List Nat} (h : wd n ≤ xs.length) (h2 : ¬ bvl 0 (xs.take (wd n)) < n) (h0 : 0 < wd n) : drw n xs = (drw n (xs.drop (wd n))).map (fun p => (p.1, p.2 + wd n)) := by
  rw [drw, if_neg (by omega), if_neg h2, dif_pos ⟨h0, h⟩]
theorem miss_pos {n : Nat} {xs : List Nat} (h1 : 1 ≤ n) (h : ¬ bvl 0 (xs.take (wd n)) < n) : 0 < wd n := by
  rcases Nat.eq_zero_or_pos (wd n) with h0 | h0
  · rw [h0, List.take_zero] at h
    exact absurd (show bvl 0 [] < n by rw [bvl_nil]; omega) h
  · exact h0

/-- What a draw that came out tells. -/
theorem drw_bd {n : Nat} (h1 : 1 ≤ n) : ∀ (m : Nat) (xs : List Nat) (x u : Nat), xs.length ≤ m → drw n xs = some (x, u) → x < n ∧ wd n ≤ u ∧ u ≤ xs.length := by
  intro m
  induction m with
  | zero =>
    intro xs x u hm h
    have hx : xs = [] := List.eq_nil_of_length_eq_zero (by omega)
    subst hx
    by_cases hs : ([] : List Nat).length < wd n
    · rw [drw_short hs] at h; cases h
    · by_cases hb : bvl 0 (([] : List Nat).take (wd n)) < n
      · rw [drw_hit (by omega) hb] at h
        injection h with h
        injection h with h2 h3
        subst h2 h3
        exact ⟨hb, Nat.le_refl _, by omega⟩
      · have := miss_pos h1 hb
        simp at hs
        omega
  | succ m ih =>
    intro xs x u hm h
    by_cases hs : xs.length < wd n
    · rw [drw_short hs] at h; cases h
    · by_cases hb : bvl 0 (xs.take (wd n)) < n
      · rw [drw_hit (by omega) hb] at h
        injection h with h
        injection h with h2 h3
        subst h2 h3
        exact ⟨hb, Nat.le_refl _, by omega⟩
      · have h0 := miss_pos h1 hb
        rw [drw_miss (by omega) hb h0] at h
        cases hd : drw n (xs.drop (wd n)) with
        | none => rw [hd] at h; cases h
        | some p =>
          rw [hd] at h
          obtain ⟨y, v⟩ := p
          simp only [Option.map_some, Option.some.injEq, Prod.mk.injEq] at h
          obtain ⟨rfl, rfl⟩ := h
          have := ih _ _ _ (by rw [List.length_drop]; omega) hd
          rw [List.length_drop] at this
          omega
theorem drw_lt {n : Nat} (h1 : 1 ≤ n) {xs : List Nat} {x u : Nat} (h : drw n xs = some (x, u)) : x < n ∧ wd n ≤ u ∧ u ≤ xs.length := drw_bd h1 _ xs x u (Nat.le_refl _) h

/-- What is behind makes no difference. -/
theorem drw_behind {n : Nat} (h1 : 1 ≤ n) (ys : List Nat) : ∀ (m : Nat) (xs : List Nat) (x u : Nat), xs.length ≤ m → drw n xs = some (x, u) → drw n (xs.take u ++ ys) = some (x, u) := by
  intro m
  induction m with
  | zero =>
    intro xs x u hm h
    have hx : xs = [] := List.eq_nil_of_length_eq_zero (by omega)
    subst hx
    have h2 := drw_lt h1 h
    have hw : wd n = 0 := by have := h2.2.2; simp at this; omega
    have hu : u = 0 := by have := h2.2.2; simpa using this
    subst hu
    have hz : bvl 0 (([] : List Nat).take (wd n)) < n := by rw [hw]; show 0 < n; omega
    rw [drw_hit (by omega) hz] at h
    injection h with h
    injection h with h3 h4
    subst h3
    rw [drw_hit (by omega) (by rw [hw]; show 0 < n; omega), hw]
    rfl
  | succ m ih =>
    intro xs x u hm h
    by_cases hs : xs.length < wd n
    · rw [drw_short hs] at h; cases h
    · have hl := drw_lt h1 h
      have hwl : wd n ≤ (xs.take u ++ ys).length := by rw [List.length_append, List.length_take]; omega
      have ht : (xs.take u ++ ys).take (wd n) = xs.take (wd n) := by
        rw [List.take_append_of_le_length (by rw [List.length_take]; omega), List.take_take, Nat.min_eq_left hl.2.1]
      by_cases hb : bvl 0 (xs.take (wd n)) < n
      · rw [drw_hit (by omega) hb] at h
        injection h with h
        injection h with h2 h3
        rw [drw_hit hwl (by rw [ht]; exact hb), ht, h2, h3]
      · have h0 := miss_pos h1 hb
        rw [drw_miss (by omega) hb h0] at h
        cases hd : drw n (xs.drop (wd n)) with
        | none => rw [hd] at h; cases h
        | some p =>
          rw [hd] at h
          obtain ⟨y, v⟩ := p
          simp only [Option.map_some, Option.some.injEq, Prod.mk.injEq] at h
          obtain ⟨rfl, rfl⟩ := h
          have h3 := ih _ _ _ (by rw [List.length_drop]; omega) hd
          have e : (xs.take (v + wd n) ++ ys).drop (wd n) = (xs.drop (wd n)).take v ++ ys := by
            rw [List.drop_append_of_le_length (by rw [List.length_take]; omega), List.drop_take, Nat.add_sub_cancel]
          rw [drw_miss hwl (by rw [ht]; exact hb) h0, e, h3]
          rfl
theorem drw_on {n : Nat} (h1 : 1 ≤ n) {xs : List Nat} {x u : Nat} (h : drw n xs = some (x, u)) (ys : List Nat) : drw n (xs.take u ++ ys) = some (x, u) := drw_behind h1 ys _ xs x u (Nat.le_refl _) h

/-- With fewer bits it is too short. -/
theorem drw_less {n : Nat} (h1 : 1 ≤ n) : ∀ (m : Nat) (xs : List Nat) (x u : Nat), xs.length ≤ m → drw n xs = some (x, u) → 0 < u → drw n (xs.take (u - 1)) = none := by
  intro m
  induction m with
  | zero =>
    intro xs x u hm h hu
    have := drw_lt h1 h
    omega
  | succ m ih =>
    intro xs x u hm h hu
    by_cases hs : xs.length < wd n
    · rw [drw_short hs] at h; cases h
    · have hl := drw_lt h1 h
      by_cases hb : bvl 0 (xs.take (wd n)) < n
      · rw [drw_hit (by omega) hb] at h
        injection h with h
        injection h with h2 h3
        exact drw_short (by rw [List.length_take]; omega)
      · have h0 := miss_pos h1 hb
        rw [drw_miss (by omega) hb h0] at h
        cases hd : drw n (xs.drop (wd n)) with
        | none => rw [hd] at h; cases h
        | some p =>
          rw [hd] at h
          obtain ⟨y, v⟩ := p
          simp only [Option.map_some, Option.some.injEq, Prod.mk.injEq] at h
          obtain ⟨rfl, rfl⟩ := h
          have h4 := drw_lt h1 hd
          have h3 := ih _ _ _ (by rw [List.length_drop]; omega) hd (by omega)
          have ht : (xs.take (v + wd n - 1)).take (wd n) = xs.take (wd n) := by rw [List.take_take, Nat.min_eq_left (by omega)]
          have hwl : wd n ≤ (xs.take (v + wd n - 1)).length := by rw [List.length_take]; omega
          have e : (xs.take (v + wd n - 1)).drop (wd n) = (xs.drop (wd n)).take (v - 1) := by
            rw [List.drop_take, show v + wd n - 1 - wd n = v - 1 by omega]
          rw [drw_miss hwl (by rw [ht]; exact hb) h0, e, h3]
          rfl
theorem drw_cut {n : Nat} (h1 : 1 ≤ n) {xs : List Nat} {x u : Nat} (h : drw n xs = some (x, u)) (hu : 0 < u) : drw n (xs.take (u - 1)) = none := drw_less h1 _ xs x u (Nat.le_refl _) h hu
/-- As many bits as one try takes. -/
theorem drw_one {n : Nat} (h1 : 1 ≤ n) {xs : List Nat} (hl : xs.length = wd n) : drw n xs = if bvl 0 xs < n then some (bvl 0 xs, wd n) else none := by
  have ht : xs.take (wd n) = xs := List.take_of_length_le (by omega)
  by_cases hb : bvl 0 xs < n
  · rw [drw_hit (by omega) (by rw [ht]; exact hb), ht, if_pos hb]
  · have h0 := miss_pos h1 (xs := xs) (by rw [ht]; exact hb)
    rw [drw_miss (by omega) (by rw [ht]; exact hb) h0, if_neg hb, drw_short (by rw [List.length_drop]; omega)]
    rfl

/-- One draw of a right tape, with its error. -/
def drx (n : Int) (xs : List Nat) : Nat × Nat × Int := if n < 1 ∨ 1024 < n then (0, 0, 1) else match drw n.toNat xs with
  | none => (0, 0, 6)
  | some p => (p.1, p.2, 0)
theorem drx_arg {n : Int} (xs : List Nat) (h : n < 1 ∨ 1024 < n) : drx n xs = (0, 0, 1) := if_pos h
theorem drx_none {n : Nat} {xs : List Nat} (h1 : 1 ≤ n) (h2 : n ≤ 1024) (h : drw n xs = none) : drx n xs = (0, 0, 6) := by
  rw [drx, if_neg (by omega), Int.toNat_natCast, h]
theorem drx_some {n : Nat} {xs : List Nat} {x u : Nat} (h1 : 1 ≤ n) (h2 : n ≤ 1024) (h : drw n xs = some (x, u)) : drx n xs = (x, u, 0) := by
  rw [drx, if_neg (by omega), Int.toNat_natCast, h]
/-- Refused, or drawn. -/
theorem drx_cases (n : Int) (xs : List Nat) : (∃ e, drx n xs = (0, 0, e) ∧ e ≠ 0 ∧ (e = 1 ∨ e = 6)) ∨ ∃ (m x u : Nat), n = m ∧ 1 ≤ m ∧ m ≤ 1024 ∧ drw m xs = some (x, u) ∧ drx n xs = (x, u, 0) ∧ x < m ∧ wd m ≤ u ∧ u ≤ xs.length := by
  by_cases h : n < 1 ∨ 1024 < n
  · exact .inl ⟨1, drx_arg xs h, by decide, .inl rfl⟩
  · obtain ⟨m, rfl⟩ := Int.eq_ofNat_of_zero_le (show 0 ≤ n by omega)
    cases hd : drw m xs with
    | none => exact .inl ⟨6, drx_none (by omega) (by omega) hd, by decide, .inr rfl⟩
    | some p =>
      obtain ⟨x, u⟩ := p
      exact .inr ⟨m, x, u, rfl, by omega, by omega, hd, drx_some (by omega) (by omega) hd, drw_lt (by omega) hd⟩

/-- Draws, one behind another. -/
def rowx : List Int → List Nat → List Int × Nat × Int
  | [], _ => ([], 0, 0)
  | n :: ms, xs => if (drx n xs).2.2 ≠ 0 then ([], 0, (drx n xs).2.2)
    else if (rowx ms (xs.drop (drx n xs).2.1)).2.2 ≠ 0 then ([], 0, (rowx ms (xs.drop (drx n xs).2.1)).2.2)
    else (((drx n xs).1 : Int) :: (rowx ms (xs.drop (drx n xs).2.1)).1, (drx n xs).2.1 + (rowx ms (xs.drop (drx n xs).2.1)).2.1, 0)
theorem rowx_nil (xs : List Nat) : rowx [] xs = ([], 0, 0) := rfl
theorem rowx_bad {n : Int} {ms : List Int} {xs : List Nat} {e : Int} (h : drx n xs = (0, 0, e)) (he : e ≠ 0) : rowx (n :: ms) xs = ([], 0, e) := by
  rw [rowx, h, if_pos he]
theorem rowx_fail {n : Int} {ms : List Int} {xs : List Nat} {x u : Nat} {r : List Int} {v : Nat} {e : Int} (h : drx n xs = (x, u, 0)) (h2 : rowx ms (xs.drop u) = (r, v, e)) (he : e ≠ 0) : rowx (n :: ms) xs = ([], 0, e) := by
  rw [rowx, h, if_neg (by simp), h2, if_pos he]
theorem rowx_good {n : Int} {ms : List Int} {xs : List Nat} {x u : Nat} {r : List Int} {v : Nat} (h : drx n xs = (x, u, 0)) (h2 : rowx ms (xs.drop u) = (r, v, 0)) : rowx (n :: ms) xs = ((x : Int) :: r, u + v, 0) := by
  rw [rowx, h, if_neg (by simp), h2, if_neg (by simp)]
/-- Refused, or as many numbers as were asked for. -/
theorem rowx_cases : ∀ (ms : List Int) (xs : List Nat), (∃ e, rowx ms xs = ([], 0, e) ∧ e ≠ 0 ∧ (e = 1 ∨ e = 6)) ∨ ∃ r u, rowx ms xs = (r, u, 0) ∧ r.length = ms.length ∧ u ≤ xs.length ∧ ∀ y ∈ r, 0 ≤ y ∧ y < 1024
  | [], xs => .inr ⟨[], 0, rfl, rfl, Nat.zero_le _, fun _ h => (List.not_mem_nil h).elim⟩
  | n :: ms, xs => by
    rcases drx_cases n xs with ⟨e, h, he, hc⟩ | ⟨m, x, u, rfl, h1, h2, hd, hx, hb, hw, hu⟩
    · exact .inl ⟨e, rowx_bad h he, he, hc⟩
    · rcases rowx_cases ms (xs.drop u) with ⟨e, h, he, hc⟩ | ⟨r, v, h, hl, hv, hr⟩
      · exact .inl ⟨e, rowx_fail hx h he, he, hc⟩
      · refine .inr ⟨_, _, rowx_good hx h, by simp [hl], by rw [List.length_drop] at hv; omega, fun y hy => ?_⟩
        rcases List.mem_cons.1 hy with rfl | hy
        · omega
        · exact hr y hy
theorem rowx_append_bad : ∀ (a b : List Int) (xs : List Nat) (e : Int), rowx a xs = ([], 0, e) → e ≠ 0 → rowx (a ++ b) xs = ([], 0, e)
  | [], b, xs, e, h, he => by
    rw [rowx_nil] at h
    injection h with _ h
    injection h with _ h
    exact absurd h.symm he
  | n :: ms, b, xs, e, h, he => by
    rcases drx_cases n xs with ⟨e', h2, he', _⟩ | ⟨m, x, u, rfl, h1, h2, hd, hx, _⟩
    · rw [rowx_bad h2 he'] at h
      rw [List.cons_append, rowx_bad h2 he', h]
    · rcases rowx_cases ms (xs.drop u) with ⟨e', h3, he', _⟩ | ⟨r, v, h3, _⟩
      · rw [rowx_fail hx h3 he'] at h
        injection h with _ h
        injection h with _ h
        subst h
        rw [List.cons_append, rowx_fail hx (rowx_append_bad ms b _ _ h3 he') he']
      · rw [rowx_good hx h3] at h
        injection h with h _
        cases h
theorem rowx_append : ∀ (a b : List Int) (xs : List Nat) (r : List Int) (u : Nat), rowx a xs = (r, u, 0) → rowx (a ++ b) xs = if (rowx b (xs.drop u)).2.2 ≠ 0 then ([], 0, (rowx b (xs.drop u)).2.2) else (r ++ (rowx b (xs.drop u)).1, u + (rowx b (xs.drop u)).2.1, 0)
  | [], b, xs, r, u, h => by
    rw [rowx_nil] at h
    injection h with h1 h
    injection h with h2 h
    subst h1 h2
    rw [List.nil_append, List.drop_zero]
    rcases rowx_cases b xs with ⟨e, h3, he, _⟩ | ⟨r, v, h3, _⟩
    · rw [h3, if_pos he]
    · rw [h3, if_neg (by simp), List.nil_append, Nat.zero_add]
  | n :: ms, b, xs, r, u, h => by
    rcases drx_cases n xs with ⟨e', h2, he', _⟩ | ⟨m, x, u1, rfl, h1, h2, hd, hx, _⟩
    · rw [rowx_bad h2 he'] at h
      injection h with _ h
      injection h with _ h
      exact absurd h he'
    · rcases rowx_cases ms (xs.drop u1) with ⟨e', h3, he', _⟩ | ⟨r1, v, h3, _⟩
      · rw [rowx_fail hx h3 he'] at h
        injection h with _ h
        injection h with _ h
        exact absurd h he'
      · rw [rowx_good hx h3] at h
        injection h with hr h
        injection h with hu _
        subst hr hu
        have ih := rowx_append ms b _ _ _ h3
        rw [List.drop_drop] at ih
        rcases rowx_cases b (xs.drop (u1 + v)) with ⟨e, h4, he, _⟩ | ⟨r2, v2, h4, _⟩
        · rw [h4, if_pos he] at ih ⊢
          rw [List.cons_append, rowx_fail hx ih he]
        · rw [h4, if_neg (by simp)] at ih ⊢
          rw [List.cons_append, rowx_good hx ih, List.cons_append, Nat.add_assoc]
/-- One more. -/
theorem rowx_snoc {ms : List Int} {xs : List Nat} {k : Nat} (hk : k < ms.length) {r : List Int} {u x v : Nat} (h : rowx (ms.take k) xs = (r, u, 0)) (hd : drx (ms.getD k 0) (xs.drop u) = (x, v, 0)) : rowx (ms.take (k + 1)) xs = (r ++ [(x : Int)], u + v, 0) := by
  have e : ms.take (k + 1) = ms.take k ++ [ms.getD k 0] := by
    rw [List.take_succ_eq_append_getElem hk, List.getD_eq_getElem?_getD, List.getElem?_eq_getElem hk]
    rfl
  have h1 : rowx [ms.getD k 0] (xs.drop u) = ([(x : Int)], v, 0) := rowx_good hd (rowx_nil _)
  rw [e, rowx_append _ _ _ _ _ h, h1, if_neg (by simp)]
theorem rowx_stop {ms : List Int} {xs : List Nat} {k : Nat} (hk : k < ms.length) {r : List Int} {u : Nat} {e : Int} (h : rowx (ms.take k) xs = (r, u, 0)) (hd : drx (ms.getD k 0) (xs.drop u) = (0, 0, e)) (he : e ≠ 0) : rowx ms xs = ([], 0, e) := by
  have e1 : ms = ms.take k ++ (ms.getD k 0 :: ms.drop (k + 1)) := by
    rw [List.getD_eq_getElem?_getD, List.getElem?_eq_getElem hk]
    simp
  have h1 : rowx (ms.getD k 0 :: ms.drop (k + 1)) (xs.drop u) = ([], 0, e) := rowx_bad hd he
  have h2 := rowx_append _ (ms.getD k 0 :: ms.drop (k + 1)) _ _ _ h
  rw [h1, if_pos he] at h2
  rw [e1]
  exact h2
/-- What Draw and Row answer, whatever comes in. -/
def drawX (n : Int) (xs : List Nat) : Nat × Nat × Int := if tapeErr xs ≠ 0 then (0, 0, tapeErr xs) else drx n xs
def rowX (ms : List Int) (xs : List Nat) : List Int × Nat × Int := if tapeErr xs ≠ 0 then ([], 0, tapeErr xs) else if 30 < ms.length then ([], 0, 2) else rowx ms xs
theorem drawX_bad {n : Int} {xs : List Nat} (h : tapeErr xs ≠ 0) : drawX n xs = (0, 0, tapeErr xs) := if_pos h
theorem drawX_ok {n : Int} {xs : List Nat} (h : tapeErr xs = 0) : drawX n xs = drx n xs := if_neg (by simp [h])
theorem rowX_bad {ms : List Int} {xs : List Nat} (h : tapeErr xs ≠ 0) : rowX ms xs = ([], 0, tapeErr xs) := if_pos h
theorem rowX_large {ms : List Int} {xs : List Nat} (h : tapeErr xs = 0) (h2 : 30 < ms.length) : rowX ms xs = ([], 0, 2) := by rw [rowX, if_neg (by simp [h]), if_pos h2]
theorem rowX_ok {ms : List Int} {xs : List Nat} (h : tapeErr xs = 0) (h2 : ¬ 30 < ms.length) : rowX ms xs = rowx ms xs := by rw [rowX, if_neg (by simp [h]), if_neg h2]
end Go.Proofs.Ytmdpfadfimodjaa
