/-
  cmp.Compare, slices.Compare at ints.
-/
import Derived.Test.YtbcjfiobggggjaaSmall
namespace Go.Proofs.Ytbcjfiobggggjaa
open Go.RowKit

def cmpI (a b : Int) : Int := if a < b then -1 else if b < a then 1 else 0
theorem cmpI_bd (a b : Int) : -1 ≤ cmpI a b ∧ cmpI a b ≤ 1 := by unfold cmpI; split <;> (try split) <;> omega
theorem cmpI_neg {a b : Int} : decide (cmpI a b < 0) = decide (a < b) := by
  unfold cmpI
  by_cases h : a < b
  · simp [h]
  · by_cases h2 : b < a <;> simp [h, h2]

set_option maxHeartbeats 400000 in
theorem compare_any (a b : Int) (w : World) : Calls Try.prog 59 #[.int .i64 a, .int .i64 b] w fun e w' => e = .returned (.int .i64 (cmpI a b)) ∧ w = w' := by
  by_cases h : a < b
  · have e : cmpI a b = -1 := if_pos h
    have HE := hid e
    clear e
    go_enter Try.func59, Try.ntmps59
    go_wp2_with (go_at_call 80; refine (isNaN_any _ _).mono ?_; rintro e w' ⟨rfl, rfl⟩)
    go_ret
    exact ⟨by rw [HE.out]; rfl, rfl⟩
  · by_cases h2 : b < a
    · have e : cmpI a b = 1 := by unfold cmpI; rw [if_neg h, if_pos h2]
      have HE := hid e
      clear e
      go_enter Try.func59, Try.ntmps59
      go_wp2_with (go_at_call 80; refine (isNaN_any _ _).mono ?_; rintro e w' ⟨rfl, rfl⟩)
      go_ret
      exact ⟨by rw [HE.out]; rfl, rfl⟩
    · have e : cmpI a b = 0 := by unfold cmpI; rw [if_neg h, if_neg h2]
      have HE := hid e
      clear e
      go_enter Try.func59, Try.ntmps59
      go_wp2_with (go_at_call 80; refine (isNaN_any _ _).mono ?_; rintro e w' ⟨rfl, rfl⟩)
      go_ret
      exact ⟨by rw [HE.out]; rfl, rfl⟩

def cmpL : List Int → List Int → Int
  | [], [] => 0
  | [], _ :: _ => -1
  | _ :: _, [] => 1
  | x :: l, y :: m => if x < y then -1 else if y < x then 1 else cmpL l m

theorem cmpL_step {xs ys : List Int} {k : Nat} (h1 : k < xs.length) (h2 : k < ys.length) : cmpL (xs.drop k) (ys.drop k) = if cmpI (xs.getD k 0) (ys.getD k 0) = 0 then cmpL (xs.drop (k + 1)) (ys.drop (k + 1)) else cmpI (xs.getD k 0) (ys.getD k 0) := by
  have e1 : xs.getD k 0 = xs[k] := by rw [List.getD_eq_getElem?_getD, List.getElem?_eq_getElem h1]; rfl
  have e2 : ys.getD k 0 = ys[k] := by rw [List.getD_eq_getElem?_getD, List.getElem?_eq_getElem h2]; rfl
  rw [List.drop_eq_getElem_cons h1, List.drop_eq_getElem_cons h2, e1, e2]
  simp only [cmpL, cmpI]
  split
  · rfl
  · split <;> rfl

set_option maxHeartbeats 800000 in
theorem compareL_any (A1 : Option Addr) (n c : Nat) (A2 : Option Addr) (d : Nat) (xs ys : List Int) (w : World) (h1 : Ints w A1 n xs) (h2 : Ints w A2 n ys) (hn : n ≤ 1000000) :
    Calls Try.prog 29 #[.slice A1 n c, .slice A2 n d] w fun e w' => e = .returned (.int .i64 (cmpL xs ys)) ∧ w = w' := by
  have HL1 := hid h1.len
  have HL2 := hid h2.len
  go_enter Try.func29, Try.ntmps29
  go_wp2
  go_loopg [11] n (fun g s wr => ∃ k : Nat, k ≤ n ∧ n - k ≤ g ∧ s = .int .i64 k ∧ w = wr ∧ cmpL (xs.drop k) (ys.drop k) = cmpL xs ys)
  case atStart => exact ⟨0, Nat.zero_le _, by omega, rfl, rfl, rfl⟩
  case round =>
    obtain ⟨k, hk, hg, rfl, rfl, heq⟩ := hrel
    have HE := hid heq
    clear heq
    by_cases hlt : k < n
    · obtain ⟨b1, o1, rfl, _, hc1⟩ := h1.row (by omega)
      obtain ⟨b2, o2, rfl, _, hc2⟩ := h2.row (by omega)
      have g1 := hc1 k hlt
      have g2 := hc2 k hlt
      have HS := hid (cmpL_step (xs := xs) (ys := ys) (k := k) (by rw [HL1.out]; exact hlt) (by rw [HL2.out]; exact hlt))
      clear hc1 hc2 h1 h2
      generalize xs.getD k 0 = x at g1 HS
      generalize ys.getD k 0 = y at g2 HS
      by_cases h0 : cmpI x y = 0
      · have HS2 : Hid (cmpL (xs.drop (k + 1)) (ys.drop (k + 1)) = cmpL xs ys) := by rw [← HE.out, HS.out, if_pos h0]; exact rfl
        go_wp2_with (go_at_call 59; refine (compare_any x y _).mono ?_; rintro e w' ⟨rfl, rfl⟩)
        go_roundg (n - (k + 1))
        case measure => omega
        case rel => exact ⟨k + 1, by omega, by omega, by go_num, rfl, HS2.out⟩
      · have HS2 : Hid (cmpI x y = cmpL xs ys) := by rw [← HE.out, HS.out, if_neg h0]; exact rfl
        have h0' : (cmpI x y != 0) = true := by simpa using h0
        clear h0
        generalize hz : cmpI x y = z at *
        have HZ := hid hz
        clear hz
        go_wp2_with (go_at_call 59; refine (compare_any x y _).mono ?_; rw [HZ.out]; rintro e w' ⟨rfl, rfl⟩)
        go_ret
        exact ⟨ret_int HS2.out, rfl⟩
    · have hkn : k = n := by omega
      subst hkn
      have HS2 : Hid ((0 : Int) = cmpL xs ys) := by rw [← HE.out, List.drop_of_length_le (by rw [HL1.out]; exact Nat.le_refl _), List.drop_of_length_le (by rw [HL2.out]; exact Nat.le_refl _)]; exact rfl
      go_wp2
      go_ret
      exact ⟨ret_int HS2.out, rfl⟩

end Go.Proofs.Ytbcjfiobggggjaa
