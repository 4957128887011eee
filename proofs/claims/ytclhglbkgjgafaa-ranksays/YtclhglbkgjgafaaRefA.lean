/-
  slices.Index, slices.Contains at []int; the verifier's castref.PermErr, castref.After, castref.Crossed.
-/
import Derived.Test.YtclhglbkgjgafaaSgnSwap
namespace Go.Proofs.Ytclhglbkgjgafaa
open Go.RowKit

/-- The place at which it stands, or -1. -/
def IdxIs (xs : List Int) (v : Int) (w : World) (e : Ending) (w' : World) : Prop := ∃ r : Int, e = .returned (.int .i64 r) ∧ decide (0 ≤ r) = decide (v ∈ xs) ∧ w = w'

set_option maxHeartbeats 800000 in
theorem index_any (A : Option Addr) (n c : Nat) (xs : List Int) (v : Int) (w : World) (h : Ints w A n xs) (hn : n ≤ 1000000) :
    Calls Try.prog 43 #[.slice A n c, .int .i64 v] w (IdxIs xs v w) := by
  go_enter Try.func43, Try.ntmps43
  go_wp2
  go_loopg [8] n (fun g s wr => ∃ k : Nat, k ≤ n ∧ n - k ≤ g ∧ s = .int .i64 k ∧ w = wr ∧ ∀ j, j < k → xs.getD j 0 ≠ v)
  case atStart => exact ⟨0, Nat.zero_le _, by omega, rfl, rfl, fun j hj => absurd hj (Nat.not_lt_zero _)⟩
  case round =>
    obtain ⟨k, hk, hg, rfl, rfl, hall⟩ := hrel
    have HA := hid hall
    have HL := hid h.len
    clear hall
    by_cases hlt : k < n
    · obtain ⟨b, o, rfl, hb, hc⟩ := h.row (by omega)
      have g1 := hc k hlt
      have HM := hid (getD_mem (show k < xs.length by rw [HL.out]; exact hlt))
      clear hc h
      generalize hx : xs.getD k 0 = x at g1 HM
      have HX := hid hx
      clear hx
      by_cases hz : v = x
      · have hz' : (v == x) = true := by simpa using hz
        have HZ := hid hz
        clear hz
        go_wp2
        go_ret
        exact ⟨_, rfl, by rw [HZ.out, decide_eq_true HM.out]; simp, rfl⟩
      · have hz' : (v == x) = false := by simpa using hz
        go_wp2
        go_roundg (n - (k + 1))
        case measure => omega
        case rel =>
          refine ⟨k + 1, by omega, by omega, by go_num, rfl, fun j hj => ?_⟩
          by_cases e : j = k
          · subst e
            rw [HX.out]
            exact fun e => hz e.symm
          · exact HA.out j (by omega)
    · go_wp2
      go_ret
      have hv : ¬ v ∈ xs := fun hm => by
        obtain ⟨i, hi, e⟩ := mem_getD hm
        exact HA.out i (by rw [HL.out] at hi; omega) e
      exact ⟨_, rfl, by rw [decide_eq_false hv]; rfl, rfl⟩

set_option maxHeartbeats 400000 in
theorem contains_any (A : Option Addr) (n c : Nat) (xs : List Int) (v : Int) (w : World) (h : Ints w A n xs) (hn : n ≤ 1000000) :
    Calls Try.prog 33 #[.slice A n c, .int .i64 v] w fun e w' => e = .returned (.bool (decide (v ∈ xs))) ∧ w = w' := by
  go_enter Try.func33, Try.ntmps33
  go_wp2_with fail
  refine (index_any A n c xs v _ h hn).mono ?_
  rintro e w' ⟨r, rfl, hr, rfl⟩
  have HR := hid hr
  clear hr
  go_wp2
  go_ret
  exact ⟨by rw [← HR.out]; rfl, rfl⟩

set_option maxHeartbeats 400000 in
theorem refErr_large (A : Option Addr) (n c : Nat) (w : World) (hn : 10 < n) (hm : n ≤ 9223372036854775807) :
    Calls Try.prog 15 #[.slice A n c] w fun e w' => e = .returned (.int .i64 2) ∧ w = w' := by
  go_enter Try.func15, Try.ntmps15
  go_wp2
  go_ret
  exact ⟨rfl, rfl⟩

set_option maxHeartbeats 800000 in
theorem refErr_small (A : Option Addr) (n c : Nat) (xs : List Int) (w : World) (h : Ints w A n xs) (hn : n ≤ 10) :
    Calls Try.prog 15 #[.slice A n c] w fun e w' => e = .returned (.int .i64 (permErr xs)) ∧ w = w' := by
  have h10 : decide (10 < (n : Int)) = false := by simp; omega
  go_enter Try.func15, Try.ntmps15
  go_wp2
  go_loopg [9] n (fun g s wr => ∃ k : Nat, k ≤ n ∧ n - k ≤ g ∧ s = .int .i64 k ∧ w = wr ∧ ∀ j : Nat, j < k → (j : Int) ∈ xs)
  case atStart => exact ⟨0, Nat.zero_le _, by omega, rfl, rfl, fun j hj => absurd hj (Nat.not_lt_zero _)⟩
  case round =>
    obtain ⟨k, hk, hg, rfl, rfl, hall⟩ := hrel
    have HA := hid hall
    have HL := hid h.len
    clear hall
    by_cases hlt : k < n
    · by_cases hm : (k : Int) ∈ xs
      · have hd : decide ((k : Int) ∈ xs) = true := decide_eq_true hm
        have HM := hid hm
        clear hm
        go_wp2_with (go_at_call 33; refine (contains_any A n c xs k _ h (by omega)).mono ?_; rintro e w' ⟨rfl, rfl⟩)
        go_roundg (n - (k + 1))
        case measure => omega
        case rel =>
          refine ⟨k + 1, by omega, by omega, by go_num, rfl, fun j hj => ?_⟩
          by_cases e : j = k
          · subst e
            exact HM.out
          · exact HA.out j (by omega)
      · have hd : decide ((k : Int) ∈ xs) = false := decide_eq_false hm
        have HM := hid hm
        clear hm
        go_wp2_with (go_at_call 33; refine (contains_any A n c xs k _ h (by omega)).mono ?_; rintro e w' ⟨rfl, rfl⟩)
        go_ret
        rw [permErr_bad (by rw [HL.out]; exact hn) (fun hp => HM.out (hp.all k (by rw [HL.out]; exact hlt)))]
        exact ⟨rfl, rfl⟩
    · go_wp2
      go_ret
      rw [permErr_ok.2 ⟨by rw [HL.out]; exact hn, isPerm_of_all (fun i hi => HA.out i (by rw [HL.out] at hi; omega))⟩]
      exact ⟨rfl, rfl⟩

theorem refErr_any (A : Option Addr) (n c : Nat) (xs : List Int) (w : World) (h : Ints w A n xs) (hm : n ≤ 9223372036854775807) :
    Calls Try.prog 15 #[.slice A n c] w fun e w' => e = .returned (.int .i64 (permErr xs)) ∧ w = w' := by
  by_cases hn : 10 < n
  · refine (refErr_large A n c w hn hm).mono ?_
    rintro e w' ⟨rfl, rfl⟩
    have e : permErr xs = 2 := if_pos (by rw [h.len]; exact hn)
    rw [e]
    exact ⟨rfl, rfl⟩
  · exact refErr_small A n c xs w h (by omega)

/-! ### After -/

theorem times_take_snoc {a b : List Int} {k : Nat} (hk : k < b.length) : times a (b.take (k + 1)) = times a (b.take k) ++ [a.getD (b.getD k 0).toNat 0] := by
  rw [take_snoc hk]
  simp [times]

/-! ### Crossed -/

theorem inv_snoc (l : List Int) (x : Int) : inv (l ++ [x]) = inv l + l.countP (fun y => decide (x < y)) := by
  induction l with
  | nil => rfl
  | cons a t ih =>
    simp only [List.cons_append, inv, ih, List.countP_append, List.countP_cons, List.countP_nil]
    omega
/-- The pairs counted after m rounds of the inner loop at place k. -/
def crossUpto (p : List Int) (k m : Nat) : Nat := inv (p.take k) + (p.take m).countP (fun y => decide (p.getD k 0 < y))
theorem crossUpto_yes {p : List Int} {k m : Nat} (h : m < p.length) (hlt : p.getD k 0 < p.getD m 0) : crossUpto p k (m + 1) = crossUpto p k m + 1 := by
  unfold crossUpto
  rw [take_snoc h, List.countP_append]
  simp only [List.countP_cons, List.countP_nil, hlt, decide_true, if_true]
  omega
theorem crossUpto_no {p : List Int} {k m : Nat} (h : m < p.length) (hlt : ¬ p.getD k 0 < p.getD m 0) : crossUpto p k (m + 1) = crossUpto p k m := by
  unfold crossUpto
  rw [take_snoc h, List.countP_append]
  simp only [List.countP_cons, List.countP_nil, hlt, decide_false, Nat.zero_add]
  simp
theorem crossUpto_end {p : List Int} {k : Nat} (h : k < p.length) : crossUpto p k k = inv (p.take (k + 1)) := by
  unfold crossUpto
  rw [take_snoc h, inv_snoc]
theorem crossUpto_le (p : List Int) (k m : Nat) : crossUpto p k m ≤ inv (p.take k) + m := by
  unfold crossUpto
  have h1 := List.countP_le_length (p := fun y => decide (p.getD k 0 < y)) (l := p.take m)
  have h2 : (p.take m).length ≤ m := List.length_take_le _ _
  omega
theorem inv_le (l : List Int) : inv l ≤ l.length * l.length := by
  induction l with
  | nil => simp [inv]
  | cons a t ih =>
    simp only [inv, List.length_cons]
    have h1 := List.countP_le_length (p := fun y => decide (y < a)) (l := t)
    have : (t.length + 1) * (t.length + 1) = t.length * t.length + t.length + t.length + 1 := by rw [Nat.add_mul, Nat.mul_add]; omega
    omega

end Go.Proofs.Ytclhglbkgjgafaa
