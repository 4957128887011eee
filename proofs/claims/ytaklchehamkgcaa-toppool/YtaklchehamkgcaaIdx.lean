/-
  slices.Index, slices.Contains at []int.
-/
import Derived.Test.YtaklchehamkgcaaRst
import Derived.Test.YtaklchehamkgcaaPlain
namespace Go.Proofs.Ytaklchehamkgcaa
open Go.RowKit

/-- It stands first at r. -/
def FirstAt (xs : List Int) (v : Int) (r : Nat) : Prop := r < xs.length ∧ xs.getD r 0 = v ∧ ∀ j, j < r → xs.getD j 0 ≠ v
/-- The place at which it stands first, or -1. -/
def IdxIs (xs : List Int) (v : Int) (w : World) (e : Ending) (w' : World) : Prop := ∃ r : Int, e = .returned (.int .i64 r) ∧ decide (0 ≤ r) = decide (v ∈ xs) ∧ w = w' ∧ (v ∈ xs → ∃ k : Nat, r = k ∧ FirstAt xs v k)

set_option maxHeartbeats 800000 in
theorem index_any (A : Option Addr) (n c : Nat) (xs : List Int) (v : Int) (w : World) (h : Ints w A n xs) (hn : n ≤ 1000000) :
    Calls Try.prog 38 #[.slice A n c, .int .i64 v] w (IdxIs xs v w) := by
  go_enter Try.func38, Try.ntmps38
  go_wp2
  go_loopg [8] n (fun g s wr => ∃ k : Nat, k ≤ n ∧ n - k ≤ g ∧ s = .int .i64 k ∧ w = wr ∧ ∀ j, j < k → xs.getD j 0 ≠ v)
  case atStart => exact ⟨0, Nat.zero_le _, by omega, rfl, rfl, fun j hj => absurd hj (Nat.not_lt_zero _)⟩
  case round =>
    obtain ⟨k, hk, hg, rfl, rfl, hall⟩ := hrel
    have HA := hid hall
    have HL := hid h.len
    clear hall
    by_cases hlt : k < n
    · obtain ⟨b, o, rfl, hb, hc⟩ := h.row (by omega)
      have g1 := hc k hlt
      have HM := hid (getD_mem (show k < xs.length by rw [HL.out]; exact hlt))
      clear hc h
      generalize hx : xs.getD k 0 = x at g1 HM
      have HX := hid hx
      clear hx
      by_cases hz : v = x
      · have hz' : (v == x) = true := by simpa using hz
        have HZ := hid hz
        clear hz
        go_wp2
        go_ret
        exact ⟨_, rfl, by rw [HZ.out, decide_eq_true HM.out]; simp, rfl, fun _ => ⟨k, rfl, by rw [HL.out]; exact hlt, by rw [HX.out, HZ.out], HA.out⟩⟩
      · have hz' : (v == x) = false := by simpa using hz
        go_wp2
        go_roundg (n - (k + 1))
        case measure => omega
        case rel =>
          refine ⟨k + 1, by omega, by omega, by go_num, rfl, fun j hj => ?_⟩
          by_cases e : j = k
          · subst e
            rw [HX.out]
            exact fun e => hz e.symm
          · exact HA.out j (by omega)
    · go_wp2
      go_ret
      have hv : ¬ v ∈ xs := fun hm => by
        obtain ⟨i, hi, e⟩ := mem_getD hm
        exact HA.out i (by rw [HL.out] at hi; omega) e
      exact ⟨_, rfl, by rw [decide_eq_false hv]; rfl, rfl, fun h => absurd h hv⟩

set_option maxHeartbeats 400000 in
theorem contains_any (A : Option Addr) (n c : Nat) (xs : List Int) (v : Int) (w : World) (h : Ints w A n xs) (hn : n ≤ 1000000) :
    Calls Try.prog 27 #[.slice A n c, .int .i64 v] w fun e w' => e = .returned (.bool (decide (v ∈ xs))) ∧ w = w' := by
  go_enter Try.func27, Try.ntmps27
  go_wp2_with fail
  refine (index_any A n c xs v _ h hn).mono ?_
  rintro e w' ⟨r, rfl, hr, rfl, _⟩
  have HR := hid hr
  clear hr
  go_wp2
  go_ret
  exact ⟨by rw [← HR.out]; rfl, rfl⟩

theorem contains_yes (A : Option Addr) (n c : Nat) (xs : List Int) (v : Int) (w : World) (h : Ints w A n xs) (hn : n ≤ 1000000) (hv : v ∈ xs) :
    Calls Try.prog 27 #[.slice A n c, .int .i64 v] w fun e w' => e = .returned (.bool true) ∧ w' = w := by
  refine (contains_any A n c xs v w h hn).mono ?_
  rintro e w' ⟨rfl, rfl⟩
  rw [decide_eq_true hv]
  exact ⟨rfl, rfl⟩
theorem contains_no (A : Option Addr) (n c : Nat) (xs : List Int) (v : Int) (w : World) (h : Ints w A n xs) (hn : n ≤ 1000000) (hv : ¬ v ∈ xs) :
    Calls Try.prog 27 #[.slice A n c, .int .i64 v] w fun e w' => e = .returned (.bool false) ∧ w' = w := by
  refine (contains_any A n c xs v w h hn).mono ?_
  rintro e w' ⟨rfl, rfl⟩
  rw [decide_eq_false hv]
  exact ⟨rfl, rfl⟩

end Go.Proofs.Ytaklchehamkgcaa
