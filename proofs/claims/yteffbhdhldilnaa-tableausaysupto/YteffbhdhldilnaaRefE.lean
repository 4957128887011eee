/-
  castref.PermErr: its answer is permErr of the list.
-/
import Derived.Test.YteffbhdhldilnaaIdx
namespace Go.Proofs.Yteffbhdhldilnaa
open Go.RowKit

set_option maxHeartbeats 400000 in
theorem refErr_large (A : Option Addr) (n c : Nat) (w : World) (hn : 10 < n) (hm : n ≤ 9223372036854775807) :
    Calls Try.prog 13 #[.slice A n c] w fun e w' => e = .returned (.int .i64 2) ∧ w = w' := by
  go_enter Try.func13, Try.ntmps13
  go_wp2
  go_ret
  exact ⟨rfl, rfl⟩

set_option maxHeartbeats 800000 in
theorem refErr_small (A : Option Addr) (n c : Nat) (xs : List Int) (w : World) (h : Ints w A n xs) (hn : n ≤ 10) :
    Calls Try.prog 13 #[.slice A n c] w fun e w' => e = .returned (.int .i64 (permErr xs)) ∧ w = w' := by
  have h10 : decide (10 < (n : Int)) = false := by simp; omega
  go_enter Try.func13, Try.ntmps13
  go_wp2
  go_loopg [9] n (fun g s wr => ∃ k : Nat, k ≤ n ∧ n - k ≤ g ∧ s = .int .i64 k ∧ w = wr ∧ ∀ j : Nat, j < k → (j : Int) ∈ xs)
  case atStart => exact ⟨0, Nat.zero_le _, by omega, rfl, rfl, fun j hj => absurd hj (Nat.not_lt_zero _)⟩
  case round =>
    obtain ⟨k, hk, hg, rfl, rfl, hall⟩ := hrel
    have HA := hid hall
    have HL := hid h.len
    clear hall
    by_cases hlt : k < n
    · by_cases hm : (k : Int) ∈ xs
      · have hd : decide ((k : Int) ∈ xs) = true := decide_eq_true hm
        have HM := hid hm
        clear hm
        go_wp2_with (go_at_call 41; refine (contains_any A n c xs k _ h (by omega)).mono ?_; rintro e w' ⟨rfl, rfl⟩)
        go_roundg (n - (k + 1))
        case measure => omega
        case rel =>
          refine ⟨k + 1, by omega, by omega, by go_num, rfl, fun j hj => ?_⟩
          by_cases e : j = k
          · subst e
            exact HM.out
          · exact HA.out j (by omega)
      · have hd : decide ((k : Int) ∈ xs) = false := decide_eq_false hm
        have HM := hid hm
        clear hm
        go_wp2_with (go_at_call 41; refine (contains_any A n c xs k _ h (by omega)).mono ?_; rintro e w' ⟨rfl, rfl⟩)
        go_ret
        rw [permErr_bad (by rw [HL.out]; exact hn) (fun hp => HM.out (hp.all k (by rw [HL.out]; exact hlt)))]
        exact ⟨rfl, rfl⟩
    · go_wp2
      go_ret
      rw [permErr_ok.2 ⟨by rw [HL.out]; exact hn, isPerm_of_all (fun i hi => HA.out i (by rw [HL.out] at hi; omega))⟩]
      exact ⟨rfl, rfl⟩

theorem refErr_any (A : Option Addr) (n c : Nat) (xs : List Int) (w : World) (h : Ints w A n xs) (hm : n ≤ 9223372036854775807) :
    Calls Try.prog 13 #[.slice A n c] w fun e w' => e = .returned (.int .i64 (permErr xs)) ∧ w = w' := by
  by_cases hn : 10 < n
  · refine (refErr_large A n c w hn hm).mono ?_
    rintro e w' ⟨rfl, rfl⟩
    have e : permErr xs = 2 := if_pos (by rw [h.len]; exact hn)
    rw [e]
    exact ⟨rfl, rfl⟩
  · exact refErr_small A n c xs w h (by omega)

end Go.Proofs.Yteffbhdhldilnaa
