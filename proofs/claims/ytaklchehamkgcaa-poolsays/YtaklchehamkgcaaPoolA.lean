/-
  package pool: Check, Run; castref.PoolErr.
-/
import Derived.Test.YtaklchehamkgcaaPoolM
import Derived.Test.YtaklchehamkgcaaArr
import Derived.Test.YtaklchehamkgcaaLit
namespace Go.Proofs.Ytaklchehamkgcaa
open Go.RowKit

/-- Whether a number is a size. -/
def szB (k : Int) : Bool := decide (1 ≤ k ∧ k ≤ 12)
theorem szB_yes {k : Int} (h : 1 ≤ k ∧ k ≤ 12) : szB k = true := decide_eq_true h
theorem szB_no {k : Int} (h : k < 1 ∨ 12 < k) : szB k = false := decide_eq_false (by omega)

set_option maxHeartbeats 400000 in
theorem isSize_any (k : Int) (w : World) : Calls Try.prog 28 #[.int .i64 k] w fun e w' => e = .returned (.bool (szB k)) ∧ w = w' := by
  by_cases h1 : k < 1
  · have HZ := hid (szB_no (k := k) (Or.inl h1))
    have h2 : ¬ 1 ≤ k := by omega
    go_enter Try.func28, Try.ntmps28
    go_wp2
    go_ret
    exact ⟨by rw [HZ.out]; rfl, rfl⟩
  · by_cases h2 : 12 < k
    · have HZ := hid (szB_no (k := k) (Or.inr h2))
      have h3 : 1 ≤ k := by omega
      have h4 : ¬ k ≤ 12 := by omega
      go_enter Try.func28, Try.ntmps28
      go_wp2
      go_ret
      exact ⟨by rw [HZ.out]; rfl, rfl⟩
    · have HZ := hid (szB_yes (k := k) (by omega))
      have h3 : 1 ≤ k := by omega
      have h4 : k ≤ 12 := by omega
      go_enter Try.func28, Try.ntmps28
      go_wp2
      go_ret
      exact ⟨by rw [HZ.out]; rfl, rfl⟩

set_option maxHeartbeats 400000 in
theorem poCheck_arg (k : Int) (A : Option Addr) (n c : Nat) (w : World) (hk : k < 1 ∨ 12 < k) :
    Calls Try.prog 13 #[.int .i64 k, .slice A n c] w fun e w' => e = .returned (.int .i64 1) ∧ w = w' := by
  have HS := hid (isSize_any k w)
  rw [szB_no hk] at HS
  clear hk
  go_enter Try.func13, Try.ntmps13
  go_wp2_with fail
  refine HS.out.mono ?_
  rintro e w' ⟨rfl, rfl⟩
  go_wp2
  go_ret
  exact ⟨rfl, rfl⟩

set_option maxHeartbeats 400000 in
theorem poCheck_large (k : Int) (A : Option Addr) (n c : Nat) (w : World) (hk : 1 ≤ k ∧ k ≤ 12) (hn : 30 < n) :
    Calls Try.prog 13 #[.int .i64 k, .slice A n c] w fun e w' => e = .returned (.int .i64 2) ∧ w = w' := by
  have HS := hid (isSize_any k w)
  rw [szB_yes hk] at HS
  have hI : (n : Int) > 30 := by omega
  clear hk
  go_enter Try.func13, Try.ntmps13
  go_wp2_with fail
  refine HS.out.mono ?_
  rintro e w' ⟨rfl, rfl⟩
  go_wp2
  go_ret
  exact ⟨rfl, rfl⟩

set_option maxHeartbeats 400000 in
theorem poCheck_small (k : Int) (A : Option Addr) (n c : Nat) (xs : List Int) (w : World) (h : Ints w A n xs) (hk : 1 ≤ k ∧ k ≤ 12) (hn : n ≤ 30) :
    Calls Try.prog 13 #[.int .i64 k, .slice A n c] w fun e w' => e = .returned (.int .i64 (poErr k xs)) ∧ w = w' := by
  have HS := hid (isSize_any k w)
  rw [szB_yes hk] at HS
  have HK := hid hk
  clear hk
  go_enter Try.func13, Try.ntmps13
  go_wp2_with fail
  refine HS.out.mono ?_
  rintro e w' ⟨rfl, rfl⟩
  go_wp2
  go_loopg [15] n (fun g s wr => ∃ k : Nat, k ≤ n ∧ n - k ≤ g ∧ s = .int .i64 k ∧ wr = w ∧ ∀ j, j < k → 0 ≤ xs.getD j 0 ∧ xs.getD j 0 ≤ j)
  case atStart => exact ⟨0, Nat.zero_le _, by omega, rfl, rfl, fun j hj => absurd hj (Nat.not_lt_zero _)⟩
  case round =>
    obtain ⟨i, hi, hg, rfl, rfl, hall⟩ := hrel
    have HA := hid hall
    clear hall
    have HL := hid h.len
    by_cases hlt : i < n
    · obtain ⟨b, o, rfl, hb, hc⟩ := h.row (by omega)
      have g1 := hc i hlt
      have HBAD := hid (fun hx => poErr_bad (l := xs) HK.out (by rw [HL.out]; exact hn) (not_lotsP (by rw [HL.out]; exact hlt) hx))
      clear hc h
      generalize hxk : xs.getD i 0 = x at g1 HBAD
      have HX := hid hxk
      clear hxk
      by_cases h0 : x < 0
      · go_wp2
        go_ret
        rw [HBAD.out (Or.inl h0)]
        exact ⟨rfl, rfl⟩
      · obtain ⟨m, rfl⟩ := Int.eq_ofNat_of_zero_le (show 0 ≤ x by omega)
        clear h0
        by_cases h1 : i < m
        · go_wp2
          go_ret
          rw [HBAD.out (Or.inr (by omega))]
          exact ⟨rfl, rfl⟩
        · go_wp2
          go_roundg (n - (i + 1))
          case measure => omega
          case rel =>
            refine ⟨i + 1, by omega, by omega, by go_num, rfl, fun j hj => ?_⟩
            by_cases e : j = i
            · subst e
              rw [HX.out]
              omega
            · exact HA.out j (by omega)
    · have hkn : i = n := by omega
      subst hkn
      go_wp2
      go_ret
      rw [poErr_good HK.out (by rw [HL.out]; exact hn) (fun j hj => HA.out j (by rw [HL.out] at hj; exact hj))]
      exact ⟨rfl, rfl⟩

/-- pool.Check, whatever comes in. -/
theorem poCheck_any (k : Int) (A : Option Addr) (n c : Nat) (xs : List Int) (w : World) (h : Ints w A n xs) :
    Calls Try.prog 13 #[.int .i64 k, .slice A n c] w fun e w' => e = .returned (.int .i64 (poErr k xs)) ∧ w = w' := by
  by_cases hk : k < 1 ∨ 12 < k
  · rw [poErr_arg hk]
    exact poCheck_arg k A n c w hk
  · by_cases hn : 30 < n
    · rw [poErr_large (by omega) (by rw [h.len]; exact hn)]
      exact poCheck_large k A n c w (by omega) hn
    · exact poCheck_small k A n c xs w h (by omega) (by omega)

/-! ### castref.PoolErr -/

set_option maxHeartbeats 400000 in
theorem refPool_arg (k : Int) (A : Option Addr) (n c : Nat) (w : World) (hk : k < 1 ∨ 12 < k) :
    Calls Try.prog 12 #[.int .i64 k, .slice A n c] w fun e w' => e = .returned (.int .i64 1) ∧ w = w' := by
  by_cases h1 : k < 1
  · clear hk
    go_enter Try.func12, Try.ntmps12
    go_wp2
    go_ret
    exact ⟨rfl, rfl⟩
  · have h2 : 12 < k := by omega
    clear hk
    go_enter Try.func12, Try.ntmps12
    go_wp2
    go_ret
    exact ⟨rfl, rfl⟩

set_option maxHeartbeats 400000 in
theorem refPool_large (k : Int) (A : Option Addr) (n c : Nat) (w : World) (hk : 1 ≤ k ∧ k ≤ 12) (hn : 30 < n) :
    Calls Try.prog 12 #[.int .i64 k, .slice A n c] w fun e w' => e = .returned (.int .i64 2) ∧ w = w' := by
  have hI : (n : Int) > 30 := by omega
  have h1 : ¬ k < 1 := by omega
  have h2 : ¬ 12 < k := by omega
  clear hk
  go_enter Try.func12, Try.ntmps12
  go_wp2
  go_ret
  exact ⟨rfl, rfl⟩

set_option maxHeartbeats 400000 in
theorem refPool_small (k : Int) (A : Option Addr) (n c : Nat) (xs : List Int) (w : World) (h : Ints w A n xs) (hk : 1 ≤ k ∧ k ≤ 12) (hn : n ≤ 30) :
    Calls Try.prog 12 #[.int .i64 k, .slice A n c] w fun e w' => e = .returned (.int .i64 (poErr k xs)) ∧ w = w' := by
  have HK := hid hk
  have h1 : ¬ k < 1 := by omega
  have h2 : ¬ 12 < k := by omega
  clear hk
  go_enter Try.func12, Try.ntmps12
  go_wp2
  go_loopg [18] n (fun g s wr => ∃ k : Nat, k ≤ n ∧ n - k ≤ g ∧ s = .int .i64 k ∧ wr = w ∧ ∀ j, j < k → 0 ≤ xs.getD j 0 ∧ xs.getD j 0 ≤ j)
  case atStart => exact ⟨0, Nat.zero_le _, by omega, rfl, rfl, fun j hj => absurd hj (Nat.not_lt_zero _)⟩
  case round =>
    obtain ⟨i, hi, hg, rfl, rfl, hall⟩ := hrel
    have HA := hid hall
    clear hall
    have HL := hid h.len
    by_cases hlt : i < n
    · obtain ⟨b, o, rfl, hb, hc⟩ := h.row (by omega)
      have g1 := hc i hlt
      have HBAD := hid (fun hx => poErr_bad (l := xs) HK.out (by rw [HL.out]; exact hn) (not_lotsP (by rw [HL.out]; exact hlt) hx))
      clear hc h
      generalize hxk : xs.getD i 0 = x at g1 HBAD
      have HX := hid hxk
      clear hxk
      by_cases h0 : x < 0
      · go_wp2
        go_ret
        rw [HBAD.out (Or.inl h0)]
        exact ⟨rfl, rfl⟩
      · obtain ⟨m, rfl⟩ := Int.eq_ofNat_of_zero_le (show 0 ≤ x by omega)
        clear h0
        by_cases h1 : i < m
        · go_wp2
          go_ret
          rw [HBAD.out (Or.inr (by omega))]
          exact ⟨rfl, rfl⟩
        · go_wp2
          go_roundg (n - (i + 1))
          case measure => omega
          case rel =>
            refine ⟨i + 1, by omega, by omega, by go_num, rfl, fun j hj => ?_⟩
            by_cases e : j = i
            · subst e
              rw [HX.out]
              omega
            · exact HA.out j (by omega)
    · have hkn : i = n := by omega
      subst hkn
      go_wp2
      go_ret
      rw [poErr_good HK.out (by rw [HL.out]; exact hn) (fun j hj => HA.out j (by rw [HL.out] at hj; exact hj))]
      exact ⟨rfl, rfl⟩

/-- castref.PoolErr, whatever comes in. -/
theorem refPool_any (k : Int) (A : Option Addr) (n c : Nat) (xs : List Int) (w : World) (h : Ints w A n xs) :
    Calls Try.prog 12 #[.int .i64 k, .slice A n c] w fun e w' => e = .returned (.int .i64 (poErr k xs)) ∧ w = w' := by
  by_cases hk : k < 1 ∨ 12 < k
  · rw [poErr_arg hk]
    exact refPool_arg k A n c w hk
  · by_cases hn : 30 < n
    · rw [poErr_large (by omega) (by rw [h.len]; exact hn)]
      exact refPool_large k A n c w (by omega) hn
    · exact refPool_small k A n c xs w h (by omega) (by omega)

end Go.Proofs.Ytaklchehamkgcaa
