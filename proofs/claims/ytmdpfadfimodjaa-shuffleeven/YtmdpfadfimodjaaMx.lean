/-
  slices.Max at []int.
-/
import Derived.Test.YtmdpfadfimodjaaGen
namespace Go.Proofs.Ytmdpfadfimodjaa
open Go.RowKit

def MaxIs (xs : List Int) (w : World) (e : Ending) (w' : World) : Prop := ∃ m : Int, e = .returned (.int .i64 m) ∧ m ∈ xs ∧ (∀ y ∈ xs, y ≤ m) ∧ w = w'

set_option maxHeartbeats 800000 in
theorem max_any (A : Option Addr) (n c : Nat) (xs : List Int) (w : World) (h : Ints w A n xs) (h0 : 0 < n) (hn : n ≤ 1000000) :
    Calls Try.prog 27 #[.slice A n c] w (MaxIs xs w) := by
  have HL := hid h.len
  obtain ⟨b, o, rfl, hb, hc⟩ := h.row h0
  have HC := hid hc
  have g0 := hc 0 h0
  rw [Nat.add_zero] at g0
  have HM0 := hid (getD_mem (show 0 < xs.length by rw [HL.out]; exact h0))
  clear h hc
  generalize hy0 : xs.getD 0 0 = y0 at g0 HM0
  have HY := hid hy0
  clear hy0
  go_enter Try.func27, Try.ntmps27
  go_wp2
  go_loopg [3, 4] n (fun gh s t wr => ∃ (k : Nat) (m : Int), 1 ≤ k ∧ k ≤ n ∧ n - k ≤ gh ∧ m ∈ xs ∧ (∀ j, j < k → xs.getD j 0 ≤ m) ∧ s = .int .i64 m ∧ t = .int .i64 (k : Int) ∧ w = wr)
  case atStart =>
    refine ⟨1, y0, by omega, by omega, by omega, HM0.out, fun j hj => ?_, rfl, rfl, rfl⟩
    have : j = 0 := by omega
    subst this
    rw [HY.out]
    exact Int.le_refl _
  case round =>
    clear g0
    obtain ⟨k, m, hk1, hk, hg, hmem, hall, rfl, rfl, rfl⟩ := hrel
    have HA := hid (And.intro hmem hall)
    clear hmem hall
    by_cases hlt : k < n
    · have g1 := HC.out k hlt
      have HMK := hid (getD_mem (show k < xs.length by rw [HL.out]; exact hlt))
      generalize hx : xs.getD k 0 = x at g1 HMK
      have HX := hid hx
      clear hx
      by_cases hmx : m < x
      · go_wp2
        go_roundg (n - (k + 1))
        case measure => omega
        case rel =>
          refine ⟨k + 1, x, by omega, by omega, by omega, HMK.out, fun j hj => ?_, rfl, by go_num, rfl⟩
          by_cases e : j = k
          · subst e
            rw [HX.out]
            exact Int.le_refl _
          · have := HA.out.2 j (by omega)
            omega
      · go_wp2
        go_roundg (n - (k + 1))
        case measure => omega
        case rel =>
          refine ⟨k + 1, m, by omega, by omega, by omega, HA.out.1, fun j hj => ?_, rfl, by go_num, rfl⟩
          by_cases e : j = k
          · subst e
            rw [HX.out]
            omega
          · exact HA.out.2 j (by omega)
    · have hkn : k = n := by omega
      subst hkn
      go_wp2
      go_ret
      refine ⟨m, rfl, HA.out.1, fun y hy => ?_, rfl⟩
      obtain ⟨i, hi, rfl⟩ := mem_getD hy
      exact HA.out.2 i (by rw [HL.out] at hi; exact hi)

end Go.Proofs.Ytmdpfadfimodjaa
