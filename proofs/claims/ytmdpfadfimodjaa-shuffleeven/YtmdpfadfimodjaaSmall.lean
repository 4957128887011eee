/-
  The library's slices.IsSorted at []int; the verifier's castkeep.good.
-/
import Derived.Test.YtmdpfadfimodjaaRst
namespace Go.Proofs.Ytmdpfadfimodjaa
open Go.RowKit

set_option maxHeartbeats 400000 in
theorem isNaN_any (x : Int) (w : World) : Calls Try.prog 84 #[.int .i64 x] w fun e w' => e = .returned (.bool false) ∧ w = w' := by
  have hx : (x != x) = false := by simp
  go_enter Try.func84, Try.ntmps84
  go_wp2
  go_ret
  exact ⟨rfl, rfl⟩

set_option maxHeartbeats 400000 in
theorem less_any (x y : Int) (w : World) : Calls Try.prog 81 #[.int .i64 x, .int .i64 y] w fun e w' => e = .returned (.bool (decide (x < y))) ∧ w = w' := by
  go_enter Try.func81, Try.ntmps81
  go_wp2_with (go_at_call 84; refine (isNaN_any _ _).mono ?_; rintro e w' ⟨rfl, rfl⟩)
  go_ret
  exact ⟨rfl, rfl⟩

/-- Does no number fall? -/
def sortedB (xs : List Int) : Bool := (List.range (xs.length - 1)).all (fun i => decide (xs.getD i 0 ≤ xs.getD (i + 1) 0))

theorem sortedB_true {xs : List Int} : sortedB xs = true ↔ ∀ i, i + 1 < xs.length → xs.getD i 0 ≤ xs.getD (i + 1) 0 := by
  simp only [sortedB, List.all_eq_true, List.mem_range, decide_eq_true_eq]
  exact ⟨fun h i hi => h i (by omega), fun h i hi => h i (by omega)⟩

theorem quiet_left {P : Program} {f : FuncId} {args : Array Value} {w : World} {v : Value} (h : Calls P f args w fun e w' => e = .returned v ∧ w = w') : Calls P f args w fun e w'' => e = .returned v ∧ w'' = w :=
  h.mono fun _ _ ⟨he, hw⟩ => ⟨he, hw.symm⟩

set_option maxHeartbeats 800000 in
theorem isSorted_any (A : Option Addr) (n c : Nat) (xs : List Int) (w : World) (h : Ints w A n xs) (hn : n ≤ 1000000) :
    Calls Try.prog 73 #[.slice A n c] w fun e w' => e = .returned (.bool (sortedB xs)) ∧ ∃ q, w' = w.drewN q := by
  go_enter Try.func73, Try.ntmps73
  go_wp2
  go_loopg [3] n (fun g s wr => ∃ (k : Int) (q : Nat), -1 ≤ k ∧ k ≤ (n : Int) - 1 ∧ k + 1 ≤ g ∧ s = .int .i64 k ∧ wr = w.drewN q ∧ ∀ i : Nat, k ≤ i → i + 1 < n → xs.getD i 0 ≤ xs.getD (i + 1) 0)
  case atStart => exact ⟨_, 0, by omega, by omega, by omega, rfl, rfl, fun i h1 h2 => by omega⟩
  case round =>
    obtain ⟨k, q, hk0, hk1, hg, rfl, hwr0, hall⟩ := hrel
    have HA := hid hall
    have HQ := hid hwr0
    clear hall hwr0
    by_cases hpos : 0 < k
    · obtain ⟨j, m, rfl, hjm⟩ : ∃ j m : Nat, k = (j : Int) ∧ j = m + 1 := ⟨k.toNat, (k - 1).toNat, by omega, by omega⟩
      have hjn : j < n := by omega
      have hmn : m < n := by omega
      have hwr : IntKind.i64.wrap ((j : Int) - 1) = (m : Int) := by rw [IntWalk.i64_in _ (by omega)]; omega
      obtain ⟨b, o, rfl, hb, hc⟩ := h.row (by omega)
      have g1 : wr.cell? ⟨b, o + j, none⟩ = some (.int .i64 (xs.getD j 0)) := by rw [HQ.out]; exact hc j (by omega)
      have g2 : wr.cell? ⟨b, o + m, none⟩ = some (.int .i64 (xs.getD m 0)) := by rw [HQ.out]; exact hc m (by omega)
      have hjN : (j : Int) < (n : Int) := by omega
      have hmN : (m : Int) < (n : Int) := by omega
      have HJ := hid hjm
      clear hjm
      have HL := hid h.len
      clear hc h
      generalize hx : xs.getD j 0 = x at g1
      generalize hy : xs.getD m 0 = y at g2
      have HX := hid hx
      have HY := hid hy
      clear hx hy
      by_cases hlt : x < y
      · have hd : decide (x < y) = true := by simpa using hlt
        go_wp2_with fail
        go_quiet ((go_at_call 81; exact Calls.quiet_of_same (quiet_left (less_any _ _ _))))
        go_wp2
        go_ret
        have HS : sortedB xs = false := by
          rw [Bool.eq_false_iff]
          intro e
          have := sortedB_true.1 e m (by rw [HL.out, ← HJ.out]; exact hjn)
          rw [← HJ.out, HX.out, HY.out] at this
          omega
        rw [HS]
        exact ⟨rfl, _, by rw [HQ.out, World.drewN_drewN]⟩
      · have hd : decide (x < y) = false := by simpa using hlt
        go_wp2_with fail
        go_quiet ((go_at_call 81; exact Calls.quiet_of_same (quiet_left (less_any _ _ _))))
        go_wp2
        have hjm := HJ.out
        go_roundg (m + 1)
        case measure => omega
        case rel =>
          refine ⟨m, _, by omega, by omega, by omega, by go_num, by rw [HQ.out, World.drewN_drewN], fun i h1 h2 => ?_⟩
          by_cases e : i = m
          · subst e
            rw [← hjm, HX.out, HY.out]
            omega
          · exact HA.out i (by omega) h2
    · go_wp2
      go_ret
      have HS : sortedB xs = true := sortedB_true.2 fun i hi => HA.out i (by omega) (by rw [← h.len]; exact hi)
      rw [HS]
      exact ⟨rfl, _, HQ.out⟩

end Go.Proofs.Ytmdpfadfimodjaa
