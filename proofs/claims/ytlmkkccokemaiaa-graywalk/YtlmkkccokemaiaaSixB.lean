/-
  The library's sort at []uint16: insertionSortOrdered.
-/
import Derived.Test.YtlmkkccokemaiaaSixA
namespace Go.Proofs.Ytlmkkccokemaiaa
open Go.RowKit

set_option maxHeartbeats 1600000 in
theorem insertion16 (g n cap a b : Nat) (xs : List Nat) (w : World) (h : U16 w g cap xs) (hl : xs.length = n) (hab : a ≤ b) (hb : b ≤ n) (hn : n ≤ 1000000) :
    Calls Try.prog 17 #[.slice (some ⟨g, 0, none⟩) n cap, .int .i64 (a : Int), .int .i64 (b : Int)] w (RetMix w g cap xs) := by
  have HL := hid hl
  have H0 := hid h
  clear hl h
  go_enter Try.func17, Try.ntmps17
  go_wp2
  go_loopg [6] (n + 1) (fun gh s wr => ∃ i : Nat, i ≤ n + 1 ∧ a + 1 ≤ i ∧ n + 1 - i ≤ gh ∧ s = .int .i64 (i : Int) ∧ Mix w g cap xs wr)
  case atStart => exact ⟨a + 1, by omega, by omega, by omega, by go_num, Mix.refl H0.out⟩
  case round =>
    obtain ⟨i, hi, hi1, hg, rfl, hmix⟩ := hrel
    have HM := hid hmix
    clear hmix
    by_cases hlt : i < b
    · go_wp2
      go_loopg [7] i (fun gh s wr => ∃ j : Nat, a ≤ j ∧ j ≤ i ∧ j ≤ gh ∧ s = .int .i64 (j : Int) ∧ Mix w g cap xs wr)
      case atStart => exact ⟨i, by omega, Nat.le_refl _, Nat.le_refl _, rfl, HM.out⟩
      case round =>
        obtain ⟨j, hja, hj, hgj, rfl, hmix⟩ := hrel
        clear HM
        have HM := hid hmix
        clear hmix
        by_cases hj0 : j = a
        · subst hj0
          have hd : decide (j < j) = false := by simp
          go_wp2_with fail
          go_quiet (fail)
          go_wp2
          go_roundg (n - i)
          case measure => omega
          case rel => exact ⟨i + 1, by omega, by omega, by omega, by go_num, HM.out.drewN _⟩
        · obtain ⟨m, hjm⟩ : ∃ m, j = m + 1 := ⟨j - 1, by omega⟩
          have HJ := hid hjm
          have hmj : m < j := by omega
          have ham : a ≤ m := by omega
          have hpos : a < j := by omega
          have hd : decide (a < j) = true := by simp; omega
          have hwr : IntKind.i64.wrap ((j : Int) - 1) = (m : Int) := by rw [IntWalk.i64_in _ (by omega)]; omega
          have hjn : j < n := by omega
          have hmn : m < n := by omega
          obtain ⟨ys, hO, hP, hG⟩ := HM.out
          have hly : ys.length = n := by rw [hP.length_eq, HL.out]
          have g1 := hO.cell (j := j) (by omega)
          have f1 := hO.frozen (j)
          have g2 := hO.cell (j := m) (by omega)
          have f2 := hO.frozen (m)
          have HS := hid (fun x y => Mix.swap (x := x) (y := y) hO hP hG (i := j) (j := m) (by omega) (by omega))
          clear hO hP hG hly
          generalize hx1 : ys.getD (j) 0 = x1 at g1 HS
          generalize hx2 : ys.getD (m) 0 = x2 at g2 HS
          have HS2 := hid (HS.out x1 x2 rfl rfl)
          clear HS hx1 hx2
          clear hjm
          by_cases hyx : (x1 : Int) < (x2 : Int)
          · have hc : decide ((x1 : Int) < (x2 : Int)) = true := by simpa using hyx
            go_wp2_with fail
            go_quiet ((go_at_call 23; exact Calls.quiet_of_same (less16_b _ _ _ _ hc)))
            go_wp2_with fail
            go_region
            go_wp2
            have hjm := HJ.out
            go_roundg m
            case measure => omega
            case rel => exact ⟨m, ham, by omega, Nat.le_refl _, by go_num, HS2.out.drewN _⟩
          · have hc : decide ((x1 : Int) < (x2 : Int)) = false := by simpa using hyx
            go_wp2_with fail
            go_quiet ((go_at_call 23; exact Calls.quiet_of_same (less16_b _ _ _ _ hc)))
            go_wp2
            go_roundg (n - i)
            case measure => omega
            case rel => exact ⟨i + 1, by omega, by omega, by omega, by go_num, HM.out.drewN _⟩
    · go_wp2
      go_end0
      exact ⟨rfl, HM.out⟩

end Go.Proofs.Ytlmkkccokemaiaa
