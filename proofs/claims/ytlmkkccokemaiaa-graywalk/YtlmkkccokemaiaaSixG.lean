/-
  The library's sort at []uint16: partialInsertionSortOrdered.
-/
import Derived.Test.YtlmkkccokemaiaaSixF
namespace Go.Proofs.Ytlmkkccokemaiaa
open Go.RowKit

/-- A Boolean is returned; the row is mixed. -/
def RetTold (w : World) (g cap : Nat) (xs : List Nat) (e : Ending) (w' : World) : Prop := ∃ t : Bool, e = .returned (.bool t) ∧ Mix w g cap xs w'

set_option maxHeartbeats 6400000 in
set_option maxRecDepth 100000 in
theorem someIns16 (g n cap a b : Nat) (xs : List Nat) (w : World) (h : U16 w g cap xs) (hl : xs.length = n) (hab : a < b) (hb : b ≤ n) (hn : n ≤ 1000000) :
    Calls Try.prog 22 #[.slice (some ⟨g, 0, none⟩) n cap, .int .i64 (a : Int), .int .i64 (b : Int)] w (RetTold w g cap xs) := by
  have HL := hid hl
  have HM : Hid (Mix w g cap xs w) := Mix.refl h
  clear hl h
  have hna : n - a < n + 1 := by omega
  go_enter Try.func22, Try.ntmps22
  go_wp2
  go_loopg [7, 8] 5 (fun gh s t wr => ∃ i k : Nat, a + 1 ≤ i ∧ i ≤ b ∧ k ≤ 5 ∧ 5 - k ≤ gh ∧ s = .int .i64 (i : Int) ∧ t = .int .i64 (k : Int) ∧ Mix w g cap xs wr)
  case atStart => exact ⟨a + 1, 0, by omega, by omega, by omega, by omega, by go_num, rfl, HM.out⟩
  case round =>
    clear HM
    obtain ⟨i0, k, hi0, hi1, hk, hgh, rfl, rfl, hmix⟩ := hrel
    have HM := hid hmix
    clear hmix
    by_cases hk5 : k < 5
    · go_upto_block 2 with fail
      go_cut [7] (fun s wr => ∃ i : Nat, a + 1 ≤ i ∧ i ≤ b ∧ s = .int .i64 (i : Int) ∧ Mix w g cap xs wr)
      case first =>
        go_wp2_with fail
        go_loopg [7] (n - i0) (fun gh s wr => ∃ i : Nat, a + 1 ≤ i ∧ i ≤ b ∧ n - i ≤ gh ∧ s = .int .i64 (i : Int) ∧ Mix w g cap xs wr)
        case atStart => exact ⟨i0, by omega, by omega, by omega, rfl, HM.out⟩
        case round =>
          clear HM
          obtain ⟨i, hv0, hv1, hvg, rfl, hmix⟩ := hrel
          have HM := hid hmix
          clear hmix
          by_cases hib : i < b
          · have hd : decide (i < b) = true := by simpa using hib
            obtain ⟨m, him⟩ : ∃ m, i = m + 1 := ⟨i - 1, by omega⟩
            have hwr : IntKind.i64.wrap ((i : Int) - 1) = (m : Int) := by rw [IntWalk.i64_in _ (by omega)]; omega
            have hin : i < n := by omega
            have hmn : m < n := by omega
            clear him
            obtain ⟨ys, hO, hP, hG⟩ := HM.out
            have hly : ys.length = n := by rw [hP.length_eq, HL.out]
            have g1 := hO.cell (j := i) (by omega)
            have g2 := hO.cell (j := m) (by omega)
            clear hO hP hG hly
            generalize hx1 : ys.getD i 0 = x1 at g1
            generalize hx2 : ys.getD m 0 = x2 at g2
            clear hx1 hx2
            cases hc : decide ((x1 : Int) < (x2 : Int))
            case false =>
              go_wp2_with fail
              go_quiet ((go_at_call 23; exact Calls.quiet_of_same (less16_b _ _ _ _ hc)))
              go_wp2
              go_roundg (n - (i + 1))
              case measure => omega
              case rel => exact ⟨i + 1, by omega, by omega, by omega, by go_num, HM.out.drewN _⟩
            case true =>
              go_wp2_with fail
              go_quiet ((go_at_call 23; exact Calls.quiet_of_same (less16_b _ _ _ _ hc)))
              go_wp2
              go_meet
              exact ⟨i, by omega, by omega, rfl, HM.out.drewN _⟩
          · have hd : decide (i < b) = false := by simpa using hib
            go_wp2_with fail
            go_quiet (fail)
            go_wp2
            go_meet
            exact ⟨i, by omega, by omega, rfl, HM.out.drewN _⟩
      case rest =>
        clear HM
        obtain ⟨i, hi2, hi3, rfl, hmix⟩ := hcut
        have HM := hid hmix
        clear hmix
        by_cases hib : i = b
        · subst hib
          go_wp2
          go_ret
          exact ⟨true, rfl, HM.out⟩
        · have hne : ((i : Int) == (b : Int)) = false := by simp; omega
          have hib2 : i < b := by omega
          by_cases h50 : b - a < 50
          · have h50I : (b : Int) - (a : Int) < 50 := by omega
            go_wp2
            go_ret
            exact ⟨false, rfl, HM.out⟩
          · have h50I : ¬ ((b : Int) - (a : Int) < 50) := by omega
            obtain ⟨m, him⟩ : ∃ m, i = m + 1 := ⟨i - 1, by omega⟩
            have HI := hid him
            have hwr : IntKind.i64.wrap ((i : Int) - 1) = (m : Int) := by rw [IntWalk.i64_in _ (by omega)]; omega
            have hin : i < n := by omega
            have hmn : m < n := by omega
            clear him
            obtain ⟨ys, hO, hP, hG⟩ := HM.out
            have hly : ys.length = n := by rw [hP.length_eq, HL.out]
            have g1 := hO.cell (j := i) (by omega)
            have f1 := hO.frozen (i)
            have g2 := hO.cell (j := m) (by omega)
            have f2 := hO.frozen (m)
            have HS := hid (fun x y => Mix.swap (x := x) (y := y) hO hP hG (i := i) (j := m) (by omega) (by omega))
            have g3' := fun y => (hO.set (i) y).cell (j := m) (by rw [List.length_set]; omega)
            clear hO hP hG hly HM
            generalize hx1 : ys.getD (i) 0 = x1 at g1 HS
            generalize hx2 : ys.getD (m) 0 = x2 at g2 HS
            have g3 := g3' x2
            clear g3'
            generalize (ys.set (i) x2).getD (m) 0 = x3 at g3
            have HS2 := hid (HS.out x1 x2 rfl rfl)
            clear HS hx1 hx2
            go_wp2_with fail
            go_region
            have HM := hid HS2.out.drew
            clear HS2 g1 g2 g3 f1 f2 hwr
            generalize World.drew (World.setCell _ _ _) = wq at HM ⊢
            go_upto_if 61 with fail
            go_cut [] (fun wr => Mix w g cap xs wr)
            case first =>
              by_cases h2 : 2 ≤ i - a
              · have h2I : (2 : Int) ≤ (i : Int) - (a : Int) := by omega
                have him := HI.out
                have hmI : (i : Int) - 1 = (m : Int) := by omega
                clear him
                go_wp2_with fail
                go_loopg [9] (m) (fun gh s wr => ∃ j : Nat, 0 ≤ j ∧ j ≤ m ∧ j ≤ gh ∧ s = .int .i64 (j : Int) ∧ Mix w g cap xs wr)
                case atStart => exact ⟨m, by omega, by omega, by omega, by first | rfl | go_num, HM.out⟩
                case round =>
                  clear HM
                  obtain ⟨j, hv0, hv1, hvg, rfl, hmix⟩ := hrel
                  have HM := hid hmix
                  clear hmix
                  by_cases hcd : 1 ≤ j
                  · obtain ⟨m, hjm⟩ : ∃ m, j = m + 1 := ⟨j - 1, by omega⟩
                    have HJ := hid hjm
                    have hwr : IntKind.i64.wrap ((j : Int) - 1) = (m : Int) := by rw [IntWalk.i64_in _ (by omega)]; omega
                    have hjn : j < n := by omega
                    have hmn : m < n := by omega
                    have hmj : m < j := by omega
                    clear hjm
                    obtain ⟨ys, hO, hP, hG⟩ := HM.out
                    have hly : ys.length = n := by rw [hP.length_eq, HL.out]
                    have g1 := hO.cell (j := j) (by omega)
                    have f1 := hO.frozen (j)
                    have g2 := hO.cell (j := m) (by omega)
                    have f2 := hO.frozen (m)
                    have HS := hid (fun x y => Mix.swap (x := x) (y := y) hO hP hG (i := j) (j := m) (by omega) (by omega))
                    have g3' := fun y => (hO.set (j) y).cell (j := m) (by rw [List.length_set]; omega)
                    clear hO hP hG hly
                    generalize hx1 : ys.getD (j) 0 = x1 at g1 HS
                    generalize hx2 : ys.getD (m) 0 = x2 at g2 HS
                    have g3 := g3' x2
                    clear g3'
                    generalize (ys.set (j) x2).getD (m) 0 = x3 at g3
                    have HS2 := hid (HS.out x1 x2 rfl rfl)
                    clear HS hx1 hx2

                    cases hc : decide ((x1 : Int) < (x2 : Int))
                    case true =>
                      go_wp2_with fail
                      go_quiet ((go_at_call 23; exact Calls.quiet_of_same (less16_b _ _ _ _ hc)))
                      go_wp2_with fail
                      go_region
                      go_wp2
                      have hjm := HJ.out
                      go_roundg ((m))
                      case measure => omega
                      case rel => exact ⟨m, by omega, by omega, by omega, by go_num, HS2.out.drewN _⟩
                    case false =>
                      go_wp2_with fail
                      go_quiet ((go_at_call 23; exact Calls.quiet_of_same (less16_b _ _ _ _ hc)))
                      go_wp2
                      go_meet
                      exact (HM.out.drewN _)
                  · go_wp2
                    go_meet
                    exact HM.out
              · have h2I : ¬ ((2 : Int) ≤ (i : Int) - (a : Int)) := by omega
                go_wp2
                go_meet
                exact HM.out
            case rest =>
              clear HM
              have HM := hid hcut
              clear hcut
              by_cases h2 : 2 ≤ b - i
              · have h2I : (2 : Int) ≤ (b : Int) - (i : Int) := by omega
                go_wp2_with fail
                go_loopg [10] (b - i + 1) (fun gh s wr => ∃ j : Nat, i + 1 ≤ j ∧ j ≤ b ∧ b - j ≤ gh ∧ s = .int .i64 (j : Int) ∧ Mix w g cap xs wr)
                case atStart => exact ⟨i + 1, by omega, by omega, by omega, by first | rfl | go_num, HM.out⟩
                case round =>
                  clear HM
                  obtain ⟨j, hv0, hv1, hvg, rfl, hmix⟩ := hrel
                  have HM := hid hmix
                  clear hmix
                  by_cases hcd : j < b
                  · obtain ⟨m, hjm⟩ : ∃ m, j = m + 1 := ⟨j - 1, by omega⟩
                    have HJ := hid hjm
                    have hwr : IntKind.i64.wrap ((j : Int) - 1) = (m : Int) := by rw [IntWalk.i64_in _ (by omega)]; omega
                    have hjn : j < n := by omega
                    have hmn : m < n := by omega
                    have hmj : m < j := by omega
                    clear hjm
                    obtain ⟨ys, hO, hP, hG⟩ := HM.out
                    have hly : ys.length = n := by rw [hP.length_eq, HL.out]
                    have g1 := hO.cell (j := j) (by omega)
                    have f1 := hO.frozen (j)
                    have g2 := hO.cell (j := m) (by omega)
                    have f2 := hO.frozen (m)
                    have HS := hid (fun x y => Mix.swap (x := x) (y := y) hO hP hG (i := j) (j := m) (by omega) (by omega))
                    have g3' := fun y => (hO.set (j) y).cell (j := m) (by rw [List.length_set]; omega)
                    clear hO hP hG hly
                    generalize hx1 : ys.getD (j) 0 = x1 at g1 HS
                    generalize hx2 : ys.getD (m) 0 = x2 at g2 HS
                    have g3 := g3' x2
                    clear g3'
                    generalize (ys.set (j) x2).getD (m) 0 = x3 at g3
                    have HS2 := hid (HS.out x1 x2 rfl rfl)
                    clear HS hx1 hx2

                    cases hc : decide ((x1 : Int) < (x2 : Int))
                    case true =>
                      go_wp2_with fail
                      go_quiet ((go_at_call 23; exact Calls.quiet_of_same (less16_b _ _ _ _ hc)))
                      go_wp2_with fail
                      go_region
                      go_wp2
                      have hjm := HJ.out
                      go_roundg (b - (j + 1))
                      case measure => omega
                      case rel => exact ⟨j + 1, by omega, by omega, by omega, by go_num, HS2.out.drewN _⟩
                    case false =>
                      go_wp2_with fail
                      go_quiet ((go_at_call 23; exact Calls.quiet_of_same (less16_b _ _ _ _ hc)))
                      go_wp2
                      go_roundg (5 - (k + 1))
                      case measure => omega
                      case rel => exact ⟨i, k + 1, by omega, by omega, by omega, by omega, rfl, by go_num, (HM.out.drewN _)⟩
                  · go_wp2
                    go_roundg (5 - (k + 1))
                    case measure => omega
                    case rel => exact ⟨i, k + 1, by omega, by omega, by omega, by omega, rfl, by go_num, HM.out⟩
              · have h2I : ¬ ((2 : Int) ≤ (b : Int) - (i : Int)) := by omega
                go_wp2
                go_roundg (5 - (k + 1))
                case measure => omega
                case rel => exact ⟨i, k + 1, by omega, by omega, by omega, by omega, rfl, by go_num, HM.out⟩
    · have hk6 : k = 5 := by omega
      subst hk6
      go_wp2
      go_ret
      exact ⟨false, rfl, HM.out⟩

end Go.Proofs.Ytlmkkccokemaiaa
