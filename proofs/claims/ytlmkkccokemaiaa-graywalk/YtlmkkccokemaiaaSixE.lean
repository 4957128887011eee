/-
  The library's sort at []uint16: partitionEqualOrdered.
-/
import Derived.Test.YtlmkkccokemaiaaSixD
import Derived.Deep.DeepCutAuto
import Derived.Deep.CutBlock
namespace Go.Proofs.Ytlmkkccokemaiaa
open Go.RowKit

/-- A place is returned; the row is mixed. -/
def RetPlace (w : World) (g cap : Nat) (xs : List Nat) (lo hi : Nat) (e : Ending) (w' : World) : Prop := ∃ m : Nat, lo ≤ m ∧ m ≤ hi ∧ e = .returned (.int .i64 (m : Int)) ∧ Mix w g cap xs w'

set_option maxHeartbeats 3200000 in
theorem partEqual16 (g n cap a b p : Nat) (xs : List Nat) (w : World) (h : U16 w g cap xs) (hl : xs.length = n) (hap : a ≤ p) (hpb : p < b) (hb : b ≤ n) (hn : n ≤ 1000000) :
    Calls Try.prog 24 #[.slice (some ⟨g, 0, none⟩) n cap, .int .i64 (a : Int), .int .i64 (b : Int), .int .i64 (p : Int)] w (RetPlace w g cap xs (a + 1) b) := by
  have HL := hid hl
  have HM : Hid (Mix w g cap xs w) := Mix.refl h
  clear hl h
  have han : a < n := by omega
  have hpn : p < n := by omega
  obtain ⟨ys, hO, hP, hG⟩ := HM.out
  have hly : ys.length = n := by rw [hP.length_eq, HL.out]
  have g1 := hO.cell (j := a) (by omega)
  have f1 := hO.frozen (a)
  have g2 := hO.cell (j := p) (by omega)
  have f2 := hO.frozen (p)
  have HS := hid (fun x y => Mix.swap (x := x) (y := y) hO hP hG (i := a) (j := p) (by omega) (by omega))
  have g3' := fun y => (hO.set (a) y).cell (j := p) (by rw [List.length_set]; omega)
  clear hO hP hG hly HM
  generalize hx1 : ys.getD (a) 0 = x1 at g1 HS
  generalize hx2 : ys.getD (p) 0 = x2 at g2 HS
  have g3 := g3' x2
  clear g3'
  generalize (ys.set (a) x2).getD (p) 0 = x3 at g3
  have HS2 := hid (HS.out x1 x2 rfl rfl)
  clear HS hx1 hx2
  go_enter Try.func24, Try.ntmps24
  go_wp2_with fail
  go_region
  have HM := hid HS2.out.drew
  clear HS2 g1 g2 g3 f1 f2
  generalize World.drew (World.setCell _ _ _) = wq at HM ⊢
  go_wp2
  go_loopg [9, 10] n (fun gh s t wr => ∃ i j : Nat, a + 1 ≤ i ∧ i ≤ b ∧ a ≤ j ∧ j < b ∧ n - i ≤ gh ∧ s = .int .i64 (i : Int) ∧ t = .int .i64 (j : Int) ∧ Mix w g cap xs wr)
  case atStart => exact ⟨a + 1, b - 1, by omega, by omega, by omega, by omega, by omega, by go_num, by go_num, HM.out⟩
  case round =>
    clear HM
    obtain ⟨i0, j, hi0, hi1, hj0, hj1, hgh, rfl, rfl, hmix⟩ := hrel
    have HM := hid hmix
    clear hmix
    go_upto_block 2 with fail
    go_cut [9] (fun s wr => ∃ i : Nat, i0 ≤ i ∧ i ≤ b ∧ s = .int .i64 (i : Int) ∧ Mix w g cap xs wr)
    case first =>
      go_wp2_with fail
      go_loopg [9] (n - i0) (fun gh s wr => ∃ i : Nat, i0 ≤ i ∧ i ≤ b ∧ n - i ≤ gh ∧ s = .int .i64 (i : Int) ∧ Mix w g cap xs wr)
      case atStart => exact ⟨i0, by omega, by omega, by omega, by first | rfl | go_num, HM.out⟩
      case round =>
        clear HM
        obtain ⟨i, hv0, hv1, hvg, rfl, hmix⟩ := hrel
        have HM := hid hmix
        clear hmix
        by_cases hij : i ≤ j
        · have hd : decide (i ≤ j) = true := by simpa using hij
          have hin : i < n := by omega
          have hjn : j < n := by omega
          have han : a < n := by omega
          obtain ⟨ys, hO, hP, hG⟩ := HM.out
          have hly : ys.length = n := by rw [hP.length_eq, HL.out]
          have g1 := hO.cell (j := a) (by omega)
          have g2 := hO.cell (j := i) (by omega)
          clear hO hP hG hly
          generalize hx1 : ys.getD a 0 = x1 at g1
          generalize hx2 : ys.getD i 0 = x2 at g2
          clear hx1 hx2
          cases hc : decide ((x1 : Int) < (x2 : Int))
          case false =>
            go_wp2_with fail
            go_quiet ((go_at_call 23; exact Calls.quiet_of_same (less16_b _ _ _ _ hc)))
            go_wp2
            go_roundg (n - (i + 1))
            case measure => omega
            case rel => exact ⟨i + 1, by omega, by omega, by omega, by go_num, HM.out.drewN _⟩
          case true =>
            go_wp2_with fail
            go_quiet ((go_at_call 23; exact Calls.quiet_of_same (less16_b _ _ _ _ hc)))
            go_wp2
            go_meet
            exact ⟨i, by omega, by omega, rfl, HM.out.drewN _⟩
        · have hd : decide (i ≤ j) = false := by simpa using hij
          go_wp2_with fail
          go_quiet (fail)
          go_wp2
          go_meet
          exact ⟨i, by omega, by omega, rfl, HM.out.drewN _⟩
    case rest =>
      clear HM
      obtain ⟨i, hi2, hi3, rfl, hmix⟩ := hcut
      have HM := hid hmix
      clear hmix
      obtain ⟨j0, hj⟩ : ∃ j0, j0 = j := ⟨_, rfl⟩
      rw [← hj] at hj0 hj1 ⊢
      clear hj
      clear j
      go_upto_block 4 with fail
      go_cut [10] (fun s wr => ∃ j : Nat, a ≤ j ∧ j ≤ j0 ∧ s = .int .i64 (j : Int) ∧ Mix w g cap xs wr)
      case first =>
        go_wp2_with fail
        go_loopg [10] (j0) (fun gh s wr => ∃ j : Nat, a ≤ j ∧ j ≤ j0 ∧ j ≤ gh ∧ s = .int .i64 (j : Int) ∧ Mix w g cap xs wr)
        case atStart => exact ⟨j0, by omega, by omega, by omega, by first | rfl | go_num, HM.out⟩
        case round =>
          clear HM
          obtain ⟨j, hv0, hv1, hvg, rfl, hmix⟩ := hrel
          have HM := hid hmix
          clear hmix
          by_cases hij : i ≤ j
          · have hd : decide (i ≤ j) = true := by simpa using hij
            have hin : i < n := by omega
            have hjn : j < n := by omega
            have han : a < n := by omega
            obtain ⟨ys, hO, hP, hG⟩ := HM.out
            have hly : ys.length = n := by rw [hP.length_eq, HL.out]
            have g1 := hO.cell (j := a) (by omega)
            have g2 := hO.cell (j := j) (by omega)
            clear hO hP hG hly
            generalize hx1 : ys.getD a 0 = x1 at g1
            generalize hx2 : ys.getD j 0 = x2 at g2
            clear hx1 hx2
            cases hc : decide ((x1 : Int) < (x2 : Int))
            case true =>
              go_wp2_with fail
              go_quiet ((go_at_call 23; exact Calls.quiet_of_same (less16_b _ _ _ _ hc)))
              go_wp2
              go_roundg ((j - 1))
              case measure => omega
              case rel => exact ⟨j - 1, by omega, by omega, by omega, by go_num, HM.out.drewN _⟩
            case false =>
              go_wp2_with fail
              go_quiet ((go_at_call 23; exact Calls.quiet_of_same (less16_b _ _ _ _ hc)))
              go_wp2
              go_meet
              exact ⟨j, by omega, by omega, rfl, HM.out.drewN _⟩
          · have hd : decide (i ≤ j) = false := by simpa using hij
            go_wp2_with fail
            go_quiet (fail)
            go_wp2
            go_meet
            exact ⟨j, by omega, by omega, rfl, HM.out.drewN _⟩
      case rest =>
        clear HM
        obtain ⟨j, hj2, hj3, rfl, hmix⟩ := hcut
        have HM := hid hmix
        clear hmix
        by_cases hij : i ≤ j
        · have hin : i < n := by omega
          have hjn : j < n := by omega
          obtain ⟨ys, hO, hP, hG⟩ := HM.out
          have hly : ys.length = n := by rw [hP.length_eq, HL.out]
          have g1 := hO.cell (j := i) (by omega)
          have f1 := hO.frozen (i)
          have g2 := hO.cell (j := j) (by omega)
          have f2 := hO.frozen (j)
          have HS := hid (fun x y => Mix.swap (x := x) (y := y) hO hP hG (i := i) (j := j) (by omega) (by omega))
          have g3' := fun y => (hO.set (i) y).cell (j := j) (by rw [List.length_set]; omega)
          clear hO hP hG hly HM
          generalize hx1 : ys.getD (i) 0 = x1 at g1 HS
          generalize hx2 : ys.getD (j) 0 = x2 at g2 HS
          have g3 := g3' x2
          clear g3'
          generalize (ys.set (i) x2).getD (j) 0 = x3 at g3
          have HS2 := hid (HS.out x1 x2 rfl rfl)
          clear HS hx1 hx2
          go_wp2_with fail
          go_region
          go_wp2
          go_roundg (n - (i + 1))
          case measure => omega
          case rel => exact ⟨i + 1, j - 1, by omega, by omega, by omega, by omega, by omega, by go_num, by go_num, HS2.out.drew⟩
        · go_wp2
          go_ret
          exact ⟨i, by omega, by omega, rfl, HM.out⟩

end Go.Proofs.Ytlmkkccokemaiaa
