/-
  slices.SortFunc at []int with perm.Cycles's comparison, up to twelve numbers: in falling order.
-/
import Derived.Test.YtbcjfiobggggjaaRst
import Derived.Test.YtbcjfiobggggjaaCmp
import Derived.Test.YtbcjfiobggggjaaIns
namespace Go.Proofs.Ytbcjfiobggggjaa
open Go.RowKit

set_option maxHeartbeats 400000 in
theorem cycles1_any (x y : Int) (w : World) : Calls Try.prog 107 #[.int .i64 x, .int .i64 y] w fun e w' => e = .returned (.int .i64 (cmpI y x)) ∧ w = w' := by
  go_enter Try.func107, Try.ntmps107
  go_wp2_with fail
  refine (compare_any y x _).mono ?_
  rintro e w' ⟨rfl, rfl⟩
  go_wp2
  go_ret
  exact ⟨rfl, rfl⟩

/-- The slice's numbers have been put in order; nothing else that was there has turned. -/
def RetSort (r : Int → Int → Prop) (w : World) (base g n cap : Nat) (xs : List Int) (e : Ending) (w' : World) : Prop :=
  e = .returned (.tuple #[]) ∧ ∃ ys, OwnInts w' base (.slice (some ⟨g, 0, none⟩) n cap) ys ∧ ys.Perm xs ∧ SortedTo r ys n ∧ w.grownBy w' (some g)

def falls (a b : Int) : Prop := b ≤ a

set_option maxHeartbeats 1600000 in
theorem insertionF_any (base g n cap : Nat) (xs : List Int) (w : World) (h : OwnInts w base (.slice (some ⟨g, 0, none⟩) n cap) xs) (hl : xs.length = n) (hn : n ≤ 1000000) (hn1 : 1 ≤ n) :
    Calls Try.prog 120 #[.slice (some ⟨g, 0, none⟩) n cap, .int .i64 0, .int .i64 n, .func (.func 107) #[] #[]] w (RetSort falls w base g n cap xs) := by
  go_enter Try.func120, Try.ntmps120
  go_wp2
  go_loopg [8] n (fun gh s wr => ∃ (i : Nat) (zs : List Int), i ≤ n ∧ 1 ≤ i ∧ n - i ≤ gh ∧ s = .int .i64 i ∧ OwnInts wr base (.slice (some ⟨g, 0, none⟩) n cap) zs ∧ zs.Perm xs ∧ SortedTo falls zs i ∧ w.grownBy wr (some g))
  case atStart => exact ⟨1, xs, hn1, Nat.le_refl _, by omega, rfl, h, List.Perm.refl _, fun u v huv hv => by omega, only_refl _ _⟩
  case round =>
    obtain ⟨i, zs, hi, hi1, hg, rfl, hown, hperm, hsort, hgrow⟩ := hrel
    have HO := hid hown
    have HP := hid hperm
    have HS := hid hsort
    have HG := hid hgrow
    clear hown hperm hsort hgrow h
    by_cases hlt : i < n
    · go_wp2
      go_loopg [9] i (fun gh s wr => ∃ (j : Nat) (ys : List Int), j ≤ i ∧ j ≤ gh ∧ s = .int .i64 j ∧ OwnInts wr base (.slice (some ⟨g, 0, none⟩) n cap) ys ∧ ys.Perm xs ∧ InsInv falls ys i j ∧ w.grownBy wr (some g))
      case atStart => exact ⟨i, zs, Nat.le_refl _, Nat.le_refl _, rfl, HO.out, HP.out, ins_start HS.out, HG.out⟩
      case round =>
        obtain ⟨j, ys, hj, hgj, rfl, hown, hperm, hins, hgrow⟩ := hrel
        have HO2 := hid hown
        have HP2 := hid hperm
        have HI2 := hid hins
        have HG2 := hid hgrow
        clear hown hperm hins hgrow HO HP HS HG
        have hly : ys.length = n := by rw [HP2.out.length_eq, hl]
        have HLY := hid hly
        by_cases hj0 : j = 0
        · subst hj0
          have hd : decide ((0 : Int) < 0) = false := by simp
          go_wp2_with fail
          go_quiet (fail)
          go_wp2
          go_roundg (n - (i + 1))
          case measure => omega
          case rel => exact ⟨i + 1, ys, by omega, by omega, by omega, by go_num, HO2.out.drewN _, HP2.out, ins_zero HI2.out, only_drewN HG2.out _⟩
        · obtain ⟨m, hjm⟩ : ∃ m, j = m + 1 := ⟨j - 1, by omega⟩
          have HJ := hid hjm
          have hmj : m < j := by omega
          have hpos : 0 < j := by omega
          have hd : decide (0 < j) = true := by simp; omega
          have hwr : IntKind.i64.wrap ((j : Int) - 1) = (m : Int) := by rw [IntWalk.i64_in _ (by omega)]; omega
          have hjN : (j : Int) < (n : Int) := by omega
          have hmN : (m : Int) < (n : Int) := by omega
          have hjn : j < n := by omega
          have hmn : m < n := by omega
          have hO : OwnInts wr base (.slice (some ⟨g, 0, none⟩) ys.length cap) ys := by rw [hly]; exact HO2.out
          have g1 : wr.cell? ⟨g, j, none⟩ = some (.int .i64 (ys.getD j 0)) := hO.cell (by omega)
          have g2 : wr.cell? ⟨g, m, none⟩ = some (.int .i64 (ys.getD m 0)) := hO.cell (by omega)
          have f1 : wr.frozen? ⟨g, j, none⟩ = false := hO.frozen j
          have f2 : wr.frozen? ⟨g, m, none⟩ = false := hO.frozen m
          have HSW : Hid (swapAt ys j m = (ys.set j (ys.getD m 0)).set m (ys.getD j 0)) := rfl
          clear hO hly hjm
          generalize hx : ys.getD j 0 = x at g1 HSW
          generalize hy : ys.getD m 0 = y at g2 HSW
          have HX := hid hx
          have HY := hid hy
          clear hx hy
          by_cases hyx : y < x
          · have hc : decide (cmpI y x < 0) = true := by rw [cmpI_neg]; simpa using hyx
            go_wp2_with fail
            go_quiet ((go_at_call 107; exact Calls.quiet_of_same (quiet_left (cycles1_any _ _ _))))
            go_wp2_with fail
            go_region
            go_wp2
            have hjm := HJ.out
            go_roundg m
            case measure => omega
            case rel =>
              refine ⟨m, swapAt ys j m, by omega, Nat.le_refl _, by go_num, ?_, (perm_swapAt (by rw [HLY.out]; exact hjn) (by rw [HLY.out]; exact hmn)).trans HP2.out, ?_, ?_⟩
              · rw [HSW.out]
                exact (((HO2.out.set HLY.out.symm j y).set (by rw [List.length_set]; exact HLY.out.symm) m x).drewN _)
              · have hI := HI2.out
                rw [hjm] at hI ⊢
                refine ins_step hI (by omega) (by rw [HLY.out]; exact hlt) ?_
                rw [← hjm, HX.out, HY.out]
                unfold falls
                omega
              · exact only_drewN (only_set (only_set HG2.out j _) m _) _
          · have hc : decide (cmpI y x < 0) = false := by rw [cmpI_neg]; simpa using hyx
            go_wp2_with fail
            go_quiet ((go_at_call 107; exact Calls.quiet_of_same (quiet_left (cycles1_any _ _ _))))
            go_wp2
            go_roundg (n - (i + 1))
            case measure => omega
            case rel =>
              refine ⟨i + 1, ys, by omega, by omega, by omega, by go_num, HO2.out.drewN _, HP2.out, ?_, only_drewN HG2.out _⟩
              have hI := HI2.out
              rw [HJ.out] at hI
              refine ins_done (fun a b c h1 h2 => by unfold falls at *; omega) hI ?_
              rw [← HJ.out, HX.out, HY.out]
              unfold falls
              omega
    · have hin : i = n := by omega
      subst hin
      go_wp2
      go_end0
      exact ⟨rfl, zs, HO.out, HP.out, HS.out, HG.out⟩

end Go.Proofs.Ytbcjfiobggggjaa
