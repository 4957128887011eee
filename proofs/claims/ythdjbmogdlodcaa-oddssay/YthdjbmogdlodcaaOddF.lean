/-
  castref.OddsErr.
-/
import Derived.Test.YthdjbmogdlodcaaOddA
import Derived.Test.YthdjbmogdlodcaaRats
import Derived.BigRegion
namespace Go.Proofs.Ythdjbmogdlodcaa
open Go.RowKit

theorem max_small {x M z : Int} (hz : IntKind.i64.wrap (-x) = z) (hM : M = if z > x then z else x) (h : -20 ≤ x) (h' : x ≤ 20) : M ≤ 20 := by
  have : IntKind.i64.wrap (-x) = -x := IntWalk.i64_in _ (by omega)
  rw [this] at hz
  subst hz hM
  split <;> omega
theorem max_great {x M z : Int} (hM : M = if z > x then z else x) (h : 20 < x) : 20 < M := by
  subst hM
  split <;> omega

set_option maxHeartbeats 3200000 in
set_option maxRecDepth 100000 in
theorem refOddsErr_any (A : Option Addr) (n c : Nat) (B : Option Addr) (m d : Nat) (vs ws : List Int) (w : World) (hI : Ints w A n vs) (hJ : Ints w B m ws) :
    Calls Try.prog 14 #[.agg #[.slice A n c, .slice B m d]] w (RetE w (oddErr vs ws)) := by
  have HB0 : Hid (Below w.heap.size w (w.alloc (.cells #[.slice A n c, .slice B m d] 24))) := below_alloc w _
  have hl := hI.len
  have hm := hJ.len
  have HI := hid hI
  have HJ := hid hJ
  clear hI hJ
  by_cases h1 : n < 1
  · have HE : Hid (oddErr vs ws = 2) := oddErr_large (by omega)
    obtain rfl : n = 0 := by omega
    clear hl hm
    go_enter Try.func14, Try.ntmps14
    go_wp2
    go_ret
    exact ⟨by rw [HE.out]; rfl, HB0.out⟩
  · by_cases h2 : 12 < n
    · have HE : Hid (oddErr vs ws = 2) := oddErr_large (by omega)
      have h1I : ((n : Int) == 0) = false := by simp; omega
      have h2I : 12 < (n : Int) := by omega
      clear hl hm
      go_enter Try.func14, Try.ntmps14
      go_wp2
      go_ret
      exact ⟨by rw [HE.out]; rfl, HB0.out⟩
    · have h1I : ((n : Int) == 0) = false := by simp; omega
      have h2I : ¬ 12 < (n : Int) := by omega
      by_cases h3 : m = n
      · subst h3
        have HL := hid hl
        have HM := hid hm
        clear hl hm
        go_enter Try.func14, Try.ntmps14
        go_wp2_with fail
        obtain ⟨W, hW⟩ : ∃ W, W = w.alloc (.cells #[.slice A m c, .slice B m d] 24) := ⟨_, rfl⟩
        have HO : Hid (OddsAt W w.heap.size A m c B m d) := by rw [hW]; exact OddsAt.new w _ A m c B m d
        have HI1 : Hid (Ints W A m vs) := by rw [hW]; exact HI.out.keep (below_alloc _ _)
        have HJ1 : Hid (Ints W B m ws) := by rw [hW]; exact HJ.out.keep (below_alloc _ _)
        rw [← hW] at HB0 ⊢
        clear hW HI HJ
        have g0 := HO.out.p0
        go_loopg [24, 3] m (fun g s _ wr => ∃ k : Nat, k ≤ m ∧ m - k ≤ g ∧ s = .int .i64 k ∧ Below W.heap.size W wr ∧ ∀ j, j < k → oneOk (vs.getD j 0) (ws.getD j 0) = true)
        case atStart => exact ⟨0, Nat.zero_le _, by omega, rfl, Below.refl _ _, fun j hj => absurd hj (Nat.not_lt_zero _)⟩
        case round =>
          clear g0
          obtain ⟨k, hk, hg, rfl, hbel, hall⟩ := hrel
          have HA := hid hall
          have HBE := hid hbel
          clear hall hbel
          by_cases hlt : k < m
          · obtain ⟨b, o, rfl, hb, hc⟩ := (HI1.out.keep HBE.out).row (by omega)
            obtain ⟨b', o', rfl, hb', hc'⟩ := (HJ1.out.keep HBE.out).row (by omega)
            have g0 := (HO.out.keep HBE.out).p0
            have g1 := (HO.out.keep HBE.out).p1
            have g2 := hc k hlt
            have g3 := hc' k hlt
            have HR : Hid (oneOk (vs.getD k 0) (ws.getD k 0) = false → oddErr vs ws = 1) := fun h => oddErr_arg (by rw [HL.out]; omega) (by rw [HL.out]; omega) (by rw [HL.out, HM.out]) (j := k) (by rw [HL.out]; exact hlt) h
            have HY : Hid (-20 ≤ vs.getD k 0 ∧ vs.getD k 0 ≤ 20 ∧ 1 ≤ ws.getD k 0 ∧ ws.getD k 0 ≤ 100 → ∀ j, j < k + 1 → oneOk (vs.getD j 0) (ws.getD j 0) = true) := fun h j hj => by
              by_cases e : j = k
              · subst e
                exact decide_eq_true h
              · exact HA.out j (by omega)
            have hkI : (k : Int) < (m : Int) := by omega
            have HNO : Hid (¬ (-20 ≤ vs.getD k 0 ∧ vs.getD k 0 ≤ 20 ∧ 1 ≤ ws.getD k 0 ∧ ws.getD k 0 ≤ 100) → oneOk (vs.getD k 0) (ws.getD k 0) = false) := fun h => decide_eq_false h
            clear hc hc' HA
            generalize vs.getD k 0 = x at *
            generalize ws.getD k 0 = y at *
            obtain ⟨z, hz⟩ : ∃ z, IntKind.i64.wrap (-x) = z := ⟨_, rfl⟩
            obtain ⟨M, hM⟩ : ∃ M, M = if z > x then z else x := ⟨_, rfl⟩
            have hmax := run_maxMM (P := Try.prog) x z M hM
            have HMS : Hid (-20 ≤ x → x ≤ 20 → M ≤ 20) := max_small hz hM
            have HMG : Hid (20 < x → 20 < M) := max_great hM
            clear hM
            by_cases c1 : 20 < M
            · have HX := hid (HR.out (HNO.out (fun h => by have := HMS.out h.1 h.2.1; omega)))
              have d1 : decide (20 < M) = true := decide_eq_true c1
              go_wp2_with fail
              go_quiet (fail)
              go_wp2
              go_ret
              exact ⟨by rw [HX.out]; rfl, below_drewN (below_step HB0.out (by simp) HBE.out) _⟩
            · have d1 : decide (20 < M) = false := decide_eq_false c1
              by_cases c2 : x < -20
              · have HX := hid (HR.out (HNO.out (by omega)))
                have d2 : decide (x < -20) = true := decide_eq_true c2
                go_wp2_with fail
                go_quiet (fail)
                go_wp2
                go_ret
                exact ⟨by rw [HX.out]; rfl, below_drewN (below_step HB0.out (by simp) HBE.out) _⟩
              · have d2 : decide (x < -20) = false := decide_eq_false c2
                by_cases c3 : y < 1
                · have HX := hid (HR.out (HNO.out (by omega)))
                  have d3 : decide (y < 1) = true := decide_eq_true c3
                  go_wp2_with fail
                  go_quiet (fail)
                  go_wp2
                  go_ret
                  exact ⟨by rw [HX.out]; rfl, below_drewN (below_step HB0.out (by simp) HBE.out) _⟩
                · have d3 : decide (y < 1) = false := decide_eq_false c3
                  by_cases c4 : 100 < y
                  · have HX := hid (HR.out (HNO.out (by omega)))
                    have d4 : decide (100 < y) = true := decide_eq_true c4
                    go_wp2_with fail
                    go_quiet (fail)
                    go_wp2
                    go_ret
                    exact ⟨by rw [HX.out]; rfl, below_drewN (below_step HB0.out (by simp) HBE.out) _⟩
                  · have HX := hid (HY.out ⟨by omega, by apply Classical.byContradiction; intro h; exact c1 (HMG.out (by omega)), by omega, by omega⟩)
                    have d4 : decide (100 < y) = false := decide_eq_false c4
                    go_wp2_with fail
                    go_quiet (fail)
                    go_wp2
                    go_roundg (m - (k + 1))
                    case measure => omega
                    case rel => exact ⟨k + 1, by omega, by omega, by go_num, below_drewN HBE.out _, HX.out⟩
          · obtain rfl : k = m := by omega
            have HE : Hid (oddErr vs ws = 0) := oddErr_ok (by rw [HL.out]; omega) (by rw [HL.out]; omega) (by rw [HL.out, HM.out]) (by rw [HL.out]; exact HA.out)
            go_wp2
            go_ret
            exact ⟨by rw [HE.out]; rfl, below_step HB0.out (by simp) HBE.out⟩
      · have HE : Hid (oddErr vs ws = 3) := oddErr_form (by omega) (by omega) (by omega)
        have h3I : ((m : Int) == (n : Int)) = false := by simp; omega
        have h3J : ((m : Int) != (n : Int)) = true := by simp; omega
        clear hl hm
        go_enter Try.func14, Try.ntmps14
        go_wp2
        go_ret
        exact ⟨by rw [HE.out]; rfl, HB0.out⟩
end Go.Proofs.Ythdjbmogdlodcaa
