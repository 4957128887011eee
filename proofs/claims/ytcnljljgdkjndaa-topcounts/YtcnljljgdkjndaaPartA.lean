/-
  parts.Check and castref.SumErr: the answer is partErr of the list.
-/
import Derived.Test.YtcnljljgdkjndaaPartM
namespace Go.Proofs.Ytcnljljgdkjndaa
open Go.RowKit

theorem partErr_code_of {xs : List Int} {k : Nat} {e : Int} (hk : k < xs.length) (hall : ∀ j, j < k → partErrAt xs j = 0) (he : partErrAt xs k = e) (h0 : e ≠ 0) : Ending.returned (.int .i64 e) = .returned (.int .i64 (partErr xs)) := by rw [partErr_at hk hall he h0]

set_option maxHeartbeats 800000 in
theorem pcheck_any (A : Option Addr) (n c : Nat) (xs : List Int) (w : World) (h : Ints w A n xs) (hm : n ≤ 9223372036854775807) :
    Calls Try.prog 70 #[.slice A n c] w fun e w' => e = .returned (.int .i64 (partErr xs)) ∧ w = w' := by
  go_enter Try.func70, Try.ntmps70
  go_wp2
  go_loopg [3, 8] n (fun g s t wr => ∃ (k : Nat) (S : Int), k ≤ n ∧ n - k ≤ g ∧ s = .int .i64 S ∧ t = .int .i64 k ∧ S = (xs.take k).sum ∧ 0 ≤ S ∧ S ≤ 40 ∧ w = wr ∧ ∀ j, j < k → partErrAt xs j = 0)
  case atStart => exact ⟨0, 0, Nat.zero_le _, by omega, rfl, rfl, by simp, by omega, by omega, rfl, fun j hj => absurd hj (Nat.not_lt_zero _)⟩
  case round =>
    obtain ⟨k, S, hk, hg, rfl, rfl, hS, hS0, hS1, rfl, hall⟩ := hrel
    have HA := hid hall
    have HS := hid hS
    clear hall hS
    by_cases hlt : k < n
    · obtain ⟨b, o, rfl, hb, hc⟩ := h.row (by omega)
      have HL := hid h.len
      have g1 := hc k hlt
      have HK : Hid (k < xs.length) := by rw [HL.out]; exact hlt
      have HT : Hid ((xs.take (k + 1)).sum = S + xs.getD k 0) := by rw [HS.out]; exact sum_take_snoc HK.out
      have HP : Hid (0 < k → w.cell? ⟨b, o + (k - 1), none⟩ = some (.int .i64 (xs.getD (k - 1) 0))) := fun h0 => hc (k - 1) (by omega)
      clear hc h
      generalize hx : xs.getD k 0 = x at g1 HT
      have HX := hid hx
      clear hx
      by_cases h1 : x < 1
      · go_wp2
        go_ret
        exact ⟨partErr_code_of HK.out HA.out (by unfold partErrAt; rw [if_pos (by rw [HX.out]; exact Or.inl h1)]) (by decide), rfl⟩
      · by_cases h2 : 40 < x
        · go_wp2
          go_ret
          exact ⟨partErr_code_of HK.out HA.out (by unfold partErrAt; rw [if_pos (by rw [HX.out]; exact Or.inr h2)]) (by decide), rfl⟩
        · by_cases h0 : k = 0
          · subst h0
            rw [Nat.add_zero] at g1
            have hS00 : S = 0 := by rw [HS.out]; simp
            subst hS00
            have h3 : ¬ 40 < 0 + x := by omega
            go_wp2
            go_roundg (n - 1)
            case measure => omega
            case rel =>
              refine ⟨1, x, by omega, by omega, by go_num, by go_num, by rw [HT.out]; omega, by omega, by omega, rfl, fun j hj => ?_⟩
              obtain rfl : j = 0 := by omega
              exact partErrAt_mk (by rw [HX.out]; omega) (by rw [HX.out]; omega) (fun h => by omega) (by rw [HT.out]; omega)
          · obtain ⟨m, hkm⟩ : ∃ m, k = m + 1 := ⟨k - 1, by omega⟩
            have g2 : w.cell? ⟨b, o + m, none⟩ = some (.int .i64 (xs.getD m 0)) := by have := HP.out (by omega); rwa [hkm] at this
            have HKM := hid hkm
            have hd : decide (0 < k) = true := by simp; omega
            have hwr : IntKind.i64.wrap ((k : Int) - 1) = (m : Int) := by rw [IntWalk.i64_in _ (by omega)]; omega
            have hmn : m < n := by omega
            have hmN : (m : Int) < (n : Int) := by omega
            clear hkm HP
            generalize hy : xs.getD m 0 = y at g2
            have HY := hid hy
            clear hy
            by_cases h3 : y < x
            · go_wp2
              go_ret
              exact ⟨partErr_code_of HK.out HA.out (by unfold partErrAt; rw [if_neg (by rw [HX.out]; omega), if_pos (by rw [HX.out]; have := HKM.out; refine ⟨by omega, ?_⟩; rw [this, Nat.add_sub_cancel, HY.out]; exact h3)]) (by decide), rfl⟩
            · have HC : Hid (0 < k → xs.getD k 0 ≤ xs.getD (k - 1) 0) := by
                intro _
                have e := HKM.out
                rw [HX.out, e, Nat.add_sub_cancel, HY.out]
                omega
              by_cases h4 : 40 < S + x
              · go_wp2
                go_ret
                exact ⟨partErr_code_of HK.out HA.out (by unfold partErrAt; rw [if_neg (by rw [HX.out]; omega), if_neg (fun h => by have := HC.out h.1; omega), if_pos (by rw [HT.out]; exact h4)]) (by decide), rfl⟩
              · go_wp2
                go_roundg (n - (k + 1))
                case measure => omega
                case rel =>
                  refine ⟨k + 1, S + x, by omega, by omega, by go_num, by go_num, HT.out.symm, by omega, by omega, rfl, fun j hj => ?_⟩
                  by_cases e : j = k
                  · subst e
                    exact partErrAt_mk (by rw [HX.out]; omega) (by rw [HX.out]; omega) HC.out (by rw [HT.out]; omega)
                  · exact HA.out j (by omega)
    · have hkn : k = n := by omega
      subst hkn
      go_wp2
      go_ret
      rw [partErr_ok (by rw [← h.len] at HA; exact HA.out)]
      exact ⟨rfl, rfl⟩

end Go.Proofs.Ytcnljljgdkjndaa
