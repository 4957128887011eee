/-
  The library's sort at []uint16: siftDownOrdered, heapSortOrdered.
-/
import Derived.Test.YtlmkkccokemaiaaSixB
namespace Go.Proofs.Ytlmkkccokemaiaa
open Go.RowKit

set_option maxHeartbeats 3200000 in
theorem sift16 (g n cap lo hi first : Nat) (xs : List Nat) (w : World) (h : U16 w g cap xs) (hl : xs.length = n) (hlo : lo ≤ n) (hhi : first + hi ≤ n) (hn : n ≤ 1000000) :
    Calls Try.prog 28 #[.slice (some ⟨g, 0, none⟩) n cap, .int .i64 (lo : Int), .int .i64 (hi : Int), .int .i64 (first : Int)] w (RetMix w g cap xs) := by
  have HL := hid hl
  have H0 := hid h
  clear hl h
  go_enter Try.func28, Try.ntmps28
  go_wp2
  go_loopg [8] (hi - lo) (fun gh s wr => ∃ r : Nat, r ≤ n ∧ hi - r ≤ gh ∧ s = .int .i64 (r : Int) ∧ Mix w g cap xs wr)
  case atStart => exact ⟨lo, hlo, by omega, rfl, Mix.refl H0.out⟩
  case round =>
    obtain ⟨r, hr, hg, rfl, hmix⟩ := hrel
    have HM := hid hmix
    clear hmix
    obtain ⟨c, hcr⟩ : ∃ c, c = 2 * r + 1 := ⟨_, rfl⟩
    have hcI : (2 : Int) * (r : Int) + 1 = (c : Int) := by omega
    have HC := hid hcr
    clear hcr
    by_cases hch : hi ≤ c
    · go_wp2
      go_end0
      exact ⟨rfl, HM.out⟩
    · have hrc : r < c := by omega
      have hchi : c < hi := by omega
      obtain ⟨c1, hc1⟩ : ∃ c1, c1 = c + 1 := ⟨_, rfl⟩
      obtain ⟨p, hp⟩ : ∃ p, p = first + r := ⟨_, rfl⟩
      obtain ⟨q, hq⟩ : ∃ q, q = first + c := ⟨_, rfl⟩
      obtain ⟨q1, hq1⟩ : ∃ q1, q1 = first + c1 := ⟨_, rfl⟩
      have w1 : IntKind.i64.wrap ((c : Int) + 1) = (c1 : Int) := by rw [IntWalk.i64_in _ (by omega)]; omega
      have w2 : IntKind.i64.wrap ((first : Int) + (r : Int)) = (p : Int) := by rw [IntWalk.i64_in _ (by omega)]; omega
      have w3 : IntKind.i64.wrap ((first : Int) + (c : Int)) = (q : Int) := by rw [IntWalk.i64_in _ (by omega)]; omega
      have w4 : IntKind.i64.wrap ((first : Int) + (c1 : Int)) = (q1 : Int) := by rw [IntWalk.i64_in _ (by omega)]; omega
      have w5 : IntKind.i64.wrap ((q : Int) + 1) = (q1 : Int) := by rw [IntWalk.i64_in _ (by omega)]; omega
      have w6 : (c : Int) + 1 = (c1 : Int) := by omega
      have hpn : p < n := by omega
      have hqn : q < n := by omega
      have hpq : p ≠ q := by omega
      have HC1 := hid hc1
      by_cases hcc : c1 < hi
      · have hq1n : q1 < n := by omega
        have hpq1 : p ≠ q1 := by omega
        have hd : decide (c1 < hi) = true := by simpa using hcc
        clear hp hq hq1 hc1
        obtain ⟨ys, hO, hP, hG⟩ := HM.out
        have hly : ys.length = n := by rw [hP.length_eq, HL.out]
        have g2 := hO.cell (j := q) (by omega)
        have g3 := hO.cell (j := q1) (by omega)
        clear hO hP hG hly
        generalize hx2 : ys.getD q 0 = x2 at g2
        generalize hx3 : ys.getD q1 0 = x3 at g3
        by_cases hyx0 : (x2 : Int) < (x3 : Int)
        · have hc : decide ((x2 : Int) < (x3 : Int)) = true := by simpa using hyx0
          go_wp2_with fail
          go_quiet ((go_at_call 23; exact Calls.quiet_of_same (less16_b _ _ _ _ hc)))
          clear hc hyx0 g2 g3 hx2 hx3
          replace HM := hid (HM.out.drewN nq)
          obtain ⟨wq, hwq⟩ : ∃ wq, wq = wr.drewN nq := ⟨_, rfl⟩
          rw [← hwq] at HM ⊢
          clear hwq
          obtain ⟨ys, hO, hP, hG⟩ := HM.out
          have hly : ys.length = n := by rw [hP.length_eq, HL.out]
          have g1 := hO.cell (j := p) (by omega)
          have f1 := hO.frozen (p)
          have g2 := hO.cell (j := q1) (by omega)
          have f2 := hO.frozen (q1)
          have HS := hid (fun x y => Mix.swap (x := x) (y := y) hO hP hG (i := p) (j := q1) (by omega) (by omega))
          clear hO hP hG hly
          generalize hx1 : ys.getD (p) 0 = x1 at g1 HS
          generalize hx2 : ys.getD (q1) 0 = x2 at g2 HS
          have HS2 := hid (HS.out x1 x2 rfl rfl)
          clear HS hx1 hx2
          by_cases hyx : (x1 : Int) < (x2 : Int)
          · have hc : decide ((x1 : Int) < (x2 : Int)) = true := by simpa using hyx
            go_wp2_with fail
            go_quiet ((go_at_call 23; exact Calls.quiet_of_same (less16_b _ _ _ _ hc)))
            go_wp2_with fail
            go_region
            go_wp2
            have hch := HC.out
            have hch1 := HC1.out
            go_roundg (hi - c1)
            case measure => omega
            case rel => exact ⟨c1, by omega, Nat.le_refl _, rfl, HS2.out.drewN _⟩
          · have hc : decide ((x1 : Int) < (x2 : Int)) = false := by simpa using hyx
            go_wp2_with fail
            go_quiet ((go_at_call 23; exact Calls.quiet_of_same (less16_b _ _ _ _ hc)))
            go_wp2
            go_end0
            exact ⟨rfl, HM.out.drewN _⟩
        · have hc : decide ((x2 : Int) < (x3 : Int)) = false := by simpa using hyx0
          go_wp2_with fail
          go_quiet ((go_at_call 23; exact Calls.quiet_of_same (less16_b _ _ _ _ hc)))
          clear hc hyx0 g2 g3 hx2 hx3
          replace HM := hid (HM.out.drewN nq)
          obtain ⟨wq, hwq⟩ : ∃ wq, wq = wr.drewN nq := ⟨_, rfl⟩
          rw [← hwq] at HM ⊢
          clear hwq
          obtain ⟨ys, hO, hP, hG⟩ := HM.out
          have hly : ys.length = n := by rw [hP.length_eq, HL.out]
          have g1 := hO.cell (j := p) (by omega)
          have f1 := hO.frozen (p)
          have g2 := hO.cell (j := q) (by omega)
          have f2 := hO.frozen (q)
          have HS := hid (fun x y => Mix.swap (x := x) (y := y) hO hP hG (i := p) (j := q) (by omega) (by omega))
          clear hO hP hG hly
          generalize hx1 : ys.getD (p) 0 = x1 at g1 HS
          generalize hx2 : ys.getD (q) 0 = x2 at g2 HS
          have HS2 := hid (HS.out x1 x2 rfl rfl)
          clear HS hx1 hx2
          by_cases hyx : (x1 : Int) < (x2 : Int)
          · have hc : decide ((x1 : Int) < (x2 : Int)) = true := by simpa using hyx
            go_wp2_with fail
            go_quiet ((go_at_call 23; exact Calls.quiet_of_same (less16_b _ _ _ _ hc)))
            go_wp2_with fail
            go_region
            go_wp2
            have hch := HC.out
            have hch1 := HC1.out
            go_roundg (hi - c)
            case measure => omega
            case rel => exact ⟨c, by omega, Nat.le_refl _, rfl, HS2.out.drewN _⟩
          · have hc : decide ((x1 : Int) < (x2 : Int)) = false := by simpa using hyx
            go_wp2_with fail
            go_quiet ((go_at_call 23; exact Calls.quiet_of_same (less16_b _ _ _ _ hc)))
            go_wp2
            go_end0
            exact ⟨rfl, HM.out.drewN _⟩
      · have hd : decide (c1 < hi) = false := by simpa using hcc
        clear hp hq hq1 hc1
        go_wp2_with fail
        go_quiet (fail)
        replace HM := hid (HM.out.drewN nq)
        obtain ⟨wq, hwq⟩ : ∃ wq, wq = wr.drewN nq := ⟨_, rfl⟩
        rw [← hwq] at HM ⊢
        clear hwq
        obtain ⟨ys, hO, hP, hG⟩ := HM.out
        have hly : ys.length = n := by rw [hP.length_eq, HL.out]
        have g1 := hO.cell (j := p) (by omega)
        have f1 := hO.frozen (p)
        have g2 := hO.cell (j := q) (by omega)
        have f2 := hO.frozen (q)
        have HS := hid (fun x y => Mix.swap (x := x) (y := y) hO hP hG (i := p) (j := q) (by omega) (by omega))
        clear hO hP hG hly
        generalize hx1 : ys.getD (p) 0 = x1 at g1 HS
        generalize hx2 : ys.getD (q) 0 = x2 at g2 HS
        have HS2 := hid (HS.out x1 x2 rfl rfl)
        clear HS hx1 hx2
        by_cases hyx : (x1 : Int) < (x2 : Int)
        · have hc : decide ((x1 : Int) < (x2 : Int)) = true := by simpa using hyx
          go_wp2_with fail
          go_quiet ((go_at_call 23; exact Calls.quiet_of_same (less16_b _ _ _ _ hc)))
          go_wp2_with fail
          go_region
          go_wp2
          have hch := HC.out
          have hch1 := HC1.out
          go_roundg (hi - c)
          case measure => omega
          case rel => exact ⟨c, by omega, Nat.le_refl _, rfl, HS2.out.drewN _⟩
        · have hc : decide ((x1 : Int) < (x2 : Int)) = false := by simpa using hyx
          go_wp2_with fail
          go_quiet ((go_at_call 23; exact Calls.quiet_of_same (less16_b _ _ _ _ hc)))
          go_wp2
          go_end0
          exact ⟨rfl, HM.out.drewN _⟩

end Go.Proofs.Ytlmkkccokemaiaa
