/-
  The library's sort at []uint16: heapSortOrdered.
-/
import Derived.Test.YtlmkkccokemaiaaSixC
namespace Go.Proofs.Ytlmkkccokemaiaa
open Go.RowKit

set_option maxHeartbeats 3200000 in
theorem heap16 (g n cap a b : Nat) (xs : List Nat) (w : World) (h : U16 w g cap xs) (hl : xs.length = n) (hab : a < b) (hb : b ≤ n) (hn : n ≤ 1000000) :
    Calls Try.prog 18 #[.slice (some ⟨g, 0, none⟩) n cap, .int .i64 (a : Int), .int .i64 (b : Int)] w (RetMix w g cap xs) := by
  have HL := hid hl
  have H0 := hid h
  clear hl h
  obtain ⟨L, hL⟩ : ∃ L, L = b - a := ⟨_, rfl⟩
  have hLI : (b : Int) - (a : Int) = (L : Int) := by omega
  have hL1 : 1 ≤ L := by omega
  have hLn : a + L ≤ n := by omega
  clear hL
  have hq : (((L : Int) - 1).tdiv 2) = ((L : Int) - 1) / 2 := Int.tdiv_eq_ediv_of_nonneg (by omega)
  go_enter Try.func18, Try.ntmps18
  go_wp2
  go_loopg [9] (L + 1) (fun gh s wr => ∃ i : Int, -1 ≤ i ∧ i ≤ L ∧ i + 1 ≤ gh ∧ s = .int .i64 i ∧ Mix w g cap xs wr)
  case atStart => exact ⟨((L : Int) - 1) / 2, by omega, by omega, by omega, by first | rfl | go_num, Mix.refl H0.out⟩
  case round =>
    obtain ⟨i, hi0, hi1, hg, rfl, hmix⟩ := hrel
    have HM := hid hmix
    clear hmix
    by_cases hlt : 0 ≤ i
    · obtain ⟨m, rfl⟩ := Int.eq_ofNat_of_zero_le hlt
      obtain ⟨ys, hO, hP, hG⟩ := HM.out
      have HC := hid (sift16 g n cap m L a ys wr hO (by rw [hP.length_eq, HL.out]) (by omega) hLn hn)
      have HT := hid (fun w2 h2 => Mix.trans (w2 := w2) (cap := cap) hP hG h2)
      clear hO hP hG HM
      go_wp2_with fail
      refine HC.out.mono ?_
      rintro e w2 ⟨rfl, h2⟩
      have HM2 := hid (HT.out w2 h2)
      clear HC HT h2
      go_wp2
      go_roundg m
      case measure => omega
      case rel => exact ⟨(m : Int) - 1, by omega, by omega, by omega, by go_num, HM2.out⟩
    · go_wp2
      go_loopg [10] (L + 1) (fun gh s wr => ∃ i : Int, -1 ≤ i ∧ i < L ∧ i + 1 ≤ gh ∧ s = .int .i64 i ∧ Mix w g cap xs wr)
      case atStart => exact ⟨(L : Int) - 1, by omega, by omega, by omega, by go_num, HM.out⟩
      case round =>
        clear HM hlt hi0 hi1 hg
        obtain ⟨i, hi0, hi1, hg, rfl, hmix⟩ := hrel
        have HM := hid hmix
        clear hmix
        by_cases hlt : 0 ≤ i
        · obtain ⟨m, rfl⟩ := Int.eq_ofNat_of_zero_le hlt
          obtain ⟨p, hp⟩ : ∃ p, p = a + m := ⟨_, rfl⟩
          have w1 : IntKind.i64.wrap ((a : Int) + (m : Int)) = (p : Int) := by rw [IntWalk.i64_in _ (by omega)]; omega
          have hpn : p < n := by omega
          have han : a < n := by omega
          by_cases hm0 : m = 0
          · have hpa : p = a := by omega
            subst hpa
            clear hp hm0
            obtain ⟨ys, hO, hP, hG⟩ := HM.out
            have hly : ys.length = n := by rw [hP.length_eq, HL.out]
            have g1 := hO.cell (j := p) (by omega)
            have f1 := hO.frozen (p)
            have HS := hid (fun x => Mix.same (x := x) hO hP hG (i := p) (by omega))
            clear hO hP hG hly HM
            generalize hx1 : ys.getD (p) 0 = x1 at g1 HS
            have HS2 := hid (HS.out x1 rfl)
            clear HS hx1
            have HM := hid (HS2.out.drew)
            clear HS2
            go_wp2_with fail
            go_region
            go_wp2_with fail
            clear g1 f1
            generalize World.drew (World.setCell _ _ _) = wq at HM ⊢
            obtain ⟨ys, hO, hP, hG⟩ := HM.out
            have HC := hid (sift16 g n cap 0 m p ys wq hO (by rw [hP.length_eq, HL.out]) (by omega) (by omega) hn)
            have HT := hid (fun w2 h2 => Mix.trans (w2 := w2) (cap := cap) hP hG h2)
            clear hO hP hG HM
            refine HC.out.mono ?_
            rintro e w2 ⟨rfl, h2⟩
            have HM2 := hid (HT.out w2 h2)
            clear HC HT h2
            go_wp2
            go_roundg m
            case measure => omega
            case rel => exact ⟨(m : Int) - 1, by omega, by omega, by omega, by go_num, HM2.out⟩
          · have hap : a ≠ p := by omega
            clear hp hm0
            obtain ⟨ys, hO, hP, hG⟩ := HM.out
            have hly : ys.length = n := by rw [hP.length_eq, HL.out]
            have g1 := hO.cell (j := a) (by omega)
            have f1 := hO.frozen (a)
            have g2 := hO.cell (j := p) (by omega)
            have f2 := hO.frozen (p)
            have HS := hid (fun x y => Mix.swap (x := x) (y := y) hO hP hG (i := a) (j := p) (by omega) (by omega))
            clear hO hP hG hly HM
            generalize hx1 : ys.getD (a) 0 = x1 at g1 HS
            generalize hx2 : ys.getD (p) 0 = x2 at g2 HS
            have HS2 := hid (HS.out x1 x2 rfl rfl)
            clear HS hx1 hx2
            have HM := hid (HS2.out.drew)
            clear HS2
            go_wp2_with fail
            go_region
            go_wp2_with fail
            clear g1 f1 g2 f2
            generalize World.drew (World.setCell _ _ _) = wq at HM ⊢
            obtain ⟨ys, hO, hP, hG⟩ := HM.out
            have HC := hid (sift16 g n cap 0 m a ys wq hO (by rw [hP.length_eq, HL.out]) (by omega) (by omega) hn)
            have HT := hid (fun w2 h2 => Mix.trans (w2 := w2) (cap := cap) hP hG h2)
            clear hO hP hG HM
            refine HC.out.mono ?_
            rintro e w2 ⟨rfl, h2⟩
            have HM2 := hid (HT.out w2 h2)
            clear HC HT h2
            go_wp2
            go_roundg m
            case measure => omega
            case rel => exact ⟨(m : Int) - 1, by omega, by omega, by omega, by go_num, HM2.out⟩
        · go_wp2
          go_end0
          exact ⟨rfl, HM.out⟩

end Go.Proofs.Ytlmkkccokemaiaa
