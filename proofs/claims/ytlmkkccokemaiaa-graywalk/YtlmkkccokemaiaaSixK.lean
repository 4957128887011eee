/-
  The library's sort at []uint16: pdqsortOrdered, slices.Sort: whatever numbers, the row holds the same ones in some order.
-/
import Derived.Test.YtlmkkccokemaiaaSixJ
namespace Go.Proofs.Ytlmkkccokemaiaa
open Go.RowKit

/-- Ranges shorter than N are put in some order. -/
def PdqTo (g n cap N : Nat) : Prop := ∀ (a b lim : Nat) (xs : List Nat) (w : World), b - a < N → U16 w g cap xs → xs.length = n → a ≤ b → b ≤ n → lim ≤ 1000 →
    Calls Try.prog 15 #[.slice (some ⟨g, 0, none⟩) n cap, .int .i64 (a : Int), .int .i64 (b : Int), .int .i64 (lim : Int)] w (RetMix w g cap xs)

set_option maxHeartbeats 12800000 in
set_option maxRecDepth 100000 in
theorem pdq16_step (g n cap N a b lim : Nat) (xs : List Nat) (w : World) (hn : n ≤ 60000) (IH : Hid (PdqTo g n cap N)) (hN : b - a < N + 1) (h : U16 w g cap xs) (hl : xs.length = n) (hab : a ≤ b) (hb : b ≤ n) (hlim : lim ≤ 1000) :
    Calls Try.prog 15 #[.slice (some ⟨g, 0, none⟩) n cap, .int .i64 (a : Int), .int .i64 (b : Int), .int .i64 (lim : Int)] w (RetMix w g cap xs) := by
    have HL := hid hl
    have HM : Hid (Mix w g cap xs w) := Mix.refl h
    have hn1 : n ≤ 1000000 := by omega
    clear hl h
    go_enter Try.func15, Try.ntmps15
    go_wp2
    go_loopg [1, 2, 3, 8, 9] (b - a) (fun gh s1 s2 s3 s8 s9 wr => ∃ (a1 b1 lim1 : Nat) (wb wp : Bool), a1 ≤ b1 ∧ b1 ≤ n ∧ lim1 ≤ 1000 ∧ b1 - a1 ≤ gh ∧ b1 - a1 ≤ b - a ∧ s1 = .int .i64 (a1 : Int) ∧ s2 = .int .i64 (b1 : Int) ∧ s3 = .int .i64 (lim1 : Int) ∧ s8 = .bool wb ∧ s9 = .bool wp ∧ Mix w g cap xs wr)
    case atStart => exact ⟨a, b, lim, true, true, hab, hb, hlim, Nat.le_refl _, Nat.le_refl _, rfl, rfl, rfl, rfl, rfl, HM.out⟩
    case round =>
      clear HM
      obtain ⟨a1, b1, lim1, wb, wp, hab1, hb1, hlim1, hgh, hdec, rfl, rfl, rfl, rfl, rfl, hmix⟩ := hrel
      have HM := hid hmix
      clear hmix
      obtain ⟨L, hL⟩ : ∃ L, L = b1 - a1 := ⟨_, rfl⟩
      have hLI : (b1 : Int) - (a1 : Int) = (L : Int) := by omega
      clear hL
      by_cases h12 : L ≤ 12
      · obtain ⟨ys, hO, hP, hG⟩ := HM.out
        have HC := hid (insertion16 g n cap a1 b1 ys wr hO (by rw [hP.length_eq, HL.out]) hab1 hb1 hn1)
        have HT := hid (fun w2 h2 => Mix.trans (w2 := w2) (cap := cap) hP hG h2)
        clear hO hP hG
        go_wp2_with fail
        refine HC.out.mono ?_
        rintro e w2 ⟨rfl, h2⟩
        clear HM
        have HM := hid (HT.out w2 h2)
        clear HC HT h2
        go_wp2
        go_end0
        exact ⟨rfl, HM.out⟩
      · by_cases hl0 : lim1 = 0
        · subst hl0
          obtain ⟨ys, hO, hP, hG⟩ := HM.out
          have HC := hid (heap16 g n cap a1 b1 ys wr hO (by rw [hP.length_eq, HL.out]) (by omega) hb1 hn1)
          have HT := hid (fun w2 h2 => Mix.trans (w2 := w2) (cap := cap) hP hG h2)
          clear hO hP hG
          go_wp2_with fail
          refine HC.out.mono ?_
          rintro e w2 ⟨rfl, h2⟩
          clear HM
          have HM := hid (HT.out w2 h2)
          clear HC HT h2
          go_wp2
          go_end0
          exact ⟨rfl, HM.out⟩
        · have hl0I : ((lim1 : Int) == 0) = false := by simp; omega
          go_upto_if 35 with fail
          go_cut [3] (fun s wr => ∃ l : Nat, l ≤ 1000 ∧ s = .int .i64 (l : Int) ∧ Mix w g cap xs wr)
          case first =>
            cases wb
            · obtain ⟨ys, hO, hP, hG⟩ := HM.out
              have HC := hid (break16 g n cap a1 b1 ys wr hO (by rw [hP.length_eq, HL.out]) (by omega) hb1 hn)
              have HT := hid (fun w2 h2 => Mix.trans (w2 := w2) (cap := cap) hP hG h2)
              clear hO hP hG
              go_wp2_with fail
              refine HC.out.mono ?_
              rintro e w2 ⟨rfl, h2⟩
              clear HM
              have HM := hid (HT.out w2 h2)
              clear HC HT h2
              go_wp2
              go_meet
              exact ⟨lim1 - 1, by omega, by go_num, HM.out⟩
            · go_wp2
              go_meet
              exact ⟨lim1, hlim1, rfl, HM.out⟩
          case rest =>
            clear HM hl0 hl0I hlim1
            obtain ⟨l, hlim1, rfl, hmix⟩ := hcut
            have HM := hid hmix
            clear hmix
            obtain ⟨ys, hO, hP, hG⟩ := HM.out
            have HC := hid (pivot16 g n cap a1 b1 ys wc hO (by rw [hP.length_eq, HL.out]) (by omega) hb1 hn1)
            clear hO hP hG
            go_wp2_with fail
            refine HC.out.mono ?_
            rintro e w2 ⟨m, t, hm0, hm1, ht, rfl, h2⟩
            replace HM := hid (HM.out.below (h2.mono (Nat.le_refl _)))
            clear HC h2
            go_upto_if 50 with fail
            go_cut [11, 12] (fun s11 s12 wr => ∃ m t : Nat, a1 ≤ m ∧ m < b1 ∧ s11 = .int .i64 (m : Int) ∧ s12 = .int .i64 (t : Int) ∧ Mix w g cap xs wr)
            case first =>
              by_cases ht2 : t = 2
              · subst ht2
                obtain ⟨ys, hO, hP, hG⟩ := HM.out
                have HC := hid (reverse16 g n cap a1 b1 ys w2 hO (by rw [hP.length_eq, HL.out]) hab1 hb1 hn1)
                have HT := hid (fun w2 h2 => Mix.trans (w2 := w2) (cap := cap) hP hG h2)
                clear hO hP hG
                go_wp2_with fail
                refine HC.out.mono ?_
                rintro e w3 ⟨rfl, h2⟩
                clear HM
                have HM := hid (HT.out w3 h2)
                clear HC HT h2
                go_wp2
                go_meet
                exact ⟨b1 - 1 - (m - a1), 1, by omega, by omega, by go_num, rfl, HM.out⟩
              · have ht2I : ((t : Int) == 2) = false := by simp; omega
                go_wp2
                go_meet
                exact ⟨m, t, hm0, hm1, rfl, rfl, HM.out⟩
            case rest =>
              clear HM hm0 hm1 ht
              obtain ⟨m, t, hm0, hm1, rfl, rfl, hmix⟩ := hcut
              have HM := hid hmix
              clear hmix
              go_upto_region 15 with fail
              go_cut [68] (fun s wr => ∃ z : Bool, s = .bool z ∧ Mix w g cap xs wr)
              case first =>
                cases wb <;> cases wp <;> (go_wp2_with fail; go_meet; exact ⟨_, rfl, HM.out⟩)
              case rest =>
                clear HM
                obtain ⟨z, rfl, hmix⟩ := hcut
                have HM := hid hmix
                clear hmix
                go_upto_if 68 with fail
                go_cut [] (fun wr => Mix w g cap xs wr)
                case first =>
                  cases z
                  · go_wp2
                    go_meet
                    exact HM.out
                  · obtain ⟨ys, hO, hP, hG⟩ := HM.out
                    have HC := hid (someIns16 g n cap a1 b1 ys wc hO (by rw [hP.length_eq, HL.out]) (by omega) hb1 hn1)
                    have HT := hid (fun w2 h2 => Mix.trans (w2 := w2) (cap := cap) hP hG h2)
                    clear hO hP hG
                    go_wp2_with fail
                    refine HC.out.mono ?_
                    rintro e w4 ⟨y, rfl, h2⟩
                    clear HM
                    have HM := hid (HT.out w4 h2)
                    clear HC HT h2
                    cases y
                    · go_wp2
                      go_meet
                      exact HM.out
                    · go_wp2
                      go_end0
                      exact ⟨rfl, HM.out⟩
                case rest =>
                  clear HM
                  have HM := hid hcut
                  clear hcut
                  go_upto_region 17 with fail
                  go_cut [87] (fun s wr => ∃ z : Bool, s = .bool z ∧ Mix w g cap xs wr)
                  case first =>
                    by_cases ha0 : 0 < a1
                    · have hd : decide (0 < a1) = true := by simpa using ha0
                      obtain ⟨p, hp⟩ : ∃ p, a1 = p + 1 := ⟨a1 - 1, by omega⟩
                      have hwr : IntKind.i64.wrap ((a1 : Int) - 1) = (p : Int) := by rw [IntWalk.i64_in _ (by omega)]; omega
                      have hpn : p < n := by omega
                      have hmn : m < n := by omega
                      clear hp
                      obtain ⟨ys, hO, hP, hG⟩ := HM.out
                      have hly : ys.length = n := by rw [hP.length_eq, HL.out]
                      have g1 := hO.cell (j := p) (by omega)
                      have g2 := hO.cell (j := m) (by omega)
                      clear hO hP hG hly
                      generalize hx1 : ys.getD p 0 = x1 at g1
                      generalize hx2 : ys.getD m 0 = x2 at g2
                      clear hx1 hx2
                      cases hc : decide ((x1 : Int) < (x2 : Int))
                      all_goals
                        go_wp2_with fail
                        go_quiet ((go_at_call 23; exact Calls.quiet_of_same (less16_b _ _ _ _ hc)))
                        go_wp2_with fail
                        go_meet
                        exact ⟨_, rfl, HM.out.drewN _⟩
                    · have hd : decide (0 < a1) = false := by simpa using ha0
                      go_wp2_with fail
                      go_quiet (fail)
                      go_wp2_with fail
                      go_meet
                      exact ⟨_, rfl, HM.out.drewN _⟩
                  case rest =>
                    clear HM
                    obtain ⟨z2, rfl, hmix⟩ := hcut
                    have HM := hid hmix
                    clear hmix
                    cases z2
                    · obtain ⟨ys, hO, hP, hG⟩ := HM.out
                      have HC := hid (partition16 g n cap a1 b1 m ys wc hO (by rw [hP.length_eq, HL.out]) hm0 hm1 hb1 hn1)
                      have HT := hid (fun w2 h2 => Mix.trans (w2 := w2) (cap := cap) hP hG h2)
                      clear hO hP hG
                      go_wp2_with fail
                      refine HC.out.mono ?_
                      rintro e w5 ⟨mid, al, hd0, hd1, rfl, h2⟩
                      clear HM
                      have HM := hid (HT.out w5 h2)
                      clear HC HT h2
                      by_cases hside : mid - a1 < b1 - mid
                      · have hsI : (mid : Int) - (a1 : Int) < (b1 : Int) - (mid : Int) := by omega
                        obtain ⟨ys, hO, hP, hG⟩ := HM.out
                        have HC := hid (IH.out a1 mid l ys w5 (by omega) hO (by rw [hP.length_eq, HL.out]) hd0 (by omega) hlim1)
                        have HT := hid (fun w2 h2 => Mix.trans (w2 := w2) (cap := cap) hP hG h2)
                        clear hO hP hG
                        go_wp2_with fail
                        refine HC.out.mono ?_
                        rintro e w6 ⟨rfl, h2⟩
                        clear HM
                        have HM := hid (HT.out w6 h2)
                        clear HC HT h2
                        go_wp2
                        go_roundg (b1 - (mid + 1))
                        case measure => omega
                        case rel => exact ⟨mid + 1, b1, l, _, al, by omega, hb1, hlim1, by omega, by omega, by go_num, rfl, rfl, rfl, rfl, HM.out⟩
                      · have hsI : ¬ ((mid : Int) - (a1 : Int) < (b1 : Int) - (mid : Int)) := by omega
                        obtain ⟨mid1, hmid1⟩ : ∃ mid1, mid1 = mid + 1 := ⟨_, rfl⟩
                        have hm1I : (mid : Int) + 1 = (mid1 : Int) := by omega
                        clear hmid1
                        obtain ⟨ys, hO, hP, hG⟩ := HM.out
                        have HC := hid (IH.out mid1 b1 l ys w5 (by omega) hO (by rw [hP.length_eq, HL.out]) (by omega) hb1 hlim1)
                        have HT := hid (fun w2 h2 => Mix.trans (w2 := w2) (cap := cap) hP hG h2)
                        clear hO hP hG
                        go_wp2_with fail
                        refine HC.out.mono ?_
                        rintro e w6 ⟨rfl, h2⟩
                        clear HM
                        have HM := hid (HT.out w6 h2)
                        clear HC HT h2
                        go_wp2
                        go_roundg (mid - a1)
                        case measure => omega
                        case rel => exact ⟨a1, mid, l, _, al, by omega, by omega, hlim1, by omega, by omega, rfl, rfl, rfl, rfl, rfl, HM.out⟩
                    · obtain ⟨ys, hO, hP, hG⟩ := HM.out
                      have HC := hid (partEqual16 g n cap a1 b1 m ys wc hO (by rw [hP.length_eq, HL.out]) hm0 hm1 hb1 hn1)
                      have HT := hid (fun w2 h2 => Mix.trans (w2 := w2) (cap := cap) hP hG h2)
                      clear hO hP hG
                      go_wp2_with fail
                      refine HC.out.mono ?_
                      rintro e w5 ⟨mid, hd0, hd1, rfl, h2⟩
                      clear HM
                      have HM := hid (HT.out w5 h2)
                      clear HC HT h2
                      go_wp2
                      go_roundg (b1 - mid)
                      case measure => omega
                      case rel => exact ⟨mid, b1, l, wb, wp, by omega, hb1, hlim1, by omega, by omega, rfl, rfl, rfl, rfl, rfl, HM.out⟩

theorem pdq16 (g n cap : Nat) (hn : n ≤ 60000) (N : Nat) : PdqTo g n cap N := by
  induction N with
  | zero => exact fun a b lim xs w h => absurd h (by omega)
  | succ N ih => exact fun a b lim xs w hN h hl hab hb hlim => pdq16_step g n cap N a b lim xs w hn ih hN h hl hab hb hlim

set_option maxHeartbeats 800000 in
theorem sort16 (g n cap : Nat) (xs : List Nat) (w : World) (h : U16 w g cap xs) (hl : xs.length = n) (hn : n ≤ 60000) :
    Calls Try.prog 11 #[.slice (some ⟨g, 0, none⟩) n cap] w (RetMix w g cap xs) := by
  have HC := hid (len_any n w (by omega))
  have h16 := (bitLen_ok (x := n) (by omega)).2.2
  have HP := hid (pdq16 g n cap hn (n + 1) 0 n (Lib.bitLen n) xs w (by omega) h hl (by omega) (Nat.le_refl _) (by omega))
  clear h hl
  generalize Lib.bitLen n = r at *
  go_enter Try.func11, Try.ntmps11
  go_wp2_with fail
  refine HC.out.mono ?_
  rintro e w' ⟨rfl, rfl⟩
  clear HC
  go_wp2_with fail
  refine HP.out.mono ?_
  rintro e w1 ⟨rfl, h1⟩
  have HM := hid h1
  clear h1 HP
  go_wp2
  go_end0
  exact ⟨rfl, HM.out⟩

end Go.Proofs.Ytlmkkccokemaiaa
