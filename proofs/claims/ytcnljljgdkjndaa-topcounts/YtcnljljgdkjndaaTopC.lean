/-
  The closure of casttop.TopCounts that goes through all shapes: its step.
-/
import Derived.Test.YtcnljljgdkjndaaTopB
import Derived.Deep.RegionHeld3
namespace Go.Proofs.Ytcnljljgdkjndaa
open Go.RowKit

set_option maxHeartbeats 4000000 in
set_option maxRecDepth 100000 in
theorem topforms_step (f : Nat) (IH : TopFormsTo f) : TopFormsTo (f + 1) := by
  have HI := hid IH
  clear IH
  intro left most A n c xs w b1 b2 b3 s hl hm hn h ha hg hw h0 hs
  by_cases hz : left = 0
  · subst hz
    have e : sqz (f + 1) 0 most xs = cntS xs * cntS xs := if_pos rfl
    rw [e] at hs ⊢
    have hg' : decide (shapeErr xs = 0) = true := by
      rw [sqGood, if_pos rfl] at hg
      exact hg
    exact topforms_leaf most A n c xs w b1 b2 b3 s h (isShape_of (by simpa using hg')) hw h0 hs
  · obtain ⟨m, hmm⟩ : ∃ m, m = min left most := ⟨_, rfl⟩
    have e : sqz (f + 1) left most xs = sumUp (fun x => sqz f (left - x) x (xs ++ [(x : Int)])) m := by rw [sqz, if_neg hz, hmm]
    have hg' : (List.range m).all (fun i => sqGood f (left - (i + 1)) (i + 1) (xs ++ [((i + 1 : Nat) : Int)])) = true := by
      rw [sqGood, if_neg hz] at hg
      rw [hmm]
      exact hg
    rw [e] at hs ⊢
    have HNN : Hid (∀ x, 0 ≤ (fun x : Nat => sqz f (left - x) x (xs ++ [(x : Int)])) x) := fun x => sqz_nonneg f _ _ _
    have HGD : Hid (∀ x : Nat, 1 ≤ x → x ≤ m → sqGood f (left - x) x (xs ++ [(x : Int)]) = true) := fun x h1 h2 => by
      have := List.all_eq_true.1 hg' (x - 1) (by simp; omega)
      rwa [show x - 1 + 1 = x by omega] at this
    have HG : Hid (∀ x, (fun x : Nat => sqz f (left - x) x (xs ++ [(x : Int)])) x = sqz f (left - x) x (xs ++ [(x : Int)])) := fun x => rfl
    generalize hgf : (fun x : Nat => sqz f (left - x) x (xs ++ [(x : Int)])) = g at *
    have HS := hid hs
    have HH := hid h
    have HA := hid ha
    have hzI : ((left : Int) == 0) = false := by simp; omega
    have hmin := run_minFM (P := Try.prog) left most m hmm
    have hml : m ≤ left := by omega
    have HGF := hid hgf
    have HM10 : Hid (m ≤ 10) := show m ≤ 10 by omega
    have H0 := hid h0
    have HW0 := hid hw
    clear hg hg' hs h ha e hgf hz hw h0 hmm
    go_enter Try.func29, Try.ntmps29
    go_wp2
    go_loopg [11] m (fun gh v wr => ∃ x : Nat, x ≤ m ∧ m - x ≤ gh ∧ v = .int .i64 ((x : Int) + 1) ∧ FormsW wr b1 b2 b3 (s + sumUp g x) ∧ Only (fpF b1 b2) w wr)
    case atStart => exact ⟨0, by omega, by omega, rfl, by simpa [sumUp] using HW0.out, Only.refl _ _⟩
    case round =>
      obtain ⟨x, hx, hgh, rfl, hw1, ho1⟩ := hrel
      have HW1 := hid hw1
      have HO1 := hid ho1
      clear hw1 ho1 HW0
      by_cases hlt : x < m
      · have hltI : (x : Int) + 1 ≤ (m : Int) := by omega
        have HII := hid ((HH.out.only HA.out HO1.out).drewN 1)
        have HLN : Hid ((xs ++ [(x : Int) + 1]).length = n + 1) := by show _ = _; rw [List.length_append, HH.out.len]; rfl
        have HLE : Hid (xs.length ≤ 1000000000000) := by show _ ≤ _; rw [HH.out.len]; omega
        have HSU : Hid (sumUp g (x + 1) = sumUp g x + g (x + 1)) := rfl
        have HCALL : Hid (∀ (A2 : Option Addr) (c2 : Nat) (w2 : World), Ints w2 A2 (n + 1) (xs ++ [(x : Int) + 1]) → ApartF A2 b1 b2 → FormsW w2 b1 b2 b3 (s + sumUp g x) →
            Calls Try.prog 29 #[.int .i64 ((left : Int) - ((x : Int) + 1)), .int .i64 ((x : Int) + 1), .slice A2 (n + 1) c2, .pointer (some ⟨b1, 0, none⟩), .pointer (some ⟨b2, 0, none⟩), .pointer (some ⟨b3, 0, none⟩)] w2 (RetF w2 b1 b2 b3 (s + sumUp g (x + 1)))) := by
          intro A2 c2 w2 hI2 hA2 hF2
          have e1 : ((x + 1 : Nat) : Int) = (x : Int) + 1 := by omega
          have e2 : ((left - (x + 1) : Nat) : Int) = (left : Int) - ((x : Int) + 1) := by omega
          have hle := sumUp_le HNN.out (show x + 1 ≤ m by omega)
          have h1 := HSU.out
          have h2 := HS.out
          have h3 := sumUp_nonneg HNN.out x
          have h5 := HG.out (x + 1)
          have hq := HI.out (left - (x + 1)) (x + 1) A2 (n + 1) c2 (xs ++ [((x + 1 : Nat) : Int)]) w2 b1 b2 b3 (s + sumUp g x) (by omega) (by have := HM10.out; omega) (by omega) (by rw [e1]; exact hI2) hA2 (HGD.out (x + 1) (by omega) (by omega)) hF2 (by have := H0.out; omega) (by rw [← h5]; omega)
          rw [e1, e2, ← e1, ← h5, Int.add_assoc, ← h1, e1] at hq
          exact hq
        have HSB : Hid (IntKind.i64.wrap ((left : Int) - ((x : Int) + 1)) = (left : Int) - ((x : Int) + 1)) := IntWalk.i64_in _ (by omega)
        have g30 : wr.drew.cell? ⟨b3, 0, none⟩ = some (formsFn b1 b2 b3) := HW1.out.p3
        have hl30 : b3 < wr.heap.size := HW1.out.l3
        have hb10 : Hid (b1 < wr.heap.size ∧ b2 < wr.heap.size) := ⟨HW1.out.l1, HW1.out.l2⟩
        clear HH HG HGD HNN HS HI HM10 H0 HGF
        go_wp2_with fail
        clear hmin
        have HIA : Hid (∀ W, Below wr.drew.heap.size wr.drew W → Ints W A n xs) := fun W hb => HII.out.keep hb
        clear HII
        go_region_held3 (fun u => u.cell? ⟨b3, 0, none⟩ = some (formsFn b1 b2 b3)) (first | exact g30 | exact g31 | exact g32 | exact g33 | exact ((below_alloc wr.drew _).cell (p := ⟨b3, 0, none⟩) hl30).trans g30 | exact ((below_alloc w1 _).cell (p := ⟨b3, 0, none⟩) hl31).trans g31) (first
          | (go_at_call 31; refine (clone_any A n c xs _ (HIA.out _ (by first | with_reducible exact Below.refl _ _ | exact below_alloc _ _)) (by omega)).mono ?_; rintro e w1 ⟨v1, rfl, ho1, hb1⟩; have HB1 := hid (show Below wr.drew.heap.size wr.drew w1 by first | with_reducible exact hb1 | exact below_step (below_alloc wr.drew _) (Nat.le_refl _) hb1); have HQ1 := hid (show OwnInts w1 wr.drew.heap.size v1 xs by first | with_reducible exact ho1 | exact ho1.mono (below_alloc wr.drew _).size); (try have HE1 : Hid (w1.cell? ((⟨wr.drew.heap.size, 0, none⟩ : Addr).add 0) = some (.int .i64 ((x : Int) + 1))) := (hb1.cell (p := (⟨wr.drew.heap.size, 0, none⟩ : Addr).add 0) (by simp [Addr.add])).trans (cell_one wr.drew ((x : Int) + 1) 0 _ rfl)); have g31 : w1.cell? ⟨b3, 0, none⟩ = some (formsFn b1 b2 b3) := (HB1.out.cell (p := ⟨b3, 0, none⟩) hl30).trans g30; have hl31 : b3 < w1.heap.size := Nat.lt_of_lt_of_le hl30 HB1.out.size; clear ho1 hb1)
          | (go_at_call 29; rw [HSB.out]; refine (HCALL.out A2 c2 w2 HI2.out (fun b off e => by subst e; have := (World.ownsRow.lt HQ2.out b rfl).1; have := hb10.out; have hdw : wr.drew.heap.size = wr.heap.size := rfl; exact ⟨by omega, by omega⟩) (HW1.out.keep ((below_drewN (Below.refl wr.heap.size wr) 1).trans HB2.out))).mono ?_; rintro e w3 ⟨rfl, hw3, ho3⟩; have HW3 := hid hw3; have HO3 := hid ho3; have g33 := hw3.p3; clear hw3 ho3)
          | (refine step_appI (w1.alloc (.cells #[.int .i64 ((x : Int) + 1)] 3)) rfl (.tmp 42) (.tmp 44) rfl wr.drew.heap.size v1 xs ((x : Int) + 1) ⟨w1.heap.size, 0, none⟩ rfl rfl (HQ1.out.keep (below_alloc _ _)) (cell_one w1 ((x : Int) + 1) 0 _ rfl) HLE.out (Nat.le_trans HB1.out.size (below_alloc _ _).size) ?_; intro v2 w2 ho2 hb2; have HB2 := hid (HB1.out.trans (((below_alloc w1 _).mono HB1.out.size).trans hb2)); have HQ2 := hid ho2; obtain ⟨A2, c2, rfl, hI2, _⟩ := ho2.ints; rw [HLN.out] at hI2 ⊢; have HI2 := hid hI2; have g32 : w2.cell? ⟨b3, 0, none⟩ = some (formsFn b1 b2 b3) := (HB2.out.cell (p := ⟨b3, 0, none⟩) hl30).trans g30; clear ho2 hb2 hI2)
          | (refine step_appI w1 rfl (.tmp 42) (.tmp 44) rfl wr.drew.heap.size v1 xs ((x : Int) + 1) ⟨wr.drew.heap.size, 0, none⟩ rfl rfl HQ1.out HE1.out HLE.out HB1.out.size ?_; intro v2 w2 ho2 hb2; have HB2 := hid (HB1.out.trans hb2); have HQ2 := hid ho2; obtain ⟨A2, c2, rfl, hI2, _⟩ := ho2.ints; rw [HLN.out] at hI2 ⊢; have HI2 := hid hI2; have g32 : w2.cell? ⟨b3, 0, none⟩ = some (formsFn b1 b2 b3) := (HB2.out.cell (p := ⟨b3, 0, none⟩) hl30).trans g30; clear ho2 hb2 hI2))
        all_goals
          have HOF := hid ((HO1.out.trans (Only.of_below ((below_drewN (Below.refl wr.heap.size wr) 1).trans HB2.out))).trans HO3.out)
          go_wp2
          go_roundg (m - (x + 1))
          case measure => omega
          case rel => exact ⟨x + 1, by omega, by omega, by go_num, HW3.out, HOF.out⟩
      · have hxm : x = m := by omega
        subst hxm
        have hge : ¬ ((x : Int) + 1 ≤ (x : Int)) := by omega
        go_wp2
        go_end0
        exact ⟨rfl, HW1.out, HO1.out⟩
end Go.Proofs.Ytcnljljgdkjndaa
