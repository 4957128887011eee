/-
  castkeep.TableauSquares, walked.
-/
import Derived.Test.YteffbhdhldilnaaShpC
import Derived.Test.YteffbhdhldilnaaPartQ
import Derived.Test.YteffbhdhldilnaaRankA
namespace Go.Proofs.Yteffbhdhldilnaa
open Go.RowKit

/-- The squares of the first j, together. -/
def sqTo (L : List (List Int)) : Nat → Int
  | 0 => 0
  | j + 1 => sqTo L j + cntS (L.getD j []) * cntS (L.getD j [])
set_option maxRecDepth 100000 in
theorem sq_all : ((List.range 11).all fun n => decide (0 < (pforms 15 n n).length) && decide ((pforms 15 n n).length ≤ 42) && decide (sqTo (pforms 15 n n) (pforms 15 n n).length = ((fact n : Nat) : Int)) && (pforms 15 n n).all (fun x => decide (shapeErr x = 0) && (decide (n = 0) || !decide (x = [])))) = true := by decide +kernel
theorem sq_at {n : Nat} (hn : n ≤ 10) : 0 < (pforms 15 n n).length ∧ (pforms 15 n n).length ≤ 42 ∧ sqTo (pforms 15 n n) (pforms 15 n n).length = ((fact n : Nat) : Int) ∧ ∀ j, j < (pforms 15 n n).length → IsShape ((pforms 15 n n).getD j []) ∧ (n = 0 ∨ (pforms 15 n n).getD j [] ≠ []) := by
  have h := List.all_eq_true.1 sq_all n (by simp; omega)
  simp only [Bool.and_eq_true, decide_eq_true_eq] at h
  obtain ⟨⟨⟨h1, h2⟩, h3⟩, h4⟩ := h
  refine ⟨h1, h2, h3, fun j hj => ?_⟩
  have h5 := List.all_eq_true.1 h4 ((pforms 15 n n).getD j []) (by
    rw [List.getD_eq_getElem?_getD, List.getElem?_eq_getElem hj]
    exact List.getElem_mem hj)
  simp only [Bool.and_eq_true, Bool.or_eq_true, decide_eq_true_eq, Bool.not_eq_true', decide_eq_false_iff_not] at h5
  exact ⟨isShape_of h5.1, h5.2⟩
theorem sqTo_bound {L : List (List Int)} (h : ∀ j, j < L.length → IsShape (L.getD j [])) : ∀ j : Nat, j ≤ L.length → 0 ≤ sqTo L j ∧ sqTo L j ≤ (j : Int) * 59290000
  | 0, _ => by simp [sqTo]
  | j + 1, hj => by
    obtain ⟨a, b⟩ := sqTo_bound h j (by omega)
    obtain ⟨c, d⟩ := cntS_bound (h j (by omega))
    have e1 := Int.mul_le_mul d d (by omega) (by omega)
    have e2 : 0 ≤ cntS (L.getD j []) * cntS (L.getD j []) := Int.mul_nonneg (by omega) (by omega)
    rw [sqTo]
    omega
theorem lessSum_bound {xs : List Int} (h : IsShape xs) : ∀ i : Nat, i ≤ xs.length → 0 ≤ lessSum xs i ∧ lessSum xs i ≤ (i : Int) * 7700
  | 0, _ => by simp [lessSum]
  | i + 1, hi => by
    obtain ⟨a, b⟩ := lessSum_bound h i (by omega)
    rw [lessSum]
    by_cases hc : corner xs i = true
    · obtain ⟨c, d⟩ := cntS_bound (less_shape h (by omega) hc).1
      rw [if_pos hc]
      omega
    · rw [if_neg hc]
      omega

set_option maxHeartbeats 4000000 in
set_option maxRecDepth 100000 in
theorem tableauSquares_any (K1 K2 : Int) (w : World) :
    Calls Try.prog 8 #[.int .i64 K1, .int .i64 K2] w fun e w' => e = .returned (.bool true) ∧ Below w.heap.size w w' := by
  have HB0 := hid (Below.refl w.heap.size w)
  go_enter Try.func8, Try.ntmps8
  go_wp2_with fail
  refine (tcount_ok _ 2 2 [2, 1] _ (ints_lit w _ _ 2 [2, 1] rfl rfl) (isShape_of (by decide))).mono ?_
  rintro e w1 ⟨rfl, hb⟩
  have HB1 := hid (below_step (below_step HB0.out (Nat.le_refl _) (below_alloc _ _)) (Nat.le_refl _) hb)
  clear HB0 hb
  rw [show cntS [2, 1] = 2 by decide]
  go_wp2_with fail
  refine (within_any K1 11 _ (by omega) (by omega)).mono ?_
  rintro e w' ⟨rfl, rfl⟩
  have hk1 := Int.emod_nonneg K1 (show (11 : Int) ≠ 0 by omega)
  have hk2 := Int.emod_lt_of_pos K1 (show (0 : Int) < 11 by omega)
  generalize K1 % 11 = N1 at hk1 hk2 ⊢
  obtain ⟨n, rfl⟩ := Int.eq_ofNat_of_zero_le hk1
  have hn : n ≤ 10 := by omega
  clear hk1 hk2
  go_wp2_with fail
  refine (count_ok n _ hn).mono ?_
  rintro e w' ⟨rfl, rfl⟩
  go_wp2_with fail
  refine (forms_any n n _ (by omega) (by omega)).mono ?_
  rintro e w2 ⟨v1, rfl, hr1, hb⟩
  obtain ⟨A1, c1, hv1, _⟩ := hr1.form
  subst hv1
  have HL := hid (hr1.mono (Nat.zero_le _))
  have HB2 := hid (below_step HB1.out (Nat.le_refl _) hb)
  clear hr1 hb HB1
  obtain ⟨hL0, hL1, hL2, hL3⟩ := sq_at hn
  have HL2 := hid hL2
  have HL3 := hid hL3
  have HSB := hid (sqTo_bound (fun j hj => (hL3 j hj).1))
  clear hL2 hL3
  generalize pforms 15 n n = L at *
  have hf := fact_ten hn
  generalize fact n = F at *
  go_wp2_with fail
  go_loopg [10, 47] L.length (fun g s t wr => ∃ j : Nat, j ≤ L.length ∧ L.length - j ≤ g ∧ t = .int .i64 (j : Int) ∧ s = .int .i64 (sqTo L j) ∧ Rows2 wr 0 (.slice A1 L.length c1) L ∧ Below w.heap.size w wr)
  case atStart => exact ⟨0, Nat.zero_le _, by omega, rfl, rfl, HL.out, HB2.out⟩
  case round =>
    obtain ⟨j, hj, hg, rfl, rfl, hr, hb⟩ := hrel
    have HR := hid hr
    have HB := hid hb
    clear hr hb HL HB2
    obtain ⟨hs1, hs2⟩ := HSB.out j hj
    by_cases hlt : j < L.length
    · obtain ⟨g1, cap1, u, e1, hcell, hu⟩ := HR.out.at hlt
      injection e1 with e1 _ e3
      subst e1
      subst e3
      have HS := hid (HL3.out j hlt).1
      have HN : Hid (sqTo L (j + 1) = sqTo L j + cntS (L.getD j []) * cntS (L.getD j [])) := rfl
      generalize L.getD j [] = x at *
      obtain ⟨A5, c5, rfl, hI, _⟩ := hu.ints
      have HI := hid hI
      clear hI hu
      go_wp2_with fail
      refine (tcount_ok A5 _ c5 x _ HI.out HS.out).mono ?_
      rintro e w5 ⟨rfl, hb⟩
      have HB5 := hid (below_step HB.out (Nat.le_refl _) hb)
      have HR5 := hid (HR.out.keep hb)
      obtain ⟨hc1, hc2⟩ := cntS_bound HS.out
      have hp1 : 0 ≤ cntS x * cntS x := Int.mul_nonneg (by omega) (by omega)
      have hp2 : cntS x * cntS x ≤ 7700 * 7700 := Int.mul_le_mul hc2 hc2 (by omega) (by omega)
      clear hb HB HR HI hcell
      generalize cntS x = y at *
      generalize sqTo L j = z at *
      go_wp2
      go_roundg (L.length - (j + 1))
      case measure => omega
      case rel => exact ⟨j + 1, by omega, by omega, by go_num, by rw [HN.out], HR5.out, HB5.out⟩
    · have hjl : j = L.length := by omega
      subst hjl
      rw [HL2.out]
      go_wp2_with fail
      refine (within_any K2 _ _ (by omega) (by omega)).mono ?_
      rintro e w' ⟨rfl, rfl⟩
      have hk1 := Int.emod_nonneg K2 (show ((L.length : Nat) : Int) ≠ 0 by omega)
      have hk2 := Int.emod_lt_of_pos K2 (show (0 : Int) < ((L.length : Nat) : Int) by omega)
      generalize K2 % ((L.length : Nat) : Int) = N1 at hk1 hk2 ⊢
      obtain ⟨k, rfl⟩ := Int.eq_ofNat_of_zero_le hk1
      have hkl : k < L.length := by omega
      clear hk1 hk2 hs1 hs2 hlt hj
      obtain ⟨g1, cap1, u, e1, hcell, hu⟩ := HR.out.at hkl
      injection e1 with e1 _ e3
      subst e1
      subst e3
      have HS := hid (HL3.out k hkl).1
      have HE := hid (HL3.out k hkl).2
      generalize L.getD k [] = x at *
      obtain ⟨A5, c5, rfl, hI, hcap5⟩ := hu.ints
      have HI := hid hI
      clear hI hu
      go_wp2_with fail
      refine (tcount_ok A5 _ c5 x _ HI.out HS.out).mono ?_
      rintro e w5 ⟨rfl, hb⟩
      have HB5 := hid (below_step HB.out (Nat.le_refl _) hb)
      have HI5 := hid (HI.out.keep hb)
      have HLS : Hid (n = 0 ∨ cntS x = lessSum x x.length) := HE.out.elim .inl (fun h => .inr (cntS_less HS.out h))
      have HX40 := hid HS.out.part.length_le
      obtain ⟨m, hm⟩ : ∃ m, m = x.length := ⟨_, rfl⟩
      rw [← hm] at HX40 HI5 HLS
      rw [← hm]
      have hm40 := HX40.out
      have HM := hid hm
      clear hb HB HR HI hcell HE hm hcap5
      generalize cntS x = y at *
      go_wp2_with fail
      obtain ⟨w8, hw8⟩ : ∃ w8, w8 = w5 := ⟨_, rfl⟩
      rw [← hw8] at HB5 HI5
      rw [← hw8]
      clear hw8
      go_loopg [18, 78] m (fun g s t wr => ∃ i : Nat, i ≤ m ∧ m - i ≤ g ∧ t = .int .i64 (i : Int) ∧ s = .int .i64 (lessSum x i) ∧ Below w8.heap.size w8 wr ∧ Below w.heap.size w wr)
      case atStart => exact ⟨0, Nat.zero_le _, by omega, rfl, rfl, Below.refl _ _, HB5.out⟩
      case round =>
        obtain ⟨i, hi, hg2, rfl, rfl, hb6, hb7⟩ := hrel
        have HB6 := hid hb6
        have HB7 := hid hb7
        have HI6 := hid (HI5.out.keep hb6)
        clear hb6 hb7
        obtain ⟨hl1, hl2⟩ := lessSum_bound HS.out i (by rw [← HM.out]; exact hi)
        by_cases hlt : i < m
        · have hiL : i < x.length := by rw [← HM.out]; exact hlt
          obtain ⟨b, o, rfl, hb, hc⟩ := HI6.out.row (by omega)
          have g1 := hc i hlt
          have HC := hid hc
          have hge := HS.out.part.ge hiL
          have hle := HS.out.part.le hiL
          have HN : Hid (lessSum x (i + 1) = lessSum x i + (if corner x i then cntS (lessAt x i) else 0)) := rfl
          have HCO : Hid (corner x i = (decide (i + 1 = m) || decide (x.getD (i + 1) 0 < x.getD i 0))) := by unfold corner; rw [HM.out]; exact rfl
          have HLA : Hid (lessAt x i = if x.getD i 0 = 1 then x.take i else x.set i (x.getD i 0 - 1)) := rfl
          have HSH := hid (less_shape HS.out hiL)
          have HIL := hid hiL
          clear hc hiL
          generalize hX : x.getD i 0 = X at *
          have HXX := hid hX
          clear hX
          have hm1 : IntKind.i64.wrap ((m : Int) - 1) = ((m - 1 : Nat) : Int) := by rw [IntWalk.i64_in _ (by omega)]; omega
          by_cases hcz : corner x i = true
          · rw [if_pos hcz] at HN
            have HLS2 := hid (HSH.out hcz).1
            obtain ⟨hd1, hd2⟩ := cntS_bound HLS2.out
            have HCZ := hid hcz
            have hor : i + 1 = m ∨ x.getD (i + 1) 0 < X := by rw [HCO.out] at hcz; simpa using hcz
            clear hcz
            have hsl := fun (W : World) => trivial
            clear hsl
            by_cases hl : i + 1 = m
            · have hbe : ((i : Int) == ((m - 1 : Nat) : Int)) = true := by simp; omega
              go_wp2_with fail
              refine (clone_any _ m c5 x _ HI6.out (by omega)).mono ?_
              rintro e w9 ⟨v2, rfl, ho2, hb2⟩
              obtain ⟨g2, cap2, rfl, hg2a, hg2b, hcap2⟩ := ho2.form (Nat.lt_of_le_of_lt (Nat.zero_le _) HIL.out)
              have g3 := ho2.cell (j := i) HIL.out
              have f3 := ho2.frozen i
              rw [HXX.out] at g3
              have HST := hid (ho2.set rfl i (X - 1))
              have HBS : Hid (Below wr.heap.size wr (w9.setCell ⟨g2, i, none⟩ (.int .i64 (X - 1)))) := hb2.setCell hg2a _
              have hln := HM.out
              rw [← hln] at hcap2 HST ⊢
              have hI5 : Hid (Ints (w9.setCell ⟨g2, i, none⟩ (.int .i64 (X - 1))) (some ⟨g2, 0, none⟩) m (x.set i (X - 1))) := by
                obtain ⟨A', c', e', hI', _⟩ := HST.out.ints
                rw [List.length_set, ← hln] at e' hI'
                injection e' with e1 _ _
                subst e1
                exact hI'
              clear ho2 hb2 HST hln
              have hic : i ≤ cap2 := by omega
              by_cases h1 : X = 1
              · subst h1
                rw [if_pos rfl] at HLA
                have HIT : Hid (Ints (w9.setCell ⟨g2, i, none⟩ (.int .i64 0)) (some ⟨g2, 0, none⟩) i (lessAt x i)) := by
                  have := hI5.out.take (m := i) (by omega)
                  rw [List.take_set_of_le (Nat.le_refl _)] at this
                  rw [HLA.out]
                  exact this
                go_wp2_with fail
                refine (tcount_ok _ i cap2 (lessAt x i) _ HIT.out HLS2.out).mono ?_
                rintro e w10 ⟨rfl, hb10⟩
                have HB10 := hid (below_step (below_step HB7.out (Nat.le_refl _) HBS.out) (Nat.le_refl _) hb10)
                have HB11 := hid (below_step (below_step HB6.out (Nat.le_refl _) HBS.out) (Nat.le_refl _) hb10)
                clear hb10 hI5 HIT HBS
                generalize cntS (lessAt x i) = q at *
                generalize lessSum x i = z at *
                go_wp2
                go_roundg (m - (i + 1))
                case measure => omega
                case rel => exact ⟨i + 1, by omega, by omega, by go_num, by rw [HN.out], HB11.out, HB10.out⟩
              · rw [if_neg h1] at HLA
                rw [← HLA.out] at hI5
                have h2 : (X - 1 == 0) = false := by simp; omega
                go_wp2_with fail
                refine (tcount_ok _ m cap2 (lessAt x i) _ hI5.out HLS2.out).mono ?_
                rintro e w10 ⟨rfl, hb10⟩
                have HB10 := hid (below_step (below_step HB7.out (Nat.le_refl _) HBS.out) (Nat.le_refl _) hb10)
                have HB11 := hid (below_step (below_step HB6.out (Nat.le_refl _) HBS.out) (Nat.le_refl _) hb10)
                clear hb10 hI5 HBS
                generalize cntS (lessAt x i) = q at *
                generalize lessSum x i = z at *
                go_wp2
                go_roundg (m - (i + 1))
                case measure => omega
                case rel => exact ⟨i + 1, by omega, by omega, by go_num, by rw [HN.out], HB11.out, HB10.out⟩
            · have hbe : ((i : Int) == ((m - 1 : Nat) : Int)) = false := by simp; omega
              have hnx : x.getD (i + 1) 0 < X := by rcases hor with h | h; exact absurd h hl; exact h
              have hik : i + 1 < m := by omega
              have g1b : wr.cell? ⟨b, o + (i + 1), none⟩ = some (.int .i64 (x.getD (i + 1) 0)) := HC.out (i + 1) hik
              have hX2 : X ≠ 1 := by
                have := HS.out.part.ge (j := i + 1) (by rw [← HM.out]; exact hik)
                omega
              generalize x.getD (i + 1) 0 = xn at *
              go_wp2_with fail
              refine (clone_any _ m c5 x _ HI6.out (by omega)).mono ?_
              rintro e w9 ⟨v2, rfl, ho2, hb2⟩
              obtain ⟨g2, cap2, rfl, hg2a, hg2b, hcap2⟩ := ho2.form (Nat.lt_of_le_of_lt (Nat.zero_le _) HIL.out)
              have g3 := ho2.cell (j := i) HIL.out
              have f3 := ho2.frozen i
              rw [HXX.out] at g3
              have HST := hid (ho2.set rfl i (X - 1))
              have HBS : Hid (Below wr.heap.size wr (w9.setCell ⟨g2, i, none⟩ (.int .i64 (X - 1)))) := hb2.setCell hg2a _
              have hln := HM.out
              rw [← hln] at hcap2 HST ⊢
              have hI5 : Hid (Ints (w9.setCell ⟨g2, i, none⟩ (.int .i64 (X - 1))) (some ⟨g2, 0, none⟩) m (x.set i (X - 1))) := by
                obtain ⟨A', c', e', hI', _⟩ := HST.out.ints
                rw [List.length_set, ← hln] at e' hI'
                injection e' with e1 _ _
                subst e1
                exact hI'
              clear ho2 hb2 HST hln
              rw [if_neg hX2] at HLA
              rw [← HLA.out] at hI5
              have h2 : (X - 1 == 0) = false := by simp; omega
              go_wp2_with fail
              refine (tcount_ok _ m cap2 (lessAt x i) _ hI5.out HLS2.out).mono ?_
              rintro e w10 ⟨rfl, hb10⟩
              have HB10 := hid (below_step (below_step HB7.out (Nat.le_refl _) HBS.out) (Nat.le_refl _) hb10)
              have HB11 := hid (below_step (below_step HB6.out (Nat.le_refl _) HBS.out) (Nat.le_refl _) hb10)
              clear hb10 hI5 HBS
              generalize cntS (lessAt x i) = q at *
              generalize lessSum x i = z at *
              go_wp2
              go_roundg (m - (i + 1))
              case measure => omega
              case rel => exact ⟨i + 1, by omega, by omega, by go_num, by rw [HN.out], HB11.out, HB10.out⟩
          · rw [if_neg hcz, Int.add_zero] at HN
            have hor : i + 1 ≠ m ∧ X ≤ x.getD (i + 1) 0 := by
              rw [HCO.out] at hcz
              simpa using hcz
            obtain ⟨hor1, hor2⟩ := hor
            have hik : i + 1 < m := by omega
            have hbe : ((i : Int) == ((m - 1 : Nat) : Int)) = false := by simp; omega
            have g1b : wr.cell? ⟨b, o + (i + 1), none⟩ = some (.int .i64 (x.getD (i + 1) 0)) := HC.out (i + 1) hik
            have hxn : ¬ x.getD (i + 1) 0 < X := by omega
            generalize x.getD (i + 1) 0 = xn at *
            generalize lessSum x i = z at *
            go_wp2
            go_roundg (m - (i + 1))
            case measure => omega
            case rel => exact ⟨i + 1, by omega, by omega, by go_num, by rw [HN.out], HB6.out, HB7.out⟩
        · have him : i = m := by omega
          subst him
          go_wp2_with fail
          refine (good_bel _ _ _ 2 [0, 0] rfl rfl (by omega)).mono ?_
          rintro e w11 ⟨rfl, hb11⟩
          have HB11 := hid (below_step HB7.out (Nat.le_refl _) hb11)
          clear hb11
          rw [show allOK [0, 0] = true by decide]
          have hls := HLS.out
          rw [HM.out] at hls ⊢
          by_cases hn0 : n = 0
          · subst hn0
            go_wp2
            go_ret
            exact ⟨rfl, HB11.out⟩
          · have hz : ((n : Int) == 0) = false := by simp; omega
            have hyy : y = lessSum x x.length := by rcases hls with h | h; exact absurd h hn0; exact h
            subst hyy
            generalize lessSum x x.length = z at *
            go_wp2
            go_ret
            exact ⟨rfl, HB11.out⟩

end Go.Proofs.Yteffbhdhldilnaa
