/-
  castkeep.PartsAll.
-/
import Derived.Test.YteegddpoekphoaaPartE
import Derived.Test.YteegddpoekphoaaPartQ
namespace Go.Proofs.Yteegddpoekphoaa
open Go.RowKit

theorem countP_snoc {L : List (List Int)} {j : Nat} (hj : j < L.length) (p : List Int → Bool) : (L.take (j + 1)).countP p = (L.take j).countP p + (if p (L.getD j []) then 1 else 0) := by
  rw [List.take_add_one, List.countP_append, List.getD_eq_getElem?_getD, List.getElem?_eq_getElem hj]
  simp [List.countP_cons]

set_option maxHeartbeats 2000000 in
set_option maxRecDepth 100000 in
theorem partsAll_any (K1 K2 : Int) (w : World)  :
    Calls Try.prog 5 #[.int .i64 K1, .int .i64 K2] w fun e w' => e = .returned (.bool true) ∧ Below w.heap.size w w' := by
  have HB0 := hid (Below.refl w.heap.size w)
  have HA0 : Hid (All w []) := trivial
  go_enter Try.func5, Try.ntmps5
  go_wp2_with fail
  refine (partsLive_any _).mono ?_
  rintro e w1 ⟨rfl, hb⟩
  have HB1 := hid (below_step HB0.out (Nat.le_refl _) hb)
  have HA1 : Hid (All w1 []) := HA0.out.keep hb
  clear HA0 HB0
  clear hb
  go_wp2_with fail
  refine (within_any K1 16 _ (by omega) (by omega)).mono ?_
  rintro e w' ⟨rfl, rfl⟩
  have hk1 := Int.emod_nonneg K1 (show (16 : Int) ≠ 0 by omega)
  have hk2 := Int.emod_lt_of_pos K1 (show (0 : Int) < 16 by omega)
  generalize K1 % 16 = N1 at hk1 hk2 ⊢
  obtain ⟨n, rfl⟩ := Int.eq_ofNat_of_zero_le hk1
  have hn : n ≤ 15 := by omega
  clear hk1 hk2
  go_wp2_with fail
  refine (within_any K2 16 _ (by omega) (by omega)).mono ?_
  rintro e w' ⟨rfl, rfl⟩
  have hk1 := Int.emod_nonneg K2 (show (16 : Int) ≠ 0 by omega)
  have hk2 := Int.emod_lt_of_pos K2 (show (0 : Int) < 16 by omega)
  generalize K2 % 16 = N1 at hk1 hk2 ⊢
  obtain ⟨k, rfl⟩ := Int.eq_ofNat_of_zero_le hk1
  have hk : k ≤ 15 := by omega
  clear hk1 hk2
  go_wp2_with fail
  refine (forms_any n n _ hn hn).mono ?_
  rintro e w2 ⟨v1, rfl, hr1, hb⟩
  obtain ⟨A1, c1, hv1, _⟩ := hr1.form
  subst hv1
  have HL := hid (hr1.mono (Nat.zero_le _))
  clear hr1
  have HB2 := hid (below_step HB1.out (Nat.le_refl _) hb)
  have HA2 : Hid (All w2 []) := HA1.out.keep hb
  clear HA1 HB1
  clear hb
  have HPT := hid (fun x (hx : x ∈ pforms 15 n n) => pforms_part hn hx)
  have HC1 := hid (pforms_all hn)
  have HC2 := hid (pforms_low hn hk)
  have HC3 := hid (pforms_few hn hk)
  have hLL : (pforms 15 n n).length ≤ 32768 := Nat.le_trans (pforms_len 15 n n) (Nat.le_trans (Nat.pow_le_pow_right (by omega) hn) (by decide))
  generalize pforms 15 n n = L at *
  go_wp2_with fail
  go_loopg [5, 6, 27] L.length (fun g s t u wr => ∃ j : Nat, j ≤ L.length ∧ L.length - j ≤ g ∧ u = .int .i64 (j : Int) ∧ s = .int .i64 (((L.take j).countP (lowB k) : Nat) : Int) ∧ t = .int .i64 (((L.take j).countP (fewB k) : Nat) : Int) ∧ Rows2 wr 0 (.slice A1 L.length c1) L ∧ Below w.heap.size w wr)
  case atStart => exact ⟨0, Nat.zero_le _, by omega, rfl, by simp, by simp, HL.out, HB2.out⟩
  case round =>
    obtain ⟨j, hj, hg, rfl, rfl, rfl, hr, hb⟩ := hrel
    have HR := hid hr
    have HB := hid hb
    clear hr hb HL
    have ha1 : (L.take j).countP (lowB k) ≤ 32768 := Nat.le_trans List.countP_le_length (by rw [List.length_take]; omega)
    have ha2 : (L.take j).countP (fewB k) ≤ 32768 := Nat.le_trans List.countP_le_length (by rw [List.length_take]; omega)
    by_cases hlt : j < L.length
    · obtain ⟨g1, cap1, u, e1, hcell, hu⟩ := HR.out.at hlt
      injection e1 with e1 _ e3
      subst e1
      subst e3
      have HS1 := hid (countP_snoc hlt (lowB k))
      have HS2 := hid (countP_snoc hlt (fewB k))
      have HP : Hid (IsPart (L.getD j [])) := HPT.out _ (by rw [List.getD_eq_getElem?_getD, List.getElem?_eq_getElem hlt]; exact List.getElem_mem hlt)
      generalize L.getD j [] = x at *
      generalize (L.take j).countP (lowB k) = lo at *
      generalize (L.take j).countP (fewB k) = fe at *
      obtain ⟨A5, c5, rfl, hI, _⟩ := hu.ints
      obtain ⟨m, hm⟩ : ∃ m, m = x.length := ⟨_, rfl⟩
      rw [← hm] at hI hcell
      have HM := hid hm
      have HI := hid hI
      have hm40 : m ≤ 40 := by rw [hm]; exact HP.out.length_le
      clear hI hu hm
      go_wp2_with fail
      refine (turned_ok A5 m c5 x _ HI.out HP.out).mono ?_
      rintro e w5 ⟨A6, n6, c6, rfl, hb, hI6, _⟩
      have HB5 := hid (below_step HB.out (Nat.le_refl _) hb)
      have HR5 := hid (HR.out.keep hb)
      have HI5 := hid (HI.out.keep hb)
      have HI6 := hid hI6
      have h6 : n6 = (x.getD 0 0).toNat := by rw [← length_conj]; exact hI6.len.symm
      have HH := hid (head_conj HP.out)
      have H6 := hid h6
      clear hb hI6 HR HI HB hcell h6
      go_wp2_with fail
      refine (pcheck_any A5 m c5 x _ HI5.out (by omega)).mono ?_
      rintro e w' ⟨rfl, rfl⟩
      rw [partErr_ok HP.out]
      by_cases h0 : m = 0
      · have hx : x = [] := List.eq_nil_of_length_eq_zero (by rw [← HM.out]; exact h0)
        subst h0
        have h60 : n6 = 0 := by rw [H6.out, hx]; rfl
        subst h60
        have q1 : lowB k x = true := by rw [hx]; unfold lowB; simp
        have q2 : fewB k x = true := by rw [hx]; unfold fewB; simp
        rw [q1] at HS1
        rw [q2] at HS2
        clear hx q1 q2
        go_wp2
        go_roundg (L.length - (j + 1))
        case measure => omega
        case rel => exact ⟨j + 1, by omega, by omega, by go_num, by rw [HS1.out]; rfl, by rw [HS2.out]; rfl, HR5.out, HB5.out⟩
      · have hne : ((m : Int) == 0) = false := by simp; omega
        have hge := HP.out.ge (j := 0) (by rw [← HM.out]; omega)
        have h6 := H6.out
        obtain ⟨b5, o5, rfl, _, hc5⟩ := HI5.out.row (by omega)
        obtain ⟨b6, o6, rfl, _, hc6⟩ := HI6.out.row (by omega)
        have g5 := hc5 0 (by omega)
        have g6 := hc6 0 (by omega)
        rw [Nat.add_zero] at g5 g6
        rw [HH.out, ← HM.out] at g6
        have hne6 : ((n6 : Int) == 0) = false := by simp; omega
        have hn6 : 0 < n6 := by omega
        have hni6 : (0 : Int) < (n6 : Int) := by omega
        have hm0 : 0 < m := by omega
        have q1 : lowB k x = decide (x.getD 0 0 ≤ (k : Int)) := rfl
        have q2 : fewB k x = decide ((m : Int) ≤ (k : Int)) := by rw [HM.out]; rfl
        rw [q1] at HS1
        rw [q2] at HS2
        clear hc5 hc6 h6 q1 q2
        generalize x.getD 0 0 = y at *
        by_cases hyk : y ≤ (k : Int)
        · by_cases hmk : m ≤ k
          · have hmk2 : (m : Int) ≤ (k : Int) := by omega
            rw [decide_eq_true hyk] at HS1
            rw [decide_eq_true hmk2] at HS2
            go_wp2
            go_roundg (L.length - (j + 1))
            case measure => omega
            case rel => exact ⟨j + 1, by omega, by omega, by go_num, by rw [HS1.out]; rfl, by rw [HS2.out]; rfl, HR5.out, HB5.out⟩
          · have hmk2 : ¬ (m : Int) ≤ (k : Int) := by omega
            rw [decide_eq_true hyk] at HS1
            rw [decide_eq_false hmk2] at HS2
            go_wp2
            go_roundg (L.length - (j + 1))
            case measure => omega
            case rel => exact ⟨j + 1, by omega, by omega, by go_num, by rw [HS1.out]; rfl, by rw [HS2.out]; rfl, HR5.out, HB5.out⟩
        · by_cases hmk : m ≤ k
          · have hmk2 : (m : Int) ≤ (k : Int) := by omega
            rw [decide_eq_false hyk] at HS1
            rw [decide_eq_true hmk2] at HS2
            go_wp2
            go_roundg (L.length - (j + 1))
            case measure => omega
            case rel => exact ⟨j + 1, by omega, by omega, by go_num, by rw [HS1.out]; rfl, by rw [HS2.out]; rfl, HR5.out, HB5.out⟩
          · have hmk2 : ¬ (m : Int) ≤ (k : Int) := by omega
            rw [decide_eq_false hyk] at HS1
            rw [decide_eq_false hmk2] at HS2
            go_wp2
            go_roundg (L.length - (j + 1))
            case measure => omega
            case rel => exact ⟨j + 1, by omega, by omega, by go_num, by rw [HS1.out]; rfl, by rw [HS2.out]; rfl, HR5.out, HB5.out⟩
    · have HT : Hid (L.take j = L) := List.take_of_length_le (by omega)
      rw [HT.out, HC3.out, ← HC2.out]
      go_wp2_with fail
      refine (count_any n n _ (by omega) (by omega)).mono ?_
      rintro e w5 ⟨rfl, hb⟩
      have HB5 := hid (below_step HB.out (Nat.le_refl _) hb)
      clear hb HB
      rw [HC1.out]
      go_wp2_with fail
      refine (count_any n k _ (by omega) (by omega)).mono ?_
      rintro e w6 ⟨rfl, hb⟩
      have HB6 := hid (below_step HB5.out (Nat.le_refl _) hb)
      clear hb HB5
      clear ha1 ha2
      generalize pcnt k n = q at *
      go_wp2_with fail
      refine (good_bel _ _ _ 2 [0, 0] rfl rfl (by omega)).mono ?_
      rintro e w7 ⟨rfl, hb⟩
      have HB7 := hid (below_step HB6.out (Nat.le_refl _) hb)
      clear hb HB6
      rw [show allOK [0, 0] = true by decide]
      go_wp2
      go_ret
      exact ⟨rfl, HB7.out⟩

end Go.Proofs.Yteegddpoekphoaa
