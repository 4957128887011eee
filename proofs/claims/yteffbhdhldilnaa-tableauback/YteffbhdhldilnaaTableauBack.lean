/-
  castkeep.TableauBack, walked.
-/
import Derived.Test.YteffbhdhldilnaaTabJ
import Derived.Test.YteffbhdhldilnaaAll
namespace Go.Proofs.Yteffbhdhldilnaa
open Go.RowKit

theorem PQ_lens (p : List Int) : (PT p).map List.length = (QT p).map List.length := by
  apply List.ext_getElem
  · rw [List.length_map, List.length_map, PQ_length]
  · intro i h1 h2
    rw [List.getElem_map, List.getElem_map]
    have := PQ_tlen p i
    unfold tlen at this
    rw [List.length_map] at h1 h2
    rw [List.getD_eq_getElem?_getD, List.getD_eq_getElem?_getD, List.getElem?_eq_getElem h1, List.getElem?_eq_getElem h2] at this
    exact this
theorem backE_ok {P Q : List (List Int)} (h : backE P Q = 0) : IsTab P ∧ IsTab Q ∧ P.map List.length = Q.map List.length := by
  unfold backE at h
  split at h
  · rename_i h1
    exact absurd h h1
  · rename_i h1
    split at h
    · rename_i h2
      exact absurd h h2
    · rename_i h2
      split at h
      · rename_i h3
        exact ⟨tab_of_err (by omega), tab_of_err (by omega), h3⟩
      · cases h

set_option maxHeartbeats 4000000 in
set_option maxRecDepth 100000 in
theorem tableauBack_any (A0 : Option Addr) (n0 c0 : Nat) (xs : List Int) (A : Option Addr) (n c : Nat) (A' : Option Addr) (n' c' : Nat) (P Q : List (List Int)) (w : World) (h : Ints w A0 n0 xs) (hc : n0 ≤ c0) (h1 : RRows w A n P) (h2 : RRows w A' n' Q) (hn : n ≤ 9223372036854775807) (hn' : n' ≤ 9223372036854775807) (hL : ∀ j, (P.getD j []).length ≤ 4611686018427387904) (hL' : ∀ j, (Q.getD j []).length ≤ 4611686018427387904) :
    Calls Try.prog 5 #[.slice A0 n0 c0, .agg #[.slice A n c, .slice A' n' c']] w fun e w' => e = .returned (.bool true) ∧ Below w.heap.size w w' := by
  have HY0 : Hid (PairAt (w.alloc (.cells #[.slice A n c, .slice A' n' c'] 25)) w.heap.size A n c A' n' c' P Q) := PairAt.new h1 h2
  have HB0 := hid (below_alloc w (.cells #[.slice A n c, .slice A' n' c'] 25))
  have HI0 := hid (h.keep HB0.out)
  have HL := hid hL
  have HL' := hid hL'
  clear h h1 h2 hL hL'
  go_enter Try.func5, Try.ntmps5
  go_wp2_with fail
  refine (tableaux_any _).mono ?_
  rintro e w1 ⟨rfl, hb⟩
  have HB1 := hid (below_step HB0.out (Nat.le_refl _) hb)
  have HI1 := hid (HI0.out.keep hb)
  have HY1 := hid (HY0.out.keep hb)
  clear hb HI0 HY0 HB0
  go_wp2_with fail
  obtain ⟨m, hm⟩ : ∃ m, m = min n0 10 := ⟨_, rfl⟩
  have hm10 : m ≤ 10 := by omega
  refine (permOf_ten A0 n0 c0 m xs _ HI1.out hc hm).mono ?_
  clear hm
  rintro e w2 ⟨A3, c3, p, rfl, hp, hIp, hCp, hb⟩
  have HB2 := hid (below_step HB1.out (Nat.le_refl _) hb)
  have HY2 := hid (HY1.out.keep hb)
  have HIP := hid hIp
  have HP := hid hp
  have HLP := hid hIp.len
  clear hb hIp hp hCp HI1 HB1 HY1
  go_wp2_with fail
  refine (tabOf_ok A3 m c3 p _ HIP.out (permErr_of HP.out (by rw [HLP.out]; exact hm10))).mono ?_
  rintro e w3 ⟨B1, n1, d1, B2, n2, d2, rfl, hR1, hR2, hC1, hC2, hb⟩
  have HT3 : Hid (PairAt (w3.alloc (.cells #[.slice B1 n1 d1, .slice B2 n2 d2] 25)) w3.heap.size B1 n1 d1 B2 n2 d2 (PT p) (QT p)) := PairAt.new hR1 hR2
  have hb3 := below_step hb (Nat.le_refl _) (below_alloc w3 (.cells #[.slice B1 n1 d1, .slice B2 n2 d2] 25))
  have HB3 := hid (below_step HB2.out (Nat.le_refl _) hb3)
  have HY3 := hid (HY2.out.keep hb3)
  have HIP3 := hid (HIP.out.keep hb3)
  have HTP := hid (isTab_PT HP.out (by rw [HLP.out]; exact hm10))
  have HTQ := hid (isTab_QT (HP.out.nodup_iff.2 (nodup_iota _)) (by rw [HLP.out]; exact hm10))
  have HLN := hid (PQ_lens p)
  have hl1 : n1 = n2 := by rw [← hR1.len, ← hR2.len]; exact PQ_length p
  subst hl1
  have hn10 : n1 ≤ 10 := by rw [← hR1.len]; exact HTP.out.len
  have HFL : Hid ((QT p).flatten.length = m) := by rw [QT_flat_len, HLP.out]; exact rfl
  clear hR1 hR2 hC1 hC2 hb hb3 HB2 HY2 HIP
  go_wp2_with fail
  refine (tback_ok B1 n1 d1 B2 n1 d2 (PT p) (QT p) _ HT3.out.rp HT3.out.rq HTP.out HTQ.out HLN.out).mono ?_
  rintro e w4 ⟨g4, G4, hG4, rfl, hI4, hb⟩
  rw [back_undoes HP.out hG4] at hI4
  rw [HFL.out] at hI4 ⊢
  have HB4 := hid (below_step HB3.out (Nat.le_refl _) hb)
  have HY4 := hid (HY3.out.keep hb)
  have HIP4 := hid (HIP3.out.keep hb)
  have HT4 := hid (HT3.out.keep hb)
  have HIB := hid hI4
  clear hb hI4 hG4 HB3 HY3 HIP3 HT3
  go_wp2_with fail
  refine (good_bel _ _ _ 2 [0, 0] rfl rfl (by omega)).mono ?_
  rintro e w5 ⟨rfl, hb⟩
  rw [show allOK [0, 0] = true by decide]
  have HB5 := hid (below_step HB4.out (Nat.le_refl _) hb)
  have HY5 := hid (HY4.out.keep hb)
  have HIP5 := hid (HIP4.out.keep hb)
  have HIB5 := hid (HIB.out.keep hb)
  have HT5 := hid (HT4.out.keep hb)
  clear hb HB4 HY4 HIP4 HIB HT4
  go_wp2_with fail
  refine (equal_bel A3 m c3 _ m m p p _ HIP5.out HIB5.out (by omega) (by omega)).mono ?_
  rintro e w6 ⟨rfl, hb⟩
  rw [decide_eq_true rfl]
  have HB6 := hid (below_step HB5.out (Nat.le_refl _) hb)
  have HY6 := hid (HY5.out.keep hb)
  have HT6 := hid (HT5.out.keep hb)
  clear hb HB5 HY5 HIP5 HIB5 HT5
  have t0 := HT6.out.p0
  have t1 := HT6.out.p1
  have HRP : Hid (∀ j, ((PT p).getD j []).length ≤ 10) := fun j => Nat.le_trans (length_le_flat2 _ j) HTP.out.flat
  have HRQ : Hid (∀ j, ((QT p).getD j []).length ≤ 10) := fun j => Nat.le_trans (length_le_flat2 _ j) HTQ.out.flat
  go_wp2_with fail
  refine (tcheck_any B1 n1 d1 (PT p) _ HT6.out.rp (by omega) (fun j => Nat.le_trans (HRP.out j) (by omega))).mono ?_
  rintro e w7 ⟨rfl, hb⟩
  rw [err_of_tab HTP.out]
  have HB7 := hid (below_step HB6.out (Nat.le_refl _) hb)
  have HY7 := hid (HY6.out.keep hb)
  have HT7 := hid (HT6.out.keep hb)
  clear hb HB6 HY6 HT6 t0 t1
  have t0 := HT7.out.p0
  have t1 := HT7.out.p1
  go_wp2_with fail
  refine (tcheck_any B2 n1 d2 (QT p) _ HT7.out.rq (by omega) (fun j => Nat.le_trans (HRQ.out j) (by omega))).mono ?_
  rintro e w8 ⟨rfl, hb⟩
  rw [err_of_tab HTQ.out]
  have HB8 := hid (below_step HB7.out (Nat.le_refl _) hb)
  have HY8 := hid (HY7.out.keep hb)
  have HT8 := hid (HT7.out.keep hb)
  clear hb HB7 HY7 HT7 t0 t1
  have t0 := HT8.out.p0
  have t1 := HT8.out.p1
  have hbt := HT8.out.lt
  go_wp2_with fail
  go_loopg [64] n1 (fun g t wr => ∃ i q : Nat, i ≤ n1 ∧ n1 - i ≤ g ∧ t = .int .i64 (i : Int) ∧ wr = w8.drewN q)
  case atStart => exact ⟨0, 0, Nat.zero_le _, by omega, rfl, rfl⟩
  case round =>
    obtain ⟨i, q, hi, hg, rfl, hwr⟩ := hrel
    have HWR := hid hwr
    have HYR : Hid (PairAt wr w.heap.size A n c A' n' c' P Q) := by rw [hwr]; exact HY8.out.keep (below_drewN (Below.refl _ _) q)
    have HTR : Hid (PairAt wr w3.heap.size B1 n1 d1 B2 n1 d2 (PT p) (QT p)) := by rw [hwr]; exact HT8.out.keep (below_drewN (Below.refl _ _) q)
    have HBR : Hid (Below w.heap.size w wr) := by rw [hwr]; exact below_drewN HB8.out q
    clear hwr t0 t1
    by_cases hlt : i < n1
    · have t0 := HTR.out.p0
      have t1 := HTR.out.p1
      obtain ⟨b1, o1, Aj, nj, cj, hB1, g1, hI1, hc1⟩ := HTR.out.rp.at hlt
      obtain ⟨b2, o2, Ak, nk, ck, hB2, g2, hI2, hc2⟩ := HTR.out.rq.at hlt
      subst hB1
      subst hB2
      have hjk : nj = nk := by
        rw [← hI1.len, ← hI2.len]
        exact PQ_tlen p i
      subst hjk
      clear hI1 hI2 hc1 hc2
      go_wp2_with fail
      go_quiet (fail)
      go_wp2
      go_roundg (n1 - (i + 1))
      case measure => omega
      case rel => exact ⟨i + 1, _, by omega, by omega, by go_num, by rw [HWR.out, World.drewN_drewN]⟩
    · have hin : i = n1 := by omega
      subst hin
      have y0 := HYR.out.p0
      have y1 := HYR.out.p1
      have hyl := HYR.out.lt
      by_cases hbe : backE P Q = 0
      · obtain ⟨tP, tQ, hll⟩ := backE_ok hbe
        have HTP2 := hid tP
        have HTQ2 := hid tQ
        have HLL := hid hll
        clear tP tQ hll hbe
        go_wp2_with fail
        refine (tback_ok A n c A' n' c' P Q _ HYR.out.rp HYR.out.rq HTP2.out HTQ2.out HLL.out).mono ?_
        rintro e w9 ⟨g9, G9, hG9, rfl, hI9, hb⟩
        obtain ⟨k1, k2, k3, k4⟩ := back_of_tab HTP2.out HTQ2.out HLL.out hG9
        obtain ⟨cL, hcL⟩ : ∃ cL, cL = backL P G9 := ⟨_, rfl⟩
        rw [← hcL] at k1 k2 k3 k4 hI9
        obtain ⟨fl, hfl⟩ : ∃ fl, fl = Q.flatten.length := ⟨_, rfl⟩
        rw [← hfl] at k4 hI9
        rw [← hfl]
        have hf10 : fl ≤ 10 := by rw [hfl]; exact HTQ2.out.flat
        have HB9 := hid (below_step HBR.out (Nat.le_refl _) hb)
        have HY9 := hid (HYR.out.keep hb)
        have HI9 := hid hI9
        have K1 := hid k1
        have K2 := hid k2
        have K3 := hid k3
        have K4 := hid k4
        clear hb hI9 hG9 k1 k2 k3 k4 hcL hfl y0 y1 hyl
        go_wp2_with fail
        refine (tabOf_ok _ fl fl cL _ HI9.out (permErr_of K3.out (by rw [K4.out]; exact hf10))).mono ?_
        rintro e w10 ⟨B3, n3, d3, B4, n4, d4, rfl, hR3, hR4, hC3, hC4, hb⟩
        rw [K1.out] at hR3
        rw [K2.out] at hR4
        have HU : Hid (PairAt (w10.alloc (.cells #[.slice B3 n3 d3, .slice B4 n4 d4] 25)) w10.heap.size B3 n3 d3 B4 n4 d4 P Q) := PairAt.new hR3 hR4
        have hb10 := below_step hb (Nat.le_refl _) (below_alloc w10 (.cells #[.slice B3 n3 d3, .slice B4 n4 d4] 25))
        have HB10 := hid (below_step HB9.out (Nat.le_refl _) hb10)
        have HY10 := hid (HY9.out.keep hb10)
        have HC3 := hid hC3
        have HC4 := hid hC4
        clear hR3 hR4 hC3 hC4 hb hb10 HB9 HY9 HI9
        have y0 := HY10.out.p0
        have y1 := HY10.out.p1
        have u0 := HU.out.p0
        have u1 := HU.out.p1
        go_wp2_with fail
        refine (sameRows_any B3 n3 d3 A n c P P _ HU.out.rp HY10.out.rp (by have := HC3.out; unfold Cap at this; omega) hn (fun j => Nat.le_trans (length_le_flat2 P j) (Nat.le_trans HTP2.out.flat (by omega))) (fun j => Nat.le_trans (length_le_flat2 P j) (Nat.le_trans HTP2.out.flat (by omega)))).mono ?_
        rintro e w11 ⟨rfl, hb⟩
        rw [decide_eq_true rfl]
        have HB11 := hid (below_step HB10.out (Nat.le_refl _) hb)
        have HY11 := hid (HY10.out.keep hb)
        have HU11 := hid (HU.out.keep hb)
        clear hb HB10 HY10 HU y0 y1 u0 u1
        have y0 := HY11.out.p0
        have y1 := HY11.out.p1
        have u0 := HU11.out.p0
        have u1 := HU11.out.p1
        go_wp2_with fail
        refine (sameRows_any B4 n4 d4 A' n' c' Q Q _ HU11.out.rq HY11.out.rq (by have := HC4.out; unfold Cap at this; omega) hn' (fun j => Nat.le_trans (length_le_flat2 Q j) (Nat.le_trans HTQ2.out.flat (by omega))) (fun j => Nat.le_trans (length_le_flat2 Q j) (Nat.le_trans HTQ2.out.flat (by omega)))).mono ?_
        rintro e w12 ⟨rfl, hb⟩
        rw [decide_eq_true rfl]
        have HB12 := hid (below_step HB11.out (Nat.le_refl _) hb)
        clear hb HB11 HY11 HU11 y0 y1 u0 u1
        go_wp2
        go_ret
        exact ⟨rfl, HB12.out⟩
      · obtain ⟨er, her⟩ : ∃ er, er = backE P Q := ⟨_, rfl⟩
        have he' : (er != 0) = true := by rw [her]; simpa using hbe
        have HER := hid her
        have HBE := hid hbe
        clear her hbe
        go_wp2_with fail
        refine (tback_bad A n c A' n' c' P Q _ HYR.out.rp HYR.out.rq hn hn' HL.out HL'.out HBE.out).mono ?_
        rintro e w9 ⟨rfl, hb⟩
        rw [← HER.out]
        have HB9 := hid (below_step HBR.out (Nat.le_refl _) hb)
        clear hb y0 y1 hyl
        go_wp2
        go_ret
        exact ⟨rfl, HB9.out⟩

end Go.Proofs.Yteffbhdhldilnaa
