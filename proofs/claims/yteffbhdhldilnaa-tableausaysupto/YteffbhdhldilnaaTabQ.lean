/-
  castref.TableauErr, castref.SamePair.
-/
import Derived.Test.YteffbhdhldilnaaTabG
import Derived.Test.YteffbhdhldilnaaTabX
import Derived.Test.YteffbhdhldilnaaRefE
namespace Go.Proofs.Yteffbhdhldilnaa
open Go.RowKit

set_option maxHeartbeats 800000 in
theorem samePair_any (A1 : Option Addr) (n1 c1 : Nat) (A2 : Option Addr) (n2 c2 : Nat) (B1 : Option Addr) (m1 d1 : Nat) (B2 : Option Addr) (m2 d2 : Nat) (P Q R S : List (List Int)) (w : World) (h1 : RRows w A1 n1 P) (h2 : RRows w A2 n2 Q) (h3 : RRows w B1 m1 R) (h4 : RRows w B2 m2 S)
    (l1 : n1 ≤ 9223372036854775807) (l2 : n2 ≤ 9223372036854775807) (l3 : m1 ≤ 9223372036854775807) (l4 : m2 ≤ 9223372036854775807) (s1 : ∀ j, (P.getD j []).length ≤ 1000000) (s2 : ∀ j, (Q.getD j []).length ≤ 1000000) (s3 : ∀ j, (R.getD j []).length ≤ 1000000) (s4 : ∀ j, (S.getD j []).length ≤ 1000000) :
    Calls Try.prog 14 #[.agg #[.slice A1 n1 c1, .slice A2 n2 c2], .agg #[.slice B1 m1 d1, .slice B2 m2 d2]] w fun e w' => e = .returned (.bool (decide (P = R) && decide (Q = S))) ∧ Below w.heap.size w w' := by
  have hx1 := PairAt.new (c := c1) (c' := c2) h1 h2
  have hb1 := below_alloc w (.cells #[.slice A1 n1 c1, .slice A2 n2 c2] 25)
  obtain ⟨w1, hw1⟩ : ∃ w1, w1 = w.alloc (.cells #[.slice A1 n1 c1, .slice A2 n2 c2] 25) := ⟨_, rfl⟩
  have hsz : (w.alloc (.cells #[.slice A1 n1 c1, .slice A2 n2 c2] 25)).heap.size = w.heap.size + 1 := by simp
  have hx2 := PairAt.new (c := d1) (c' := d2) (h3.keep hb1) (h4.keep hb1)
  have hb2 := below_alloc (w.alloc (.cells #[.slice A1 n1 c1, .slice A2 n2 c2] 25)) (.cells #[.slice B1 m1 d1, .slice B2 m2 d2] 25)
  have hx1' := hx1.keep hb2
  have HB := hid (below_step hb1 (Nat.le_refl _) hb2)
  rw [hsz] at hx2
  have HX1 := hid hx1'
  have HX2 := hid hx2
  have S1 := hid s1
  have S2 := hid s2
  have S3 := hid s3
  have S4 := hid s4
  clear h1 h2 h3 h4 s1 s2 s3 s4 hx1 hx2 hx1' hb1 hb2 hsz hw1
  have p0 := HX1.out.p0
  have p1 := HX1.out.p1
  have q0 := HX2.out.p0
  have q1 := HX2.out.p1
  go_enter Try.func14, Try.ntmps14
  go_wp2_with fail
  refine (equalFunc_eq A1 n1 c1 B1 m1 d1 P R _ HX1.out.rp HX2.out.rp l1 l3 S1.out S3.out).mono ?_
  rintro e w2 ⟨rfl, hb⟩
  rw [sameBy_eq]
  have HB2 := hid (below_step HB.out (Nat.le_refl _) hb)
  have HY1 := hid (HX1.out.keep hb)
  have HY2 := hid (HX2.out.keep hb)
  clear hb HX1 HX2 HB p0 p1 q0 q1
  by_cases hPR : P = R
  · rw [decide_eq_true hPR]
    have HQ := hid hPR
    clear hPR
    have p0 := HY1.out.p0
    have p1 := HY1.out.p1
    have q0 := HY2.out.p0
    have q1 := HY2.out.p1
    go_wp2_with fail
    refine (equalFunc_eq A2 n2 c2 B2 m2 d2 Q S _ HY1.out.rq HY2.out.rq l2 l4 S2.out S4.out).mono ?_
    rintro e w3 ⟨rfl, hb⟩
    rw [sameBy_eq]
    have HB3 := hid (below_step HB2.out (Nat.le_refl _) hb)
    obtain ⟨q, hq⟩ : ∃ q, q = decide (Q = S) := ⟨_, rfl⟩
    rw [← hq]
    have HQQ := hid hq
    clear hb hq p0 p1 q0 q1
    go_wp2
    go_ret
    refine ⟨?_, HB3.out⟩
    rw [decide_eq_true HQ.out, ← HQQ.out]
    rfl
  · rw [decide_eq_false hPR]
    have HQ := hid hPR
    clear hPR
    go_wp2
    go_ret
    refine ⟨?_, HB2.out⟩
    rw [decide_eq_false HQ.out, Bool.false_and]
    rfl

theorem fits_no_len {row above : List Int} (h : above.length < row.length) : fitsB row above = false := by
  unfold fitsB
  rw [decide_eq_false (by omega), Bool.false_and]
theorem fits_no_at {row above : List Int} {k : Nat} (hk : k < row.length) (h : row.getD k 0 < above.getD k 0) : fitsB row above = false := by
  unfold fitsB
  rw [Bool.and_eq_false_iff]
  right
  rw [List.all_eq_false]
  refine ⟨k, by simpa using hk, ?_⟩
  simp only [decide_eq_true_eq]
  omega

set_option maxHeartbeats 2400000 in
theorem tableauErr_any (A : Option Addr) (n c : Nat) (T : List (List Int)) (w : World) (h : RRows w A n T) (hn : n ≤ 2000000) (hL : T.flatten.length ≤ 2000000) :
    Calls Try.prog 12 #[.slice A n c] w fun e w' => e = .returned (.int .i64 (tabErr T)) ∧ Below w.heap.size w w' := by
  have H := hid h
  have HL := hid h.len
  have HFT := hid hL
  clear h hL
  go_enter Try.func12, Try.ntmps12
  go_wp2
  go_loopg [3, 12] n (fun g s t wr => ∃ k : Nat, k ≤ n ∧ n - k ≤ g ∧ t = .int .i64 (k : Int) ∧ OwnInts wr w.heap.size s (T.take k).flatten ∧ Below w.heap.size w wr)
  case atStart => exact ⟨0, Nat.zero_le _, by omega, rfl, OwnInts.nil _ _, Below.refl _ _⟩
  case round =>
    obtain ⟨k, hk, hg2, rfl, ho, hb⟩ := hrel
    have HO := hid ho
    have HB := hid hb
    clear ho hb
    by_cases hlt2 : k < n
    · obtain ⟨b1, o1, Aj, nj, cj, rfl, g1, hI1, hc1, hz1⟩ := (H.out.keep HB.out).at0 hlt2
      have HI1 := hid hI1
      have HZ1 := hid hz1
      have HF := hid (flat_take (T := T) (i := k) (by rw [HL.out]; exact hlt2))
      have HLN : Hid ((T.take k).flatten.length + nj ≤ 1000000000000) := by
        have h1 := flat_take_le T (k + 1)
        have h2 := HFT.out
        rw [HF.out, List.length_append, HI1.out.len] at h1
        exact (by omega : (T.take k).flatten.length + nj ≤ 1000000000000)
      clear hI1 hz1 hc1
      go_wp2_with (at_builtin; refine wpList_appMaybe _ rfl (.tmp 16) (.tmp 17) rfl w.heap.size _ _ rfl _ _ _ _ rfl HO.out HI1.out HZ1.out HLN.out HB.out.size ?_)
      intro v2 w2 ho2 hb2
      rw [← List.getD_eq_getElem?_getD, ← HF.out] at ho2
      have HO2 := hid ho2
      have HB2 := hid (HB.out.trans hb2)
      clear ho2 hb2 g1
      go_wp2
      go_roundg (n - (k + 1))
      case measure => omega
      case rel => exact ⟨k + 1, by omega, by omega, by go_num, HO2.out, HB2.out⟩
    · have hki : k = n := by omega
      subst hki
      have HT : Hid (T.take k = T) := List.take_of_length_le (by rw [HL.out]; exact Nat.le_refl _)
      rw [HT.out] at HO
      obtain ⟨A1, c1, hv, hI1, hC1⟩ := HO.out.ints
      obtain ⟨fl, hfl⟩ : ∃ fl, fl = T.flatten.length := ⟨_, rfl⟩
      rw [← hfl] at hv hI1
      subst hv
      have HI1 := hid hI1
      have HFL := hid hfl
      have hfb : fl ≤ 2000000 := by rw [hfl]; exact HFT.out
      clear hI1 hC1 hfl HO
      by_cases hbig : 10 < fl
      · have HQ : Hid (tabErr T = 2) := tabErr_large (by unfold largeB; exact decide_eq_true (.inr (by rw [← HFL.out]; exact hbig)))
        go_wp2
        go_ret
        refine ⟨?_, HB.out⟩
        rw [HQ.out]
        rfl
      · have hbigI : ¬ (10 : Int) < (fl : Int) := by omega
        by_cases hbn : 10 < k
        · have HQ : Hid (tabErr T = 2) := tabErr_large (by unfold largeB; exact decide_eq_true (.inl (by rw [HL.out]; exact hbn)))
          go_wp2
          go_ret
          refine ⟨?_, HB.out⟩
          rw [HQ.out]
          rfl
        · have hbnI : ¬ (10 : Int) < (k : Int) := by omega
          have HLG : Hid (largeB T = false) := by unfold largeB; exact decide_eq_false (by rw [HL.out, ← HFL.out]; omega)
          go_wp2_with fail
          refine (refErr_any A1 fl c1 T.flatten _ HI1.out (by omega)).mono ?_
          rintro e w' ⟨rfl, rfl⟩
          by_cases hpe : permErr T.flatten = 0
          · rw [hpe]
            have HPE := hid hpe
            have HND : Hid (T.flatten.Nodup) := (permErr_ok.1 hpe).2.nodup_iff.2 (nodup_iota _)
            clear hpe
            go_wp2_with fail
            obtain ⟨w8, hw8⟩ : ∃ w8, w8 = wr := ⟨_, rfl⟩
            rw [← hw8] at HB
            rw [← hw8]
            clear hw8 HI1
            go_loopg [33] k (fun g t wr => ∃ i : Nat, i ≤ k ∧ k - i ≤ g ∧ t = .int .i64 (i : Int) ∧ Below w.heap.size w wr ∧ ∀ j, j < i → rowOK T j = true)
            case atStart => exact ⟨0, Nat.zero_le _, by omega, rfl, HB.out, fun j hj => absurd hj (Nat.not_lt_zero _)⟩
            case round =>
              obtain ⟨i, hi, hg, rfl, hb, hall⟩ := hrel
              have HB2 := hid hb
              have HA := hid hall
              clear hb hall HB
              by_cases hlt : i < k
              · have HBAD : Hid (rowOK T i = false → tabErr T = 3) := fun hbad => tabErr_form HLG.out (fun hh => by have := hh.2 i (by rw [HL.out]; exact hlt); rw [hbad] at this; cases this)
                obtain ⟨b1, o1, Aj, nj, cj, rfl, g1, hI1, hc1⟩ := (H.out.keep HB2.out).at hlt
                have hnj : nj ≤ 10 := by
                  have h1 := length_le_flat2 T i
                  have h2 := hI1.len
                  have h3 := HFL.out
                  omega
                have HIJ := hid hI1
                have HLJ := hid hI1.len
                clear hI1 hc1
                by_cases hz : nj = 0
                · subst hz
                  have HQ := hid (HBAD.out (rowOK_empty HLJ.out))
                  go_wp2
                  go_ret
                  refine ⟨?_, HB2.out⟩
                  rw [HQ.out]
                  rfl
                · have hzI : ((nj : Int) == 0) = false := by simp; omega
                  go_wp2_with fail
                  refine (isSorted_bel Aj nj cj _ _ HIJ.out (by omega)).mono ?_
                  rintro e w3 ⟨rfl, hb3⟩
                  have HB3 := hid (below_step HB2.out (Nat.le_refl _) hb3)
                  have HIJ3 := hid (HIJ.out.keep hb3)
                  clear hb3 HIJ HB2 g1
                  rcases hso : sortedB (T.getD i []) with _ | _
                  · have HQ := hid (HBAD.out (rowOK_sort hso))
                    clear hso
                    go_wp2
                    go_ret
                    refine ⟨?_, HB3.out⟩
                    rw [HQ.out]
                    rfl
                  · have HSO := hid hso
                    clear hso
                    by_cases hi0 : i = 0
                    · subst hi0
                      have HOK := hid (rowOK_yes (T := T) (i := 0) (by rw [HLJ.out]; exact hz) HSO.out (.inl rfl))
                      go_wp2
                      go_loopg [63] nj (fun g t wq => ∃ q : Nat, q ≤ nj ∧ nj - q ≤ g ∧ t = .int .i64 (q : Int) ∧ w3 = wq)
                      case atStart => exact ⟨0, Nat.zero_le _, by omega, rfl, rfl⟩
                      case round =>
                        obtain ⟨q, hq, hg3, rfl, rfl⟩ := hrel
                        by_cases hq2 : q < nj
                        · obtain ⟨b5, o5, rfl, _, hc5⟩ := HIJ3.out.row (by omega)
                          have g5 := hc5 q hq2
                          clear hc5
                          generalize (T.getD 0 []).getD q 0 = x5 at *
                          go_wp2
                          go_roundg (nj - (q + 1))
                          case measure => omega
                          case rel => exact ⟨q + 1, by omega, by omega, by go_num, rfl⟩
                        · have hqn : q = nj := by omega
                          subst hqn
                          go_wp2
                          go_roundg (k - 1)
                          case measure => omega
                          case rel =>
                            refine ⟨1, by omega, by omega, by go_num, HB3.out, fun j hj => ?_⟩
                            have : j = 0 := by omega
                            rw [this]
                            exact HOK.out
                    · obtain ⟨m, hm⟩ : ∃ m, i = m + 1 := ⟨i - 1, by omega⟩
                      obtain ⟨b2, o2, Ak, nk, ck, hA2, g2, hI2, hc2⟩ := (H.out.keep HB3.out).at (j := m) (by omega)
                      injection hA2 with hA2
                      injection hA2 with e1 e2
                      subst e1
                      subst e2
                      have hnk : nk ≤ 10 := by
                        have h1 := length_le_flat2 T m
                        have h2 := hI2.len
                        have h3 := HFL.out
                        omega
                      have HIK := hid hI2
                      have HLK := hid hI2.len
                      clear hI2 hc2
                      have hd : decide (0 < i) = true := by simp; omega
                      have hwr : IntKind.i64.wrap ((i : Int) - 1) = (m : Int) := by rw [IntWalk.i64_in _ (by omega)]; omega
                      have hmn : m < k := by omega
                      have hmN : (m : Int) < (k : Int) := by omega
                      have HMI := hid hm
                      have HBF : Hid (fitsB (T.getD i []) (T.getD m []) = false → tabErr T = 3) := fun hf => HBAD.out (by
                        have e := HMI.out
                        rw [e] at hf ⊢
                        exact rowOK_fit hf)
                      have HGF : Hid (fitsB (T.getD i []) (T.getD m []) = true → rowOK T i = true) := fun hf => rowOK_yes (by rw [HLJ.out]; exact hz) HSO.out (.inr (by
                        have e := HMI.out
                        rw [e] at hf ⊢
                        rw [Nat.add_sub_cancel]
                        exact hf))
                      have hmi : m ≠ i := by omega
                      clear hm
                      by_cases hlen : nk < nj
                      · have HQ := hid (HBF.out (fits_no_len (by rw [HLJ.out, HLK.out]; exact hlen)))
                        have hlenI : (nk : Int) < (nj : Int) := by omega
                        go_wp2
                        go_ret
                        refine ⟨?_, HB3.out⟩
                        rw [HQ.out]
                        rfl
                      · have hlenI : ¬ (nk : Int) < (nj : Int) := by omega
                        go_wp2
                        go_loopg [63] nj (fun g t wq => ∃ q : Nat, q ≤ nj ∧ nj - q ≤ g ∧ t = .int .i64 (q : Int) ∧ w3 = wq ∧ ∀ r, r < q → (T.getD m []).getD r 0 ≤ (T.getD i []).getD r 0)
                        case atStart => exact ⟨0, Nat.zero_le _, by omega, rfl, rfl, fun r hr => absurd hr (Nat.not_lt_zero _)⟩
                        case round =>
                          obtain ⟨q, hq, hg3, rfl, rfl, hle⟩ := hrel
                          have HLE := hid hle
                          clear hle
                          by_cases hq2 : q < nj
                          · obtain ⟨b5, o5, rfl, _, hc5⟩ := HIJ3.out.row (by omega)
                            obtain ⟨b6, o6, rfl, _, hc6⟩ := HIK.out.row (by omega)
                            have g5 := hc5 q hq2
                            have g6 := hc6 q (by omega)
                            have hqk : q < nk := by omega
                            clear hc5 hc6
                            by_cases hgt : (T.getD i []).getD q 0 < (T.getD m []).getD q 0
                            · have HQ := hid (HBF.out (fits_no_at (by rw [HLJ.out]; exact hq2) hgt))
                              generalize (T.getD i []).getD q 0 = x5 at *
                              generalize (T.getD m []).getD q 0 = x6 at *
                              go_wp2
                              go_ret
                              refine ⟨?_, HB3.out⟩
                              rw [HQ.out]
                              rfl
                            · have HX : Hid ((T.getD m []).getD q 0 ≤ (T.getD i []).getD q 0) := by exact (by omega : (T.getD m []).getD q 0 ≤ (T.getD i []).getD q 0)
                              generalize hx5 : (T.getD i []).getD q 0 = x5 at *
                              generalize hx6 : (T.getD m []).getD q 0 = x6 at *
                              have HX5 := hid hx5
                              have HX6 := hid hx6
                              clear hx5 hx6
                              go_wp2
                              go_roundg (nj - (q + 1))
                              case measure => omega
                              case rel =>
                                refine ⟨q + 1, by omega, by omega, by go_num, rfl, fun r hr => ?_⟩
                                by_cases e : r = q
                                · rw [e, HX5.out, HX6.out]; exact HX.out
                                · exact HLE.out r (by omega)
                          · have hqn : q = nj := by omega
                            subst hqn
                            have HOK : Hid (rowOK T i = true) := HGF.out (fitsB_iff.2 ⟨by rw [HLJ.out, HLK.out]; omega, fun r hr => by
                              rw [HLJ.out] at hr
                              have h1 := HLE.out r hr
                              have h2 := rows_cross HND.out hmi (getD_mem0 (l := T.getD m []) (k := r) (by rw [HLK.out]; omega)) (getD_mem0 (l := T.getD i []) (k := r) (by rw [HLJ.out]; exact hr))
                              omega⟩)
                            go_wp2
                            go_roundg (k - (i + 1))
                            case measure => omega
                            case rel =>
                              refine ⟨i + 1, by omega, by omega, by go_num, HB3.out, fun j hj => ?_⟩
                              by_cases e : j = i
                              · rw [e]; exact HOK.out
                              · exact HA.out j (by omega)
              · have hin : i = k := by omega
                subst hin
                have HQ := hid (tabErr_good HLG.out HPE.out (by rw [HL.out]; exact HA.out))
                go_wp2
                go_ret
                refine ⟨?_, HB2.out⟩
                rw [HQ.out]
                rfl
          · have HQ := hid (tabErr_form HLG.out (fun hh => hpe hh.1))
            have he3 : permErr T.flatten = 3 := by
              unfold permErr at hpe ⊢
              rw [if_neg (by rw [← HFL.out]; omega)] at hpe ⊢
              split
              · rename_i h
                rw [if_pos h] at hpe
                exact absurd rfl hpe
              · rfl
            rw [he3]
            clear he3 hpe
            go_wp2
            go_ret
            refine ⟨?_, HB.out⟩
            rw [HQ.out]
            rfl

end Go.Proofs.Yteffbhdhldilnaa
