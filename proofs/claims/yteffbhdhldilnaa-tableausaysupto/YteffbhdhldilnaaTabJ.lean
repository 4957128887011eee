/-
  tableau.Back (P39), walked.
-/
import Derived.Test.YteffbhdhldilnaaTabH
namespace Go.Proofs.Yteffbhdhldilnaa
open Go.RowKit

/-- A list comes back from Back. -/
def RetBack (w : World) (P Q : List (List Int)) (e : Ending) (w' : World) : Prop := ∃ g G, RowsOf Q G ∧ e = .returned (.tuple #[.slice (some ⟨g, 0, none⟩) Q.flatten.length Q.flatten.length, .int .i64 0]) ∧ Ints w' (some ⟨g, 0, none⟩) Q.flatten.length (backL P G) ∧ Below w.heap.size w w'

set_option maxHeartbeats 2000000 in
theorem tback_bad (A : Option Addr) (n c : Nat) (A' : Option Addr) (n' c' : Nat) (P Q : List (List Int)) (w : World) (h1 : RRows w A n P) (h2 : RRows w A' n' Q) (hn : n ≤ 9223372036854775807) (hn' : n' ≤ 9223372036854775807) (hL : ∀ j, (P.getD j []).length ≤ 4611686018427387904) (hL' : ∀ j, (Q.getD j []).length ≤ 4611686018427387904) (he : backE P Q ≠ 0) :
    Calls Try.prog 10 #[.agg #[.slice A n c, .slice A' n' c']] w fun e w' => e = .returned (.tuple #[.slice none 0 0, .int .i64 (backE P Q)]) ∧ Below w.heap.size w w' := by
  have HX : Hid (PairAt (w.alloc (.cells #[.slice A n c, .slice A' n' c'] 25)) w.heap.size A n c A' n' c' P Q) := PairAt.new h1 h2
  have HB0 := hid (below_alloc w (.cells #[.slice A n c, .slice A' n' c'] 25))
  have HL := hid hL
  have HL' := hid hL'
  clear h1 h2 hL hL'
  by_cases e1 : tabErr P = 0
  · by_cases e2 : tabErr Q = 0
    · have e3 : ¬ P.map List.length = Q.map List.length := fun h => he (by unfold backE; rw [if_neg (fun q => q e1), if_neg (fun q => q e2), if_pos h])
      have hbe : backE P Q = 1 := by unfold backE; rw [if_neg (fun q => q e1), if_neg (fun q => q e2), if_neg e3]
      rw [hbe]
      have E1 := hid e1
      have E2 := hid e2
      have E3 : Hid (sameBy sameLenB P Q = false) := by rw [sameBy_lens]; exact decide_eq_false e3
      clear e1 e2 e3 hbe he
      go_enter Try.func10, Try.ntmps10
      go_wp2_with fail
      refine (tcheck_any A n c P _ HX.out.rp hn HL.out).mono ?_
      rintro e w1 ⟨rfl, hb⟩
      rw [E1.out]
      have HX1 := hid (HX.out.keep hb)
      have HB1 := hid (below_step HB0.out (Nat.le_refl _) hb)
      clear hb HX HB0
      have q0 := HX1.out.p0
      have q1 := HX1.out.p1
      go_wp2_with fail
      refine (tcheck_any A' n' c' Q _ HX1.out.rq hn' HL'.out).mono ?_
      rintro e w2 ⟨rfl, hb⟩
      rw [E2.out]
      have HX2 := hid (HX1.out.keep hb)
      have HB2 := hid (below_step HB1.out (Nat.le_refl _) hb)
      clear hb HX1 HB1 q0 q1
      have q0 := HX2.out.p0
      have q1 := HX2.out.p1
      go_wp2_with fail
      refine (equalFunc_len A n c A' n' c' P Q _ HX2.out.rp HX2.out.rq hn hn' (fun j => Nat.le_trans (HL.out j) (by omega)) (fun j => Nat.le_trans (HL'.out j) (by omega))).mono ?_
      rintro e w3 ⟨rfl, hb⟩
      rw [E3.out]
      have HB3 := hid (below_step HB2.out (Nat.le_refl _) hb)
      clear hb HX2 HB2 q0 q1
      go_wp2
      go_ret2
      exact ⟨rfl, HB3.out⟩
    · have hbe : backE P Q = tabErr Q := by unfold backE; rw [if_neg (fun q => q e1), if_pos e2]
      rw [hbe]
      obtain ⟨er, her⟩ : ∃ er, er = tabErr Q := ⟨_, rfl⟩
      have he' : (er != 0) = true := by rw [her]; simpa using e2
      have E1 := hid e1
      have ER := hid her
      rw [← her]
      clear e1 e2 hbe he her
      go_enter Try.func10, Try.ntmps10
      go_wp2_with fail
      refine (tcheck_any A n c P _ HX.out.rp hn HL.out).mono ?_
      rintro e w1 ⟨rfl, hb⟩
      rw [E1.out]
      have HX1 := hid (HX.out.keep hb)
      have HB1 := hid (below_step HB0.out (Nat.le_refl _) hb)
      clear hb HX HB0
      have q0 := HX1.out.p0
      have q1 := HX1.out.p1
      go_wp2_with fail
      refine (tcheck_any A' n' c' Q _ HX1.out.rq hn' HL'.out).mono ?_
      rintro e w2 ⟨rfl, hb⟩
      rw [← ER.out]
      have HB2 := hid (below_step HB1.out (Nat.le_refl _) hb)
      clear hb HX1 HB1 q0 q1
      go_wp2
      go_ret2
      exact ⟨rfl, HB2.out⟩
  · have hbe : backE P Q = tabErr P := by unfold backE; rw [if_pos e1]
    rw [hbe]
    obtain ⟨er, her⟩ : ∃ er, er = tabErr P := ⟨_, rfl⟩
    have he' : (er != 0) = true := by rw [her]; simpa using e1
    have ER := hid her
    rw [← her]
    clear e1 hbe he her
    go_enter Try.func10, Try.ntmps10
    go_wp2_with fail
    refine (tcheck_any A n c P _ HX.out.rp hn HL.out).mono ?_
    rintro e w1 ⟨rfl, hb⟩
    rw [← ER.out]
    have HB1 := hid (below_step HB0.out (Nat.le_refl _) hb)
    clear hb HX HB0
    go_wp2
    go_ret2
    exact ⟨rfl, HB1.out⟩

/-- The list as far as it is filled. -/
theorem backCell_step (p : List Int) (j jj : Nat) : (if jj = j then Value.int .i64 (p.getD j 0) else .int .i64 (if jj < j + 1 then 0 else p.getD jj 0)) = .int .i64 (if jj < j then 0 else p.getD jj 0) := by
  by_cases h : jj = j
  · subst h
    rw [if_pos rfl, if_neg (by omega)]
  · rw [if_neg h]
    by_cases h2 : jj < j
    · rw [if_pos h2, if_pos (by omega)]
    · rw [if_neg h2, if_neg (by omega)]
def backCell (p : List Int) (k j : Nat) : Int := if j < k then 0 else p.getD j 0

set_option maxHeartbeats 4000000 in
theorem tback_ok (A : Option Addr) (n c : Nat) (A' : Option Addr) (n' c' : Nat) (P Q : List (List Int)) (w : World) (h1 : RRows w A n P) (h2 : RRows w A' n' Q) (hP : IsTab P) (hQ : IsTab Q) (hl : P.map List.length = Q.map List.length) :
    Calls Try.prog 10 #[.agg #[.slice A n c, .slice A' n' c']] w (RetBack w P Q) := by
  have HX : Hid (PairAt (w.alloc (.cells #[.slice A n c, .slice A' n' c'] 25)) w.heap.size A n c A' n' c' P Q) := PairAt.new h1 h2
  have HB0 := hid (below_alloc w (.cells #[.slice A n c, .slice A' n' c'] 25))
  have hn : n ≤ 10 := by rw [← h1.len]; exact hP.len
  have hn' : n' ≤ 10 := by rw [← h2.len]; exact hQ.len
  have HLP := hid h1.len
  have HLQ := hid h2.len
  have HRP : Hid (∀ j, (P.getD j []).length ≤ 10) := fun j => Nat.le_trans (length_le_flat2 P j) hP.flat
  have HRQ : Hid (∀ j, (Q.getD j []).length ≤ 10) := fun j => Nat.le_trans (length_le_flat2 Q j) hQ.flat
  have HTP := hid hP
  have HTQ := hid hQ
  have HLL := hid hl
  have E3 : Hid (sameBy sameLenB P Q = true) := by rw [sameBy_lens]; exact decide_eq_true hl
  have hmk := fun W => run_make_row' (P := Try.prog) 23 22 (.slice none 0 0) 24 Try.underlying23 infoRow rfl .i64 .i64 n (by omega) (by omega) W
  obtain ⟨fl, hfl⟩ : ∃ fl, fl = Q.flatten.length := ⟨_, rfl⟩
  have hf10 : fl ≤ 10 := by rw [hfl]; exact hQ.flat
  have HFL := hid hfl
  have hmk2 := fun W => run_make_row' (P := Try.prog) 22 3 (.int .i64 0) 8 Try.underlying22 infoInt rfl .i64 .i64 fl (by omega) (by omega) W
  have HMK2 := hid hmk2
  clear h1 h2 hP hQ hl hfl hmk2
  go_enter Try.func10, Try.ntmps10
  go_wp2_with fail
  refine (tcheck_any A n c P _ HX.out.rp (by omega) (fun j => Nat.le_trans (HRP.out j) (by omega))).mono ?_
  rintro e w1 ⟨rfl, hb⟩
  rw [err_of_tab HTP.out]
  have HX1 := hid (HX.out.keep hb)
  have HB1 := hid (below_step HB0.out (Nat.le_refl _) hb)
  clear hb HX HB0
  have q0 := HX1.out.p0
  have q1 := HX1.out.p1
  go_wp2_with fail
  refine (tcheck_any A' n' c' Q _ HX1.out.rq (by omega) (fun j => Nat.le_trans (HRQ.out j) (by omega))).mono ?_
  rintro e w2 ⟨rfl, hb⟩
  rw [err_of_tab HTQ.out]
  have HX2 := hid (HX1.out.keep hb)
  have HB2 := hid (below_step HB1.out (Nat.le_refl _) hb)
  clear hb HX1 HB1 q0 q1
  have q0 := HX2.out.p0
  have q1 := HX2.out.p1
  go_wp2_with fail
  refine (equalFunc_len A n c A' n' c' P Q _ HX2.out.rp HX2.out.rq (by omega) (by omega) (fun j => Nat.le_trans (HRP.out j) (by omega)) (fun j => Nat.le_trans (HRQ.out j) (by omega))).mono ?_
  rintro e w3 ⟨rfl, hb⟩
  rw [E3.out]
  have HX3 := hid (HX2.out.keep hb)
  have HB3 := hid (below_step HB2.out (Nat.le_refl _) hb)
  clear hb HX2 HB2 q0 q1
  have q0 := HX3.out.p0
  have q1 := HX3.out.p1
  have hbl := HX3.out.lt
  go_wp2_with fail
  clear hmk
  obtain ⟨B, hB⟩ : ∃ B, B = w3.heap.size := ⟨_, rfl⟩
  obtain ⟨w4, hw4⟩ : ∃ w4, w4 = w3.alloc (.cells (madeCells #[.slice none 0 0] n) 22) := ⟨_, rfl⟩
  have HG4 : Hid (Grid w4 B (fun k => k = B) (.slice (some ⟨B, 0, none⟩) n n) (P.take 0 ++ List.replicate (n - 0) [])) := by
    rw [hw4, hB]
    exact Grid.made w3 n w3.heap.size (Nat.le_refl _) (by omega)
  have HX4 : Hid (PairAt w4 w.heap.size A n c A' n' c' P Q) := by rw [hw4]; exact HX3.out.keep (below_alloc _ _)
  have HB4 : Hid (Below B w3 w4) := by rw [hw4, hB]; exact below_alloc _ _
  have HBW : Hid (w.heap.size ≤ B) := by rw [hB]; exact HB3.out.size
  have HB3' : Hid (Below w.heap.size w w3) := HB3.out
  have HX3' := HX3
  rw [← hw4, ← hB]
  have hbB : w.heap.size < B := by rw [hB]; exact hbl
  clear hw4 q0 q1 hbl HB3
  have HBB := hid hB
  clear hB
  have q0 := HX4.out.p0
  have q1 := HX4.out.p1
  go_wp2_with fail
  clear q0 q1
  go_loopg [37] n (fun g t wr => ∃ (i : Nat) (fp : Nat → Prop), i ≤ n ∧ n - i ≤ g ∧ t = .int .i64 (i : Int) ∧ Grid wr B fp (.slice (some ⟨B, 0, none⟩) n n) (P.take i ++ List.replicate (n - i) []) ∧ Below B w3 wr)
  case atStart => exact ⟨0, _, Nat.zero_le _, by omega, rfl, HG4.out, HB4.out⟩
  case round =>
    obtain ⟨i, fp, hi, hg, rfl, hgr, hb⟩ := hrel
    have HGR := hid hgr
    have HB := hid hb
    have HXR : Hid (PairAt wr w.heap.size A n c A' n' c' P Q) := HX3'.out.keep (by have := HB.out; rwa [HBB.out] at this)
    have HBF : Hid (Below w.heap.size w wr) := HB3'.out.trans (HB.out.mono HBW.out)
    clear hgr hb HG4 HX4 HB4
    have hBs : B ≤ wr.heap.size := by have h5 := HB.out.size; have h6 := HBB.out; omega
    by_cases hlt : i < n
    · obtain ⟨b1, o1, Aj, nj, cj, rfl, g1, hI1, hc1⟩ := HXR.out.rp.at hlt
      have hiG : i < (P.take i ++ List.replicate (n - i) []).length := by rw [List.length_append, List.length_take, List.length_replicate, HLP.out]; omega
      obtain ⟨gb, cap, u, e1, hcell, hfrz, hu⟩ := HGR.out.at hiG
      injection e1 with e1 e2 e3
      injection e1 with e1
      injection e1 with e1 _
      subst e1
      have hgd : (P.take i ++ List.replicate (n - i) ([] : List Int)).getD i [] = [] := by
        rw [show n - i = (n - (i + 1)) + 1 by omega, List.replicate_succ]
        exact getD_mid _ _ _ (by rw [List.length_take, HLP.out]; omega)
      rw [hgd] at hu
      have HCS := hid (clone_step (P := P) HLP.out hlt)
      have HI1 := hid hI1
      have hnj : nj ≤ 10 := by rw [← hI1.len]; exact HRP.out i
      have HCE := hid hcell
      have HFZ := hid hfrz
      have HIG := hid hiG
      have hgl : B < wr.heap.size := HGR.out.outer_lt
      clear hI1 hc1 hu e2 e3 hgd hiG hcell hfrz
      go_wp2_with fail
      refine (clone_any Aj nj cj _ _ HI1.out (by omega)).mono ?_
      rintro e w5 ⟨u5, rfl, ho5, hb5⟩
      obtain ⟨A5, c5, rfl, _, _⟩ := ho5.ints
      have hgr5 : wr.grownBy w5 u.ownBlock := ⟨hb5.os, hb5.tape, hb5.output, hb5.size, fun k hk _ => hb5.block k hk⟩
      obtain ⟨hG6, hO6⟩ := HGR.out.replace HIG.out HCE.out hgr5 (ho5.mono hBs) (.inr (fun k hk => (World.ownsRow.lt ho5 k hk).1)) hBs
      have hcell5 : w5.cell? ⟨B, i, none⟩ = some u := (hb5.cell (p := ⟨B, i, none⟩) hgl).trans HCE.out
      have hfrz5 : w5.frozen? ⟨B, i, none⟩ = false := (World.frozen?_of_block (a := ⟨B, i, none⟩) (hb5.block B hgl)).trans HFZ.out
      rw [HCS.out] at hG6
      obtain ⟨q5, hq5⟩ : ∃ q5, q5 = (P.getD i []).length := ⟨_, rfl⟩
      rw [← hq5] at hG6 hO6
      rw [← hq5]
      have HG6 := hid hG6
      have HB6 := hid (HB.out.trans (hO6.below hBs (fun k hk => (HGR.out.bound k hk).1)))
      clear hG6 hO6 hgr5 ho5 hb5 hq5 HGR HCE HFZ
      go_wp2
      go_roundg (n - (i + 1))
      case measure => omega
      case rel => exact ⟨i + 1, _, by omega, by omega, by go_num, HG6.out, HB6.out⟩
    · have hin : i = n := by omega
      subst hin
      have HT : Hid (P.take i ++ List.replicate (i - i) ([] : List Int) = P) := by
        rw [Nat.sub_self, List.replicate_zero, List.append_nil]
        exact List.take_of_length_le (by rw [HLP.out]; exact Nat.le_refl _)
      rw [HT.out] at HGR
      have q1 := HXR.out.p1
      go_wp2_with fail
      refine (rowOfEach_any A' n' c' Q _ HXR.out.rq HTQ.out).mono ?_
      rintro e w6 ⟨g6, G, rfl, hro, hg6, har, hb6⟩
      rw [← HFL.out]
      have HG6 := hid (HGR.out.keep hb6)
      have HBD := hid HGR.out.bound
      have HRO := hid hro
      have HAR := hid har
      have HBF6 := hid (below_step HBF.out (Nat.le_refl _) hb6)
      have hs6 := hb6.size
      have HGL : Hid (G.length = fl) := by rw [hro.1, HFL.out]; exact rfl
      have hg6l : g6 < w6.heap.size := har.lt
      clear hro har hb6 q1 HGR HXR HBF HB
      have hmk2 := HMK2.out
      go_wp2_with fail
      clear hmk2 HMK2
      obtain ⟨gp, hgp⟩ : ∃ gp, gp = w6.heap.size := ⟨_, rfl⟩
      obtain ⟨w7, hw7⟩ : ∃ w7, w7 = w6.alloc (.cells (madeCells #[.int .i64 0] fl) 3) := ⟨_, rfl⟩
      have HP7 : Hid (w7.rowIs gp 3 fl (fun jj => .int .i64 (if jj < fl then 0 else (backL P G).getD jj 0))) := by
        rw [hw7, hgp]
        exact (World.rowIs_made w6 _ fl _).congr (fun jj hj => by rw [if_pos hj])
      have HG7 : Hid (Grid w7 B fp (.slice (some ⟨B, 0, none⟩) i i) (rowsAt P G fl)) := by
        have e : rowsAt P G fl = P := by unfold rowsAt; rw [List.drop_of_length_le (by rw [HGL.out]; exact Nat.le_refl _)]; exact rfl
        rw [e, hw7]
        exact HG6.out.keep (below_alloc _ _)
      have HA7 : Hid (Arr w7 g6 (intsOf G)) := by rw [hw7]; exact HAR.out.alloc _
      have HB7 : Hid (Below w.heap.size w w7) := by rw [hw7]; exact below_step HBF6.out (Nat.le_refl _) (below_alloc _ _)
      have hgp6 : g6 < gp := by rw [hgp]; exact hg6l
      have HGE : Hid (∀ k, fp k → k ≠ g6 ∧ k ≠ gp) := fun k hk => by
        have h1 := HBD.out k hk
        omega
      have HBI : Hid (BInv fl (rowsAt P G fl) Q (G.take fl)) := by
        have e : rowsAt P G fl = P := by unfold rowsAt; rw [List.drop_of_length_le (by rw [HGL.out]; exact Nat.le_refl _)]; exact rfl
        rw [e, List.take_of_length_le (by rw [HGL.out]; exact Nat.le_refl _)]
        exact ⟨HTP.out.tab, HTP.out.perm.nodup_iff.2 (nodup_iota _), HTQ.out.tab, tlen_of_map HLL.out, by have := congrArg List.length HLL.out; simpa using this, HTQ.out.perm.nodup_iff.2 (nodup_iota _), fun y => by rw [HTQ.out.perm.mem_iff, mem_iota, ← HFL.out], HGL.out, HRO.out.2⟩
      have HLN : Hid ((rowsAt P G fl).length = i ∧ ∀ j, ((rowsAt P G fl).getD j []).length ≤ 10) := by
        have e : rowsAt P G fl = P := by unfold rowsAt; rw [List.drop_of_length_le (by rw [HGL.out]; exact Nat.le_refl _)]; exact rfl
        rw [e]
        exact ⟨HLP.out, HRP.out⟩
      rw [← hw7, ← hgp]
      have hBw : B ≤ w7.heap.size := by rw [hw7]; simp; omega
      clear hw7 hgp HG6 HAR HBF6 hs6 hg6l HBD
      go_loopg [11] fl (fun gh t wq => ∃ (k : Nat) (Qk : List (List Int)), k ≤ fl ∧ k ≤ gh ∧ t = .int .i64 ((k : Int) - 1) ∧ BInv k (rowsAt P G k) Qk (G.take k) ∧ (rowsAt P G k).length = i ∧ (∀ j, ((rowsAt P G k).getD j []).length ≤ 10) ∧ Grid wq B fp (.slice (some ⟨B, 0, none⟩) i i) (rowsAt P G k) ∧ Arr wq g6 (intsOf G) ∧ wq.rowIs gp 3 fl (fun jj => .int .i64 (if jj < k then 0 else (backL P G).getD jj 0)) ∧ Below w.heap.size w wq ∧ B ≤ wq.heap.size)
      case atStart => exact ⟨fl, Q, Nat.le_refl _, Nat.le_refl _, by go_num, HBI.out, HLN.out.1, HLN.out.2, HG7.out, HA7.out, HP7.out, HB7.out, hBw⟩
      case round =>
        obtain ⟨k, Qk, hk, hgh, rfl, hbi, hln, hrl, hgr, har, hrow, hbel, hBq⟩ := hrel
        have HBI := hid hbi
        have HLN := hid hln
        have HRL := hid hrl
        have HGR := hid hgr
        have HAR := hid har
        have HROW := hid hrow
        have HBE := hid hbel
        clear hbi hln hrl hgr har hrow hbel HG7 HA7 HP7 HB7
        rcases k with _ | j
        · rw [show (((0 : Nat) : Int) - 1) = -1 by omega]
          have HIN : Hid (Ints wr (some ⟨gp, 0, none⟩) fl (backL P G)) := ints_of_row HROW.out (by rw [backL_length, HGL.out]) (fun jj _ => by rw [if_neg (Nat.not_lt_zero _)])
          go_wp2
          go_ret2
          refine ⟨gp, G, HRO.out, ?_, ?_, HBE.out⟩
          · rw [← HFL.out]; rfl
          · rw [← HFL.out]; exact HIN.out
        · rw [show (((j + 1 : Nat) : Int) - 1) = (j : Int) by omega]
          have hjf : j < fl := by omega
          have hjG : j < G.length := by rw [HGL.out]; exact hjf
          have e0 : (G.take (j + 1)).getD j 0 = G.getD j 0 := by rw [List.getD_eq_getElem?_getD, List.getElem?_take_of_lt (by omega), ← List.getD_eq_getElem?_getD]
          have e1 : (G.take (j + 1)).take j = G.take j := by rw [List.take_take, Nat.min_eq_left (by omega)]
          obtain ⟨s1, s2, s3, s4, a, s5⟩ := HBI.out.step
          rw [e0] at s1 s2 s3 s4 s5
          rw [e1] at s5
          have HRS := hid (rowsAt_step (P := P) hjG)
          have HBA := hid (backL_at (P := P) hjG)
          rw [← HRS.out] at s3 s4 s5
          have HS1 := hid s1
          have HS2 := hid s2
          have HS3 := hid s3
          have HS4 := hid s4
          have HS5 := hid s5
          have g1 := HAR.out.cell (j := j) (by unfold intsOf; rw [List.length_map]; exact hjG)
          rw [intsOf_getD] at g1
          clear s1 s2 s3 s4 s5 e0 e1
          generalize hgg : G.getD j 0 = gg at *
          go_wp2_with fail
          refine (remove_any B fp _ (rowsAt P G (j + 1)) gg _ HGR.out (by rw [HLN.out]; omega) (fun q => Nat.le_trans (HRL.out q) (by omega)) HS1.out HS2.out hBq).mono ?_
          rintro e w9 ⟨rfl, hG9, hO9⟩
          rw [← HRS.out] at hG9
          rw [← HBA.out]
          have hne6 : ¬ fp g6 := fun hh => (HGE.out g6 hh).1 rfl
          have hnep : ¬ fp gp := fun hh => (HGE.out gp hh).2 rfl
          have hAR9 := HAR.out.of_block (hO9.block g6 HAR.out.lt hne6)
          have hRW9 := HROW.out.of_block (hO9.block gp HROW.out.lt hnep)
          have hB9 : Below w.heap.size w w9 := HBE.out.trans (hO9.below (Nat.le_trans (Nat.le_of_lt hbB) hBq) (fun q hq => by have := (HGR.out.bound q hq).1; omega))
          have g2 := hRW9.cell (i := j) hjf
          have f2 := hRW9.frozen j
          have hO10 : Only (fun q => q = gp) w9 (w9.setCell ⟨gp, j, none⟩ (.int .i64 ((backL P G).getD j 0))) := only_cell _ _ _ _ _ rfl
          have HG10 := hid (hG9.only hO10 (fun q h1 h2 => hnep (h2 ▸ h1)))
          have HA10 := hid (hAR9.setOther (a := ⟨gp, j, none⟩) (by show g6 ≠ gp; omega) (.int .i64 ((backL P G).getD j 0)))
          have HR10 : Hid ((w9.setCell ⟨gp, j, none⟩ (.int .i64 ((backL P G).getD j 0))).rowIs gp 3 fl (fun jj => .int .i64 (if jj < j then 0 else (backL P G).getD jj 0))) := (hRW9.set j (.int .i64 ((backL P G).getD j 0))).congr (fun jj _ => backCell_step (backL P G) j jj)
          have HB10 : Hid (Below w.heap.size w (w9.setCell ⟨gp, j, none⟩ (.int .i64 ((backL P G).getD j 0)))) := hB9.setCell (by show w.heap.size ≤ gp; omega) _
          have hBq9 : B ≤ w9.heap.size := Nat.le_trans hBq hO9.size
          have hsz10 : (w9.setCell ⟨gp, j, none⟩ (.int .i64 ((backL P G).getD j 0))).heap.size = w9.heap.size := by simp [World.setCell]
          have HSZ := hid hsz10
          rw [if_pos (by omega)] at g2
          clear hG9 hO9 hAR9 hRW9 hB9 hO10 hsz10 g1 HGR HAR HROW HBE
          generalize (backL P G).getD j 0 = xv at *
          go_wp2
          go_roundg j
          case measure => omega
          case rel =>
            refine ⟨j, _, by omega, Nat.le_refl _, by go_num, HS5.out, by rw [HS3.out]; exact HLN.out, fun q => ?_, HG10.out, HA10.out, HR10.out, HB10.out, by rw [HSZ.out]; exact hBq9⟩
            exact Nat.le_trans (HS4.out q) (HRL.out q)

end Go.Proofs.Yteffbhdhldilnaa
