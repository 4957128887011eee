/-
  castref.HeapsBy: the heaps themselves.
-/
import Derived.Test.YtdcmknnmdiocdaaLinP
import Derived.Test.YtdcmknnmdiocdaaGrid
import Derived.Test.YtdcmknnmdiocdaaTabE
import Derived.Deep.CutBlock
namespace Go.Proofs.Ytdcmknnmdiocdaa
open Go.RowKit

/-- The heaps end with these numbers; none is longer than k. -/
structure Lasts (H : List (List Int)) (T : List Int) (k : Nat) : Prop where
  len : H.length = T.length
  last : ∀ i, i < T.length → 0 < (H.getD i []).length ∧ (H.getD i []).getD ((H.getD i []).length - 1) 0 = T.getD i 0
  short : ∀ i, (H.getD i []).length ≤ k
theorem lasts_nil : Lasts [] [] 0 := ⟨rfl, fun i h => absurd h (by simp), fun i => by simp⟩
theorem getD_last (r : List Int) (x : Int) : 0 < (r ++ [x]).length ∧ (r ++ [x]).getD ((r ++ [x]).length - 1) 0 = x := by
  rw [List.length_append]
  exact ⟨by simp, getD_back r x 0 (by simp)⟩
theorem lasts_set {H : List (List Int)} {T : List Int} {k : Nat} {x : Int} (h : Lasts H T k) (hp : hpl x T < T.length) : Lasts (H.set (hpl x T) (H.getD (hpl x T) [] ++ [x])) (rin x T).1 (k + 1) := by
  have hl : hpl x T < H.length := by rw [h.len]; exact hp
  refine ⟨by rw [List.length_set, rin_length, h.len]; omega, fun i hi => ?_, fun i => ?_⟩
  · rw [rin_getD, getD_setT _ hl]
    by_cases e : i = hpl x T
    · rw [if_pos e, if_pos e]
      exact getD_last _ _
    · rw [if_neg e, if_neg e]
      rw [rin_length] at hi
      exact h.last i (by omega)
  · rw [getD_setT _ hl]
    split
    · rw [List.length_append, List.length_singleton]
      have := h.short (hpl x T)
      omega
    · have := h.short i
      omega
theorem lasts_app {H : List (List Int)} {T : List Int} {k : Nat} {x : Int} (h : Lasts H T k) (hp : hpl x T = T.length) : Lasts ((H ++ [[]]).set (hpl x T) ((H ++ [[]]).getD (hpl x T) [] ++ [x])) (rin x T).1 (k + 1) := by
  have hl : hpl x T < (H ++ [[]]).length := by rw [List.length_append, h.len, hp]; simp
  have he : (H ++ [[]]).getD (hpl x T) [] = [] := getD_back H [] [] (by rw [h.len, hp])
  rw [he]
  refine ⟨by rw [List.length_set, rin_length, List.length_append, h.len]; simp; omega, fun i hi => ?_, fun i => ?_⟩
  · rw [rin_getD, getD_setT _ hl]
    by_cases e : i = hpl x T
    · rw [if_pos e, if_pos e]
      exact getD_last _ _
    · rw [if_neg e, if_neg e]
      rw [rin_length] at hi
      rw [getD_front H [] [] (by rw [h.len]; omega)]
      exact h.last i (by omega)
  · rw [getD_setT _ hl]
    split
    · simp
    · rcases Nat.lt_or_ge i H.length with h1 | h1
      · rw [getD_front H [] [] h1]
        have := h.short i
        omega
      · rw [List.getD_eq_getElem?_getD]
        by_cases e : i = H.length
        · subst e; simp
        · rw [List.getElem?_eq_none (by simp; omega)]
          simp
theorem OwnInts.only {w w' : World} {base : Nat} {fp : Nat → Prop} {v : Value} {xs : List Int} (h : OwnInts w base v xs) (ho : Only fp w w') (hn : ∀ k, v.ownBlock = some k → ¬ fp k) : OwnInts w' base v xs :=
  own_of_block h (fun k hk => ho.block k (World.ownsRow.lt h k hk).2 (hn k hk))
theorem length_piles_take {xs : List Int} {k : Nat} (h : k ≤ xs.length) : (pilesI (xs.take k)).length = k := by
  rw [length_pilesI, List.length_take]
  omega

set_option maxHeartbeats 4000000 in
set_option maxRecDepth 100000 in
theorem heapsBy_any (A : Option Addr) (n c : Nat) (xs : List Int) (w : World) (h : Ints w A n xs) (hn : n ≤ 30) :
    Calls Try.prog 16 #[.slice A n c] w (RetOwn w (pilesI xs)) := by
  have HI := hid h
  have HL := hid h.len
  clear h
  go_enter Try.func16, Try.ntmps16
  go_wp2_with fail
  go_loopg [3, 4, 10] n (fun g hv ov iv wr => ∃ (k : Nat) (H : List (List Int)) (fp : Nat → Prop), k ≤ n ∧ n - k ≤ g ∧ iv = .int .i64 (k : Int) ∧ Grid wr w.heap.size fp hv H ∧ OwnInts wr w.heap.size ov (pilesI (xs.take k)) ∧ (∀ j, ov.ownBlock = some j → ¬ fp j) ∧ Below w.heap.size w wr ∧ Lasts H (splitP (xs.take k)).1 k)
  case atStart => exact ⟨0, [], fun _ => False, Nat.zero_le _, by omega, rfl, Grid.nil _ _, OwnInts.nil _ _, fun _ _ e => e, Below.refl _ _, lasts_nil⟩
  case round =>
    obtain ⟨k, H, fp, hk, hg, rfl, hgrid, hown, hnf, hbel, hlast⟩ := hrel
    by_cases hlt : k < n
    · have hkx : k < xs.length := by rw [HL.out]; exact hlt
      obtain ⟨b0, o0, hA, hb0, hc0⟩ := (HI.out.keep hbel).row (by omega)
      have g0 := hc0 k hlt
      subst hA
      have HTS := hid (tops_step hkx)
      have HTL := hid (tops_length (xs.take k))
      have htl : (splitP (xs.take k)).1.length ≤ 30 := Nat.le_trans HTL.out (by rw [List.length_take]; omega)
      have HPS : Hid (pilesI (xs.take (k + 1)) = pilesI (xs.take k) ++ [((hpl (xs.getD k 0) (splitP (xs.take k)).1 : Nat) : Int)]) := by
        have e := pilesI_snoc (xs.take k) (xs.getD k 0)
        rw [← take_snoc hkx] at e
        exact e
      have HPK := hid (length_piles_take (xs := xs) (k := k) (by omega))
      obtain ⟨Ah, ch, hvf, hcapH⟩ := hgrid.form
      subst hvf
      obtain ⟨ov, rfl⟩ : ∃ ov : Value, ov = u4 := ⟨_, rfl⟩
      have HG := hid hgrid
      have HO := hid hown
      have HNF := hid hnf
      have HB := hid hbel
      have HLA := hid hlast
      clear hc0 hgrid hown hnf hbel hlast HTL
      generalize (splitP (xs.take k)).1 = T at *
      generalize xs.getD k 0 = x at *
      have hhl : H.length = T.length := HLA.out.len
      obtain ⟨hl, hhl2⟩ : ∃ hl, hl = H.length := ⟨_, rfl⟩
      have HHL := hid hhl2
      rw [← hhl2] at hhl hcapH HG ⊢
      have HT := hid hhl
      have hhl30 : hl ≤ 30 := by omega
      have HPM := hid (hpl_le x T)
      have HBF := hid (fun j => @hpl_before x T j)
      have HLAST : Hid (∀ i, i < hl → 0 < (H.getD i []).length ∧ (H.getD i []).getD ((H.getD i []).length - 1) 0 = T.getD i 0 ∧ (H.getD i []).length ≤ 30) := by
        intro i hi
        obtain ⟨h1, h2⟩ := HLA.out.last i (by rw [← HT.out]; exact hi)
        exact ⟨h1, h2, Nat.le_trans (HLA.out.short i) (by omega)⟩
      clear hhl hhl2 htl
      rw [← HT.out] at HPM
      by_cases hcase : hpl x T < hl
      · have HTH := hid (hpl_there (x := x) (T := T) (by rw [← HT.out]; exact hcase))
        have HLS := hid (lasts_set HLA.out (by rw [← HT.out]; exact hcase))
        generalize hp : hpl x T = p at *
        clear hp
        go_wp2_with fail
        clear g0 hb0
        go_loopg [7] p (fun g jv wq => ∃ j : Nat, j ≤ p ∧ p - j ≤ g ∧ jv = .int .i64 (j : Int) ∧ Grid wq w.heap.size fp (.slice Ah hl ch) H ∧ OwnInts wq w.heap.size ov (pilesI (xs.take k)) ∧ Below w.heap.size w wq)
        case atStart => exact ⟨0, Nat.zero_le _, by omega, rfl, HG.out, HO.out, HB.out⟩
        case round =>
          clear HG HO HB
          obtain ⟨j, hj, hg2, rfl, hgrid, hown, hbel⟩ := hrel
          have HG := hid hgrid
          have HO := hid hown
          have HB := hid hbel
          clear hgrid hown hbel
          obtain ⟨b1, o1, Aj, nj, cj, hAh, g1, hIj, hCj⟩ := HG.out.rrows.at (j := j) (by omega)
          subst hAh
          obtain ⟨l1, l2, l3⟩ := HLAST.out j (by omega)
          rw [hIj.len] at l1 l2 l3
          obtain ⟨b2, o2, rfl, _, hc2⟩ := hIj.row l1
          have g2 := hc2 (nj - 1) (by omega)
          rw [l2] at g2
          obtain ⟨ml, hml⟩ : ∃ ml, ml = nj - 1 := ⟨_, rfl⟩
          rw [← hml] at g2
          have hwr : IntKind.i64.wrap ((nj : Int) - 1) = (ml : Int) := by rw [IntWalk.i64_in _ (by omega)]; omega
          have hmlI : (ml : Int) < (nj : Int) := by omega
          have hjI : (j : Int) < (hl : Int) := by omega
          have d1 : decide (j < hl) = true := by simp; omega
          have d1I : decide ((j : Int) < (hl : Int)) = true := by simp; omega
          clear hc2 hIj hCj l2 hml
          by_cases hjp : j < p
          · have h2 := HBF.out j hjp
            have hd : decide (T.getD j 0 < x) = true := decide_eq_true h2
            generalize T.getD j 0 = y at *
            go_wp2_with fail
            go_quiet (fail)
            go_wp2
            go_roundg (p - (j + 1))
            case measure => omega
            case rel => exact ⟨j + 1, by omega, by omega, by go_num, HG.out.drewN _, HO.out.drewN _, below_drewN HB.out _⟩
          · obtain rfl : p = j := by omega
            have h2 := HTH.out
            have hd : decide (T.getD p 0 < x) = false := decide_eq_false (by omega)
            generalize T.getD p 0 = y at *
            go_wp2_with fail
            go_quiet (fail)
            have HGR := hid (HG.out.drewN nq)
            have HOV := hid (HO.out.drewN nq)
            have HBL := hid (below_drewN HB.out nq)
            have hdd : ((p : Int) == (hl : Int)) = false := by simp; omega
            have HRL : Hid (∀ i, (H.getD i []).length ≤ 30) := fun i => Nat.le_trans (HLA.out.short i) (by omega)
            have HPL2 : Hid (p < H.length) := by have e := HHL.out; exact show p < H.length by omega
            obtain ⟨gb, cap, u, e1, hcell, hfrz, hu⟩ := HGR.out.at HPL2.out
            injection e1 with e1 e2 e3
            injection e1 with e1
            injection e1 with e1 e4
            subst e1
            subst e4
            subst e3
            obtain ⟨gb, rfl⟩ : ∃ gb, gb = b1 := ⟨_, rfl⟩
            have hpl2 : p < hl := hcase
            have hlast := HLS
            clear g1 g2 HG HO HB HLS HLA HLAST HTH HBF h2 e2
            obtain ⟨H2, rfl⟩ : ∃ H2, H2 = H := ⟨_, rfl⟩
            obtain ⟨fp2, rfl⟩ : ∃ fp2, fp2 = fp := ⟨_, rfl⟩
            obtain ⟨h2, rfl⟩ : ∃ h2, h2 = hl := ⟨_, rfl⟩
            generalize wr.drewN nq = wt at *
            have HSZ := hid (⟨HBL.out.size, HOV.out⟩ : w.heap.size ≤ wt.heap.size ∧ OwnInts wt w.heap.size ov (pilesI (xs.take k)))
            have hrl : (H2.getD p []).length ≤ 30 := HRL.out p
            have HLS := hid hlast.out
            generalize H2.getD p [] = row at *
            obtain ⟨Au, cu, rfl, hIu, hcu⟩ := hu.ints
            obtain ⟨mr, hmr⟩ : ∃ mr, mr = row.length := ⟨_, rfl⟩
            rw [← hmr] at hrl hcell hu
            have HMR := hid hmr
            have HU := hid hu
            clear hu hIu hcu hmr hlast
            have hpn : (p : Int) < (h2 : Int) := by omega
            have HCE := hid hcell
            have HFZ := hid hfrz
            go_wp2_with (at_builtin; refine wpList_app1At _ rfl (.tmp 48) (.tmp 50) rfl w.heap.size _ row x rfl rfl HU.out (by rw [← HMR.out]; omega) HSZ.out.1 ?_)
            intro v1 w1 ho1 hb1 hb2
            obtain ⟨hgr2, hon2⟩ := Grid.replace HGR.out HPL2.out HCE.out hb1 ho1 hb2 HSZ.out.1
            have hk1 := HGR.out.outer_kept HPL2.out HCE.out hb1
            have hfrz1 : w1.frozen? ⟨gb, p, none⟩ = false := (World.frozen?_of_block (a := ⟨gb, p, none⟩) hk1).trans HFZ.out
            have hcell1 : w1.cell? ⟨gb, p, none⟩ = some (.slice Au mr cu) := (World.cell?_of_block (a := ⟨gb, p, none⟩) hk1).trans HCE.out
            obtain ⟨A1, c1, rfl, _, _⟩ := ho1.ints
            obtain ⟨q1, hq1⟩ : ∃ q1, q1 = (row ++ [x]).length := ⟨_, rfl⟩
            rw [← hq1] at hgr2 hon2
            rw [← hq1]
            have HGR2 := hid hgr2
            have HON2 := hid hon2
            have HOV2 := hid (HOV.out.only hon2 HNF.out)
            have HNF2 : Hid (∀ k, ov.ownBlock = some k → ¬ fpN fp2 wt.heap.size w1.heap.size k) := by
              intro k' hk' e
              rcases e with e | e
              · exact HNF.out k' hk' e
              · have := World.ownsRow.lt HOV.out k' hk'
                omega
            have HB2 := hid (HBL.out.trans (hon2.below HSZ.out.1 (fun k' hk' => (HGR.out.bound k' hk').1)))
            clear ho1 hb1 hb2 hgr2 hon2 hk1 hq1 hcell hfrz HGR HU HCE HFZ HOV HNF HBL
            have HZZ := hid (by simp [World.setCell] : (w1.setCell ⟨gb, p, none⟩ (.slice A1 q1 c1)).heap.size = w1.heap.size)
            go_wp2_with (at_builtin; refine wpList_app1At _ rfl (.tmp 53) (.tmp 55) rfl w.heap.size ov _ (p : Int) rfl (by rw [HZZ.out]; rfl) HOV2.out (by rw [HPK.out]; omega) HB2.out.size ?_)
            intro v3 w3 ho3 hb3 hb4
            have HG3 := hid (HGR2.out.only (fp2 := fun k => ov.ownBlock = some k) ((Only.refl _ _).grown hb3 (fun k' hk' _ => hk')) (fun k' hk' e => HNF2.out k' e hk'))
            have HNF3 : Hid (∀ k, v3.ownBlock = some k → ¬ fpN fp2 wt.heap.size w1.heap.size k) := by
              intro k' hk' e
              rcases hb4 with e4 | e4
              · exact HNF2.out k' (by rw [← e4]; exact hk') e
              · have h1 := e4 k' hk'
                have h2 := (HGR2.out.bound k' e).2
                have hz := HZZ.out
                omega
            have HB3 := hid (HB2.out.trans (show Below w.heap.size _ w3 from ((Only.refl (fun k => ov.ownBlock = some k) _).grown hb3 (fun k' hk' _ => hk')).below HB2.out.size (fun k' hk' => (World.ownsRow.lt HOV2.out k' hk').1)))
            have HO3 := hid ho3
            clear ho3 hb3 hb4 hcell1 hfrz1 HGR2 HON2 HOV2 HNF2 HB2
            go_wp2
            go_roundg (n - (k + 1))
            case measure => omega
            case rel => exact ⟨k + 1, _, _, by omega, by omega, by go_num, HG3.out, by rw [HPS.out]; exact HO3.out, HNF3.out, HB3.out, by rw [HTS.out]; exact HLS.out⟩
      · have HPT : Hid (hpl x T = hl) := Nat.le_antisymm HPM.out (by omega)
        have HLS := hid (lasts_app HLA.out (by rw [← HT.out]; exact HPT.out))
        rw [HPT.out] at HPS HLS HBF
        clear hcase HPM
        go_wp2_with fail
        clear g0 hb0
        go_loopg [7] hl (fun g jv wq => ∃ j : Nat, j ≤ hl ∧ hl - j ≤ g ∧ jv = .int .i64 (j : Int) ∧ Grid wq w.heap.size fp (.slice Ah hl ch) H ∧ OwnInts wq w.heap.size ov (pilesI (xs.take k)) ∧ Below w.heap.size w wq)
        case atStart => exact ⟨0, Nat.zero_le _, by omega, rfl, HG.out, HO.out, HB.out⟩
        case round =>
          clear HG HO HB
          obtain ⟨j, hj, hg2, rfl, hgrid, hown, hbel⟩ := hrel
          have HG := hid hgrid
          have HO := hid hown
          have HB := hid hbel
          clear hgrid hown hbel
          by_cases hjp : j < hl
          · obtain ⟨b1, o1, Aj, nj, cj, hAh, g1, hIj, hCj⟩ := HG.out.rrows.at (j := j) (by omega)
            subst hAh
            obtain ⟨l1, l2, l3⟩ := HLAST.out j (by omega)
            rw [hIj.len] at l1 l2 l3
            obtain ⟨b2, o2, rfl, _, hc2⟩ := hIj.row l1
            have g2 := hc2 (nj - 1) (by omega)
            rw [l2] at g2
            obtain ⟨ml, hml⟩ : ∃ ml, ml = nj - 1 := ⟨_, rfl⟩
            rw [← hml] at g2
            have hwr : IntKind.i64.wrap ((nj : Int) - 1) = (ml : Int) := by rw [IntWalk.i64_in _ (by omega)]; omega
            have hmlI : (ml : Int) < (nj : Int) := by omega
            have hjI : (j : Int) < (hl : Int) := by omega
            have d1 : decide (j < hl) = true := by simp; omega
            have d1I : decide ((j : Int) < (hl : Int)) = true := by simp; omega
            clear hc2 hIj hCj l2 hml
            have h2 := HBF.out j hjp
            have hd : decide (T.getD j 0 < x) = true := decide_eq_true h2
            generalize T.getD j 0 = y at *
            go_wp2_with fail
            go_quiet (fail)
            go_wp2
            go_roundg (hl - (j + 1))
            case measure => omega
            case rel => exact ⟨j + 1, by omega, by omega, by go_num, HG.out.drewN _, HO.out.drewN _, below_drewN HB.out _⟩
          · obtain rfl : hl = j := by omega
            have d1 : decide (hl < hl) = false := by simp
            have d1I : decide ((hl : Int) < (hl : Int)) = false := by simp
            have hee : ((hl : Int) == (hl : Int)) = true := by simp
            go_wp2_with fail
            go_quiet (fail)
            have HGQ := hid (HG.out.drewN nq)
            have HOQ := hid (HO.out.drewN nq)
            have HBQ := hid (below_drewN HB.out nq)
            clear HG HO HB HBF HLAST
            generalize wr.drewN nq = wz at *
            go_wp2_with (at_builtin; refine wpList_gridApp _ rfl (.tmp 40) (.tmp 41) rfl w.heap.size fp _ H (.slice none 0 0) [] rfl rfl HGQ.out (OwnInts.nil _ _) (fun k' hk' _ => by cases hk') (by rw [← HHL.out]; omega) HBQ.out.size ?_)
            intro vz wt hgz hoz
            have hfpz : ∀ k', ov.ownBlock = some k' → ¬ (fpN fp wz.heap.size wt.heap.size k' ∨ (Value.slice none 0 0).ownBlock = some k') := by
              intro k' hk' e
              rcases e with (e | e) | e
              · exact HNF.out k' hk' e
              · have := World.ownsRow.lt HOQ.out k' hk'
                omega
              · cases e
            have HOV := hid (HOQ.out.only hoz HNF.out)
            have HBL := hid (HBQ.out.trans (hoz.below HBQ.out.size (fun k' hk' => (HGQ.out.bound k' hk').1)))
            have HGR := hid hgz
            have HRL : Hid (∀ i, ((H ++ [[]]).getD i []).length ≤ 30) := by
              intro i
              rcases Nat.lt_or_ge i H.length with h1 | h1
              · rw [getD_front H [] [] h1]
                exact Nat.le_trans (HLA.out.short i) (by omega)
              · rw [List.getD_eq_getElem?_getD]
                by_cases e : i = H.length
                · subst e; simp
                · rw [List.getElem?_eq_none (by simp; omega)]
                  simp
            clear HNF HOQ HBQ HGQ hgz hoz
            obtain ⟨fp2, hfp2⟩ : ∃ fp2 : Nat → Prop, fp2 = (fun k' => fpN fp wz.heap.size wt.heap.size k' ∨ (Value.slice none 0 0).ownBlock = some k') := ⟨_, rfl⟩
            rw [← hfp2] at HGR
            have HNF : Hid (∀ k', ov.ownBlock = some k' → ¬ fp2 k') := by rw [hfp2]; exact hfpz
            clear hfp2 hfpz
            have HH2 : Hid (hl + 1 = (H ++ [[]]).length) := by rw [List.length_append, ← HHL.out]; exact rfl
            obtain ⟨p, hp⟩ : ∃ p, p = hl := ⟨_, rfl⟩
            obtain ⟨h2, hh2⟩ : ∃ h2, h2 = hl + 1 := ⟨_, rfl⟩
            rw [← hh2] at HH2
            have hpl2 : p < h2 := by omega
            rw [← hp] at HPS HLS
            clear HLA hee d1 d1I
            obtain ⟨H2, hH2⟩ : ∃ H2, H2 = H ++ [[]] := ⟨_, rfl⟩
            rw [← hH2] at HH2 HGR HRL HLS
            obtain ⟨Ab, cb, rfl, _⟩ := HGR.out.form
            have HPL2 : Hid (p < H2.length) := by rw [← HH2.out]; exact hpl2
            rw [← HH2.out] at HGR ⊢
            rw [← hp]
            clear hH2 HHL
            obtain ⟨gb, cap, u, e1, hcell, hfrz, hu⟩ := HGR.out.at HPL2.out
            injection e1 with e1 e2 e3
            subst e1
            subst e3
            have hlast := HLS
            clear e2 HLS hh2 hp
            have HSZ := hid (⟨HBL.out.size, HOV.out⟩ : w.heap.size ≤ wt.heap.size ∧ OwnInts wt w.heap.size ov (pilesI (xs.take k)))
            have hrl : (H2.getD p []).length ≤ 30 := HRL.out p
            have HLS := hid hlast.out
            generalize H2.getD p [] = row at *
            obtain ⟨Au, cu, rfl, hIu, hcu⟩ := hu.ints
            obtain ⟨mr, hmr⟩ : ∃ mr, mr = row.length := ⟨_, rfl⟩
            rw [← hmr] at hrl hcell hu
            have HMR := hid hmr
            have HU := hid hu
            clear hu hIu hcu hmr hlast
            have hpn : (p : Int) < (h2 : Int) := by omega
            have HCE := hid hcell
            have HFZ := hid hfrz
            go_wp2_with (at_builtin; refine wpList_app1At _ rfl (.tmp 48) (.tmp 50) rfl w.heap.size _ row x rfl rfl HU.out (by rw [← HMR.out]; omega) HSZ.out.1 ?_)
            intro v1 w1 ho1 hb1 hb2
            obtain ⟨hgr2, hon2⟩ := Grid.replace HGR.out HPL2.out HCE.out hb1 ho1 hb2 HSZ.out.1
            have hk1 := HGR.out.outer_kept HPL2.out HCE.out hb1
            have hfrz1 : w1.frozen? ⟨gb, p, none⟩ = false := (World.frozen?_of_block (a := ⟨gb, p, none⟩) hk1).trans HFZ.out
            have hcell1 : w1.cell? ⟨gb, p, none⟩ = some (.slice Au mr cu) := (World.cell?_of_block (a := ⟨gb, p, none⟩) hk1).trans HCE.out
            obtain ⟨A1, c1, rfl, _, _⟩ := ho1.ints
            obtain ⟨q1, hq1⟩ : ∃ q1, q1 = (row ++ [x]).length := ⟨_, rfl⟩
            rw [← hq1] at hgr2 hon2
            rw [← hq1]
            have HGR2 := hid hgr2
            have HON2 := hid hon2
            have HOV2 := hid (HOV.out.only hon2 HNF.out)
            have HNF2 : Hid (∀ k, ov.ownBlock = some k → ¬ fpN fp2 wt.heap.size w1.heap.size k) := by
              intro k' hk' e
              rcases e with e | e
              · exact HNF.out k' hk' e
              · have := World.ownsRow.lt HOV.out k' hk'
                omega
            have HB2 := hid (HBL.out.trans (hon2.below HSZ.out.1 (fun k' hk' => (HGR.out.bound k' hk').1)))
            clear ho1 hb1 hb2 hgr2 hon2 hk1 hq1 hcell hfrz HGR HU HCE HFZ HOV HNF HBL
            have HZZ := hid (by simp [World.setCell] : (w1.setCell ⟨gb, p, none⟩ (.slice A1 q1 c1)).heap.size = w1.heap.size)
            go_wp2_with (at_builtin; refine wpList_app1At _ rfl (.tmp 53) (.tmp 55) rfl w.heap.size ov _ (p : Int) rfl (by rw [HZZ.out]; rfl) HOV2.out (by rw [HPK.out]; omega) HB2.out.size ?_)
            intro v3 w3 ho3 hb3 hb4
            have HG3 := hid (HGR2.out.only (fp2 := fun k => ov.ownBlock = some k) ((Only.refl _ _).grown hb3 (fun k' hk' _ => hk')) (fun k' hk' e => HNF2.out k' e hk'))
            have HNF3 : Hid (∀ k, v3.ownBlock = some k → ¬ fpN fp2 wt.heap.size w1.heap.size k) := by
              intro k' hk' e
              rcases hb4 with e4 | e4
              · exact HNF2.out k' (by rw [← e4]; exact hk') e
              · have h1 := e4 k' hk'
                have h2 := (HGR2.out.bound k' e).2
                have hz := HZZ.out
                omega
            have HB3 := hid (HB2.out.trans (show Below w.heap.size _ w3 from ((Only.refl (fun k => ov.ownBlock = some k) _).grown hb3 (fun k' hk' _ => hk')).below HB2.out.size (fun k' hk' => (World.ownsRow.lt HOV2.out k' hk').1)))
            have HO3 := hid ho3
            clear ho3 hb3 hb4 hcell1 hfrz1 HGR2 HON2 HOV2 HNF2 HB2
            go_wp2
            go_roundg (n - (k + 1))
            case measure => omega
            case rel => exact ⟨k + 1, _, _, by omega, by omega, by go_num, HG3.out, by rw [HPS.out]; exact HO3.out, HNF3.out, HB3.out, by rw [HTS.out]; exact HLS.out⟩

    · obtain rfl : k = n := by omega
      have HE : Hid (xs.take k = xs) := List.take_of_length_le (by rw [HL.out]; exact Nat.le_refl _)
      rw [HE.out] at hown
      have HO := hid hown
      have HB := hid hbel
      clear hgrid hown hnf hbel hlast
      go_wp2
      go_ret
      exact ⟨_, rfl, HO.out, HB.out⟩

end Go.Proofs.Ytdcmknnmdiocdaa
