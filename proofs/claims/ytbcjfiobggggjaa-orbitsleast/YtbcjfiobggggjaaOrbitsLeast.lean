/-
  castkeep.OrbitsLeast: whatever the input: true.
-/
import Derived.Test.YtbcjfiobggggjaaOrbT
import Derived.Test.YtbcjfiobggggjaaOrbN
import Derived.Test.YtbcjfiobggggjaaOrbP
import Derived.Test.YtbcjfiobggggjaaOrbB
import Derived.Test.YtbcjfiobggggjaaSortO
namespace Go.Proofs.Ytbcjfiobggggjaa
open Go.RowKit

theorem run_minN {P : Program} (x y q : Nat) (hq : q = min x y) (ts : Array TypeId) (t : TypeId) (W : World) :
    (Builtin.min_ ts t #[.int .i64 (x : Int), .int .i64 (y : Int)]).run P W = .ok (.int .i64 (q : Int)) W := by
  have e : (if (y : Int) < (x : Int) then (y : Int) else (x : Int)) = (q : Int) := by
    subst hq
    split <;> omega
  simp only [Builtin.min_, Builtin.min2, List.foldlM_cons, List.foldlM_nil, pure_bind]
  simp only [e]
  rfl

theorem own_apart2 {w w' : World} {b : Nat} {v u : Value} {xs ys : List Int} (hx : OwnInts w b v xs) (hy : OwnInts w' w.heap.size u ys) : ∀ k, v.ownBlock = some k → u.ownBlock ≠ some k := by
  intro k hk e
  have h1 := World.ownsRow.lt hx k hk
  have h2 := World.ownsRow.lt hy k e
  omega
theorem own_keptA {w w' : World} {b : Nat} {v u : Value} {xs : List Int} (h : OwnInts w b v xs) (hg : w.grownBy w' u.ownBlock) (ha : ∀ k, v.ownBlock = some k → u.ownBlock ≠ some k) : OwnInts w' b v xs := by
  refine World.ownsRow.kept h hg ?_
  rcases e : v.ownBlock with _ | k
  · exact .inl rfl
  · right
    intro e2
    exact ha k e e2.symm
theorem climbs_antiO (a b : Int) (h : climbs a b) (h' : climbs b a) : a = b := by
  unfold climbs at *
  omega

theorem lst_three : lst [[0, 1, 2], [1, 2, 0], [2, 0, 1]] [2, 1, 0] = [0, 2, 1] := by decide +kernel
theorem least_three {b : List Int} (h : LeastRow 3 [[1, 2, 0]] [2, 1, 0] b) : b = [0, 2, 1] := by
  rw [← lst_three]
  exact h.unique (lst_least group_three rfl)

set_option maxRecDepth 100000 in
set_option maxHeartbeats 4000000 in
theorem orbitsLeast_any (a : Int) (A : Option Addr) (m c : Nat) (L : List (List Int)) (B : Option Addr) (q d : Nat) (row0 : List Int) (b : Int) (w : World) (h : RRows w A m L) (hc : Cap m c) (hrow : ∀ j, (L.getD j []).length ≤ 17592186044416) (hB : Ints w B q row0) (hqd : q ≤ d) :
    Calls Try.prog 6 #[.int .i64 a, .slice A m c, .slice B q d, .int .i64 b] w fun e w' => e = .returned (.bool true) ∧ Below w.heap.size w w' := by
  have HH := hid h
  have HRL := hid hrow
  have HBI := hid hB
  clear h hrow hB
  obtain ⟨hmc, hcm⟩ := hc
  have hsz2 : ((w.alloc (.cells #[.int .i64 1, .int .i64 2, .int .i64 0] 3)).alloc (.cells #[.slice (some ⟨w.heap.size, 0, none⟩) 3 3] 23)).heap.size = w.heap.size + 2 := by simp
  have hlit := ints_lit ((w.alloc (.cells #[.int .i64 1, .int .i64 2, .int .i64 0] 3)).alloc (.cells #[.slice (some ⟨w.heap.size, 0, none⟩) 3 3] 23)) #[.int .i64 2, .int .i64 1, .int .i64 0] 3 3 [2, 1, 0] rfl rfl
  rw [hsz2] at hlit
  have hl0 := hid (least_ok (some ⟨w.heap.size + 1, 0, none⟩) 1 1 (some ⟨w.heap.size + 2, 0, none⟩) 3 [[1, 2, 0]] 3 [2, 1, 0] _ ((rrows_three w).keep (below_alloc _ (.cells #[.int .i64 2, .int .i64 1, .int .i64 0] 3))) hlit orbE_three)
  have HBL := hid (below_step (below_three w) (Nat.le_refl _) (below_alloc _ (.cells #[.int .i64 2, .int .i64 1, .int .i64 0] 3)))
  clear hlit hsz2
  go_enter Try.func6, Try.ntmps6
  go_wp2_with fail
  refine hl0.out.mono ?_
  rintro e w1 ⟨v1, r1, rfl, hlr1, ho1, hb1⟩
  have hr1 := least_three hlr1
  subst hr1
  obtain ⟨A1, c1, e1, hI1, _⟩ := ho1.ints
  have HB1 := hid (below_step HBL.out (Nat.le_refl _) hb1)
  subst e1
  clear hlr1 ho1 hb1 HBL hl0
  have heq := equal_bel A1 3 c1 (some ⟨w1.heap.size, 0, none⟩) 3 3 [0, 2, 1] [0, 2, 1] (w1.alloc (.cells #[.int .i64 0, .int .i64 2, .int .i64 1] 3)) (hI1.keep (below_alloc w1 _)) (ints_lit w1 _ _ 3 [0, 2, 1] rfl rfl) (by omega) (by omega)
  rw [decide_eq_true rfl] at heq
  go_wp2_with fail
  refine heq.mono ?_
  rintro e w2 ⟨rfl, hb2⟩
  have HB2 := hid (below_step HB1.out (Nat.le_refl _) (below_step (below_alloc w1 _) (Nat.le_refl _) hb2))
  clear hb2 heq hI1 HB1
  go_wp2_with fail
  refine (turns_any _).mono ?_
  rintro e w3 ⟨rfl, hb3⟩
  have HB3 := hid (below_step HB2.out (Nat.le_refl _) hb3)
  clear hb3 HB2
  go_wp2_with fail
  refine (within_any a 7 _ (by omega) (by omega)).mono ?_
  rintro e w4 ⟨rfl, rfl⟩
  obtain ⟨n, hn⟩ := Int.eq_ofNat_of_zero_le (Int.emod_nonneg a (show (7 : Int) ≠ 0 by omega))
  have hn7 : n < 7 := by have := Int.emod_lt_of_pos a (show (0 : Int) < 7 by omega); omega
  rw [hn]
  clear hn
  obtain ⟨s, hs⟩ : ∃ s, s = min q n := ⟨_, rfl⟩
  have hmin := run_minN (P := Try.prog) q n s hs
  have hsq : s ≤ q := by omega
  have hsn : s ≤ n := by omega
  have hsd : s ≤ d := by omega
  have hcl := clone_any B s d (row0.take s) _ ((HBI.out.keep HB3.out).take hsq) (by omega)
  have HSL : Hid ((row0.take s).length = s) := by show (row0.take s).length = s; rw [List.length_take, HBI.out.len]; omega
  clear hs
  go_wp2_with fail
  refine hcl.mono ?_
  rintro e w5 ⟨v5, rfl, ho5, hb5⟩
  have HO5 := hid ho5
  have HB5 := hid hb5
  obtain ⟨A5, c5, e5, _⟩ := ho5.ints
  subst e5
  clear hcl ho5 hb5 hmin
  generalize row0.take s = xs0 at *
  have hx0 : xs0.length ≤ n := by rw [HSL.out]; exact hsn
  go_wp2_with fail
  go_loopg [2] n (fun g v wq => ∃ xs A9 c9, xs.length ≤ n ∧ n - xs.length ≤ g ∧ v = .slice A9 xs.length c9 ∧ OwnInts wq w3.heap.size v xs ∧ Below w3.heap.size w3 wq)
  case atStart => exact ⟨xs0, A5, c5, hx0, by omega, rfl, HO5.out, HB5.out⟩
  case round =>
    clear HO5 HB5
    obtain ⟨xs, A9, c9, hxl, hgx, rfl, hown, hbel⟩ := hrel
    have HOW := hid hown
    have HB6 := hid hbel
    clear hown hbel
    by_cases hxk : xs.length < n
    · go_wp2_with (at_builtin; refine wpList_app1 _ rfl (.tmp 58) (.tmp 59) rfl w3.heap.size _ xs 0 rfl rfl HOW.out (by omega) HB6.out.size ?_)
      intro v' w4 hown4 hgr4 hbel4
      have hlen4 : (xs ++ [0]).length = xs.length + 1 := by simp
      obtain ⟨A4, c4, e4, _⟩ := hown4.ints
      subst e4
      have HOW4 := hid hown4
      have HB4 := hid (HB6.out.trans hbel4)
      clear hown4 hgr4 hbel4
      go_wp2
      go_roundg (n - (xs.length + 1))
      case measure => omega
      case rel => exact ⟨xs ++ [0], A4, c4, by omega, by omega, rfl, HOW4.out, HB4.out⟩
    · have hxn : xs.length = n := by omega
      have HBW := hid (below_step HB3.out (Nat.le_refl _) HB6.out)
      rw [hxn]
      have HXN := hid hxn
      have HRI := hid (show Ints _ A9 n xs by have := HOW.out.asInts.1; rwa [hxn] at this)
      clear HOW HB6 hxn hgx hxk hxl hx0
      obtain ⟨w8, rfl⟩ : ∃ w8, w8 = wr := ⟨wr, rfl⟩
      have hmv := moved_any A m c L n w8 (HH.out.keep HBW.out) hmc (by omega) hcm HRL.out
      go_wp2_with fail
      refine hmv.mono ?_
      rintro e w9 ⟨v9, L3, rfl, hr3, hl3, ho3, hb9⟩
      have HE3 := hid (orbE_orders (by omega) hl3 ho3)
      have HO3 := hid ho3
      obtain ⟨A3, c3, e3, hR3, _⟩ := hr3.rrows
      subst e3
      have HB9 := hid (below_step HBW.out (Nat.le_refl _) hb9)
      have HRI9 := hid (HRI.out.keep hb9)
      have HR3 := hid hR3
      clear hmv hr3 hb9 hR3 ho3 HRI HBW HH HRL HBI
      generalize hm3 : L3.length = m3 at *
      have HM3 := hid hm3
      clear hm3
      have hgo := group_ok A3 m3 c3 L3 n w9 HR3.out HE3.out
      go_wp2_with fail
      refine hgo.mono ?_
      rintro e w10 ⟨v10, T, rfl, hT, hrT, hb10⟩
      have HT := hid hT
      obtain ⟨AT, cT, eT, hRT, _⟩ := hrT.rrows
      subst eT
      have HRT := hid hRT
      have hTpos := hT.pos
      have HTL := hid (Nat.le_trans (hT.length_le HO3.out) (Nat.le_trans (fact_mono (show n ≤ 6 by omega)) (show fact 6 ≤ 720 by decide)))
      have hTl := HTL.out
      have HB10 := hid (below_step HB9.out (Nat.le_refl _) hb10)
      have HRI10 := hid (HRI9.out.keep hb10)
      have HR10 := hid (HR3.out.keep hb10)
      clear hgo hT hrT hb10 hRT HR3 HRI9 HB9
      have hle := least_ok A3 m3 c3 A9 c9 L3 n xs w10 HR10.out HRI10.out HE3.out
      go_wp2_with fail
      refine hle.mono ?_
      rintro e w11 ⟨v11, bb, rfl, hlb, hob, hb11⟩
      have HLB := hid hlb
      have HBL2 := hid (hlb.length HO3.out)
      obtain ⟨AB, cB, eB, hIB, _⟩ := hob.ints
      rw [HBL2.out] at eB hIB
      subst eB
      have HIB := hid hIB
      have HB11 := hid (below_step HB10.out (Nat.le_refl _) hb11)
      have HRI11 := hid (HRI10.out.keep hb11)
      have HR11 := hid (HR10.out.keep hb11)
      have HRT11 := hid (HRT.out.keep hb11)
      clear hle hlb hob hb11 hIB HR10 HRI10 HB10 HRT
      have hgd := fun t => good_bel w11 #[.int .i64 0, .int .i64 0] t 2 [0, 0] rfl rfl (by omega)
      rw [show allOK [0, 0] = true by decide] at hgd
      have htz : (((T.length : Nat) : Int) == 0) = false := beq_eq_false_iff_ne.2 (by omega)
      go_wp2_with fail
      refine (hgd _).mono ?_
      rintro e w12 ⟨rfl, hb12⟩
      have HB12 := hid (below_step HB11.out (Nat.le_refl _) hb12)
      have HRI12 := hid (HRI11.out.keep hb12)
      have HR12 := hid (HR11.out.keep hb12)
      have HRT12 := hid (HRT11.out.keep hb12)
      have HIB12 := hid (HIB.out.keep hb12)
      clear hgd hb12 HR11 HRI11 HB11 HRT11 HIB
      go_wp2_with fail
      refine (within_any b (T.length : Int) _ (by omega) (by omega)).mono ?_
      rintro e w13 ⟨rfl, rfl⟩
      obtain ⟨t, ht⟩ := Int.eq_ofNat_of_zero_le (Int.emod_nonneg b (show (T.length : Int) ≠ 0 by omega))
      have htT : t < T.length := by have := Int.emod_lt_of_pos b (show (0 : Int) < (T.length : Int) by omega); rw [ht] at this; omega
      rw [ht]
      clear ht
      obtain ⟨bT, offT, AP, nP, cP, eT, hcellT, hIP, _⟩ := HRT12.out.at htT
      subst eT
      have HPOK := hid (HT.out.ok HO3.out (getD_mem_rows htT))
      have HPT := hid ((HT.out.mem _).1 (getD_mem_rows htT))
      have hnP : n = nP := by rw [← hIP.len, HPOK.out.1]
      subst hnP
      generalize T.getD t [] = p at *
      have hmk := fun W => run_make_row' (P := Try.prog) 23 3 (.int .i64 0) 8 Try.underlying23 infoInt rfl .i64 .i64 n (by omega) (by omega) W
      have hnn : ((n : Int) != (n : Int)) = false := by simp
      have HIP := hid hIP
      clear hIP
      go_wp2_with fail
      go_loopg [102] n (fun g s wq => ∃ i : Nat, i ≤ n ∧ n - i ≤ g ∧ s = .int .i64 i ∧ wq.rowIs w12.heap.size 3 n (mvCell p xs i) ∧ Below w12.heap.size w12 wq)
      case atStart => exact ⟨0, Nat.zero_le _, by omega, rfl, (World.rowIs_made w12 _ n _).congr (fun j hj => mvCell_start HPOK.out.2 xs (by rw [HPOK.out.1]; exact hj)), (Below.refl _ _).alloc (Nat.le_refl _) _⟩
      case round =>
        obtain ⟨i, hi, hgi, rfl, hrow, hbel⟩ := hrel
        have HR := hid hrow
        have HB := hid hbel
        clear hrow hbel hmk
        by_cases hlt : i < n
        · obtain ⟨b2, o2, e2, hlt2, hc2⟩ := HIP.out.row (by omega)
          subst e2
          obtain ⟨b1, o1, e1, hlt1, hc1⟩ := HRI12.out.row (by omega)
          subst e1
          have hkl : i < p.length := by rw [HPOK.out.1]; exact hlt
          have hr := HPOK.out.2.range (getD_mem hkl)
          rw [HPOK.out.1] at hr
          have g1 : wr.cell? ⟨b2, o2 + i, none⟩ = some (.int .i64 (p.getD i 0)) := (HB.out.cell (p := ⟨b2, o2 + i, none⟩) hlt2).trans (hc2 i hlt)
          have g2 : wr.cell? ⟨b1, o1 + i, none⟩ = some (.int .i64 (xs.getD i 0)) := (HB.out.cell (p := ⟨b1, o1 + i, none⟩) hlt1).trans (hc1 i hlt)
          have HS := hid (fun m (e : p.getD i 0 = ((m : Nat) : Int)) j (hj : j < p.length) => mvCell_step HPOK.out.2 xs hkl e hj)
          generalize hxk : p.getD i 0 = x at g1 hr HS
          obtain ⟨z, rfl⟩ := Int.eq_ofNat_of_zero_le hr.1
          have hz : z < n := by omega
          have dz0 : decide ((z : Int) < 0) = false := by simp
          have dz1 : decide ((n : Int) ≤ (z : Int)) = false := by simp; omega
          have g3 : wr.cell? ⟨w12.heap.size, z, none⟩ = some (mvCell p xs i z) := HR.out.cell hz
          have g4 : wr.frozen? ⟨w12.heap.size, z, none⟩ = false := HR.out.frozen z
          have HS2 := hid (HS.out z rfl)
          clear hc1 hc2 hr hkl HS hxk
          generalize xs.getD i 0 = y at g2 HS2
          go_wp2
          go_roundg (n - (i + 1))
          case measure => omega
          case rel =>
            refine ⟨i + 1, by omega, by omega, by go_num, ?_, HB.out.setCell (Nat.le_refl _) _⟩
            exact (HR.out.set z (.int .i64 y)).congr (fun j hj => HS2.out j (by rw [HPOK.out.1]; exact hj))
        · have hin : i = n := by omega
          subst hin
          have HOT : Hid (Ints wr (some ⟨w12.heap.size, 0, none⟩) i (mv p xs)) := by
            have := own_of_rowIs (base := w12.heap.size) HR.out (xs := mv p xs) (by rw [length_mv]; exact HPOK.out.1) (fun j hj => by
              have := mvCell_end HPOK.out.2 xs (j := j) (by rw [HPOK.out.1]; exact hj)
              rwa [HPOK.out.1] at this) (Nat.le_refl _) (by unfold maxLen; omega)
            exact this.asInts.1
          have HBZ := hid (below_step HB12.out (Nat.le_refl _) HB.out)
          have HRIz := hid (HRI12.out.keep HB.out)
          have HRz := hid (HR12.out.keep HB.out)
          have HIBz := hid (HIB12.out.keep HB.out)
          clear HR HB HB12 HRI12 HR12 HIB12 HIP HRT12
          obtain ⟨w13, rfl⟩ : ∃ w13, w13 = wr := ⟨wr, rfl⟩
          have hle := least_ok A3 m3 c3 (some ⟨w12.heap.size, 0, none⟩) i L3 i (mv p xs) w13 HRz.out HOT.out HE3.out
          go_wp2_with fail
          refine hle.mono ?_
          rintro e w14 ⟨v14, cc, rfl, hlc, hoc, hb14⟩
          have hcb := (HLB.out.moved HT.out HO3.out HXN.out HPT.out).unique hlc
          subst hcb
          obtain ⟨AC, cC, eC, hIC, _⟩ := hoc.ints
          rw [HBL2.out] at eC hIC
          subst eC
          have HIC := hid hIC
          have HB14 := hid (below_step HBZ.out (Nat.le_refl _) hb14)
          have HRI14 := hid (HRIz.out.keep hb14)
          have HR14 := hid (HRz.out.keep hb14)
          have HIB14 := hid (HIBz.out.keep hb14)
          clear hle hlc hoc hb14 hIC HRIz HRz HIBz HBZ HOT
          have hle := least_ok A3 m3 c3 AB cB L3 i bb w14 HR14.out HIB14.out HE3.out
          go_wp2_with fail
          refine hle.mono ?_
          rintro e w15 ⟨v15, dd, rfl, hld, hod, hb15⟩
          have hdb := (HLB.out.own HT.out HO3.out HXN.out).unique hld
          subst hdb
          obtain ⟨AD, cD, eD, hID, _⟩ := hod.ints
          rw [HBL2.out] at eD hID
          subst eD
          have HID := hid hID
          have HB15 := hid (below_step HB14.out (Nat.le_refl _) hb15)
          have HRI15 := hid (HRI14.out.keep hb15)
          have HIB15 := hid (HIB14.out.keep hb15)
          have HIC15 := hid (HIC.out.keep hb15)
          clear hle hld hod hb15 hID HRI14 HR14 HIB14 HB14 HIC
          have hcl := clone_any A9 i c9 xs w15 HRI15.out (by omega)
          go_wp2_with fail
          refine hcl.mono ?_
          rintro e w16 ⟨v16, rfl, ho16, hb16⟩
          obtain ⟨AX, cX, eX, _⟩ := ho16.ints
          rw [HXN.out] at eX
          subst eX
          have HOX := hid ho16
          have HSZ := hid hb16.size
          have HBX := hid hb16
          have HIB16 := hid (HIB15.out.keep hb16)
          clear hcl ho16 hb16
          have hcl := clone_any AB i cB bb w16 HIB16.out (by omega)
          go_wp2_with fail
          refine hcl.mono ?_
          rintro e w17 ⟨v17, rfl, ho17, hb17⟩
          obtain ⟨AY, cY, eY, _⟩ := ho17.ints
          rw [HBL2.out] at eY
          subst eY
          have HOY := hid ho17
          have HBY := hid hb17
          have HOX17 := hid (HOX.out.keep hb17)
          clear hcl ho17 hb17 HIB16
          have hso := sort_any w15.heap.size (.slice AX i cX) xs w17 HOX17.out (by rw [HXN.out]; omega)
          go_wp2_with fail
          refine hso.mono ?_
          rintro e w18 ⟨rfl, xs', hox18, hpx, hsx, hgx⟩
          have HAP := hid (own_apart2 HOX.out HOY.out)
          have HOX18 := hid hox18
          have HOY18 := hid (own_keptA HOY.out hgx (fun k hk e => HAP.out k e hk))
          have hBX17 := below_step HBX.out (Nat.le_refl _) HBY.out
          have HBX18 := hid (hBX17.grown hgx hBX17.size (fun k hk => (World.ownsRow.lt HOX17.out k hk).1))
          have HXS := hid (show xs'.Perm xs ∧ xs'.Pairwise climbs from ⟨hpx, pairwise_of_sortedTo hsx⟩)
          clear hso hox18 hpx hsx hgx hBX17 HOX17 HOY HBX HBY
          have hso := sort_any w16.heap.size (.slice AY i cY) bb w18 HOY18.out (by rw [HBL2.out]; omega)
          go_wp2_with fail
          refine hso.mono ?_
          rintro e w19 ⟨rfl, ys', hoy19, hpy, hsy, hgy⟩
          have HOX19 := hid (own_keptA HOX18.out hgy HAP.out)
          have HB19 := hid (HBX18.out.grown hgy HBX18.out.size (fun k hk => Nat.le_trans HSZ.out ((World.ownsRow.lt HOY18.out k hk).1)))
          have hxy : xs' = ys' := by
            refine sorted_unique climbs_antiO HXS.out.2 (pairwise_of_sortedTo hsy) ?_
            exact HXS.out.1.trans ((HLB.out.perm HO3.out HXN.out).symm.trans hpy.symm)
          subst hxy
          have HOY19 := hid hoy19
          have HXL : Hid (xs'.length = i) := by show xs'.length = i; rw [HXS.out.1.length_eq, HXN.out]
          have HIBf := hid (HIB15.out.keep HB19.out)
          have HICf := hid (HIC15.out.keep HB19.out)
          have HIDf := hid (HID.out.keep HB19.out)
          have HRIf := hid (HRI15.out.keep HB19.out)
          have HIXf := hid HOX19.out.asInts.1
          have HIYf := hid HOY19.out.asInts.1
          have HBf := hid (below_step HB15.out (Nat.le_refl _) HB19.out)
          have HLE := hid (HLB.out.le_row HXN.out)
          clear hso hoy19 hpy hsy hgy HXS HAP HOX18 HOY18 HBX18 HIB15 HIC15 HID HRI15 HB15 HB19 HOX19 HOY19 HOX HSZ HLB
          have hgd := fun t => good_bel w19 #[.int .i64 0, .int .i64 0] t 2 [0, 0] rfl rfl (by omega)
          rw [show allOK [0, 0] = true by decide] at hgd
          go_wp2_with fail
          refine (hgd _).mono ?_
          rintro e w20 ⟨rfl, hb20⟩
          have HB20 := hid hb20
          clear hgd hb20
          have h1 := equal_bel AB i cB AC i cC bb bb w20 (HIBf.out.keep HB20.out) (HICf.out.keep HB20.out) (by omega) (by omega)
          rw [decide_eq_true rfl] at h1
          go_wp2_with fail
          refine h1.mono ?_
          rintro e w21 ⟨rfl, hb21⟩
          have HB21 := hid (below_step HB20.out (Nat.le_refl _) hb21)
          clear h1 hb21 HB20
          have h1 := equal_bel AB i cB AD i cD bb bb w21 (HIBf.out.keep HB21.out) (HIDf.out.keep HB21.out) (by omega) (by omega)
          rw [decide_eq_true rfl] at h1
          go_wp2_with fail
          refine h1.mono ?_
          rintro e w22 ⟨rfl, hb22⟩
          have HB22 := hid (below_step HB21.out (Nat.le_refl _) hb22)
          clear h1 hb22 HB21
          have h1 := equal_bel AX i cX AY i cY xs' xs' w22 (HIXf.out.keep HB22.out) (HIYf.out.keep HB22.out) (by omega) (by omega)
          rw [decide_eq_true rfl] at h1
          go_wp2_with fail
          refine h1.mono ?_
          rintro e w23 ⟨rfl, hb23⟩
          have HB23 := hid (below_step HB22.out (Nat.le_refl _) hb23)
          clear h1 hb23 HB22
          have h1 := compareL_any AB i cB A9 c9 bb xs w23 (HIBf.out.keep HB23.out) (HRIf.out.keep HB23.out) (by omega)
          have hcle := HLE.out
          generalize cmpL bb xs = cv at *
          have hcd : decide (cv ≤ 0) = true := by simpa using hcle
          go_wp2_with fail
          refine h1.mono ?_
          rintro e w24 ⟨rfl, rfl⟩
          have HBZ := hid (below_step HBf.out (Nat.le_refl _) HB23.out)
          clear h1
          go_wp2
          go_ret
          exact ⟨rfl, HBZ.out⟩

end Go.Proofs.Ytbcjfiobggggjaa
