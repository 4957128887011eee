/-
  Texts joined: ShuffleSays.
-/
import Derived.Test.YtmdpfadfimodjaaShuffleSaysPart3
import Derived.Deep.CutBlock
import Derived.Deep.DeepCutAuto

/-
  castlaw.ShuffleSays, walked.
-/
namespace Go.Proofs.Ytmdpfadfimodjaa
open Go.RowKit

theorem dealX_short (l : List Int) : (dealX l).length ≤ 10 := by
  by_cases h : lotsErr l = 0
  · rw [length_dealX h]; exact (lotsErr_ok.1 h).1
  · rw [dealX_bad h]; exact Nat.zero_le _
theorem lotsX_short (l : List Int) : (lotsX l).length ≤ 10 := by
  by_cases h : permErr l = 0
  · rw [length_lotsX h]; exact (permErr_ok.1 h).1
  · rw [lotsX_bad h]; exact Nat.zero_le _
theorem castX_short (N : Int) (xs : List Nat) : (castX N xs).1.length ≤ 10 := by
  rcases castX_cases N xs with ⟨e, h, -⟩ | ⟨n, r, u, h⟩
  · rw [h]; exact Nat.zero_le _
  · rw [h.cast]
    show (dealt r).length ≤ 10
    rw [h.plen]; exact h.le

/-- What Deal answers, in cases. -/
structure DealF (xs : List Int) (E : Int) (D : List Int) : Prop where
  ok : E = 0 → IsLots xs ∧ xs.length ≤ 10 ∧ dealt xs = D
  bad : E ≠ 0 → D = []
  short : D.length ≤ 10
theorem dealF (xs : List Int) : DealF xs (lotsErr xs) (dealX xs) :=
  ⟨fun h => ⟨(lotsErr_ok.1 h).2, (lotsErr_ok.1 h).1, (dealX_ok h).symm⟩, fun h => dealX_bad h, dealX_short xs⟩
/-- What Lots answers, in cases. -/
structure LotsF (ys : List Int) (P : Int) (O : List Int) : Prop where
  ok : P = 0 → IsLots O ∧ lotsErr O = 0 ∧ dealt O = ys ∧ ys.length ≤ 10
  bad : P ≠ 0 → O = []
  short : O.length ≤ 10
theorem lotsF (ys : List Int) : LotsF ys (permErr ys) (lotsX ys) :=
  ⟨fun h => ⟨(lotsErr_ok.1 (lotsErr_lotsX h)).2, lotsErr_lotsX h, dealt_lotsX h, (permErr_ok.1 h).1⟩, fun h => lotsX_bad h, lotsX_short ys⟩

set_option maxHeartbeats 2000000 in
set_option maxRecDepth 100000 in
theorem shuffleSays_any (A : Option Addr) (n c : Nat) (xs : List Int) (B : Option Addr) (m d : Nat) (ys : List Int) (C : Option Addr) (q e0 : Nat) (zs : List Nat) (N : Int) (w : World)
    (hx : Ints w A n xs) (hy : Ints w B m ys) (hm : m ≤ 9223372036854775807) (hz : Byts w C q zs) (hc : Cap q e0) :
    Calls Try.prog 3 #[.slice A n c, .slice B m d, .slice C q e0, .int .i64 N] w fun e w' => e = .returned (.bool true) ∧ Below w.heap.size w w' := by
  have HX := hid hx
  have HY := hid hy
  have HZ := hid hz
  have HCZ := hid hc
  have HM := hid hm
  have HXL := hid hx.len
  have HYL := hid hy.len
  have HD1 := hid (shDeal_any A n c xs w hx)
  have HCK := hid (fun W (hb : Below w.heap.size w W) => shCheck_any A n c xs W (hx.keep hb))
  have HLE := hid (fun W (hb : Below w.heap.size w W) => refLots_any A n c xs W (hx.keep hb))
  have HLT := hid (fun W (hb : Below w.heap.size w W) => shLots_any B m d ys W (hy.keep hb) hm)
  have HPE := hid (fun W (hb : Below w.heap.size w W) => refErr_any B m d ys W (hy.keep hb) hm)
  have HDF := hid (dealF xs)
  have HLF := hid (lotsF ys)
  have hds := HDF.out.short
  have hls := HLF.out.short
  clear hx hy hz hc hm
  generalize lotsErr xs = E at *
  generalize dealX xs = D at *
  generalize permErr ys = P at *
  generalize lotsX ys = O at *
  go_enter Try.func3, Try.ntmps3
  go_wp2_with fail
  refine HD1.out.mono ?_
  rintro e w1 ⟨v1, rfl, ho, hb⟩
  have HB1 := hid hb
  obtain ⟨A1, c1, rfl, hI, -, -⟩ := ho.ints0
  have HI1 := hid hI
  clear ho hb hI HD1
  go_wp2_with fail
  refine (HLT.out _ HB1.out).mono ?_
  rintro e w2 ⟨v2, rfl, ho, hb⟩
  have HB2 := hid (below_step HB1.out (Nat.le_refl _) hb)
  have HI1b := hid (HI1.out.keep hb)
  obtain ⟨A2, c2, rfl, hI, -, -⟩ := ho.ints0
  have HI2 := hid hI
  clear ho hb hI HLT HB1 HI1
  have HD3 := hid (shCast_any C q e0 zs N w2 (HZ.out.keep HB2.out) HCZ.out)
  have hcs := castX_short N zs
  obtain ⟨R, U, G, hRU⟩ : ∃ (R : List Int) (U : Nat) (G : Int), castX N zs = (R, U, G) := ⟨_, _, _, rfl⟩
  rw [hRU] at HD3 hcs
  have hRs : R.length ≤ 10 := hcs
  have HRU := hid hRU
  clear hRU hcs
  go_wp2_with fail
  refine HD3.out.mono ?_
  rintro e w3 ⟨v3, rfl, ho, hb⟩
  have HB3 := hid (below_step HB2.out (Nat.le_refl _) hb)
  have HI1c := hid (HI1b.out.keep hb)
  have HI2c := hid (HI2.out.keep hb)
  obtain ⟨A3, c3, rfl, hI, -, -⟩ := ho.ints0
  have HI3 := hid hI
  clear ho hb hI HD3 HB2 HI1b HI2
  go_wp2_with fail
  refine (HLE.out _ HB3.out).mono ?_
  rintro e w' ⟨rfl, rfl⟩
  clear HLE
  go_upto_region 5 with fail
  go_cut [68] from 40 to 68 (fun t wx => t = .bool false ∧ Below w3.heap.size w3 wx)
  case first =>
    have hsame : (E != E) = false := bne_self_eq_false _
    clear HI2c HI3 HRU
    by_cases he : E = 0
    · have hne : (E != 0) = false := by simpa using he
      have heq : (E == 0) = true := by simpa using he
      obtain ⟨hL, hl, hDD⟩ := HDF.out.ok he
      rw [HXL.out] at hl
      have HDT := hid (dealt_any A n c xs w3 (HX.out.keep HB3.out) hL (by omega))
      rw [hDD] at HDT
      clear he hL hDD
      go_wp2_with fail
      refine (HCK.out _ HB3.out).mono ?_
      rintro e w' ⟨rfl, rfl⟩
      go_wp2_with fail
      refine HDT.out.mono ?_
      rintro e w5 ⟨v5, rfl, ho, hb⟩
      have HB5 := hid hb
      have HI5 := hid (HI1c.out.keep hb)
      obtain ⟨A5, c5, rfl, hI, -, -⟩ := ho.ints0
      have HAL := hid (alike_bel A1 D.length c1 A5 D.length c5 D D w5 HI5.out hI (by omega) (by omega))
      rw [decide_eq_true rfl] at HAL
      clear ho hb hI HDT HCK
      go_wp2_with fail
      refine HAL.out.mono ?_
      rintro e w6 ⟨rfl, hb⟩
      have HB6 := hid (below_step HB5.out (Nat.le_refl _) hb)
      clear hb
      go_wp2
      go_meet
      exact ⟨rfl, HB6.out⟩
    · have hne : (E != 0) = true := by simpa using he
      have heq : (E == 0) = false := by simpa using he
      obtain rfl := HDF.out.bad he
      clear he
      go_wp2_with fail
      refine (HCK.out _ HB3.out).mono ?_
      rintro e w' ⟨rfl, rfl⟩
      go_wp2
      go_meet
      exact ⟨rfl, Below.refl _ _⟩
  case rest =>
    obtain ⟨rfl, hb⟩ := hcut
    obtain ⟨wx, rfl⟩ : ∃ w', w' = wc := ⟨_, rfl⟩
    have HB4 := hid (below_step HB3.out (Nat.le_refl _) hb)
    have HI2d := hid (HI2c.out.keep hb)
    have HI3d := hid (HI3.out.keep hb)
    clear hb HB3 HI1c HI2c HI3 HCK HDF
    go_wp2_with fail
    refine (HPE.out _ HB4.out).mono ?_
    rintro e w' ⟨rfl, rfl⟩
    clear HPE
    go_upto_region 8 with fail
    go_cut [98] from 71 to 98 (fun t wy => t = .bool false ∧ Below wx.heap.size wx wy)
    case first =>
      have hsame : (P != P) = false := bne_self_eq_false _
      clear HI3d HRU
      by_cases he : P = 0
      · have hne : (P != 0) = false := by simpa using he
        have heq : (P == 0) = true := by simpa using he
        obtain ⟨hL, hl, hDD, hy10⟩ := HLF.out.ok he
        rw [HYL.out] at hy10
        have HLE := hid (refLots_any A2 O.length c2 O wx HI2d.out)
        rw [hl] at HLE
        have HDT := hid (dealt_any A2 O.length c2 O wx HI2d.out hL (by omega))
        rw [hDD] at HDT
        clear he hL hDD hl
        go_wp2_with fail
        refine HLE.out.mono ?_
        rintro e w' ⟨rfl, rfl⟩
        go_wp2_with fail
        refine HDT.out.mono ?_
        rintro e w5 ⟨v5, rfl, ho, hb⟩
        have HB5 := hid hb
        obtain ⟨A5, c5, rfl, hI, -, -⟩ := ho.ints0
        have HAL := hid (alike_bel A5 ys.length c5 B m d ys ys w5 hI (HY.out.keep (HB4.out.trans (hb.mono HB4.out.size))) (by rw [HYL.out]; omega) (by omega))
        rw [decide_eq_true rfl] at HAL
        clear ho hb hI HDT HLE
        go_wp2_with fail
        refine HAL.out.mono ?_
        rintro e w6 ⟨rfl, hb⟩
        have HB6 := hid (below_step HB5.out (Nat.le_refl _) hb)
        clear hb
        go_wp2
        go_meet
        exact ⟨rfl, HB6.out⟩
      · have hne : (P != 0) = true := by simpa using he
        have heq : (P == 0) = false := by simpa using he
        obtain rfl := HLF.out.bad he
        clear he
        go_wp2
        go_meet
        exact ⟨rfl, Below.refl _ _⟩
    case rest =>
      obtain ⟨rfl, hb⟩ := hcut
      obtain ⟨wy, rfl⟩ : ∃ w', w' = wc := ⟨_, rfl⟩
      have HB5 := hid (below_step HB4.out (Nat.le_refl _) hb)
      have HI3e := hid (HI3d.out.keep hb)
      have HTE := hid (refTapeErr_any C q e0 zs wy (HZ.out.keep HB5.out))
      clear hb HB4 HI2d HI3d HLF HX HY HXL HYL hds hls
      by_cases he : tapeErr zs = 0
      · rw [he] at HTE
        by_cases hN : N < 0 ∨ 10 < N
        · have e1 := HRU.out
          rw [castX_arg he hN] at e1
          injection e1 with e1 e2
          injection e2 with e2 e3
          subst e1 e2 e3
          clear he HRU
          rcases hN with hN | hN
          · go_wp2_with fail
            refine HTE.out.mono ?_
            rintro e w' ⟨rfl, rfl⟩
            go_wp2
            go_ret
            exact ⟨rfl, HB5.out⟩
          · have hN0 : ¬ N < 0 := by omega
            go_wp2_with fail
            refine HTE.out.mono ?_
            rintro e w' ⟨rfl, rfl⟩
            go_wp2
            go_ret
            exact ⟨rfl, HB5.out⟩
        · obtain ⟨k, rfl⟩ := Int.eq_ofNat_of_zero_le (show 0 ≤ N by omega)
          have hk10 : k ≤ 10 := by omega
          have HE := hid he
          clear he hN
          go_wp2_with fail
          refine HTE.out.mono ?_
          rintro e w' ⟨rfl, rfl⟩
          clear HTE
          go_wp2
          go_loopg [17] k (fun g tv wr => ∃ j : Nat, j ≤ k ∧ k - j ≤ g ∧ OwnInts wr wy.heap.size tv (upTo j) ∧ Below wy.heap.size wy wr)
          case atStart => exact ⟨0, by omega, by omega, OwnInts.nil _ _, Below.refl _ _⟩
          case round =>
            obtain ⟨j, hj, hg, ho, hb⟩ := hrel
            have HB := hid hb
            obtain ⟨A8, c8, rfl, hIM, -, -⟩ := ho.ints0
            rw [length_upTo] at ho hIM ⊢
            have HO := hid ho
            have HIM := hid hIM
            clear ho hb hIM
            by_cases hlt : j < k
            · have HD := hid (length_upTo j)
              have HS := hid (upTo_succ j)
              generalize upTo j = V at *
              go_wp2_with (at_builtin; refine wpList_app1 _ rfl (.tmp 129) (.tmp 133) rfl wy.heap.size _ V ((j : Int) + 1) rfl rfl HO.out (by rw [HD.out]; omega) HB.out.size ?_)
              intro v' w8 ho1 _ hb1
              rw [← HS.out] at ho1
              have HO1 := hid ho1
              have HB1 := hid (HB.out.trans hb1)
              clear ho1 hb1
              go_wp2
              go_roundg (k - (j + 1))
              case measure => omega
              case rel => exact ⟨j + 1, by omega, by omega, HO1.out, HB1.out⟩
            · obtain rfl : j = k := by omega
              have HB6 := hid (below_step HB5.out (Nat.le_refl _) HB.out)
              have HRO := hid (refRowOf_any C q e0 zs A8 j c8 (upTo j) wr (HZ.out.keep HB6.out) HCZ.out HIM.out HE.out (by omega))
              have HI3f := hid (HI3e.out.keep HB.out)
              clear HO HIM HI3e HB HB5
              rcases rowx_cases (upTo j) zs with ⟨er, h3, hne, -⟩ | ⟨r, u, h3, -, -, -⟩
              · have e1 := HRU.out
                rw [castX_row HE.out hk10 h3 hne] at e1
                rw [h3] at HRO
                injection e1 with e1 e2
                injection e2 with e2 e3
                subst e1 e2 e3
                have hz : (er != 0) = true := by simpa using hne
                have hs : (er == er) = true := beq_self_eq_true _
                clear h3 hne HRU
                go_wp2_with fail
                refine HRO.out.mono ?_
                rintro e w9 ⟨v9, rfl, ho, hb⟩
                have HB7 := hid (below_step HB6.out (Nat.le_refl _) hb)
                obtain ⟨A9, c9, rfl, -, -, -⟩ := ho.ints0
                clear ho hb
                go_wp2
                go_ret
                exact ⟨rfl, HB7.out⟩
              · have HK := hid (castOK_of HE.out hk10 h3)
                have e1 := HRU.out
                rw [HK.out.cast] at e1
                rw [h3] at HRO
                injection e1 with e1 e2
                injection e2 with e2 e3
                have E1 := hid e1
                subst e2 e3
                clear e1
                have hs : ((u : Int) == (u : Int)) = true := beq_self_eq_true _
                have hr10 : r.length ≤ 10 := by rw [HK.out.len]; exact hk10
                clear h3 HRU
                go_wp2_with fail
                refine HRO.out.mono ?_
                rintro e w9 ⟨v9, rfl, ho, hb⟩
                have HB7 := hid (below_step HB6.out (Nat.le_refl _) hb)
                have HI3g := hid (HI3f.out.keep hb)
                obtain ⟨A9, c9, rfl, hI9, -, -⟩ := ho.ints0
                have HDT := hid (dealt_any A9 r.length c9 r w9 hI9 HK.out.lots (by omega))
                rw [E1.out] at HDT
                clear ho hb hI9 HRO HB6 HI3f
                go_wp2_with fail
                refine HDT.out.mono ?_
                rintro e w10 ⟨v10, rfl, ho, hb⟩
                have HB8 := hid (below_step HB7.out (Nat.le_refl _) hb)
                obtain ⟨A10, c10, rfl, hI10, -, -⟩ := ho.ints0
                have HAL := hid (alike_bel A3 R.length c3 A10 R.length c10 R R w10 (HI3g.out.keep hb) hI10 (by omega) (by omega))
                rw [decide_eq_true rfl] at HAL
                clear ho hb hI10 HDT HB7 HI3g
                go_wp2_with fail
                refine HAL.out.mono ?_
                rintro e w11 ⟨rfl, hb⟩
                have HB9 := hid (below_step HB8.out (Nat.le_refl _) hb)
                clear hb
                go_wp2
                go_ret
                exact ⟨rfl, HB9.out⟩
      · have e1 := HRU.out
        rw [castX_tape he] at e1
        injection e1 with e1 e2
        injection e2 with e2 e3
        subst e1 e2 e3
        have hz : (tapeErr zs != 0) = true := by simpa using he
        have hz2 : (tapeErr zs == 0) = false := by simpa using he
        have hs : (tapeErr zs == tapeErr zs) = true := beq_self_eq_true _
        clear he HRU
        generalize tapeErr zs = T at *
        go_wp2_with fail
        refine HTE.out.mono ?_
        rintro e w' ⟨rfl, rfl⟩
        go_wp2
        go_ret
        exact ⟨rfl, HB5.out⟩

end Go.Proofs.Ytmdpfadfimodjaa
