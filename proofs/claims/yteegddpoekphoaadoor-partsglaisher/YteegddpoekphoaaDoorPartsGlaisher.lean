/-
  castkeep.PartsGlaisher.
-/
import Derived.Test.YteegddpoekphoaaDoorPartX
import Derived.Test.YteegddpoekphoaaDoorPartV
import Derived.Test.YteegddpoekphoaaDoorPartE
namespace Go.Proofs.YteegddpoekphoaaDoor
open Go.RowKit

theorem isPart_43 : IsPart (ofN [4, 3]) := isPart_of (by decide)
theorem noTwin_43 : NoTwin [4, 3] 2 := by
  intro j h0 h1
  have : j = 1 := by omega
  subst this
  decide
theorem down_43 : ofN (down (cO [4, 3]) 40) = [3, 1, 1, 1, 1] := by decide +kernel

/-- parts.Odd([]int{4, 3}). -/
theorem odd_43 (w : World) (ht : Tab64 w) : Calls Tryd.prog 7 #[.slice (some ⟨w.heap.size, 0, none⟩) 2 2] (w.alloc (.cells #[.int .i64 4, .int .i64 3] 3)) fun e w' => ∃ A c, e = .returned (.tuple #[.slice A 5 c, .int .i64 0]) ∧ Ints w' A 5 [3, 1, 1, 1, 1] ∧ Below w.heap.size w w' := by
  refine (odd_any _ 2 2 [4, 3] _ (ints_lit w _ _ 2 [4, 3] rfl rfl) isPart_43 (ht.keep (below_alloc _ _))).mono ?_
  rintro e w' (⟨h, _⟩ | ⟨_, A, n, c, rfl, hb, hI, _⟩)
  · exact absurd noTwin_43 h
  · rw [down_43] at hI
    have hn : 5 = n := hI.len
    subst hn
    exact ⟨A, c, rfl, hI, below_step (below_alloc _ _) (Nat.le_refl _) hb⟩
theorem equal_lit5 (A : Option Addr) (c : Nat) (w : World) (h : Ints w A 5 [3, 1, 1, 1, 1]) :
    Calls Tryd.prog 20 #[.slice A 5 c, .slice (some ⟨w.heap.size, 0, none⟩) 5 5] (w.alloc (.cells #[.int .i64 3, .int .i64 1, .int .i64 1, .int .i64 1, .int .i64 1] 3)) fun e w' => e = .returned (.bool true) ∧ Below w.heap.size w w' := by
  refine (equal_bel A 5 c _ 5 5 [3, 1, 1, 1, 1] [3, 1, 1, 1, 1] _ (h.keep (below_alloc _ _)) (ints_lit w _ _ 5 [3, 1, 1, 1, 1] rfl rfl) (by omega) (by omega)).mono ?_
  rintro e w' ⟨rfl, hb⟩
  exact ⟨by simp, below_step (below_alloc _ _) (Nat.le_refl _) hb⟩

set_option maxHeartbeats 4000000 in
set_option maxRecDepth 100000 in
theorem partsGlaisher_any (A : Option Addr) (n c : Nat) (xs : List Int) (w : World) (h : Ints w A n xs) (hc : n ≤ c) (ht : Tab64 w) :
    Calls Tryd.prog 4 #[.slice A n c] w fun e w' => e = .returned (.bool true) ∧ Below w.heap.size w w' := by
  have HB0 := hid (Below.refl w.heap.size w)
  have HA0 : Hid (All w [(A, n, xs)]) := ⟨h, trivial⟩
  have HT0 := hid ht
  clear ht
  clear h
  go_enter Tryd.func4, Tryd.ntmps4
  go_wp2_with fail
  refine (odd_43 _ HT0.out).mono ?_
  rintro e w1 ⟨A0, c0, rfl, hI, hb⟩
  have HB1 := hid (below_step HB0.out (Nat.le_refl _) hb)
  have HA1 : Hid (All w1 [(A0, 5, [3, 1, 1, 1, 1]), (A, n, xs)]) := ⟨hI, HA0.out.keep hb⟩
  clear HA0 HB0
  have HT1 := hid (HT0.out.keep hb)
  clear HT0
  clear hb hI
  go_wp2_with fail
  refine (equal_lit5 A0 c0 _ HA1.out.1).mono ?_
  rintro e w2 ⟨rfl, hb⟩
  have HB2 := hid (below_step HB1.out (Nat.le_refl _) hb)
  have HA2 : Hid (All w2 [(A0, 5, [3, 1, 1, 1, 1]), (A, n, xs)]) := HA1.out.keep hb
  clear HA1 HB1
  have HT2 := hid (HT1.out.keep hb)
  clear HT1
  clear hb
  go_wp2_with fail
  refine (partsLive_any _).mono ?_
  rintro e w3 ⟨rfl, hb⟩
  have HB3 := hid (below_step HB2.out (Nat.le_refl _) hb)
  have HA3 : Hid (All w3 [(A0, 5, [3, 1, 1, 1, 1]), (A, n, xs)]) := HA2.out.keep hb
  clear HA2 HB2
  have HT3 := hid (HT2.out.keep hb)
  clear HT2
  clear hb
  go_wp2_with fail
  refine (sumOf_bel A n c xs _ HA3.out.2.1 hc).mono ?_
  rintro e w4 ⟨A1, n1, c1, ys, rfl, hI, hp, hn1, hb⟩
  obtain ⟨ns, rfl⟩ := ofN_of hp
  have HP := hid hp
  have HL : Hid (ns.length = n1) := by rw [← length_ofN]; exact hI.len
  clear hp
  have HB4 := hid (below_step HB3.out (Nat.le_refl _) hb)
  have HA4 : Hid (All w4 [(A1, n1, (ofN ns)), (A0, 5, [3, 1, 1, 1, 1]), (A, n, xs)]) := ⟨hI, HA3.out.keep hb⟩
  clear HA3 HB3
  have HT4 := hid (HT3.out.keep hb)
  clear HT3
  clear hb hI
  have HIL : Hid (Ints w4 A1 n1 (ofN ns)) := HA4.out.1
  have HT4 := hid HT4.out
  go_wp2_with fail
  refine (odd_any A1 n1 c1 ns _ HIL.out HP.out HT4.out).mono ?_
  rintro e w5 (⟨htw, rfl, hb⟩ | ⟨htw, A2, n2, c2, rfl, hb, hI2, _⟩)
  all_goals
    have HB5 := hid hb
    have HTW := hid htw
    clear hb htw
  case inl =>
    go_wp2_with fail
    refine (clone_bel A1 n1 c1 (ofN ns) _ (HIL.out.keep HB5.out) (by omega)).mono ?_
    rintro e w6 ⟨A6, c6, rfl, ho6, hb⟩
    have HB6 := hid hb
    have HO6 := hid ho6
    clear hb ho6
    go_wp2_with fail
    refine (compact_bel w5 w6 _ (ofN ns) HB6.out HO6.out).mono ?_
    rintro e w77 ⟨A7, m7, c7, rfl, _, hiff, hb⟩
    have hm7 : ((m7 : Int) == (n1 : Int)) = false := by
      rw [beq_eq_false_iff_ne]
      intro e
      have e2 : m7 = (ofN ns).length := by rw [length_ofN, HL.out]; exact Int.ofNat_inj.1 e
      exact HTW.out (noTwinI_ofN.1 (hiff.1 e2))
    have HB77 := hid (below_step HB5.out (Nat.le_refl _) hb)
    clear hb hiff
    have HBX := hid (below_step HB4.out (Nat.le_refl _) HB77.out)
    have HTX := hid (HT4.out.keep HB77.out)
    have HIX := hid (HIL.out.keep HB77.out)
    clear HIL HT4 HB77 HTW
    obtain ⟨b0, hb0⟩ : ∃ b0, b0 = w77.heap.size := ⟨_, rfl⟩
    have HB0 := hid hb0
    clear hb0
    go_wp2_with fail
    go_loopg [10, 73] n1 (fun g v t wr => ∃ k : Nat, k ≤ n1 ∧ n1 - k ≤ g ∧ t = .int .i64 (k : Int) ∧ OwnInts wr w77.heap.size v (ofN ((ns.take k).map oddify)) ∧ Below w77.heap.size w77 wr)
    case atStart => exact ⟨0, Nat.zero_le _, by omega, rfl, OwnInts.nil _ _, Below.refl _ _⟩
    case round =>
      obtain ⟨k, hk, hg, rfl, hown, hbel⟩ := hrel
      have HO := hid hown
      have HB := hid hbel
      clear hown hbel
      by_cases hlt : k < n1
      · obtain ⟨b, o, hA, hb, hcell⟩ := HIX.out.row (by omega)
        have g1 : wr.cell? ⟨b, o + k, none⟩ = some (.int .i64 ((ns.getD k 0 : Nat) : Int)) := by
          rw [(HB.out.cell (p := ⟨b, o + k, none⟩) hb), hcell k hlt, getD_ofN]
        have hx := part_mem HP.out (getD_memN (m := ns) (k := k) (by rw [HL.out]; exact hlt))
        have HSN : Hid (ofN ((ns.take (k + 1)).map oddify) = ofN ((ns.take k).map oddify) ++ [((oddify (ns.getD k 0) : Nat) : Int)]) := by
          rw [take_snocN (by rw [HL.out]; exact hlt), List.map_append, ofN_append]
          exact rfl
        have HLE : Hid ((ofN ((ns.take k).map oddify)).length ≤ 1000000000000) := by
          rw [length_ofN, List.length_map, List.length_take]
          exact show min k ns.length ≤ 1000000000000 by omega
        subst hA
        clear hcell
        generalize ofN ((ns.take k).map oddify) = zs at *
        generalize ns.getD k 0 = x at *
        have HOX : Hid ((x : Int) - 1 + (x : Int) % 2 = ((oddify x : Nat) : Int)) := by
          have : oddify x = x - 1 + x % 2 := rfl
          exact show (x : Int) - 1 + (x : Int) % 2 = ((oddify x : Nat) : Int) by omega
        go_wp2_with (at_builtin; refine wpList_app1 _ rfl (.tmp 77) (.tmp 83) rfl w77.heap.size _ zs ((x : Int) - 1 + (x : Int) % 2) rfl rfl HO.out HLE.out HB.out.size ?_)
        intro v' w7 hown7 _ hbel7
        have HO7 := hid hown7
        have HB7 := hid (HB.out.trans hbel7)
        clear hown7 hbel7 HO HB
        go_wp2
        go_roundg (n1 - (k + 1))
        case measure => omega
        case rel => exact ⟨k + 1, by omega, by omega, by go_num, by rw [HSN.out, ← HOX.out]; exact HO7.out, HB7.out⟩
      · have hkn : n1 = k := by omega
        subst hkn
        have HTK : Hid (ns.take n1 = ns) := List.take_of_length_le (by rw [HL.out]; exact Nat.le_refl _)
        rw [HTK.out] at HO
        obtain ⟨ms, hms, hpm, hod, hlm⟩ := odd_sorted HP.out
        have HMS := hid hms
        have HPM := hid hpm
        have HOD := hid hod
        have HLM : Hid (ms.length = n1) := hlm.trans HL.out
        have HLZ : Hid ((ofN (ns.map oddify)).length = n1) := by rw [length_ofN, List.length_map]; exact HL.out
        clear hms hpm hod hlm
        generalize ofN (ns.map oddify) = zs at *
        go_wp2_with fail
        refine (sortL_any w77.heap.size _ zs _ HO.out (by rw [HLZ.out]; omega)).mono ?_
        rintro e w8 ⟨rfl, hown8, hgrow⟩
        have HB8 := hid (HB.out.grown hgrow HB.out.size (fun k hk => (World.ownsRow.lt HO.out k hk).1))
        have HO8 := hid hown8
        clear hown8 hgrow
        go_wp2_with fail
        refine (reverse_any w77.heap.size _ _ _ HO8.out (by rw [length_srt, HLZ.out]; omega)).mono ?_
        rintro e w9 ⟨rfl, hown9, hgrow⟩
        have HB9 := hid (HB8.out.grown hgrow HB8.out.size (fun k hk => (World.ownsRow.lt HO8.out k hk).1))
        rw [HMS.out] at hown9
        obtain ⟨A9, c9, hv9, hI9, _⟩ := hown9.ints
        rw [length_ofN, HLM.out] at hv9 hI9
        have HI9 := hid hI9
        have HT9 := hid (HTX.out.keep HB9.out)
        have HBY := hid (below_step HBX.out (Nat.le_refl _) HB9.out)
        subst hv9
        clear hown9 hgrow hI9 HO HO8 HB HB8 HB9 HTX HIX HBX
        obtain ⟨bt1, bt2, bt3⟩ := back_there HPM.out HOD.out
        have HU1 := hid bt1
        have HU2 := hid bt2
        have HU3 := hid bt3
        clear bt1 bt2 bt3
        go_wp2_with fail
        refine (unlike_any A9 n1 c9 ms _ HI9.out HPM.out HT9.out).mono ?_
        rintro e w10 (⟨hno, _⟩ | ⟨_, A10, n10, c10, rfl, hb, hI10, _⟩)
        · exact absurd HOD.out hno
        · generalize unl (fun d => ms.count d) 40 = us at *
          have HL10 : Hid (us.length = n10) := by rw [← length_ofN]; exact hI10.len
          have h1040 : n10 ≤ 40 := by rw [← HL10.out]; exact part_lenN HU1.out
          have HI10 := hid hI10
          have HI9b := hid (HI9.out.keep hb)
          have HT10 := hid (HT9.out.keep hb)
          have HBZ := hid (below_step HBY.out (Nat.le_refl _) hb)
          clear hI10 hb HI9 HT9 HBY
          go_wp2_with fail
          refine (odd_any A10 n10 c10 us _ HI10.out HU1.out HT10.out).mono ?_
          rintro e w11 (⟨hno, _⟩ | ⟨_, A11, n11, c11, rfl, hb, hI11, _⟩)
          · exact absurd HU2.out hno
          · rw [HU3.out] at hI11
            have hn11 : n11 = n1 := by rw [← HLM.out, ← length_ofN]; exact hI11.len.symm
            subst hn11
            have HI11 := hid hI11
            have HI9c := hid (HI9b.out.keep hb)
            have HI10b := hid (HI10.out.keep hb)
            have HBW := hid (below_step HBZ.out (Nat.le_refl _) hb)
            clear hI11 hb HI9b HI10 HT10 HBZ
            go_wp2_with fail
            refine (good_bel _ _ _ 2 [0, 0] rfl rfl (by omega)).mono ?_
            rintro e w12 ⟨rfl, hb⟩
            rw [show allOK [0, 0] = true by decide]
            have HI11b := hid (HI11.out.keep hb)
            have HI9d := hid (HI9c.out.keep hb)
            have HI10c := hid (HI10b.out.keep hb)
            have HBV := hid (below_step HBW.out (Nat.le_refl _) hb)
            clear hb HI11 HI9c HI10b HBW
            go_wp2_with fail
            refine (equal_bel A11 _ c11 A9 _ c9 (ofN ms) (ofN ms) _ HI11b.out HI9d.out (by omega) (by omega)).mono ?_
            rintro e w13 ⟨rfl, hb⟩
            rw [show decide (ofN ms = ofN ms) = true by simp]
            have HI10d := hid (HI10c.out.keep hb)
            have HBU := hid (below_step HBV.out (Nat.le_refl _) hb)
            clear hb HI11b HI9d HI10c HBV
            go_wp2_with fail
            refine (clone_bel A10 n10 c10 (ofN us) _ HI10d.out (by omega)).mono ?_
            rintro e w14 ⟨A14, c14, rfl, ho14, hb⟩
            have HB14 := hid hb
            have HO14 := hid ho14
            clear hb ho14
            go_wp2_with fail
            refine (compact_bel w13 w14 _ (ofN us) HB14.out HO14.out).mono ?_
            rintro e w15 ⟨A15, m15, c15, rfl, _, hiff, hb⟩
            have hm15 : m15 = n10 := by
              have := hiff.2 (noTwinI_ofN.2 HU2.out)
              rw [length_ofN, HL10.out] at this
              exact this
            subst hm15
            have HBT := hid (below_step HBU.out (Nat.le_refl _) hb)
            clear hb hiff
            go_wp2
            go_ret
            exact ⟨rfl, HBT.out⟩
  case inr =>
    obtain ⟨tb1, tb2, tb3⟩ := there_back HP.out HTW.out
    have HV1 := hid tb1
    have HV2 := hid tb2
    have HV3 := hid tb3
    clear tb1 tb2 tb3
    generalize down (cO ns) 40 = os at *
    have HL2 : Hid (os.length = n2) := by rw [← length_ofN]; exact hI2.len
    have h240 : n2 ≤ 40 := by rw [← HL2.out]; exact part_lenN HV1.out
    have HI2 := hid hI2
    clear hI2
    go_wp2_with fail
    refine (unlike_any A2 n2 c2 os _ HI2.out HV1.out (HT4.out.keep HB5.out)).mono ?_
    rintro e w6 (⟨hno, _⟩ | ⟨_, A6, n6, c6, rfl, hb, hI6, _⟩)
    · exact absurd HV2.out hno
    · rw [HV3.out] at hI6
      have hn6 : n1 = n6 := by rw [← HL.out, ← length_ofN]; exact hI6.len
      subst hn6
      have HI6 := hid hI6
      have HI2b := hid (HI2.out.keep hb)
      have HB6 := hid (below_step HB5.out (Nat.le_refl _) hb)
      clear hI6 hb HI2 HB5
      go_wp2_with fail
      refine (equal_bel A6 _ c6 A1 _ c1 (ofN ns) (ofN ns) _ HI6.out (HIL.out.keep HB6.out) (by omega) (by omega)).mono ?_
      rintro e w7 ⟨rfl, hb⟩
      rw [show decide (ofN ns = ofN ns) = true by simp]
      have HI2c := hid (HI2b.out.keep hb)
      have HB7a := hid (below_step HB6.out (Nat.le_refl _) hb)
      clear hb HI2b HB6 HI6
      go_wp2_with fail
      refine (containsFunc_evG A2 n2 c2 os _ HI2c.out (by omega) (fun x hx => (part_mem HV1.out hx).2)).mono ?_
      rintro e w' ⟨rfl, rfl⟩
      rw [hasEven_false.2 HV2.out]
      obtain ⟨w88, hw88⟩ : ∃ w88, w88 = w7 := ⟨_, rfl⟩
      have HB88 := HB7a
      rw [← hw88] at HB88
      rw [← hw88]
      clear hw88 HB7a HI2c
      have HBX := hid (below_step HB4.out (Nat.le_refl _) HB88.out)
      have HTX := hid (HT4.out.keep HB88.out)
      have HIX := hid (HIL.out.keep HB88.out)
      clear HIL HT4 HB88 HTW
      obtain ⟨b0, hb0⟩ : ∃ b0, b0 = w88.heap.size := ⟨_, rfl⟩
      have HB0 := hid hb0
      clear hb0
      go_wp2_with fail
      go_loopg [10, 73] n1 (fun g v t wr => ∃ k : Nat, k ≤ n1 ∧ n1 - k ≤ g ∧ t = .int .i64 (k : Int) ∧ OwnInts wr w88.heap.size v (ofN ((ns.take k).map oddify)) ∧ Below w88.heap.size w88 wr)
      case atStart => exact ⟨0, Nat.zero_le _, by omega, rfl, OwnInts.nil _ _, Below.refl _ _⟩
      case round =>
        obtain ⟨k, hk, hg, rfl, hown, hbel⟩ := hrel
        have HO := hid hown
        have HB := hid hbel
        clear hown hbel
        by_cases hlt : k < n1
        · obtain ⟨b, o, hA, hb, hcell⟩ := HIX.out.row (by omega)
          have g1 : wr.cell? ⟨b, o + k, none⟩ = some (.int .i64 ((ns.getD k 0 : Nat) : Int)) := by
            rw [(HB.out.cell (p := ⟨b, o + k, none⟩) hb), hcell k hlt, getD_ofN]
          have hx := part_mem HP.out (getD_memN (m := ns) (k := k) (by rw [HL.out]; exact hlt))
          have HSN : Hid (ofN ((ns.take (k + 1)).map oddify) = ofN ((ns.take k).map oddify) ++ [((oddify (ns.getD k 0) : Nat) : Int)]) := by
            rw [take_snocN (by rw [HL.out]; exact hlt), List.map_append, ofN_append]
            exact rfl
          have HLE : Hid ((ofN ((ns.take k).map oddify)).length ≤ 1000000000000) := by
            rw [length_ofN, List.length_map, List.length_take]
            exact show min k ns.length ≤ 1000000000000 by omega
          subst hA
          clear hcell
          generalize ofN ((ns.take k).map oddify) = zs at *
          generalize ns.getD k 0 = x at *
          have HOX : Hid ((x : Int) - 1 + (x : Int) % 2 = ((oddify x : Nat) : Int)) := by
            have : oddify x = x - 1 + x % 2 := rfl
            exact show (x : Int) - 1 + (x : Int) % 2 = ((oddify x : Nat) : Int) by omega
          go_wp2_with (at_builtin; refine wpList_app1 _ rfl (.tmp 77) (.tmp 83) rfl w88.heap.size _ zs ((x : Int) - 1 + (x : Int) % 2) rfl rfl HO.out HLE.out HB.out.size ?_)
          intro v' w7 hown7 _ hbel7
          have HO7 := hid hown7
          have HB7 := hid (HB.out.trans hbel7)
          clear hown7 hbel7 HO HB
          go_wp2
          go_roundg (n1 - (k + 1))
          case measure => omega
          case rel => exact ⟨k + 1, by omega, by omega, by go_num, by rw [HSN.out, ← HOX.out]; exact HO7.out, HB7.out⟩
        · have hkn : n1 = k := by omega
          subst hkn
          have HTK : Hid (ns.take n1 = ns) := List.take_of_length_le (by rw [HL.out]; exact Nat.le_refl _)
          rw [HTK.out] at HO
          obtain ⟨ms, hms, hpm, hod, hlm⟩ := odd_sorted HP.out
          have HMS := hid hms
          have HPM := hid hpm
          have HOD := hid hod
          have HLM : Hid (ms.length = n1) := hlm.trans HL.out
          have HLZ : Hid ((ofN (ns.map oddify)).length = n1) := by rw [length_ofN, List.length_map]; exact HL.out
          clear hms hpm hod hlm
          generalize ofN (ns.map oddify) = zs at *
          go_wp2_with fail
          refine (sortL_any w88.heap.size _ zs _ HO.out (by rw [HLZ.out]; omega)).mono ?_
          rintro e w8 ⟨rfl, hown8, hgrow⟩
          have HB8 := hid (HB.out.grown hgrow HB.out.size (fun k hk => (World.ownsRow.lt HO.out k hk).1))
          have HO8 := hid hown8
          clear hown8 hgrow
          go_wp2_with fail
          refine (reverse_any w88.heap.size _ _ _ HO8.out (by rw [length_srt, HLZ.out]; omega)).mono ?_
          rintro e w9 ⟨rfl, hown9, hgrow⟩
          have HB9 := hid (HB8.out.grown hgrow HB8.out.size (fun k hk => (World.ownsRow.lt HO8.out k hk).1))
          rw [HMS.out] at hown9
          obtain ⟨A9, c9, hv9, hI9, _⟩ := hown9.ints
          rw [length_ofN, HLM.out] at hv9 hI9
          have HI9 := hid hI9
          have HT9 := hid (HTX.out.keep HB9.out)
          have HBY := hid (below_step HBX.out (Nat.le_refl _) HB9.out)
          subst hv9
          clear hown9 hgrow hI9 HO HO8 HB HB8 HB9 HTX HIX HBX
          obtain ⟨bt1, bt2, bt3⟩ := back_there HPM.out HOD.out
          have HU1 := hid bt1
          have HU2 := hid bt2
          have HU3 := hid bt3
          clear bt1 bt2 bt3
          go_wp2_with fail
          refine (unlike_any A9 n1 c9 ms _ HI9.out HPM.out HT9.out).mono ?_
          rintro e w10 (⟨hno, _⟩ | ⟨_, A10, n10, c10, rfl, hb, hI10, _⟩)
          · exact absurd HOD.out hno
          · generalize unl (fun d => ms.count d) 40 = us at *
            have HL10 : Hid (us.length = n10) := by rw [← length_ofN]; exact hI10.len
            have h1040 : n10 ≤ 40 := by rw [← HL10.out]; exact part_lenN HU1.out
            have HI10 := hid hI10
            have HI9b := hid (HI9.out.keep hb)
            have HT10 := hid (HT9.out.keep hb)
            have HBZ := hid (below_step HBY.out (Nat.le_refl _) hb)
            clear hI10 hb HI9 HT9 HBY
            go_wp2_with fail
            refine (odd_any A10 n10 c10 us _ HI10.out HU1.out HT10.out).mono ?_
            rintro e w11 (⟨hno, _⟩ | ⟨_, A11, n11, c11, rfl, hb, hI11, _⟩)
            · exact absurd HU2.out hno
            · rw [HU3.out] at hI11
              have hn11 : n11 = n1 := by rw [← HLM.out, ← length_ofN]; exact hI11.len.symm
              subst hn11
              have HI11 := hid hI11
              have HI9c := hid (HI9b.out.keep hb)
              have HI10b := hid (HI10.out.keep hb)
              have HBW := hid (below_step HBZ.out (Nat.le_refl _) hb)
              clear hI11 hb HI9b HI10 HT10 HBZ
              go_wp2_with fail
              refine (good_bel _ _ _ 2 [0, 0] rfl rfl (by omega)).mono ?_
              rintro e w12 ⟨rfl, hb⟩
              rw [show allOK [0, 0] = true by decide]
              have HI11b := hid (HI11.out.keep hb)
              have HI9d := hid (HI9c.out.keep hb)
              have HI10c := hid (HI10b.out.keep hb)
              have HBV := hid (below_step HBW.out (Nat.le_refl _) hb)
              clear hb HI11 HI9c HI10b HBW
              go_wp2_with fail
              refine (equal_bel A11 _ c11 A9 _ c9 (ofN ms) (ofN ms) _ HI11b.out HI9d.out (by omega) (by omega)).mono ?_
              rintro e w13 ⟨rfl, hb⟩
              rw [show decide (ofN ms = ofN ms) = true by simp]
              have HI10d := hid (HI10c.out.keep hb)
              have HBU := hid (below_step HBV.out (Nat.le_refl _) hb)
              clear hb HI11b HI9d HI10c HBV
              go_wp2_with fail
              refine (clone_bel A10 n10 c10 (ofN us) _ HI10d.out (by omega)).mono ?_
              rintro e w14 ⟨A14, c14, rfl, ho14, hb⟩
              have HB14 := hid hb
              have HO14 := hid ho14
              clear hb ho14
              go_wp2_with fail
              refine (compact_bel w13 w14 _ (ofN us) HB14.out HO14.out).mono ?_
              rintro e w15 ⟨A15, m15, c15, rfl, _, hiff, hb⟩
              have hm15 : m15 = n10 := by
                have := hiff.2 (noTwinI_ofN.2 HU2.out)
                rw [length_ofN, HL10.out] at this
                exact this
              subst hm15
              have HBT := hid (below_step HBU.out (Nat.le_refl _) hb)
              clear hb hiff
              go_wp2
              go_ret
              exact ⟨rfl, HBT.out⟩

end Go.Proofs.YteegddpoekphoaaDoor
