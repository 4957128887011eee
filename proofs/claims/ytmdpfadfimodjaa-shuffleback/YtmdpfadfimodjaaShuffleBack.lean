/-
  castkeep.ShuffleBack, walked.
-/
import Derived.Test.YtmdpfadfimodjaaShufC
import Derived.Test.YtmdpfadfimodjaaShufE
namespace Go.Proofs.Ytmdpfadfimodjaa
open Go.RowKit

set_option maxHeartbeats 1000000 in
set_option maxRecDepth 100000 in
theorem shuffleBack_any (A : Option Addr) (n c : Nat) (xs : List Int) (B : Option Addr) (m d : Nat) (ys : List Int) (w : World) (hx : Ints w A n xs) (hc : Cap n c) (hy : Ints w B m ys) (hd : Cap m d) :
    Calls Try.prog 4 #[.slice A n c, .slice B m d] w fun e w' => e = .returned (.bool true) ∧ Below w.heap.size w w' := by
  obtain ⟨k, hk⟩ : ∃ k, k = min n 10 := ⟨_, rfl⟩
  obtain ⟨j, hj⟩ : ∃ j, j = min m 10 := ⟨_, rfl⟩
  have hk10 : k ≤ 10 := by omega
  have hj10 : j ≤ 10 := by omega
  have HX := hid hx
  have HY := hid hy
  have HCX := hid hc
  have HCY := hid hd
  have hq : (j = m ∧ (m : Int) ≤ 10) ∨ (j < m ∧ (10 : Int) = j) := by omega
  have HQ := hid hq
  have HK := hid hk
  have EA := hid (lotsErr_lotsOf (xs := xs) hk10)
  have EQ := hid (permErr_dealt_lotsOf (xs := ys) hj10)
  have la : (lotsOf (xs.take k)).length ≤ 10 := by rw [length_lotsOf, List.length_take]; omega
  have lq : (dealt (lotsOf (ys.take j))).length ≤ 10 := by rw [length_dealt, length_lotsOf, List.length_take]; omega
  clear hx hy hc hd hq hk hj hk10
  go_enter Try.func4, Try.ntmps4
  go_wp2_with fail
  refine (deals_any _).mono ?_
  rintro e w1 ⟨rfl, hb⟩
  have HB1 := hid hb
  clear hb
  have HC1 : Hid (Calls Try.prog 19 #[.slice A n c, .int .i64 10] w1 (RetOwn w1 (lotsOf (xs.take k)))) := lotsOf_any A n c k xs w1 (HX.out.keep HB1.out) HCX.out HK.out
  generalize lotsOf (xs.take k) = a at *
  go_wp2_with fail
  refine HC1.out.mono ?_
  rintro e w2 ⟨v2, rfl, ho, hb⟩
  have HB2 := hid (below_step HB1.out (Nat.le_refl _) hb)
  obtain ⟨A2, c2, rfl, hI, -⟩ := ho.ints
  have HIA := hid hI
  clear ho hb hI HC1 HB1
  have HD2 := hid (shDeal_any A2 a.length c2 a w2 HIA.out)
  rw [EA.out] at HD2
  go_wp2_with fail
  refine HD2.out.mono ?_
  rintro e w3 ⟨v3, rfl, ho, hb⟩
  have HB3 := hid (below_step HB2.out (Nat.le_refl _) hb)
  have HIA3 := hid (HIA.out.keep hb)
  obtain ⟨A3, c3, rfl, hI, -⟩ := ho.ints
  have HIP := hid hI
  have EP := hid (permErr_dealX EA.out)
  have LP := hid (lotsX_dealX EA.out)
  have lp : (dealX a).length ≤ 10 := by rw [length_dealX EA.out]; exact la
  clear ho hb hI HD2 HB2 HIA
  generalize dealX a = p at *
  have HL3 := hid (shLots_any A3 p.length c3 p w3 HIP.out (by omega))
  rw [EP.out, LP.out] at HL3
  go_wp2_with fail
  refine HL3.out.mono ?_
  rintro e w4 ⟨v4, rfl, ho, hb⟩
  have HB4 := hid (below_step HB3.out (Nat.le_refl _) hb)
  have HIA4 := hid (HIA3.out.keep hb)
  obtain ⟨A4, c4, rfl, hI, -⟩ := ho.ints
  have HIB := hid hI
  clear ho hb hI HL3 HB3 HIA3 HIP EP LP
  have HPO : Hid (Calls Try.prog 20 #[.slice B m d, .int .i64 10] w4 (RetOwn w4 (dealt (lotsOf (ys.take j))))) := permOf_any B m d j ys w4 (HY.out.keep HB4.out) HCY.out.1 (by omega) 10 HQ.out
  generalize dealt (lotsOf (ys.take j)) = q at *
  go_wp2_with fail
  refine HPO.out.mono ?_
  rintro e w5 ⟨v5, rfl, ho, hb⟩
  have HB5 := hid (below_step HB4.out (Nat.le_refl _) hb)
  have HIA5 := hid (HIA4.out.keep hb)
  have HIB5 := hid (HIB.out.keep hb)
  obtain ⟨A5, c5, rfl, hI, -⟩ := ho.ints
  have HIQ := hid hI
  clear ho hb hI HPO HB4 HIA4 HIB
  have HL5 := hid (shLots_any A5 q.length c5 q w5 HIQ.out (by omega))
  rw [EQ.out] at HL5
  go_wp2_with fail
  refine HL5.out.mono ?_
  rintro e w6 ⟨v6, rfl, ho, hb⟩
  have HB6 := hid (below_step HB5.out (Nat.le_refl _) hb)
  have HIA6 := hid (HIA5.out.keep hb)
  have HIB6 := hid (HIB5.out.keep hb)
  have HIQ6 := hid (HIQ.out.keep hb)
  obtain ⟨A6, c6, rfl, hI, -⟩ := ho.ints
  have HIC := hid hI
  have EC := hid (lotsErr_lotsX EQ.out)
  have DC := hid (dealX_lotsX EQ.out)
  clear ho hb hI HL5 HB5 HIA5 HIB5 HIQ
  generalize lotsX q = r at *
  have HD6 := hid (shDeal_any A6 r.length c6 r w6 HIC.out)
  rw [EC.out, DC.out] at HD6
  go_wp2_with fail
  refine HD6.out.mono ?_
  rintro e w7 ⟨v7, rfl, ho, hb⟩
  have HB7 := hid (below_step HB6.out (Nat.le_refl _) hb)
  have HIA7 := hid (HIA6.out.keep hb)
  have HIB7 := hid (HIB6.out.keep hb)
  have HIQ7 := hid (HIQ6.out.keep hb)
  obtain ⟨A7, c7, rfl, hI, -⟩ := ho.ints
  have HIR := hid hI
  clear ho hb hI HD6 HB6 HIA6 HIB6 HIQ6 HIC EC DC
  have HG := hid (good_bel w7 #[.int .i64 0, .int .i64 0, .int .i64 0, .int .i64 0] 24 4 [0, 0, 0, 0] rfl rfl (by omega))
  rw [show allOK [0, 0, 0, 0] = true by decide] at HG
  go_wp2_with fail
  refine HG.out.mono ?_
  rintro e w8 ⟨rfl, hb⟩
  have HB8 := hid (below_step HB7.out (Nat.le_refl _) hb)
  have HIA8 := hid (HIA7.out.keep hb)
  have HIB8 := hid (HIB7.out.keep hb)
  have HIQ8 := hid (HIQ7.out.keep hb)
  have HIR8 := hid (HIR.out.keep hb)
  clear hb HG HB7 HIA7 HIB7 HIQ7 HIR
  have HE1 := hid (equal_bel A2 a.length c2 A4 a.length c4 a a w8 HIA8.out HIB8.out (by omega) (by omega))
  rw [decide_eq_true rfl] at HE1
  go_wp2_with fail
  refine HE1.out.mono ?_
  rintro e w9 ⟨rfl, hb⟩
  have HB9 := hid (below_step HB8.out (Nat.le_refl _) hb)
  have HE2 := hid (equal_bel A5 q.length c5 A7 q.length c7 q q w9 (HIQ8.out.keep hb) (HIR8.out.keep hb) (by omega) (by omega))
  rw [decide_eq_true rfl] at HE2
  clear hb HE1
  go_wp2_with fail
  refine HE2.out.mono ?_
  rintro e w10 ⟨rfl, hb⟩
  have HB10 := hid (below_step HB9.out (Nat.le_refl _) hb)
  clear hb
  go_wp2
  go_ret
  exact ⟨rfl, HB10.out⟩

end Go.Proofs.Ytmdpfadfimodjaa
