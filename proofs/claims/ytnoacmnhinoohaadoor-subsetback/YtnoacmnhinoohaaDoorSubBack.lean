/-
  Proved: castkeep.SubsetBack returns true whatever its arguments.
-/
import Derived.Test.YtnoacmnhinoohaaDoorSubD
import Derived.Test.YtnoacmnhinoohaaDoorAll
namespace Go.Proofs.YtnoacmnhinoohaaDoor
open Go.RowKit

set_option maxHeartbeats 2000000 in
set_option maxRecDepth 100000 in
theorem subsetBack_no (s : Nat) (k at_ : Int) (w : World) (ht : Tab w) (hs : s < 65536) (hno : ¬ (0 ≤ k ∧ k ≤ 16 ∧ 0 ≤ at_ ∧ at_ < ((cho 16 k.toNat : Nat) : Int))) :
    Calls Tryd.prog 4 #[.int .u16 (s : Int), .int .i64 k, .int .i64 at_] w fun e w' => e = .returned (.bool true) ∧ Below w.heap.size w w' := by
  have HB0 := hid (Below.refl w.heap.size w)
  have HA0 : Hid (All w []) := trivial
  have HT0 := hid ht
  clear ht
  have HS := hid (show s < 2 ^ 16 from hs)
  have HU := hid (unr_srk HS.out)
  have HR := hid (srk_lt HS.out)
  have HL := hid (ones_le HS.out)
  have HNO := hid hno
  clear hno
  go_enter Tryd.func4, Tryd.ntmps4
  go_wp2_with fail
  refine (subsets_any _ HT0.out).mono ?_
  rintro e w' ⟨rfl, rfl⟩
  go_wp2_with fail
  refine (size_any s _ hs).mono ?_
  rintro e w1 ⟨rfl, hb⟩
  have HB1 := hid (below_step HB0.out (Nat.le_refl _) hb)
  have HA1 : Hid (All w1 []) := HA0.out.keep hb
  clear HA0 HB0
  have HT1 := hid (HT0.out.keep hb)
  clear HT0
  clear hb
  go_wp2_with fail
  refine (subOf_any s _ HT1.out hs).mono ?_
  rintro e w' ⟨rfl, rfl⟩
  go_wp2_with fail
  refine (subAt_ok (ones s) (srk s) _ HL.out HR.out).mono ?_
  rintro e w' ⟨rfl, rfl⟩
  rw [HU.out]
  go_wp2_with fail
  refine (subAt_no k at_ _ HNO.out).mono ?_
  rintro e w' ⟨rfl, rfl⟩
  go_wp2
  go_ret
  exact ⟨rfl, HB1.out⟩

set_option maxHeartbeats 2000000 in
set_option maxRecDepth 100000 in
theorem subsetBack_ok (s k at_ : Nat) (w : World) (ht : Tab w) (hs : s < 65536) (hk : k ≤ 16) (hat : at_ < cho 16 k) :
    Calls Tryd.prog 4 #[.int .u16 (s : Int), .int .i64 (k : Int), .int .i64 (at_ : Int)] w fun e w' => e = .returned (.bool true) ∧ Below w.heap.size w w' := by
  have HB0 := hid (Below.refl w.heap.size w)
  have HA0 : Hid (All w []) := trivial
  have HT0 := hid ht
  clear ht
  have HS := hid (show s < 2 ^ 16 from hs)
  have HU := hid (unr_srk HS.out)
  have HR := hid (srk_lt HS.out)
  have HL := hid (ones_le HS.out)
  have HAT := hid hat
  clear hat
  go_enter Tryd.func4, Tryd.ntmps4
  go_wp2_with fail
  refine (subsets_any _ HT0.out).mono ?_
  rintro e w' ⟨rfl, rfl⟩
  go_wp2_with fail
  refine (size_any s _ hs).mono ?_
  rintro e w1 ⟨rfl, hb⟩
  have HB1 := hid (below_step HB0.out (Nat.le_refl _) hb)
  have HA1 : Hid (All w1 []) := HA0.out.keep hb
  clear HA0 HB0
  have HT1 := hid (HT0.out.keep hb)
  clear HT0
  clear hb
  go_wp2_with fail
  refine (subOf_any s _ HT1.out hs).mono ?_
  rintro e w' ⟨rfl, rfl⟩
  go_wp2_with fail
  refine (subAt_ok (ones s) (srk s) _ HL.out HR.out).mono ?_
  rintro e w' ⟨rfl, rfl⟩
  rw [HU.out]
  go_wp2_with fail
  refine (subAt_ok k at_ _ hk HAT.out).mono ?_
  rintro e w' ⟨rfl, rfl⟩
  obtain ⟨u1, u2, u3⟩ := unr_ok HAT.out
  have HU2 := hid u2
  have HU3 := hid u3
  have u4 : unr 16 k at_ < 65536 := u1
  clear u1 u2 u3
  generalize unr 16 k at_ = t at *
  go_wp2_with fail
  refine (size_any t _ u4).mono ?_
  rintro e w2 ⟨rfl, hb⟩
  have HB2 := hid (below_step HB1.out (Nat.le_refl _) hb)
  have HA2 : Hid (All w2 []) := HA1.out.keep hb
  clear HA1 HB1
  have HT2 := hid (HT1.out.keep hb)
  clear HT1
  clear hb
  rw [HU2.out]
  go_wp2_with fail
  refine (subOf_any t _ HT2.out u4).mono ?_
  rintro e w' ⟨rfl, rfl⟩
  rw [HU3.out]
  go_wp2
  go_ret
  exact ⟨rfl, HB2.out⟩

theorem subsetBack_any (s : Nat) (k at_ : Int) (w : World) (ht : Tab w) (hs : s < 65536) :
    Calls Tryd.prog 4 #[.int .u16 (s : Int), .int .i64 k, .int .i64 at_] w fun e w' => e = .returned (.bool true) ∧ Below w.heap.size w w' := by
  by_cases h : 0 ≤ k ∧ k ≤ 16 ∧ 0 ≤ at_ ∧ at_ < ((cho 16 k.toNat : Nat) : Int)
  · obtain ⟨K, rfl⟩ := Int.eq_ofNat_of_zero_le h.1
    obtain ⟨A, rfl⟩ := Int.eq_ofNat_of_zero_le h.2.2.1
    rw [Int.toNat_natCast] at h
    exact subsetBack_ok s K A w ht hs (by omega) (by omega)
  · exact subsetBack_no s k at_ w ht hs h

end Go.Proofs.YtnoacmnhinoohaaDoor
