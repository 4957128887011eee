/-
  castkeep.NestsBack, walked.
-/
import Derived.Test.YtmpipgpbmppbjaaNestC
import Derived.Test.YtmpipgpbmppbjaaNestD
namespace Go.Proofs.Ytmpipgpbmppbjaa
open Go.RowKit

theorem nun_less : ∀ (f o c k1 k2 : Nat), f = o + c → o ≤ c → c < 16 → k1 < bal o c → k2 < bal o c → Op.bytesLess (nun f o c k1) (nun f o c k2) = decide (k1 < k2)
  | 0, o, c, k1, k2, hf, ho, hc, h1, h2 => by
    have : o = 0 := by omega
    subst this
    have : c = 0 := by omega
    subst this
    rw [bal_zero hc] at h1 h2
    rw [nun, nun, show Op.bytesLess [] [] = false from rfl]
    symm
    exact decide_eq_false (by omega)
  | f + 1, o, c, k1, k2, hf, ho, hc, h1, h2 => by
    rw [nun, nun]
    by_cases e1 : k1 < balOp o c
    · rw [if_pos e1]
      obtain ⟨p1, q1⟩ := balOp_pos e1
      by_cases e2 : k2 < balOp o c
      · rw [if_pos e2]
        obtain ⟨p2, q2⟩ := balOp_pos e2
        rw [Op.bytesLess, nun_less f (o - 1) c k1 k2 (by omega) (by omega) hc q1 q2]
        simp
      · rw [if_neg e2, Op.bytesLess]
        have : k1 < k2 := by omega
        simp [this]
    · rw [if_neg e1]
      obtain ⟨p1, q1⟩ := nun_rest hc (by omega) ho h1 e1
      by_cases e2 : k2 < balOp o c
      · rw [if_pos e2, Op.bytesLess]
        have : ¬ k1 < k2 := by omega
        simp [this]
      · rw [if_neg e2]
        obtain ⟨p2, q2⟩ := nun_rest hc (by omega) ho h2 e2
        rw [Op.bytesLess, nun_less f o (c - 1) (k1 - balOp o c) (k2 - balOp o c) (by omega) q1 (by omega) p1 p2]
        have : (k1 - balOp o c < k2 - balOp o c) ↔ k1 < k2 := by omega
        simp [this]
theorem nun_size (f o c k : Nat) : (ByteArray.mk (nun f o c k).toArray).size = f := by
  have := nun_len f o c k
  simpa [ByteArray.size] using this
theorem nun_data (f o c k : Nat) : (ByteArray.mk (nun f o c k).toArray).data.toList = nun f o c k := rfl

set_option maxHeartbeats 2000000 in
set_option maxRecDepth 100000 in
theorem nestsBack_any (x y z : Int) (w : World) :
    Calls Try.prog 4 #[.int .i64 x, .int .i64 y, .int .i64 z] w fun e w' => e = .returned (.bool true) ∧ Below w.heap.size w w' := by
  go_enter Try.func4, Try.ntmps4
  go_wp2_with fail
  refine (nestsLive_any _).mono ?_
  rintro e w1 ⟨rfl, hb⟩
  have HB1 := hid hb
  clear hb
  go_wp2_with fail
  refine (within_any _ _ _ (by omega) (by omega)).mono ?_
  rintro e w' ⟨rfl, rfl⟩
  obtain ⟨n, hnx⟩ : ∃ n : Nat, x % 16 = n := ⟨(x % 16).toNat, by omega⟩
  have hn : n ≤ 15 := by omega
  rw [hnx]
  clear hnx
  go_wp2_with fail
  refine (ncount_of _ n rfl _ hn).mono ?_
  rintro e w2 ⟨rfl, hb⟩
  have HB2 := hid (below_step HB1.out (Nat.le_refl _) hb)
  clear hb HB1
  have hpos := bal_pos (o := n) (c := n) (by omega) (Nat.le_refl _)
  have hle := bal_le (o := n) (c := n) (by omega) (by omega)
  have hd1 : decide (((bal n n : Nat) : Int) < 1) = false := decide_eq_false (by omega)
  generalize hm : bal n n = m at *
  have HM := hid hm
  clear hm
  go_wp2_with fail
  refine (within_any _ _ _ (by omega) (by omega)).mono ?_
  rintro e w' ⟨rfl, rfl⟩
  go_wp2_with fail
  refine (within_any _ _ _ (by omega) (by omega)).mono ?_
  rintro e w' ⟨rfl, rfl⟩
  obtain ⟨i, hix⟩ : ∃ i : Nat, y % (m : Int) = i := ⟨(y % (m : Int)).toNat, by have := Int.emod_nonneg y (show (m : Int) ≠ 0 by omega); omega⟩
  obtain ⟨k, hkx⟩ : ∃ k : Nat, z % (m : Int) = k := ⟨(z % (m : Int)).toNat, by have := Int.emod_nonneg z (show (m : Int) ≠ 0 by omega); omega⟩
  have hi : i < bal n n := by have := Int.emod_lt_of_pos y (show (0 : Int) < m by omega); rw [HM.out]; omega
  have hk : k < bal n n := by have := Int.emod_lt_of_pos z (show (0 : Int) < m by omega); rw [HM.out]; omega
  rw [hix, hkx]
  have HL := hid (nun_less (n + n) n n i k rfl (Nat.le_refl _) (by omega) hi hk)
  have HE1 := hid (nun_nest (by omega) hi)
  have HE2 := hid (nun_nest (by omega) hk)
  have HI := hid hi
  have HK := hid hk
  clear hix hkx hi hk
  go_wp2_with fail
  refine (nat_of _ _ n i rfl rfl _ hn HI.out).mono ?_
  rintro e w3 ⟨rfl, hb⟩
  have HB3 := hid (below_step HB2.out (Nat.le_refl _) hb)
  clear hb HB2
  go_wp2_with fail
  refine (nat_of _ _ n k rfl rfl _ hn HK.out).mono ?_
  rintro e w4 ⟨rfl, hb⟩
  have HB4 := hid (below_step HB3.out (Nat.le_refl _) hb)
  clear hb HB3
  have HZ1 := hid (nun_size (n + n) n n i)
  have HZ2 := hid (nun_size (n + n) n n k)
  have HD1 : Hid ((ByteArray.mk (nun (n + n) n n i).toArray).toList = nun (n + n) n n i) := ByteArray.toList_mk _
  have HD2 : Hid ((ByteArray.mk (nun (n + n) n n k).toArray).toList = nun (n + n) n n k) := ByteArray.toList_mk _
  have HF1 : Hid ((ByteArray.mk (nun (n + n) n n i).toArray).data.toList = nun (n + n) n n i) := rfl
  have HF2 : Hid ((ByteArray.mk (nun (n + n) n n k).toArray).data.toList = nun (n + n) n n k) := rfl
  generalize ByteArray.mk (nun (n + n) n n i).toArray = s at *
  generalize ByteArray.mk (nun (n + n) n n k).toArray = t at *
  go_wp2_with fail
  refine (nof_ok s n _ HZ1.out hn (by rw [HF1.out]; exact HE1.out.1)).mono ?_
  rintro e w5 ⟨rfl, hb⟩
  have HB5 := hid (below_step HB4.out (Nat.le_refl _) hb)
  clear hb HB4
  rw [HF1.out, HE1.out.2]
  go_wp2_with fail
  refine (nof_ok t n _ HZ2.out hn (by rw [HF2.out]; exact HE2.out.1)).mono ?_
  rintro e w6 ⟨rfl, hb⟩
  have HB6 := hid (below_step HB5.out (Nat.le_refl _) hb)
  clear hb HB5
  rw [HF2.out, HE2.out.2]
  go_wp2_with fail
  refine (good_bel _ _ _ 4 [0, 0, 0, 0] rfl rfl (by omega)).mono ?_
  rintro e w7 ⟨rfl, hb⟩
  have HB7 := hid (below_step HB6.out (Nat.le_refl _) hb)
  clear hb HB6
  rw [show allOK [0, 0, 0, 0] = true by decide]
  have hless : Op.bytesLess s.toList t.toList = decide (i < k) := by rw [HD1.out, HD2.out]; exact HL.out
  go_wp2_with fail
  refine (nchk_any s _ (by rw [HZ1.out]; unfold maxLen; omega)).mono ?_
  rintro e w' ⟨rfl, rfl⟩
  rw [HF1.out, HE1.out.1]
  have hsz : s.size = n + n := HZ1.out
  have hsb : ((s.size : Int) == 2 * (n : Int)) = true := by rw [hsz]; simp; omega
  clear hsz
  go_wp2
  go_ret
  exact ⟨rfl, HB7.out⟩
end Go.Proofs.Ytmpipgpbmppbjaa
