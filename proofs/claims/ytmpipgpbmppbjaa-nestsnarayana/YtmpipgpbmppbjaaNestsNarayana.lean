/-
  castkeep.NestsNarayana, walked.
-/
import Derived.Test.YtmpipgpbmppbjaaNestD
import Derived.Test.YtmpipgpbmppbjaaNestF
import Derived.Test.YtmpipgpbmppbjaaNestG
import Derived.Test.YtmpipgpbmppbjaaSubA
namespace Go.Proofs.Ytmpipgpbmppbjaa
open Go.RowKit

theorem cell_lt {w : World} {g : Nat} {v : Value} (h : w.cell? ⟨g, 0, none⟩ = some v) : g < w.heap.size := World.block_lt_of_cell? w ⟨g, 0, none⟩ h
theorem cell_kept {w w' : World} {g : Nat} {v : Value} (h : w.cell? ⟨g, 0, none⟩ = some v) (hb : Below w.heap.size w w') : w'.cell? ⟨g, 0, none⟩ = some v := (hb.cell (p := ⟨g, 0, none⟩) (cell_lt h)).trans h
theorem nunn_size (f o c k : Nat) : (ByteArray.mk (nun f o c k).toArray).size = f := by
  have := nun_len f o c k
  simpa [ByteArray.size] using this

set_option maxHeartbeats 2000000 in
set_option maxRecDepth 100000 in
theorem nestsNarayana_any (x z : Int) (w : World) (hmx : ∃ m, w.cell? ⟨laysn138_ren.g 1, 0, none⟩ = some (.int .i64 m)) :
    Calls Try.prog 8 #[.int .i64 x, .int .i64 z] w fun e w' => e = .returned (.bool true) ∧ Below w.heap.size w w' := by
  obtain ⟨mx, hmx⟩ := hmx
  have HMX := hid hmx
  clear hmx
  go_enter Try.func8, Try.ntmps8
  go_wp2_with fail
  refine (nestsLive_any _).mono ?_
  rintro e w1 ⟨rfl, hb⟩
  have HB1 := hid hb
  clear hb
  go_wp2_with fail
  refine (within_any _ _ _ (by omega) (by omega)).mono ?_
  rintro e w' ⟨rfl, rfl⟩
  obtain ⟨n0, hnx⟩ : ∃ n : Nat, x % 6 = n := ⟨(x % 6).toNat, by omega⟩
  have hn0 : n0 < 6 := by omega
  rw [hnx]
  clear hnx
  go_wp2_with fail
  refine (within_any _ (1 + (n0 : Int)) _ (by omega) (by omega)).mono ?_
  rintro e w' ⟨rfl, rfl⟩
  obtain ⟨k0, hkx⟩ : ∃ k : Nat, z % (1 + (n0 : Int)) = k := ⟨(z % (1 + (n0 : Int))).toNat, by have := Int.emod_nonneg z (show 1 + (n0 : Int) ≠ 0 by omega); omega⟩
  have hk0 : k0 ≤ n0 := by have := Int.emod_lt_of_pos z (show (0 : Int) < 1 + (n0 : Int) by omega); omega
  rw [hkx]
  clear hkx
  go_wp2_with fail
  refine (ncount_of _ (1 + n0) (by omega) _ (by omega)).mono ?_
  rintro e w2 ⟨rfl, hb⟩
  have HB2 := hid (below_step HB1.out (Nat.le_refl _) hb)
  clear hb HB1
  go_wp2_with fail
  refine (chooseF_of _ _ (1 + n0) (1 + k0) (by omega) (by omega) _ (by omega) (by omega)).mono ?_
  rintro e w' ⟨rfl, rfl⟩
  go_wp2_with fail
  refine (chooseF_of _ _ (1 + n0) k0 (by omega) (by omega) _ (by omega) (by omega)).mono ?_
  rintro e w' ⟨rfl, rfl⟩
  go_wp2_with fail
  refine (good_bel _ _ _ 3 [0, 0, 0] rfl rfl (by omega)).mono ?_
  rintro e w3 ⟨rfl, hb⟩
  have HB3 := hid (below_step HB2.out (Nat.le_refl _) hb)
  clear hb HB2
  rw [show allOK [0, 0, 0] = true by decide]
  have HN := hid (narayana (n := 1 + n0) (k := 1 + k0) (by omega) (by omega) (by omega))
  have hbl := bal_small (n := 1 + n0) (by omega)
  have hc1 := cho_16 (n := 1 + n0) (k := 1 + k0) (by omega)
  have hc2 := cho_16 (n := 1 + n0) (k := k0) (by omega)
  have HK : Hid (1 + k0 - 1 = k0) := by show 1 + k0 - 1 = k0; omega
  rw [HK.out] at HN
  generalize hB : bal (1 + n0) (1 + n0) = B at *
  have HBB := hid hB
  clear hB
  generalize cho (1 + n0) (1 + k0) = C at *
  generalize cho (1 + n0) k0 = D at *
  go_wp2
  go_loopg [11, 12, 13, 14, 49] B (fun g sv _ _ _ iv wr => ∃ i : Nat, i ≤ B ∧ B - i ≤ g ∧ sv = .int .i64 ((sumN (narF (1 + n0) (1 + k0)) i : Nat) : Int) ∧ iv = .int .i64 i ∧ Below w.heap.size w wr)
  case atStart => exact ⟨0, by omega, by omega, rfl, rfl, HB3.out⟩
  case round =>
    clear HB3
    obtain ⟨i, hi, hg, rfl, rfl, hbel⟩ := hrel
    have HB := hid hbel
    clear hbel
    have hle := narF_le (1 + n0) (1 + k0) i
    by_cases hlt : i < B
    · go_wp2_with fail
      refine (nat_of _ _ (1 + n0) i (by omega) rfl _ (by omega) (by rw [HBB.out]; exact hlt)).mono ?_
      rintro e w4 ⟨rfl, hb⟩
      have HB4 := hid (below_step HB.out (Nat.le_refl _) hb)
      clear hb HB
      have HZ := hid (nunn_size (1 + n0 + (1 + n0)) (1 + n0) (1 + n0) i)
      have HF : Hid (Lib.countB (ByteArray.mk (nun (1 + n0 + (1 + n0)) (1 + n0) (1 + n0) i).toArray) ⟨#[40, 41]⟩ = Lib.count (nun (1 + n0 + (1 + n0)) (1 + n0) (1 + n0) i) [40, 41]) := rfl
      have HS : Hid (sumN (narF (1 + n0) (1 + k0)) (i + 1) = sumN (narF (1 + n0) (1 + k0)) i + narF (1 + n0) (1 + k0) i) := rfl
      generalize ByteArray.mk (nun (1 + n0 + (1 + n0)) (1 + n0) (1 + n0) i).toArray = s at *
      go_wp2_with fail
      refine (strCount_two s _ mx (by rw [HZ.out]; omega) (cell_kept HMX.out HB4.out)).mono ?_
      rintro e w' ⟨rfl, rfl⟩
      rw [HF.out]
      by_cases hq : Lib.count (nun (1 + n0 + (1 + n0)) (1 + n0) (1 + n0) i) [40, 41] = 1 + k0
      · have HV : Hid (narF (1 + n0) (1 + k0) i = 1) := if_pos hq
        have hqb : (((Lib.count (nun (1 + n0 + (1 + n0)) (1 + n0) (1 + n0) i) [40, 41] : Nat) : Int) == 1 + (k0 : Int)) = true := by rw [hq]; simp
        generalize Lib.count (nun (1 + n0 + (1 + n0)) (1 + n0) (1 + n0) i) [40, 41] = q at *
        clear hq
        generalize sumN (narF (1 + n0) (1 + k0)) i = y at *
        go_wp2
        go_roundg (B - (i + 1))
        case measure => omega
        case rel => exact ⟨i + 1, by omega, by omega, by rw [HS.out, HV.out]; go_num, by go_num, HB4.out⟩
      · have HV : Hid (narF (1 + n0) (1 + k0) i = 0) := if_neg hq
        have hqb : (((Lib.count (nun (1 + n0 + (1 + n0)) (1 + n0) (1 + n0) i) [40, 41] : Nat) : Int) == 1 + (k0 : Int)) = false := by simp; omega
        generalize Lib.count (nun (1 + n0 + (1 + n0)) (1 + n0) (1 + n0) i) [40, 41] = q at *
        clear hq
        generalize sumN (narF (1 + n0) (1 + k0)) i = y at *
        go_wp2
        go_roundg (B - (i + 1))
        case measure => omega
        case rel => exact ⟨i + 1, by omega, by omega, by rw [HS.out, HV.out]; go_num, by go_num, HB4.out⟩
    · have hiB : i = B := by omega
      subst hiB
      have h1 : ((sumN (narF (1 + n0) (1 + k0)) i : Nat) : Int) * (1 + (n0 : Int)) = (C : Int) * (D : Int) := by
        have := congrArg (Nat.cast (R := Int)) HN.out
        rw [Int.natCast_mul, Int.natCast_mul, Int.natCast_add] at this
        exact this
      generalize sumN (narF (1 + n0) (1 + k0)) i = y at *
      have m1 : 0 ≤ (y : Int) * (1 + (n0 : Int)) := Int.mul_nonneg (by omega) (by omega)
      have m2 : (y : Int) * (1 + (n0 : Int)) ≤ 132 * 7 := Int.mul_le_mul (by omega) (by omega) (by omega) (by omega)
      generalize hl : (y : Int) * (1 + (n0 : Int)) = L at *
      generalize hr : (C : Int) * (D : Int) = R at *
      go_wp2
      go_ret
      exact ⟨rfl, HB.out⟩
end Go.Proofs.Ytmpipgpbmppbjaa
