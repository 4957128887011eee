/-
  castkeep.NestsSegner, walked.
-/
import Derived.Test.YtmpipgpbmppbjaaNestD
namespace Go.Proofs.Ytmpipgpbmppbjaa
open Go.RowKit

def segF (n i : Nat) : Nat := bal i i * bal (n - i) (n - i)
theorem seg_le {n i : Nat} (hn : n < 15) (hi : i < 16) : sumN (segF n) i ≤ 200000000 :=
  (by decide +kernel : ∀ n : Fin 15, ∀ i : Fin 16, sumN (segF n.val) i.val ≤ 200000000) ⟨n, hn⟩ ⟨i, hi⟩
theorem seg_all {n : Nat} (hn : n < 15) : sumN (segF n) (n + 1) = bal (n + 1) (n + 1) ∧ (n + 2) * bal (n + 1) (n + 1) = (4 * n + 2) * bal n n :=
  (by decide +kernel : ∀ n : Fin 15, sumN (segF n.val) (n.val + 1) = bal (n.val + 1) (n.val + 1) ∧ (n.val + 2) * bal (n.val + 1) (n.val + 1) = (4 * n.val + 2) * bal n.val n.val) ⟨n, hn⟩

set_option maxHeartbeats 2000000 in
set_option maxRecDepth 100000 in
theorem nestsSegner_any (x : Int) (w : World) :
    Calls Try.prog 5 #[.int .i64 x] w fun e w' => e = .returned (.bool true) ∧ Below w.heap.size w w' := by
  go_enter Try.func5, Try.ntmps5
  go_wp2_with fail
  refine (nestsLive_any _).mono ?_
  rintro e w1 ⟨rfl, hb⟩
  have HB1 := hid hb
  clear hb
  go_wp2_with fail
  refine (within_any _ _ _ (by omega) (by omega)).mono ?_
  rintro e w' ⟨rfl, rfl⟩
  obtain ⟨n, hnx⟩ : ∃ n : Nat, x % 15 = n := ⟨(x % 15).toNat, by omega⟩
  have hn : n < 15 := by omega
  rw [hnx]
  clear hnx
  go_wp2_with fail
  refine (ncount_of _ (n + 1) (by go_num) _ (by omega)).mono ?_
  rintro e w2 ⟨rfl, hb⟩
  have HB2 := hid (below_step HB1.out (Nat.le_refl _) hb)
  clear hb HB1
  have HS := hid (seg_all hn)
  have HBA := hid (bal_le (o := n + 1) (c := n + 1) (by omega) (by omega))
  generalize hA : bal (n + 1) (n + 1) = A at *
  clear hA
  go_wp2
  go_loopg [5, 6, 7, 8, 9, 10, 25] (n + 1) (fun g sv _ _ _ _ _ iv wr => ∃ i : Nat, i ≤ n + 1 ∧ n + 1 - i ≤ g ∧ sv = .int .i64 ((sumN (segF n) i : Nat) : Int) ∧ iv = .int .i64 i ∧ Below w.heap.size w wr)
  case atStart => exact ⟨0, by omega, by omega, rfl, rfl, HB2.out⟩
  case round =>
    clear HB2
    obtain ⟨i, hi, hg, rfl, rfl, hbel⟩ := hrel
    have HB := hid hbel
    clear hbel
    by_cases hlt : i < n + 1
    · have hltI : (i : Int) < (n : Int) + 1 := by omega
      go_wp2_with fail
      refine (ncount_of _ i rfl _ (by omega)).mono ?_
      rintro e w3 ⟨rfl, hb⟩
      have HB3 := hid (below_step HB.out (Nat.le_refl _) hb)
      clear hb HB
      go_wp2_with fail
      refine (ncount_of _ (n - i) (by omega) _ (by omega)).mono ?_
      rintro e w4 ⟨rfl, hb⟩
      have HB4 := hid (below_step HB3.out (Nat.le_refl _) hb)
      clear hb HB3
      go_wp2_with fail
      refine (good_bel _ _ _ 2 [0, 0] rfl rfl (by omega)).mono ?_
      rintro e w5 ⟨rfl, hb⟩
      have HB5 := hid (below_step HB4.out (Nat.le_refl _) hb)
      clear hb HB4
      rw [show allOK [0, 0] = true by decide]
      have HN : Hid (sumN (segF n) (i + 1) = sumN (segF n) i + bal i i * bal (n - i) (n - i)) := rfl
      have b1 := seg_le hn (show i + 1 < 16 by omega)
      rw [HN.out] at b1
      have hm : ((bal i i : Nat) : Int) * ((bal (n - i) (n - i) : Nat) : Int) = ((bal i i * bal (n - i) (n - i) : Nat) : Int) := by rw [Int.natCast_mul]
      have m1 : 0 ≤ ((bal i i : Nat) : Int) * ((bal (n - i) (n - i) : Nat) : Int) := by rw [hm]; omega
      have m2 : ((bal i i : Nat) : Int) * ((bal (n - i) (n - i) : Nat) : Int) ≤ 200000000 := by rw [hm]; omega
      have HM := hid hm
      clear hm
      generalize hP : bal i i * bal (n - i) (n - i) = P at *
      clear hP
      generalize bal i i = y1 at *
      generalize bal (n - i) (n - i) = y2 at *
      generalize sumN (segF n) i = z at *
      go_wp2
      go_roundg (n + 1 - (i + 1))
      case measure => omega
      case rel => exact ⟨i + 1, by omega, by omega, by rw [HN.out, HM.out]; go_num, by go_num, HB5.out⟩
    · have hin : i = n + 1 := by omega
      subst hin
      have hge : ¬ ((n : Int) + 1 < (n : Int) + 1) := by omega
      go_wp2_with fail
      refine (ncount_of _ n rfl _ (by omega)).mono ?_
      rintro e w3 ⟨rfl, hb⟩
      have HB3 := hid (below_step HB.out (Nat.le_refl _) hb)
      clear hb HB
      go_wp2_with fail
      refine (good_bel _ _ _ 2 [0, 0] rfl rfl (by omega)).mono ?_
      rintro e w5 ⟨rfl, hb⟩
      have HB5 := hid (below_step HB3.out (Nat.le_refl _) hb)
      clear hb HB3
      rw [show allOK [0, 0] = true by decide]
      have h1 : ((n : Int) + 2) * (A : Int) = (4 * (n : Int) + 2) * ((bal n n : Nat) : Int) := by
        have := congrArg (Nat.cast (R := Int)) HS.out.2
        simpa using this
      rw [HS.out.1]
      have b1 := bal_le (o := n) (c := n) (by omega) (by omega)
      have hb2 : A ≤ 9694845 := HBA.out
      have m1 : 0 ≤ ((n : Int) + 2) * (A : Int) := Int.mul_nonneg (by omega) (by omega)
      have m2 : ((n : Int) + 2) * (A : Int) ≤ 17 * 9694845 := Int.mul_le_mul (by omega) (by omega) (by omega) (by omega)
      generalize hl : ((n : Int) + 2) * (A : Int) = L at *
      generalize hr : (4 * (n : Int) + 2) * ((bal n n : Nat) : Int) = R at *
      go_wp2
      go_ret
      exact ⟨rfl, HB5.out⟩
end Go.Proofs.Ytmpipgpbmppbjaa
