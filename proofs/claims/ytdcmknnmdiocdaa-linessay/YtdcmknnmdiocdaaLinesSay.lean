/-
  castlaw.LinesSay, walked.
-/
import Derived.Test.YtdcmknnmdiocdaaLinG
import Derived.Test.YtdcmknnmdiocdaaLinH
import Derived.Test.YtdcmknnmdiocdaaAlk
namespace Go.Proofs.Ytdcmknnmdiocdaa
open Go.RowKit

set_option maxHeartbeats 4000000 in
set_option maxRecDepth 100000 in
theorem linesSay_any (A : Option Addr) (n c : Nat) (xs : List Int) (w : World) (h : Ints w A n xs) (hm : n ≤ 9223372036854775807) :
    Calls Try.prog 3 #[.slice A n c] w fun e w' => e = .returned (.bool true) ∧ Below w.heap.size w w' := by
  have HI := hid h
  clear h
  go_enter Try.func3, Try.ntmps3
  by_cases hn : n ≤ 30
  · have hd : decide (30 < (n : Int)) = false := by simp; omega
    go_wp2_with fail
    refine (up_ok A n c xs _ HI.out hn).mono ?_
    rintro e w1 ⟨A1, u, c1, y1, rfl, hb, hi, _, hg⟩
    have HB1 := hid hb
    have HI1 := hid (HI.out.keep hb)
    have HU1 := hid hi
    have HG1 := hid hg
    clear hb hi hg HI
    go_wp2_with fail
    refine (down_ok A n c xs _ HI1.out hn).mono ?_
    rintro e w2 ⟨A2, d, c2, y2, rfl, hb, hi, _, hg⟩
    have HB2 := hid (below_step HB1.out (Nat.le_refl _) hb)
    have HI2 := hid (HI1.out.keep hb)
    have HU2 := hid (HU1.out.keep hb)
    have HD2 := hid hi
    have HG2 := hid hg
    clear hb hi hg HB1 HI1 HU1
    go_wp2_with fail
    refine (lsplit_ok A n c xs _ HI2.out hn).mono ?_
    rintro e w3 ⟨A3, n3, c3, rfl, hb, hi, _⟩
    have HB3 := hid (below_step HB2.out (Nat.le_refl _) hb)
    have HI3 := hid (HI2.out.keep hb)
    have HU3 := hid (HU2.out.keep hb)
    have HD3 := hid (HD2.out.keep hb)
    have HS3 := hid hi
    have hn3 : n3 ≤ 1000000 := by
      rw [← hi.len, length_pilesI, HI2.out.len]
      omega
    clear hb hi HB2 HI2 HU2 HD2
    go_wp2_with fail
    refine (lcheck_ok A n c _ hn).mono ?_
    rintro e w4 ⟨rfl, rfl⟩
    go_wp2_with fail
    refine (placed_up A n c A1 u c1 xs y1 _ HI3.out HU3.out hn HG1.out).mono ?_
    rintro e w5 ⟨rfl, hb⟩
    have HB5 := hid (below_step HB3.out (Nat.le_refl _) hb)
    have HI5 := hid (HI3.out.keep hb)
    have HD5 := hid (HD3.out.keep hb)
    have HS5 := hid (HS3.out.keep hb)
    clear hb HB3 HI3 HD3 HS3 HU3 HG1
    go_wp2_with fail
    refine (placed_down A n c A2 d c2 xs y2 _ HI5.out HD5.out hn HG2.out).mono ?_
    rintro e w6 ⟨rfl, hb⟩
    have HB6 := hid (below_step HB5.out (Nat.le_refl _) hb)
    have HI6 := hid (HI5.out.keep hb)
    have HS6 := hid (HS5.out.keep hb)
    clear hb HB5 HI5 HD5 HS5 HG2
    go_wp2_with fail
    refine (heapsBy_any A n c xs _ HI6.out hn).mono ?_
    rintro e w7 ⟨v, rfl, ho, hb⟩
    obtain ⟨A7, c7, hv, hi7, _⟩ := ho.ints
    rw [length_pilesI, HI6.out.len] at hv hi7
    subst hv
    have HB7 := hid (below_step HB6.out (Nat.le_refl _) hb)
    have HS7 := hid (HS6.out.keep hb)
    have HH7 := hid hi7
    clear ho hb hi7 HB6 HI6 HS6
    go_wp2_with fail
    refine (alike_bel A3 n3 c3 A7 n c7 (pilesI xs) (pilesI xs) _ HS7.out HH7.out hn3 (by omega)).mono ?_
    rintro e w8 ⟨rfl, hb⟩
    rw [show decide (pilesI xs = pilesI xs) = true by simp]
    have HB8 := hid (below_step HB7.out (Nat.le_refl _) hb)
    clear hb HB7 HS7 HH7
    go_wp2
    go_ret
    exact ⟨rfl, HB8.out⟩
  · have hd : decide (30 < (n : Int)) = true := by simp; omega
    have hdn : 30 < n := by omega
    go_wp2_with fail
    refine (up_large A n c _ hdn hm).mono ?_
    rintro e w1 ⟨rfl, hb⟩
    have HB1 := hid hb
    clear hb HI
    go_wp2_with fail
    refine (down_large A n c _ hdn hm).mono ?_
    rintro e w2 ⟨rfl, hb⟩
    have HB2 := hid (below_step HB1.out (Nat.le_refl _) hb)
    clear hb HB1
    go_wp2_with fail
    refine (lsplit_large A n c _ hdn hm).mono ?_
    rintro e w3 ⟨rfl, rfl⟩
    go_wp2_with fail
    refine (lcheck_large A n c _ hdn hm).mono ?_
    rintro e w4 ⟨rfl, rfl⟩
    go_wp2
    go_ret
    exact ⟨rfl, HB2.out⟩

end Go.Proofs.Ytdcmknnmdiocdaa
