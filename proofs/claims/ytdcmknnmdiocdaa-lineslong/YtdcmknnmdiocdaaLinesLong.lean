/-
  castkeep.LinesLong, walked.
-/
import Derived.Test.YtdcmknnmdiocdaaLinV
namespace Go.Proofs.Ytdcmknnmdiocdaa
open Go.RowKit

set_option maxHeartbeats 1000000 in
theorem linesLong_any (A : Option Addr) (n c : Nat) (xs : List Int) (w : World) (h : Ints w A n xs) (hm : n ≤ 9223372036854775807) :
    Calls Try.prog 5 #[.slice A n c] w fun e w' => e = .returned (.bool true) ∧ Below w.heap.size w w' := by
  have HI := hid h
  clear h
  go_enter Try.func5, Try.ntmps5
  go_wp2_with fail
  refine (linesLive_any _).mono ?_
  rintro e w1 ⟨rfl, hb⟩
  have HB1 := hid hb
  have HI1 := hid (HI.out.keep hb)
  clear hb HI
  by_cases hn : n ≤ 30
  · go_wp2_with fail
    refine (up_ok A n c xs _ HI1.out hn).mono ?_
    rintro e w2 ⟨A2, u, c2, ys, rfl, hb2, hIu, hCu, hgu⟩
    have HB2 := hid (below_step HB1.out (Nat.le_refl _) hb2)
    have HI2 := hid (HI1.out.keep hb2)
    have HLU := hid hgu.len
    rw [hIu.len] at HLU
    have hu := HLU.out.le
    clear hb2 hIu hCu hgu HB1 HI1
    go_wp2_with fail
    refine (down_ok A n c xs _ HI2.out hn).mono ?_
    rintro e w3 ⟨A3, d, c3, zs, rfl, hb3, hId, hCd, hgd⟩
    have HB3 := hid (below_step HB2.out (Nat.le_refl _) hb3)
    have HLD := hid hgd.len
    rw [hId.len] at HLD
    have hd := HLD.out.le
    have HES : Hid (n ≤ u * d) := by
      have e := HI2.out.len
      subst e
      exact erdoes_szekeres HLU.out HLD.out
    have hmul : u * d ≤ 900 := Nat.le_trans (Nat.mul_le_mul hu hd) (Nat.mul_le_mul hn hn)
    have hes := HES.out
    clear hb3 hId hCd hgd HB2 HI2 HLU HLD
    obtain ⟨p, hp⟩ : ∃ p : Nat, p = u * d := ⟨_, rfl⟩
    have hpI : (u : Int) * (d : Int) = (p : Int) := by rw [hp]; exact (Int.natCast_mul u d).symm
    rw [← hp] at hmul hes
    have hw : IntKind.i64.wrap (p : Int) = (p : Int) := IntWalk.i64_in _ (by omega)
    by_cases hn0 : n = 0
    · subst hn0
      obtain rfl : u = 0 := by omega
      obtain rfl : d = 0 := by omega
      have : p = 0 := by simpa using hp
      subst this
      clear hp
      go_wp2
      go_ret
      exact ⟨rfl, HB3.out⟩
    · have hu0 : 0 < u := by
        rcases Nat.eq_zero_or_pos u with h0 | h0
        · subst h0; simp at hp; omega
        · exact h0
      have hd0 : 0 < d := by
        rcases Nat.eq_zero_or_pos d with h0 | h0
        · subst h0; simp at hp; omega
        · exact h0
      have hq1 : ((n : Int) == 0) = false := by simp; omega
      have hq2 : decide ((n : Int) ≤ (p : Int)) = true := by simp; omega
      have hq3 : decide ((u : Int) ≤ (n : Int)) = true := by simp; omega
      clear hp
      go_wp2
      go_ret
      exact ⟨rfl, HB3.out⟩
  · go_wp2_with fail
    refine (up_large A n c _ (by omega) hm).mono ?_
    rintro e w2 ⟨rfl, hb2⟩
    have HB2 := hid (below_step HB1.out (Nat.le_refl _) hb2)
    clear hb2
    go_wp2_with fail
    refine (down_large A n c _ (by omega) hm).mono ?_
    rintro e w3 ⟨rfl, hb3⟩
    have HB3 := hid (below_step HB2.out (Nat.le_refl _) hb3)
    clear hb3
    go_wp2
    go_ret
    exact ⟨rfl, HB3.out⟩

end Go.Proofs.Ytdcmknnmdiocdaa
