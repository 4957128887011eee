/-
  castref.Common, RatioErr, RatioOf, Plus, Times, Whole.
-/
import Derived.Test.YtlepgeipcofapaaRatD
namespace Go.Proofs.Ytlepgeipcofapaa
open Go.RowKit

theorem tmod_nat (a b : Nat) : (a : Int).tmod (b : Int) = ((a % b : Nat) : Int) := by
  rw [Int.tmod_eq_emod_of_nonneg (by omega)]
  rfl

set_option maxHeartbeats 800000 in
theorem common_nat (n : Nat) : ∀ (a b : Nat) (w : World), b ≤ n → a ≤ 4000000000000000000 → b ≤ 4000000000000000000 →
    Calls Try.prog 37 #[.int .i64 (a : Int), .int .i64 (b : Int)] w fun e w' => e = .returned (.int .i64 ((Nat.gcd a b : Nat) : Int)) ∧ w = w' := by
  induction n with
  | zero =>
    intro a b w hb ha _
    obtain rfl : b = 0 := by omega
    have HG := hid (Nat.gcd_zero_right a)
    go_enter Try.func37, Try.ntmps37
    go_wp2
    go_ret
    exact ⟨by rw [HG.out]; rfl, rfl⟩
  | succ n ih =>
    intro a b w hb ha hb2
    by_cases h0 : b = 0
    · subst h0
      have HG := hid (Nat.gcd_zero_right a)
      clear ih
      go_enter Try.func37, Try.ntmps37
      go_wp2
      go_ret
      exact ⟨by rw [HG.out]; rfl, rfl⟩
    · have IH := hid ih
      clear ih
      have hm : a % b < b := Nat.mod_lt _ (by omega)
      have HG : Hid (Nat.gcd b (a % b) = Nat.gcd a b) := by
        show _ = _
        rw [Nat.gcd_comm a b, Nat.gcd_comm b, ← Nat.gcd_rec]
      have hz : ((b : Int) == 0) = false := by simp; omega
      go_enter Try.func37, Try.ntmps37
      go_wp2_with fail
      rw [← Int.natCast_emod]
      refine (IH.out b (a % b) w (by omega) (by omega) (by omega)).mono ?_
      rintro e w' ⟨rfl, rfl⟩
      go_wp2
      go_ret
      exact ⟨by rw [HG.out]; rfl, rfl⟩

set_option maxHeartbeats 800000 in
theorem common_pp (a b : Int) (w : World) (h1 : Wide a) (h2 : Wide b) (ha : 0 ≤ a) (hb : 0 ≤ b) :
    Calls Try.prog 37 #[.int .i64 a, .int .i64 b] w fun e w' => e = .returned (.int .i64 ((Int.gcd a b : Nat) : Int)) ∧ w = w' := by
  obtain ⟨u1, u2⟩ := h1
  obtain ⟨v1, v2⟩ := h2
  have HG : Hid (Int.gcd a b = Nat.gcd a.natAbs b.natAbs) := rfl
  obtain ⟨A, hA⟩ : ∃ A : Nat, a = A := ⟨a.natAbs, by omega⟩
  obtain ⟨B, hB⟩ : ∃ B : Nat, b = B := ⟨b.natAbs, by omega⟩
  have eA : a.natAbs = A := by omega
  have eB : b.natAbs = B := by omega
  rw [eA, eB] at HG
  have hA4 : A ≤ 4000000000000000000 := by omega
  have hB4 : B ≤ 4000000000000000000 := by omega
  have HA := hid hA
  have HB := hid hB
  clear hA hB eA eB
  by_cases h0 : B = 0
  · have hb0 : b = 0 := by have := HB.out; omega
    have HG2 : Hid (((Int.gcd a b : Nat) : Int) = a) := by
      show _ = _
      rw [HG.out, h0, Nat.gcd_zero_right, HA.out]
    clear HG HB hb v1 v2
    subst hb0
    go_enter Try.func37, Try.ntmps37
    go_wp2
    go_ret
    exact ⟨by rw [HG2.out]; rfl, rfl⟩
  · have hz : (b == 0) = false := by rw [HB.out]; simp; omega
    have hm : A % B < B := Nat.mod_lt _ (by omega)
    have HG2 : Hid (Nat.gcd B (A % B) = Int.gcd a b) := by
      show _ = _
      rw [HG.out, Nat.gcd_comm A B, Nat.gcd_comm B, ← Nat.gcd_rec]
    have hne : b ≠ 0 := by rw [HB.out]; omega
    have HT : Hid (a % b = ((A % B : Nat) : Int)) := by
      show _ = _
      have e1 := HA.out
      have e2 := HB.out
      skip
      skip
      rw [e1, e2]
      rfl
    clear h0
    have HN := hid hne
    go_enter Try.func37, Try.ntmps37
    go_wp2_with fail
    rw [HT.out, HB.out]
    refine (common_nat B B (A % B) w (by omega) (by omega) (by omega)).mono ?_
    rintro e w' ⟨rfl, rfl⟩
    go_wp2
    go_ret
    exact ⟨by rw [HG2.out]; rfl, rfl⟩

set_option maxHeartbeats 800000 in
theorem common_pn (a b : Int) (w : World) (h1 : Wide a) (h2 : Wide b) (ha : 0 ≤ a) (hb : b < 0) :
    Calls Try.prog 37 #[.int .i64 a, .int .i64 b] w fun e w' => e = .returned (.int .i64 ((Int.gcd a b : Nat) : Int)) ∧ w = w' := by
  obtain ⟨u1, u2⟩ := h1
  obtain ⟨v1, v2⟩ := h2
  have HG : Hid (Int.gcd a b = Nat.gcd a.natAbs b.natAbs) := rfl
  obtain ⟨A, hA⟩ : ∃ A : Nat, a = A := ⟨a.natAbs, by omega⟩
  obtain ⟨B, hB⟩ : ∃ B : Nat, -b = B := ⟨b.natAbs, by omega⟩
  have eA : a.natAbs = A := by omega
  have eB : b.natAbs = B := by omega
  rw [eA, eB] at HG
  have hA4 : A ≤ 4000000000000000000 := by omega
  have hB4 : B ≤ 4000000000000000000 := by omega
  have HA := hid hA
  have HB := hid hB
  clear hA hB eA eB
  by_cases h0 : B = 0
  · have hb0 : b = 0 := by have := HB.out; omega
    have HG2 : Hid (((Int.gcd a b : Nat) : Int) = a) := by
      show _ = _
      rw [HG.out, h0, Nat.gcd_zero_right, HA.out]
    clear HG HB hb v1 v2
    subst hb0
    go_enter Try.func37, Try.ntmps37
    go_wp2
    go_ret
    exact ⟨by rw [HG2.out]; rfl, rfl⟩
  · have hz : (-b == 0) = false := by rw [HB.out]; simp; omega
    have hm : A % B < B := Nat.mod_lt _ (by omega)
    have HG2 : Hid (Nat.gcd B (A % B) = Int.gcd a b) := by
      show _ = _
      rw [HG.out, Nat.gcd_comm A B, Nat.gcd_comm B, ← Nat.gcd_rec]
    have hne : -b ≠ 0 := by rw [HB.out]; omega
    have HT : Hid (a % b = ((A % B : Nat) : Int)) := by
      show _ = _
      have e1 := HA.out
      have e2 := HB.out
      skip
      rw [← Int.emod_neg]
      rw [e1, e2]
      rfl
    clear h0
    have HN := hid hne
    go_enter Try.func37, Try.ntmps37
    go_wp2_with fail
    rw [HT.out, HB.out]
    refine (common_nat B B (A % B) w (by omega) (by omega) (by omega)).mono ?_
    rintro e w' ⟨rfl, rfl⟩
    go_wp2
    go_ret
    exact ⟨by rw [HG2.out]; rfl, rfl⟩

set_option maxHeartbeats 800000 in
theorem common_np (a b : Int) (w : World) (h1 : Wide a) (h2 : Wide b) (ha : a < 0) (hb : 0 ≤ b) :
    Calls Try.prog 37 #[.int .i64 a, .int .i64 b] w fun e w' => e = .returned (.int .i64 ((Int.gcd a b : Nat) : Int)) ∧ w = w' := by
  obtain ⟨u1, u2⟩ := h1
  obtain ⟨v1, v2⟩ := h2
  have HG : Hid (Int.gcd a b = Nat.gcd a.natAbs b.natAbs) := rfl
  obtain ⟨A, hA⟩ : ∃ A : Nat, -a = A := ⟨a.natAbs, by omega⟩
  obtain ⟨B, hB⟩ : ∃ B : Nat, b = B := ⟨b.natAbs, by omega⟩
  have eA : a.natAbs = A := by omega
  have eB : b.natAbs = B := by omega
  rw [eA, eB] at HG
  have hA4 : A ≤ 4000000000000000000 := by omega
  have hB4 : B ≤ 4000000000000000000 := by omega
  have HA := hid hA
  have HB := hid hB
  clear hA hB eA eB
  by_cases h0 : B = 0
  · have hb0 : b = 0 := by have := HB.out; omega
    have HG2 : Hid (((Int.gcd a b : Nat) : Int) = -a) := by
      show _ = _
      rw [HG.out, h0, Nat.gcd_zero_right, HA.out]
    clear HG HB hb v1 v2
    subst hb0
    go_enter Try.func37, Try.ntmps37
    go_wp2
    go_ret
    exact ⟨by rw [HG2.out]; rfl, rfl⟩
  · have hz : (b == 0) = false := by rw [HB.out]; simp; omega
    have hm : A % B < B := Nat.mod_lt _ (by omega)
    have HG2 : Hid (Nat.gcd B (A % B) = Int.gcd a b) := by
      show _ = _
      rw [HG.out, Nat.gcd_comm A B, Nat.gcd_comm B, ← Nat.gcd_rec]
    have hne : b ≠ 0 := by rw [HB.out]; omega
    have HT : Hid (-a.tmod b = ((A % B : Nat) : Int)) := by
      show _ = _
      have e1 := HA.out
      have e2 := HB.out
      rw [← Int.neg_tmod]
      skip
      rw [e1, e2]
      exact tmod_nat A B
    clear h0
    have HN := hid hne
    go_enter Try.func37, Try.ntmps37
    go_wp2_with fail
    rw [HT.out, HB.out]
    refine (common_nat B B (A % B) w (by omega) (by omega) (by omega)).mono ?_
    rintro e w' ⟨rfl, rfl⟩
    go_wp2
    go_ret
    exact ⟨by rw [HG2.out]; rfl, rfl⟩

set_option maxHeartbeats 800000 in
theorem common_nn (a b : Int) (w : World) (h1 : Wide a) (h2 : Wide b) (ha : a < 0) (hb : b < 0) :
    Calls Try.prog 37 #[.int .i64 a, .int .i64 b] w fun e w' => e = .returned (.int .i64 ((Int.gcd a b : Nat) : Int)) ∧ w = w' := by
  obtain ⟨u1, u2⟩ := h1
  obtain ⟨v1, v2⟩ := h2
  have HG : Hid (Int.gcd a b = Nat.gcd a.natAbs b.natAbs) := rfl
  obtain ⟨A, hA⟩ : ∃ A : Nat, -a = A := ⟨a.natAbs, by omega⟩
  obtain ⟨B, hB⟩ : ∃ B : Nat, -b = B := ⟨b.natAbs, by omega⟩
  have eA : a.natAbs = A := by omega
  have eB : b.natAbs = B := by omega
  rw [eA, eB] at HG
  have hA4 : A ≤ 4000000000000000000 := by omega
  have hB4 : B ≤ 4000000000000000000 := by omega
  have HA := hid hA
  have HB := hid hB
  clear hA hB eA eB
  by_cases h0 : B = 0
  · have hb0 : b = 0 := by have := HB.out; omega
    have HG2 : Hid (((Int.gcd a b : Nat) : Int) = -a) := by
      show _ = _
      rw [HG.out, h0, Nat.gcd_zero_right, HA.out]
    clear HG HB hb v1 v2
    subst hb0
    go_enter Try.func37, Try.ntmps37
    go_wp2
    go_ret
    exact ⟨by rw [HG2.out]; rfl, rfl⟩
  · have hz : (-b == 0) = false := by rw [HB.out]; simp; omega
    have hm : A % B < B := Nat.mod_lt _ (by omega)
    have HG2 : Hid (Nat.gcd B (A % B) = Int.gcd a b) := by
      show _ = _
      rw [HG.out, Nat.gcd_comm A B, Nat.gcd_comm B, ← Nat.gcd_rec]
    have hne : -b ≠ 0 := by rw [HB.out]; omega
    have HT : Hid (-a.tmod b = ((A % B : Nat) : Int)) := by
      show _ = _
      have e1 := HA.out
      have e2 := HB.out
      rw [← Int.neg_tmod]
      rw [← Int.tmod_neg]
      rw [e1, e2]
      exact tmod_nat A B
    clear h0
    have HN := hid hne
    go_enter Try.func37, Try.ntmps37
    go_wp2_with fail
    rw [HT.out, HB.out]
    refine (common_nat B B (A % B) w (by omega) (by omega) (by omega)).mono ?_
    rintro e w' ⟨rfl, rfl⟩
    go_wp2
    go_ret
    exact ⟨by rw [HG2.out]; rfl, rfl⟩

theorem common_any (a b : Int) (w : World) (h1 : Wide a) (h2 : Wide b) :
    Calls Try.prog 37 #[.int .i64 a, .int .i64 b] w fun e w' => e = .returned (.int .i64 ((Int.gcd a b : Nat) : Int)) ∧ w = w' := by
  rcases Int.lt_or_le a 0 with ha | ha
  · rcases Int.lt_or_le b 0 with hb | hb
    · exact common_nn a b w h1 h2 ha hb
    · exact common_np a b w h1 h2 ha hb
  · rcases Int.lt_or_le b 0 with hb | hb
    · exact common_pn a b w h1 h2 ha hb
    · exact common_pp a b w h1 h2 ha hb

end Go.Proofs.Ytlepgeipcofapaa
