/-
  ratio.inRange, divisor, Check, checkBoth, lowest.
-/
import Derived.Test.YtaklchehamkgcaaRatM
import Derived.Test.YtaklchehamkgcaaRst
namespace Go.Proofs.Ytaklchehamkgcaa
open Go.RowKit

theorem rret_bool {a b : Bool} (h : a = b) : Ending.returned (.bool a) = .returned (.bool b) := by rw [h]

theorem rinR_yes (n : Int) (w : World) (h0 : -1000000000 ≤ n) (h1 : n ≤ 1000000000) :
    Calls Try.prog 65 #[.int .i64 n] w fun e w' => e = .returned (.bool true) ∧ w = w' := by
  go_enter Try.func65, Try.ntmps65
  go_wp2
  go_ret
  exact ⟨rfl, rfl⟩
theorem rinR_no (n : Int) (w : World) (h : n < -1000000000 ∨ 1000000000 < n) :
    Calls Try.prog 65 #[.int .i64 n] w fun e w' => e = .returned (.bool false) ∧ w = w' := by
  rcases h with h | h
  · go_enter Try.func65, Try.ntmps65
    go_wp2
    go_ret
    exact ⟨rfl, rfl⟩
  · have h2 : -1000000000 ≤ n := by omega
    have HD : Hid (decide (n ≤ 1000000000) = false) := decide_eq_false (by omega)
    go_enter Try.func65, Try.ntmps65
    go_wp2
    go_ret
    exact ⟨rret_bool HD.out, rfl⟩

/-- Within reach of the products. -/
def Wide (x : Int) : Prop := -4000000000000000000 ≤ x ∧ x ≤ 4000000000000000000

set_option maxHeartbeats 800000 in
theorem divisor_any (a b : Int) (w : World) (ha : Wide a) (hb : Wide b) :
    Calls Try.prog 64 #[.int .i64 a, .int .i64 b] w fun e w' => e = .returned (.int .i64 ((Int.gcd a b : Nat) : Int)) ∧ ∃ q, w' = w.drewN q := by
  have HA := hid ha
  have HB := hid hb
  clear ha hb
  go_enter Try.func64, Try.ntmps64
  go_wp2
  go_loopg [0, 1] b.natAbs (fun g u v wr => ∃ (x y : Int) (q : Nat), Wide x ∧ Wide y ∧ y.natAbs ≤ g ∧ u = .int .i64 x ∧ v = .int .i64 y ∧ wr = w.drewN q ∧ Int.gcd x y = Int.gcd a b)
  case atStart => exact ⟨a, b, 0, HA.out, HB.out, Nat.le_refl _, rfl, rfl, rfl, rfl⟩
  case round =>
    obtain ⟨x, y, q, hx, hy, hg, rfl, rfl, hq, he⟩ := hrel
    have HQ := hid hq
    have HE := hid he
    have HG := hid hg
    have HX := hid hx
    have HY := hid hy
    clear hq he HA HB hg hx hy
    by_cases h0 : y = 0
    · subst h0
      have hx1 := HX.out.1
      have hx2 := HX.out.2
      have HR : Hid (((Int.gcd a b : Nat) : Int) = if 0 ≤ x then x else -x) := by
        show _ = _
        rw [← HE.out, Int.gcd_zero_right]
        split <;> omega
      by_cases hs : 0 ≤ x
      · have HR2 := HR.out
        rw [if_pos hs] at HR2
        have HR3 := hid HR2
        clear HR2 HR
        go_wp2
        go_ret
        exact ⟨by rw [HR3.out]; first | rfl | (congr 2; omega), q, HQ.out⟩
      · have HR2 := HR.out
        rw [if_neg hs] at HR2
        have HR3 := hid HR2
        have hs2 : x < 0 := by omega
        clear HR2 HR hs
        go_wp2
        go_ret
        exact ⟨by rw [HR3.out]; first | rfl | (congr 2; omega), q, HQ.out⟩
    · have hne : (y != 0) = true := by simpa using h0
      have hne2 : (y == 0) = false := by simpa using h0
      have HL := hid (tmod_lt_natAbs (a := x) h0)
      have HM := hid (gcd_tmod x y)
      have HW : Hid (Wide (x.tmod y)) := by
        have := HL.out
        have := HY.out
        unfold Wide at *
        exact ⟨by omega, by omega⟩
      have hw : IntKind.i64.wrap (x.tmod y) = x.tmod y := by
        have := HW.out
        unfold Wide at this
        exact IntWalk.i64_in _ (by omega)
      generalize hz : x.tmod y = z at *
      have HZ := hid hz
      clear hz
      go_wp2_with fail
      go_region
      go_wp2
      go_roundg z.natAbs
      case measure =>
        have := HL.out
        have := HG.out
        omega
      case rel => exact ⟨y, z, q + 1, HY.out, HW.out, Nat.le_refl _, rfl, by rw [← HZ.out], by rw [HQ.out]; rfl, by rw [HM.out, HE.out]⟩
end Go.Proofs.Ytaklchehamkgcaa
