/-
  package gray: Of, Back; castkeep.grays.
-/
import Derived.Test.YtlmkkccokemaiaaGrayM
import Derived.Test.YtlmkkccokemaiaaSubA
import Derived.Laws.BitsAllLaws
import Derived.Laws.BitsLemmas
namespace Go.Proofs.Ytlmkkccokemaiaa
open Go.RowKit

theorem xor_fold {x y : Nat} (k : Nat) (hx : x < 65536) (hy : y = x / 2 ^ k) : bits .xor .u16 (x : Int) (y : Int) = ((fold k x : Nat) : Int) := by
  have h1 : y ≤ x := by rw [hy]; exact Nat.div_le_self _ _
  rw [u16_xor_nat x y hx (by omega), fold, hy]
theorem wf16 {a : Int} (h : (Lit.int .u16 a).wf = true) : ∃ s : Nat, a = s ∧ s < 65536 := by
  simp only [Lit.wf, Bool.and_eq_true, decide_eq_true_eq] at h
  have h1 : (0 : Int) ≤ a := h.1
  have h2 : a ≤ 65535 := h.2
  exact ⟨a.toNat, by omega, by omega⟩

theorem of_any (x : Nat) (w : World) (hx : x < 65536) :
    Calls Try.prog 6 #[.int .u16 (x : Int)] w fun e w' => e = .returned (.int .u16 ((gry x : Nat) : Int)) ∧ w = w' := by
  have e1 : bits .xor .u16 (x : Int) ((x : Int) / 2) = ((gry x : Nat) : Int) := xor_fold (y := x / 2) 1 hx (by simp)
  go_enter Try.func6, Try.ntmps6
  go_wp2
  go_ret
  exact ⟨rfl, rfl⟩

/-- Back's number when the shift is 2^k. -/
def bckAt (x : Nat) : Nat → Nat
  | 0 => x
  | 1 => fold 1 x
  | 2 => fold 2 (fold 1 x)
  | 3 => fold 4 (fold 2 (fold 1 x))
  | _ => bck x
theorem bckAt_lt {x : Nat} (h : x < 65536) : ∀ k, bckAt x k < 65536
  | 0 => h
  | 1 => fold_lt16 h
  | 2 => fold_lt16 (fold_lt16 h)
  | 3 => fold_lt16 (fold_lt16 (fold_lt16 h))
  | _ + 4 => bck_lt h

set_option maxHeartbeats 800000 in
theorem back_any (x : Nat) (w : World) (hx : x < 65536) :
    Calls Try.prog 7 #[.int .u16 (x : Int)] w fun e w' => e = .returned (.int .u16 ((bck x : Nat) : Int)) ∧ w = w' := by
  go_enter Try.func7, Try.ntmps7
  go_wp2
  go_loopg [0, 3] 4 (fun gh s t wr => ∃ k : Nat, k ≤ 4 ∧ 4 - k ≤ gh ∧ s = .int .u16 ((bckAt x k : Nat) : Int) ∧ t = .int .i64 ((2 ^ k : Nat) : Int) ∧ w = wr)
  case atStart => exact ⟨0, by omega, by omega, rfl, rfl, rfl⟩
  case round =>
    obtain ⟨k, hk, hg, rfl, rfl, rfl⟩ := hrel
    have hlt := bckAt_lt hx k
    have hstep : ∀ z y : Nat, z < 65536 → y = z / 2 ^ 2 ^ k → bits .xor .u16 (z : Int) (y : Int) = ((fold (2 ^ k) z : Nat) : Int) := fun z y hz hy => xor_fold _ hz hy
    have HS := hid hstep
    clear hstep
    obtain rfl | rfl | rfl | rfl | rfl : k = 0 ∨ k = 1 ∨ k = 2 ∨ k = 3 ∨ k = 4 := by omega
    · have e1 := HS.out (bckAt x 0) (bckAt x 0 / 2) hlt rfl
      rw [Int.natCast_ediv] at e1
      go_wp2
      go_roundg 3
      case measure => omega
      case rel => exact ⟨1, by omega, by omega, congrArg (Value.int .u16) e1, rfl, rfl⟩
    · have e1 := HS.out (bckAt x 1) (bckAt x 1 / 4) hlt rfl
      rw [Int.natCast_ediv] at e1
      go_wp2
      go_roundg 2
      case measure => omega
      case rel => exact ⟨2, by omega, by omega, congrArg (Value.int .u16) e1, rfl, rfl⟩
    · have e1 := HS.out (bckAt x 2) (bckAt x 2 / 16) hlt rfl
      rw [Int.natCast_ediv] at e1
      go_wp2
      go_roundg 1
      case measure => omega
      case rel => exact ⟨3, by omega, by omega, congrArg (Value.int .u16) e1, rfl, rfl⟩
    · have e1 := HS.out (bckAt x 3) (bckAt x 3 / 256) hlt rfl
      rw [Int.natCast_ediv] at e1
      go_wp2
      go_roundg 0
      case measure => omega
      case rel => exact ⟨4, by omega, by omega, congrArg (Value.int .u16) e1, rfl, rfl⟩
    · go_wp2
      go_ret
      exact ⟨rfl, rfl⟩

theorem gry5 : gry 5 = 7 := by decide +kernel
theorem bck7 : bck 7 = 5 := by decide +kernel

set_option maxHeartbeats 800000 in
theorem grays_any (w : World) : Calls Try.prog 5 #[] w fun e w' => e = .returned (.bool true) ∧ w = w' := by
  have h5 := hid gry5
  have h7 := hid bck7
  have c1 := hid (of_any 5 w (by omega))
  have c2 := hid (back_any 7 w (by omega))
  go_enter Try.func5, Try.ntmps5
  go_wp2_with fail
  refine c1.out.mono ?_
  rintro e w' ⟨rfl, rfl⟩
  rw [h5.out]
  go_wp2_with fail
  refine c2.out.mono ?_
  rintro e w' ⟨rfl, rfl⟩
  rw [h7.out]
  go_wp2
  go_ret
  exact ⟨rfl, rfl⟩

end Go.Proofs.Ytlmkkccokemaiaa
