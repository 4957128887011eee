/-
  castkeep.GrayOne: the walk.
-/
import Derived.Test.YtlmkkccokemaiaaDoorGrayB
import Derived.Test.YtlmkkccokemaiaaDoorSmall
import Derived.Test.YtlmkkccokemaiaaDoorSubT
namespace Go.Proofs.YtlmkkccokemaiaaDoor
open Go.RowKit

set_option maxHeartbeats 800000 in
theorem grayOne_end (w : World) : Calls Tryd.prog 4 #[.int .u16 65535] w fun e w' => e = .returned (.bool true) ∧ w = w' := by
  have c0 := hid (grays_any w)
  have c1 := hid (bit_end w)
  go_enter Tryd.func4, Tryd.ntmps4
  go_wp2_with fail
  refine c0.out.mono ?_
  rintro e w' ⟨rfl, rfl⟩
  go_wp2_with fail
  refine c1.out.mono ?_
  rintro e w' ⟨rfl, rfl⟩
  go_wp2
  go_ret
  exact ⟨rfl, rfl⟩
set_option maxHeartbeats 800000 in
theorem grayOne_any (i k m : Nat) (w : World) (ht : Tab w) (hi : i < 65535) (h : i + 1 = 2 ^ k * (2 * m + 1)) :
    Calls Tryd.prog 4 #[.int .u16 (i : Int)] w fun e w' => e = .returned (.bool true) ∧ Below w.heap.size w w' := by
  have hk : k < 16 := place_lt h (by omega)
  have c0 := hid (grays_any w)
  have c1 := hid (bit_any i k m w ht hi h)
  have c2 := fun W : World => of_any i W (by omega)
  have c3 := fun W : World => of_any (i + 1) W (by omega)
  have hx := gry_next h hk
  have h2 : 2 ^ k < 2 ^ 16 := (Nat.pow_lt_pow_iff_right (a := 2) (by omega)).2 hk
  have e1 : IntKind.u16.wrap ((i : Int) + 1) = ((i + 1 : Nat) : Int) := by rw [IntKind.wrap_u16]; omega
  have e2 : bits .xor .u16 ((gry i : Nat) : Int) ((gry (i + 1) : Nat) : Int) = ((2 ^ k : Nat) : Int) := by rw [u16_xor_nat _ _ (gry_lt (by omega)) (gry_lt (by omega)), hx]
  have E3 : Hid (IntKind.u16.wrap ((2 : Int) ^ k) = ((2 ^ k : Nat) : Int)) := by
    show (_ : Int) = _
    rw [IntKind.wrap_u16, show (2 : Int) ^ k = ((2 ^ k : Nat) : Int) by simp]
    omega
  have hd1 : decide (k < 16) = true := by simp; omega
  have hd2 : decide ((k : Int) < 16) = true := by simp; omega
  have hd3 : decide ((0 : Int) ≤ (k : Int)) = true := by simp
  clear h hx h2 ht
  go_enter Tryd.func4, Tryd.ntmps4
  go_wp2_with fail
  refine c0.out.mono ?_
  rintro e w' ⟨rfl, rfl⟩
  go_wp2_with fail
  refine c1.out.mono ?_
  rintro e w' ⟨rfl, rfl⟩
  go_wp2_with fail
  go_quiet (first
    | (go_at_call 8; exact Calls.quiet_of_same (quiet_left (c2 _)))
    | (go_at_call 8; exact Calls.quiet_of_same (quiet_left (c3 _))))
  go_wp2
  go_ret
  refine ⟨sret_bool ?_, ⟨rfl, rfl, rfl, Nat.le_refl _, fun _ _ => rfl⟩⟩
  rw [E3.out]
  simp

theorem grayOne_all (s : Nat) (w : World) (ht : Tab w) (hs : s < 65536) :
    Calls Tryd.prog 4 #[.int .u16 (s : Int)] w fun e w' => e = .returned (.bool true) ∧ Below w.heap.size w w' := by
  by_cases he : s = 65535
  · subst he
    exact (grayOne_end w).mono fun e w1 h => ⟨h.1, by rw [← h.2]; exact Below.refl _ _⟩
  · obtain ⟨k, m, hm⟩ := low_place (s + 1) (by omega)
    exact grayOne_any s k m w ht (by omega) hm

end Go.Proofs.YtlmkkccokemaiaaDoor
