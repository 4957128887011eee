/-
  castkeep.GraySums: the walk.
-/
import Derived.Test.YtlmkkccokemaiaaGrayA
namespace Go.Proofs.Ytlmkkccokemaiaa
open Go.RowKit

set_option maxHeartbeats 1600000 in
theorem graySums_any (a b : Nat) (w : World) (ha : a < 65536) (hb : b < 65536) :
    Calls Try.prog 3 #[.int .u16 (a : Int), .int .u16 (b : Int)] w fun e w' => e = .returned (.bool true) ∧ w = w' := by
  have e1 : bits .xor .u16 (a : Int) (b : Int) = ((a ^^^ b : Nat) : Int) := u16_xor_nat a b ha hb
  have e2 : bits .xor .u16 ((gry a : Nat) : Int) ((gry b : Nat) : Int) = ((gry a ^^^ gry b : Nat) : Int) := u16_xor_nat _ _ (gry_lt ha) (gry_lt hb)
  have e3 : bits .xor .u16 ((bck a : Nat) : Int) ((bck b : Nat) : Int) = ((bck a ^^^ bck b : Nat) : Int) := u16_xor_nat _ _ (bck_lt ha) (bck_lt hb)
  have hx : a ^^^ b < 65536 := Nat.xor_lt_two_pow (n := 16) ha hb
  have c0 := hid (grays_any w)
  have c1 := hid (of_any (a ^^^ b) w hx)
  have c2 := hid (of_any a w ha)
  have c3 := hid (of_any b w hb)
  have c4 := hid (back_any (gry a) w (gry_lt ha))
  have c5 := hid (back_any a w ha)
  have c6 := hid (of_any (bck a) w (bck_lt ha))
  have c7 := hid (back_any (a ^^^ b) w hx)
  have c8 := hid (back_any b w hb)
  have H1 := hid (gry_xor a b)
  have H2 := hid (bck_gry ha)
  have H3 := hid (gry_bck ha)
  have H4 := hid (bck_xor a b)
  go_enter Try.func3, Try.ntmps3
  go_wp2_with fail
  refine c0.out.mono ?_
  rintro e w' ⟨rfl, rfl⟩
  go_wp2_with fail
  refine c1.out.mono ?_
  rintro e w' ⟨rfl, rfl⟩
  rw [H1.out]
  go_wp2_with fail
  refine c2.out.mono ?_
  rintro e w' ⟨rfl, rfl⟩
  go_wp2_with fail
  refine c3.out.mono ?_
  rintro e w' ⟨rfl, rfl⟩
  go_wp2_with fail
  refine c2.out.mono ?_
  rintro e w' ⟨rfl, rfl⟩
  go_wp2_with fail
  refine c4.out.mono ?_
  rintro e w' ⟨rfl, rfl⟩
  rw [H2.out]
  go_wp2_with fail
  refine c5.out.mono ?_
  rintro e w' ⟨rfl, rfl⟩
  go_wp2_with fail
  refine c6.out.mono ?_
  rintro e w' ⟨rfl, rfl⟩
  rw [H3.out]
  go_wp2_with fail
  refine c7.out.mono ?_
  rintro e w' ⟨rfl, rfl⟩
  rw [H4.out]
  go_wp2_with fail
  refine c5.out.mono ?_
  rintro e w' ⟨rfl, rfl⟩
  go_wp2_with fail
  refine c8.out.mono ?_
  rintro e w' ⟨rfl, rfl⟩
  go_wp2
  go_ret
  exact ⟨rfl, rfl⟩

end Go.Proofs.Ytlmkkccokemaiaa
