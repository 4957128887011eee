/-
  castlaw.GraySays: the walk.
-/
import Derived.Test.YtlmkkccokemaiaaDoorGrayB
import Derived.Test.YtlmkkccokemaiaaDoorGrayC
import Derived.Test.YtlmkkccokemaiaaDoorSubT
namespace Go.Proofs.YtlmkkccokemaiaaDoor
open Go.RowKit

set_option maxHeartbeats 3200000 in
theorem graySays_lastOff (n : Int) (w : World) (hn : n < 0 ∨ 10 < n) :
    Calls Tryd.prog 3 #[.int .u16 65535, .int .i64 n] w fun e w' => e = .returned (.bool true) ∧ Below w.heap.size w w' := by
  have e0 : bits .xor .u16 65535 32767 = 32768 := by decide +kernel
  have e2 : bits .xor .u16 43690 21845 = 65535 := by decide +kernel
  have h1 := hid (show bck 65535 = 43690 by decide +kernel)
  have h2 := hid (show gry 65535 = 32768 by decide +kernel)
  have c0 := hid (bit_end w)
  have c2 := fun W : World => back_any 65535 W (by omega)
  have c3 := fun W : World => of_any 65535 W (by omega)
  have c1 := hid (walk_off n w hn)
  go_enter Tryd.func3, Tryd.ntmps3
  go_wp2_with fail
  refine c0.out.mono ?_
  rintro e w' ⟨rfl, rfl⟩
  go_wp2_with fail
  refine c1.out.mono ?_
  rintro e w' ⟨rfl, rfl⟩
  go_wp2_with fail
  refine (c2 _).mono ?_
  rintro e w' ⟨rfl, rfl⟩
  rw [h1.out]
  go_wp2_with fail
  refine (c3 _).mono ?_
  rintro e w' ⟨rfl, rfl⟩
  rw [h2.out]
  clear c0 c1 c2 c3
  rcases hn with hn | hn
  · go_wp2
    go_ret
    exact ⟨rfl, Below.refl _ _⟩
  · have hn0 : ¬ n < 0 := by omega
    go_wp2
    go_ret
    exact ⟨rfl, Below.refl _ _⟩

set_option maxHeartbeats 3200000 in
theorem graySays_lastOn (n : Nat) (w : World) (hn : n ≤ 10) :
    Calls Tryd.prog 3 #[.int .u16 65535, .int .i64 (n : Int)] w fun e w' => e = .returned (.bool true) ∧ Below w.heap.size w w' := by
  have e0 : bits .xor .u16 65535 32767 = 32768 := by decide +kernel
  have e2 : bits .xor .u16 43690 21845 = 65535 := by decide +kernel
  have h1 := hid (show bck 65535 = 43690 by decide +kernel)
  have h2 := hid (show gry 65535 = 32768 by decide +kernel)
  have c0 := hid (bit_end w)
  have c2 := fun W : World => back_any 65535 W (by omega)
  have c3 := fun W : World => of_any 65535 W (by omega)
  have c1 := hid (walk_any n w hn)
  go_enter Tryd.func3, Tryd.ntmps3
  go_wp2_with fail
  refine c0.out.mono ?_
  rintro e w' ⟨rfl, rfl⟩
  go_wp2_with fail
  refine c1.out.mono ?_
  rintro e wz ⟨g, hg, rfl, hU, hbel⟩
  have HU := hid hU
  have HB := hid hbel
  clear hU hbel
  go_wp2_with fail
  refine (c2 _).mono ?_
  rintro e w' ⟨rfl, rfl⟩
  rw [h1.out]
  go_wp2_with fail
  refine (c3 _).mono ?_
  rintro e w' ⟨rfl, rfl⟩
  rw [h2.out]
  clear c0 c1 c2 c3
  have HC := hid (fun (j : Nat) (hj : j < 2 ^ n) => (HU.out.cell (j := j) (by rw [length_codes]; exact hj)).trans (by rw [getD_codes hj]))
  clear HU
  have h2n : 2 ^ n ≤ 2 ^ 10 := Nat.pow_le_pow_right (by omega) hn
  have hp : (2 : Int) ^ n = ((2 ^ n : Nat) : Int) := by simp
  generalize 2 ^ n = N at *
  go_wp2_with fail
  go_loopg [96] N (fun gh s wr => ∃ j : Nat, j ≤ N ∧ N - j ≤ gh ∧ s = .int .i64 j ∧ wz = wr)
  case atStart => exact ⟨0, Nat.zero_le _, by omega, rfl, rfl⟩
  case round =>
    obtain ⟨j, hj, hgh, rfl, rfl⟩ := hrel
    by_cases hlt : j < N
    · have g1 := HC.out j hlt
      have q1 : IntKind.u16.wrap (j : Int) = (j : Int) := by rw [IntKind.wrap_u16]; omega
      have q0 : bits .xor .u16 (j : Int) ((j : Int) / 2) = ((gry j : Nat) : Int) := xor_fold (y := j / 2) 1 (by omega) (by simp)
      generalize gry j = gj at *
      go_wp2
      go_roundg (N - (j + 1))
      case measure => omega
      case rel => exact ⟨j + 1, by omega, by omega, by go_num, rfl⟩
    · have hjn : j = N := by omega
      subst hjn
      go_wp2
      go_ret
      exact ⟨rfl, HB.out⟩

set_option maxHeartbeats 3200000 in
theorem graySays_someOff (i k m : Nat) (n : Int) (w : World) (ht : Tab w) (hi : i < 65535) (h : i + 1 = 2 ^ k * (2 * m + 1)) (hn : n < 0 ∨ 10 < n) :
    Calls Tryd.prog 3 #[.int .u16 (i : Int), .int .i64 n] w fun e w' => e = .returned (.bool true) ∧ Below w.heap.size w w' := by
  have hk : k < 16 := place_lt h (by omega)
  have c0 := hid (bit_any i k m w ht hi h)
  have c2 := fun W : World => back_any i W (by omega)
  have c3 := fun W : World => of_any i W (by omega)
  have hx := gry_next h hk
  have h2 : 2 ^ k < 2 ^ 16 := (Nat.pow_lt_pow_iff_right (a := 2) (by omega)).2 hk
  have e1 : IntKind.u16.wrap ((i : Int) + 1) = ((i + 1 : Nat) : Int) := by rw [IntKind.wrap_u16]; omega
  have e0 : bits .xor .u16 (i : Int) ((i : Int) / 2) = ((gry i : Nat) : Int) := xor_fold (y := i / 2) 1 (by omega) (by simp)
  have hb := bck_lt (x := i) (by omega)
  have e2 : bits .xor .u16 ((bck i : Nat) : Int) (((bck i : Nat) : Int) / 2) = (i : Int) := by
    have := xor_fold (x := bck i) (y := bck i / 2) 1 hb (by simp)
    rw [Int.natCast_ediv] at this
    refine this.trans ?_
    exact congrArg Nat.cast (gry_bck (x := i) (by omega))
  have e3 : bits .xor .u16 ((i : Int) + 1) (IntKind.u16.wrap (((i : Int) + 1).tdiv 2)) = ((gry (i + 1) : Nat) : Int) := by
    rw [Int.tdiv_eq_ediv_of_nonneg (by omega), IntKind.wrap_u16, show ((i : Int) + 1) / 2 % 65536 = (((i + 1) / 2 : Nat) : Int) by omega, show (i : Int) + 1 = ((i + 1 : Nat) : Int) by omega]
    exact xor_fold (y := (i + 1) / 2) 1 (by omega) (by simp)
  have e5 : bits .xor .u16 ((gry i : Nat) : Int) (IntKind.u16.wrap ((2 : Int) ^ k)) = ((gry (i + 1) : Nat) : Int) := by
    rw [IntKind.wrap_u16, show (2 : Int) ^ k = ((2 ^ k : Nat) : Int) by simp, show (((2 ^ k : Nat) : Int)) % 65536 = ((2 ^ k : Nat) : Int) by omega, u16_xor_nat _ _ (gry_lt (by omega)) (by omega), ← hx, ← Nat.xor_assoc, Nat.xor_self, Nat.zero_xor]
  have hne : ((i : Int) == 65535) = false := by simp; omega
  generalize gry (i + 1) = gi1 at *
  generalize gry i = gi at *
  generalize bck i = bi at *
  clear h hx ht h2
  have c1 := hid (walk_off n w hn)
  go_enter Tryd.func3, Tryd.ntmps3
  go_wp2_with fail
  refine c0.out.mono ?_
  rintro e w' ⟨rfl, rfl⟩
  go_wp2_with fail
  refine c1.out.mono ?_
  rintro e w' ⟨rfl, rfl⟩
  go_wp2_with fail
  refine (c2 _).mono ?_
  rintro e w' ⟨rfl, rfl⟩
  go_wp2_with fail
  refine (c3 _).mono ?_
  rintro e w' ⟨rfl, rfl⟩
  clear c0 c1 c2 c3
  rcases hn with hn | hn
  · go_wp2
    go_ret
    exact ⟨rfl, Below.refl _ _⟩
  · have hn0 : ¬ n < 0 := by omega
    go_wp2
    go_ret
    exact ⟨rfl, Below.refl _ _⟩

set_option maxHeartbeats 3200000 in
theorem graySays_someOn (i k m : Nat) (n : Nat) (w : World) (ht : Tab w) (hi : i < 65535) (h : i + 1 = 2 ^ k * (2 * m + 1)) (hn : n ≤ 10) :
    Calls Tryd.prog 3 #[.int .u16 (i : Int), .int .i64 (n : Int)] w fun e w' => e = .returned (.bool true) ∧ Below w.heap.size w w' := by
  have hk : k < 16 := place_lt h (by omega)
  have c0 := hid (bit_any i k m w ht hi h)
  have c2 := fun W : World => back_any i W (by omega)
  have c3 := fun W : World => of_any i W (by omega)
  have hx := gry_next h hk
  have h2 : 2 ^ k < 2 ^ 16 := (Nat.pow_lt_pow_iff_right (a := 2) (by omega)).2 hk
  have e1 : IntKind.u16.wrap ((i : Int) + 1) = ((i + 1 : Nat) : Int) := by rw [IntKind.wrap_u16]; omega
  have e0 : bits .xor .u16 (i : Int) ((i : Int) / 2) = ((gry i : Nat) : Int) := xor_fold (y := i / 2) 1 (by omega) (by simp)
  have hb := bck_lt (x := i) (by omega)
  have e2 : bits .xor .u16 ((bck i : Nat) : Int) (((bck i : Nat) : Int) / 2) = (i : Int) := by
    have := xor_fold (x := bck i) (y := bck i / 2) 1 hb (by simp)
    rw [Int.natCast_ediv] at this
    refine this.trans ?_
    exact congrArg Nat.cast (gry_bck (x := i) (by omega))
  have e3 : bits .xor .u16 ((i : Int) + 1) (IntKind.u16.wrap (((i : Int) + 1).tdiv 2)) = ((gry (i + 1) : Nat) : Int) := by
    rw [Int.tdiv_eq_ediv_of_nonneg (by omega), IntKind.wrap_u16, show ((i : Int) + 1) / 2 % 65536 = (((i + 1) / 2 : Nat) : Int) by omega, show (i : Int) + 1 = ((i + 1 : Nat) : Int) by omega]
    exact xor_fold (y := (i + 1) / 2) 1 (by omega) (by simp)
  have e5 : bits .xor .u16 ((gry i : Nat) : Int) (IntKind.u16.wrap ((2 : Int) ^ k)) = ((gry (i + 1) : Nat) : Int) := by
    rw [IntKind.wrap_u16, show (2 : Int) ^ k = ((2 ^ k : Nat) : Int) by simp, show (((2 ^ k : Nat) : Int)) % 65536 = ((2 ^ k : Nat) : Int) by omega, u16_xor_nat _ _ (gry_lt (by omega)) (by omega), ← hx, ← Nat.xor_assoc, Nat.xor_self, Nat.zero_xor]
  have hne : ((i : Int) == 65535) = false := by simp; omega
  generalize gry (i + 1) = gi1 at *
  generalize gry i = gi at *
  generalize bck i = bi at *
  clear h hx ht h2
  have c1 := hid (walk_any n w hn)
  go_enter Tryd.func3, Tryd.ntmps3
  go_wp2_with fail
  refine c0.out.mono ?_
  rintro e w' ⟨rfl, rfl⟩
  go_wp2_with fail
  refine c1.out.mono ?_
  rintro e wz ⟨g, hg, rfl, hU, hbel⟩
  have HU := hid hU
  have HB := hid hbel
  clear hU hbel
  go_wp2_with fail
  refine (c2 _).mono ?_
  rintro e w' ⟨rfl, rfl⟩
  go_wp2_with fail
  refine (c3 _).mono ?_
  rintro e w' ⟨rfl, rfl⟩
  clear c0 c1 c2 c3
  have HC := hid (fun (j : Nat) (hj : j < 2 ^ n) => (HU.out.cell (j := j) (by rw [length_codes]; exact hj)).trans (by rw [getD_codes hj]))
  clear HU
  have h2n : 2 ^ n ≤ 2 ^ 10 := Nat.pow_le_pow_right (by omega) hn
  have hp : (2 : Int) ^ n = ((2 ^ n : Nat) : Int) := by simp
  generalize 2 ^ n = N at *
  go_wp2_with fail
  go_loopg [96] N (fun gh s wr => ∃ j : Nat, j ≤ N ∧ N - j ≤ gh ∧ s = .int .i64 j ∧ wz = wr)
  case atStart => exact ⟨0, Nat.zero_le _, by omega, rfl, rfl⟩
  case round =>
    obtain ⟨j, hj, hgh, rfl, rfl⟩ := hrel
    by_cases hlt : j < N
    · have g1 := HC.out j hlt
      have q1 : IntKind.u16.wrap (j : Int) = (j : Int) := by rw [IntKind.wrap_u16]; omega
      have q0 : bits .xor .u16 (j : Int) ((j : Int) / 2) = ((gry j : Nat) : Int) := xor_fold (y := j / 2) 1 (by omega) (by simp)
      generalize gry j = gj at *
      go_wp2
      go_roundg (N - (j + 1))
      case measure => omega
      case rel => exact ⟨j + 1, by omega, by omega, by go_num, rfl⟩
    · have hjn : j = N := by omega
      subst hjn
      go_wp2
      go_ret
      exact ⟨rfl, HB.out⟩

theorem graySays_any (s : Nat) (n : Int) (w : World) (ht : Tab w) (hs : s < 65536) :
    Calls Tryd.prog 3 #[.int .u16 (s : Int), .int .i64 n] w fun e w' => e = .returned (.bool true) ∧ Below w.heap.size w w' := by
  by_cases hn : n < 0 ∨ 10 < n
  · by_cases he : s = 65535
    · subst he
      exact graySays_lastOff n w hn
    · obtain ⟨k, m, hm⟩ := low_place (s + 1) (by omega)
      exact graySays_someOff s k m n w ht (by omega) hm hn
  · obtain ⟨N, rfl⟩ := Int.eq_ofNat_of_zero_le (show 0 ≤ n by omega)
    by_cases he : s = 65535
    · subst he
      exact graySays_lastOn N w (by omega)
    · obtain ⟨k, m, hm⟩ := low_place (s + 1) (by omega)
      exact graySays_someOn s k m N w ht (by omega) hm (by omega)

end Go.Proofs.YtlmkkccokemaiaaDoor
