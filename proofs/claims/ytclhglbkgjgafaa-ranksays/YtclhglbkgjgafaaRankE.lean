/-
  Package rank at lists that Check refuses.
-/
import Derived.Test.YtclhglbkgjgafaaRankD
import Derived.Test.YtclhglbkgjgafaaRefA
namespace Go.Proofs.Ytclhglbkgjgafaa
open Go.RowKit

set_option maxHeartbeats 400000 in
theorem code_err (A : Option Addr) (n c : Nat) (p : List Int) (w : World) (hA : Ints w A n p) (hp : permErr p ≠ 0) (hn : n ≤ 9223372036854775807) :
    Calls Try.prog 9 #[.slice A n c] w fun e w' => e = .returned (.tuple #[.slice none 0 0, .int .i64 (permErr p)]) ∧ Below w.heap.size w w' := by
  have hne : (permErr p != 0) = true := by simpa using hp
  go_enter Try.func9, Try.ntmps9
  go_wp2_with fail
  refine (check_any A n c p _ hA hn).mono ?_
  rintro e w1 ⟨rfl, hb1⟩
  have HB1 := hid hb1
  clear hb1 hp
  go_wp2
  go_ret2
  exact ⟨rfl, HB1.out⟩

set_option maxHeartbeats 400000 in
theorem of_err (A : Option Addr) (n c : Nat) (p : List Int) (w : World) (hA : Ints w A n p) (hp : permErr p ≠ 0) (hn : n ≤ 9223372036854775807) :
    Calls Try.prog 10 #[.slice A n c] w fun e w' => e = .returned (.tuple #[.int .i64 0, .int .i64 (permErr p)]) ∧ Below w.heap.size w w' := by
  have hne : (permErr p != 0) = true := by simpa using hp
  go_enter Try.func10, Try.ntmps10
  go_wp2_with fail
  refine (code_err A n c p _ hA hp hn).mono ?_
  rintro e w1 ⟨rfl, hb1⟩
  have HB1 := hid hb1
  clear hb1 hp
  go_wp2
  go_ret2
  exact ⟨rfl, HB1.out⟩

set_option maxHeartbeats 400000 in
theorem next_err (A : Option Addr) (n c : Nat) (p : List Int) (w : World) (hA : Ints w A n p) (hp : permErr p ≠ 0) (hn : n ≤ 9223372036854775807) :
    Calls Try.prog 11 #[.slice A n c] w fun e w' => e = .returned (.tuple #[.slice none 0 0, .int .i64 (permErr p)]) ∧ Below w.heap.size w w' := by
  have hne : (permErr p != 0) = true := by simpa using hp
  go_enter Try.func11, Try.ntmps11
  go_wp2_with fail
  refine (check_any A n c p _ hA hn).mono ?_
  rintro e w1 ⟨rfl, hb1⟩
  have HB1 := hid hb1
  clear hb1 hp
  go_wp2
  go_ret2
  exact ⟨rfl, HB1.out⟩

end Go.Proofs.Ytclhglbkgjgafaa
