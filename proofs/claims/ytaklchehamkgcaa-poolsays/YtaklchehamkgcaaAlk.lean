/-
  castlaw.alike at ints.
-/
import Derived.Test.YtaklchehamkgcaaGen
namespace Go.Proofs.Ytaklchehamkgcaa
open Go.RowKit

set_option maxHeartbeats 400000 in
theorem alike_bel (A1 : Option Addr) (n c : Nat) (A2 : Option Addr) (m d : Nat) (xs ys : List Int) (w : World) (h1 : Ints w A1 n xs) (h2 : Ints w A2 m ys) (hn : n ≤ 1000000) (hm : m ≤ 1000000) :
    Calls Try.prog 15 #[.slice A1 n c, .slice A2 m d] w fun e w' => e = .returned (.bool (decide (xs = ys))) ∧ Below w.heap.size w w' := by
  have H1 := hid h1
  have H2 := hid h2
  clear h1 h2
  go_enter Try.func15, Try.ntmps15
  go_wp2_with fail
  refine (equal_bel A1 n c A2 m d xs ys _ H1.out H2.out hn hm).mono ?_
  rintro e w1 ⟨rfl, hb⟩
  have HB := hid hb
  clear hb
  go_wp2
  go_ret
  exact ⟨rfl, HB.out⟩

end Go.Proofs.Ytaklchehamkgcaa
