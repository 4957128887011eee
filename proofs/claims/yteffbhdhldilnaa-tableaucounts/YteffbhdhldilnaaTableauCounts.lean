/-
  castlaw.TableauCounts, walked.
-/
import Derived.Test.YteffbhdhldilnaaShpC
namespace Go.Proofs.Yteffbhdhldilnaa
open Go.RowKit

set_option maxHeartbeats 2000000 in
set_option maxRecDepth 100000 in
theorem tableauCounts_any (A : Option Addr) (n c : Nat) (xs : List Int) (w : World) (h : Ints w A n xs) (hn : n ≤ 9223372036854775807) :
    Calls Try.prog 4 #[.slice A n c] w fun e w' => e = .returned (.bool true) ∧ Below w.heap.size w w' := by
  have HI := hid h
  clear h
  by_cases he : shapeErr xs = 0
  · have HS := hid (isShape_of he)
    have HE := hid he
    clear he
    have hb := cntS_bound HS.out
    go_enter Try.func4, Try.ntmps4
    go_wp2_with fail
    refine (tcount_ok A n c xs _ HI.out HS.out).mono ?_
    rintro e w1 ⟨rfl, hb1⟩
    have HB1 := hid hb1
    have HI1 := hid (HI.out.keep hb1)
    clear hb1 HI
    go_wp2_with fail
    refine (shapeErr_any A n c xs _ HI1.out hn).mono ?_
    rintro e w' ⟨rfl, rfl⟩
    rw [HE.out]
    go_wp2_with fail
    refine (shapesOf_any A n c xs _ HI1.out HS.out).mono ?_
    rintro e w2 ⟨rfl, hb2⟩
    have HB2 := hid (below_step HB1.out (Nat.le_refl _) hb2)
    clear hb2
    generalize cntS xs = y at *
    go_wp2
    go_ret
    exact ⟨rfl, HB2.out⟩
  · generalize hq : shapeErr xs = er at *
    have he' : (er != 0) = true := by simpa using he
    have HQ := hid hq
    clear hq
    go_enter Try.func4, Try.ntmps4
    go_wp2_with fail
    refine (tcount_bad A n c xs _ HI.out hn (by rw [HQ.out]; exact he)).mono ?_
    rintro e w1 ⟨rfl, hb1⟩
    have HB1 := hid hb1
    have HI1 := hid (HI.out.keep hb1)
    clear hb1 HI
    rw [HQ.out]
    go_wp2_with fail
    refine (shapeErr_any A n c xs _ HI1.out hn).mono ?_
    rintro e w' ⟨rfl, rfl⟩
    rw [HQ.out]
    go_wp2
    go_ret
    exact ⟨rfl, HB1.out⟩

end Go.Proofs.Yteffbhdhldilnaa
