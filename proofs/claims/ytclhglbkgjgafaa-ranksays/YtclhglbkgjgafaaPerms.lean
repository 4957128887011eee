/-
  castkeep.perms: the closed look at three numbers, turned.
-/
import Derived.Test.YtclhglbkgjgafaaOrder
import Derived.Test.YtclhglbkgjgafaaGood
import Derived.Test.YtclhglbkgjgafaaEqual
namespace Go.Proofs.Ytclhglbkgjgafaa
open Go.RowKit

theorem ints_lit (w : World) (cs : Array Value) (t n : Nat) (xs : List Int) (h : cs = (xs.map (Value.int .i64)).toArray) (hn : xs.length = n) : Ints (w.alloc (.cells cs t)) (some ⟨w.heap.size, 0, none⟩) n xs := by
  subst h
  subst hn
  refine ⟨rfl, fun _ => ⟨w.heap.size, 0, rfl, by simp, fun j hj => ?_⟩⟩
  rw [cell_of_row (w.alloc _) w.heap.size (0 + j) _ t (0, 0) (heap_alloc_new w _)]
  simp [List.getD_eq_getElem?_getD, List.getElem?_eq_getElem hj]

theorem below_alloc (w : World) (o : Obj) : Below w.heap.size w (w.alloc o) := (Below.refl _ _).alloc (Nat.le_refl _) _

theorem below_step {B : Nat} {a b c : World} (h : Below B a b) (hB : B ≤ a.heap.size) (k : Below b.heap.size b c) : Below B a c := h.trans (k.mono (Nat.le_trans hB h.size))

set_option maxHeartbeats 1000000 in
theorem perms_any (w : World) : Calls Try.prog 17 #[] w fun e w' => e = .returned (.bool true) ∧ Below w.heap.size w w' := by
  go_enter Try.func17, Try.ntmps17
  go_wp2_with fail
  refine (order_ok _ 3 3 [1, 2, 0] _ (ints_lit w _ _ 3 [1, 2, 0] rfl rfl) (by decide)).mono ?_
  rintro e w1 ⟨rfl, hb1⟩
  have HB1 := hid (below_step (below_alloc w _) (Nat.le_refl _) hb1)
  clear hb1
  rw [show ordL (cycL [1, 2, 0] 3) = 3 by decide +kernel]
  go_wp2_with fail
  have hX := (ints_lit w1 #[.int .i64 1, .int .i64 2, .int .i64 0] 3 3 [1, 2, 0] rfl rfl).keep (below_alloc _ (.cells #[.int .i64 1, .int .i64 0, .int .i64 2] 3))
  have hY := ints_lit (w1.alloc (.cells #[.int .i64 1, .int .i64 2, .int .i64 0] 3)) #[.int .i64 1, .int .i64 0, .int .i64 2] 3 3 [1, 0, 2] rfl rfl
  rw [show (w1.alloc (.cells #[.int .i64 1, .int .i64 2, .int .i64 0] 3)).heap.size = w1.heap.size + 1 by simp] at hY
  have HX := hid hX
  have HY := hid hY
  clear hX hY
  refine (times_ok _ 3 3 _ 3 [1, 2, 0] [1, 0, 2] _ HX.out HY.out (by decide) (by decide)).mono ?_
  rintro e w2 ⟨A2, n2, c2, rfl, hb2, hI2, _⟩
  have HB2 := hid (below_step (HB1.out.trans ((below_step (below_alloc w1 _) (Nat.le_refl _) (below_alloc _ _)).mono HB1.out.size)) (Nat.le_refl _) hb2)
  have HI2 := hid hI2
  have hn2 : 3 = n2 := hI2.len
  subst hn2
  clear hb2 hI2 HX HY HB1
  go_wp2_with fail
  refine (good_any _ 2 2 [0, 0] _ (ints_lit w2 _ _ 2 [0, 0] rfl rfl) (by omega)).mono ?_
  rintro e w3 ⟨rfl, rfl⟩
  rw [show allOK [0, 0] = true by decide]
  go_wp2_with fail
  have hX := HI2.out.keep (below_step (below_alloc w2 (.cells #[.int .i64 0, .int .i64 0] 23)) (Nat.le_refl _) (below_alloc _ (.cells #[.int .i64 2, .int .i64 1, .int .i64 0] 3)))
  have hY := ints_lit (w2.alloc (.cells #[.int .i64 0, .int .i64 0] 23)) #[.int .i64 2, .int .i64 1, .int .i64 0] 3 3 [2, 1, 0] rfl rfl
  rw [show (w2.alloc (.cells #[.int .i64 0, .int .i64 0] 23)).heap.size = w2.heap.size + 1 by simp] at hY
  have HX := hid hX
  have HY := hid hY
  clear hX hY
  refine (equal_any A2 3 c2 _ 3 3 _ [2, 1, 0] _ HX.out HY.out (by omega) (by omega)).mono ?_
  rintro e w3 ⟨rfl, q, rfl⟩
  rw [show decide (times [1, 2, 0] [1, 0, 2] = [2, 1, 0]) = true by decide]
  go_wp2
  go_ret
  exact ⟨rfl, below_drewN (HB2.out.trans ((below_step (below_alloc w2 _) (Nat.le_refl _) (below_alloc _ _)).mono HB2.out.size)) q⟩

end Go.Proofs.Ytclhglbkgjgafaa
