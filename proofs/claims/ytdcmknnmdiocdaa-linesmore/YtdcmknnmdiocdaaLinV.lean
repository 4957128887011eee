/-
  castkeep.linesLive: the example of P42 and P43.
-/
import Derived.Test.YtdcmknnmdiocdaaLinP
import Derived.Test.YtdcmknnmdiocdaaGen
namespace Go.Proofs.Ytdcmknnmdiocdaa
open Go.RowKit

theorem live_fin : ∀ i j : Fin 4, (decide (i.1 < j.1) && upF [3, 1, 2, 2] i.1 j.1) = true → (i.1 = 1 ∧ j.1 = 2) ∨ (i.1 = 1 ∧ j.1 = 3) := by decide
theorem live_pairs (i : Nat) (hi : i < 4) (j : Nat) (hj : j < 4) (hij : i < j) (h : upF [3, 1, 2, 2] i j = true) : (i = 1 ∧ j = 2) ∨ (i = 1 ∧ j = 3) :=
  live_fin ⟨i, hi⟩ ⟨j, hj⟩ (by simp [hij, h])
theorem live_goes {ys : List Int} (h : Goes (upF [3, 1, 2, 2]) 4 ys) : ys = [1, 2] ∨ ys = [1, 3] := by
  obtain ⟨c, rfl, h1, h2⟩ := h
  have h3 : c.length = 2 := h2.eq (heaps_longest [3, 1, 2, 2])
  match c, h1, h3 with
  | [i, j], h1, _ =>
    rcases live_pairs i h1.head j h1.tail.head h1.two.1 h1.two.2 with ⟨rfl, rfl⟩ | ⟨rfl, rfl⟩
    · exact .inl rfl
    · exact .inr rfl
theorem Goes.len {f : Nat → Nat → Bool} {n : Nat} {ys : List Int} (h : Goes f n ys) : Longest f n ys.length := by
  obtain ⟨c, rfl, _, h2⟩ := h
  rw [List.length_map]
  exact h2

set_option maxHeartbeats 1000000 in
theorem linesLive_any (w : World) : Calls Try.prog 21 #[] w fun e w' => e = .returned (.bool true) ∧ Below w.heap.size w w' := by
  go_enter Try.func21, Try.ntmps21
  go_wp2_with fail
  refine (up_ok _ 4 4 [3, 1, 2, 2] _ (ints_lit w _ _ 4 [3, 1, 2, 2] rfl rfl) (by omega)).mono ?_
  rintro e w1 ⟨A1, n1, c1, ys, rfl, hb1, hI1, _, hg⟩
  have HB1 := hid (below_step (below_alloc w _) (Nat.le_refl _) hb1)
  have HI1 := hid hI1
  have HG := hid (live_goes hg)
  have hn1 : n1 = 2 := by
    have := hI1.len
    rcases live_goes hg with rfl | rfl <;> exact this.symm
  subst hn1
  clear hb1 hI1 hg
  go_wp2_with fail
  refine (lsplit_ok _ 4 4 [3, 1, 2, 2] _ (ints_lit w1 _ _ 4 [3, 1, 2, 2] rfl rfl) (by omega)).mono ?_
  rintro e w2 ⟨A3, n3, c3, rfl, hb2, hI3, _⟩
  rw [show pilesI [3, 1, 2, 2] = [0, 0, 1, 1] by decide] at hI3
  have hn3 : 4 = n3 := hI3.len
  subst hn3
  have HK := below_step (below_alloc w1 (.cells #[.int .i64 3, .int .i64 1, .int .i64 2, .int .i64 2] 3)) (Nat.le_refl _) hb2
  have HB2 := hid (below_step HB1.out (Nat.le_refl _) HK)
  have HI2 := hid (HI1.out.keep HK)
  have HI3 := hid hI3
  clear hb2 hI3 HK HB1 HI1
  go_wp2_with fail
  refine (good_bel w2 _ _ 2 [0, 0] rfl rfl (by omega)).mono ?_
  rintro e w3 ⟨rfl, hb3⟩
  rw [show allOK [0, 0] = true by decide]
  have HB3 := hid (below_step HB2.out (Nat.le_refl _) hb3)
  have HI4 := hid (HI2.out.keep hb3)
  have HI5 := hid (HI3.out.keep hb3)
  clear hb3 HB2 HI2 HI3
  rcases HG.out with hy | hy
  · subst hy
    clear HG
    obtain ⟨b1, o1, rfl, hlt1, hc1⟩ := HI4.out.row (by omega)
    have g2 := hc1 1 (by omega)
    have g2' : w3.cell? ⟨b1, o1 + 1, none⟩ = some (.int .i64 2) := g2
    have hY := hid (ints_lit w3 #[.int .i64 1, .int .i64 2] 3 2 [1, 2] rfl rfl)
    have hX := hid (HI4.out.keep (below_alloc w3 (.cells #[.int .i64 1, .int .i64 2] 3)))
    have hbb := hid (below_alloc w3 (.cells #[.int .i64 1, .int .i64 2] 3))
    clear hc1 g2
    go_wp2_with fail
    refine (equal_bel _ 2 c1 _ 2 2 _ [1, 2] _ hX.out hY.out (by omega) (by omega)).mono ?_
    rintro e w4 ⟨rfl, hb4⟩
    rw [show decide (([1, 2] : List Int) = [1, 2]) = true by decide]
    have HK := hbb.out.trans (hb4.mono hbb.out.size)
    have HB4 := hid (below_step HB3.out (Nat.le_refl _) HK)
    have g3 : w4.cell? ⟨b1, o1 + 1, none⟩ = some (.int .i64 2) := (HK.cell (p := ⟨b1, o1 + 1, none⟩) hlt1).trans g2'
    have hY2 := hid (ints_lit w4 #[.int .i64 0, .int .i64 0, .int .i64 1, .int .i64 1] 3 4 [0, 0, 1, 1] rfl rfl)
    have hX2 := hid ((HI5.out.keep HK).keep (below_alloc w4 (.cells #[.int .i64 0, .int .i64 0, .int .i64 1, .int .i64 1] 3)))
    have hbb2 := hid (below_alloc w4 (.cells #[.int .i64 0, .int .i64 0, .int .i64 1, .int .i64 1] 3))
    clear hb4 HK hX hY hbb HB3 g2' HI4 HI5
    go_wp2_with fail
    refine (equal_bel A3 4 c3 _ 4 4 _ [0, 0, 1, 1] _ hX2.out hY2.out (by omega) (by omega)).mono ?_
    rintro e w5 ⟨rfl, hb5⟩
    rw [show decide (([0, 0, 1, 1] : List Int) = [0, 0, 1, 1]) = true by decide]
    have HB5 := hid (below_step HB4.out (Nat.le_refl _) (hbb2.out.trans (hb5.mono hbb2.out.size)))
    clear hb5 HB4
    go_wp2
    go_ret
    exact ⟨rfl, HB5.out⟩
  · subst hy
    clear HG
    obtain ⟨b1, o1, rfl, hlt1, hc1⟩ := HI4.out.row (by omega)
    have g2 := hc1 1 (by omega)
    have g2' : w3.cell? ⟨b1, o1 + 1, none⟩ = some (.int .i64 3) := g2
    have hY := hid (ints_lit w3 #[.int .i64 1, .int .i64 2] 3 2 [1, 2] rfl rfl)
    have hX := hid (HI4.out.keep (below_alloc w3 (.cells #[.int .i64 1, .int .i64 2] 3)))
    have hbb := hid (below_alloc w3 (.cells #[.int .i64 1, .int .i64 2] 3))
    clear hc1 g2
    go_wp2_with fail
    refine (equal_bel _ 2 c1 _ 2 2 _ [1, 2] _ hX.out hY.out (by omega) (by omega)).mono ?_
    rintro e w4 ⟨rfl, hb4⟩
    rw [show decide (([1, 3] : List Int) = [1, 2]) = false by decide]
    have HK := hbb.out.trans (hb4.mono hbb.out.size)
    have HB4 := hid (below_step HB3.out (Nat.le_refl _) HK)
    have g3 : w4.cell? ⟨b1, o1 + 1, none⟩ = some (.int .i64 3) := (HK.cell (p := ⟨b1, o1 + 1, none⟩) hlt1).trans g2'
    have hY2 := hid (ints_lit w4 #[.int .i64 0, .int .i64 0, .int .i64 1, .int .i64 1] 3 4 [0, 0, 1, 1] rfl rfl)
    have hX2 := hid ((HI5.out.keep HK).keep (below_alloc w4 (.cells #[.int .i64 0, .int .i64 0, .int .i64 1, .int .i64 1] 3)))
    have hbb2 := hid (below_alloc w4 (.cells #[.int .i64 0, .int .i64 0, .int .i64 1, .int .i64 1] 3))
    clear hb4 HK hX hY hbb HB3 g2' HI4 HI5
    go_wp2_with fail
    refine (equal_bel A3 4 c3 _ 4 4 _ [0, 0, 1, 1] _ hX2.out hY2.out (by omega) (by omega)).mono ?_
    rintro e w5 ⟨rfl, hb5⟩
    rw [show decide (([0, 0, 1, 1] : List Int) = [0, 0, 1, 1]) = true by decide]
    have HB5 := hid (below_step HB4.out (Nat.le_refl _) (hbb2.out.trans (hb5.mono hbb2.out.size)))
    clear hb5 HB4
    go_wp2
    go_ret
    exact ⟨rfl, HB5.out⟩

end Go.Proofs.Ytdcmknnmdiocdaa
