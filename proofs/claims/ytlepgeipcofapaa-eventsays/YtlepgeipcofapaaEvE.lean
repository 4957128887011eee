/-
  castkeep.events; laws over ratios: bounds, what is known of them.
-/
import Derived.Test.YtlepgeipcofapaaEvB
import Derived.Test.YtlepgeipcofapaaRatI
namespace Go.Proofs.Ytlepgeipcofapaa
open Go.RowKit

theorem live3 : Space [1, 2, 3] := ⟨by simp, by simp, by simp⟩
theorem liveC : (chR [1, 2, 3] 5).num = 2 ∧ ((chR [1, 2, 3] 5).den : Int) = 3 := by decide +kernel
theorem liveG : (gvR [1, 2, 3] 4 6).num = 3 ∧ ((gvR [1, 2, 3] 4 6).den : Int) = 5 := by decide +kernel

set_option maxHeartbeats 1600000 in
set_option maxRecDepth 100000 in
theorem events_any (w : World) : Calls Try.prog 16 #[] w fun e w' => e = .returned (.bool true) ∧ Below w.heap.size w w' := by
  have HM : Hid (∀ W : World, Calls Try.prog 8 #[.slice (some ⟨W.heap.size, 0, none⟩) 3 3, .int .u16 5] (W.alloc (.cells #[.int .i64 1, .int .i64 2, .int .i64 3] 3)) (RetR (W.alloc (.cells #[.int .i64 1, .int .i64 2, .int .i64 3] 3)) 2 3 0)) := fun W => by
    have k := evChance_ok (some ⟨W.heap.size, 0, none⟩) 3 3 [1, 2, 3] 5 _ (ints_lit W #[.int .i64 1, .int .i64 2, .int .i64 3] 3 3 [1, 2, 3] rfl rfl) live3 (by omega)
    rw [liveC.1, liveC.2] at k
    exact k
  have HS : Hid (∀ W : World, Calls Try.prog 9 #[.slice (some ⟨W.heap.size + 1, 0, none⟩) 3 3, .int .u16 4, .int .u16 6] ((W.alloc (.cells #[.int .i64 2, .int .i64 3] 26)).alloc (.cells #[.int .i64 1, .int .i64 2, .int .i64 3] 3)) (RetR ((W.alloc (.cells #[.int .i64 2, .int .i64 3] 26)).alloc (.cells #[.int .i64 1, .int .i64 2, .int .i64 3] 3)) 3 5 0)) := fun W => by
    have hi := ints_lit (W.alloc (.cells #[.int .i64 2, .int .i64 3] 26)) #[.int .i64 1, .int .i64 2, .int .i64 3] 3 3 [1, 2, 3] rfl rfl
    rw [show (W.alloc (.cells #[.int .i64 2, .int .i64 3] 26)).heap.size = W.heap.size + 1 by simp] at hi
    have k := evGiven_ok _ 3 3 [1, 2, 3] 4 6 _ hi live3 (by omega) (by omega) (by omega)
    rw [liveG.1, liveG.2] at k
    exact k
  have HB0 := hid (below_alloc w (.cells #[.int .i64 1, .int .i64 2, .int .i64 3] 3))
  go_enter Try.func16, Try.ntmps16
  go_wp2_with fail
  refine (HM.out _).mono ?_
  rintro e w1 ⟨rfl, hb⟩
  have HB1 := hid (below_step HB0.out (Nat.le_refl _) hb)
  clear hb HB0 HM
  have HR1 := hid ((RatAt.new w1 26 2 3).keep_alloc (.cells #[.int .i64 1, .int .i64 2, .int .i64 3] 3))
  have HB2 := hid (below_step HB1.out (Nat.le_refl _) (two_alloc w1 (.cells #[.int .i64 2, .int .i64 3] 26) (.cells #[.int .i64 1, .int .i64 2, .int .i64 3] 3)))
  go_wp2_with fail
  refine (HS.out _).mono ?_
  rintro e w2 ⟨rfl, hb⟩
  have HB3 := hid (below_step HB2.out (Nat.le_refl _) hb)
  have HR2 := hid (HR1.out.keep hb)
  clear hb HB1 HB2 HS HR1
  have HR3 := hid ((HR2.out.keep_alloc (.cells #[.int .i64 3, .int .i64 5] 26)))
  have HS3 := hid (RatAt.new w2 26 3 5)
  have HB4 := hid (below_step HB3.out (Nat.le_refl _) (below_alloc w2 (.cells #[.int .i64 3, .int .i64 5] 26)))
  clear HB3 HR2
  go_wp2_with fail
  refine (good_bel1 _ _ _ _ 2 [0, 0] rfl rfl (by omega)).mono ?_
  rintro e w3 ⟨rfl, hb⟩
  rw [show allOK [0, 0] = true by decide]
  have g0 := (HR3.out.keep hb).p0
  have g1 := (HR3.out.keep hb).p1
  have g2 := (HS3.out.keep hb).p0
  have g3 := (HS3.out.keep hb).p1
  have HB5 := hid (below_step HB4.out (Nat.le_refl _) hb)
  clear hb HB4 HR3 HS3
  go_wp2
  go_ret
  exact ⟨rfl, HB5.out⟩

/-! Ratios of weights. -/
theorem divInt_add_same (x y t : Int) (h : t ≠ 0) : Rat.divInt x t + Rat.divInt y t = Rat.divInt (x + y) t := by
  rw [Rat.divInt_add_divInt _ _ h h, ← Int.add_mul, Rat.divInt_mul_right h]
theorem divInt_chain (x y t : Int) (hy : y ≠ 0) : Rat.divInt x y * Rat.divInt y t = Rat.divInt x t := by
  rw [Rat.divInt_mul_divInt, Int.mul_comm x y, Rat.divInt_mul_left hy]
theorem divInt_self' (t : Int) (h : t ≠ 0) : (Rat.divInt t t).num = 1 ∧ ((Rat.divInt t t).den : Int) = 1 := by
  have e : Rat.divInt t t = 1 := by
    have := Rat.divInt_mul_left (n := 1) (d := 1) h
    rw [Int.mul_one] at this
    rw [this]
    rfl
  rw [e]
  exact ⟨rfl, rfl⟩
theorem divInt_eq_num {x y u v : Int} (hy : y ≠ 0) (hv : v ≠ 0) : (((Rat.divInt x y).num == (Rat.divInt u v).num && ((Rat.divInt x y).den : Int) == ((Rat.divInt u v).den : Int)) = true) ↔ x * v = u * y := by
  rw [← Rat.divInt_eq_divInt_iff hy hv]
  constructor
  · intro h
    rw [Bool.and_eq_true, beq_iff_eq, beq_iff_eq] at h
    exact Rat.ext h.1 (by have := h.2; omega)
  · intro h
    rw [h]
    simp
theorem casesErr_swap (ws : List Int) (a b : Nat) : casesErr ws [a, b] = casesErr ws [b, a] := by
  unfold casesErr
  simp only [List.all_cons, List.all_nil, Bool.and_true]
  rw [Bool.and_comm]
theorem casesErr_two {ws : List Int} {a b : Nat} (h : casesErr ws [a] = 0) (k : casesErr ws [b] = 0) : casesErr ws [a, b] = 0 := by
  obtain ⟨hS, h1⟩ := casesErr_zero h
  obtain ⟨_, h2⟩ := casesErr_zero k
  exact casesErr_space hS (by simp; exact ⟨h1 a (by simp), h2 b (by simp)⟩)
theorem allOK_ne {l : List Int} {i : Nat} (h : l.getD i 0 ≠ 0) : allOK l = false := by
  rw [Bool.eq_false_iff]
  intro e
  refine h (allOK_true.1 e i ?_)
  apply Classical.byContradiction
  intro hi
  rw [List.getD_eq_getElem?_getD, List.getElem?_eq_none (by omega)] at h
  exact h rfl
theorem mask_16 {n : Nat} (h : n ≤ 16) : IntKind.u16.wrap (IntKind.u16.wrap ((2 : Int) ^ n) - 1) = ((2 ^ n - 1 : Nat) : Int) := by
  have h1 : 2 ^ n ≤ 2 ^ 16 := Nat.pow_le_pow_right (by omega) h
  have h2 := Nat.two_pow_pos n
  rw [IntKind.wrap_u16, IntKind.wrap_u16, pow_int]
  generalize 2 ^ n = z at *
  omega
end Go.Proofs.Ytlepgeipcofapaa
