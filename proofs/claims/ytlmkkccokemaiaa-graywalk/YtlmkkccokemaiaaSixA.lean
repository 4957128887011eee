/-
  The library's sort at []uint16: what every part of it does: the row holds the same numbers in another order. cmp.Less; reverseRangeOrdered; insertionSortOrdered.
-/
import Derived.Test.YtlmkkccokemaiaaOwn16
namespace Go.Proofs.Ytlmkkccokemaiaa
open Go.RowKit

theorem isNaN16 (x : Int) (w : World) : Calls Try.prog 33 #[.int .u16 x] w fun e w' => e = .returned (.bool false) ∧ w = w' := by
  have hx : (x != x) = false := by simp
  go_enter Try.func33, Try.ntmps33
  go_wp2
  go_ret
  exact ⟨rfl, rfl⟩

set_option maxHeartbeats 400000 in
theorem less16 (x y : Int) (w : World) : Calls Try.prog 23 #[.int .u16 x, .int .u16 y] w fun e w' => e = .returned (.bool (decide (x < y))) ∧ w = w' := by
  go_enter Try.func23, Try.ntmps23
  go_wp2_with (go_at_call 33; refine (isNaN16 _ _).mono ?_; rintro e w' ⟨rfl, rfl⟩)
  go_ret
  exact ⟨rfl, rfl⟩
theorem less16_b (x y : Int) (b : Bool) (w : World) (h : decide (x < y) = b) : Calls Try.prog 23 #[.int .u16 x, .int .u16 y] w fun e w'' => e = .returned (.bool b) ∧ w'' = w :=
  (less16 x y w).mono fun e w' ⟨he, hw⟩ => ⟨by rw [he, h], hw.symm⟩

theorem grown_refl (a : World) (row : Option Nat) : a.grownBy a row := ⟨rfl, rfl, rfl, Nat.le_refl _, fun _ _ _ => rfl⟩
theorem grown_drewN {a w : World} {row : Option Nat} (h : a.grownBy w row) (n : Nat) : a.grownBy (w.drewN n) row := ⟨h.os, h.tape, h.output, h.size, h.block⟩
theorem grown_set {a w : World} {g : Nat} (h : a.grownBy w (some g)) (j : Nat) (u : Value) : a.grownBy (w.setCell ⟨g, j, none⟩ u) (some g) :=
  ⟨h.os, h.tape, h.output, by simpa [World.setCell] using h.size, fun i hi hne => (Below.heap_setCell w ⟨g, j, none⟩ u i (by rintro rfl; exact hne rfl)).trans (h.block i hi hne)⟩
theorem grown_trans {a b c : World} {row : Option Nat} (h : a.grownBy b row) (k : b.grownBy c row) : a.grownBy c row :=
  ⟨k.os.trans h.os, k.tape.trans h.tape, k.output.trans h.output, Nat.le_trans h.size k.size, fun i hi hne => (k.block i (Nat.lt_of_lt_of_le hi h.size) hne).trans (h.block i hi hne)⟩
theorem grown_below {a b c : World} {row : Option Nat} (h : a.grownBy b row) (k : Below b.heap.size b c) : a.grownBy c row :=
  ⟨k.os.trans h.os, k.tape.trans h.tape, k.output.trans h.output, Nat.le_trans h.size k.size, fun i hi hne => (k.block i (Nat.lt_of_lt_of_le hi h.size)).trans (h.block i hi hne)⟩

/-- Two places of a list change their numbers. -/
def swapN (ys : List Nat) (i j : Nat) : List Nat := (ys.set i (ys.getD j 0)).set j (ys.getD i 0)
theorem swapN_perm {ys : List Nat} {i j : Nat} (hi : i < ys.length) (hj : j < ys.length) : (swapN ys i j).Perm ys := by
  unfold swapN
  rw [List.getD_eq_getElem?_getD, List.getD_eq_getElem?_getD, List.getElem?_eq_getElem hi, List.getElem?_eq_getElem hj]
  exact List.set_set_perm hi hj

/-- The row holds the numbers xs in some order; nothing else that was there in w0 has turned. -/
def Mix (w0 : World) (g cap : Nat) (xs : List Nat) (wr : World) : Prop := ∃ ys, U16 wr g cap ys ∧ ys.Perm xs ∧ w0.grownBy wr (some g)
namespace Mix
variable {w0 w1 w2 wr : World} {g cap : Nat} {xs ys : List Nat}
theorem refl (h : U16 w0 g cap xs) : Mix w0 g cap xs w0 := ⟨xs, h, List.Perm.refl _, grown_refl _ _⟩
theorem drewN (h : Mix w0 g cap xs wr) (k : Nat) : Mix w0 g cap xs (wr.drewN k) := by
  obtain ⟨ys, h1, h2, h3⟩ := h
  exact ⟨ys, h1.drewN k, h2, grown_drewN h3 k⟩
theorem drew (h : Mix w0 g cap xs wr) : Mix w0 g cap xs wr.drew := h.drewN 1
theorem trans (hP : ys.Perm xs) (hG : w0.grownBy w1 (some g)) (h : Mix w1 g cap ys w2) : Mix w0 g cap xs w2 := by
  obtain ⟨zs, h1, h2, h3⟩ := h
  exact ⟨zs, h1, h2.trans hP, grown_trans hG h3⟩
theorem below (h : Mix w0 g cap xs wr) (hb : Below wr.heap.size wr w2) : Mix w0 g cap xs w2 := by
  obtain ⟨zs, h1, h2, h3⟩ := h
  exact ⟨zs, h1.keep hb, h2, grown_below h3 hb⟩
theorem swap {i j x y : Nat} (hO : U16 wr g cap ys) (hP : ys.Perm xs) (hG : w0.grownBy wr (some g)) (hi : i < ys.length) (hj : j < ys.length) (hx : ys.getD i 0 = x) (hy : ys.getD j 0 = y) :
    Mix w0 g cap xs ((wr.setCell ⟨g, i, none⟩ (.int .u16 (y : Int))).setCell ⟨g, j, none⟩ (.int .u16 (x : Int))) := by
  refine ⟨swapN ys i j, ?_, (swapN_perm hi hj).trans hP, grown_set (grown_set hG i _) j _⟩
  unfold swapN
  rw [hx, hy]
  exact (hO.set i y).set j x
/-- A place and itself. -/
theorem same {i x : Nat} (hO : U16 wr g cap ys) (hP : ys.Perm xs) (hG : w0.grownBy wr (some g)) (hi : i < ys.length) (hx : ys.getD i 0 = x) :
    Mix w0 g cap xs ((wr.setCell ⟨g, i, none⟩ (.int .u16 (x : Int))).setCell ⟨g, i, none⟩ (.int .u16 (x : Int))) := swap hO hP hG hi hi hx hx
end Mix
/-- In place: the row is mixed. -/
def RetMix (w : World) (g cap : Nat) (xs : List Nat) (e : Ending) (w' : World) : Prop := e = .returned (.tuple #[]) ∧ Mix w g cap xs w'

set_option maxHeartbeats 800000 in
theorem reverse16 (g n cap a b : Nat) (xs : List Nat) (w : World) (h : U16 w g cap xs) (hl : xs.length = n) (hab : a ≤ b) (hb : b ≤ n) (hn : n ≤ 1000000) :
    Calls Try.prog 21 #[.slice (some ⟨g, 0, none⟩) n cap, .int .i64 (a : Int), .int .i64 (b : Int)] w (RetMix w g cap xs) := by
  have HL := hid hl
  have H0 := hid h
  clear hl h
  go_enter Try.func21, Try.ntmps21
  go_wp2
  go_loopg [6, 7] n (fun gh s t wr => ∃ (i : Nat) (j : Int), i ≤ n ∧ n - i ≤ gh ∧ -1000000 ≤ j ∧ j < n ∧ s = .int .i64 (i : Int) ∧ t = .int .i64 j ∧ Mix w g cap xs wr)
  case atStart => exact ⟨a, (b : Int) - 1, by omega, by omega, by omega, by omega, rfl, by go_num, Mix.refl H0.out⟩
  case round =>
    obtain ⟨i, j, hi, hg, hj0, hj, rfl, rfl, hmix⟩ := hrel
    have HM := hid hmix
    clear hmix
    by_cases hlt : (i : Int) < j
    · obtain ⟨m, rfl⟩ := Int.eq_ofNat_of_zero_le (show 0 ≤ j by omega)
      obtain ⟨ys, hO, hP, hG⟩ := HM.out
      have hly : ys.length = n := by rw [hP.length_eq, HL.out]
      have hin : i < n := by omega
      have hmn : m < n := by omega
      have him : i ≠ m := by omega
      have g1 := hO.cell (j := i) (by omega)
      have g2 := hO.cell (j := m) (by omega)
      have f1 := hO.frozen i
      have f2 := hO.frozen m
      have HS := hid (fun x y => Mix.swap (x := x) (y := y) hO hP hG (i := i) (j := m) (by omega) (by omega))
      clear hO hP hG HM hly
      generalize hx : ys.getD i 0 = x at g1 HS
      generalize hy : ys.getD m 0 = y at g2 HS
      have HS2 := hid (HS.out x y rfl rfl)
      clear HS hx hy
      go_wp2_with fail
      go_region
      go_wp2
      go_roundg (n - (i + 1))
      case measure => omega
      case rel => exact ⟨i + 1, (m : Int) - 1, by omega, by omega, by omega, by omega, by go_num, by go_num, HS2.out.drewN _⟩
    · go_wp2
      go_end0
      exact ⟨rfl, HM.out⟩

end Go.Proofs.Ytlmkkccokemaiaa
