/-
  A block of ints known whole; a slice from a place on; only one block has turned. Nothing of the program is proved here.
-/
import Derived.Test.YtaklchehamkgcaaDeal
import Derived.Laws.IdiomCopy
namespace Go.Proofs.Ytaklchehamkgcaa
open Go.RowKit

/-- Block g is a row of ints, and holds xs. -/
def Arr (w : World) (g : Nat) (xs : List Int) : Prop := w.rowIs g 3 xs.length (fun j => .int .i64 (xs.getD j 0))

namespace Arr
variable {w : World} {g : Nat} {xs : List Int}
theorem cell (h : Arr w g xs) {j : Nat} (hj : j < xs.length) : w.cell? ⟨g, j, none⟩ = some (.int .i64 (xs.getD j 0)) := World.rowIs.cell h hj
theorem frozen (h : Arr w g xs) (j : Nat) : w.frozen? ⟨g, j, none⟩ = false := World.rowIs.frozen h j
theorem lt (h : Arr w g xs) : g < w.heap.size := World.rowIs.lt h
theorem set (h : Arr w g xs) (i : Nat) (x : Int) : Arr (w.setCell ⟨g, i, none⟩ (.int .i64 x)) g (xs.set i x) := by
  unfold Arr
  rw [List.length_set]
  refine (World.rowIs.set h i (.int .i64 x)).congr fun j hj => ?_
  rw [getD_set]
  by_cases e : j = i
  · subst e
    rw [if_pos rfl, if_pos ⟨rfl, hj⟩]
  · rw [if_neg e, if_neg (fun h => e h.1)]
theorem setOther (h : Arr w g xs) {a : Addr} (ha : g ≠ a.block) (v : Value) : Arr (w.setCell a v) g xs := World.rowIs.setOther h ha v
theorem of_block {w' : World} (h : Arr w g xs) (e : w'.heap[g]? = w.heap[g]?) : Arr w' g xs := World.rowIs.of_block h e
theorem keep {w' : World} (h : Arr w g xs) (hb : Below w.heap.size w w') : Arr w' g xs := h.of_block (hb.block g h.lt)
theorem kept {w' : World} (h : Arr w g xs) {r : Nat} (hb : w.grownBy w' (some r)) (hne : g ≠ r) : Arr w' g xs := h.of_block (hb.block g h.lt (fun e => hne (by injection e)))
theorem alloc (h : Arr w g xs) (o : Obj) : Arr (w.alloc o) g xs := World.rowIs.alloc h o
theorem drewN (h : Arr w g xs) (k : Nat) : Arr (w.drewN k) g xs := h
theorem drew (h : Arr w g xs) : Arr w.drew g xs := h
theorem made (w : World) (n : Nat) : Arr (w.alloc (.cells (madeCells #[.int .i64 0] n) 3)) w.heap.size (List.replicate n 0) := by
  unfold Arr
  rw [List.length_replicate]
  refine (World.rowIs_made w _ n _).congr fun j hj => ?_
  simp [List.getD_eq_getElem?_getD, hj]
/-- As a slice that is read, from o on. -/
theorem ints (h : Arr w g xs) (o m : Nat) (hm : o + m ≤ xs.length) : Ints w (some ⟨g, o, none⟩) m ((xs.drop o).take m) := by
  refine ⟨by rw [List.length_take, List.length_drop]; omega, fun _ => ⟨g, o, rfl, h.lt, fun j hj => ?_⟩⟩
  rw [h.cell (by omega)]
  simp [List.getD_eq_getElem?_getD, hj]
theorem ints0 (h : Arr w g xs) (m : Nat) (hm : m ≤ xs.length) : Ints w (some ⟨g, 0, none⟩) m (xs.take m) := by
  have := h.ints 0 m (by omega)
  rwa [List.drop_zero] at this
theorem setCells : ∀ {ys : List Int} {w : World} {xs : List Int} {o : Nat}, Arr w g xs → o + ys.length ≤ xs.length →
    Arr (w.setCells g o (ys.map (Value.int .i64))) g (xs.take o ++ ys ++ xs.drop (o + ys.length))
  | [], w, xs, o, h, _ => by simpa [World.setCells] using h
  | y :: ys, w, xs, o, h, hl => by
    rw [List.length_cons] at hl
    have ih := setCells (ys := ys) (o := o + 1) (h.set o y) (by rw [List.length_set]; omega)
    rw [List.map_cons, World.setCells]
    have e : (xs.set o y).take (o + 1) ++ ys ++ (xs.set o y).drop (o + 1 + ys.length) = xs.take o ++ (y :: ys) ++ xs.drop (o + (y :: ys).length) := by
      rw [take_snoc (by rw [List.length_set]; omega), getD_set, if_pos ⟨rfl, by omega⟩, List.take_set_of_le (by omega), List.drop_set_of_lt (by omega), List.length_cons]
      simp [Nat.add_assoc, Nat.add_comm 1]
    rw [← e]
    exact ih
end Arr

/-! ### Only one block has turned -/
theorem one_refl (a : World) (row : Option Nat) : a.grownBy a row := ⟨rfl, rfl, rfl, Nat.le_refl _, fun _ _ _ => rfl⟩
theorem one_drewN {a w : World} {row : Option Nat} (h : a.grownBy w row) (n : Nat) : a.grownBy (w.drewN n) row := ⟨h.os, h.tape, h.output, h.size, h.block⟩
theorem one_drew {a w : World} {row : Option Nat} (h : a.grownBy w row) : a.grownBy w.drew row := ⟨h.os, h.tape, h.output, h.size, h.block⟩
theorem one_set {a w : World} {g : Nat} (h : a.grownBy w (some g)) (j : Nat) (u : Value) : a.grownBy (w.setCell ⟨g, j, none⟩ u) (some g) :=
  ⟨h.os, h.tape, h.output, by simpa [World.setCell] using h.size, fun i hi hne => (Below.heap_setCell w ⟨g, j, none⟩ u i (by rintro rfl; exact hne rfl)).trans (h.block i hi hne)⟩
theorem one_sets {a : World} {g : Nat} : ∀ {vs : List Value} {w : World} {o : Nat}, a.grownBy w (some g) → a.grownBy (w.setCells g o vs) (some g)
  | [], _, _, h => h
  | v :: vs, _, _, h => one_sets (vs := vs) (one_set h _ v)
/-- A block of the call's own has turned: nothing below. -/
theorem below_one {B g : Nat} {a b c : World} (h : Below B a b) (hg : B ≤ g) (hB : B ≤ b.heap.size) (k : b.grownBy c (some g)) : Below B a c :=
  h.trans ⟨k.os, k.tape, k.output, k.size, fun i hi => k.block i (Nat.lt_of_lt_of_le hi hB) (fun e => by injection e with e; omega)⟩

/-! ### 'xs[l:]' -/
def subA (A : Option Addr) (c l : Nat) : Option Addr := if c = l then A else A.map (·.add l)
theorem Ints.drop {w : World} {A : Option Addr} {n c l : Nat} {xs : List Int} (h : Ints w A n xs) (hl : l ≤ n) (hc : n ≤ c) : Ints w (subA A c l) (n - l) (xs.drop l) := by
  refine ⟨by rw [List.length_drop, h.len], fun hp => ?_⟩
  obtain ⟨b, o, rfl, hb, hcell⟩ := h.row (by omega)
  refine ⟨b, o + l, ?_, hb, fun j hj => ?_⟩
  · unfold subA
    rw [if_neg (by omega)]
    simp only [Option.map_some, Addr.add]
    by_cases h0 : l = 0
    · subst h0
      rfl
    · rw [if_neg h0]
  · rw [show o + l + j = o + (l + j) by omega, hcell (l + j) (by omega)]
    simp [List.getD_eq_getElem?_getD]
set_option maxRecDepth 100000 in
theorem sizeInt : ∀ w, (Go.sizeOf 3).run Try.prog w = .ok 1 w := by
  exact fun _ => by kernel_rfl
theorem run_from (A : Option Addr) (n c l : Nat) (L : Int) (hL : L = (l : Int)) (hl : l ≤ n) (W : World) :
    (Instr.slice 22 (.slice A n c) (some (.int .i64 L)) none none).run Try.prog W = .ok (.slice (subA A c l) (n - l) (c - l)) W := by
  subst hL
  have ht' : Try.prog.underlying 22 = some (.slice (Try.prog.elem 22)) := by simp [Program.elem, Try.underlying22]
  have he : Try.prog.elem 22 = 3 := by simp [Program.elem, Try.underlying22]
  rw [run_slice_l W _ _ _ _ ht' .i64 _ (by omega) (by omega), he, sizeInt]
  simp [Result.andThen, sliced, subA]

end Go.Proofs.Ytaklchehamkgcaa
