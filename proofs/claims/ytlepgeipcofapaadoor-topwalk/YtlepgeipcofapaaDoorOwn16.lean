/-
  A row of uint16s that the call itself has made. Nothing of the program is proved here.
-/
import Derived.Test.YtlepgeipcofapaaDoorBase
import Derived.Laws.OwnMore
import Derived.Deep.OwnRows
namespace Go.Proofs.YtlepgeipcofapaaDoor
open Go.RowKit

def enc16 (n : Nat) : Value := .int .u16 (n : Int)
/-- Block g is a row of uint16s with room for cap of them, and begins with xs. -/
def U16 (w : World) (g cap : Nat) (xs : List Nat) : Prop := w.ownsRow 0 30 1 (.slice (some ⟨g, 0, none⟩) xs.length cap) xs.length (xs.map enc16)

namespace U16
variable {w w' : World} {g cap : Nat} {xs : List Nat}
theorem cell (h : U16 w g cap xs) {j : Nat} (hj : j < xs.length) : w.cell? ⟨g, j, none⟩ = some (.int .u16 ((xs.getD j 0 : Nat) : Int)) := by
  rw [World.ownsRow.cellAt h j (by omega)]
  simp [List.getD_eq_getElem?_getD, List.getElem?_eq_getElem hj, enc16]
theorem frozen (h : U16 w g cap xs) (j : Nat) : w.frozen? ⟨g, j, none⟩ = false := World.ownsRow.frozenAt h j
theorem lt (h : U16 w g cap xs) : g < w.heap.size := (World.ownsRow.lt h g rfl).2
theorem set (h : U16 w g cap xs) (j x : Nat) : U16 (w.setCell ⟨g, j, none⟩ (.int .u16 (x : Int))) g cap (xs.set j x) := by
  have := (World.ownsRow.stored h j (enc16 x)).1
  unfold U16
  rw [List.length_set, List.map_set]
  exact this
theorem drewN (h : U16 w g cap xs) (k : Nat) : U16 (w.drewN k) g cap xs := h
theorem of_block (h : U16 w g cap xs) (e : w'.heap[g]? = w.heap[g]?) : U16 w' g cap xs := by
  refine ⟨h.1, ?_⟩
  rcases h.2 with h0 | ⟨g', cap', cur, hv, hg, hh, r⟩
  · exact .inl h0
  · refine .inr ⟨g', cap', cur, hv, hg, ?_, r⟩
    injection hv with hv _ _
    injection hv with hv
    injection hv with hv _ _
    subst hv
    exact e.trans hh
theorem keep (h : U16 w g cap xs) (hb : Below w.heap.size w w') : U16 w' g cap xs := h.of_block (hb.block g h.lt)
theorem kept (h : U16 w g cap xs) {r : Nat} (hb : w.grownBy w' (some r)) (hne : g ≠ r) : U16 w' g cap xs := h.of_block (hb.block g h.lt (fun e => hne (by injection e)))
theorem alloc (h : U16 w g cap xs) (o : Obj) : U16 (w.alloc o) g cap xs := h.of_block (Below.heap_alloc w o g h.lt)
theorem cap_le (h : U16 w g cap xs) : xs.length ≤ cap := by
  rcases h.2 with ⟨h0, _⟩ | ⟨g', cap', cur, hv, _, _, hc, _⟩
  · cases h0
  · injection hv with _ _ hv
    subst hv
    exact hc
theorem made (w : World) (n : Nat) (hn : n ≤ 1000000) : U16 (w.alloc (.cells (madeCells #[.int .u16 0] n) 30)) w.heap.size n (List.replicate n 0) := by
  refine ⟨by simp, .inr ⟨w.heap.size, n, madeCells #[.int .u16 0] n, by simp, Nat.zero_le _, heap_alloc_new w _, by simp, by unfold maxLen; omega, by rw [size_madeCells, Nat.mul_one], ?_⟩⟩
  apply List.ext_getElem?
  intro i
  rw [List.length_replicate, Nat.mul_one, List.getElem?_take, List.map_replicate]
  by_cases hi : i < n
  · simp [madeCells, hi, Nat.mod_one, enc16]
  · simp [hi]
end U16

/-- The first k are set. -/
def part16 (f : Nat → Nat) (n k : Nat) : List Nat := (List.range n).map (fun i => if i < k then f i else 0)
theorem length_part16 (f : Nat → Nat) (n k : Nat) : (part16 f n k).length = n := by simp [part16]
theorem getD_part16 {f : Nat → Nat} {n k i : Nat} (hi : i < n) : (part16 f n k).getD i 0 = if i < k then f i else 0 := by
  simp [part16, List.getD_eq_getElem?_getD, hi]
theorem part16_zero (f : Nat → Nat) (n : Nat) : part16 f n 0 = List.replicate n 0 := by
  apply List.ext_getElem (by simp [part16])
  intro i h1 h2
  simp [part16]
theorem part16_step (f : Nat → Nat) (n k : Nat) : (part16 f n k).set k (f k) = part16 f n (k + 1) := by
  apply List.ext_getElem (by simp [part16])
  intro i h1 h2
  rw [List.getElem_set]
  by_cases h : k = i
  · subst h
    simp [part16]
  · simp only [if_neg h, part16, List.getElem_map, List.getElem_range]
    by_cases h3 : i < k
    · rw [if_pos h3, if_pos (by omega)]
    · rw [if_neg h3, if_neg (by omega)]
theorem part16_all (f : Nat → Nat) (n : Nat) : part16 f n n = (List.range n).map f := by
  apply List.map_congr_left
  intro i hi
  rw [if_pos (List.mem_range.1 hi)]

end Go.Proofs.YtlepgeipcofapaaDoor
