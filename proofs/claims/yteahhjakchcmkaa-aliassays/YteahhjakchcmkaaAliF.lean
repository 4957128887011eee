/-
  A block of columns that the call made whole.
-/
import Derived.Test.YteahhjakchcmkaaAliU
import Derived.Laws.MakeOwn
namespace Go.Proofs.Yteahhjakchcmkaa
open Go.RowKit

theorem infoCol : (Try.prog.info? 32).map (fun i => (i.zero, i.size, i.bytes)) = some (some (.agg #[.int .i64 0, .int .i64 0]), 2, 16) := by kernel_rfl
theorem run_make_cols (n : Nat) (hn : n ≤ 1000) (w : World) :
    (Instr.makeSlice 23 (.int .i64 (n : Int)) (.int .i64 (n : Int))).run Try.prog w = .ok (.slice (some ⟨w.heap.size, 0, none⟩) n n) (w.alloc (.cells (madeCells #[.int .i64 0, .int .i64 0] (n * 2)) 32)) := by
  obtain ⟨i, hi, hzz⟩ := Option.map_eq_some_iff.1 infoCol
  simp only [Prod.mk.injEq] at hzz
  obtain ⟨hz, hs, hb⟩ := hzz
  have hr := run_make (P := Try.prog) w 23 32 i _ Try.underlying23 hi hz .i64 .i64 n n (by omega) (Int.le_refl _) (by rw [hb]; omega) (by omega)
  simp only [Int.toNat_natCast, hs] at hr
  exact hr

/-- Block g is a row of columns, and holds cs. -/
def CArr (w : World) (g : Nat) (cs : List (Int × Int)) : Prop := w.rowIs g 32 (cs.length * 2) (fun j => .int .i64 (if j % 2 = 0 then cut cs (j / 2) else oth cs (j / 2)))
namespace CArr
variable {w : World} {g : Nat} {cs : List (Int × Int)}
theorem cellCA (h : CArr w g cs) {j : Nat} (hj : j < cs.length) : w.cell? ⟨g, j * 2, none⟩ = some (.int .i64 (cut cs j)) := by
  rw [World.rowIs.cell h (by omega), if_pos (by omega), show j * 2 / 2 = j by omega]
theorem cellOA (h : CArr w g cs) {j : Nat} (hj : j < cs.length) : w.cell? ⟨g, j * 2 + 1, none⟩ = some (.int .i64 (oth cs j)) := by
  rw [World.rowIs.cell h (by omega), if_neg (by omega), show (j * 2 + 1) / 2 = j by omega]
theorem frozenA (h : CArr w g cs) (j : Nat) : w.frozen? ⟨g, j, none⟩ = false := World.rowIs.frozen h j
theorem ltA (h : CArr w g cs) : g < w.heap.size := World.rowIs.lt h
theorem ofBlock {w' : World} (h : CArr w g cs) (e : w'.heap[g]? = w.heap[g]?) : CArr w' g cs := World.rowIs.of_block h e
theorem keepA {w' : World} (h : CArr w g cs) (hb : Below w.heap.size w w') : CArr w' g cs := h.ofBlock (hb.block g h.ltA)
theorem keptA {w' : World} (h : CArr w g cs) {r : Nat} (hb : w.grownBy w' (some r)) (hne : g ≠ r) : CArr w' g cs := h.ofBlock (hb.block g h.ltA (fun e => hne (by injection e)))
theorem allocA (h : CArr w g cs) (o : Obj) : CArr (w.alloc o) g cs := World.rowIs.alloc h o
theorem drewNA (h : CArr w g cs) (k : Nat) : CArr (w.drewN k) g cs := h
theorem setOtherA (h : CArr w g cs) {a : Addr} (ha : g ≠ a.block) (v : Value) : CArr (w.setCell a v) g cs := World.rowIs.setOther h ha v
theorem madeA (w : World) (n : Nat) : CArr (w.alloc (.cells (madeCells #[.int .i64 0, .int .i64 0] (n * 2)) 32)) w.heap.size (List.replicate n (0, 0)) := by
  unfold CArr
  rw [List.length_replicate]
  have h := World.rowIs_alloc w (madeCells #[.int .i64 0, .int .i64 0] (n * 2)) 32 (fun j => .int .i64 (if j % 2 = 0 then cut (List.replicate n (0, 0)) (j / 2) else oth (List.replicate n (0, 0)) (j / 2))) (fun j hj => by
    rw [size_madeCells] at hj
    have h2 : cut (List.replicate n (0, 0)) (j / 2) = 0 := by unfold cut; rw [List.getD_eq_getElem?_getD, List.getElem?_replicate, if_pos (by omega)]; rfl
    have h3 : oth (List.replicate n (0, 0)) (j / 2) = 0 := by unfold oth; rw [List.getD_eq_getElem?_getD, List.getElem?_replicate, if_pos (by omega)]; rfl
    have e : (if j % 2 = 0 then cut (List.replicate n (0, 0)) (j / 2) else oth (List.replicate n (0, 0)) (j / 2)) = 0 := by split <;> assumption
    rw [e]
    have hm : j % 2 = 0 ∨ j % 2 = 1 := by omega
    rcases hm with hm | hm <;> simp [madeCells, hj, hm])
  rwa [size_madeCells] at h
theorem setA (h : CArr w g cs) {p : Nat} (hp : p < cs.length) (a b : Int) : CArr ((w.setCell ⟨g, p * 2, none⟩ (.int .i64 a)).setCell ⟨g, p * 2 + 1, none⟩ (.int .i64 b)) g (cs.set p (a, b)) := by
  unfold CArr
  rw [List.length_set]
  refine ((World.rowIs.set h (p * 2) (.int .i64 a)).set (p * 2 + 1) (.int .i64 b)).congr fun j hj => ?_
  rw [cut_set hp, oth_set hp]
  by_cases e1 : j = p * 2 + 1
  · rw [if_pos e1, if_neg (by omega), if_pos (by omega)]
  · rw [if_neg e1]
    by_cases e2 : j = p * 2
    · rw [if_pos e2, if_pos (by omega), if_pos (by omega)]
    · rw [if_neg e2]
      by_cases e3 : j % 2 = 0
      · rw [if_pos e3, if_pos e3, if_neg (by omega)]
      · rw [if_neg e3, if_neg e3, if_neg (by omega)]
/-- As a slice that is read. -/
theorem cols (h : CArr w g cs) {n : Nat} (hn : cs.length = n) : Cols w (some ⟨g, 0, none⟩) n cs :=
  ⟨hn, fun _ => ⟨g, 0, rfl, h.ltA, fun j hj => by
    rw [Nat.zero_add]
    exact ⟨h.cellCA (by omega), h.cellOA (by omega)⟩⟩⟩
end CArr
end Go.Proofs.Yteahhjakchcmkaa
