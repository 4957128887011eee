/-
  blocks.counts, Count, All; castkeep.heaps.
-/
import Derived.Test.YtigfhpffghajaaaBlkS
import Derived.Test.YtigfhpffghajaaaGen
import Derived.Deep.WholeRow
import Derived.Deep.OwnRows
namespace Go.Proofs.Ytigfhpffghajaaa
open Go.RowKit

/-- The cells in round r, those above i done. -/
def cellS (r i j : Nat) : Value := .int .i64 ((if i < j then stir (r + 1) j else stir r j : Nat) : Int)
theorem cellS_step {r i j : Nat} : (if j = i + 1 then Value.int .i64 (((stir r (i + 1) : Nat) : Int) * ((i : Int) + 1) + ((stir r i : Nat) : Int)) else cellS r (i + 1) j) = cellS r i j := by
  unfold cellS
  by_cases e : j = i + 1
  · subst e
    rw [if_pos rfl, if_pos (by omega)]
    exact congrArg (Value.int IntKind.i64) (show _ = ((stir r (i + 1) * (i + 1) + stir r i : Nat) : Int) by simp)
  · rw [if_neg e]
    by_cases h : i < j
    · rw [if_pos h, if_pos (by omega)]
    · rw [if_neg h, if_neg (by omega)]
theorem cellS_next {r j : Nat} (h : j < 11) : (if j = 0 then Value.int .i64 0 else cellS r 0 j) = cellS (r + 1) 10 j := by
  unfold cellS
  rw [if_neg (show ¬ 10 < j by omega)]
  cases j with
  | zero =>
    rw [if_pos rfl]
    rfl
  | succ j =>
    rw [if_neg (by omega), if_pos (by omega)]
def stirCells (n : Nat) : Array Value := ((List.range 11).map (fun k => Value.int .i64 ((stir n k : Nat) : Int))).toArray
theorem size_stirCells (n : Nat) : (stirCells n).size = 11 := rfl
theorem at_stirCells (n : Nat) {j : Nat} (h : j < 11) : (stirCells n)[j]? = some (.int .i64 ((stir n j : Nat) : Int)) := by
  simp [stirCells, h]
theorem one_stirCells (n : Nat) : (stirCells n).all (·.oneCell') = true := by
  rw [Array.all_eq_true_iff_forall_mem]
  intro v hv
  simp only [stirCells, List.mem_toArray, List.mem_map] at hv
  obtain ⟨k, _, rfl⟩ := hv
  rfl
theorem heap_setRow {w : World} {g t : Nat} {old cs : Array Value} (h : w.heap[g]? = some (.cells old t (0, 0))) : (w.setRow g cs).heap[g]? = some (.cells cs t (0, 0)) := by
  simp [World.setRow, Array.getElem?_modify, h]
theorem below_setRow {B g : Nat} {a w : World} (h : Below B a w) (hg : B ≤ g) (cs : Array Value) : Below B a (w.setRow g cs) := by
  refine ⟨h.os, h.tape, h.output, by simpa [World.setRow] using h.size, fun i hi => ?_⟩
  rw [← h.block i hi]
  simp only [World.setRow, Array.getElem?_modify]
  rw [if_neg (by omega)]
def zero11 : Array Value := #[.int .i64 0, .int .i64 0, .int .i64 0, .int .i64 0, .int .i64 0, .int .i64 0, .int .i64 0, .int .i64 0, .int .i64 0, .int .i64 0, .int .i64 0]
theorem stir_start (w : World) (c : Array Value) (h : c = #[.int .i64 1, .int .i64 0, .int .i64 0, .int .i64 0, .int .i64 0, .int .i64 0, .int .i64 0, .int .i64 0, .int .i64 0, .int .i64 0, .int .i64 0]) :
    (w.alloc (.cells c 43)).rowIs w.heap.size 43 11 (cellS 0 10) := by
  subst h
  refine World.rowIs_alloc w _ _ _ fun i hi => ?_
  have hi' : i < 11 := by simpa using hi
  clear hi
  iterate 11
    rcases i with _ | i
    · rfl
  omega
/-- The row, whole. -/
theorem row_stir {w : World} {b n : Nat} (h : w.rowIs b 43 11 (cellS n 10)) : w.heap[b]? = some (.cells (stirCells n) 43 (0, 0)) := by
  obtain ⟨c, h1, h2, h3⟩ := h
  have e : c = stirCells n := by
    apply Array.ext_getElem?
    intro i
    rcases Nat.lt_or_ge i 11 with hi | hi
    · rw [h3 i hi, at_stirCells n hi]
      unfold cellS
      rw [if_neg (by omega)]
    · rw [Array.getElem?_eq_none (by omega), Array.getElem?_eq_none (by rw [size_stirCells]; omega)]
  rw [h1, e]

set_option maxHeartbeats 1600000 in
set_option maxRecDepth 100000 in
theorem counts_ok (n : Nat) (w : World) (hn : n ≤ 10) :
    Calls Try.prog 27 #[.int .i64 (n : Int)] w fun e w' => e = .returned (.agg (stirCells n)) ∧ Below w.heap.size w w' := by
  go_enter Try.func27, Try.ntmps27
  go_wp2_with fail
  go_loopg [4, 7] n (fun g _ s wr => ∃ r : Nat, r ≤ n ∧ n - r ≤ g ∧ s = .int .i64 r ∧ wr.rowIs (w.heap.size + 1) 43 11 (cellS r 10) ∧ wr.heap[w.heap.size]? = some (.cells zero11 43 (0, 0)) ∧ Below w.heap.size w wr)
  case atStart =>
    refine ⟨0, by omega, by omega, rfl, ?_, ?_, ((Below.refl _ _).alloc (Nat.le_refl _) _).alloc (by simp) _⟩
    · have := stir_start (w.alloc (.cells zero11 43)) _ rfl
      rw [show (w.alloc (.cells zero11 43)).heap.size = w.heap.size + 1 by simp] at this
      exact this
    · rw [Below.heap_alloc _ _ _ (by simp)]
      exact heap_alloc_last w _
  case round =>
    obtain ⟨r, hr, hg, rfl, hrow, hzer, hbel⟩ := hrel
    have HR := hid hrow
    have HZ := hid hzer
    have HB := hid hbel
    clear hrow hzer hbel
    by_cases hlt : r < n
    · go_wp2_with fail
      go_loopg [4] 10 (fun g s wr => ∃ i : Nat, i ≤ 10 ∧ i ≤ g ∧ s = .int .i64 i ∧ wr.rowIs (w.heap.size + 1) 43 11 (cellS r i) ∧ wr.heap[w.heap.size]? = some (.cells zero11 43 (0, 0)) ∧ Below w.heap.size w wr)
      case atStart => exact ⟨10, by omega, by omega, rfl, HR.out, HZ.out, HB.out⟩
      case round =>
        clear HR HZ HB
        obtain ⟨i, hi, hgi, rfl, hrow, hzer, hbel⟩ := hrel
        have HR := hid hrow
        have HZ := hid hzer
        have HB := hid hbel
        clear hrow hzer hbel
        by_cases hpos : 0 < i
        · obtain ⟨i, rfl⟩ : ∃ x, i = x + 1 := ⟨i - 1, by omega⟩
          have g1 : wr.drew.cell? ⟨w.heap.size + 1, i + 1, none⟩ = some (.int .i64 ((stir r (i + 1) : Nat) : Int)) := by
            rw [show wr.drew.cell? ⟨w.heap.size + 1, i + 1, none⟩ = wr.cell? ⟨w.heap.size + 1, i + 1, none⟩ from rfl, HR.out.cell (by omega)]
            unfold cellS
            rw [if_neg (by omega)]
          have g2 : wr.drew.cell? ⟨w.heap.size + 1, i, none⟩ = some (.int .i64 ((stir r i : Nat) : Int)) := by
            rw [show wr.drew.cell? ⟨w.heap.size + 1, i, none⟩ = wr.cell? ⟨w.heap.size + 1, i, none⟩ from rfl, HR.out.cell (by omega)]
            unfold cellS
            rw [if_neg (by omega)]
          have f1 : wr.drew.frozen? ⟨w.heap.size + 1, i + 1, none⟩ = false := HR.out.frozen (i + 1)
          have HW := hid ((HR.out.set (i + 1) (.int .i64 (((stir r (i + 1) : Nat) : Int) * ((i : Int) + 1) + ((stir r i : Nat) : Int)))).congr (fun j _ => cellS_step (r := r) (i := i) (j := j)))
          have c1 := stir_le (n := r) (k := i + 1) (by omega) (by omega)
          have c2 := stir_le (n := r) (k := i) (by omega) (by omega)
          have m1 : 0 ≤ ((stir r (i + 1) : Nat) : Int) * ((i : Int) + 1) := Int.mul_nonneg (by omega) (by omega)
          have m2 : ((stir r (i + 1) : Nat) : Int) * ((i : Int) + 1) ≤ 42525 * 10 := Int.mul_le_mul (by omega) (by omega) (by omega) (by omega)
          have hiN : (i : Int) < 11 := by omega
          have hiM : (i : Int) + 1 < 11 := by omega
          generalize stir r (i + 1) = x1 at *
          generalize stir r i = x2 at *
          go_wp2_with fail
          go_region
          go_wp2
          go_roundg i
          case measure => omega
          case rel =>
            refine ⟨i, by omega, by omega, by go_num, HW.out, ?_, HB.out.drew.setCell (Nat.le_succ _) _⟩
            refine (Below.heap_setCell wr ⟨w.heap.size + 1, i + 1, none⟩ _ w.heap.size (by simp)).trans ?_
            exact HZ.out
        · have hi0 : i = 0 := by omega
          subst hi0
          have f1 : wr.frozen? ⟨w.heap.size + 1, 0, none⟩ = false := HR.out.frozen 0
          have g1 : wr.cell? ⟨w.heap.size + 1, 0, none⟩ = some (cellS r 0 0) := HR.out.cell (by omega)
          have HN := hid ((HR.out.set 0 (.int .i64 0)).congr (fun j hj => cellS_next (r := r) (j := j) hj))
          go_wp2
          go_roundg (n - (r + 1))
          case measure => omega
          case rel =>
            refine ⟨r + 1, by omega, by omega, by go_num, HN.out, ?_, HB.out.setCell (Nat.le_succ _) _⟩
            rw [Below.heap_setCell _ _ _ _ (by simp)]
            exact HZ.out
    · have hrn : r = n := by omega
      subst hrn
      have HG := hid (row_stir HR.out)
      have hi : (Try.prog.info? 43).map (·.size) = some 11 := by kernel_rfl
      go_wp2_with (first
        | refine wpList_load_row rfl 43 _ rfl (w.heap.size + 1) rfl 43 (stirCells r) (0, 0) _ HG.out Try.underlying43 rfl hi ?_
        | refine wpList_store_row rfl 43 _ _ rfl w.heap.size (stirCells r) rfl rfl 43 zero11 HZ.out hi rfl (one_stirCells r) ?_)
      (try simp only [Exit.inBlock, Exit.then])
      refine bodyPost_ret (results_cell_row rfl _ _ w.heap.size 43 (stirCells r) (0, 0) _ rfl (heap_setRow HZ.out) Try.underlying43 rfl hi) rfl ⟨rfl, below_setRow HB.out (Nat.le_refl _) _⟩

theorem inBlock_yes (n : Int) (w : World) (h0 : 0 ≤ n) (h1 : n ≤ 10) :
    Calls Try.prog 26 #[.int .i64 n] w fun e w' => e = .returned (.bool true) ∧ w = w' := by
  go_enter Try.func26, Try.ntmps26
  go_wp2
  go_ret
  exact ⟨rfl, rfl⟩
theorem bret_bool {a b : Bool} (h : a = b) : Ending.returned (.bool a) = .returned (.bool b) := by rw [h]
theorem inBlock_no (n : Int) (w : World) (h : n < 0 ∨ 10 < n) :
    Calls Try.prog 26 #[.int .i64 n] w fun e w' => e = .returned (.bool false) ∧ w = w' := by
  rcases h with h | h
  · go_enter Try.func26, Try.ntmps26
    go_wp2
    go_ret
    exact ⟨rfl, rfl⟩
  · have HD : Hid (decide (n ≤ 10) = false) := decide_eq_false (by omega)
    go_enter Try.func26, Try.ntmps26
    go_wp2
    go_ret
    exact ⟨bret_bool HD.out, rfl⟩

/-- One number of the array that came by value. -/
theorem run_at11 (cs : Array Value) (k : Nat) (x : Int) (hk : k < 11) (h : cs[k]? = some (.int .i64 x)) (W : World) :
    (Instr.index 43 (.agg cs) (.int .i64 (k : Int))).run Try.prog W = .ok (.int .i64 x) W := by
  simp [Instr.index, run_underlying Try.underlying43, asIntOf, hk, go_sem, part, h]

set_option maxHeartbeats 800000 in
theorem bcount_ok (n k : Nat) (w : World) (hn : n ≤ 10) (hk : k ≤ 10) :
    Calls Try.prog 9 #[.int .i64 (n : Int), .int .i64 (k : Int)] w fun e w' => e = .returned (.tuple #[.int .i64 ((stir n k : Nat) : Int), .int .i64 0]) ∧ Below w.heap.size w w' := by
  go_enter Try.func9, Try.ntmps9
  go_wp2_with fail
  refine (inBlock_yes _ _ (by omega) (by omega)).mono ?_
  rintro e w' ⟨rfl, rfl⟩
  go_wp2_with fail
  refine (inBlock_yes _ _ (by omega) (by omega)).mono ?_
  rintro e w' ⟨rfl, rfl⟩
  go_wp2_with fail
  refine (counts_ok n _ hn).mono ?_
  rintro e w1 ⟨rfl, hb⟩
  have HB := hid hb
  have HA := hid (at_stirCells n (show k < 11 by omega))
  have hrun := fun W => run_at11 (stirCells n) k _ (show k < 11 by omega) HA.out W
  clear hb HA
  generalize stirCells n = cs at *
  go_wp2
  go_ret2
  exact ⟨rfl, HB.out⟩
theorem bcount_bad (n k : Int) (w : World) (h : (n < 0 ∨ 10 < n) ∨ (k < 0 ∨ 10 < k)) :
    Calls Try.prog 9 #[.int .i64 n, .int .i64 k] w fun e w' => e = .returned (.tuple #[.int .i64 0, .int .i64 1]) ∧ w = w' := by
  by_cases h1 : n < 0 ∨ 10 < n
  · go_enter Try.func9, Try.ntmps9
    go_wp2_with fail
    refine (inBlock_no _ _ h1).mono ?_
    rintro e w' ⟨rfl, rfl⟩
    go_wp2
    go_ret2
    exact ⟨rfl, rfl⟩
  · have h2 : k < 0 ∨ 10 < k := h.resolve_left h1
    go_enter Try.func9, Try.ntmps9
    go_wp2_with fail
    refine (inBlock_yes _ _ (by omega) (by omega)).mono ?_
    rintro e w' ⟨rfl, rfl⟩
    go_wp2_with fail
    refine (inBlock_no _ _ h2).mono ?_
    rintro e w' ⟨rfl, rfl⟩
    go_wp2
    go_ret2
    exact ⟨rfl, rfl⟩

set_option maxHeartbeats 800000 in
theorem ball_ok (n : Nat) (w : World) (hn : n ≤ 10) :
    Calls Try.prog 10 #[.int .i64 (n : Int)] w fun e w' => e = .returned (.tuple #[.int .i64 ((bell n : Nat) : Int), .int .i64 0]) ∧ Below w.heap.size w w' := by
  go_enter Try.func10, Try.ntmps10
  go_wp2_with fail
  refine (inBlock_yes _ _ (by omega) (by omega)).mono ?_
  rintro e w' ⟨rfl, rfl⟩
  go_wp2_with fail
  refine (counts_ok n _ hn).mono ?_
  rintro e w1 ⟨rfl, hb⟩
  have HB := hid hb
  have HRUN := hid (fun j (hj : j < 11) => run_at11 (stirCells n) j _ hj (at_stirCells n hj))
  clear hb
  generalize stirCells n = cs at *
  go_wp2
  go_loopg [4, 6, 12] 11 (fun g u _ s wr => ∃ j : Nat, j ≤ 11 ∧ 11 - j ≤ g ∧ u = .int .i64 ((sumN (stir n) j : Nat) : Int) ∧ s = .int .i64 j ∧ w1 = wr)
  case atStart => exact ⟨0, by omega, by omega, rfl, rfl, rfl⟩
  case round =>
    obtain ⟨j, hj, hg, rfl, rfl, rfl⟩ := hrel
    by_cases hlt : j < 11
    · have hrun := HRUN.out j hlt
      have h1 := bellPart_le (n := n) (j := j) hn (by omega)
      have h2 := bellPart_le (n := n) (j := j + 1) hn (by omega)
      have HN : Hid (sumN (stir n) (j + 1) = sumN (stir n) j + stir n j) := rfl
      rw [HN.out] at h2
      generalize stir n j = x at *
      generalize sumN (stir n) j = y at *
      go_wp2
      go_roundg (11 - (j + 1))
      case measure => omega
      case rel => exact ⟨j + 1, by omega, by omega, by rw [HN.out]; go_num, by go_num, rfl⟩
    · have hj11 : j = 11 := by omega
      subst hj11
      go_wp2
      go_ret2
      exact ⟨rfl, HB.out⟩
theorem ball_bad (n : Int) (w : World) (h : n < 0 ∨ 10 < n) :
    Calls Try.prog 10 #[.int .i64 n] w fun e w' => e = .returned (.tuple #[.int .i64 0, .int .i64 1]) ∧ w = w' := by
  go_enter Try.func10, Try.ntmps10
  go_wp2_with fail
  refine (inBlock_no _ _ h).mono ?_
  rintro e w' ⟨rfl, rfl⟩
  go_wp2
  go_ret2
  exact ⟨rfl, rfl⟩
theorem bcount_of (N K : Int) (n k : Nat) (hN : N = n) (hK : K = k) (w : World) (hn : n ≤ 10) (hk : k ≤ 10) :
    Calls Try.prog 9 #[.int .i64 N, .int .i64 K] w fun e w' => e = .returned (.tuple #[.int .i64 ((stir n k : Nat) : Int), .int .i64 0]) ∧ Below w.heap.size w w' := by
  subst hN
  subst hK
  exact bcount_ok n k w hn hk
theorem ball_of (N : Int) (n : Nat) (hN : N = n) (w : World) (hn : n ≤ 10) :
    Calls Try.prog 10 #[.int .i64 N] w fun e w' => e = .returned (.tuple #[.int .i64 ((bell n : Nat) : Int), .int .i64 0]) ∧ Below w.heap.size w w' := by
  subst hN
  exact ball_ok n w hn

set_option maxHeartbeats 800000 in
theorem heaps_any (w : World) : Calls Try.prog 19 #[] w fun e w' => e = .returned (.bool true) ∧ Below w.heap.size w w' := by
  go_enter Try.func19, Try.ntmps19
  go_wp2_with fail
  refine (bcount_of 4 2 4 2 rfl rfl _ (by omega) (by omega)).mono ?_
  rintro e w1 ⟨rfl, hb⟩
  have HB1 := hid hb
  clear hb
  rw [show stir 4 2 = 7 by decide]
  go_wp2_with fail
  refine (ball_of 4 4 rfl _ (by omega)).mono ?_
  rintro e w2 ⟨rfl, hb⟩
  have HB2 := hid (below_step HB1.out (Nat.le_refl _) hb)
  clear hb HB1
  rw [show bell 4 = 15 by decide]
  go_wp2_with fail
  refine (good_bel _ _ _ 2 [0, 0] rfl rfl (by omega)).mono ?_
  rintro e w3 ⟨rfl, hb⟩
  have HB3 := hid (below_step HB2.out (Nat.le_refl _) hb)
  clear hb HB2
  rw [show allOK [0, 0] = true by decide]
  go_wp2
  go_ret
  exact ⟨rfl, HB3.out⟩

end Go.Proofs.Ytigfhpffghajaaa
