/-
  rises.inRise, byDescents, Count; castkeep.risesLive.
-/
import Derived.Test.YtcnljljgdkjndaaRisM
import Derived.Test.YtcnljljgdkjndaaGen
import Derived.Test.YtcnljljgdkjndaaRowW
namespace Go.Proofs.Ytcnljljgdkjndaa
open Go.RowKit

theorem risret_bool {a b : Bool} (h : a = b) : Ending.returned (.bool a) = .returned (.bool b) := by rw [h]
theorem rInRise_yes (n : Int) (w : World) (h0 : 0 ≤ n) (h1 : n ≤ 15) :
    Calls Try.prog 46 #[.int .i64 n] w fun e w' => e = .returned (.bool true) ∧ w = w' := by
  go_enter Try.func46, Try.ntmps46
  go_wp2
  go_ret
  exact ⟨rfl, rfl⟩
theorem rInRise_no (n : Int) (w : World) (h : n < 0 ∨ 15 < n) :
    Calls Try.prog 46 #[.int .i64 n] w fun e w' => e = .returned (.bool false) ∧ w = w' := by
  rcases h with h | h
  · go_enter Try.func46, Try.ntmps46
    go_wp2
    go_ret
    exact ⟨rfl, rfl⟩
  · have HD : Hid (decide (n ≤ 15) = false) := decide_eq_false (by omega)
    go_enter Try.func46, Try.ntmps46
    go_wp2
    go_ret
    exact ⟨risret_bool HD.out, rfl⟩

/-- The cells in round r, those above i done. -/
def cellE (r i j : Nat) : Value := .int .i64 ((if i < j then eul (r + 1) j else eul r j : Nat) : Int)
theorem cellE_step {r i j : Nat} (hj : j < 16) (hi : i ≤ r) : (if j = i + 1 then Value.int .i64 (((i : Int) + 1 + 1) * ((eul r (i + 1) : Nat) : Int) + ((r : Int) + 1 - ((i : Int) + 1)) * ((eul r i : Nat) : Int)) else cellE r (i + 1) j) = cellE r i j := by
  unfold cellE
  by_cases e : j = i + 1
  · subst e
    rw [if_pos rfl, if_pos (by omega), eul_step r hj, Int.natCast_add, Int.natCast_mul, Int.natCast_mul, Int.natCast_sub hi, show (r : Int) + 1 - ((i : Int) + 1) = (r : Int) - (i : Int) by omega]
    rfl
  · rw [if_neg e]
    by_cases h : i < j
    · rw [if_pos h, if_pos (by omega)]
    · rw [if_neg h, if_neg (by omega)]
theorem cellE_begin {r j : Nat} (hr : r < 15) (h : j < 16) : cellE r 15 j = cellE r r j := by
  unfold cellE
  rw [if_neg (show ¬ 15 < j by omega)]
  by_cases hj : r < j
  · rw [if_pos hj, eul_over (n := r) (k := j) (by omega) h (by omega) (by omega), eul_over (n := r + 1) (k := j) (by omega) h (by omega) (by omega)]
  · rw [if_neg hj]
theorem cellE_next {r j : Nat} (hr : r < 15) (h : j < 16) : cellE r 0 j = cellE (r + 1) 15 j := by
  unfold cellE
  rw [if_neg (show ¬ 15 < j by omega)]
  cases j with
  | zero =>
    rw [if_neg (by omega), eul_first (by omega), eul_first (by omega)]
  | succ j =>
    rw [if_pos (by omega)]
def eulCells (n : Nat) : Array Value := ((List.range 16).map (fun k => Value.int .i64 ((eul n k : Nat) : Int))).toArray
theorem size_eulCells (n : Nat) : (eulCells n).size = 16 := rfl
theorem at_eulCells (n : Nat) {j : Nat} (h : j < 16) : (eulCells n)[j]? = some (.int .i64 ((eul n j : Nat) : Int)) := by
  simp [eulCells, h]
theorem one_eulCells (n : Nat) : (eulCells n).all (·.oneCell') = true := by
  rw [Array.all_eq_true_iff_forall_mem]
  intro v hv
  simp only [eulCells, List.mem_toArray, List.mem_map] at hv
  obtain ⟨k, _, rfl⟩ := hv
  rfl
def zero16 : Array Value := #[.int .i64 0, .int .i64 0, .int .i64 0, .int .i64 0, .int .i64 0, .int .i64 0, .int .i64 0, .int .i64 0, .int .i64 0, .int .i64 0, .int .i64 0, .int .i64 0, .int .i64 0, .int .i64 0, .int .i64 0, .int .i64 0]
theorem eul_start (w : World) (c : Array Value) (h : c = #[.int .i64 1, .int .i64 0, .int .i64 0, .int .i64 0, .int .i64 0, .int .i64 0, .int .i64 0, .int .i64 0, .int .i64 0, .int .i64 0, .int .i64 0, .int .i64 0, .int .i64 0, .int .i64 0, .int .i64 0, .int .i64 0]) :
    (w.alloc (.cells c 61)).rowIs w.heap.size 61 16 (cellE 0 15) := by
  subst h
  refine World.rowIs_alloc w _ _ _ fun i hi => ?_
  have hi' : i < 16 := by simpa using hi
  clear hi
  iterate 16
    rcases i with _ | i
    · rfl
  omega
/-- The row, whole. -/
theorem row_eul {w : World} {b n : Nat} (h : w.rowIs b 61 16 (cellE n 15)) : w.heap[b]? = some (.cells (eulCells n) 61 (0, 0)) := by
  obtain ⟨c, h1, h2, h3⟩ := h
  have e : c = eulCells n := by
    apply Array.ext_getElem?
    intro i
    rcases Nat.lt_or_ge i 16 with hi | hi
    · rw [h3 i hi, at_eulCells n hi]
      unfold cellE
      rw [if_neg (by omega)]
    · rw [Array.getElem?_eq_none (by omega), Array.getElem?_eq_none (by rw [size_eulCells]; omega)]
  rw [h1, e]

set_option maxHeartbeats 1600000 in
set_option maxRecDepth 100000 in
theorem byDescents_ok (n : Nat) (w : World) (hn : n ≤ 15) :
    Calls Try.prog 47 #[.int .i64 (n : Int)] w fun e w' => e = .returned (.agg (eulCells n)) ∧ Below w.heap.size w w' := by
  go_enter Try.func47, Try.ntmps47
  go_wp2_with fail
  go_loopg [4, 5] n (fun g s _ wr => ∃ r : Nat, r ≤ n ∧ n - r ≤ g ∧ s = .int .i64 ((r : Int) + 1) ∧ wr.rowIs (w.heap.size + 1) 61 16 (cellE r 15) ∧ wr.heap[w.heap.size]? = some (.cells zero16 61 (0, 0)) ∧ Below w.heap.size w wr)
  case atStart =>
    refine ⟨0, by omega, by omega, rfl, ?_, ?_, ((Below.refl _ _).alloc (Nat.le_refl _) _).alloc (by simp) _⟩
    · have := eul_start (w.alloc (.cells zero16 61)) _ rfl
      rw [show (w.alloc (.cells zero16 61)).heap.size = w.heap.size + 1 by simp] at this
      exact this
    · rw [Below.heap_alloc _ _ _ (by simp)]
      exact heap_alloc_last w _
  case round =>
    obtain ⟨r, hr, hg, rfl, hrow, hzer, hbel⟩ := hrel
    have HR := hid hrow
    have HZ := hid hzer
    have HB := hid hbel
    clear hrow hzer hbel
    by_cases hlt : r < n
    · have hltI : (r : Int) + 1 ≤ (n : Int) := by omega
      have HR0 := hid (HR.out.congr (fun j hj => cellE_begin (show r < 15 by omega) hj))
      clear HR
      go_wp2_with fail
      go_loopg [5] r (fun g s wr => ∃ i : Nat, i ≤ r ∧ i ≤ g ∧ s = .int .i64 i ∧ wr.rowIs (w.heap.size + 1) 61 16 (cellE r i) ∧ wr.heap[w.heap.size]? = some (.cells zero16 61 (0, 0)) ∧ Below w.heap.size w wr)
      case atStart => exact ⟨r, by omega, by omega, by go_num, HR0.out, HZ.out, HB.out⟩
      case round =>
        clear HR0 HZ HB
        obtain ⟨i, hi, hgi, rfl, hrow, hzer, hbel⟩ := hrel
        have HR := hid hrow
        have HZ := hid hzer
        have HB := hid hbel
        clear hrow hzer hbel
        by_cases hpos : 0 < i
        · obtain ⟨i, rfl⟩ : ∃ x, i = x + 1 := ⟨i - 1, by omega⟩
          have g1 : wr.drew.cell? ⟨w.heap.size + 1, i + 1, none⟩ = some (.int .i64 ((eul r (i + 1) : Nat) : Int)) := by
            rw [show wr.drew.cell? ⟨w.heap.size + 1, i + 1, none⟩ = wr.cell? ⟨w.heap.size + 1, i + 1, none⟩ from rfl, HR.out.cell (by omega)]
            unfold cellE
            rw [if_neg (by omega)]
          have g2 : wr.drew.cell? ⟨w.heap.size + 1, i, none⟩ = some (.int .i64 ((eul r i : Nat) : Int)) := by
            rw [show wr.drew.cell? ⟨w.heap.size + 1, i, none⟩ = wr.cell? ⟨w.heap.size + 1, i, none⟩ from rfl, HR.out.cell (by omega)]
            unfold cellE
            rw [if_neg (by omega)]
          have f1 : wr.drew.frozen? ⟨w.heap.size + 1, i + 1, none⟩ = false := HR.out.frozen (i + 1)
          have HW := hid ((HR.out.set (i + 1) (.int .i64 (((i : Int) + 1 + 1) * ((eul r (i + 1) : Nat) : Int) + ((r : Int) + 1 - ((i : Int) + 1)) * ((eul r i : Nat) : Int)))).congr (fun j hj => cellE_step (r := r) (i := i) (j := j) hj (by omega)))
          have c1 := eul_le (n := r) (k := i + 1) (by omega) (by omega)
          have c2 := eul_le (n := r) (k := i) (by omega) (by omega)
          have m1 : 0 ≤ ((i : Int) + 1 + 1) * ((eul r (i + 1) : Nat) : Int) := Int.mul_nonneg (by omega) (by omega)
          have m2 : ((i : Int) + 1 + 1) * ((eul r (i + 1) : Nat) : Int) ≤ 17 * 1307674368000 := Int.mul_le_mul (by omega) (by omega) (by omega) (by omega)
          have m3 : 0 ≤ ((r : Int) + 1 - ((i : Int) + 1)) * ((eul r i : Nat) : Int) := Int.mul_nonneg (by omega) (by omega)
          have m4 : ((r : Int) + 1 - ((i : Int) + 1)) * ((eul r i : Nat) : Int) ≤ 15 * 1307674368000 := Int.mul_le_mul (by omega) (by omega) (by omega) (by omega)
          have hiN : (i : Int) < 16 := by omega
          have hiM : (i : Int) + 1 < 16 := by omega
          generalize eul r (i + 1) = x1 at *
          generalize eul r i = x2 at *
          go_wp2_with fail
          go_region
          go_wp2
          go_roundg i
          case measure => omega
          case rel =>
            refine ⟨i, by omega, by omega, by go_num, HW.out, ?_, HB.out.drew.setCell (Nat.le_succ _) _⟩
            refine (Below.heap_setCell wr ⟨w.heap.size + 1, i + 1, none⟩ _ w.heap.size (by simp)).trans ?_
            exact HZ.out
        · have hi0 : i = 0 := by omega
          subst hi0
          have HN := hid (HR.out.congr (fun j hj => cellE_next (r := r) (j := j) (by omega) hj))
          go_wp2
          go_roundg (n - (r + 1))
          case measure => omega
          case rel => exact ⟨r + 1, by omega, by omega, by go_num, HN.out, HZ.out, HB.out⟩
    · have hrn : r = n := by omega
      subst hrn
      have HG := hid (row_eul HR.out)
      have hi : (Try.prog.info? 61).map (·.size) = some 16 := by kernel_rfl
      go_wp2_with (first
        | refine wpList_load_row rfl 61 _ rfl (w.heap.size + 1) rfl 61 (eulCells r) (0, 0) _ HG.out Try.underlying61 rfl hi ?_
        | refine wpList_store_row rfl 61 _ _ rfl w.heap.size (eulCells r) rfl rfl 61 zero16 HZ.out hi rfl (one_eulCells r) ?_)
      (try simp only [Exit.inBlock, Exit.then])
      refine bodyPost_ret (results_cell_row rfl _ _ w.heap.size 61 (eulCells r) (0, 0) _ rfl (heap_setRow HZ.out) Try.underlying61 rfl hi) rfl ⟨rfl, below_setRow HB.out (Nat.le_refl _) _⟩

/-- One number of the array that came by value. -/
theorem run_at16 (cs : Array Value) (k : Nat) (x : Int) (hk : k < 16) (h : cs[k]? = some (.int .i64 x)) (W : World) :
    (Instr.index 61 (.agg cs) (.int .i64 (k : Int))).run Try.prog W = .ok (.int .i64 x) W := by
  simp [Instr.index, run_underlying Try.underlying61, asIntOf, hk, go_sem, part, h]

set_option maxHeartbeats 800000 in
theorem rcount_ok (N K : Int) (n k : Nat) (hN : N = n) (hK : K = k) (w : World) (hn : n ≤ 15) (hk : k ≤ 15) :
    Calls Try.prog 26 #[.int .i64 N, .int .i64 K] w fun e w' => e = .returned (.tuple #[.int .i64 ((eul n k : Nat) : Int), .int .i64 0]) ∧ Below w.heap.size w w' := by
  subst hN
  subst hK
  go_enter Try.func26, Try.ntmps26
  go_wp2_with fail
  refine (rInRise_yes _ _ (by omega) (by omega)).mono ?_
  rintro e w' ⟨rfl, rfl⟩
  go_wp2_with fail
  refine (rInRise_yes _ _ (by omega) (by omega)).mono ?_
  rintro e w' ⟨rfl, rfl⟩
  go_wp2_with fail
  refine (byDescents_ok n _ hn).mono ?_
  rintro e w1 ⟨rfl, hb⟩
  have HB := hid hb
  have HA := hid (at_eulCells n (show k < 16 by omega))
  have hrun := fun W => run_at16 (eulCells n) k _ (show k < 16 by omega) HA.out W
  clear hb HA
  generalize eulCells n = cs at *
  go_wp2
  go_ret2
  exact ⟨rfl, HB.out⟩
theorem rcount_bad (n k : Int) (w : World) (h : (n < 0 ∨ 15 < n) ∨ (k < 0 ∨ 15 < k)) :
    Calls Try.prog 26 #[.int .i64 n, .int .i64 k] w fun e w' => e = .returned (.tuple #[.int .i64 0, .int .i64 1]) ∧ w = w' := by
  by_cases h1 : n < 0 ∨ 15 < n
  · go_enter Try.func26, Try.ntmps26
    go_wp2_with fail
    refine (rInRise_no _ _ h1).mono ?_
    rintro e w' ⟨rfl, rfl⟩
    go_wp2
    go_ret2
    exact ⟨rfl, rfl⟩
  · have h2 : k < 0 ∨ 15 < k := h.resolve_left h1
    go_enter Try.func26, Try.ntmps26
    go_wp2_with fail
    refine (rInRise_yes _ _ (by omega) (by omega)).mono ?_
    rintro e w' ⟨rfl, rfl⟩
    go_wp2_with fail
    refine (rInRise_no _ _ h2).mono ?_
    rintro e w' ⟨rfl, rfl⟩
    go_wp2
    go_ret2
    exact ⟨rfl, rfl⟩

end Go.Proofs.Ytcnljljgdkjndaa
