/-
  castref.Choose.
-/
import Derived.Test.YtaklchehamkgcaaSubA
import Derived.Test.YtaklchehamkgcaaRow0
namespace Go.Proofs.Ytaklchehamkgcaa
open Go.RowKit

/-- The cells in round r, those above i done. -/
def cellC (r i j : Nat) : Value := .int .i64 ((if i < j then cho (r + 1) j else cho r j : Nat) : Int)
theorem cellC_start {k j : Nat} (h : j < k + 1) : (if j = 0 then Value.int .i64 1 else Value.int .i64 0) = cellC 0 k j := by
  unfold cellC
  cases j with
  | zero =>
    rw [if_pos rfl, if_neg (by omega)]
    rfl
  | succ j =>
    rw [if_neg (by omega), if_neg (by omega)]
    rfl
theorem cellC_step {r i j : Nat} : (if j = i + 1 then Value.int .i64 (((cho r (i + 1) : Nat) : Int) + ((cho r i : Nat) : Int)) else cellC r (i + 1) j) = cellC r i j := by
  unfold cellC
  by_cases e : j = i + 1
  · subst e
    rw [if_pos rfl, if_pos (by omega), cho_succ]
    congr 1
    omega
  · rw [if_neg e]
    by_cases h : i < j
    · rw [if_pos h, if_pos (by omega)]
    · rw [if_neg h, if_neg (by omega)]
theorem cellC_next {r k j : Nat} (h : j < k + 1) : cellC r 0 j = cellC (r + 1) k j := by
  unfold cellC
  rw [if_neg (show ¬ k < j by omega)]
  by_cases e : 0 < j
  · rw [if_pos e]
  · rw [if_neg e, show j = 0 by omega, cho_zero, cho_zero]

theorem refChoose_few (n k : Nat) (w : World) (h : k = 0 ∨ n ≤ k) :
    Calls Try.prog 10 #[.int .i64 (n : Int), .int .i64 (k : Int)] w fun e w' => e = .returned (.int .i64 ((cho n k : Nat) : Int)) ∧ w = w' := by
  by_cases h1 : n < k
  · have HE : Hid (cho n k = 0) := cho_over h1
    go_enter Try.func10, Try.ntmps10
    go_wp2
    go_ret
    exact ⟨sret_int (by rw [HE.out]; rfl), rfl⟩
  · by_cases h0 : k = 0
    · subst h0
      have HE := hid (cho_zero n)
      go_enter Try.func10, Try.ntmps10
      go_wp2
      all_goals
        go_ret
        exact ⟨sret_int (by rw [HE.out]; rfl), rfl⟩
    · have hk : k = n := by omega
      subst hk
      have HE := hid (cho_self k)
      go_enter Try.func10, Try.ntmps10
      go_wp2
      all_goals
        go_ret
        exact ⟨sret_int (by rw [HE.out]; rfl), rfl⟩

set_option maxHeartbeats 1600000 in
theorem refChoose_many (n k : Nat) (w : World) (hn : n ≤ 16) (h0 : 0 < k) (hk : k < n) :
    Calls Try.prog 10 #[.int .i64 (n : Int), .int .i64 (k : Int)] w fun e w' => e = .returned (.int .i64 ((cho n k : Nat) : Int)) ∧ Below w.heap.size w w' := by
  have hmk : ∀ W : World, (Instr.makeSlice 22 (.int .i64 ((k : Int) + 1)) (.int .i64 ((k : Int) + 1))).run Try.prog W = .ok (.slice (some ⟨W.heap.size, 0, none⟩) (k + 1) (k + 1)) (W.alloc (.cells (madeCells #[.int .i64 0] (k + 1)) 3)) :=
    fun W => run_make_row' (P := Try.prog) 22 3 (.int .i64 0) 8 Try.underlying22 infoInt rfl .i64 .i64 (k + 1) (by omega) (by omega) W
  have HMD := hid (World.rowIs_made w (.int .i64 0) (k + 1) 3)
  have f0 := HMD.out.frozen 0
  have g0 := HMD.out.cell (i := 0) (by omega)
  have HS := hid ((HMD.out.set 0 (.int .i64 1)).congr (fun j hj => cellC_start (k := k) (j := j) hj))
  have hd1 : decide ((k : Int) < 0) = false := decide_eq_false (by omega)
  have hd2 : decide (n < k) = false := decide_eq_false (by omega)
  have he1 : ((k : Int) == 0) = false := by simp; omega
  have he2 : ((k : Int) == (n : Int)) = false := by simp; omega
  go_enter Try.func10, Try.ntmps10
  go_wp2_with fail
  clear hmk f0 g0 hd1 hd2 he1 he2
  go_loopg [6, 27] n (fun g _ s wr => ∃ r : Nat, r ≤ n ∧ n - r ≤ g ∧ s = .int .i64 r ∧ wr.rowIs w.heap.size 3 (k + 1) (cellC r k) ∧ Below w.heap.size w wr)
  case atStart => exact ⟨0, by omega, by omega, rfl, by rw [← World.setCell_alloc_new]; exact HS.out, (Below.refl _ _).alloc (Nat.le_refl _) _⟩
  case round =>
    obtain ⟨r, hr, hg, rfl, hrow, hbel⟩ := hrel
    have HR := hid hrow
    have HB := hid hbel
    clear hrow hbel HS HMD
    by_cases hlt : r < n
    · go_wp2_with fail
      go_loopg [6] k (fun g s wr => ∃ i : Nat, i ≤ k ∧ i ≤ g ∧ s = .int .i64 i ∧ wr.rowIs w.heap.size 3 (k + 1) (cellC r i) ∧ Below w.heap.size w wr)
      case atStart => exact ⟨k, by omega, by omega, rfl, HR.out, HB.out⟩
      case round =>
        clear HR HB
        obtain ⟨i, hi, hgi, rfl, hrow, hbel⟩ := hrel
        have HR := hid hrow
        have HB := hid hbel
        clear hrow hbel
        by_cases hpos : 0 < i
        · obtain ⟨i, rfl⟩ : ∃ x, i = x + 1 := ⟨i - 1, by omega⟩
          have g1 : wr.drew.cell? ⟨w.heap.size, i + 1, none⟩ = some (.int .i64 ((cho r (i + 1) : Nat) : Int)) := by
            rw [show wr.drew.cell? ⟨w.heap.size, i + 1, none⟩ = wr.cell? ⟨w.heap.size, i + 1, none⟩ from rfl, HR.out.cell (by omega)]
            unfold cellC
            rw [if_neg (by omega)]
          have g2 : wr.drew.cell? ⟨w.heap.size, i, none⟩ = some (.int .i64 ((cho r i : Nat) : Int)) := by
            rw [show wr.drew.cell? ⟨w.heap.size, i, none⟩ = wr.cell? ⟨w.heap.size, i, none⟩ from rfl, HR.out.cell (by omega)]
            unfold cellC
            rw [if_neg (by omega)]
          have f1 : wr.drew.frozen? ⟨w.heap.size, i + 1, none⟩ = false := HR.out.frozen (i + 1)
          have HW := hid ((HR.out.set (i + 1) (.int .i64 (((cho r (i + 1) : Nat) : Int) + ((cho r i : Nat) : Int)))).congr (fun j _ => cellC_step (r := r) (i := i) (j := j)))
          have c1 := cho_16 (n := r) (k := i + 1) (by omega)
          have c2 := cho_16 (n := r) (k := i) (by omega)
          generalize cho r (i + 1) = x1 at *
          generalize cho r i = x2 at *
          go_wp2_with fail
          go_region
          go_wp2
          go_roundg i
          case measure => omega
          case rel => exact ⟨i, by omega, by omega, by go_num, HW.out, HB.out.drew.setCell (Nat.le_refl _) _⟩
        · have hi0 : i = 0 := by omega
          subst hi0
          have HN := hid (HR.out.congr (fun j hj => cellC_next (r := r) (k := k) (j := j) hj))
          go_wp2
          go_roundg (n - (r + 1))
          case measure => omega
          case rel => exact ⟨r + 1, by omega, by omega, by go_num, HN.out, HB.out⟩
    · have hrn : r = n := by omega
      subst hrn
      have g1 : wr.cell? ⟨w.heap.size, k, none⟩ = some (.int .i64 ((cho r k : Nat) : Int)) := by
        rw [HR.out.cell (by omega)]
        unfold cellC
        rw [if_neg (by omega)]
      go_wp2
      go_ret
      exact ⟨rfl, HB.out⟩

theorem refChoose_any (n k : Nat) (w : World) (hn : n ≤ 16) :
    Calls Try.prog 10 #[.int .i64 (n : Int), .int .i64 (k : Int)] w fun e w' => e = .returned (.int .i64 ((cho n k : Nat) : Int)) ∧ Below w.heap.size w w' := by
  by_cases h : k = 0 ∨ n ≤ k
  · exact (refChoose_few n k w h).mono fun _ _ ⟨he, hw⟩ => ⟨he, by rw [← hw]; exact Below.refl _ _⟩
  · exact refChoose_many n k w hn (by omega) (by omega)

end Go.Proofs.Ytaklchehamkgcaa
