/-
  orbits.moved, castref.Moved: a row by an order.
-/
import Derived.Test.YtbcjfiobggggjaaOrbM
import Derived.Test.YtbcjfiobggggjaaOwn
import Derived.Test.YtbcjfiobggggjaaGen
namespace Go.Proofs.Ytbcjfiobggggjaa
open Go.RowKit

/-- The cells when the first k have moved. -/
def mvCell (p row : List Int) (k j : Nat) : Value := if ((vs p).getD j 0) < (k : Int) then .int .i64 ((mv p row).getD j 0) else .int .i64 0

theorem vs_at {p : List Int} (h : IsPerm p) {i m : Nat} (hi : i < p.length) (e : p.getD i 0 = (m : Int)) : (vs p).getD m 0 = (i : Int) := by
  have := (isInv_vs h).2 i hi
  rwa [e, Int.toNat_natCast] at this
theorem mvCell_start {p : List Int} (h : IsPerm p) (row : List Int) {j : Nat} (hj : j < p.length) : Value.int .i64 0 = mvCell p row 0 j := by
  obtain ⟨i, hi, e⟩ := h.pre hj
  unfold mvCell
  rw [vs_at h hi e, if_neg (by omega)]
theorem mvCell_step {p : List Int} (h : IsPerm p) (row : List Int) {k m : Nat} (hk : k < p.length) (e : p.getD k 0 = (m : Int)) {j : Nat} (hj : j < p.length) :
    (if j = m then Value.int .i64 (row.getD k 0) else mvCell p row k j) = mvCell p row (k + 1) j := by
  obtain ⟨i, hi, e2⟩ := h.pre hj
  unfold mvCell
  rw [vs_at h hi e2]
  by_cases hjm : j = m
  · subst hjm
    have hik : i = k := nx_inj h hi hk (by unfold nx; rw [e, e2])
    subst hik
    have := getD_mv (row := row) h hk
    rw [e, Int.toNat_natCast] at this
    rw [if_pos rfl, if_pos (by omega), this]
  · rw [if_neg hjm]
    have hik : i ≠ k := by
      intro e3
      subst e3
      rw [e] at e2
      omega
    by_cases hlt : i < k
    · rw [if_pos (by omega), if_pos (by omega)]
    · rw [if_neg (by omega), if_neg (by omega)]
theorem mvCell_end {p : List Int} (h : IsPerm p) (row : List Int) {j : Nat} (hj : j < p.length) : mvCell p row p.length j = .int .i64 ((mv p row).getD j 0) := by
  obtain ⟨i, hi, e⟩ := h.pre hj
  unfold mvCell
  rw [vs_at h hi e, if_pos (by omega)]

set_option maxRecDepth 100000 in
set_option maxHeartbeats 800000 in
theorem moved_ok (A : Option Addr) (n c : Nat) (B : Option Addr) (d : Nat) (row p : List Int) (w : World) (hA : Ints w A n row) (hB : Ints w B n p) (hp : IsPerm p) (hn : n ≤ 1000000) :
    Calls Try.prog 46 #[.slice A n c, .slice B n d] w (RetOwn w (mv p row)) := by
  have HP := hid hp
  have HL := hid hB.len
  have HLR := hid hA.len
  have hmk := fun W => run_make_row' (P := Try.prog) 23 3 (.int .i64 0) 8 Try.underlying23 infoInt rfl .i64 .i64 n (by omega) (by omega) W
  clear hp
  go_enter Try.func46, Try.ntmps46
  go_wp2_with fail
  go_loopg [13] n (fun g s wr => ∃ k : Nat, k ≤ n ∧ n - k ≤ g ∧ s = .int .i64 k ∧ wr.rowIs w.heap.size 3 n (mvCell p row k) ∧ Below w.heap.size w wr)
  case atStart => exact ⟨0, Nat.zero_le _, by omega, rfl, (World.rowIs_made w _ n _).congr (fun j hj => mvCell_start HP.out row (by rw [HL.out]; exact hj)), (Below.refl _ _).alloc (Nat.le_refl _) _⟩
  case round =>
    obtain ⟨k, hk, hg, rfl, hrow, hbel⟩ := hrel
    have HR := hid hrow
    have HB := hid hbel
    clear hrow hbel hmk
    by_cases hlt : k < n
    · obtain ⟨b2, o2, rfl, hlt2, hc2⟩ := hB.row (by omega)
      obtain ⟨b1, o1, rfl, hlt1, hc1⟩ := hA.row (by omega)
      have hkl : k < p.length := by rw [HL.out]; exact hlt
      have hr := HP.out.range (getD_mem hkl)
      rw [HL.out] at hr
      have g1 : wr.cell? ⟨b2, o2 + k, none⟩ = some (.int .i64 (p.getD k 0)) := (HB.out.cell (p := ⟨b2, o2 + k, none⟩) hlt2).trans (hc2 k hlt)
      have g2 : wr.cell? ⟨b1, o1 + k, none⟩ = some (.int .i64 (row.getD k 0)) := (HB.out.cell (p := ⟨b1, o1 + k, none⟩) hlt1).trans (hc1 k hlt)
      have HS := hid (fun m (e : p.getD k 0 = ((m : Nat) : Int)) j (hj : j < p.length) => mvCell_step HP.out row hkl e hj)
      generalize hxk : p.getD k 0 = x at g1 hr HS
      obtain ⟨m, rfl⟩ := Int.eq_ofNat_of_zero_le hr.1
      have hm : m < n := by omega
      have g3 : wr.cell? ⟨w.heap.size, m, none⟩ = some (mvCell p row k m) := HR.out.cell hm
      have g4 : wr.frozen? ⟨w.heap.size, m, none⟩ = false := HR.out.frozen m
      have HS2 := hid (HS.out m rfl)
      clear hc1 hc2 hr hA hB hkl HS hxk
      generalize row.getD k 0 = y at g2 HS2
      go_wp2
      go_roundg (n - (k + 1))
      case measure => omega
      case rel =>
        refine ⟨k + 1, by omega, by omega, by go_num, ?_, HB.out.setCell (Nat.le_refl _) _⟩
        exact (HR.out.set m (.int .i64 y)).congr (fun j hj => HS2.out j (by rw [HL.out]; exact hj))
    · have hkn : k = n := by omega
      subst hkn
      go_wp2
      go_ret
      refine ⟨_, rfl, own_of_rowIs HR.out (by rw [length_mv]; exact HL.out) (fun j hj => ?_) (Nat.le_refl _) (by unfold maxLen; omega), HB.out⟩
      have := mvCell_end HP.out row (j := j) (by rw [HL.out]; exact hj)
      rwa [HL.out] at this

set_option maxRecDepth 100000 in
set_option maxHeartbeats 800000 in
theorem refMoved_ok (A : Option Addr) (n c : Nat) (B : Option Addr) (d : Nat) (row p : List Int) (w : World) (hA : Ints w A n row) (hB : Ints w B n p) (hp : IsPerm p) (hn : n ≤ 1000000) :
    Calls Try.prog 53 #[.slice B n d, .slice A n c] w (RetOwn w (mv p row)) := by
  have HP := hid hp
  have HL := hid hB.len
  have HLR := hid hA.len
  have hmk := fun W => run_make_row' (P := Try.prog) 23 3 (.int .i64 0) 8 Try.underlying23 infoInt rfl .i64 .i64 n (by omega) (by omega) W
  clear hp
  go_enter Try.func53, Try.ntmps53
  go_wp2_with fail
  go_loopg [13] n (fun g s wr => ∃ k : Nat, k ≤ n ∧ n - k ≤ g ∧ s = .int .i64 k ∧ wr.rowIs w.heap.size 3 n (mvCell p row k) ∧ Below w.heap.size w wr)
  case atStart => exact ⟨0, Nat.zero_le _, by omega, rfl, (World.rowIs_made w _ n _).congr (fun j hj => mvCell_start HP.out row (by rw [HL.out]; exact hj)), (Below.refl _ _).alloc (Nat.le_refl _) _⟩
  case round =>
    obtain ⟨k, hk, hg, rfl, hrow, hbel⟩ := hrel
    have HR := hid hrow
    have HB := hid hbel
    clear hrow hbel hmk
    by_cases hlt : k < n
    · obtain ⟨b2, o2, rfl, hlt2, hc2⟩ := hB.row (by omega)
      obtain ⟨b1, o1, rfl, hlt1, hc1⟩ := hA.row (by omega)
      have hkl : k < p.length := by rw [HL.out]; exact hlt
      have hr := HP.out.range (getD_mem hkl)
      rw [HL.out] at hr
      have g1 : wr.cell? ⟨b2, o2 + k, none⟩ = some (.int .i64 (p.getD k 0)) := (HB.out.cell (p := ⟨b2, o2 + k, none⟩) hlt2).trans (hc2 k hlt)
      have g2 : wr.cell? ⟨b1, o1 + k, none⟩ = some (.int .i64 (row.getD k 0)) := (HB.out.cell (p := ⟨b1, o1 + k, none⟩) hlt1).trans (hc1 k hlt)
      have HS := hid (fun m (e : p.getD k 0 = ((m : Nat) : Int)) j (hj : j < p.length) => mvCell_step HP.out row hkl e hj)
      generalize hxk : p.getD k 0 = x at g1 hr HS
      obtain ⟨m, rfl⟩ := Int.eq_ofNat_of_zero_le hr.1
      have hm : m < n := by omega
      have g3 : wr.cell? ⟨w.heap.size, m, none⟩ = some (mvCell p row k m) := HR.out.cell hm
      have g4 : wr.frozen? ⟨w.heap.size, m, none⟩ = false := HR.out.frozen m
      have HS2 := hid (HS.out m rfl)
      clear hc1 hc2 hr hA hB hkl HS hxk
      generalize row.getD k 0 = y at g2 HS2
      go_wp2
      go_roundg (n - (k + 1))
      case measure => omega
      case rel =>
        refine ⟨k + 1, by omega, by omega, by go_num, ?_, HB.out.setCell (Nat.le_refl _) _⟩
        exact (HR.out.set m (.int .i64 y)).congr (fun j hj => HS2.out j (by rw [HL.out]; exact hj))
    · have hkn : k = n := by omega
      subst hkn
      go_wp2
      go_ret
      refine ⟨_, rfl, own_of_rowIs HR.out (by rw [length_mv]; exact HL.out) (fun j hj => ?_) (Nat.le_refl _) (by unfold maxLen; omega), HB.out⟩
      have := mvCell_end HP.out row (j := j) (by rw [HL.out]; exact hj)
      rwa [HL.out] at this

end Go.Proofs.Ytbcjfiobggggjaa
