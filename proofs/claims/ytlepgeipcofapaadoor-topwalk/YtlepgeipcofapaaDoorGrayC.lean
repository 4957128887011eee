/-
  package gray: Walk.
-/
import Derived.Test.YtlepgeipcofapaaDoorGrayA
import Derived.Test.YtlepgeipcofapaaDoorOwn16
namespace Go.Proofs.YtlepgeipcofapaaDoor
open Go.RowKit

theorem infoU16 : (Tryd.prog.info? 30).map (fun i => (i.zero, i.size, i.bytes)) = some (some (.int .u16 0), 1, 2) := by kernel_rfl

/-- Of(0), Of(1), .. -/
def codes (n : Nat) : List Nat := (List.range (2 ^ n)).map gry
theorem length_codes (n : Nat) : (codes n).length = 2 ^ n := by simp [codes]
theorem getD_codes {n i : Nat} (h : i < 2 ^ n) : (codes n).getD i 0 = gry i := by simp [codes, List.getD_eq_getElem?_getD, h]

/-- What Walk returns: a row of its own. -/
def RetCodes (w : World) (n : Nat) (e : Ending) (w' : World) : Prop := ∃ g, w.heap.size ≤ g ∧ e = .returned (.tuple #[.slice (some ⟨g, 0, none⟩) (2 ^ n) (2 ^ n), .int .i64 0]) ∧ U16 w' g (2 ^ n) (codes n) ∧ Below w.heap.size w w'

set_option maxRecDepth 100000 in
set_option maxHeartbeats 800000 in
theorem walk_off (n : Int) (w : World) (h : n < 0 ∨ 10 < n) : Calls Tryd.prog 7 #[.int .i64 n] w fun e w' => e = .returned (.tuple #[.slice none 0 0, .int .i64 1]) ∧ w = w' := by
  by_cases h0 : n < 0
  · go_enter Tryd.func7, Tryd.ntmps7
    go_wp2
    go_ret2
    exact ⟨rfl, rfl⟩
  · have h1 : 10 < n := by omega
    go_enter Tryd.func7, Tryd.ntmps7
    go_wp2
    go_ret2
    exact ⟨rfl, rfl⟩

set_option maxRecDepth 100000 in
set_option maxHeartbeats 1600000 in
theorem walk_any (n : Nat) (w : World) (hn : n ≤ 10) : Calls Tryd.prog 7 #[.int .i64 (n : Int)] w (RetCodes w n) := by
  have h2 : 2 ^ n ≤ 2 ^ 10 := Nat.pow_le_pow_right (by omega) hn
  have hp : (2 : Int) ^ n = ((2 ^ n : Nat) : Int) := by simp
  have HC : Hid (codes n = part16 gry (2 ^ n) (2 ^ n)) := (part16_all gry (2 ^ n)).symm
  have HR : Hid (RetCodes w n = fun e w' => ∃ g, w.heap.size ≤ g ∧ e = .returned (.tuple #[.slice (some ⟨g, 0, none⟩) (2 ^ n) (2 ^ n), .int .i64 0]) ∧ U16 w' g (2 ^ n) (part16 gry (2 ^ n) (2 ^ n)) ∧ Below w.heap.size w w') := by
    show (_ = _)
    rw [← HC.out]
    rfl
  rw [HR.out]
  clear HR HC
  generalize 2 ^ n = N at *
  have hmk := fun W => run_make_row' (P := Tryd.prog) 26 30 (.int .u16 0) 2 Tryd.underlying26 infoU16 rfl .i64 .i64 N (by omega) (by omega) W
  go_enter Tryd.func7, Tryd.ntmps7
  go_wp2_with fail
  go_loopg [17] N (fun gh s wr => ∃ k : Nat, k ≤ N ∧ N - k ≤ gh ∧ s = .int .i64 k ∧ U16 wr w.heap.size N (part16 gry N k) ∧ Below w.heap.size w wr)
  case atStart => exact ⟨0, Nat.zero_le _, by omega, rfl, by rw [part16_zero]; exact U16.made w N (by omega), (Below.refl _ _).alloc (Nat.le_refl _) _⟩
  case round =>
    obtain ⟨k, hk, hg, rfl, hrow, hbel⟩ := hrel
    have HR := hid hrow
    have HB := hid hbel
    clear hrow hbel hmk
    by_cases hlt : k < N
    · have f1 : wr.frozen? ⟨w.heap.size, k, none⟩ = false := HR.out.frozen k
      have g1 : wr.cell? ⟨w.heap.size, k, none⟩ = some (.int .u16 (((part16 gry N k).getD k 0 : Nat) : Int)) := HR.out.cell (by rw [length_part16]; exact hlt)
      generalize (part16 gry N k).getD k 0 = old at g1
      have e1 : IntKind.u16.wrap (k : Int) = (k : Int) := by rw [IntKind.wrap_u16]; omega
      have c1 := fun W : World => of_any k W (by omega)
      go_wp2_with fail
      refine (c1 _).mono ?_
      rintro e w' ⟨rfl, rfl⟩
      go_wp2
      go_roundg (N - (k + 1))
      case measure => omega
      case rel => exact ⟨k + 1, by omega, by omega, by go_num, by rw [← part16_step]; exact HR.out.set k (gry k), HB.out.setCell (Nat.le_refl _) _⟩
    · have hkn : k = N := by omega
      subst hkn
      go_wp2
      go_ret2
      exact ⟨w.heap.size, Nat.le_refl _, rfl, HR.out, HB.out⟩

end Go.Proofs.YtlepgeipcofapaaDoor
