/-
  alias.due, alias.upTo: lists that the call makes whole.
-/
import Derived.Test.YteahhjakchcmkaaAliA
import Derived.Test.YteahhjakchcmkaaLit
namespace Go.Proofs.Yteahhjakchcmkaa
open Go.RowKit

theorem part_set {xs : List Int} {n k : Nat} (hl : xs.length = n) (h : k < n) : (xs.take k ++ List.replicate (n - k) (0 : Int)).set k (xs.getD k 0) = xs.take (k + 1) ++ List.replicate (n - (k + 1)) (0 : Int) := by
  obtain ⟨d, rfl⟩ : ∃ d, n = k + 1 + d := ⟨n - (k + 1), by omega⟩
  rw [show k + 1 + d - k = d + 1 by omega, show k + 1 + d - (k + 1) = d by omega, List.replicate_succ, take_snoc (by omega), List.append_assoc, List.singleton_append, List.set_append_right _ _ (by rw [List.length_take]; omega), List.length_take, Nat.min_eq_left (by omega), Nat.sub_self]
  rfl
theorem part_len {xs : List Int} {n k : Nat} (hl : xs.length = n) (h : k ≤ n) : (xs.take k ++ List.replicate (n - k) (0 : Int)).length = n := by
  rw [List.length_append, List.length_take, List.length_replicate]
  omega
theorem part_all {xs : List Int} {n : Nat} (hl : xs.length = n) : xs.take n ++ List.replicate (n - n) (0 : Int) = xs := by
  rw [Nat.sub_self, List.replicate_zero, List.append_nil, ← hl, List.take_length]

/-- A row that the call made whole. -/
def RetArr (w : World) (xs : List Int) (e : Ending) (w' : World) : Prop := e = .returned (.slice (some ⟨w.heap.size, 0, none⟩) xs.length xs.length) ∧ Arr w' w.heap.size xs ∧ Below w.heap.size w w'

set_option maxHeartbeats 1000000 in
theorem aUpTo_any (n : Nat) (w : World) (hn : n ≤ 12) : Calls Try.prog 19 #[.int .i64 (n : Int)] w (RetArr w (ups n)) := by
  have hmk := fun W => run_make_row' (P := Try.prog) 22 3 (.int .i64 0) 8 Try.underlying22 infoInt rfl .i64 .i64 n (by omega) (by omega) W
  go_enter Try.func19, Try.ntmps19
  go_wp2_with fail
  go_loopg [4, 9] n (fun g _ s wr => ∃ k : Nat, k ≤ n ∧ n - k ≤ g ∧ s = .int .i64 k ∧ Arr wr w.heap.size ((ups n).take k ++ List.replicate (n - k) (0 : Int)) ∧ Below w.heap.size w wr)
  case atStart => exact ⟨0, Nat.zero_le _, by omega, rfl, Arr.made w n, below_alloc _ _⟩
  case round =>
    obtain ⟨k, hk, hg, rfl, harr, hbel⟩ := hrel
    have HR := hid harr
    have HB := hid hbel
    clear harr hbel
    by_cases hlt : k < n
    · have hl := part_len (length_ups n) (Nat.le_of_lt hlt)
      have f1 := HR.out.frozen k
      have g1 := HR.out.cell (j := k) (by rw [hl]; exact hlt)
      have HW := hid (HR.out.set k ((ups n).getD k 0))
      rw [part_set (length_ups n) hlt, getD_ups hlt] at HW
      clear hl HR
      generalize ((ups n).take k ++ List.replicate (n - k) (0 : Int)).getD k 0 = z at g1
      go_wp2
      go_roundg (n - (k + 1))
      case measure => omega
      case rel => exact ⟨k + 1, by omega, by omega, by go_num, HW.out, HB.out.setCell (Nat.le_refl _) _⟩
    · obtain rfl : k = n := by omega
      rw [part_all (length_ups k)] at HR
      have HL := hid (length_ups k)
      go_wp2
      go_ret
      exact ⟨by rw [HL.out]; rfl, HR.out, HB.out⟩

set_option maxHeartbeats 1000000 in
theorem aDue_any (A : Option Addr) (n c : Nat) (ws : List Int) (w : World) (hI : Ints w A n ws) (hw : ∀ j, j < ws.length → 0 ≤ ws.getD j 0 ∧ ws.getD j 0 ≤ 100) (hn : n ≤ 12) :
    Calls Try.prog 16 #[.slice A n c] w (RetArr w (dueL ws)) := by
  have hmk := fun W => run_make_row' (P := Try.prog) 22 3 (.int .i64 0) 8 Try.underlying22 infoInt rfl .i64 .i64 n (by omega) (by omega) W
  have HI := hid hI
  have HL := hid hI.len
  have HLD : Hid ((dueL ws).length = n) := (length_dueL ws).trans hI.len
  have HS := hid hw
  clear hI hw
  go_enter Try.func16, Try.ntmps16
  go_wp2_with fail
  go_loopg [4, 5, 11] n (fun g _ _ s wr => ∃ k : Nat, k ≤ n ∧ n - k ≤ g ∧ s = .int .i64 k ∧ Arr wr w.heap.size ((dueL ws).take k ++ List.replicate (n - k) (0 : Int)) ∧ Below w.heap.size w wr)
  case atStart => exact ⟨0, Nat.zero_le _, by omega, rfl, Arr.made w n, below_alloc _ _⟩
  case round =>
    obtain ⟨k, hk, hg, rfl, harr, hbel⟩ := hrel
    have HR := hid harr
    have HB := hid hbel
    clear harr hbel
    by_cases hlt : k < n
    · have hl := part_len HLD.out (Nat.le_of_lt hlt)
      obtain ⟨b, o, rfl, hb, hc⟩ := HI.out.row (by omega)
      have g0 : wr.cell? ⟨b, o + k, none⟩ = some (.int .i64 (ws.getD k 0)) := (HB.out.cell (p := ⟨b, o + k, none⟩) hb).trans (hc k hlt)
      have f1 := HR.out.frozen k
      have g1 := HR.out.cell (j := k) (by rw [hl]; exact hlt)
      have HW := hid (HR.out.set k ((dueL ws).getD k 0))
      rw [part_set HLD.out hlt, getD_dueL (by rw [HL.out]; exact hlt), HL.out] at HW
      have h3 := HS.out k (by rw [HL.out]; exact hlt)
      have h4 : (n : Int) * ws.getD k 0 ≤ 12 * 100 := Int.mul_le_mul (by omega) h3.2 h3.1 (by omega)
      have h5 : 0 ≤ (n : Int) * ws.getD k 0 := Int.mul_nonneg (by omega) h3.1
      have h6 : IntKind.i64.wrap ((n : Int) * ws.getD k 0) = (n : Int) * ws.getD k 0 := by rw [IntKind.wrap_i64]; omega
      clear hl HR hc
      generalize ((dueL ws).take k ++ List.replicate (n - k) (0 : Int)).getD k 0 = z at g1
      generalize ws.getD k 0 = y at *
      go_wp2
      go_roundg (n - (k + 1))
      case measure => omega
      case rel => exact ⟨k + 1, by omega, by omega, by go_num, HW.out, HB.out.setCell (Nat.le_refl _) _⟩
    · obtain rfl : k = n := by omega
      rw [part_all HLD.out] at HR
      go_wp2
      go_ret
      exact ⟨by rw [HLD.out]; rfl, HR.out, HB.out⟩
end Go.Proofs.Yteahhjakchcmkaa
