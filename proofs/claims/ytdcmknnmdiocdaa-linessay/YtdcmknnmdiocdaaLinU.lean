/-
  lines.Up and Down (P42).
-/
import Derived.Test.YtdcmknnmdiocdaaLinL
namespace Go.Proofs.Ytdcmknnmdiocdaa
open Go.RowKit

/-- The places of a longest row come back, and no error. -/
def RetGoes (f : Nat → Nat → Bool) (k : Nat) (w : World) (e : Ending) (w' : World) : Prop :=
  ∃ A n c ys, e = .returned (.tuple #[.slice A n c, .int .i64 0]) ∧ Below w.heap.size w w' ∧ Ints w' A n ys ∧ Cap n c ∧ Goes f k ys
theorem box_cell (w : World) (v : Value) (t : TypeId) : (w.alloc (.cells #[v] t)).cell? ⟨w.heap.size, 0, none⟩ = some v := by
  have h := heap_alloc_new w (.cells #[v] t)
  exact cell_of_row _ _ 0 _ _ _ h

set_option maxHeartbeats 800000 in
theorem up_ok (A : Option Addr) (n c : Nat) (xs : List Int) (w : World) (h : Ints w A n xs) (hn : n ≤ 30) :
    Calls Try.prog 8 #[.slice A n c] w (RetGoes (upF xs) n w) := by
  have HI := hid (h.keep (below_alloc w (.cells #[.slice A n c] 22)))
  have HC := hid (box_cell w (.slice A n c) 22)
  have HB := hid (below_alloc w (.cells #[.slice A n c] 22))
  have HZ : Hid (w.heap.size < (w.alloc (.cells #[.slice A n c] 22)).heap.size) := by show w.heap.size < _; simp
  clear h
  go_enter Try.func8, Try.ntmps8
  go_wp2_with fail
  refine (lcheck_ok A n c _ hn).mono ?_
  rintro e w1 ⟨rfl, rfl⟩
  go_wp2_with fail
  refine (longest_up A n c w.heap.size xs _ HC.out HZ.out HI.out hn).mono ?_
  rintro e w2 ⟨v, ys, rfl, hown, hb, hg⟩
  obtain ⟨B, d, hv, hI2, hC2⟩ := hown.ints
  subst hv
  have HG := hid hg
  have HI2 := hid hI2
  have HC2 := hid hC2
  have HB2 := hid (below_step HB.out (Nat.le_refl _) hb)
  have HL := hid hI2.len
  obtain ⟨m, hm⟩ : ∃ m, m = ys.length := ⟨_, rfl⟩
  rw [← hm] at HI2 HC2 ⊢
  clear hown hb hg hI2 hC2 HI HC HB HZ hm HL
  go_wp2
  go_ret2
  exact ⟨_, _, _, ys, rfl, HB2.out, HI2.out, HC2.out, HG.out⟩
set_option maxHeartbeats 800000 in
theorem up_large (A : Option Addr) (n c : Nat) (w : World) (hn : 30 < n) (hm : n ≤ 9223372036854775807) :
    Calls Try.prog 8 #[.slice A n c] w fun e w' => e = .returned (.tuple #[.slice none 0 0, .int .i64 2]) ∧ Below w.heap.size w w' := by
  have HB := hid (below_alloc w (.cells #[.slice A n c] 22))
  go_enter Try.func8, Try.ntmps8
  go_wp2_with fail
  refine (lcheck_large A n c _ hn hm).mono ?_
  rintro e w1 ⟨rfl, rfl⟩
  go_wp2
  go_ret2
  exact ⟨rfl, HB.out⟩

set_option maxHeartbeats 800000 in
theorem down_ok (A : Option Addr) (n c : Nat) (xs : List Int) (w : World) (h : Ints w A n xs) (hn : n ≤ 30) :
    Calls Try.prog 9 #[.slice A n c] w (RetGoes (downF xs) n w) := by
  have HI := hid (h.keep (below_alloc w (.cells #[.slice A n c] 22)))
  have HC := hid (box_cell w (.slice A n c) 22)
  have HB := hid (below_alloc w (.cells #[.slice A n c] 22))
  have HZ : Hid (w.heap.size < (w.alloc (.cells #[.slice A n c] 22)).heap.size) := by show w.heap.size < _; simp
  clear h
  go_enter Try.func9, Try.ntmps9
  go_wp2_with fail
  refine (lcheck_ok A n c _ hn).mono ?_
  rintro e w1 ⟨rfl, rfl⟩
  go_wp2_with fail
  refine (longest_down A n c w.heap.size xs _ HC.out HZ.out HI.out hn).mono ?_
  rintro e w2 ⟨v, ys, rfl, hown, hb, hg⟩
  obtain ⟨B, d, hv, hI2, hC2⟩ := hown.ints
  subst hv
  have HG := hid hg
  have HI2 := hid hI2
  have HC2 := hid hC2
  have HB2 := hid (below_step HB.out (Nat.le_refl _) hb)
  have HL := hid hI2.len
  obtain ⟨m, hm⟩ : ∃ m, m = ys.length := ⟨_, rfl⟩
  rw [← hm] at HI2 HC2 ⊢
  clear hown hb hg hI2 hC2 HI HC HB HZ hm HL
  go_wp2
  go_ret2
  exact ⟨_, _, _, ys, rfl, HB2.out, HI2.out, HC2.out, HG.out⟩
set_option maxHeartbeats 800000 in
theorem down_large (A : Option Addr) (n c : Nat) (w : World) (hn : 30 < n) (hm : n ≤ 9223372036854775807) :
    Calls Try.prog 9 #[.slice A n c] w fun e w' => e = .returned (.tuple #[.slice none 0 0, .int .i64 2]) ∧ Below w.heap.size w w' := by
  have HB := hid (below_alloc w (.cells #[.slice A n c] 22))
  go_enter Try.func9, Try.ntmps9
  go_wp2_with fail
  refine (lcheck_large A n c _ hn hm).mono ?_
  rintro e w1 ⟨rfl, rfl⟩
  go_wp2
  go_ret2
  exact ⟨rfl, HB.out⟩

end Go.Proofs.Ytdcmknnmdiocdaa
