/-
  A slice of columns that came in, opened.
-/
import Derived.Test.YteahhjakchcmkaaAliA
import Derived.Test.YteahhjakchcmkaaGen
import Derived.Deep.SlicePairs
import Derived.SizedLaws
import Derived.Lib.SmallJoins
namespace Go.Proofs.Yteahhjakchcmkaa
open Go.RowKit Go.ChangeShapes Go.WideShapes Go.Deep

theorem addr_addA (b off i : Nat) : (⟨b, off, none⟩ : Addr).add i = ⟨b, off + i, none⟩ := by unfold Addr.add; split <;> simp_all
/-- The number that a value holds. -/
def numOf (v : Value) : Int := match v with
  | .int _ z => z
  | _ => 0
theorem cols_of_trod {H : Type} {enc : TypeId × Value → H} {W : World} {fuel : Nat} {v : Value} {y : DataW H × List MemPlace} (h : DataW.trod enc Try.prog W 0 (fun _ => true) true fuel 23 [v] = some y) :
    ∃ A n c cs, v = .slice A n c ∧ Cols W A n cs ∧ Cap n c := by
  rcases open_slice_pairs Try.underlying23 Try.underlying32 (by kernel_rfl) rfl rfl (by kernel_rfl) (by kernel_rfl) h with ⟨hcs, _⟩ | ⟨a, len, cap, m, k, V0, V1, D0, D1, P0, P1, hcs, _, hl, hm, hmm, _, hrow⟩
  · simp only [List.cons.injEq, and_true] at hcs
    exact ⟨none, 0, 0, [], hcs, Cols.nil _ _, ⟨Nat.le_refl _, by omega⟩⟩
  · simp only [List.cons.injEq, and_true] at hcs
    have hmc : m = cap := hmm
    have hV : ∀ i, i < len → V0 i = .int .i64 (numOf (V0 i)) ∧ V1 i = .int .i64 (numOf (V1 i)) := fun i hi => by
      obtain ⟨_, _, h0, h1⟩ := hrow i (by omega)
      obtain ⟨z0, hz0, _, _⟩ := DataW.trod_int Try.underlying3 h0
      obtain ⟨z1, hz1, _, _⟩ := DataW.trod_int Try.underlying3 h1
      simp only [List.cons.injEq, and_true] at hz0 hz1
      rw [hz0, hz1]
      exact ⟨rfl, rfl⟩
    refine ⟨some a, len, cap, (List.range len).map fun i => (numOf (V0 i), numOf (V1 i)), hcs, ⟨by simp, fun hp => ?_⟩, ⟨hl, by unfold maxLen at hm; exact hm⟩⟩
    obtain ⟨b, off, sp⟩ := a
    have h0 := (hrow 0 (by omega)).1
    have hsp : sp = none := by simpa [Addr.add] using World.cell?_spot h0
    subst hsp
    have hblk := block_lt_of_cell h0
    refine ⟨b, off, rfl, by simpa [Addr.add] using hblk, fun j hj => ?_⟩
    obtain ⟨h1, h2, _, _⟩ := hrow j (by omega)
    obtain ⟨e1, e2⟩ := hV j hj
    rw [addr_addA] at h1 h2
    have hc : cut ((List.range len).map fun i => (numOf (V0 i), numOf (V1 i))) j = numOf (V0 j) := by
      unfold cut
      simp [List.getD_eq_getElem?_getD, hj]
    have ho : oth ((List.range len).map fun i => (numOf (V0 i), numOf (V1 i))) j = numOf (V1 j) := by
      unfold oth
      simp [List.getD_eq_getElem?_getD, hj]
    rw [hc, ho, ← e1, ← e2]
    exact ⟨h1, by rw [Nat.add_assoc]; exact h2⟩
end Go.Proofs.Yteahhjakchcmkaa
