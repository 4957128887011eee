/-
  A slice of ints inside a struct that came in, opened.
-/
import Derived.Test.YthdjbmogdlodcaaGen
import Derived.SizedLaws
import Derived.Lib.SmallJoins
namespace Go.Proofs.Ythdjbmogdlodcaa
open Go.RowKit Go.ChangeShapes Go.WideShapes Go.Deep

theorem bytesIntO : Try.prog.bytesOf 3 = 8 := by kernel_rfl
theorem lits_lengthO {H : Type} (k : IntKind) (zs : List Int) : (lits (H := H) k zs).length = zs.length := by simp [lits]
theorem ints_of_trod {H : Type} {enc : TypeId × Value → H} {W : World} {fuel : Nat} {v : Value} {y : DataW H × List MemPlace} (h : DataW.trod enc Try.prog W 0 (fun _ => true) true fuel 22 [v] = some y) :
    ∃ A n c xs, v = .slice A n c ∧ Ints W A n xs ∧ Cap n c ∧ ((∀ b ∈ y.1.weights Try.prog 22, b ≤ reachBytes) → n ≤ 17592186044416) := by
  rcases open_ints Try.underlying22 Try.underlying3 (by kernel_rfl) h with ⟨hcs, _⟩ | ⟨x, l, c, zs, hcs, _, hl, hm, hz, hd, hcell, hwz⟩
  · simp only [List.cons.injEq, and_true] at hcs
    exact ⟨none, 0, 0, [], hcs, Ints.nil _ _, ⟨Nat.le_refl _, by omega⟩, fun _ => by omega⟩
  · simp only [List.cons.injEq, and_true] at hcs
    have hr : IsRow .i64 W (some x) l c zs := .inr ⟨_, rfl, hl, hm, by simpa using hz, hcell, hwz⟩
    obtain ⟨h1, h2, h3⟩ := hr.ints
    refine ⟨some x, l, c, zs.take l, hcs, h1, ⟨h2, by unfold maxLen at h3; exact h3⟩, fun hb => ?_⟩
    have hzl : zs.length = c := by simpa using hz
    have hw := hb (c * 8) (by
      rw [hd]
      simp only [DataW.weights, Try.underlying22, lits_lengthO, bytesIntO, List.length_take, List.length_drop, List.mem_cons]
      left
      congr 1
      omega)
    have : reachBytes = 140737488351232 := rfl
    omega
end Go.Proofs.Ythdjbmogdlodcaa
