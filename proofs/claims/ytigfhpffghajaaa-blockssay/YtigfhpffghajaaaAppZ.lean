/-
  'append(out, make([]int, k)...)' onto a slice of the call's own. Nothing of the program is proved here.
-/
import Derived.Test.YtigfhpffghajaaaOwn
import Derived.Lib.AppendZerosOnto
namespace Go.Proofs.Ytigfhpffghajaaa
open Go.RowKit

theorem zeroCells_int (k : Nat) : (Builtin.zeroCells (Value.int .i64 0).cells k).toList = List.replicate k (Value.int .i64 0) := by
  rw [show (Value.int .i64 0).cells = #[Value.int .i64 0] from rfl]
  simp [Builtin.zeroCells]
  apply List.ext_getElem
  · simp
  · intro i h1 h2
    simp [Nat.mod_one]
theorem zeroCells_int' (k : Nat) : Builtin.zeroCells (Value.int .i64 0).cells k = (List.replicate k (Value.int .i64 0)).toArray := by
  rw [← zeroCells_int k, Array.toArray_toList]

theorem run_appZ (W : World) (base : Nat) (v : Value) (xs : List Int) (k : Nat) (ty : TypeId) (hown : OwnInts W base v xs) (hpos : 0 < xs.length) (hlen : xs.length + k ≤ 1000000) (hbase : base ≤ W.heap.size) :
    ∃ v' w', (Builtin.append_ #[22, 3] ty #[v, .int .i64 (k : Int)]).run Try.prog W = .ok v' w' ∧ OwnInts w' base v' (xs ++ List.replicate k 0) ∧ Below base W w' := by
  obtain ⟨i0, hi, hz0, hz1, hz2⟩ := info_parts infoInt
  have hown' := hown
  unfold OwnInts at hown'
  rcases hown'.2 with ⟨_, h0⟩ | ⟨g, cap, cur, rfl, hbg, hg, hnc, hcm, hcs, htake⟩
  · omega
  · have hw : IntKind.i64.wrap (k : Int) = k := by rw [IntKind.wrap_i64]; omega
    have hneg : ¬ ((k : Int) < 0) := by omega
    have hmap : (xs ++ List.replicate k (0 : Int)).map (Value.int .i64) = xs.map (Value.int .i64) ++ List.replicate k (Value.int .i64 0) := by simp
    rw [Nat.mul_one] at hcs htake
    by_cases hroom : xs.length + k ≤ cap
    · by_cases hk : k = 0
      · subst hk
        refine ⟨.slice (some ⟨g, 0, none⟩) xs.length cap, W, ?_, by simpa using hown, Below.refl _ _⟩
        simp [Builtin.append_, run_underlying Try.underlying22, run_underlying Try.underlying3, sizeOf, typeInfo, hi, hz2, asInt, asIntOf, show IntKind.i64.wrap 0 = 0 by decide, hnc, storeCells]
      · have hst := run_storeCells_at Try.prog g xs.length 3 (List.replicate k (Value.int .i64 0)) 0 cur W hg (by rw [List.length_replicate]; omega) (by intro u hu; rw [List.eq_of_mem_replicate hu]; rfl)
        simp only [Nat.add_zero] at hst
        have h48i : ¬ (281474976710656 < (k : Int) * 8) := by omega
        refine ⟨.slice (some ⟨g, 0, none⟩) (xs.length + k) cap, W.setRow g (cur.toList.take xs.length ++ List.replicate k (Value.int .i64 0) ++ cur.toList.drop (xs.length + (List.replicate k (Value.int .i64 0)).length)).toArray, ?_, ?_, ?_⟩
        · simp [Builtin.append_, run_underlying Try.underlying22, run_underlying Try.underlying3, sizeOf, typeInfo, zeroValue, hi, hz0, hz1, hz2, asInt, asIntOf, hw, hneg, hk, hroom, h48i, zeroCells_int', Addr.add_lit, hst]
        · unfold OwnInts
          rw [hmap]
          simp only [List.length_append, List.length_replicate]
          refine ⟨by simp, .inr ⟨g, cap, _, rfl, hbg, setRow_heap W g cur _ 3 _ hg, hroom, hcm, ?_, ?_⟩⟩
          · simp only [List.size_toArray, List.length_append, List.length_take, List.length_drop, Array.length_toList, List.length_replicate]
            omega
          · rw [htake]
            simp only [Nat.mul_one]
            have e : xs.length + k = (xs.map (Value.int .i64) ++ List.replicate k (Value.int .i64 0)).length := by simp
            rw [e]
            exact List.take_left
        · refine ⟨rfl, rfl, rfl, by simp [World.setRow], fun i hi' => setRow_other W g i _ (by omega)⟩
    · have hcells : ∀ j u, (xs.map (Value.int .i64))[j]? = some u → W.drew.cell? ((⟨g, 0, none⟩ : Addr).add j) = some u := World.ownsRow.cells hown' (g := g) rfl
      have hold := run_firstCells_some (P := Try.prog) W.drew i0.size xs.length ⟨g, 0, none⟩ xs.length cap (xs.map (Value.int .i64)) (by rw [hz1]; simp) hcells
      have hr := Lib.run_append_grow_zeros (P := Try.prog) W 22 3 ty 3 i0 (.int .i64 0) .i64 .i64 Try.underlying22 Try.underlying3 hi hz0 (some ⟨g, 0, none⟩) xs.length cap (xs.map (Value.int .i64)) hold k (by omega) (by rw [hz1]; decide) (by omega) (by omega) (by rw [hz2]; omega) (growslice_fits (by omega) (by rw [hz2]; omega))
      refine ⟨_, _, hr, ?_, ?_⟩
      · unfold OwnInts
        rw [hmap]
        simp only [List.length_append, List.length_replicate]
        have hge := grownCap_ge W (xs.length + k) cap 3
        have hle := grownCap_le_maxLen W (xs.length + k) cap 3 (by unfold maxLen; omega)
        refine ⟨by simp, .inr ⟨W.heap.size, _, _, rfl, hbase, heap_alloc_new W.drew _, hge, hle, ?_, ?_⟩⟩
        · simp only [Array.size_append, List.size_toArray, zeroCells_int', List.length_map, List.length_replicate]
          omega
        · simp only [zeroCells_int', Array.toList_append, Nat.mul_one]
          have e : xs.length + k = (xs.map (Value.int .i64) ++ List.replicate k (Value.int .i64 0)).length := by simp
          rw [e]
          exact List.take_left
      · exact ((Below.refl base W).drew).alloc hbase _

end Go.Proofs.Ytigfhpffghajaaa
