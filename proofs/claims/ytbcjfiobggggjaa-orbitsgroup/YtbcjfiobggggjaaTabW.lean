/-
  A pair of tableaux that came in, opened to rows that are only read.
-/
import Derived.Test.YtbcjfiobggggjaaTabE
import Derived.Deep.Matrix
import Derived.Lib.SmallJoins
import Derived.SizedLaws
namespace Go.Proofs.Ytbcjfiobggggjaa
open Go.RowKit Go.ChangeShapes Go.WideShapes Go.Deep

theorem weightsAll_mem {H : Type} {P : Program} {e : TypeId} : ∀ {l : List (DataW H)} {d : DataW H}, d ∈ l → ∀ n ∈ d.weights P e, n ∈ DataW.weightsAll P e l
  | d' :: r, d, hd, n, hn => by
    simp only [DataW.weightsAll, List.mem_append]
    rcases List.mem_cons.1 hd with rfl | h
    · exact Or.inl hn
    · exact Or.inr (weightsAll_mem h n hn)
theorem bytesInt : Try.prog.bytesOf 3 = 8 := by kernel_rfl
theorem cellsInt : Try.prog.cellsOf 3 = 1 := by kernel_rfl
theorem cellsRow : Try.prog.cellsOf 23 = 1 := by kernel_rfl
theorem lits_length {H : Type} (k : IntKind) (zs : List Int) : (lits (H := H) k zs).length = zs.length := by simp [lits]

/-- One field: rows of rows. 'b' bounds the weights of its datum. -/
theorem rrows_of_trod {H : Type} {enc : TypeId × Value → H} {W : World} {fuel : Nat} {v : Value} {y : DataW H × List MemPlace} (h : DataW.trod enc Try.prog W 0 (fun _ => true) true fuel 22 [v] = some y) :
    ∃ A n c T, v = .slice A n c ∧ RRows W A n T ∧ n ≤ 9223372036854775807 ∧ ((∀ b ∈ y.1.weights Try.prog 22, b ≤ reachBytes) → ∀ j, (T.getD j []).length ≤ 4611686018427387904) := by
  rcases open_int_rows Try.underlying22 Try.underlying23 Try.underlying3 cellsRow cellsInt h with ⟨hcs, _⟩ | ⟨a, len, cap, A, L, C, Z, hcs, _, hl, hm, hx, hrow⟩
  · simp only [List.cons.injEq, and_true] at hcs
    exact ⟨none, 0, 0, [], hcs, RRows.nil _ _, by omega, fun _ j => by simp⟩
  · simp only [List.cons.injEq, and_true] at hcs
    have hgd : ∀ j, j < len → ((List.range len).map (fun r => (Z r).take (L r))).getD j [] = (Z j).take (L j) := fun j hj => by
      rw [List.getD_eq_getElem?_getD, List.getElem?_map, List.getElem?_range hj]
      rfl
    have hlen : ∀ j, j < len → ((Z j).take (L j)).length = L j := fun j hj => by
      obtain ⟨_, h1, _, h2, _⟩ := hrow j (by omega)
      rw [List.length_take]
      omega
    refine ⟨some a, len, cap, (List.range len).map (fun r => (Z r).take (L r)), hcs, ⟨by simp, fun hp => ?_⟩, by unfold maxLen at hm; omega, fun hb j => ?_⟩
    · obtain ⟨b, off, sp⟩ := a
      have h0 := (hrow 0 (by omega)).1
      have hsp : sp = none := by simpa [Addr.add] using World.cell?_spot h0
      subst hsp
      have hblk := block_lt_of_cell h0
      refine ⟨b, off, rfl, by simpa [Addr.add] using hblk, fun j hj => ?_⟩
      obtain ⟨h1, h2, h3, h4, _, h6, h7⟩ := hrow j (by omega)
      have ha : (⟨b, off, none⟩ : Addr).add j = ⟨b, off + j, none⟩ := by unfold Addr.add; split <;> simp_all
      rw [ha] at h1
      refine ⟨A j, L j, C j, h1, ?_, ⟨h2, by unfold maxLen at h3; exact h3⟩, h6⟩
      rw [hgd j hj]
      refine ⟨hlen j hj, fun hL => ?_⟩
      rcases hA : A j with _ | a'
      · have := h6 hA
        omega
      · obtain ⟨_, hc⟩ := h7 a' hA
        obtain ⟨b', off', sp'⟩ := a'
        have hc0 := hc 0 (by omega)
        have hsp' : sp' = none := by simpa [Addr.add] using World.cell?_spot hc0
        subst hsp'
        have hblk' := block_lt_of_cell hc0
        refine ⟨b', off', rfl, by simpa [Addr.add] using hblk', fun i hi => ?_⟩
        have hci := hc i (by omega)
        have ha' : (⟨b', off', none⟩ : Addr).add i = ⟨b', off' + i, none⟩ := by unfold Addr.add; split <;> simp_all
        rw [ha'] at hci
        rw [hci]
        simp [List.getD_eq_getElem?_getD, hi]
    · rcases Nat.lt_or_ge j len with hj | hj
      · rw [hgd j hj, hlen j hj]
        obtain ⟨_, h2, _, h4, _, h6, _⟩ := hrow j (by omega)
        rcases hA : A j with _ | a'
        · have := h6 hA
          omega
        · have hmem : (intRow (H := H) .i64 (A j) (L j) (Z j)) ∈ (List.range len).map (fun r => intRow .i64 (A r) (L r) (Z r)) := List.mem_map.2 ⟨j, List.mem_range.2 hj, rfl⟩
          have hw := hb ((C j) * 8) (by
            rw [hx]
            simp only [DataW.weights, Try.underlying22, List.mem_cons, List.mem_append]
            refine Or.inr (Or.inl (weightsAll_mem hmem _ ?_))
            rw [hA]
            simp only [intRow, DataW.weights, Try.underlying23, lits_length, bytesInt, List.length_take, List.length_drop, List.mem_cons]
            left
            congr 1
            omega)
          have : reachBytes = 140737488351232 := rfl
          omega
      · rw [List.getD_eq_getElem?_getD, List.getElem?_eq_none (by simpa using hj)]
        simp

end Go.Proofs.Ytbcjfiobggggjaa
