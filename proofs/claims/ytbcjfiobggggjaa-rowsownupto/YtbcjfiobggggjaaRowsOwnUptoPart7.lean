/-
  Texts joined: OwnZ.
-/
import Derived.Test.YtbcjfiobggggjaaRowsOwnUptoPart6

/-
  Slices that came in, where what comes in is of bounded bulk: with their capacities.
-/
namespace Go.Proofs.Ytbcjfiobggggjaa
open Go.RowKit Go.ChangeShapes Go.WideShapes Go.Deep

theorem ints_of_trod_bulk {H : Type} {enc : TypeId × Value → H} {W : World} {fuel : Nat} {A : Option Addr} {n c : Nat} {y : DataW H × List MemPlace} (h : DataW.trod enc Try.prog W 0 (fun _ => true) true fuel 23 [.slice A n c] = some y) :
    ∃ zs, IsRow .i64 W A n c zs ∧ n ≤ Rows.uptoBulk y.1 := by
  rcases open_ints Try.underlying23 Try.underlying3 cellsInt h with ⟨hcs, _⟩ | ⟨x, l, c', zs, hcs, _, hl, hm, hz, hx, hcell, hwz⟩
  · simp at hcs
    obtain ⟨rfl, rfl, rfl⟩ := hcs
    exact ⟨[], .inl ⟨rfl, rfl, rfl, rfl⟩, Nat.zero_le _⟩
  · simp at hcs
    obtain ⟨rfl, rfl, rfl⟩ := hcs
    have hz' : zs.length = c := by simpa using hz
    refine ⟨zs, .inr ⟨_, rfl, hl, hm, hz', hcell, hwz⟩, ?_⟩
    rw [hx]
    simp only [Rows.uptoBulk, bulk_lits, List.length_take, List.length_drop]
    omega
theorem row_le_flat {T : List (List Int)} (j : Nat) : (T.getD j []).length ≤ T.flatten.length := by
  rw [List.getD_eq_getElem?_getD]
  rcases Nat.lt_or_ge j T.length with h | h
  · rw [List.getElem?_eq_getElem h]
    exact (List.sublist_flatten_of_mem (List.getElem_mem h)).length_le
  · rw [List.getElem?_eq_none h]
    exact Nat.zero_le _

theorem rrows_of_trod_bulkN {H : Type} {enc : TypeId × Value → H} {W : World} {fuel : Nat} {v : Value} {y : DataW H × List MemPlace} (h : DataW.trod enc Try.prog W 0 (fun _ => true) true fuel 22 [v] = some y) :
    ∃ A n c T, v = .slice A n c ∧ RRows W A n T ∧ T.flatten.length + n ≤ Rows.uptoBulk y.1 ∧ Cap n c ∧ (A = none → c = 0) := by
  rcases open_int_rows Try.underlying22 Try.underlying23 Try.underlying3 cellsRow cellsInt h with ⟨hcs, hy⟩ | ⟨a, len, cap, A, L, C, Z, hcs, _, hl, hm, hx, hrow⟩
  · simp only [List.cons.injEq, and_true] at hcs
    exact ⟨none, 0, 0, [], hcs, RRows.nil _ _, by simp, ⟨Nat.le_refl _, by omega⟩, fun _ => rfl⟩
  · simp only [List.cons.injEq, and_true] at hcs
    have hgd : ∀ j, j < len → ((List.range len).map (fun r => (Z r).take (L r))).getD j [] = (Z j).take (L j) := fun j hj => by
      rw [List.getD_eq_getElem?_getD, List.getElem?_map, List.getElem?_range hj]
      rfl
    have hlen : ∀ j, j < len → ((Z j).take (L j)).length = L j := fun j hj => by
      obtain ⟨_, h1, _, h2, _⟩ := hrow j (by omega)
      rw [List.length_take]
      omega
    refine ⟨some a, len, cap, (List.range len).map (fun r => (Z r).take (L r)), hcs, ⟨by simp, fun hp => ?_⟩, ?_, ⟨hl, by unfold maxLen at hm; omega⟩, fun h9 => by cases h9⟩
    · obtain ⟨b, off, sp⟩ := a
      have h0 := (hrow 0 (by omega)).1
      have hsp : sp = none := by simpa [Addr.add] using World.cell?_spot h0
      subst hsp
      have hblk := block_lt_of_cell h0
      refine ⟨b, off, rfl, by simpa [Addr.add] using hblk, fun j hj => ?_⟩
      obtain ⟨h1, h2, h3, h4, _, h6, h7⟩ := hrow j (by omega)
      have ha : (⟨b, off, none⟩ : Addr).add j = ⟨b, off + j, none⟩ := by unfold Addr.add; split <;> simp_all
      rw [ha] at h1
      refine ⟨A j, L j, C j, h1, ?_, ⟨h2, by unfold maxLen at h3; exact h3⟩, h6⟩
      rw [hgd j hj]
      refine ⟨hlen j hj, fun hL => ?_⟩
      rcases hA : A j with _ | a'
      · have := h6 hA
        omega
      · obtain ⟨_, hc⟩ := h7 a' hA
        obtain ⟨b', off', sp'⟩ := a'
        have hc0 := hc 0 (by omega)
        have hsp' : sp' = none := by simpa [Addr.add] using World.cell?_spot hc0
        subst hsp'
        have hblk' := block_lt_of_cell hc0
        refine ⟨b', off', rfl, by simpa [Addr.add] using hblk', fun i hi => ?_⟩
        have hci := hc i (by omega)
        have ha' : (⟨b', off', none⟩ : Addr).add i = ⟨b', off' + i, none⟩ := by unfold Addr.add; split <;> simp_all
        rw [ha'] at hci
        rw [hci]
        simp [List.getD_eq_getElem?_getD, hi]
    · have hb := bulk_flat (H := H) (fun r => intRow .i64 (A r) (L r) (Z r)) (fun r => (Z r).take (L r)) (List.range len) (fun r hr => by
        have hr' := List.mem_range.1 hr
        have h1 := hlen r hr'
        obtain ⟨_, h2, _, h4, _, h6, _⟩ := hrow r (by omega)
        rw [h1]
        rcases hA : A r with _ | a'
        · have := h6 hA
          simp only [intRow, Rows.uptoBulk]
          omega
        · simp only [intRow, Rows.uptoBulk, bulk_lits]
          rw [h1]
          omega)
      rw [List.length_range] at hb
      rw [hx]
      simp only [Rows.uptoBulk]
      omega

end Go.Proofs.Ytbcjfiobggggjaa
