/-
  orbits.Check.
-/
import Derived.Test.YtbcjfiobggggjaaCheck
import Derived.Test.YtbcjfiobggggjaaTabE
import Derived.WalkKit
namespace Go.Proofs.Ytbcjfiobggggjaa
open Go.RowKit

/-- An order of k numbers. -/
def okRow (k : Nat) (p : List Int) : Bool := decide (p.length = k) && decide (permErr p = 0)
/-- P44: the error. -/
def orbE (n : Int) (L : List (List Int)) : Int := if n < 0 ∨ 6 < n then 1 else if 6 < L.length then 2 else if L.all (okRow n.toNat) = true then 0 else 3

theorem orbE_arg {n : Int} {L : List (List Int)} (h : n < 0 ∨ 6 < n) : orbE n L = 1 := by unfold orbE; rw [if_pos h]
theorem orbE_large {k : Nat} {L : List (List Int)} (hk : k ≤ 6) (h : 6 < L.length) : orbE (k : Int) L = 2 := by unfold orbE; rw [if_neg (by omega), if_pos h]
theorem orbE_form {k j : Nat} {L : List (List Int)} (hk : k ≤ 6) (hl : L.length ≤ 6) (hj : j < L.length) (h : okRow k (L.getD j []) = false) : orbE (k : Int) L = 3 := by
  unfold orbE
  rw [if_neg (by omega), if_neg (by omega), if_neg]
  rw [List.all_eq_true]
  intro ha
  have hm : L.getD j [] ∈ L := by
    rw [List.getD_eq_getElem?_getD, List.getElem?_eq_getElem hj]
    exact List.getElem_mem hj
  have := ha _ hm
  rw [show ((k : Int)).toNat = k by omega, h] at this
  cases this
theorem orbE_ok {k : Nat} {L : List (List Int)} (hk : k ≤ 6) (hl : L.length ≤ 6) (h : ∀ j, j < L.length → okRow k (L.getD j []) = true) : orbE (k : Int) L = 0 := by
  unfold orbE
  rw [if_neg (by omega), if_neg (by omega), if_pos]
  rw [List.all_eq_true]
  intro x hx
  obtain ⟨j, hj, rfl⟩ := List.getElem_of_mem hx
  have := h j hj
  rw [List.getD_eq_getElem?_getD, List.getElem?_eq_getElem hj] at this
  rw [show ((k : Int)).toNat = k by omega]
  exact this
theorem orbE_zero {n : Int} {L : List (List Int)} (h : orbE n L = 0) : ∃ k : Nat, n = k ∧ k ≤ 6 ∧ L.length ≤ 6 ∧ ∀ p, p ∈ L → p.length = k ∧ IsPerm p := by
  unfold orbE at h
  split at h
  · cases h
  · rename_i h1
    split at h
    · cases h
    · split at h
      · rename_i h2 h3
        refine ⟨n.toNat, by omega, by omega, by omega, fun p hp => ?_⟩
        have := List.all_eq_true.1 h3 p hp
        simp only [okRow, Bool.and_eq_true, decide_eq_true_eq] at this
        exact ⟨this.1, (permErr_ok.1 this.2).2⟩
      · cases h

set_option maxRecDepth 100000 in
set_option maxHeartbeats 800000 in
theorem checkO_any (A : Option Addr) (m c : Nat) (L : List (List Int)) (n : Int) (w : World) (h : RRows w A m L) (hm : m ≤ 9223372036854775807) :
    Calls Try.prog 13 #[.int .i64 n, .slice A m c] w fun e w' => e = .returned (.int .i64 (orbE n L)) ∧ Below w.heap.size w w' := by
  by_cases h0 : n < 0
  · rw [orbE_arg (Or.inl h0)]
    have d0 : decide (n < 0) = true := by simp [h0]
    go_enter Try.func13, Try.ntmps13
    go_wp2
    go_ret
    exact ⟨rfl, Below.refl _ _⟩
  by_cases h6 : 6 < n
  · rw [orbE_arg (Or.inr h6)]
    have d0 : decide (n < 0) = false := by simp; omega
    have d1 : decide (6 < n) = true := by simp [h6]
    go_enter Try.func13, Try.ntmps13
    go_wp2
    go_ret
    exact ⟨rfl, Below.refl _ _⟩
  obtain ⟨k, rfl⟩ := Int.eq_ofNat_of_zero_le (show 0 ≤ n by omega)
  have hk : k ≤ 6 := by omega
  clear h0 h6
  have d0 : decide ((k : Int) < 0) = false := by simp
  have d1 : decide (6 < (k : Int)) = false := by simp; omega
  have HL := hid h.len
  by_cases hl : 6 < m
  · rw [orbE_large hk (by rw [HL.out]; exact hl)]
    clear h
    go_enter Try.func13, Try.ntmps13
    go_wp2
    go_ret
    exact ⟨rfl, Below.refl _ _⟩
  have hl6 : m ≤ 6 := by omega
  clear hl
  go_enter Try.func13, Try.ntmps13
  go_wp2
  go_loopg [18] m (fun g s wr => ∃ j : Nat, j ≤ m ∧ m - j ≤ g ∧ s = .int .i64 j ∧ (∀ i, i < j → okRow k (L.getD i []) = true) ∧ Below w.heap.size w wr)
  case atStart => exact ⟨0, Nat.zero_le _, by omega, rfl, fun i hi => absurd hi (Nat.not_lt_zero _), Below.refl _ _⟩
  case round =>
    obtain ⟨j, hj, hg, rfl, hok, hbel⟩ := hrel
    have HO := hid hok
    have HB := hid hbel
    have hR := h.keep hbel
    clear hok hbel
    by_cases hlt : j < m
    · obtain ⟨b, off, Aj, nj, cj, rfl, hcell, hI, hcap⟩ := hR.at hlt
      have hjl : j < L.length := by rw [HL.out]; exact hlt
      have HJL := hid hjl
      have HF := hid (orbE_form (L := L) (j := j) hk (by rw [HL.out]; exact hl6) hjl)
      have HE := hid hI.len
      clear hR hjl
      generalize hp : L.getD j [] = p at hI HF HE
      have HP := hid hp
      clear hp
      by_cases hnk : nj = k
      · subst hnk
        have e1 : (((nj : Nat) : Int) != (nj : Int)) = false := by simp
        clear h
        go_wp2_with fail
        refine (check_any Aj nj cj p _ hI (by omega)).mono ?_
        rintro e w1 ⟨rfl, hb1⟩
        have HB1 := hid (below_step HB.out (Nat.le_refl _) hb1)
        clear hb1 hI
        have HZ := hid (show permErr p = permErr p ∧ (permErr p ≠ 0 → orbE (nj : Int) L = 3) from ⟨rfl, fun hz => HF.out (by unfold okRow; simp [hz])⟩)
        clear HF
        by_cases hz : permErr p = 0
        · have e2 : (permErr p != 0) = false := by simp [hz]
          replace HZ : Hid (okRow nj p = true) := by
            show okRow nj p = true
            unfold okRow
            rw [HE.out, hz]
            simp
          clear hz
          generalize permErr p = z at e2
          go_wp2
          go_roundg (m - (j + 1))
          case measure => omega
          case rel =>
            refine ⟨j + 1, by omega, by omega, by go_num, fun i hi => ?_, HB1.out⟩
            by_cases e : i = j
            · subst e
              rw [HP.out]
              exact HZ.out
            · exact HO.out i (by omega)
        · have e2 : (permErr p != 0) = true := by simp [hz]
          have HT := hid (HZ.out.2 hz)
          clear hz HZ
          generalize permErr p = z at e2
          go_wp2
          go_ret
          rw [HT.out]
          exact ⟨rfl, HB1.out⟩
      · have e1 : (((nj : Nat) : Int) != (k : Int)) = true := by simp; omega
        have e3 : okRow k p = false := by unfold okRow; rw [HE.out]; simp [hnk]
        have HT := hid (HF.out e3)
        clear h hI HF e3
        go_wp2
        go_ret
        rw [HT.out]
        exact ⟨rfl, HB.out⟩
    · have hjm : j = m := by omega
      subst hjm
      have HT := hid (orbE_ok hk (by rw [HL.out]; exact hl6) (by rw [HL.out]; exact HO.out))
      clear h hR
      go_wp2
      go_ret
      rw [HT.out]
      exact ⟨rfl, HB.out⟩

end Go.Proofs.Ytbcjfiobggggjaa
