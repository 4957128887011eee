/-
  perm.Check: its answer is permErr of the list.
-/
import Derived.Test.YtaklchehamkgcaaBase
import Derived.Test.YtaklchehamkgcaaPlain
import Derived.Deep.OwnRows
namespace Go.Proofs.Ytaklchehamkgcaa
open Go.RowKit

set_option maxHeartbeats 400000 in
theorem check_large (A : Option Addr) (n c : Nat) (w : World) (hn : 10 < n) (hm : n ≤ 9223372036854775807) :
    Calls Try.prog 51 #[.slice A n c] w fun e w' => e = .returned (.int .i64 2) ∧ w = w' := by
  go_enter Try.func51, Try.ntmps51
  go_wp2
  go_ret
  exact ⟨rfl, rfl⟩

theorem step_seen {xs : List Int} {k m : Nat} (hk : k < xs.length) (hx : xs.getD k 0 = (m : Int)) (j : Nat) :
    (if j = m then Value.bool true else Value.bool (decide ((j : Int) ∈ xs.take k))) = Value.bool (decide ((j : Int) ∈ xs.take (k + 1))) := by
  have e : xs.take (k + 1) = xs.take k ++ [(m : Int)] := by
    rw [List.take_succ_eq_append_getElem hk, ← hx, List.getD_eq_getElem?_getD, List.getElem?_eq_getElem hk]
    rfl
  rw [e]
  by_cases hj : j = m
  · subst hj
    simp
  · rw [if_neg hj]
    congr 1
    have : ¬ (j : Int) = (m : Int) := by omega
    simp [this]

theorem seen_start (w : World) (xs : List Int) : (w.alloc (Obj.cells #[Value.bool false, Value.bool false, Value.bool false, Value.bool false, Value.bool false, Value.bool false,
      Value.bool false, Value.bool false, Value.bool false, Value.bool false] 82)).rowIs w.heap.size 82 10 (fun j => .bool (decide ((j : Int) ∈ xs.take 0))) := by
  refine World.rowIs_alloc w _ _ _ fun i hi => ?_
  simp only [List.take_zero, List.not_mem_nil, decide_false]
  match i, hi with
  | 0, _ | 1, _ | 2, _ | 3, _ | 4, _ | 5, _ | 6, _ | 7, _ | 8, _ | 9, _ => rfl

set_option maxHeartbeats 400000 in
theorem check_small (A : Option Addr) (n c : Nat) (xs : List Int) (w : World) (h : Ints w A n xs) (hn : n ≤ 10) :
    Calls Try.prog 51 #[.slice A n c] w fun e w' => e = .returned (.int .i64 (permErr xs)) ∧ Below w.heap.size w w' := by
  have h10 : decide (10 < (n : Int)) = false := by simp; omega
  go_enter Try.func51, Try.ntmps51
  go_wp2
  go_loopg [11] n (fun g s wr => ∃ k : Nat, k ≤ n ∧ n - k ≤ g ∧ s = .int .i64 k ∧ wr.rowIs w.heap.size 82 10 (fun j => .bool (decide ((j : Int) ∈ xs.take k))) ∧ Below w.heap.size w wr ∧
      ∀ j, j < k → 0 ≤ xs.getD j 0 ∧ xs.getD j 0 < xs.length ∧ xs.getD j 0 ∉ xs.take j)
  case atStart => exact ⟨0, Nat.zero_le _, by omega, rfl, seen_start w xs, (Below.refl _ _).alloc (Nat.le_refl _) _, fun j hj => absurd hj (Nat.not_lt_zero _)⟩
  case round =>
    obtain ⟨k, hk, hg, rfl, hrow, hbel, hall⟩ := hrel
    have HA := hid hall
    have HR := hid hrow
    have HB := hid hbel
    clear hall hrow hbel
    by_cases hlt : k < n
    · obtain ⟨b, o, rfl, hb, hc⟩ := h.row (by omega)
      have HL := hid h.len
      have g1 : wr.cell? ⟨b, o + k, none⟩ = some (.int .i64 (xs.getD k 0)) := (HB.out.cell (p := ⟨b, o + k, none⟩) hb).trans (hc k hlt)
      have hbad : xs.getD k 0 < 0 ∨ (xs.length : Int) ≤ xs.getD k 0 ∨ xs.getD k 0 ∈ xs.take k → permErr xs = 3 := fun hx => permErr_bad (by rw [HL.out]; exact hn) (not_isPerm_of_step (by rw [HL.out]; exact hlt) hx)
      have HBAD := hid hbad
      clear hc h hbad
      generalize hxk : xs.getD k 0 = x at g1
      have HX := hid hxk
      clear hxk
      by_cases h0 : x < 0
      · go_wp2
        go_ret
        rw [HBAD.out (by rw [HX.out]; exact Or.inl h0)]
        exact ⟨rfl, HB.out⟩
      · have h0' : 0 ≤ x := by omega
        obtain ⟨m, rfl⟩ := Int.eq_ofNat_of_zero_le h0'
        clear h0 h0'
        have d0 : decide ((m : Int) < 0) = false := by simp
        by_cases h1 : n ≤ m
        · have d1 : decide ((n : Int) ≤ (m : Int)) = true := by simp; omega
          go_wp2
          go_ret
          rw [HBAD.out (by rw [HX.out, HL.out]; exact Or.inr (Or.inl (by omega)))]
          exact ⟨rfl, HB.out⟩
        · have d1 : decide ((n : Int) ≤ (m : Int)) = false := by simp; omega
          have hm : m < n := by omega
          have g2 : wr.cell? ⟨w.heap.size, m, none⟩ = some (.bool (decide ((m : Int) ∈ xs.take k))) := HR.out.cell (by omega)
          have g3 : wr.frozen? ⟨w.heap.size, m, none⟩ = false := HR.out.frozen m
          by_cases h2 : (m : Int) ∈ xs.take k
          · rw [decide_eq_true h2] at g2
            have H2 := hid h2
            clear h2
            go_wp2
            go_ret
            rw [HBAD.out (by rw [HX.out]; exact Or.inr (Or.inr H2.out))]
            exact ⟨rfl, HB.out⟩
          · rw [decide_eq_false h2] at g2
            have H2 := hid h2
            clear h2
            go_wp2
            go_roundg (n - (k + 1))
            case measure => omega
            case rel =>
              refine ⟨k + 1, by omega, by omega, by go_num, (HR.out.set m (.bool true)).congr (fun j _ => step_seen (by rw [HL.out]; exact hlt) HX.out j), HB.out.setCell (Nat.le_refl _) _, fun j hj => ?_⟩
              by_cases e : j = k
              · subst e
                rw [HX.out, HL.out]
                exact ⟨by omega, by omega, H2.out⟩
              · exact HA.out j (by omega)
    · have hkn : k = n := by omega
      subst hkn
      go_wp2
      go_ret
      rw [permErr_ok.2 ⟨by rw [h.len]; exact hn, isPerm_of_steps (by rw [h.len]; rw [h.len] at HA; exact HA.out)⟩]
      exact ⟨rfl, HB.out⟩

/-- perm.Check, whatever the slice. -/
theorem check_any (A : Option Addr) (n c : Nat) (xs : List Int) (w : World) (h : Ints w A n xs) (hm : n ≤ 9223372036854775807) :
    Calls Try.prog 51 #[.slice A n c] w fun e w' => e = .returned (.int .i64 (permErr xs)) ∧ Below w.heap.size w w' := by
  by_cases hn : 10 < n
  · refine (check_large A n c w hn hm).mono ?_
    rintro e w' ⟨rfl, rfl⟩
    have e : permErr xs = 2 := if_pos (by rw [h.len]; exact hn)
    rw [e]
    exact ⟨rfl, Below.refl _ _⟩
  · refine (check_small A n c xs w h (by omega)).mono ?_
    rintro e w' ⟨rfl, hb⟩
    exact ⟨rfl, hb⟩

end Go.Proofs.Ytaklchehamkgcaa
