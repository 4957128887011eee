/-
  slices.IndexFunc, ContainsFunc at rows: is something so of one of them?
-/
import Derived.Test.YtbcjfiobggggjaaTabE
import Derived.WalkKit
import Derived.Deep.LoopGhost
import Derived.Shelf.Abstract
import Derived.Deep.Draws
namespace Go.Proofs.Ytbcjfiobggggjaa
open Go.RowKit

/-- What the function value (function F, bound to env) says of each row. -/
def RowPred (F : Nat) (env : Array Value) (q : List Int → Bool) (L : List (List Int)) (w : World) : Prop :=
  ∀ (A : Option Addr) (n c : Nat) (xs : List Int) (w' : World), xs ∈ L → Below w.heap.size w w' → Ints w' A n xs → Cap n c →
    Calls Try.prog F (#[.slice A n c] ++ env) w' fun e w'' => e = .returned (.bool (q xs)) ∧ Below w'.heap.size w' w''

/-- A place, or none: and is it there? -/
def RetIdx (w : World) (b : Bool) (e : Ending) (w' : World) : Prop := ∃ x : Int, e = .returned (.int .i64 x) ∧ decide (0 ≤ x) = b ∧ Below w.heap.size w w'

theorem getD_memR {L : List (List Int)} {j : Nat} (hj : j < L.length) : L.getD j [] ∈ L := by
  rw [List.getD_eq_getElem?_getD, List.getElem?_eq_getElem hj]
  exact List.getElem_mem hj
theorem any_of_at {L : List (List Int)} {q : List Int → Bool} {j : Nat} (hj : j < L.length) (h : q (L.getD j []) = true) : L.any q = true := List.any_eq_true.2 ⟨_, getD_memR hj, h⟩
theorem any_none {L : List (List Int)} {q : List Int → Bool} (h : ∀ j, j < L.length → q (L.getD j []) = false) : L.any q = false := by
  rw [List.any_eq_false]
  intro x hx
  obtain ⟨j, hj, rfl⟩ := List.getElem_of_mem hx
  have := h j hj
  rw [List.getD_eq_getElem?_getD, List.getElem?_eq_getElem hj] at this
  simpa using this

set_option maxRecDepth 100000 in
set_option maxHeartbeats 800000 in
theorem indexFuncR (F : Nat) (env : Array Value) (eg : ∀ args w, (callFunc F args).run Try.prog w = .ok (.enter F args) w) (q : List Int → Bool) (A : Option Addr) (m c : Nat) (L : List (List Int)) (w : World) (h : RRows w A m L) (hm : m ≤ 9223372036854775807) (hq : RowPred F env q L w) :
    Calls Try.prog 58 #[.slice A m c, .func (.func F) #[] env] w (RetIdx w (L.any q)) := by
  have HQ := hid hq
  have HL := hid h.len
  clear hq
  go_enter Try.func58, Try.ntmps58
  go_wp2
  go_loopg [5, 8] m (fun g _ s wr => ∃ j : Nat, j ≤ m ∧ m - j ≤ g ∧ s = .int .i64 j ∧ (∀ i, i < j → q (L.getD i []) = false) ∧ Below w.heap.size w wr)
  case atStart => exact ⟨0, Nat.zero_le _, by omega, rfl, fun i hi => absurd hi (Nat.not_lt_zero _), Below.refl _ _⟩
  case round =>
    obtain ⟨j, hj, hg, rfl, hok, hbel⟩ := hrel
    have HO := hid hok
    have HB := hid hbel
    have hR := h.keep hbel
    clear hok hbel
    by_cases hlt : j < m
    · obtain ⟨b, off, Aj, nj, cj, rfl, hcell, hI, hcap⟩ := hR.at hlt
      have HJ : Hid (j < L.length) := by show j < L.length; rw [HL.out]; exact hlt
      have hcall := HQ.out Aj nj cj (L.getD j []) wr (getD_memR HJ.out) HB.out hI hcap
      have HT := hid (any_of_at (q := q) HJ.out)
      have HR := hid (show q (L.getD j []) = q (L.getD j []) from rfl)
      clear hR hI h
      cases hb : q (L.getD j []) with
      | true =>
        rw [hb] at hcall
        have HT2 := hid (HT.out hb)
        clear HT HR hb
        go_wp2_with (go_at_fn F; refine hcall.mono ?_; rintro e w1 ⟨rfl, hb1⟩)
        have HB1 := hid (below_step HB.out (Nat.le_refl _) hb1)
        clear hb1
        go_wp2
        go_ret
        exact ⟨j, rfl, by rw [HT2.out]; simp, HB1.out⟩
      | false =>
        rw [hb] at hcall
        have HF := hid hb
        clear HT HR hb
        go_wp2_with (go_at_fn F; refine hcall.mono ?_; rintro e w1 ⟨rfl, hb1⟩)
        have HB1 := hid (below_step HB.out (Nat.le_refl _) hb1)
        clear hb1
        go_wp2
        go_roundg (m - (j + 1))
        case measure => omega
        case rel =>
          refine ⟨j + 1, by omega, by omega, by go_num, fun i hi => ?_, HB1.out⟩
          by_cases e : i = j
          · subst e; exact HF.out
          · exact HO.out i (by omega)
    · have hjm : j = m := by omega
      subst hjm
      clear h hR
      go_wp2
      go_ret
      exact ⟨-1, rfl, by rw [any_none (by rw [HL.out]; exact HO.out)]; rfl, HB.out⟩

set_option maxRecDepth 100000 in
set_option maxHeartbeats 800000 in
theorem containsFuncR (F : Nat) (env : Array Value) (eg : ∀ args w, (callFunc F args).run Try.prog w = .ok (.enter F args) w) (q : List Int → Bool) (A : Option Addr) (m c : Nat) (L : List (List Int)) (w : World) (h : RRows w A m L) (hm : m ≤ 9223372036854775807) (hq : RowPred F env q L w) :
    Calls Try.prog 27 #[.slice A m c, .func (.func F) #[] env] w fun e w' => e = .returned (.bool (L.any q)) ∧ Below w.heap.size w w' := by
  have hc := indexFuncR F env eg q A m c L w h hm hq
  clear h hq
  go_enter Try.func27, Try.ntmps27
  go_wp2_with (go_at_call 58; refine hc.mono ?_)
  rintro e w1 ⟨x, rfl, hx, hb⟩
  have HX := hid hx
  have HB := hid hb
  clear hx hb
  go_wp2
  go_ret
  exact ⟨by rw [HX.out]; rfl, HB.out⟩

end Go.Proofs.Ytbcjfiobggggjaa
