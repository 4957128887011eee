/-
  casttop.good, works.
-/
import Derived.Test.YthdjbmogdlodcaaRst
import Derived.Test.YthdjbmogdlodcaaPlain
import Derived.Test.YthdjbmogdlodcaaGood
import Derived.Test.YthdjbmogdlodcaaLit
import Derived.Test.YthdjbmogdlodcaaGen
import Derived.Test.YthdjbmogdlodcaaOrder
import Derived.Test.YthdjbmogdlodcaaRatG
namespace Go.Proofs.Ythdjbmogdlodcaa
open Go.RowKit

set_option maxHeartbeats 400000 in
theorem topgood1_any (x : Int) (w : World) : Calls Try.prog 48 #[.int .i64 x] w fun e w' => e = .returned (.bool (x != 0)) ∧ w = w' := by
  go_enter Try.func48, Try.ntmps48
  go_wp2
  go_ret
  exact ⟨rfl, rfl⟩

def TopIdxGood (l : List Int) (w : World) (e : Ending) (w' : World) : Prop := ∃ r : Int, e = .returned (.int .i64 r) ∧ decide (0 ≤ r) = !(allOK l) ∧ w = w'

set_option maxHeartbeats 800000 in
theorem topIndexFunc_good (A : Option Addr) (n c : Nat) (l : List Int) (w : World) (h : Ints w A n l) (hn : n ≤ 1000000) :
    Calls Try.prog 53 #[.slice A n c, .func (.func 48) #[] #[]] w (TopIdxGood l w) := by
  go_enter Try.func53, Try.ntmps53
  go_wp2
  go_loopg [8] n (fun g s wr => ∃ k : Nat, k ≤ n ∧ n - k ≤ g ∧ s = .int .i64 k ∧ w = wr ∧ ∀ j, j < k → l.getD j 0 = 0)
  case atStart => exact ⟨0, Nat.zero_le _, by omega, rfl, rfl, fun j hj => absurd hj (Nat.not_lt_zero _)⟩
  case round =>
    obtain ⟨k, hk, hg, rfl, rfl, hall⟩ := hrel
    have HA := hid hall
    clear hall
    by_cases hlt : k < n
    · obtain ⟨b, o, rfl, hb, hc⟩ := h.row (by omega)
      have g1 := hc k hlt
      have HL := hid h.len
      clear hc h
      generalize hx : l.getD k 0 = x at g1
      have HX := hid hx
      clear hx
      by_cases hz : x = 0
      · subst hz
        go_wp2_with (go_at_call 48; refine (topgood1_any _ _).mono ?_; rintro e w' ⟨rfl, rfl⟩)
        go_roundg (n - (k + 1))
        case measure => omega
        case rel =>
          refine ⟨k + 1, by omega, by omega, by go_num, rfl, fun j hj => ?_⟩
          by_cases e : j = k
          · subst e
            exact HX.out
          · exact HA.out j (by omega)
      · have hz' : (x != 0) = true := by simpa using hz
        go_wp2_with (go_at_call 48; refine (topgood1_any _ _).mono ?_; rintro e w' ⟨rfl, rfl⟩)
        go_ret
        have HS : allOK l = false := by
          rw [Bool.eq_false_iff]
          intro e
          exact hz (HX.out.symm.trans (allOK_true.1 e k (by rw [HL.out]; exact hlt)))
        exact ⟨_, rfl, by rw [HS]; simp, rfl⟩
    · go_wp2
      go_ret
      have HS : allOK l = true := allOK_true.2 fun i hi => HA.out i (by rw [h.len] at hi; omega)
      exact ⟨_, rfl, by rw [HS]; rfl, rfl⟩

set_option maxHeartbeats 800000 in
theorem topContainsFunc_good (A : Option Addr) (n c : Nat) (l : List Int) (w : World) (h : Ints w A n l) (hn : n ≤ 1000000) :
    Calls Try.prog 40 #[.slice A n c, .func (.func 48) #[] #[]] w fun e w' => e = .returned (.bool (!(allOK l))) ∧ w = w' := by
  go_enter Try.func40, Try.ntmps40
  go_wp2_with fail
  refine (topIndexFunc_good A n c l _ h hn).mono ?_
  rintro e w' ⟨r, rfl, hr, rfl⟩
  go_wp2
  go_ret
  exact ⟨rfl, rfl⟩

set_option maxHeartbeats 800000 in
theorem topgood_any (A : Option Addr) (n c : Nat) (l : List Int) (w : World) (h : Ints w A n l) (hn : n ≤ 1000000) :
    Calls Try.prog 31 #[.slice A n c] w fun e w' => e = .returned (.bool (allOK l)) ∧ w = w' := by
  go_enter Try.func31, Try.ntmps31
  go_wp2_with fail
  refine (topContainsFunc_good A n c l _ h hn).mono ?_
  rintro e w' ⟨rfl, rfl⟩
  go_wp2
  go_ret
  exact ⟨by simp, rfl⟩

theorem topgood_bel (w : World) (cs : Array Value) (t n : Nat) (l : List Int) (h : cs = (l.map (Value.int .i64)).toArray) (hn : l.length = n) (hs : n ≤ 1000000) :
    Calls Try.prog 31 #[.slice (some ⟨w.heap.size, 0, none⟩) n n] (w.alloc (.cells cs t)) fun e w' => e = .returned (.bool (allOK l)) ∧ Below w.heap.size w w' :=
  (topgood_any _ n n l _ (ints_lit w cs t n l h hn) hs).mono fun _ _ ⟨he, hw⟩ => ⟨he, by rw [← hw]; exact below_alloc _ _⟩

set_option maxHeartbeats 800000 in
set_option maxRecDepth 100000 in
theorem works_any (w : World) : Calls Try.prog 30 #[] w fun e w' => e = .returned (.bool true) ∧ Below w.heap.size w w' := by
  obtain ⟨o1, o2, o3⟩ := out_lit (r := Rat.divInt 1 2 + Rat.divInt 1 3) (P := 5) (Q := 6) (by decide +kernel) (by decide +kernel) (by decide +kernel)
  have HL := fun W => radd_of (P := 1) (Q := 2) (P' := 1) (Q' := 3) (Rat.divInt 1 2) (Rat.divInt 1 3) (by decide +kernel) (by decide +kernel) (by decide +kernel) (by decide +kernel) W (by decide +kernel) (by decide +kernel)
  simp only [o1, o2, o3] at HL
  have HL' := hid HL
  clear HL o1 o2 o3
  go_enter Try.func30, Try.ntmps30
  go_wp2_with fail
  refine (order_ok _ 3 3 [1, 2, 0] _ (ints_lit w _ _ 3 [1, 2, 0] rfl rfl) (by decide +kernel)).mono ?_
  rintro e w1 ⟨rfl, hb⟩
  rw [show ordL (cycL [1, 2, 0] 3) = 3 by decide +kernel]
  have HB1 := hid (below_step (below_alloc w (.cells #[.int .i64 1, .int .i64 2, .int .i64 0] 3)) (Nat.le_refl _) hb)
  clear hb
  go_wp2_with fail
  refine (HL'.out _).mono ?_
  rintro e w2 ⟨rfl, hb⟩
  have HB2 := hid (below_step (below_step HB1.out (Nat.le_refl _) hb) (Nat.le_refl _) (below_alloc w2 (.cells #[.int .i64 5, .int .i64 6] 26)))
  clear hb HL' HB1
  go_wp2
  go_ret
  exact ⟨rfl, HB2.out⟩
end Go.Proofs.Ythdjbmogdlodcaa
