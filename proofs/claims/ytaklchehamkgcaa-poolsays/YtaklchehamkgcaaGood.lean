/-
  castkeep.good: true just where all of its errors are OK.
-/
import Derived.Test.YtaklchehamkgcaaRst
import Derived.Test.YtaklchehamkgcaaPlain
namespace Go.Proofs.Ytaklchehamkgcaa
open Go.RowKit

set_option maxHeartbeats 400000 in
theorem good1_any (x : Int) (w : World) : Calls Try.prog 35 #[.int .i64 x] w fun e w' => e = .returned (.bool (x != 0)) ∧ w = w' := by
  go_enter Try.func35, Try.ntmps35
  go_wp2
  go_ret
  exact ⟨rfl, rfl⟩

def allOK (l : List Int) : Bool := l.all (fun x => x == 0)
theorem allOK_true {l : List Int} : allOK l = true ↔ ∀ i, i < l.length → l.getD i 0 = 0 := by
  simp only [allOK, List.all_eq_true, beq_iff_eq]
  constructor
  · intro h i hi
    exact h _ (getD_mem hi)
  · intro h x hx
    obtain ⟨i, hi, rfl⟩ := mem_getD hx
    exact h i hi

def IdxGood (l : List Int) (w : World) (e : Ending) (w' : World) : Prop := ∃ r : Int, e = .returned (.int .i64 r) ∧ decide (0 ≤ r) = !(allOK l) ∧ w = w'

set_option maxHeartbeats 800000 in
theorem indexFunc_good (A : Option Addr) (n c : Nat) (l : List Int) (w : World) (h : Ints w A n l) (hn : n ≤ 1000000) :
    Calls Try.prog 50 #[.slice A n c, .func (.func 35) #[] #[]] w (IdxGood l w) := by
  go_enter Try.func50, Try.ntmps50
  go_wp2
  go_loopg [8] n (fun g s wr => ∃ k : Nat, k ≤ n ∧ n - k ≤ g ∧ s = .int .i64 k ∧ w = wr ∧ ∀ j, j < k → l.getD j 0 = 0)
  case atStart => exact ⟨0, Nat.zero_le _, by omega, rfl, rfl, fun j hj => absurd hj (Nat.not_lt_zero _)⟩
  case round =>
    obtain ⟨k, hk, hg, rfl, rfl, hall⟩ := hrel
    have HA := hid hall
    clear hall
    by_cases hlt : k < n
    · obtain ⟨b, o, rfl, hb, hc⟩ := h.row (by omega)
      have g1 := hc k hlt
      have HL := hid h.len
      clear hc h
      generalize hx : l.getD k 0 = x at g1
      have HX := hid hx
      clear hx
      by_cases hz : x = 0
      · subst hz
        go_wp2_with (go_at_call 35; refine (good1_any _ _).mono ?_; rintro e w' ⟨rfl, rfl⟩)
        go_roundg (n - (k + 1))
        case measure => omega
        case rel =>
          refine ⟨k + 1, by omega, by omega, by go_num, rfl, fun j hj => ?_⟩
          by_cases e : j = k
          · subst e
            exact HX.out
          · exact HA.out j (by omega)
      · have hz' : (x != 0) = true := by simpa using hz
        go_wp2_with (go_at_call 35; refine (good1_any _ _).mono ?_; rintro e w' ⟨rfl, rfl⟩)
        go_ret
        have HS : allOK l = false := by
          rw [Bool.eq_false_iff]
          intro e
          exact hz (HX.out.symm.trans (allOK_true.1 e k (by rw [HL.out]; exact hlt)))
        exact ⟨_, rfl, by rw [HS]; simp, rfl⟩
    · go_wp2
      go_ret
      have HS : allOK l = true := allOK_true.2 fun i hi => HA.out i (by rw [h.len] at hi; omega)
      exact ⟨_, rfl, by rw [HS]; rfl, rfl⟩

set_option maxHeartbeats 800000 in
theorem containsFunc_good (A : Option Addr) (n c : Nat) (l : List Int) (w : World) (h : Ints w A n l) (hn : n ≤ 1000000) :
    Calls Try.prog 34 #[.slice A n c, .func (.func 35) #[] #[]] w fun e w' => e = .returned (.bool (!(allOK l))) ∧ w = w' := by
  go_enter Try.func34, Try.ntmps34
  go_wp2_with fail
  refine (indexFunc_good A n c l _ h hn).mono ?_
  rintro e w' ⟨r, rfl, hr, rfl⟩
  go_wp2
  go_ret
  exact ⟨rfl, rfl⟩

set_option maxHeartbeats 800000 in
theorem good_any (A : Option Addr) (n c : Nat) (l : List Int) (w : World) (h : Ints w A n l) (hn : n ≤ 1000000) :
    Calls Try.prog 21 #[.slice A n c] w fun e w' => e = .returned (.bool (allOK l)) ∧ w = w' := by
  go_enter Try.func21, Try.ntmps21
  go_wp2_with fail
  refine (containsFunc_good A n c l _ h hn).mono ?_
  rintro e w' ⟨rfl, rfl⟩
  go_wp2
  go_ret
  exact ⟨by simp, rfl⟩

end Go.Proofs.Ytaklchehamkgcaa
