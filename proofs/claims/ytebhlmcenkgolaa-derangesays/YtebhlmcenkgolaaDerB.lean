/-
  derange.Own.
-/
import Derived.Test.YtebhlmcenkgolaaCheck
import Derived.Test.YtebhlmcenkgolaaRst
namespace Go.Proofs.Ytebhlmcenkgolaa
open Go.RowKit

/-- How many stay among the first k. -/
def ownK (p : List Int) (k : Nat) : Nat := (List.range k).countP (fun j => decide (p.getD j 0 = (j : Int)))
def ownN (p : List Int) : Nat := ownK p p.length
theorem ownK_yes {p : List Int} {k : Nat} (h : p.getD k 0 = (k : Int)) : ownK p (k + 1) = ownK p k + 1 := by
  unfold ownK
  rw [List.range_succ, List.countP_append]
  simpa using h
theorem ownK_no {p : List Int} {k : Nat} (h : p.getD k 0 ≠ (k : Int)) : ownK p (k + 1) = ownK p k := by
  unfold ownK
  rw [List.range_succ, List.countP_append]
  simpa using h
theorem ownK_le (p : List Int) (k : Nat) : ownK p k ≤ k := by
  unfold ownK
  exact Nat.le_trans List.countP_le_length (by simp)

set_option maxHeartbeats 400000 in
theorem own_err (A : Option Addr) (n c : Nat) (p : List Int) (w : World) (hA : Ints w A n p) (hp : permErr p ≠ 0) (hn : n ≤ 9223372036854775807) :
    Calls Try.prog 9 #[.slice A n c] w fun e w' => e = .returned (.tuple #[.int .i64 0, .int .i64 (permErr p)]) ∧ Below w.heap.size w w' := by
  have hne : (permErr p != 0) = true := by simpa using hp
  go_enter Try.func9, Try.ntmps9
  go_wp2_with fail
  refine (check_any A n c p _ hA hn).mono ?_
  rintro e w1 ⟨rfl, hb1⟩
  have HB1 := hid hb1
  clear hb1 hp
  go_wp2
  go_ret2
  exact ⟨rfl, HB1.out⟩

set_option maxHeartbeats 800000 in
theorem own_ok (A : Option Addr) (n c : Nat) (p : List Int) (w : World) (hA : Ints w A n p) (hp : permErr p = 0) :
    Calls Try.prog 9 #[.slice A n c] w fun e w' => e = .returned (.tuple #[.int .i64 ((ownN p : Nat) : Int), .int .i64 0]) ∧ Below w.heap.size w w' := by
  have hn10 : n ≤ 10 := by rw [← hA.len]; exact (permErr_ok.1 hp).1
  have HL := hid hA.len
  go_enter Try.func9, Try.ntmps9
  go_wp2_with fail
  refine (check_any A n c p _ hA (by omega)).mono ?_
  rintro e w1 ⟨rfl, hb1⟩
  have HI := hid (hA.keep hb1)
  have HB1 := hid hb1
  clear hb1 hA
  rw [hp]
  go_wp2_with fail
  go_loopg [5, 6, 7, 15] n (fun g u _ _ s wr => ∃ k : Nat, k ≤ n ∧ n - k ≤ g ∧ u = .int .i64 ((ownK p k : Nat) : Int) ∧ s = .int .i64 (k : Int) ∧ w1 = wr)
  case atStart => exact ⟨0, Nat.zero_le _, by omega, rfl, rfl, rfl⟩
  case round =>
    obtain ⟨k, hk, hg, rfl, rfl, rfl⟩ := hrel
    have hle := ownK_le p k
    by_cases hlt : k < n
    · obtain ⟨b, o, rfl, hb, hc⟩ := HI.out.row (by omega)
      have g1 := hc k hlt
      clear hc
      by_cases hx : p.getD k 0 = (k : Int)
      · have HN := hid (ownK_yes hx)
        rw [hx] at g1
        clear hx
        generalize ownK p k = z at *
        go_wp2
        go_roundg (n - (k + 1))
        case measure => omega
        case rel => exact ⟨k + 1, by omega, by omega, by rw [HN.out]; go_num, by go_num, rfl⟩
      · have HN := hid (ownK_no hx)
        have he : (p.getD k 0 == (k : Int)) = false := by simpa using hx
        generalize p.getD k 0 = x at *
        clear hx
        generalize ownK p k = z at *
        go_wp2
        go_roundg (n - (k + 1))
        case measure => omega
        case rel => exact ⟨k + 1, by omega, by omega, by rw [HN.out], by go_num, rfl⟩
    · have hkn : k = n := by omega
      subst hkn
      have HN : Hid (ownN p = ownK p k) := by unfold ownN; rw [HL.out]; exact rfl
      generalize ownK p k = z at *
      go_wp2
      go_ret2
      exact ⟨by rw [HN.out]; rfl, HB1.out⟩

end Go.Proofs.Ytebhlmcenkgolaa
