/-
  lines.Check (P41), and the small functions that say what may stand behind what.
-/
import Derived.Test.YtdcmknnmdiocdaaLinM
import Derived.Test.YtdcmknnmdiocdaaArr
import Derived.Test.YtdcmknnmdiocdaaOwn
namespace Go.Proofs.Ytdcmknnmdiocdaa
open Go.RowKit

theorem lcheck_ok (A : Option Addr) (n c : Nat) (w : World) (hn : n ≤ 30) :
    Calls Try.prog 11 #[.slice A n c] w fun e w' => e = .returned (.int .i64 0) ∧ w = w' := by
  have hd : decide (30 < (n : Int)) = false := by simp; omega
  go_enter Try.func11, Try.ntmps11
  go_wp2
  go_ret
  exact ⟨rfl, rfl⟩
theorem lcheck_large (A : Option Addr) (n c : Nat) (w : World) (hn : 30 < n) (hm : n ≤ 9223372036854775807) :
    Calls Try.prog 11 #[.slice A n c] w fun e w' => e = .returned (.int .i64 2) ∧ w = w' := by
  go_enter Try.func11, Try.ntmps11
  go_wp2
  go_ret
  exact ⟨rfl, rfl⟩

set_option maxHeartbeats 800000 in
theorem mayUp (A : Option Addr) (n c b i j : Nat) (xs : List Int) (q : Bool) (w : World) (hb : w.cell? ⟨b, 0, none⟩ = some (.slice A n c)) (h : Ints w A n xs) (hi : i < n) (hj : j < n) (hq : upF xs i j = q) :
    Calls Try.prog 23 #[.int .i64 (i : Int), .int .i64 (j : Int), .pointer (some ⟨b, 0, none⟩)] w fun e w' => e = .returned (.bool q) ∧ ∃ m, w' = w.drewN m := by
  obtain ⟨g, o, rfl, hlt, hc⟩ := h.row (by omega)
  have g1 := hc i hi
  have g2 := hc j hj
  have hiI : (i : Int) < (n : Int) := by omega
  have hjI : (j : Int) < (n : Int) := by omega
  have HQ := hid hq
  unfold upF at HQ
  clear hq hc h
  generalize xs.getD i 0 = x at *
  generalize xs.getD j 0 = y at *
  go_enter Try.func23, Try.ntmps23
  go_wp2_with fail
  go_quiet (fail)
  go_wp2
  go_ret
  exact ⟨by rw [← HQ.out]; exact rfl, _, rfl⟩
set_option maxHeartbeats 800000 in
theorem mayDown (A : Option Addr) (n c b i j : Nat) (xs : List Int) (q : Bool) (w : World) (hb : w.cell? ⟨b, 0, none⟩ = some (.slice A n c)) (h : Ints w A n xs) (hi : i < n) (hj : j < n) (hq : downF xs i j = q) :
    Calls Try.prog 25 #[.int .i64 (i : Int), .int .i64 (j : Int), .pointer (some ⟨b, 0, none⟩)] w fun e w' => e = .returned (.bool q) ∧ ∃ m, w' = w.drewN m := by
  obtain ⟨g, o, rfl, hlt, hc⟩ := h.row (by omega)
  have g1 := hc i hi
  have g2 := hc j hj
  have hiI : (i : Int) < (n : Int) := by omega
  have hjI : (j : Int) < (n : Int) := by omega
  have HQ := hid hq
  unfold downF at HQ
  clear hq hc h
  generalize xs.getD i 0 = x at *
  generalize xs.getD j 0 = y at *
  go_enter Try.func25, Try.ntmps25
  go_wp2_with fail
  go_quiet (fail)
  go_wp2
  go_ret
  exact ⟨by rw [← HQ.out]; exact rfl, _, rfl⟩

theorem sayUp (x y : Int) (q : Bool) (hq : decide (x < y) = q) (w : World) :
    Calls Try.prog 12 #[.int .i64 x, .int .i64 y] w fun e w' => e = .returned (.bool q) ∧ w = w' := by
  have HQ := hid hq
  clear hq
  go_enter Try.func12, Try.ntmps12
  go_wp2
  go_ret
  exact ⟨by rw [← HQ.out]; exact rfl, rfl⟩
theorem sayDown (x y : Int) (q : Bool) (hq : decide (y ≤ x) = q) (w : World) :
    Calls Try.prog 13 #[.int .i64 x, .int .i64 y] w fun e w' => e = .returned (.bool q) ∧ w = w' := by
  have HQ := hid hq
  clear hq
  go_enter Try.func13, Try.ntmps13
  go_wp2
  go_ret
  exact ⟨by rw [← HQ.out]; exact rfl, rfl⟩
end Go.Proofs.Ytdcmknnmdiocdaa
