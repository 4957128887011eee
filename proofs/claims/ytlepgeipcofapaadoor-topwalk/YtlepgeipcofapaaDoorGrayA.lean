/-
  package gray: Of, Back; castkeep.grays.
-/
import Derived.Test.YtlepgeipcofapaaDoorGrayM
import Derived.Test.YtlepgeipcofapaaDoorSubA
import Derived.Laws.BitsAllLaws
import Derived.Laws.BitsLemmas
namespace Go.Proofs.YtlepgeipcofapaaDoor
open Go.RowKit

theorem xor_fold {x y : Nat} (k : Nat) (hx : x < 65536) (hy : y = x / 2 ^ k) : bits .xor .u16 (x : Int) (y : Int) = ((fold k x : Nat) : Int) := by
  have h1 : y ≤ x := by rw [hy]; exact Nat.div_le_self _ _
  rw [u16_xor_nat x y hx (by omega), fold, hy]
theorem wf16 {a : Int} (h : (Lit.int .u16 a).wf = true) : ∃ s : Nat, a = s ∧ s < 65536 := by
  simp only [Lit.wf, Bool.and_eq_true, decide_eq_true_eq] at h
  have h1 : (0 : Int) ≤ a := h.1
  have h2 : a ≤ 65535 := h.2
  exact ⟨a.toNat, by omega, by omega⟩

theorem of_any (x : Nat) (w : World) (hx : x < 65536) :
    Calls Tryd.prog 14 #[.int .u16 (x : Int)] w fun e w' => e = .returned (.int .u16 ((gry x : Nat) : Int)) ∧ w = w' := by
  have e1 : bits .xor .u16 (x : Int) ((x : Int) / 2) = ((gry x : Nat) : Int) := xor_fold (y := x / 2) 1 hx (by simp)
  go_enter Tryd.func14, Tryd.ntmps14
  go_wp2
  go_ret
  exact ⟨rfl, rfl⟩

/-- Back's number when the shift is 2^k. -/
def bckAt (x : Nat) : Nat → Nat
  | 0 => x
  | 1 => fold 1 x
  | 2 => fold 2 (fold 1 x)
  | 3 => fold 4 (fold 2 (fold 1 x))
  | _ => bck x
theorem bckAt_lt {x : Nat} (h : x < 65536) : ∀ k, bckAt x k < 65536
  | 0 => h
  | 1 => fold_lt16 h
  | 2 => fold_lt16 (fold_lt16 h)
  | 3 => fold_lt16 (fold_lt16 (fold_lt16 h))
  | _ + 4 => bck_lt h

theorem gry5 : gry 5 = 7 := by decide +kernel
theorem bck7 : bck 7 = 5 := by decide +kernel

end Go.Proofs.YtlepgeipcofapaaDoor
