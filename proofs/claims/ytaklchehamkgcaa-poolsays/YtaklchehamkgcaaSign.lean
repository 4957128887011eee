/-
  perm.Sign: the parity of the inversions.
-/
import Derived.Test.YtaklchehamkgcaaSgn
import Derived.Test.YtaklchehamkgcaaOrder
namespace Go.Proofs.Ytaklchehamkgcaa
open Go.RowKit

theorem take_drop_snoc {p : List Int} {a m : Nat} (h : a + m < p.length) : (p.drop a).take (m + 1) = (p.drop a).take m ++ [p.getD (a + m) 0] := by
  rw [take_snoc (by rw [List.length_drop]; omega)]
  congr 1
  simp [List.getD_eq_getElem?_getD]

/-- The pairs counted after m rounds of the inner loop. -/
def cntUpto (p : List Int) (k m : Nat) : Nat := invUpto p k + ((p.drop (k + 1)).take m).countP (fun y => decide (y < p.getD k 0))
theorem cntUpto_yes {p : List Int} {k m : Nat} (h : k + 1 + m < p.length) (hlt : p.getD (k + 1 + m) 0 < p.getD k 0) : sg (cntUpto p k (m + 1)) = - sg (cntUpto p k m) := by
  unfold cntUpto
  rw [take_drop_snoc h, List.countP_append, ← Nat.add_assoc]
  simp only [List.countP_cons, List.countP_nil, hlt, decide_true, if_true, Nat.zero_add]
  exact sg_succ _
theorem cntUpto_no {p : List Int} {k m : Nat} (h : k + 1 + m < p.length) (hlt : ¬ p.getD (k + 1 + m) 0 < p.getD k 0) : cntUpto p k (m + 1) = cntUpto p k m := by
  unfold cntUpto
  rw [take_drop_snoc h, List.countP_append]
  simp only [List.countP_cons, List.countP_nil, hlt, decide_false, Nat.zero_add]
  simp
theorem cntUpto_end {p : List Int} {k m : Nat} (h : k + 1 + m = p.length) : cntUpto p k m = invUpto p (k + 1) := by
  unfold cntUpto
  rw [List.take_of_length_le (by rw [List.length_drop]; omega)]
  rfl

end Go.Proofs.Ytaklchehamkgcaa
