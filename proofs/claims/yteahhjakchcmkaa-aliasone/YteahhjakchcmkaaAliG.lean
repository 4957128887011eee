/-
  castkeep.tables; what is counted while draws are taken from a table, column by column.
-/
import Derived.Test.YteahhjakchcmkaaAliD
import Derived.Test.YteahhjakchcmkaaAliT
namespace Go.Proofs.Yteahhjakchcmkaa
open Go.RowKit

theorem cols_two (w : World) (t : TypeId) (a b c d : Int) : Cols (w.alloc (.cells #[.int .i64 a, .int .i64 b, .int .i64 c, .int .i64 d] t)) (some ⟨w.heap.size, 0, none⟩) 2 [(a, b), (c, d)] := by
  refine ⟨rfl, fun _ => ⟨w.heap.size, 0, rfl, by simp, fun j hj => ?_⟩⟩
  rw [cell_of_row (w.alloc _) w.heap.size (0 + j * 2) _ t (0, 0) (heap_alloc_new w _), cell_of_row (w.alloc _) w.heap.size (0 + j * 2 + 1) _ t (0, 0) (heap_alloc_new w _)]
  match j, hj with
  | 0, _ => exact ⟨rfl, rfl⟩
  | 1, _ => exact ⟨rfl, rfl⟩

set_option maxHeartbeats 1000000 in
theorem tables_any (w : World) : Calls Try.prog 12 #[] w fun e w' => e = .returned (.bool true) ∧ Below w.heap.size w w' := by
  have hI := ints_lit w #[.int .i64 1, .int .i64 3] 3 2 [1, 3] rfl rfl
  have hC := cols_two (w.alloc (.cells #[.int .i64 1, .int .i64 3] 3)) 32 2 1 4 1
  have HB := hid (below_step (below_alloc w (.cells #[.int .i64 1, .int .i64 3] 3)) (Nat.le_refl _) (below_alloc (w.alloc (.cells #[.int .i64 1, .int .i64 3] 3)) (.cells #[.int .i64 2, .int .i64 1, .int .i64 4, .int .i64 1] 32)))
  have hI2 := hI.keep (below_alloc (w.alloc (.cells #[.int .i64 1, .int .i64 3] 3)) (.cells #[.int .i64 2, .int .i64 1, .int .i64 4, .int .i64 1] 32))
  have HT := hid (aTest_good _ 2 2 _ 2 [1, 3] [(2, 1), (4, 1)] _ hI2 hC (by decide))
  rw [show tblB [1, 3] ([1, 3] : List Int).sum [(2, 1), (4, 1)] = true by decide, show colE 2 ([1, 3] : List Int).sum [(2, 1), (4, 1)] = 0 by decide] at HT
  rw [show (w.alloc (.cells #[.int .i64 1, .int .i64 3] 3)).heap.size = w.heap.size + 1 by simp] at HT
  clear hI hC hI2
  go_enter Try.func12, Try.ntmps12
  go_wp2_with fail
  refine HT.out.mono ?_
  rintro e w1 ⟨rfl, hb⟩
  have HB1 := hid (below_step HB.out (by first | exact HB.out.size | (simp; done) | (simp; omega)) hb)
  clear hb HT HB
  go_wp2
  go_ret
  exact ⟨rfl, HB1.out⟩

/-! ### How often each was drawn, behind the first k columns and x draws of the next -/
def ofX (W : Int) (cs : List (Int × Int)) (n k : Nat) (x : Int) : List Int := (List.range n).map fun j : Nat => (if j < k then cut cs j else 0) + gets W cs (j : Int) k + (if j = k then min x (cut cs k) else 0) + (if oth cs k = (j : Int) then max 0 (x - cut cs k) else 0)
theorem ofX_len (W : Int) (cs : List (Int × Int)) (n k : Nat) (x : Int) : (ofX W cs n k x).length = n := by simp [ofX]
theorem ofX_get {W : Int} {cs : List (Int × Int)} {n k j : Nat} {x : Int} (h : j < n) : (ofX W cs n k x).getD j 0 = (if j < k then cut cs j else 0) + gets W cs (j : Int) k + (if j = k then min x (cut cs k) else 0) + (if oth cs k = (j : Int) then max 0 (x - cut cs k) else 0) := by
  simp [ofX, List.getD_eq_getElem?_getD, h]
theorem ofX_zero {W : Int} {cs : List (Int × Int)} {n k : Nat} (h : 0 ≤ cut cs k) : ofX W cs n k 0 = shL W cs n k := by
  refine ext_getD (by rw [ofX_len, shL_len]) fun j hj => ?_
  rw [ofX_len] at hj
  rw [ofX_get hj, shL_get hj]
  have e1 : min 0 (cut cs k) = 0 := by omega
  have e2 : max 0 (0 - cut cs k) = 0 := by omega
  rw [e1, e2]
  simp
theorem ofX_all {W : Int} {cs : List (Int × Int)} {n k : Nat} (h : cut cs k ≤ W) : ofX W cs n k W = shL W cs n (k + 1) := by
  refine ext_getD (by rw [ofX_len, shL_len]) fun j hj => ?_
  rw [ofX_len] at hj
  rw [ofX_get hj, shL_get hj, gets_succ]
  have e1 : min W (cut cs k) = cut cs k := by omega
  have e2 : max 0 (W - cut cs k) = W - cut cs k := by omega
  rw [e1, e2]
  by_cases e : j = k
  · subst e
    repeat' split
    all_goals omega
  · repeat' split
    all_goals omega
theorem ofX_low {W x : Int} {cs : List (Int × Int)} {n k : Nat} (hk : k < n) (h : x < cut cs k) : (ofX W cs n k x).set k ((ofX W cs n k x).getD k 0 + 1) = ofX W cs n k (x + 1) := by
  refine ext_getD (by rw [List.length_set, ofX_len, ofX_len]) fun j hj => ?_
  rw [List.length_set, ofX_len] at hj
  rw [getD_set, ofX_len, ofX_get hk, ofX_get hj, ofX_get hj]
  by_cases e : j = k
  · subst e
    repeat' split
    all_goals omega
  · repeat' split
    all_goals omega
theorem ofX_high {W x : Int} {cs : List (Int × Int)} {n k o : Nat} (ho : o < n) (hc : oth cs k = (o : Int)) (h : ¬ x < cut cs k) : (ofX W cs n k x).set o ((ofX W cs n k x).getD o 0 + 1) = ofX W cs n k (x + 1) := by
  refine ext_getD (by rw [List.length_set, ofX_len, ofX_len]) fun j hj => ?_
  rw [List.length_set, ofX_len] at hj
  rw [getD_set, ofX_len, ofX_get ho, ofX_get hj, ofX_get hj, hc]
  by_cases e : j = o
  · subst e
    repeat' split
    all_goals omega
  · repeat' split
    all_goals omega
theorem ofX_bd {W x : Int} {cs : List (Int × Int)} {n k j : Nat} (hC : ColsOk n W cs) (hl : cs.length = n) (hn : n ≤ 12) (hW : 0 ≤ W ∧ W ≤ 1200) (hk : k < n) (hj : j < n) (hx : 0 ≤ x ∧ x ≤ W) : 0 ≤ (ofX W cs n k x).getD j 0 ∧ (ofX W cs n k x).getD j 0 ≤ 20000 := by
  rw [ofX_get hj]
  have h1 := gets_nonneg hC (j : Int) (k := k) (by omega)
  have h2 := gets_le hC hW.1 (j : Int) (k := k) (by omega)
  have h3 : (k : Int) * W ≤ 12 * 1200 := Int.mul_le_mul (by omega) hW.2 hW.1 (by omega)
  have h4 := hC k (by omega)
  have h5 := hC j (by omega)
  unfold ColOk at h4 h5
  have h6 : 0 ≤ min x (cut cs k) ∧ min x (cut cs k) ≤ 1200 := by omega
  have h7 : 0 ≤ max 0 (x - cut cs k) ∧ max 0 (x - cut cs k) ≤ 1200 := by omega
  generalize min x (cut cs k) = p at *
  generalize max 0 (x - cut cs k) = q at *
  repeat' split
  all_goals omega
end Go.Proofs.Yteahhjakchcmkaa
