/-
  castkeep.deals, castkeep.lotsOf.
-/
import Derived.Test.YtmdpfadfimodjaaShufA
import Derived.Test.YtmdpfadfimodjaaGen
import Derived.Test.YtmdpfadfimodjaaTpA
import Derived.Deep.RegionHeld3
namespace Go.Proofs.Ytmdpfadfimodjaa
open Go.RowKit

set_option maxHeartbeats 1000000 in
theorem deals_any (w : World) : Calls Try.prog 18 #[] w fun e w' => e = .returned (.bool true) ∧ Below w.heap.size w w' := by
  have HC := hid (shDeal_any _ 3 3 [0, 0, 1] _ (ints_lit w #[.int .i64 0, .int .i64 0, .int .i64 1] 3 3 [0, 0, 1] rfl rfl))
  rw [show lotsErr [0, 0, 1] = 0 by decide, show dealX [0, 0, 1] = [1, 2, 0] by decide] at HC
  have HB := hid (below_alloc w (.cells #[.int .i64 0, .int .i64 0, .int .i64 1] 3))
  go_enter Try.func18, Try.ntmps18
  go_wp2_with fail
  refine HC.out.mono ?_
  rintro e w1 ⟨v, rfl, ho, hb⟩
  have HB1 := hid (below_step HB.out (Nat.le_refl _) hb)
  obtain ⟨A1, c1, rfl, hI1, -⟩ := ho.ints
  have HI1 := hid (hI1.keep (below_alloc w1 (.cells #[.int .i64 1, .int .i64 2, .int .i64 0] 3)))
  have HI2 := hid (ints_lit w1 #[.int .i64 1, .int .i64 2, .int .i64 0] 3 3 [1, 2, 0] rfl rfl)
  have HB2 := hid (below_step HB1.out (Nat.le_refl _) (below_alloc w1 (.cells #[.int .i64 1, .int .i64 2, .int .i64 0] 3)))
  clear ho hb hI1 HC HB HB1
  go_wp2_with fail
  refine (equal_bel _ _ c1 _ 3 3 _ _ _ HI1.out HI2.out (by simp) (by omega)).mono ?_
  rintro e w3 ⟨rfl, hb⟩
  have HB3 := hid (below_step HB2.out (Nat.le_refl _) hb)
  clear hb HB2 HI1 HI2
  rw [show decide (([1, 2, 0] : List Int) = [1, 2, 0]) = true by decide]
  go_wp2
  go_ret
  exact ⟨rfl, HB3.out⟩

theorem run_minTen {P : Program} (x m : Nat) (hm : m = min x 10) (ts : Array TypeId) (t : TypeId) (W : World) :
    (Builtin.min_ ts t #[.int .i64 (x : Int), .int .i64 10]).run P W = .ok (.int .i64 (m : Int)) W := by
  have e : (if (10 : Int) < (x : Int) then (10 : Int) else (x : Int)) = (m : Int) := by
    subst hm
    split <;> omega
  simp only [Builtin.min_, Builtin.min2, List.foldlM_cons, List.foldlM_nil, pure_bind]
  simp only [e]
  rfl

theorem take_lotsOf {xs : List Int} {m k : Nat} (hk : k < m) (hm : m ≤ xs.length) : (lotsOf (xs.take m)).take (k + 1) = (lotsOf (xs.take m)).take k ++ [xs.getD k 0 % ((k : Int) + 1)] := by
  rw [take_snoc (by rw [length_lotsOf, List.length_take]; omega), getD_lotsOf (by rw [List.length_take]; omega)]
  congr 3
  rw [List.getD_eq_getElem?_getD, List.getD_eq_getElem?_getD, List.getElem?_take, if_pos hk]

set_option maxHeartbeats 1000000 in
theorem lotsOf_any (A : Option Addr) (n c m : Nat) (xs : List Int) (w : World) (h : Ints w A n xs) (hc : Cap n c) (hm : m = min n 10) :
    Calls Try.prog 19 #[.slice A n c, .int .i64 10] w (RetOwn w (lotsOf (xs.take m))) := by
  have HL := hid h.len
  have HI := hid h
  have hmin := run_minTen (P := Try.prog) n m hm
  have hto := run_toI A n c m (m : Int) rfl (by have := hc.1; omega)
  have hmn : m ≤ n := by omega
  have hm10 : m ≤ 10 := by omega
  clear h hm hc
  go_enter Try.func19, Try.ntmps19
  go_wp2
  go_loopg [5, 15] m (fun g v s wr => ∃ k : Nat, k ≤ m ∧ m - k ≤ g ∧ s = .int .i64 k ∧ OwnInts wr w.heap.size v ((lotsOf (xs.take m)).take k) ∧ Below w.heap.size w wr)
  case atStart => exact ⟨0, Nat.zero_le _, by omega, rfl, OwnInts.nil _ _, Below.refl _ _⟩
  case round =>
    obtain ⟨k, hk, hg, rfl, hown, hbel⟩ := hrel
    have HO := hid hown
    have HB := hid hbel
    clear hown hbel
    by_cases hlt : k < m
    · obtain ⟨b, o, rfl, hb, hcell⟩ := HI.out.row (by omega)
      have g1 : wr.cell? ⟨b, o + k, none⟩ = some (.int .i64 (xs.getD k 0)) := (HB.out.cell (p := ⟨b, o + k, none⟩) hb).trans (hcell k (by omega))
      have HX := hid (take_lotsOf (xs := xs) hlt (by rw [HL.out]; exact hmn))
      have HD : Hid (((lotsOf (xs.take m)).take k).length = k) := by rw [List.length_take, length_lotsOf, List.length_take, HL.out]; exact hid (by omega)
      clear hcell
      generalize xs.getD k 0 = x at g1 HX
      generalize (lotsOf (xs.take m)).take k = p at HO HD HX
      go_wp2_with (first
        | (go_at_call 23; refine (within_any x _ _ (by omega) (by omega)).mono ?_; rintro e w' ⟨rfl, rfl⟩)
        | (at_builtin; refine wpList_app1 _ rfl (.tmp 20) (.tmp 25) rfl w.heap.size _ p (x % ((k : Int) + 1)) rfl rfl HO.out (by rw [HD.out]; omega) HB.out.size ?_))
      intro v' w1 hown1 _ hbel1
      have HB1 := hid (HB.out.trans hbel1)
      have HO1 := hid hown1
      clear hown1 hbel1 HO HB
      go_wp2
      go_roundg (m - (k + 1))
      case measure => omega
      case rel => exact ⟨k + 1, by omega, by omega, by go_num, by rw [HX.out]; exact HO1.out, HB1.out⟩
    · obtain rfl : k = m := by omega
      have HT : Hid ((lotsOf (xs.take k)).take k = lotsOf (xs.take k)) := List.take_of_length_le (by rw [length_lotsOf, List.length_take]; exact Nat.min_le_left _ _)
      rw [HT.out] at HO
      go_wp2
      go_ret
      exact ⟨_, rfl, HO.out, HB.out⟩

theorem lotsErr_lotsOf {xs : List Int} {m : Nat} (hm : m ≤ 10) : lotsErr (lotsOf (xs.take m)) = 0 := lotsErr_good (by rw [length_lotsOf, List.length_take]; omega) (isLots_lotsOf _)
theorem permErr_dealt_lotsOf {xs : List Int} {m : Nat} (hm : m ≤ 10) : permErr (dealt (lotsOf (xs.take m))) = 0 :=
  permErr_ok.2 ⟨by rw [length_dealt, length_lotsOf, List.length_take]; omega, isPerm_dealt (isLots_lotsOf _)⟩

end Go.Proofs.Ytmdpfadfimodjaa
