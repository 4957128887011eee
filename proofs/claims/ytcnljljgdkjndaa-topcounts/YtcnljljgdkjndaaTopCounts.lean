/-
  casttop.TopCounts, walked.
-/
import Derived.Test.YtcnljljgdkjndaaTopC
import Derived.Test.YtcnljljgdkjndaaRankA
import Derived.Test.YtcnljljgdkjndaaRisA
import Derived.Test.YtcnljljgdkjndaaDerA
import Derived.Laws.EntriesVeiled
namespace Go.Proofs.Ytcnljljgdkjndaa
open Go.RowKit

theorem topforms_all : ∀ f, TopFormsTo f
  | 0 => topforms_zero
  | f + 1 => topforms_step f (topforms_all f)

set_option maxRecDepth 100000 in
theorem topEul {n : Nat} (hn : n ≤ 10) : sumN (eul n) (n + 1) = fact n ∧ ∀ k, k ≤ n + 1 → sumN (eul n) k ≤ 4000000 := by
  have h : ∀ n : Fin 11, sumN (eul n.val) (n.val + 1) = fact n.val ∧ ∀ k : Fin 12, k.val ≤ n.val + 1 → sumN (eul n.val) k.val ≤ 4000000 := by decide +kernel
  obtain ⟨h1, h2⟩ := h ⟨n, by omega⟩
  exact ⟨h1, fun k hk => h2 ⟨k, by omega⟩ hk⟩
set_option maxRecDepth 100000 in
theorem topFix {n : Nat} (hn : n ≤ 10) : sumN (fixN n) (n + 1) = fact n ∧ ∀ k, k ≤ n + 1 → sumN (fixN n) k ≤ 4000000 := by
  have h : ∀ n : Fin 11, sumN (fixN n.val) (n.val + 1) = fact n.val ∧ ∀ k : Fin 12, k.val ≤ n.val + 1 → sumN (fixN n.val) k.val ≤ 4000000 := by decide +kernel
  obtain ⟨h1, h2⟩ := h ⟨n, by omega⟩
  exact ⟨h1, fun k hk => h2 ⟨k, by omega⟩ hk⟩
theorem topSq {n : Nat} (hn : n ≤ 10) : sqz 10 n n [] = ((fact n : Nat) : Int) ∧ sqGood 10 n n [] = true := by
  have h := List.all_eq_true.1 sqz_all n (by simp; omega)
  simpa using h

set_option maxHeartbeats 4000000 in
set_option maxRecDepth 100000 in
theorem topCounts_any (x : Int) (w : World) :
    Calls Try.prog 8 #[.int .i64 x] w fun e w' => e = .returned (.bool true) ∧ Below w.heap.size w w' := by
  go_enter Try.func8, Try.ntmps8
  go_wp2_with fail
  refine (within_any _ _ _ (by omega) (by omega)).mono ?_
  rintro e w' ⟨rfl, rfl⟩
  obtain ⟨n, hnx⟩ : ∃ n : Nat, x % 11 = n := ⟨(x % 11).toNat, by omega⟩
  have hn : n ≤ 10 := by omega
  rw [hnx]
  clear hnx
  have HE := hid (topEul hn)
  have HF := hid (topFix hn)
  have HQ := hid (topSq hn)
  have hfa : fact n ≤ 4000000 := by rw [← HE.out.1]; exact HE.out.2 _ (Nat.le_refl _)
  go_wp2_with fail
  refine (count_ok n _ hn).mono ?_
  rintro e w' ⟨rfl, rfl⟩
  go_wp2_with fail
  refine (works_any _).mono ?_
  rintro e w1 ⟨rfl, hb⟩
  have HB1 := hid hb
  clear hb
  go_wp2_with fail
  have HB2 : Hid (Below (w1.alloc (.cells #[.int .i64 0] 3)).heap.size (w1.alloc (.cells #[.int .i64 0] 3)) (w1.alloc (.cells #[.int .i64 0] 3))) := Below.refl _ _
  go_loopg [5, 6, 8, 9, 10, 11, 12, 30] (n + 1) (fun g a o _ _ _ _ _ s wr => ∃ k : Nat, k ≤ n + 1 ∧ n + 1 - k ≤ g ∧ a = .int .i64 ((sumN (eul n) k : Nat) : Int) ∧ o = .int .i64 ((sumN (fixN n) k : Nat) : Int) ∧ s = .int .i64 (k : Int) ∧ Below (w1.heap.size + 1) (w1.alloc (.cells #[.int .i64 0] 3)) wr)
  case atStart => exact ⟨0, by omega, by omega, rfl, rfl, rfl, Below.refl _ _⟩
  case round =>
    obtain ⟨k, hk, hg, rfl, rfl, rfl, hbel⟩ := hrel
    have HB := hid hbel
    clear hbel
    by_cases hlt : k < n + 1
    · have hltI : (k : Int) < (n : Int) + 1 := by omega
      go_wp2_with fail
      refine (rcount_ok _ _ n k rfl rfl _ (by omega) (by omega)).mono ?_
      rintro e w2 ⟨rfl, hb⟩
      have HB2 := hid (below_step HB.out (by simp) hb)
      clear hb HB
      go_wp2_with fail
      refine (fixed_ok _ _ n k rfl rfl _ (by omega) (by omega)).mono ?_
      rintro e w' ⟨rfl, rfl⟩
      have HN1 : Hid (sumN (eul n) (k + 1) = sumN (eul n) k + eul n k) := rfl
      have HN2 : Hid (sumN (fixN n) (k + 1) = sumN (fixN n) k + fixN n k) := rfl
      have c1 := HE.out.2 (k + 1) (by omega)
      have c2 := HF.out.2 (k + 1) (by omega)
      rw [HN1.out] at c1
      rw [HN2.out] at c2
      generalize eul n k = y1 at *
      generalize fixN n k = y2 at *
      generalize sumN (eul n) k = z1 at *
      generalize sumN (fixN n) k = z2 at *
      go_wp2_with fail
      refine (topgood_bel _ _ _ 2 [0, 0] rfl rfl (by omega)).mono ?_
      rintro e w3 ⟨rfl, hb⟩
      have HB3 := hid (below_step HB2.out (by simp) hb)
      clear hb HB2
      rw [show allOK [0, 0] = true by decide]
      go_wp2
      go_roundg (n + 1 - (k + 1))
      case measure => omega
      case rel => exact ⟨k + 1, by omega, by omega, by rw [HN1.out]; go_num, by rw [HN2.out]; go_num, by go_num, HB3.out⟩
    · have hkn : k = n + 1 := by omega
      subst hkn
      have hge : ¬ (((n + 1 : Nat) : Int) < (n : Int) + 1) := by omega
      rw [HE.out.1, HF.out.1]
      have hB : Below (w1.alloc (.cells #[.int .i64 0] 3)).heap.size (w1.alloc (.cells #[.int .i64 0] 3)) wr := by
        rw [show (w1.alloc (.cells #[.int .i64 0] 3)).heap.size = w1.heap.size + 1 by simp]
        exact HB.out
      have hsq := heap_alloc_new w1 (.cells #[.int .i64 0] 3)
      have hsq2 : wr.heap[w1.heap.size]? = some (.cells #[.int .i64 0] 3) := (hB.block w1.heap.size (by simp)).trans hsq
      have hlt1 : w1.heap.size < wr.heap.size := by have := hB.size; simp at this; omega
      have HFW : Hid (FormsW ((wr.alloc (.cells #[.bool true] 4)).alloc (.cells #[formsFn wr.heap.size w1.heap.size (wr.heap.size + 1)] 43)) wr.heap.size w1.heap.size (wr.heap.size + 1) 0) := by
        have e1 : (wr.alloc (.cells #[.bool true] 4)).heap.size = wr.heap.size + 1 := by simp
        have k1 := heap_alloc_new wr (.cells #[.bool true] 4)
        have k2 := heap_alloc_new (wr.alloc (.cells #[.bool true] 4)) (.cells #[formsFn wr.heap.size w1.heap.size (wr.heap.size + 1)] 43)
        rw [e1] at k2
        have k1' : ((wr.alloc (.cells #[.bool true] 4)).alloc (.cells #[formsFn wr.heap.size w1.heap.size (wr.heap.size + 1)] 43)).heap[wr.heap.size]? = some (.cells #[.bool true] 4) := (Below.heap_alloc (wr.alloc (.cells #[.bool true] 4)) _ wr.heap.size (by rw [e1]; omega)).trans k1
        have k3 : ((wr.alloc (.cells #[.bool true] 4)).alloc (.cells #[formsFn wr.heap.size w1.heap.size (wr.heap.size + 1)] 43)).heap[w1.heap.size]? = some (.cells #[.int .i64 0] 3) := (Below.heap_alloc (wr.alloc (.cells #[.bool true] 4)) _ w1.heap.size (by rw [e1]; omega)).trans ((Below.heap_alloc wr _ w1.heap.size hlt1).trans hsq2)
        have f1 : ((wr.alloc (.cells #[.bool true] 4)).alloc (.cells #[formsFn wr.heap.size w1.heap.size (wr.heap.size + 1)] 43)).frozen? ⟨wr.heap.size, 0, none⟩ = false := by simp [World.frozen?, k1']
        have f3 : ((wr.alloc (.cells #[.bool true] 4)).alloc (.cells #[formsFn wr.heap.size w1.heap.size (wr.heap.size + 1)] 43)).frozen? ⟨w1.heap.size, 0, none⟩ = false := by simp [World.frozen?, k3]
        exact ⟨cell_of_row _ _ 0 _ _ _ k1', f1, cell_of_row _ _ 0 _ _ _ k3, f3, cell_of_row _ _ 0 _ _ _ k2, by omega, by omega, by omega, by simp; omega, by simp; omega, by simp⟩
      have HBW : Hid (Below w.heap.size w ((wr.alloc (.cells #[.bool true] 4)).alloc (.cells #[formsFn wr.heap.size w1.heap.size (wr.heap.size + 1)] 43))) := by
        have b1 := below_step HB1.out (Nat.le_refl _) (below_alloc w1 (.cells #[.int .i64 0] 3))
        exact (below_step (below_step (below_step b1 (Nat.le_refl _) hB) (Nat.le_refl _) (below_alloc wr _)) (Nat.le_refl _) (below_alloc _ _))
      have hw1 := HB1.out.size
      clear hB hsq hsq2 HB
      have HAP : Hid (ApartF none wr.heap.size w1.heap.size) := fun b off e => by cases e
      have HSZ := hid HQ.out.1
      have HLE : Hid ((0 : Int) + sqz 10 n n [] ≤ 4000000) := by show _ ≤ _; rw [HQ.out.1]; omega
      have HGD := hid HQ.out.2
      go_wp2_with fail
      refine (topforms_all 10 n n none 0 0 [] _ wr.heap.size w1.heap.size (wr.heap.size + 1) 0 hn hn (by omega) (Ints.nil _ _) HAP.out HGD.out HFW.out (Int.le_refl _) HLE.out).mono ?_
      rintro e w4 ⟨rfl, hw4, ho4⟩
      rw [HSZ.out, Int.zero_add] at hw4
      have HBE := hid (HBW.out.trans (ho4.below HBW.out.size (fun k hk => by rcases hk with rfl | rfl <;> omega)))
      have g1 := hw4.p1
      have g2 := hw4.p2
      clear hw4 ho4 HFW HSZ HLE HGD HAP
      go_wp2
      go_ret
      exact ⟨rfl, HBE.out⟩
end Go.Proofs.Ytcnljljgdkjndaa
