/-
  castkeep.SumOf: numbers of any sort made into a right sum.
-/
import Derived.Test.YteegddpoekphoaaSortL
import Derived.Test.YteegddpoekphoaaPartD
import Derived.Test.YteegddpoekphoaaClone
namespace Go.Proofs.Yteegddpoekphoaa
open Go.RowKit

theorem sum_perm {a b : List Int} (h : a.Perm b) : a.sum = b.sum := by
  induction h with
  | nil => rfl
  | cons x _ ih => simp [ih]
  | swap x y l => simp only [List.sum_cons]; omega
  | trans _ _ h1 h2 => rw [h1, h2]
theorem getD_mem_list {xs : List Int} {j : Nat} (h : j < xs.length) : xs.getD j 0 ∈ xs := by
  rw [List.getD_eq_getElem?_getD, List.getElem?_eq_getElem h]
  exact List.getElem_mem h
theorem isPart_srt {zs : List Int} (h1 : ∀ x ∈ zs, 1 ≤ x) (h2 : zs.sum ≤ 40) : IsPart (srt zs).reverse := by
  have hp : (srt zs).reverse.Perm zs := (List.reverse_perm _).trans (perm_srt zs)
  refine isPart_mk (fun j hj => h1 _ (hp.mem_iff.1 (getD_mem_list hj))) (fun j hj => ?_) (by rw [sum_perm hp]; exact h2)
  have hs := List.pairwise_iff_getElem.1 (List.pairwise_reverse.2 (pairwise_srt zs)) j (j + 1) (by omega) hj (by omega)
  simpa [List.getD_eq_getElem?_getD, List.getElem?_eq_getElem hj, List.getElem?_eq_getElem (show j < (srt zs).reverse.length by omega)] using hs

theorem sum_pos_of {zs : List Int} (h : ∀ x ∈ zs, 1 ≤ x) : 0 ≤ zs.sum := by
  induction zs with
  | nil => simp
  | cons a t ih =>
    have h1 := ih (fun x hx => h x (List.mem_cons_of_mem _ hx))
    have h2 := h a (List.mem_cons_self ..)
    rw [List.sum_cons]
    omega

/-- min(x, 12). -/
theorem run_min12 {P : Program} (x m : Nat) (hm : m = min x 12) (ts : Array TypeId) (t : TypeId) (W : World) :
    (Builtin.min_ ts t #[.int .i64 (x : Int), .int .i64 12]).run P W = .ok (.int .i64 (m : Int)) W := by
  have e : (if (12 : Int) < (x : Int) then (12 : Int) else (x : Int)) = (m : Int) := by
    subst hm
    split <;> omega
  simp only [Builtin.min_, Builtin.min2, List.foldlM_cons, List.foldlM_nil, pure_bind]
  simp only [e]
  rfl

/-- A right sum comes back, in new memory. -/
def RetSumL (w : World) (e : Ending) (w' : World) : Prop := ∃ v ys, e = .returned v ∧ OwnInts w' w.heap.size v ys ∧ IsPart ys ∧ ys.length ≤ 20 ∧ Below w.heap.size w w'

set_option maxHeartbeats 1600000 in
theorem sumOf_any (A : Option Addr) (n c m : Nat) (xs : List Int) (w : World) (h : Ints w A n xs) (hc : n ≤ c) (hm2 : m ≤ 20) (hq : (m = n ∧ (n : Int) ≤ 20) ∨ (m < n ∧ m = 20)) :
    Calls Try.prog 7 #[.slice A n c, .int .i64 20] w (RetSumL w) := by
  have h' : Ints w A m (xs.take m) := h.take (by omega)
  have HH := hid h'
  clear h h'
  generalize xs.take m = ys at HH
  rcases hq with ⟨rfl, hq⟩ | ⟨hltM, hm20⟩
  all_goals
    go_enter Try.func7, Try.ntmps7
    go_wp2
    go_loopg [5, 6, 16] m (fun g v s t wr => ∃ (k L : Nat) (zs : List Int), k ≤ m ∧ m - k ≤ g ∧ t = .int .i64 (k : Int) ∧ s = .int .i64 (L : Int) ∧ OwnInts wr w.heap.size v zs ∧ Below w.heap.size w wr ∧ zs.sum + (L : Int) = 40 ∧ zs.length ≤ k ∧ (∀ x ∈ zs, 1 ≤ x))
    case atStart => exact ⟨0, 40, [], Nat.zero_le _, by omega, rfl, rfl, OwnInts.nil _ _, Below.refl _ _, by simp, by simp, by simp⟩
    case round =>
      obtain ⟨k, L, zs, hk, hg, rfl, rfl, hown, hbel, hsum, hzl, hz⟩ := hrel
      have HO := hid hown
      have HB := hid hbel
      have HS := hid hsum
      have HZ := hid hz
      clear hown hbel hsum hz
      by_cases hlt : k < m
      · obtain ⟨b, o, rfl, hb, hcell⟩ := HH.out.row (by omega)
        have g1 : wr.cell? ⟨b, o + k, none⟩ = some (.int .i64 (ys.getD k 0)) := (HB.out.cell (p := ⟨b, o + k, none⟩) hb).trans (hcell k (by omega))
        clear hcell
        generalize ys.getD k 0 = x at g1
        by_cases hL : L = 0
        · subst hL
          go_wp2_with fail
          refine (sortL_any w.heap.size _ zs _ HO.out (by omega)).mono ?_
          rintro e w3 ⟨rfl, hown3, hgrow⟩
          have HB3 := hid (HB.out.grown hgrow HB.out.size (fun k hk => (World.ownsRow.lt HO.out k hk).1))
          have HO3 := hid hown3
          clear hown3 hgrow
          go_wp2_with fail
          refine (reverse_any w.heap.size _ _ _ HO3.out (by rw [length_srt]; omega)).mono ?_
          rintro e w4 ⟨rfl, hown4, hgrow⟩
          have HB4 := hid (HB3.out.grown hgrow HB3.out.size (fun k hk => (World.ownsRow.lt HO3.out k hk).1))
          have HO4 := hid hown4
          clear hown4 hgrow
          go_wp2
          go_ret
          exact ⟨_, _, rfl, HO4.out, isPart_srt HZ.out (by have := HS.out; omega), by rw [List.length_reverse, length_srt]; omega, HB4.out⟩
        · have hL0 : ((L : Int) == 0) = false := by simp; omega
          have hL40 : L ≤ 40 := by
            have h1 := HS.out
            have h2 : 0 ≤ zs.sum := sum_pos_of HZ.out
            omega
          obtain ⟨Q, hQ⟩ : ∃ Q, Q = min L 12 := ⟨_, rfl⟩
          have hmin := run_min12 (P := Try.prog) L Q hQ
          have hQ1 : 0 < Q := by omega
          have hQ2 : Q ≤ L := by omega
          have e1 := Int.emod_nonneg x (show (Q : Int) ≠ 0 by omega)
          have e2 := Int.emod_lt_of_pos x (show (0 : Int) < (Q : Int) by omega)
          obtain ⟨y, hy⟩ := Int.eq_ofNat_of_zero_le e1
          have HY := hid hy
          have hyQ : y < Q := by omega
          clear hy e1 e2 hQ
          have hsub : IntKind.i64.wrap ((L : Int) - (1 + (y : Int))) = ((L - (1 + y) : Nat) : Int) := by rw [IntWalk.i64_in _ (by omega)]; omega
          go_wp2_with fail
          refine (within_any x _ _ (by omega) (by omega)).mono ?_
          rintro e w' ⟨rfl, rfl⟩
          rw [HY.out]
          go_wp2_with (at_builtin; refine wpList_app1 _ rfl (.tmp 27) (.tmp 29) rfl w.heap.size _ zs (1 + (y : Int)) rfl rfl HO.out (by omega) HB.out.size ?_)
          intro v' w1 hown1 _ hbel1
          have HB1 := hid (HB.out.trans hbel1)
          have HO1 := hid hown1
          clear hown1 hbel1 HO HB
          go_wp2
          go_roundg (m - (k + 1))
          case measure => omega
          case rel =>
            refine ⟨k + 1, L - (1 + y), zs ++ [1 + (y : Int)], by omega, by omega, by go_num, by first | rfl | go_num, HO1.out, HB1.out, ?_, by simp; omega, ?_⟩
            · rw [List.sum_append]
              have := HS.out
              simp
              omega
            · intro z hz
              rcases List.mem_append.1 hz with h1 | h1
              · exact HZ.out z h1
              · simp at h1
                omega
      · have hkn : k = m := by omega
        subst hkn
        go_wp2_with fail
        refine (sortL_any w.heap.size _ zs _ HO.out (by omega)).mono ?_
        rintro e w3 ⟨rfl, hown3, hgrow⟩
        have HB3 := hid (HB.out.grown hgrow HB.out.size (fun k hk => (World.ownsRow.lt HO.out k hk).1))
        have HO3 := hid hown3
        clear hown3 hgrow
        go_wp2_with fail
        refine (reverse_any w.heap.size _ _ _ HO3.out (by rw [length_srt]; omega)).mono ?_
        rintro e w4 ⟨rfl, hown4, hgrow⟩
        have HB4 := hid (HB3.out.grown hgrow HB3.out.size (fun k hk => (World.ownsRow.lt HO3.out k hk).1))
        have HO4 := hid hown4
        clear hown4 hgrow
        go_wp2
        go_ret
        exact ⟨_, _, rfl, HO4.out, isPart_srt HZ.out (by have := HS.out; omega), by rw [List.length_reverse, length_srt]; omega, HB4.out⟩

theorem part_sums {xs : List Int} (h : IsPart xs) {k : Nat} (hk : k ≤ xs.length) : 0 ≤ (xs.take k).sum ∧ (xs.take k).sum ≤ 40 := by
  have h1 := h.sum_take k
  refine ⟨by omega, ?_⟩
  rcases Nat.eq_zero_or_pos k with h0 | h0
  · subst h0
    simp
  · have := (partErrAt_zero (h (k - 1) (by omega))).2.2.2
    rwa [show k - 1 + 1 = k by omega] at this

/-- A right sum comes back. -/
def RetSumI (w : World) (e : Ending) (w' : World) : Prop := ∃ A n c ys, e = .returned (.slice A n c) ∧ Ints w' A n ys ∧ IsPart ys ∧ n ≤ 20 ∧ Below w.heap.size w w'
theorem sumOf_bel (A : Option Addr) (n c : Nat) (xs : List Int) (w : World) (h : Ints w A n xs) (hc : n ≤ c) :
    Calls Try.prog 7 #[.slice A n c, .int .i64 20] w (RetSumI w) := by
  refine (sumOf_any A n c (min n 20) xs w h hc (by omega) (by omega)).mono ?_
  rintro e w' ⟨v, ys, rfl, ho, hp, hl, hb⟩
  obtain ⟨A', c', rfl, hI, _⟩ := ho.ints
  exact ⟨A', _, c', ys, rfl, hI, hp, hl, hb⟩

end Go.Proofs.Yteegddpoekphoaa
