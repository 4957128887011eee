/-
  slices.Equal at []int: two slices are equal just where their lists are.
-/
import Derived.Test.YtaklchehamkgcaaBase
namespace Go.Proofs.Ytaklchehamkgcaa
open Go.RowKit

theorem getD_take_eq {xs ys : List Int} {n : Nat} (hx : xs.length = n) (hy : ys.length = n) (h : ∀ j, j < n → xs.getD j 0 = ys.getD j 0) : xs = ys := by
  apply List.ext_getElem (by omega)
  intro i h1 h2
  have := h i (by omega)
  simpa [List.getD_eq_getElem?_getD, List.getElem?_eq_getElem h1, List.getElem?_eq_getElem h2] using this

set_option maxHeartbeats 400000 in
theorem equal_any (A1 : Option Addr) (n c : Nat) (A2 : Option Addr) (m d : Nat) (xs ys : List Int) (w : World) (h1 : Ints w A1 n xs) (h2 : Ints w A2 m ys) (hn : n ≤ 1000000) (hm : m ≤ 1000000) :
    Calls Try.prog 24 #[.slice A1 n c, .slice A2 m d] w fun e w' => e = .returned (.bool (decide (xs = ys))) ∧ ∃ q, w' = w.drewN q := by
  by_cases hnm : n = m
  · subst hnm
    go_enter Try.func24, Try.ntmps24
    go_wp2
    go_loopg [13] n (fun g s13 wr => ∃ k q : Nat, k ≤ n ∧ n - k ≤ g ∧ s13 = .int .i64 k ∧ wr = w.drewN q ∧ ∀ j, j < k → xs.getD j 0 = ys.getD j 0)
    case atStart => exact ⟨0, 0, Nat.zero_le _, by omega, rfl, rfl, fun j hj => absurd hj (Nat.not_lt_zero _)⟩
    case round =>
      obtain ⟨k, q, hk, hg, rfl, rfl, heq⟩ := hrel
      have HE := hid heq
      clear heq
      by_cases hlt : k < n
      · obtain ⟨b1, o1, rfl, _, hc1⟩ := h1.row (by omega)
        obtain ⟨b2, o2, rfl, _, hc2⟩ := h2.row (by omega)
        have g1 := hc1 k hlt
        have g2 := hc2 k hlt
        clear hc1 hc2
        generalize hxk : xs.getD k 0 = x at g1
        generalize hyk : ys.getD k 0 = y at g2
        have HX := hid hxk
        have HY := hid hyk
        clear hxk hyk
        by_cases hxy : x = y
        · subst hxy
          go_wp2_with fail
          go_region
          go_wp2
          go_roundg (n - (k + 1))
          case measure => omega
          case rel =>
            refine ⟨k + 1, q + 1, by omega, by omega, by go_num, rfl, fun j hj => ?_⟩
            by_cases e : j = k
            · subst e
              rw [HX.out, HY.out]
            · exact HE.out j (by omega)
        · go_wp2_with fail
          go_region
          go_wp2
          go_ret
          have hd : decide (xs = ys) = false := decide_eq_false (fun e => by subst e; exact hxy (HX.out.symm.trans HY.out))
          rw [hd]
          exact ⟨rfl, q + 1, rfl⟩
      · have hkn : k = n := by omega
        subst hkn
        go_wp2
        go_ret
        rw [decide_eq_true (getD_take_eq h1.len h2.len HE.out)]
        exact ⟨rfl, q, rfl⟩
  · have hnm' : ¬ (n : Int) = (m : Int) := by omega
    go_enter Try.func24, Try.ntmps24
    go_wp2
    go_ret
    have hd : decide (xs = ys) = false := decide_eq_false (fun e => by subst e; exact hnm (h1.len.symm.trans h2.len))
    rw [hd]
    exact ⟨rfl, 0, rfl⟩

end Go.Proofs.Ytaklchehamkgcaa
