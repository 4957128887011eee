/-
  Proved: castlaw.BlocksSay returns true whatever its arguments.
-/
import Derived.Test.YtigfhpffghajaaaBlocksSayN0
import Derived.Test.YtigfhpffghajaaaBlocksSayN1
import Derived.Test.YtigfhpffghajaaaBlocksSayK0
import Derived.Test.YtigfhpffghajaaaBlocksSayK1
import Derived.Test.YtigfhpffghajaaaBlocksSayOK
import Derived.Test.YtigfhpffghajaaaRowB
namespace Go.Proofs.Ytigfhpffghajaaa
open Go.RowKit

theorem blocksSay_n0 (A0 : Option Addr) (n0 c0 : Nat) (x0 : List Int) (A3 : Option Addr) (n3 c3 : Nat) (x3 : List Int) (N : Int) (K : Int) (w : World)
    (h0 : Ints w A0 n0 x0) (h3 : Ints w A3 n3 x3) (hc0 : n0 ≤ c0) (hc3 : n3 ≤ c3) (hm0 : c0 ≤ 9223372036854775807) (hm3 : c3 ≤ 9223372036854775807) (hbd : ∀ y ∈ x0, y ≤ 9223372036854775807) (hN : N < 0) :
    Calls Try.prog 3 #[.slice A0 n0 c0, .int .i64 N, .int .i64 K, .slice A3 n3 c3] w fun e w' => e = .returned (.bool true) ∧ Below w.heap.size w w' := by
  by_cases he : heapErr x0 = 0
  · obtain ⟨hg, hr⟩ := heapErr_zero he
    rw [h0.len] at hg
    by_cases hx : ltg x0 n0 < 0
    · by_cases hl : 10 < n3
      · exact blocksSay_n0_L_none A0 n0 c0 x0 A3 n3 c3 x3 N K w h0 h3 hc0 hc3 hm0 hm3 hbd hN hl hg hr hx
      · exact blocksSay_n0_S_none A0 n0 c0 x0 A3 n3 c3 x3 N K w h0 h3 hc0 hc3 hm0 hm3 hbd hN (by omega) hg hr hx
    · obtain ⟨L, hx2⟩ := Int.eq_ofNat_of_zero_le (show 0 ≤ ltg x0 n0 by omega)
      by_cases hl : 10 < n3
      · exact blocksSay_n0_L_nx A0 n0 c0 x0 A3 n3 c3 x3 N K L w h0 h3 hc0 hc3 hm0 hm3 hbd hN hl hg hr hx2
      · exact blocksSay_n0_S_nx A0 n0 c0 x0 A3 n3 c3 x3 N K L w h0 h3 hc0 hc3 hm0 hm3 hbd hN (by omega) hg hr hx2
  · by_cases hl : 10 < n3
    · exact blocksSay_n0_L_bad A0 n0 c0 x0 A3 n3 c3 x3 N K w h0 h3 hc0 hc3 hm0 hm3 hbd hN hl he
    · exact blocksSay_n0_S_bad A0 n0 c0 x0 A3 n3 c3 x3 N K w h0 h3 hc0 hc3 hm0 hm3 hbd hN (by omega) he

theorem blocksSay_n1 (A0 : Option Addr) (n0 c0 : Nat) (x0 : List Int) (A3 : Option Addr) (n3 c3 : Nat) (x3 : List Int) (N : Int) (K : Int) (w : World)
    (h0 : Ints w A0 n0 x0) (h3 : Ints w A3 n3 x3) (hc0 : n0 ≤ c0) (hc3 : n3 ≤ c3) (hm0 : c0 ≤ 9223372036854775807) (hm3 : c3 ≤ 9223372036854775807) (hbd : ∀ y ∈ x0, y ≤ 9223372036854775807) (hN0 : ¬ N < 0) (hN : 10 < N) :
    Calls Try.prog 3 #[.slice A0 n0 c0, .int .i64 N, .int .i64 K, .slice A3 n3 c3] w fun e w' => e = .returned (.bool true) ∧ Below w.heap.size w w' := by
  by_cases he : heapErr x0 = 0
  · obtain ⟨hg, hr⟩ := heapErr_zero he
    rw [h0.len] at hg
    by_cases hx : ltg x0 n0 < 0
    · by_cases hl : 10 < n3
      · exact blocksSay_n1_L_none A0 n0 c0 x0 A3 n3 c3 x3 N K w h0 h3 hc0 hc3 hm0 hm3 hbd hN0 hN hl hg hr hx
      · exact blocksSay_n1_S_none A0 n0 c0 x0 A3 n3 c3 x3 N K w h0 h3 hc0 hc3 hm0 hm3 hbd hN0 hN (by omega) hg hr hx
    · obtain ⟨L, hx2⟩ := Int.eq_ofNat_of_zero_le (show 0 ≤ ltg x0 n0 by omega)
      by_cases hl : 10 < n3
      · exact blocksSay_n1_L_nx A0 n0 c0 x0 A3 n3 c3 x3 N K L w h0 h3 hc0 hc3 hm0 hm3 hbd hN0 hN hl hg hr hx2
      · exact blocksSay_n1_S_nx A0 n0 c0 x0 A3 n3 c3 x3 N K L w h0 h3 hc0 hc3 hm0 hm3 hbd hN0 hN (by omega) hg hr hx2
  · by_cases hl : 10 < n3
    · exact blocksSay_n1_L_bad A0 n0 c0 x0 A3 n3 c3 x3 N K w h0 h3 hc0 hc3 hm0 hm3 hbd hN0 hN hl he
    · exact blocksSay_n1_S_bad A0 n0 c0 x0 A3 n3 c3 x3 N K w h0 h3 hc0 hc3 hm0 hm3 hbd hN0 hN (by omega) he

theorem blocksSay_k0 (A0 : Option Addr) (n0 c0 : Nat) (x0 : List Int) (A3 : Option Addr) (n3 c3 : Nat) (x3 : List Int) (N : Nat) (K : Int) (w : World)
    (h0 : Ints w A0 n0 x0) (h3 : Ints w A3 n3 x3) (hc0 : n0 ≤ c0) (hc3 : n3 ≤ c3) (hm0 : c0 ≤ 9223372036854775807) (hm3 : c3 ≤ 9223372036854775807) (hbd : ∀ y ∈ x0, y ≤ 9223372036854775807) (hN : N ≤ 10) (hK : K < 0) :
    Calls Try.prog 3 #[.slice A0 n0 c0, .int .i64 (N : Int), .int .i64 K, .slice A3 n3 c3] w fun e w' => e = .returned (.bool true) ∧ Below w.heap.size w w' := by
  by_cases he : heapErr x0 = 0
  · obtain ⟨hg, hr⟩ := heapErr_zero he
    rw [h0.len] at hg
    by_cases hx : ltg x0 n0 < 0
    · by_cases hl : 10 < n3
      · exact blocksSay_k0_L_none A0 n0 c0 x0 A3 n3 c3 x3 N K w h0 h3 hc0 hc3 hm0 hm3 hbd hN hK hl hg hr hx
      · exact blocksSay_k0_S_none A0 n0 c0 x0 A3 n3 c3 x3 N K w h0 h3 hc0 hc3 hm0 hm3 hbd hN hK (by omega) hg hr hx
    · obtain ⟨L, hx2⟩ := Int.eq_ofNat_of_zero_le (show 0 ≤ ltg x0 n0 by omega)
      by_cases hl : 10 < n3
      · exact blocksSay_k0_L_nx A0 n0 c0 x0 A3 n3 c3 x3 N K L w h0 h3 hc0 hc3 hm0 hm3 hbd hN hK hl hg hr hx2
      · exact blocksSay_k0_S_nx A0 n0 c0 x0 A3 n3 c3 x3 N K L w h0 h3 hc0 hc3 hm0 hm3 hbd hN hK (by omega) hg hr hx2
  · by_cases hl : 10 < n3
    · exact blocksSay_k0_L_bad A0 n0 c0 x0 A3 n3 c3 x3 N K w h0 h3 hc0 hc3 hm0 hm3 hbd hN hK hl he
    · exact blocksSay_k0_S_bad A0 n0 c0 x0 A3 n3 c3 x3 N K w h0 h3 hc0 hc3 hm0 hm3 hbd hN hK (by omega) he

theorem blocksSay_k1 (A0 : Option Addr) (n0 c0 : Nat) (x0 : List Int) (A3 : Option Addr) (n3 c3 : Nat) (x3 : List Int) (N : Nat) (K : Int) (w : World)
    (h0 : Ints w A0 n0 x0) (h3 : Ints w A3 n3 x3) (hc0 : n0 ≤ c0) (hc3 : n3 ≤ c3) (hm0 : c0 ≤ 9223372036854775807) (hm3 : c3 ≤ 9223372036854775807) (hbd : ∀ y ∈ x0, y ≤ 9223372036854775807) (hN : N ≤ 10) (hK0 : ¬ K < 0) (hK : 10 < K) :
    Calls Try.prog 3 #[.slice A0 n0 c0, .int .i64 (N : Int), .int .i64 K, .slice A3 n3 c3] w fun e w' => e = .returned (.bool true) ∧ Below w.heap.size w w' := by
  by_cases he : heapErr x0 = 0
  · obtain ⟨hg, hr⟩ := heapErr_zero he
    rw [h0.len] at hg
    by_cases hx : ltg x0 n0 < 0
    · by_cases hl : 10 < n3
      · exact blocksSay_k1_L_none A0 n0 c0 x0 A3 n3 c3 x3 N K w h0 h3 hc0 hc3 hm0 hm3 hbd hN hK0 hK hl hg hr hx
      · exact blocksSay_k1_S_none A0 n0 c0 x0 A3 n3 c3 x3 N K w h0 h3 hc0 hc3 hm0 hm3 hbd hN hK0 hK (by omega) hg hr hx
    · obtain ⟨L, hx2⟩ := Int.eq_ofNat_of_zero_le (show 0 ≤ ltg x0 n0 by omega)
      by_cases hl : 10 < n3
      · exact blocksSay_k1_L_nx A0 n0 c0 x0 A3 n3 c3 x3 N K L w h0 h3 hc0 hc3 hm0 hm3 hbd hN hK0 hK hl hg hr hx2
      · exact blocksSay_k1_S_nx A0 n0 c0 x0 A3 n3 c3 x3 N K L w h0 h3 hc0 hc3 hm0 hm3 hbd hN hK0 hK (by omega) hg hr hx2
  · by_cases hl : 10 < n3
    · exact blocksSay_k1_L_bad A0 n0 c0 x0 A3 n3 c3 x3 N K w h0 h3 hc0 hc3 hm0 hm3 hbd hN hK0 hK hl he
    · exact blocksSay_k1_S_bad A0 n0 c0 x0 A3 n3 c3 x3 N K w h0 h3 hc0 hc3 hm0 hm3 hbd hN hK0 hK (by omega) he

theorem blocksSay_ok (A0 : Option Addr) (n0 c0 : Nat) (x0 : List Int) (A3 : Option Addr) (n3 c3 : Nat) (x3 : List Int) (N : Nat) (K : Nat) (w : World)
    (h0 : Ints w A0 n0 x0) (h3 : Ints w A3 n3 x3) (hc0 : n0 ≤ c0) (hc3 : n3 ≤ c3) (hm0 : c0 ≤ 9223372036854775807) (hm3 : c3 ≤ 9223372036854775807) (hbd : ∀ y ∈ x0, y ≤ 9223372036854775807) (hN : N ≤ 10) (hK : K ≤ 10) :
    Calls Try.prog 3 #[.slice A0 n0 c0, .int .i64 (N : Int), .int .i64 (K : Int), .slice A3 n3 c3] w fun e w' => e = .returned (.bool true) ∧ Below w.heap.size w w' := by
  by_cases he : heapErr x0 = 0
  · obtain ⟨hg, hr⟩ := heapErr_zero he
    rw [h0.len] at hg
    by_cases hx : ltg x0 n0 < 0
    · by_cases hl : 10 < n3
      · exact blocksSay_ok_L_none A0 n0 c0 x0 A3 n3 c3 x3 N K w h0 h3 hc0 hc3 hm0 hm3 hbd hN hK hl hg hr hx
      · exact blocksSay_ok_S_none A0 n0 c0 x0 A3 n3 c3 x3 N K w h0 h3 hc0 hc3 hm0 hm3 hbd hN hK (by omega) hg hr hx
    · obtain ⟨L, hx2⟩ := Int.eq_ofNat_of_zero_le (show 0 ≤ ltg x0 n0 by omega)
      by_cases hl : 10 < n3
      · exact blocksSay_ok_L_nx A0 n0 c0 x0 A3 n3 c3 x3 N K L w h0 h3 hc0 hc3 hm0 hm3 hbd hN hK hl hg hr hx2
      · exact blocksSay_ok_S_nx A0 n0 c0 x0 A3 n3 c3 x3 N K L w h0 h3 hc0 hc3 hm0 hm3 hbd hN hK (by omega) hg hr hx2
  · by_cases hl : 10 < n3
    · exact blocksSay_ok_L_bad A0 n0 c0 x0 A3 n3 c3 x3 N K w h0 h3 hc0 hc3 hm0 hm3 hbd hN hK hl he
    · exact blocksSay_ok_S_bad A0 n0 c0 x0 A3 n3 c3 x3 N K w h0 h3 hc0 hc3 hm0 hm3 hbd hN hK (by omega) he

theorem blocksSay_any (A0 : Option Addr) (n0 c0 : Nat) (x0 : List Int) (N K : Int) (A3 : Option Addr) (n3 c3 : Nat) (x3 : List Int) (w : World)
    (h0 : Ints w A0 n0 x0) (h3 : Ints w A3 n3 x3) (hc0 : n0 ≤ c0) (hc3 : n3 ≤ c3) (hm0 : c0 ≤ maxLen) (hm3 : c3 ≤ maxLen) (hbd : ∀ y ∈ x0, -9223372036854775808 ≤ y ∧ y ≤ 9223372036854775807) :
    Calls Try.prog 3 #[.slice A0 n0 c0, .int .i64 N, .int .i64 K, .slice A3 n3 c3] w fun e w' => e = .returned (.bool true) ∧ Below w.heap.size w w' := by
  unfold maxLen at hm0 hm3
  have hbd2 : ∀ y ∈ x0, y ≤ 9223372036854775807 := fun y hy => (hbd y hy).2
  by_cases hN0 : N < 0
  · exact blocksSay_n0 A0 n0 c0 x0 A3 n3 c3 x3 N K w h0 h3 hc0 hc3 (by omega) (by omega) hbd2 hN0
  · by_cases hN : 10 < N
    · exact blocksSay_n1 A0 n0 c0 x0 A3 n3 c3 x3 N K w h0 h3 hc0 hc3 (by omega) (by omega) hbd2 hN0 hN
    · obtain ⟨p, rfl⟩ := Int.eq_ofNat_of_zero_le (show 0 ≤ N by omega)
      by_cases hK0 : K < 0
      · exact blocksSay_k0 A0 n0 c0 x0 A3 n3 c3 x3 p K w h0 h3 hc0 hc3 (by omega) (by omega) hbd2 (by omega) hK0
      · by_cases hK : 10 < K
        · exact blocksSay_k1 A0 n0 c0 x0 A3 n3 c3 x3 p K w h0 h3 hc0 hc3 (by omega) (by omega) hbd2 (by omega) hK0 hK
        · obtain ⟨q, rfl⟩ := Int.eq_ofNat_of_zero_le (show 0 ≤ K by omega)
          exact blocksSay_ok A0 n0 c0 x0 A3 n3 c3 x3 p q w h0 h3 hc0 hc3 (by omega) (by omega) hbd2 (by omega) (by omega)

end Go.Proofs.Ytigfhpffghajaaa
