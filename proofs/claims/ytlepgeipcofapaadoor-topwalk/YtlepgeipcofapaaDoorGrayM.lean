/-
  The binary reflected Gray code, in plain numbers. Nothing of the program is proved here.
-/
import Derived.Test.YtlepgeipcofapaaDoorSubM
namespace Go.Proofs.YtlepgeipcofapaaDoor

/-- x with itself, k places down, bit by bit. -/
def fold (k x : Nat) : Nat := x ^^^ x / 2 ^ k
def gry (x : Nat) : Nat := fold 1 x
def bck (x : Nat) : Nat := fold 8 (fold 4 (fold 2 (fold 1 x)))

theorem fold_bit (k x i : Nat) : (fold k x).testBit i = (x.testBit i ^^ x.testBit (i + k)) := by
  rw [fold, Nat.testBit_xor, Nat.testBit_div_two_pow, Nat.add_comm]
theorem fold_xor (k x y : Nat) : fold k (x ^^^ y) = fold k x ^^^ fold k y := by
  apply Nat.eq_of_testBit_eq
  intro i
  simp only [fold_bit, Nat.testBit_xor]
  cases x.testBit i <;> cases y.testBit i <;> cases x.testBit (i + k) <;> cases y.testBit (i + k) <;> rfl
theorem fold_comm (j k x : Nat) : fold j (fold k x) = fold k (fold j x) := by
  apply Nat.eq_of_testBit_eq
  intro i
  simp only [fold_bit]
  rw [show i + j + k = i + k + j by omega]
  cases x.testBit i <;> cases x.testBit (i + k) <;> cases x.testBit (i + j) <;> cases x.testBit (i + k + j) <;> rfl
theorem fold_twice (k x : Nat) : fold k (fold k x) = fold (k + k) x := by
  apply Nat.eq_of_testBit_eq
  intro i
  simp only [fold_bit]
  rw [show i + k + k = i + (k + k) by omega]
  cases x.testBit i <;> cases x.testBit (i + k) <;> cases x.testBit (i + (k + k)) <;> rfl
theorem fold_lt {k x n : Nat} (h : x < 2 ^ n) : fold k x < 2 ^ n := Nat.xor_lt_two_pow h (Nat.lt_of_le_of_lt (Nat.div_le_self _ _) h)
theorem fold_lt16 {k x : Nat} (h : x < 65536) : fold k x < 65536 := fold_lt (n := 16) h
theorem fold_far {k x : Nat} (h : x < 2 ^ k) : fold k x = x := by rw [fold, Nat.div_eq_of_lt h, Nat.xor_zero]
theorem gry_lt {x : Nat} (h : x < 65536) : gry x < 65536 := fold_lt16 h
theorem bck_lt {x : Nat} (h : x < 65536) : bck x < 65536 := fold_lt16 (fold_lt16 (fold_lt16 (fold_lt16 h)))
theorem bck_gry {x : Nat} (h : x < 65536) : bck (gry x) = x := by
  rw [bck, gry, fold_twice 1, fold_twice 2, fold_twice 4, fold_twice 8]
  exact fold_far h
theorem gry_bck {x : Nat} (h : x < 65536) : gry (bck x) = x := by
  rw [bck, gry, fold_comm 1 8, fold_comm 1 4, fold_comm 1 2, fold_twice 1, fold_twice 2, fold_twice 4, fold_twice 8]
  exact fold_far h
theorem gry_xor (x y : Nat) : gry (x ^^^ y) = gry x ^^^ gry y := fold_xor 1 x y
theorem bck_xor (x y : Nat) : bck (x ^^^ y) = bck x ^^^ bck y := by
  simp only [bck, fold_xor]
theorem gry_inj {x y : Nat} (hx : x < 65536) (hy : y < 65536) (h : gry x = gry y) : x = y := by
  rw [← bck_gry hx, ← bck_gry hy, h]

/-- Above the lowest place that is set: i + 1 = 2^k * (2m + 1). -/
theorem xor_low {n a b c : Nat} (hb : b < 2 ^ n) (hc : c < 2 ^ n) : (2 ^ n * a + b) ^^^ (2 ^ n * a + c) = b ^^^ c := by
  apply Nat.eq_of_testBit_eq
  intro i
  rw [Nat.testBit_xor, Nat.testBit_xor, Nat.testBit_two_pow_mul_add _ hb, Nat.testBit_two_pow_mul_add _ hc]
  by_cases hi : i < n
  · simp [hi]
  · have h1 : b.testBit i = false := Nat.testBit_lt_two_pow (Nat.lt_of_lt_of_le hb (Nat.pow_le_pow_right (by omega) (by omega)))
    have h2 : c.testBit i = false := Nat.testBit_lt_two_pow (Nat.lt_of_lt_of_le hc (Nat.pow_le_pow_right (by omega) (by omega)))
    simp [hi, h1, h2]
theorem gry_ends : ∀ k : Fin 16, gry ((2 ^ k.val - 1) ^^^ 2 ^ k.val) = 2 ^ k.val := by decide +kernel
theorem gry_next {i k m : Nat} (h : i + 1 = 2 ^ k * (2 * m + 1)) (hk : k < 16) : gry i ^^^ gry (i + 1) = 2 ^ k := by
  have hp := Nat.two_pow_pos k
  have e1 : i + 1 = 2 ^ (k + 1) * m + 2 ^ k := by rw [h, Nat.mul_add, Nat.pow_succ, Nat.mul_assoc, Nat.mul_one]
  have e2 : i = 2 ^ (k + 1) * m + (2 ^ k - 1) := by omega
  have hs : 2 ^ (k + 1) = 2 ^ k * 2 := Nat.pow_succ ..
  rw [← gry_xor, e1]
  conv => lhs; arg 1; arg 1; rw [e2]
  rw [xor_low (by omega) (by omega)]
  exact gry_ends ⟨k, hk⟩
theorem low_place : ∀ x : Nat, 0 < x → ∃ k m, x = 2 ^ k * (2 * m + 1) := by
  intro x
  induction x using Nat.strongRecOn with
  | ind x ih =>
    intro h
    by_cases he : x % 2 = 1
    · exact ⟨0, x / 2, by omega⟩
    · obtain ⟨k, m, hm⟩ := ih (x / 2) (by omega) (by omega)
      exact ⟨k + 1, m, by rw [Nat.pow_succ, Nat.mul_right_comm, ← hm]; omega⟩
theorem place_lt {k m x : Nat} (h : x = 2 ^ k * (2 * m + 1)) (hx : x < 65536) : k < 16 := by
  have hle : 2 ^ k ≤ 2 ^ k * (2 * m + 1) := Nat.le_mul_of_pos_right _ (by omega)
  exact (Nat.pow_lt_pow_iff_right (a := 2) (by omega)).1 (show 2 ^ k < 2 ^ 16 by omega)

end Go.Proofs.YtlepgeipcofapaaDoor
