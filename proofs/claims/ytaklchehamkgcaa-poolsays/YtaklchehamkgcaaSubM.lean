/-
  Plain mathematics of sets of small numbers, kept as the bits of a number: how many bits, binomial coefficients, the place among the sets of one size. Nothing of the program is proved here.
-/
import Derived.Test.YtaklchehamkgcaaBase
import Derived.Lib.TrailingZeros
namespace Go.Proofs.Ytaklchehamkgcaa
open Go.RowKit

/-! ### Sums -/

def sumN (f : Nat → Nat) : Nat → Nat
  | 0 => 0
  | n + 1 => sumN f n + f n
theorem sumN_front (f : Nat → Nat) : ∀ n, sumN f (n + 1) = f 0 + sumN (fun i => f (i + 1)) n
  | 0 => by simp [sumN]
  | n + 1 => by
    rw [sumN, sumN_front f n, sumN]
    omega
theorem sumN_add (f g : Nat → Nat) : ∀ n, sumN (fun i => f i + g i) n = sumN f n + sumN g n
  | 0 => rfl
  | n + 1 => by
    rw [sumN, sumN_add f g n, sumN, sumN]
    omega
theorem sumN_congr {f g : Nat → Nat} : ∀ {n}, (∀ i, i < n → f i = g i) → sumN f n = sumN g n
  | 0, _ => rfl
  | n + 1, h => by rw [sumN, sumN, sumN_congr (n := n) fun i hi => h i (by omega), h n (by omega)]
theorem sumN_mono (f : Nat → Nat) {j n : Nat} (h : j ≤ n) : sumN f j ≤ sumN f n := by
  induction n with
  | zero => rw [show j = 0 by omega]; exact Nat.le_refl _
  | succ n ih =>
    by_cases e : j = n + 1
    · subst e
      exact Nat.le_refl _
    · exact Nat.le_trans (ih (by omega)) (Nat.le_add_right _ _)

/-! ### Binomial coefficients -/

def cho : Nat → Nat → Nat
  | _, 0 => 1
  | 0, _ + 1 => 0
  | n + 1, k + 1 => cho n k + cho n (k + 1)
theorem cho_zero (n : Nat) : cho n 0 = 1 := by cases n <;> rfl
theorem cho_succ (n k : Nat) : cho (n + 1) (k + 1) = cho n k + cho n (k + 1) := rfl
theorem cho_over : ∀ {n k : Nat}, n < k → cho n k = 0
  | 0, k + 1, _ => rfl
  | n + 1, k + 1, h => by rw [cho_succ, cho_over (by omega), cho_over (by omega)]
theorem cho_self : ∀ n : Nat, cho n n = 1
  | 0 => rfl
  | n + 1 => by rw [cho_succ, cho_self n, cho_over (by omega)]
theorem cho_pos : ∀ {n k : Nat}, k ≤ n → 0 < cho n k
  | n, 0, _ => by rw [cho_zero]; exact Nat.one_pos
  | n + 1, k + 1, h => by rw [cho_succ]; have := cho_pos (n := n) (k := k) (by omega); omega
theorem cho_turn : ∀ {n k : Nat}, k ≤ n → cho n (n - k) = cho n k
  | n, 0, _ => by rw [Nat.sub_zero, cho_self, cho_zero]
  | n + 1, k + 1, h => by
    by_cases e : k = n
    · subst e
      rw [Nat.sub_self, cho_zero, cho_self]
    · have h1 : n + 1 - (k + 1) = (n - (k + 1)) + 1 := by omega
      have h2 := cho_turn (n := n) (k := k) (by omega)
      have h3 := cho_turn (n := n) (k := k + 1) (by omega)
      rw [h1, cho_succ, h3, show n - (k + 1) + 1 = n - k by omega, h2, cho_succ]
      omega
theorem cho_step : ∀ n i : Nat, i ≤ n → cho n (i + 1) * (i + 1) = cho n i * (n - i)
  | 0, i, h => by
    rw [show i = 0 by omega]
    rfl
  | n + 1, 0, _ => by
    rw [cho_succ, cho_zero, cho_zero]
    have := cho_step n 0 (Nat.zero_le _)
    rw [cho_zero] at this
    omega
  | n + 1, i + 1, h => by
    by_cases e : i = n
    · subst e
      rw [cho_over (by omega), Nat.sub_self]
      omega
    · have h1 := cho_step n i (by omega)
      have h2 := cho_step n (i + 1) (by omega)
      have e1 : n - i = (n - (i + 1)) + 1 := by omega
      have e2 : n + 1 - (i + 1) = n - i := by omega
      rw [cho_succ n (i + 1), cho_succ n i, e2, Nat.add_mul, Nat.add_mul, h2]
      rw [e1] at h1 ⊢
      generalize n - (i + 1) = d at *
      have e3 : cho n (i + 1) * (i + 1 + 1) = cho n (i + 1) * (i + 1) + cho n (i + 1) := Nat.mul_succ _ _
      have e4 : cho n (i + 1) * (d + 1) = cho n (i + 1) * d + cho n (i + 1) := Nat.mul_succ _ _
      rw [e3, e4, h1]
      omega
theorem cho_row : ∀ n : Nat, sumN (cho n) (n + 1) = 2 ^ n
  | 0 => rfl
  | n + 1 => by
    have h := cho_row n
    have h2 : sumN (cho n) (n + 2) = 2 ^ n := by rw [sumN, h, cho_over (by omega)]; rfl
    have h3 := sumN_front (cho n) (n + 1)
    rw [sumN_front, cho_zero, sumN_congr (g := fun i => cho n i + cho n (i + 1)) (fun i _ => cho_succ n i), sumN_add, h, Nat.pow_succ]
    rw [h2, cho_zero] at h3
    omega
theorem cho_le (n k : Nat) : cho n k ≤ 2 ^ n := by
  by_cases h : k ≤ n
  · have := sumN_mono (cho n) (show k + 1 ≤ n + 1 by omega)
    rw [cho_row] at this
    exact Nat.le_trans (Nat.le_add_left _ _) this
  · rw [cho_over (by omega)]
    exact Nat.zero_le _
theorem cho_16 {n k : Nat} (h : n ≤ 16) : cho n k ≤ 65536 := Nat.le_trans (cho_le n k) (Nat.pow_le_pow_right (n := 2) (by omega) h)
theorem cho_vander : ∀ m p k : Nat, sumN (fun i => cho m i * cho p (k - i)) (k + 1) = cho (m + p) k
  | 0, p, k => by
    rw [sumN_front, cho_zero, Nat.one_mul, Nat.sub_zero, Nat.zero_add]
    have : sumN (fun i => cho 0 (i + 1) * cho p (k - (i + 1))) k = sumN (fun _ => 0) k := sumN_congr fun i _ => by rw [show cho 0 (i + 1) = 0 from rfl, Nat.zero_mul]
    rw [this]
    have z : ∀ n, sumN (fun _ => 0) n = 0 := fun n => by
      induction n with
      | zero => rfl
      | succ n ih => rw [sumN, ih]
    rw [z]; rfl
  | m + 1, p, 0 => by rw [sumN, sumN, cho_zero, cho_zero]; simp [cho_zero]
  | m + 1, p, k + 1 => by
    have h1 := cho_vander m p k
    have h2 := cho_vander m p (k + 1)
    rw [sumN_front] at h2 ⊢
    simp only [Nat.add_sub_add_right, cho_zero, Nat.one_mul, Nat.sub_zero] at h2 ⊢
    rw [sumN_congr (g := fun i => cho m i * cho p (k - i) + cho m (i + 1) * cho p (k - i)) (fun i _ => by rw [cho_succ, Nat.add_mul]), sumN_add, h1]
    rw [show m + 1 + p = (m + p) + 1 by omega, cho_succ]
    omega

/-! ### Bits -/

def onesF : Nat → Nat → Nat
  | 0, _ => 0
  | f + 1, s => s % 2 + onesF f (s / 2)
theorem onesF_zero : ∀ f, onesF f 0 = 0
  | 0 => rfl
  | f + 1 => by rw [onesF, Nat.zero_div, onesF_zero f]
theorem onesF_more : ∀ {f g s : Nat}, s < 2 ^ f → s < 2 ^ g → onesF f s = onesF g s
  | 0, g, s, h, _ => by rw [show s = 0 by simpa using h, onesF_zero, onesF_zero]
  | f, 0, s, _, h => by rw [show s = 0 by simpa using h, onesF_zero, onesF_zero]
  | f + 1, g + 1, s, h1, h2 => by
    rw [Nat.pow_succ] at h1 h2
    rw [onesF, onesF, onesF_more (f := f) (g := g) (by omega) (by omega)]
/-- How many bits of s are set. -/
def ones (s : Nat) : Nat := onesF s s
theorem ones_of {f s : Nat} (h : s < 2 ^ f) : ones s = onesF f s := onesF_more Nat.lt_two_pow_self h
theorem ones_zero : ones 0 = 0 := rfl
theorem ones_step (s : Nat) : ones s = s % 2 + ones (s / 2) := by
  have h : s < 2 ^ s := Nat.lt_two_pow_self
  have h1 : s < 2 ^ (s + 1) := by rw [Nat.pow_succ]; omega
  rw [ones_of h1, ones_of (f := s) (s := s / 2) (by omega), onesF]
theorem ones_split : ∀ (a q r : Nat), r < 2 ^ a → ones (2 ^ a * q + r) = ones q + ones r
  | 0, q, r, h => by
    rw [show r = 0 by simpa using h]
    simp [ones_zero]
  | a + 1, q, r, h => by
    rw [Nat.pow_succ] at h
    have e : 2 ^ (a + 1) * q = 2 * (2 ^ a * q) := by rw [Nat.pow_succ, Nat.mul_comm (2 ^ a) 2, Nat.mul_assoc]
    rw [ones_step (_ + r), ones_step r, e, show (2 * (2 ^ a * q) + r) / 2 = 2 ^ a * q + r / 2 by omega, ones_split a q (r / 2) (by omega)]
    omega
theorem ones_one : ones 1 = 1 := rfl
theorem ones_mul (a q : Nat) : ones (2 ^ a * q) = ones q := by
  have := ones_split a q 0 (Nat.two_pow_pos a)
  rwa [Nat.add_zero, ones_zero, Nat.add_zero] at this
theorem ones_top {n r : Nat} (h : r < 2 ^ n) : ones (2 ^ n + r) = ones r + 1 := by
  have := ones_split n 1 r h
  rw [Nat.mul_one, ones_one] at this
  omega
theorem ones_full : ∀ n, ones (2 ^ n - 1) = n
  | 0 => rfl
  | n + 1 => by
    have h := Nat.two_pow_pos n
    rw [show 2 ^ (n + 1) - 1 = 2 ^ n + (2 ^ n - 1) by rw [Nat.pow_succ]; omega, ones_top (by omega), ones_full n]
theorem ones_le : ∀ {n s : Nat}, s < 2 ^ n → ones s ≤ n
  | 0, s, h => by rw [show s = 0 by simpa using h]; exact Nat.le_refl _
  | n + 1, s, h => by
    rw [Nat.pow_succ] at h
    have := ones_le (n := n) (s := s / 2) (by omega)
    rw [ones_step]
    omega
theorem ones_pos {s : Nat} (h : 0 < s) : 0 < ones s := by
  obtain ⟨m, hm, _⟩ := Lib.ctzFrom_spec s s h Nat.lt_two_pow_self
  rw [hm, ones_mul, ones_step]
  omega
theorem ones_mod_succ (s k : Nat) : ones (s % 2 ^ (k + 1)) = ones (s % 2 ^ k) + s / 2 ^ k % 2 := by
  have h1 : s % 2 ^ (k + 1) = 2 ^ k * (s / 2 ^ k % 2) + s % 2 ^ k := by rw [Nat.pow_succ, Nat.mod_mul]; omega
  have h2 : ones (s / 2 ^ k % 2) = s / 2 ^ k % 2 := by
    rcases Nat.mod_two_eq_zero_or_one (s / 2 ^ k) with e | e <;> rw [e] <;> rfl
  rw [h1, ones_split _ _ _ (Nat.mod_lt _ (Nat.two_pow_pos k)), h2]
  omega

/-! ### How many numbers below m have k bits -/

def cnt : Nat → Nat → Nat
  | 0, _ => 0
  | m + 1, k => cnt m k + if ones m = k then 1 else 0
theorem cnt_succ (m k : Nat) : cnt (m + 1) k = cnt m k + if ones m = k then 1 else 0 := rfl
theorem cnt_mono {m n : Nat} (k : Nat) (h : m ≤ n) : cnt m k ≤ cnt n k := by
  induction n with
  | zero => rw [show m = 0 by omega]; exact Nat.le_refl _
  | succ n ih =>
    by_cases e : m = n + 1
    · subst e
      exact Nat.le_refl _
    · rw [cnt_succ]
      exact Nat.le_trans (ih (by omega)) (Nat.le_add_right _ _)
theorem cnt_le (m k : Nat) : cnt m k ≤ m := by
  induction m with
  | zero => exact Nat.le_refl _
  | succ m ih =>
    rw [cnt_succ]
    split <;> omega
theorem cnt_add (n k : Nat) : ∀ r, r ≤ 2 ^ n → cnt (2 ^ n + r) (k + 1) = cnt (2 ^ n) (k + 1) + cnt r k
  | 0, _ => rfl
  | r + 1, h => by
    rw [← Nat.add_assoc, cnt_succ, cnt_add n k r (by omega), ones_top (by omega), cnt_succ]
    by_cases e : ones r = k
    · rw [if_pos e, if_pos (by omega)]
      omega
    · rw [if_neg e, if_neg (by omega)]
      omega
theorem cnt_add0 (n : Nat) : ∀ r, r ≤ 2 ^ n → cnt (2 ^ n + r) 0 = cnt (2 ^ n) 0
  | 0, _ => rfl
  | r + 1, h => by
    rw [← Nat.add_assoc, cnt_succ, cnt_add0 n r (by omega), ones_top (by omega), if_neg (by omega)]
    rfl
theorem cnt_pow : ∀ n k, cnt (2 ^ n) k = cho n k
  | 0, 0 => rfl
  | 0, k + 1 => rfl
  | n + 1, 0 => by rw [Nat.pow_succ, Nat.mul_two, cnt_add0 n _ (Nat.le_refl _), cnt_pow n 0, cho_zero, cho_zero]
  | n + 1, k + 1 => by rw [Nat.pow_succ, Nat.mul_two, cnt_add n k _ (Nat.le_refl _), cnt_pow n (k + 1), cnt_pow n k, cho_succ]; omega

/-- The place of s among the numbers with as many bits. -/
def srk (s : Nat) : Nat := cnt s (ones s)
theorem srk_lt {n s : Nat} (h : s < 2 ^ n) : srk s < cho n (ones s) := by
  have h1 := cnt_mono (ones s) (show s + 1 ≤ 2 ^ n by omega)
  rw [cnt_pow, cnt_succ, if_pos rfl] at h1
  exact h1
theorem srk_le (s : Nat) : srk s ≤ s := cnt_le _ _
theorem srk_mono {s t : Nat} (he : ones s = ones t) (h : s < t) : srk s < srk t := by
  have h1 := cnt_mono (ones s) (show s + 1 ≤ t by omega)
  rw [cnt_succ, if_pos rfl] at h1
  unfold srk
  rw [← he]
  exact h1
theorem srk_iff {s t : Nat} (he : ones s = ones t) : s < t ↔ srk s < srk t := by
  refine ⟨srk_mono he, fun h => ?_⟩
  rcases Nat.lt_trichotomy s t with h1 | h1 | h1
  · exact h1
  · subst h1
    omega
  · have := srk_mono he.symm h1
    omega
theorem srk_inj {s t : Nat} (he : ones s = ones t) (h : srk s = srk t) : s = t := by
  rcases Nat.lt_trichotomy s t with h1 | h1 | h1
  · have := srk_mono he h1
    omega
  · exact h1
  · have := srk_mono he.symm h1
    omega
theorem srk_top {n r : Nat} (h : r < 2 ^ n) : srk (2 ^ n + r) = cho n (ones r + 1) + srk r := by
  unfold srk
  rw [ones_top h, cnt_add n _ r (by omega), cnt_pow]

/-! ### The place as a sum, from the lowest bit on -/

def gF : Nat → Nat → Nat → Nat → Nat
  | 0, _, _, _ => 0
  | f + 1, o, j, s => if s % 2 = 1 then cho o (j + 1) + gF f (o + 1) (j + 1) (s / 2) else gF f (o + 1) j (s / 2)
theorem gF_zero : ∀ f o j, gF f o j 0 = 0
  | 0, _, _ => rfl
  | f + 1, o, j => by rw [gF, if_neg (by omega), Nat.zero_div, gF_zero f]
theorem gF_more : ∀ {f g s : Nat} (o j : Nat), s < 2 ^ f → s < 2 ^ g → gF f o j s = gF g o j s
  | 0, g, s, o, j, h, _ => by rw [show s = 0 by simpa using h, gF_zero, gF_zero]
  | f, 0, s, o, j, _, h => by rw [show s = 0 by simpa using h, gF_zero, gF_zero]
  | f + 1, g + 1, s, o, j, h1, h2 => by
    rw [Nat.pow_succ] at h1 h2
    rw [gF, gF, gF_more (f := f) (g := g) (o + 1) (j + 1) (by omega) (by omega), gF_more (f := f) (g := g) (o + 1) j (by omega) (by omega)]
/-- The sum of 'b over j + 1', 'c over j + 2', .. where b, c, .. are the places of s's bits, the lowest first, counted from o on. -/
def gsum (o j s : Nat) : Nat := gF s o j s
theorem gsum_of {f s : Nat} (o j : Nat) (h : s < 2 ^ f) : gsum o j s = gF f o j s := gF_more o j Nat.lt_two_pow_self h
theorem gsum_zero (o j : Nat) : gsum o j 0 = 0 := rfl
theorem gsum_step (o j s : Nat) : gsum o j s = if s % 2 = 1 then cho o (j + 1) + gsum (o + 1) (j + 1) (s / 2) else gsum (o + 1) j (s / 2) := by
  have h : s < 2 ^ s := Nat.lt_two_pow_self
  have h1 : s < 2 ^ (s + 1) := by rw [Nat.pow_succ]; omega
  rw [gsum_of _ _ h1, gsum_of (f := s) (s := s / 2) _ _ (by omega), gsum_of (f := s) (s := s / 2) _ _ (by omega), gF]
theorem gsum_odd (o j c : Nat) : gsum o j (2 * c + 1) = cho o (j + 1) + gsum (o + 1) (j + 1) c := by
  rw [gsum_step, if_pos (by omega), show (2 * c + 1) / 2 = c by omega]
theorem gsum_even (o j c : Nat) : gsum o j (2 * c) = gsum (o + 1) j c := by
  rw [gsum_step, if_neg (by omega), show (2 * c) / 2 = c by omega]
theorem gsum_split : ∀ (a o j q r : Nat), r < 2 ^ a → gsum o j (2 ^ a * q + r) = gsum o j r + gsum (o + a) (j + ones r) q
  | 0, o, j, q, r, h => by
    rw [show r = 0 by simpa using h]
    simp [gsum_zero, ones_zero]
  | a + 1, o, j, q, r, h => by
    rw [Nat.pow_succ] at h
    have e : 2 ^ (a + 1) * q = 2 * (2 ^ a * q) := by rw [Nat.pow_succ, Nat.mul_comm (2 ^ a) 2, Nat.mul_assoc]
    rw [gsum_step o j (_ + r), gsum_step o j r, e, show (2 * (2 ^ a * q) + r) / 2 = 2 ^ a * q + r / 2 by omega, show (2 * (2 ^ a * q) + r) % 2 = r % 2 by omega,
      gsum_split a (o + 1) (j + 1) q (r / 2) (by omega), gsum_split a (o + 1) j q (r / 2) (by omega), ones_step r]
    by_cases h2 : r % 2 = 1
    · rw [if_pos h2, if_pos h2, h2, show o + 1 + a = o + (a + 1) by omega, show j + 1 + ones (r / 2) = j + (1 + ones (r / 2)) by omega]
      omega
    · rw [if_neg h2, if_neg h2, show r % 2 = 0 by omega, show o + 1 + a = o + (a + 1) by omega, show j + (0 + ones (r / 2)) = j + ones (r / 2) by omega]
theorem gsum_mul (a o j q : Nat) : gsum o j (2 ^ a * q) = gsum (o + a) j q := by
  have := gsum_split a o j q 0 (Nat.two_pow_pos a)
  rwa [Nat.add_zero, gsum_zero, ones_zero, Nat.zero_add, Nat.add_zero] at this
theorem srk_gsum : ∀ {n s : Nat}, s < 2 ^ n → srk s = gsum 0 0 s
  | 0, s, h => by rw [show s = 0 by simpa using h]; rfl
  | n + 1, s, h => by
    rw [Nat.pow_succ] at h
    by_cases h1 : s < 2 ^ n
    · exact srk_gsum h1
    · obtain ⟨r, rfl⟩ : ∃ r, s = 2 ^ n + r := ⟨s - 2 ^ n, by omega⟩
      have hr : r < 2 ^ n := by omega
      have := gsum_split n 0 0 1 r hr
      rw [Nat.mul_one, show gsum (0 + n) (0 + ones r) 1 = cho n (ones r + 1) by rw [Nat.zero_add, Nat.zero_add]; exact gsum_odd n (ones r) 0] at this
      rw [srk_top hr, srk_gsum hr, this]
      omega
theorem srk_sum (s : Nat) : srk s = gsum 0 0 s := srk_gsum Nat.lt_two_pow_self
theorem gsum_full (b : Nat) : ∀ (a j : Nat), gsum a j (2 ^ b - 1) + cho a j = cho (a + b) (j + b) := by
  induction b with
  | zero => intro a j; simp [gsum_zero]
  | succ b ih =>
    intro a j
    have h := Nat.two_pow_pos b
    have h1 := ih (a + 1) (j + 1)
    rw [show 2 ^ (b + 1) - 1 = 2 * (2 ^ b - 1) + 1 by rw [Nat.pow_succ]; omega, gsum_odd]
    rw [cho_succ] at h1
    rw [show a + (b + 1) = a + 1 + b by omega, show j + (b + 1) = j + 1 + b by omega]
    omega
theorem gsum_low (b : Nat) : gsum 0 0 (2 ^ b - 1) = 0 := by
  have := gsum_full b 0 0
  rw [cho_zero, Nat.zero_add, cho_self] at this
  omega

/-! ### Taking the lowest bit off -/

/-- Every number but 0 is 2^a (2 c + 1). -/
theorem odd_part {n s : Nat} (h0 : 0 < s) (h : s < 2 ^ n) : ∃ a c, s = 2 ^ a * (2 * c + 1) ∧ a < n := by
  obtain ⟨m, hm, hk⟩ := Lib.ctzFrom_spec n s h0 h
  exact ⟨_, m, hm, hk⟩
theorem low_off (a c : Nat) : (2 ^ a * (2 * c + 1)) &&& (2 ^ a * (2 * c + 1) - 1) = 2 ^ (a + 1) * c := by
  have hp := Nat.two_pow_pos a
  have e1 : 2 ^ a * (2 * c + 1) = 2 ^ a * (2 * c + 1) + 0 := rfl
  have e2 : 2 ^ a * (2 * c + 1) - 1 = 2 ^ a * (2 * c) + (2 ^ a - 1) := by rw [Nat.mul_add, Nat.mul_one]; omega
  have e3 : 2 ^ (a + 1) * c = 2 ^ a * (2 * c) + 0 := by rw [Nat.pow_succ, Nat.mul_assoc]; rfl
  rw [e2, e3]
  apply Nat.eq_of_testBit_eq
  intro i
  rw [Nat.testBit_and]
  conv => lhs; lhs; rw [e1]
  rw [Nat.testBit_two_pow_mul_add _ hp, Nat.testBit_two_pow_mul_add _ (by omega), Nat.testBit_two_pow_mul_add _ hp]
  by_cases hi : i < a
  · simp [hi]
  · simp only [hi, if_false]
    cases hj : i - a with
    | zero => simp [Nat.testBit_zero]
    | succ j =>
      rw [Nat.testBit_succ, Nat.testBit_succ, show (2 * c + 1) / 2 = c by omega, show 2 * c / 2 = c by omega, Bool.and_self]
theorem gsum_off (a c j : Nat) : gsum 0 j (2 ^ a * (2 * c + 1)) = cho a (j + 1) + gsum 0 (j + 1) (2 ^ (a + 1) * c) := by
  rw [gsum_mul, gsum_mul, gsum_odd, Nat.zero_add, Nat.zero_add]
theorem ones_off (a c : Nat) : ones (2 ^ a * (2 * c + 1)) = ones (2 ^ (a + 1) * c) + 1 := by
  rw [ones_mul, ones_mul, ones_step, show (2 * c + 1) / 2 = c by omega]
  omega

/-! ### From the place to the set -/

def unr : Nat → Nat → Nat → Nat
  | 0, _, _ => 0
  | _ + 1, 0, _ => 0
  | n + 1, k + 1, r => if cho n (k + 1) ≤ r then 2 ^ n + unr n k (r - cho n (k + 1)) else unr n (k + 1) r
theorem unr_none (n r : Nat) : unr n 0 r = 0 := by cases n <;> rfl
theorem unr_ok : ∀ {n k r : Nat}, r < cho n k → unr n k r < 2 ^ n ∧ ones (unr n k r) = k ∧ srk (unr n k r) = r
  | n, 0, r, h => by
    rw [cho_zero] at h
    rw [unr_none, show r = 0 by omega]
    exact ⟨Nat.two_pow_pos n, rfl, rfl⟩
  | 0, k + 1, r, h => absurd h (by rw [cho_over (by omega)]; omega)
  | n + 1, k + 1, r, h => by
    rw [cho_succ] at h
    rw [unr, Nat.pow_succ]
    by_cases hc : cho n (k + 1) ≤ r
    · rw [if_pos hc]
      obtain ⟨h1, h2, h3⟩ := unr_ok (n := n) (k := k) (r := r - cho n (k + 1)) (by omega)
      refine ⟨by omega, by rw [ones_top h1, h2], ?_⟩
      rw [srk_top h1, h2, h3]
      omega
    · rw [if_neg hc]
      obtain ⟨h1, h2, h3⟩ := unr_ok (n := n) (k := k + 1) (r := r) (by omega)
      exact ⟨by omega, h2, h3⟩
theorem unr_srk {n s : Nat} (h : s < 2 ^ n) : unr n (ones s) (srk s) = s := by
  obtain ⟨_, h2, h3⟩ := unr_ok (srk_lt h)
  exact srk_inj h2 h3

/-! ### The next set of the size -/

/-- s is 2^a (2^b - 1) + 2^(a+b+1) h: a run of b bits from a on, a 0 above it, and h. -/
theorem run_part {n s : Nat} (h0 : 0 < s) (h : s < 2 ^ n) : ∃ a b c, s = 2 ^ (a + b + 2) * c + 2 ^ a * (2 ^ (b + 1) - 1) ∧ a + b < n := by
  obtain ⟨a, c, rfl, _⟩ := odd_part h0 h
  obtain ⟨b, d, hd, _⟩ := odd_part (n := 2 * c + 2) (s := 2 * c + 2) (by omega) Nat.lt_two_pow_self
  have hb : b ≠ 0 := by
    intro e
    rw [e, Nat.pow_zero] at hd
    omega
  obtain ⟨m, rfl⟩ : ∃ m, b = m + 1 := ⟨b - 1, by omega⟩
  have hp := Nat.two_pow_pos (m + 1)
  have hs : 2 ^ a * (2 * c + 1) = 2 ^ (a + m + 2) * d + 2 ^ a * (2 ^ (m + 1) - 1) := by
    have e1 : 2 * c + 1 = 2 ^ (m + 2) * d + (2 ^ (m + 1) - 1) := by
      have e2 : 2 ^ (m + 1) * (2 * d + 1) = 2 ^ (m + 2) * d + 2 ^ (m + 1) := by rw [Nat.mul_add, Nat.mul_one, Nat.pow_succ 2 (m + 1), Nat.mul_assoc]
      omega
    rw [e1, Nat.mul_add, ← Nat.mul_assoc, ← Nat.pow_add, show a + (m + 2) = a + m + 2 by omega]
  refine ⟨a, m, d, hs, ?_⟩
  rw [hs] at h
  have h1 : 2 ^ (a + m) < 2 ^ n := by
    refine Nat.lt_of_le_of_lt ?_ h
    have : 2 ^ (a + m) ≤ 2 ^ a * (2 ^ (m + 1) - 1) := by
      rw [Nat.pow_add]
      exact Nat.mul_le_mul_left _ (by rw [Nat.pow_succ] at hp ⊢; omega)
    omega
  exact (Nat.pow_lt_pow_iff_right (by omega)).1 h1

/-- The next one. -/
def nxt (a b c : Nat) : Nat := 2 ^ (a + b + 1) * (2 * c + 1) + (2 ^ b - 1)
theorem run_lt (a b : Nat) : 2 ^ a * (2 ^ (b + 1) - 1) < 2 ^ (a + b + 2) := by
  have h1 : 2 ^ a * (2 ^ (b + 1) - 1) < 2 ^ a * 2 ^ (b + 1) := Nat.mul_lt_mul_of_pos_left (by have := Nat.two_pow_pos (b + 1); omega) (Nat.two_pow_pos a)
  rw [← Nat.pow_add] at h1
  refine Nat.lt_trans h1 (Nat.pow_lt_pow_right (by omega) (by omega))
theorem low_lt (a b : Nat) : 2 ^ b - 1 < 2 ^ (a + b + 1) := by
  have h1 : 2 ^ b ≤ 2 ^ (a + b + 1) := Nat.pow_le_pow_right (by omega) (by omega)
  have := Nat.two_pow_pos b
  omega
theorem nxt_ones (a b c : Nat) : ones (nxt a b c) = ones (2 ^ (a + b + 2) * c + 2 ^ a * (2 ^ (b + 1) - 1)) := by
  unfold nxt
  rw [ones_split _ _ _ (low_lt a b), ones_split _ _ _ (run_lt a b), ones_mul, ones_full, ones_full, ones_step, show (2 * c + 1) / 2 = c by omega]
  omega
theorem nxt_srk (a b c : Nat) : srk (nxt a b c) = srk (2 ^ (a + b + 2) * c + 2 ^ a * (2 ^ (b + 1) - 1)) + 1 := by
  rw [srk_sum, srk_sum]
  unfold nxt
  have h := gsum_full (b + 1) a 0
  rw [cho_zero] at h
  rw [gsum_split _ _ _ _ _ (low_lt a b), gsum_split _ _ _ _ _ (run_lt a b), gsum_low, ones_full, gsum_mul, ones_mul, ones_full, gsum_odd]
  rw [show 0 + (a + b + 1) + 1 = 0 + (a + b + 2) by omega, show 0 + b + 1 = 0 + (b + 1) by omega, show 0 + (a + b + 1) = a + (b + 1) by omega, Nat.zero_add a]
  omega
theorem nxt_16 {a b c : Nat} (h : 2 ^ (a + b + 2) * c + 2 ^ a * (2 ^ (b + 1) - 1) < 65536) : nxt a b c < 131072 := by
  unfold nxt
  have h1 := Nat.two_pow_pos a
  have e1 : 2 ^ (a + b + 2) = 2 * 2 ^ (a + b + 1) := by rw [Nat.pow_succ]; omega
  have e2 : 2 ^ (a + b + 1) = 2 ^ a * 2 ^ (b + 1) := by rw [Nat.add_assoc, Nat.pow_add]
  have e3 : 2 ^ (a + b + 1) * (2 * c + 1) = 2 ^ (a + b + 2) * c + 2 ^ (a + b + 1) := by rw [e1, Nat.mul_add, Nat.mul_one, Nat.mul_comm 2 (2 ^ (a + b + 1)), Nat.mul_assoc]
  have e4 : 2 ^ a * (2 ^ (b + 1) - 1) + 2 ^ a = 2 ^ (a + b + 1) := by rw [e2, Nat.mul_sub, Nat.mul_one]; have : 2 ^ a ≤ 2 ^ a * 2 ^ (b + 1) := Nat.le_mul_of_pos_right _ (Nat.two_pow_pos _); omega
  have e5 : 2 ^ a ≤ 2 ^ a * (2 ^ (b + 1) - 1) := Nat.le_mul_of_pos_right _ (by have := Nat.two_pow_pos b; rw [Nat.pow_succ]; omega)
  have e6 : 2 ^ a + 2 ^ b ≤ 2 ^ a * (2 ^ (b + 1) - 1) + 1 := by
    obtain ⟨m, hm⟩ : ∃ m, 2 ^ b = m + 1 := ⟨2 ^ b - 1, by have := Nat.two_pow_pos b; omega⟩
    rw [Nat.pow_succ, hm, show (m + 1) * 2 - 1 = 2 * m + 1 by omega, Nat.mul_add, Nat.mul_one, Nat.mul_left_comm]
    have : m ≤ 2 ^ a * m := Nat.le_mul_of_pos_left _ h1
    omega
  have h2 := Nat.two_pow_pos b
  rw [e3]
  omega
theorem moved_eq (a b c : Nat) : 2 ^ (a + b + 2) * c + 2 ^ a * (2 ^ (b + 1) - 1) + 2 ^ a = 2 ^ (a + b + 1) * (2 * c + 1) := by
  have e1 : 2 ^ (a + b + 2) = 2 * 2 ^ (a + b + 1) := by rw [Nat.pow_succ]; omega
  have e2 : 2 ^ (a + b + 1) = 2 ^ a * 2 ^ (b + 1) := by rw [Nat.add_assoc, Nat.pow_add]
  have e3 : 2 ^ (a + b + 1) * (2 * c + 1) = 2 ^ (a + b + 2) * c + 2 ^ (a + b + 1) := by rw [e1, Nat.mul_add, Nat.mul_one, Nat.mul_comm 2 (2 ^ (a + b + 1)), Nat.mul_assoc]
  have e4 : 2 ^ a * (2 ^ (b + 1) - 1) + 2 ^ a = 2 ^ (a + b + 1) := by rw [e2, Nat.mul_sub, Nat.mul_one]; have : 2 ^ a ≤ 2 ^ a * 2 ^ (b + 1) := Nat.le_mul_of_pos_right _ (Nat.two_pow_pos _); omega
  rw [e3, Nat.add_assoc, e4]
theorem or_low (n q r : Nat) (h : r < 2 ^ n) : (2 ^ n * q) ||| r = 2 ^ n * q + r := (Nat.two_pow_add_eq_or_of_lt h q).symm

/-- Where there is a later set below 2^n: what the next number has. -/
theorem next_fits (n a b c : Nat) :
    nxt a b c < 2 ^ n ↔ srk (2 ^ (a + b + 2) * c + 2 ^ a * (2 ^ (b + 1) - 1)) + 1 < cho n (ones (2 ^ (a + b + 2) * c + 2 ^ a * (2 ^ (b + 1) - 1))) := by
  rw [← nxt_srk, ← nxt_ones]
  refine ⟨srk_lt, fun h => ?_⟩
  obtain ⟨h1, h2, h3⟩ := unr_ok h
  rw [← srk_inj h2 h3]
  exact h1

/-! ### Complements -/

theorem other : ∀ {n s : Nat}, s < 2 ^ n → ones s + ones (2 ^ n - 1 - s) = n ∧ srk s + srk (2 ^ n - 1 - s) + 1 = cho n (ones s)
  | 0, s, h => by rw [show s = 0 by simpa using h]; exact ⟨rfl, rfl⟩
  | n + 1, s, h => by
    rw [Nat.pow_succ] at h ⊢
    by_cases h1 : s < 2 ^ n
    · obtain ⟨i1, i2⟩ := other h1
      have e : 2 ^ n * 2 - 1 - s = 2 ^ n + (2 ^ n - 1 - s) := by omega
      have hr : 2 ^ n - 1 - s < 2 ^ n := by omega
      rw [e, ones_top hr, srk_top hr]
      refine ⟨by omega, ?_⟩
      generalize hk : ones s = k at *
      have ho : ones (2 ^ n - 1 - s) = n - k := by omega
      rw [ho]
      cases k with
      | zero =>
        rw [cho_zero] at i2
        rw [cho_over (by omega), cho_zero]
        omega
      | succ k =>
        rw [show n - (k + 1) + 1 = n - k by omega, cho_turn (by omega), cho_succ]
        omega
    · obtain ⟨r, rfl⟩ : ∃ r, s = 2 ^ n + r := ⟨s - 2 ^ n, by omega⟩
      have hr : r < 2 ^ n := by omega
      obtain ⟨i1, i2⟩ := other hr
      rw [show 2 ^ n * 2 - 1 - (2 ^ n + r) = 2 ^ n - 1 - r by omega, ones_top hr, srk_top hr, cho_succ]
      exact ⟨by omega, by omega⟩

end Go.Proofs.Ytaklchehamkgcaa
