/-
  All tapes of so many bits: the bits of a number, how often each number has come. Nothing of the program is proved here but slices.Max and Min.
-/
import Derived.Test.YtlclmmolbhnpgaaTpC
import Derived.Test.YtlclmmolbhnpgaaTpE
import Derived.Test.YtlclmmolbhnpgaaTpI
import Derived.Test.YtlclmmolbhnpgaaMx
import Derived.Laws.MakeOwn
namespace Go.Proofs.Ytlclmmolbhnpgaa
open Go.RowKit

/-- The first j of the k bits of x. -/
def btl (x k : Nat) : Nat → List Nat
  | 0 => []
  | j + 1 => btl x k j ++ [x / 2 ^ (k - 1 - j) % 2]
theorem btl_len (x k : Nat) : ∀ j, (btl x k j).length = j
  | 0 => rfl
  | j + 1 => by rw [btl, List.length_append, btl_len x k j]; rfl
theorem btl_bin (x k : Nat) : ∀ j, Bin (btl x k j)
  | 0 => fun _ h => (List.not_mem_nil h).elim
  | j + 1 => (btl_bin x k j).append fun y hy => by
    rw [List.mem_singleton] at hy
    subst hy
    omega
theorem btl_val {x k : Nat} (hx : x < 2 ^ k) : ∀ j, j ≤ k → bvl 0 (btl x k j) = x / 2 ^ (k - j)
  | 0, _ => by rw [Nat.sub_zero, Nat.div_eq_of_lt hx]; rfl
  | j + 1, h => by
    rw [btl, bvl_snoc, btl_val hx j (by omega), show k - j = (k - 1 - j) + 1 by omega, show k - (j + 1) = k - 1 - j by omega, Nat.pow_succ, ← Nat.div_div_eq_div_mul]
    omega
theorem btl_all {x k : Nat} (hx : x < 2 ^ k) : bvl 0 (btl x k k) = x := by rw [btl_val hx k (Nat.le_refl _), Nat.sub_self, Nat.pow_zero, Nat.div_one]
theorem wd_sixtyF : ∀ n : Fin 65, wd n.val ≤ 6 := by decide +kernel
theorem wd_sixty {n : Nat} (h : n ≤ 64) : wd n ≤ 6 := wd_sixtyF ⟨n, by omega⟩
/-- All of one try's tapes: a number just where it is below n. -/
theorem draw_btl {n x : Nat} (h1 : 1 ≤ n) (h2 : n ≤ 64) (hx : x < 2 ^ wd n) : drawX (n : Int) (btl x (wd n) (wd n)) = if x < n then (x, wd n, 0) else (0, 0, 6) := by
  have hl := btl_len x (wd n) (wd n)
  rw [drawX_ok (tapeErr_ok (by have := wd_sixty h2; omega) (btl_bin _ _ _))]
  have hd := drw_one h1 hl
  rw [btl_all hx] at hd
  by_cases h : x < n
  · rw [if_pos h] at hd ⊢
    exact drx_some h1 (by omega) hd
  · rw [if_neg h] at hd ⊢
    exact drx_none h1 (by omega) hd

/-- How often each number has come after x tapes. -/
def oft (n x : Nat) : List Int := (List.range n).map fun y => if y < x then 1 else 0
theorem oft_len (n x : Nat) : (oft n x).length = n := by simp [oft]
theorem oft_zero (n : Nat) : oft n 0 = List.replicate n 0 := by
  apply List.ext_getElem (by simp [oft])
  intro i h1 h2
  simp [oft]
theorem oft_at {n x i : Nat} (hi : i < n) : (oft n x).getD i 0 = if i < x then 1 else 0 := by simp [oft, List.getD_eq_getElem?_getD, hi]
theorem oft_step {n x : Nat} : (oft n x).set x 1 = oft n (x + 1) := by
  apply List.ext_getElem (by simp [oft])
  intro i h1 h2
  rw [List.getElem_set]
  by_cases h : x = i
  · subst h
    simp [oft]
  · simp only [if_neg h, oft, List.getElem_map, List.getElem_range]
    by_cases h3 : i < x
    · rw [if_pos h3, if_pos (by omega)]
    · rw [if_neg h3, if_neg (by omega)]
theorem oft_full {n x : Nat} (h : n ≤ x) : oft n (x + 1) = oft n x := by
  apply List.map_congr_left
  intro y hy
  have := List.mem_range.1 hy
  rw [if_pos (by omega), if_pos (by omega)]
theorem oft_one {n x : Nat} (h : n ≤ x) {y : Int} (hy : y ∈ oft n x) : y = 1 := by
  obtain ⟨i, hi, rfl⟩ := List.mem_map.1 hy
  have := List.mem_range.1 hi
  rw [if_pos (by omega)]

theorem shr_oneB {s k : Nat} (hs : s < 64) : bits .and .i64 ((s : Int) / 2 ^ k) 1 = ((s / 2 ^ k % 2 : Nat) : Int) := by
  have h1 : s / 2 ^ k ≤ s := Nat.div_le_self _ _
  rw [show ((2 : Int) ^ k) = ((2 ^ k : Nat) : Int) by simp, ← Int.natCast_ediv]
  generalize s / 2 ^ k = q at *
  have t : ((List.range 64).all fun x => decide (bits .and .i64 (x : Int) 1 = ((x % 2 : Nat) : Int))) = true := by decide +kernel
  rw [List.all_eq_true] at t
  exact of_decide_eq_true (t q (List.mem_range.2 (by omega)))
theorem own_empty (W : World) (base : Nat) (hb : base ≤ W.heap.size) : OwnByts (W.alloc (.cells #[] 5)) base (.slice (some ⟨W.heap.size, 0, none⟩) 0 0) [] := World.ownsRow_made W _ 0 hb (by unfold maxLen; omega) (by simp)
theorem max_one (n c g : Nat) (x : Nat) (w : World) (h : Arr w g (oft n x)) (h0 : 0 < n) (hn : n ≤ 64) (hx : n ≤ x) :
    Calls Try.prog 18 #[.slice (some ⟨g, 0, none⟩) n c] w fun e w' => e = .returned (.int .i64 1) ∧ w = w' := by
  have hI := h.ints0 n (by rw [oft_len]; omega)
  rw [List.take_of_length_le (by rw [oft_len]; omega)] at hI
  refine (max_any _ n c _ w hI h0 (by omega)).mono ?_
  rintro e w' ⟨m, rfl, hm, -, rfl⟩
  rw [oft_one hx hm]
  exact ⟨rfl, rfl⟩
theorem min_one (n c g : Nat) (x : Nat) (w : World) (h : Arr w g (oft n x)) (h0 : 0 < n) (hn : n ≤ 64) (hx : n ≤ x) :
    Calls Try.prog 19 #[.slice (some ⟨g, 0, none⟩) n c] w fun e w' => e = .returned (.int .i64 1) ∧ w = w' := by
  have hI := h.ints0 n (by rw [oft_len]; omega)
  rw [List.take_of_length_le (by rw [oft_len]; omega)] at hI
  refine (min_any _ n c _ w hI h0 (by omega)).mono ?_
  rintro e w' ⟨m, rfl, hm, -, rfl⟩
  rw [oft_one hx hm]
  exact ⟨rfl, rfl⟩
end Go.Proofs.Ytlclmmolbhnpgaa
