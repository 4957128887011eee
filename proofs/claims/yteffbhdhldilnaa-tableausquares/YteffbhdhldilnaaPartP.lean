/-
  All sums of a number, as castkeep.forms lists them: plain facts, reckoned.
-/
import Derived.Test.YteffbhdhldilnaaPartN
import Derived.Test.YteffbhdhldilnaaPartD
namespace Go.Proofs.Yteffbhdhldilnaa

def formsUp (g : Nat → Nat → List (List Int)) (n : Nat) : Nat → List (List Int)
  | 0 => []
  | x + 1 => (g (n - (x + 1)) (x + 1)).map (fun l => ((x + 1 : Nat) : Int) :: l) ++ formsUp g n x
def pforms : Nat → Nat → Nat → List (List Int)
  | 0, _, _ => [[]]
  | f + 1, n, m => if n = 0 then [[]] else formsUp (pforms f) n (min n m)

theorem formsUp_len (g : Nat → Nat → List (List Int)) (n : Nat) (hg : ∀ a b, a < n → (g a b).length ≤ 2 ^ a) : ∀ x, x ≤ n → (formsUp g n x).length + 2 ^ (n - x) ≤ 2 ^ n
  | 0, _ => by simp [formsUp]
  | x + 1, h => by
    have ih := formsUp_len g n hg x (by omega)
    have h1 := hg (n - (x + 1)) (x + 1) (by omega)
    rw [formsUp, List.length_append, List.length_map]
    have e : 2 ^ (n - x) = 2 ^ (n - (x + 1)) + 2 ^ (n - (x + 1)) := by
      rw [show n - x = n - (x + 1) + 1 by omega, Nat.pow_succ]
      omega
    omega
theorem pforms_len : ∀ f n m, (pforms f n m).length ≤ 2 ^ n
  | 0, n, _ => by simp [pforms]; exact Nat.one_le_two_pow
  | f + 1, n, m => by
    rw [pforms]
    split
    · rename_i h
      subst h
      simp
    · have := formsUp_len (pforms f) n (fun a b _ => pforms_len f a b) (min n m) (by omega)
      exact Nat.le_trans (Nat.le_add_right _ _) this

def lowB (k : Nat) (x : List Int) : Bool := decide (x.getD 0 0 ≤ (k : Int))
def fewB (k : Nat) (x : List Int) : Bool := decide ((x.length : Int) ≤ (k : Int))
theorem forms_ok : ((List.range 16).all fun n => (pforms 15 n n).all fun x => decide (partErr x = 0)) = true := by decide +kernel
theorem forms_all : ((List.range 16).all fun n => decide ((pcntTab 16 n).getD n 0 = (pforms 15 n n).length)) = true := by decide +kernel
theorem forms_low : ((List.range 16).all fun n => (List.range 16).all fun k => decide ((pcntTab 16 k).getD n 0 = (pforms 15 n n).countP (lowB k))) = true := by decide +kernel
theorem forms_few : ((List.range 16).all fun n => (List.range 16).all fun k => decide ((pforms 15 n n).countP (fewB k) = (pforms 15 n n).countP (lowB k))) = true := by decide +kernel

theorem pforms_part {n : Nat} (hn : n ≤ 15) {x : List Int} (hx : x ∈ pforms 15 n n) : IsPart x :=
  isPart_of (of_decide_eq_true (List.all_eq_true.1 (List.all_eq_true.1 forms_ok n (List.mem_range.2 (by omega))) x hx))
theorem pforms_all {n : Nat} (hn : n ≤ 15) : pcnt n n = (pforms 15 n n).length := by
  rw [pcnt_tab (L := 16) (by omega)]
  exact of_decide_eq_true (List.all_eq_true.1 forms_all n (List.mem_range.2 (by omega)))
theorem pforms_low {n k : Nat} (hn : n ≤ 15) (hk : k ≤ 15) : pcnt k n = (pforms 15 n n).countP (lowB k) := by
  rw [pcnt_tab (L := 16) (by omega)]
  exact of_decide_eq_true (List.all_eq_true.1 (List.all_eq_true.1 forms_low n (List.mem_range.2 (by omega))) k (List.mem_range.2 (by omega)))
theorem pforms_few {n k : Nat} (hn : n ≤ 15) (hk : k ≤ 15) : (pforms 15 n n).countP (fewB k) = (pforms 15 n n).countP (lowB k) :=
  of_decide_eq_true (List.all_eq_true.1 (List.all_eq_true.1 forms_few n (List.mem_range.2 (by omega))) k (List.mem_range.2 (by omega)))

end Go.Proofs.Yteffbhdhldilnaa
