/-
  slices.EqualFunc at rows of rows, castkeep.sameRows, castref.SamePair.
-/
import Derived.Test.YtlclmmolbhnpgaaGrid
import Derived.Test.YtlclmmolbhnpgaaGen
namespace Go.Proofs.Ytlclmmolbhnpgaa
open Go.RowKit

/-- Row by row alike. -/
def sameBy (p : List Int → List Int → Bool) : List (List Int) → List (List Int) → Bool
  | [], [] => true
  | a :: T, b :: U => p a b && sameBy p T U
  | _, _ => false
theorem sameBy_len {p : List Int → List Int → Bool} : ∀ {T U : List (List Int)}, T.length ≠ U.length → sameBy p T U = false
  | [], [], h => absurd rfl h
  | [], _ :: _, _ => rfl
  | _ :: _, [], _ => rfl
  | a :: T, b :: U, h => by
    rw [sameBy, sameBy_len (T := T) (U := U) (fun e => h (by simp [e])), Bool.and_false]
theorem sameBy_not {p : List Int → List Int → Bool} : ∀ {T U : List (List Int)} {j : Nat}, j < T.length → p (T.getD j []) (U.getD j []) = false → sameBy p T U = false
  | [], _, _, h, _ => absurd h (Nat.not_lt_zero _)
  | _ :: _, [], _, _, _ => rfl
  | a :: T, b :: U, 0, _, h => by
    have h' : p a b = false := h
    rw [sameBy, h', Bool.false_and]
  | a :: T, b :: U, j + 1, hj, h => by
    rw [sameBy, sameBy_not (T := T) (U := U) (j := j) (by simpa using hj) (by simpa using h), Bool.and_false]
theorem sameBy_all {p : List Int → List Int → Bool} : ∀ {T U : List (List Int)}, T.length = U.length → (∀ j, j < T.length → p (T.getD j []) (U.getD j []) = true) → sameBy p T U = true
  | [], [], _, _ => rfl
  | [], _ :: _, h, _ => by simp at h
  | _ :: _, [], h, _ => by simp at h
  | a :: T, b :: U, h, hall => by
    have h0 : p a b = true := hall 0 (by simp)
    rw [sameBy, h0, Bool.true_and]
    exact sameBy_all (by simpa using h) (fun j hj => by simpa using hall (j + 1) (by simpa using hj))
theorem sameBy_eq : ∀ (T U : List (List Int)), sameBy (fun a b => decide (a = b)) T U = decide (T = U)
  | [], [] => rfl
  | [], _ :: _ => rfl
  | _ :: _, [] => rfl
  | a :: T, b :: U => by
    rw [sameBy, sameBy_eq T U]
    by_cases h1 : a = b
    · by_cases h2 : T = U
      · simp [h1, h2]
      · simp [h1, h2]
    · simp [h1]

/-- What a function that compares two rows does. -/
def CmpBy (F : Nat) (p : List Int → List Int → Bool) (L : Nat) : Prop := ∀ (A1 : Option Addr) (n c : Nat) (A2 : Option Addr) (m d : Nat) (xs ys : List Int) (w : World), Ints w A1 n xs → Ints w A2 m ys → Cap n c → Cap m d → n ≤ L → m ≤ L →
  Calls Try.prog F #[.slice A1 n c, .slice A2 m d] w fun e w' => e = .returned (.bool (p xs ys)) ∧ Below w.heap.size w w'

theorem RRows.at {w : World} {A : Option Addr} {n : Nat} {T : List (List Int)} (h : RRows w A n T) {j : Nat} (hj : j < n) : ∃ b off Aj nj cj, A = some ⟨b, off, none⟩ ∧ w.cell? ⟨b, off + j, none⟩ = some (.slice Aj nj cj) ∧ Ints w Aj nj (T.getD j []) ∧ Cap nj cj := by
  obtain ⟨b, off, e, _, hc⟩ := h.row (by omega)
  obtain ⟨Aj, nj, cj, h1, h2, h3, _⟩ := hc j hj
  exact ⟨b, off, Aj, nj, cj, e, h1, h2, h3⟩
theorem RRows.at0 {w : World} {A : Option Addr} {n : Nat} {T : List (List Int)} (h : RRows w A n T) {j : Nat} (hj : j < n) : ∃ b off Aj nj cj, A = some ⟨b, off, none⟩ ∧ w.cell? ⟨b, off + j, none⟩ = some (.slice Aj nj cj) ∧ Ints w Aj nj (T.getD j []) ∧ Cap nj cj ∧ (Aj = none → cj = 0) := by
  obtain ⟨b, off, e, _, hc⟩ := h.row (by omega)
  obtain ⟨Aj, nj, cj, h1, h2, h3, h4⟩ := hc j hj
  exact ⟨b, off, Aj, nj, cj, e, h1, h2, h3, h4⟩

theorem cmpEqual : CmpBy 22 (fun a b => decide (a = b)) 1000000 := fun A1 n c A2 m d xs ys w h1 h2 _ _ hn hm => equal_bel A1 n c A2 m d xs ys w h1 h2 hn hm

def sameLenB (a b : List Int) : Bool := decide (a.length = b.length)
end Go.Proofs.Ytlclmmolbhnpgaa
