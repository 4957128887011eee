/-
  Pascal's triangle, row by row.
-/
import Derived.Test.YthdjbmogdlodcaaSubM
namespace Go.Proofs.Ythdjbmogdlodcaa

/-- Pascal's triangle, row by row. -/
def pasGo : Nat → List Nat → List Nat
  | p, [] => [p]
  | p, x :: l => (p + x) :: pasGo x l
def pas : Nat → List Nat
  | 0 => [1]
  | n + 1 => pasGo 0 (pas n)
theorem pasGo_zero : ∀ (p : Nat) (l : List Nat), (pasGo p l).getD 0 0 = p + l.getD 0 0
  | _, [] => rfl
  | _, _ :: _ => rfl
theorem pasGo_succ : ∀ (p : Nat) (l : List Nat) (k : Nat), (pasGo p l).getD (k + 1) 0 = l.getD k 0 + l.getD (k + 1) 0
  | _, [], _ => by simp [pasGo]
  | _, x :: l, 0 => by
    have := pasGo_zero x l
    simpa [pasGo] using this
  | _, x :: l, k + 1 => by
    have := pasGo_succ x l k
    simpa [pasGo] using this
theorem pas_cho : ∀ n k : Nat, (pas n).getD k 0 = cho n k
  | 0, 0 => rfl
  | 0, k + 1 => by simp [pas, cho]
  | n + 1, 0 => by
    rw [pas, pasGo_zero, pas_cho n 0, cho_zero, cho_zero]
  | n + 1, k + 1 => by
    rw [pas, pasGo_succ, pas_cho n k, pas_cho n (k + 1), cho_succ]

end Go.Proofs.Ythdjbmogdlodcaa
