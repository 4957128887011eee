/-
  package subset: Size, Of, At.
-/
import Derived.Test.YtlepgeipcofapaaSubB
namespace Go.Proofs.Ytlepgeipcofapaa
open Go.RowKit

theorem wrap_pow16 {e : Nat} (h : e < 16) : IntKind.u16.wrap ((2 : Int) ^ e) = ((2 ^ e : Nat) : Int) := by
  have h1 : 2 ^ e < 2 ^ 16 := Nat.pow_lt_pow_right (by omega) h
  rw [IntKind.wrap_u16, pow_int]
  generalize 2 ^ e = z at *
  omega
theorem wrap_pow32 {e : Nat} (h : e < 32) : IntKind.u32.wrap ((2 : Int) ^ e) = ((2 ^ e : Nat) : Int) := by
  have h1 : 2 ^ e < 2 ^ 32 := Nat.pow_lt_pow_right (by omega) h
  rw [IntKind.wrap_u32', pow_int]
  generalize 2 ^ e = z at *
  omega

def AtInv (k r e k2 r2 s2 : Nat) : Prop := (∃ q, s2 = 2 ^ e * q) ∧ s2 + unr e k2 r2 = unr 16 k r

end Go.Proofs.Ytlepgeipcofapaa
