/-
  Numbers of a slice that came in: within their kind's bounds.
-/
import Derived.Test.YtdcmknnmdiocdaaGen
namespace Go.Proofs.Ytdcmknnmdiocdaa
open Go.RowKit

theorem IsRow.bounds {w : World} {a : Option Addr} {len cap : Nat} {zs : List Int} (h : IsRow .i64 w a len cap zs) : ∀ y ∈ zs.take len, -9223372036854775808 ≤ y ∧ y ≤ 9223372036854775807 := by
  intro y hy
  have hz := List.mem_of_mem_take hy
  rcases h with ⟨_, _, _, rfl⟩ | ⟨x, _, _, _, _, _, hw⟩
  · cases hz
  · have := hw y hz
    simp [Lit.wf, IntKind.min, IntKind.max, IntKind.bits, IntKind.signed] at this
    omega

theorem xor64_inj {a b k : Int} (ha : -9223372036854775808 ≤ a ∧ a ≤ 9223372036854775807) (hb : -9223372036854775808 ≤ b ∧ b ≤ 9223372036854775807) : bits .xor .i64 a k = bits .xor .i64 b k ↔ a = b := by
  constructor
  · intro h
    have h' : IntKind.i64.wrap ((BitVec.ofInt 64 a ^^^ BitVec.ofInt 64 k).toNat : Int) = IntKind.i64.wrap ((BitVec.ofInt 64 b ^^^ BitVec.ofInt 64 k).toNat : Int) := h
    have l1 := (BitVec.ofInt 64 a ^^^ BitVec.ofInt 64 k).isLt
    have l2 := (BitVec.ofInt 64 b ^^^ BitVec.ofInt 64 k).isLt
    have e : (BitVec.ofInt 64 a ^^^ BitVec.ofInt 64 k).toNat = (BitVec.ofInt 64 b ^^^ BitVec.ofInt 64 k).toNat := by
      generalize (BitVec.ofInt 64 a ^^^ BitVec.ofInt 64 k).toNat = X at *
      generalize (BitVec.ofInt 64 b ^^^ BitVec.ofInt 64 k).toNat = Y at *
      simp [IntKind.wrap, IntKind.bits, IntKind.signed] at h'
      omega
    have e2 := BitVec.eq_of_toNat_eq e
    have e3 : BitVec.ofInt 64 a = BitVec.ofInt 64 b := by
      have := congrArg (· ^^^ BitVec.ofInt 64 k) e2
      simpa [BitVec.xor_assoc] using this
    have e4 := congrArg BitVec.toInt e3
    rw [BitVec.toInt_ofInt, BitVec.toInt_ofInt] at e4
    simp [Int.bmod] at e4
    omega
  · intro h
    rw [h]

end Go.Proofs.Ytdcmknnmdiocdaa
