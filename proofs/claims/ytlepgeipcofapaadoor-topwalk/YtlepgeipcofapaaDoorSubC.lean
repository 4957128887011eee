/-
  package subset: Size, Of, At.
-/
import Derived.Test.YtlepgeipcofapaaDoorSubB
namespace Go.Proofs.YtlepgeipcofapaaDoor
open Go.RowKit

theorem wrap_pow16 {e : Nat} (h : e < 16) : IntKind.u16.wrap ((2 : Int) ^ e) = ((2 ^ e : Nat) : Int) := by
  have h1 : 2 ^ e < 2 ^ 16 := Nat.pow_lt_pow_right (by omega) h
  rw [IntKind.wrap_u16, pow_int]
  generalize 2 ^ e = z at *
  omega
theorem wrap_pow32 {e : Nat} (h : e < 32) : IntKind.u32.wrap ((2 : Int) ^ e) = ((2 ^ e : Nat) : Int) := by
  have h1 : 2 ^ e < 2 ^ 32 := Nat.pow_lt_pow_right (by omega) h
  rw [IntKind.wrap_u32', pow_int]
  generalize 2 ^ e = z at *
  omega

set_option maxHeartbeats 400000 in
theorem size_any (s : Nat) (w : World) (hs : s < 65536) :
    Calls Tryd.prog 10 #[.int .u16 (s : Int)] w fun e w' => e = .returned (.int .i64 ((ones s : Nat) : Int)) ∧ Below w.heap.size w w' := by
  go_enter Tryd.func10, Tryd.ntmps10
  go_wp2_with fail
  refine (onesCount16_any s _ hs).mono ?_
  rintro e w' ⟨rfl, hb⟩
  have HB := hid hb
  clear hb
  go_wp2
  go_ret
  exact ⟨rfl, HB.out⟩

def AtInv (k r e k2 r2 s2 : Nat) : Prop := (∃ q, s2 = 2 ^ e * q) ∧ s2 + unr e k2 r2 = unr 16 k r

end Go.Proofs.YtlepgeipcofapaaDoor
