/-
  math/bits: OnesCount16, OnesCount32, TrailingZeros16.
-/
import Derived.Test.YtlepgeipcofapaaDoorSubA
import Derived.Laws.BitsAllLaws
import Derived.Laws.BitsLemmas
import Derived.Lib.BitFns
namespace Go.Proofs.YtlepgeipcofapaaDoor
open Go.RowKit

theorem pop_onesF : ∀ f x, Lib.popAux f x = onesF f x
  | 0, _ => rfl
  | f + 1, x => by rw [Lib.popAux, onesF, pop_onesF f]
theorem pop8_ones {i : Nat} (h : i < 256) : Lib.pop8 (i : Int) = ((ones i : Nat) : Int) := by
  have h1 : i < 2 ^ 64 := by omega
  rw [Lib.pop8_eq ⟨i, h⟩, Lib.onesCount, pop_onesF, ones_of h1]
theorem ones_bytes {s : Nat} : ones s = ones (s / 256) + ones (s % 256) := by
  have := ones_split 8 (s / 256) (s % 256) (Nat.mod_lt _ (by omega))
  rw [← this]
  congr 1
  omega
theorem ones_8 {i : Nat} (h : i < 256) : ones i ≤ 8 := ones_le (n := 8) h

set_option maxRecDepth 100000 in
set_option maxHeartbeats 800000 in
theorem onesCount16_any (s : Nat) (w : World) (hs : s < 65536) :
    Calls Tryd.prog 20 #[.int .u16 (s : Int)] w fun e w' => e = .returned (.int .i64 ((ones s : Nat) : Int)) ∧ Below w.heap.size w w' := by
  have e1 : bits .and .u16 (s : Int) 255 = ((s % 256 : Nat) : Int) := by
    have := u16_and_nat s 255 hs (by omega)
    rwa [nat_mask8] at this
  have h1 : s % 256 < 256 := Nat.mod_lt _ (by omega)
  have hq0 : (0 : Int) ≤ (s : Int) / 256 := by omega
  have hq1 : (s : Int) / 256 ≤ 255 := by omega
  have hl0 : (0 : Int) ≤ ((s % 256 : Nat) : Int) := by omega
  have hl1 : ((s % 256 : Nat) : Int) ≤ 255 := by omega
  have HE : Hid ((Lib.pop8 ((s : Int) / 256) + Lib.pop8 ((s % 256 : Nat) : Int)) % 256 = ((ones s : Nat) : Int)) := by
    show (_ : Int) = _
    rw [show (s : Int) / 256 = ((s / 256 : Nat) : Int) by omega, pop8_ones (by omega), pop8_ones h1, ones_bytes (s := s)]
    have := ones_8 h1
    have := ones_8 (i := s / 256) (by omega)
    omega
  generalize s % 256 = lo at *
  go_enter Tryd.func20, Tryd.ntmps20
  go_wp2
  go_region
  all_goals
    go_wp2
    go_ret
    exact ⟨sret_int HE.out, (Below.refl _ _).drew⟩

/-- The table of TrailingZeros, as Go lays it. -/
def tzTab : List Int := [0, 1, 28, 2, 29, 14, 24, 3, 30, 22, 20, 15, 25, 17, 4, 8, 31, 27, 13, 23, 21, 19, 16, 7, 26, 12, 18, 6, 11, 5, 10, 9]
/-- The table lies in the world. -/
def Tab (w : World) : Prop := ∀ i, i < 32 → w.cell? ⟨0, i, none⟩ = some (.int .u8 (tzTab.getD i 0))
theorem Tab.keep {w w' : World} (h : Tab w) (hb : Below w.heap.size w w') : Tab w' := fun i hi =>
  (hb.cell (p := ⟨0, i, none⟩) (World.block_lt_of_cell? w _ (h i hi))).trans (h i hi)

set_option maxRecDepth 100000 in
set_option maxHeartbeats 800000 in
theorem tz_at (s m i t : Nat) (w : World) (hs : s < 65536) (h0 : 0 < s) (he : bits .and .u16 (s : Int) (IntKind.u16.wrap (-(s : Int))) = (m : Int)) (hm : m * 125613361 % 4294967296 / 134217728 = i) (hm2 : m < 65536) (hi : i < 32) (hc : w.cell? ⟨0, i, none⟩ = some (.int .u8 (t : Int))) (ht : t < 32) :
    Calls Tryd.prog 19 #[.int .u16 (s : Int)] w fun e w' => e = .returned (.int .i64 (t : Int)) ∧ w = w' := by
  have e1 : (m : Int) % 4294967296 = (m : Int) := by omega
  have e4 : (m : Int) * 125613361 % 4294967296 / 134217728 = (i : Int) := by rw [← hm]; simp [Int.natCast_ediv, Int.natCast_emod, Int.natCast_mul]
  clear hm
  have hne : ((s : Int) == 0) = false := by simp; omega
  go_enter Tryd.func19, Tryd.ntmps19
  go_wp2
  go_ret
  exact ⟨rfl, rfl⟩

theorem tz_tab : ∀ a : Fin 16, tzTab.getD (2 ^ a.val * 125613361 % 4294967296 / 134217728) 0 = (a.val : Int) ∧ 2 ^ a.val * 125613361 % 4294967296 / 134217728 < 32 := by decide +kernel

theorem trailingZeros16_any (a c : Nat) (w : World) (ht : Tab w) (hs : 2 ^ a * (2 * c + 1) < 65536) :
    Calls Tryd.prog 19 #[.int .u16 ((2 ^ a * (2 * c + 1) : Nat) : Int)] w fun e w' => e = .returned (.int .i64 (a : Int)) ∧ w = w' := by
  have hp : 0 < 2 ^ a * (2 * c + 1) := Nat.mul_pos (Nat.two_pow_pos a) (by omega)
  have hle : 2 ^ a ≤ 2 ^ a * (2 * c + 1) := Nat.le_mul_of_pos_right _ (by omega)
  have ha : a < 16 := (Nat.pow_lt_pow_iff_right (a := 2) (by omega)).1 (show 2 ^ a < 2 ^ 16 by omega)
  have he := Lib.and_neg 16 a c (by omega)
  obtain ⟨t1, t2⟩ := tz_tab ⟨a, ha⟩
  simp only at t1 t2
  have hc := ht _ t2
  rw [t1] at hc
  refine tz_at (2 ^ a * (2 * c + 1)) (2 ^ a) _ a w hs hp ?_ rfl (by omega) t2 hc (by omega)
  rw [IntKind.wrap_u16, show (-(((2 ^ a * (2 * c + 1) : Nat)) : Int)) % 65536 = ((2 ^ 16 - 2 ^ a * (2 * c + 1) : Nat) : Int) by omega, u16_and_nat _ _ (by omega) (by omega), he]

end Go.Proofs.YtlepgeipcofapaaDoor
