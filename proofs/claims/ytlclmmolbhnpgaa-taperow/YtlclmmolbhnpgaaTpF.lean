/-
  castkeep.bitsOf.
-/
import Derived.Test.YtlclmmolbhnpgaaTpC
namespace Go.Proofs.Ytlclmmolbhnpgaa
open Go.RowKit

theorem run_min2N {P : Program} (x y m : Nat) (hm : m = min x y) (ts : Array TypeId) (t : TypeId) (W : World) :
    (Builtin.min_ ts t #[.int .i64 (x : Int), .int .i64 (y : Int)]).run P W = .ok (.int .i64 (m : Int)) W := by
  have e : (if (y : Int) < x then (y : Int) else x) = (m : Int) := by
    subst hm
    split <;> omega
  simp only [Builtin.min_, Builtin.min2, List.foldlM_cons, List.foldlM_nil, pure_bind]
  simp only [e]
  rfl
/-- The bits that a law makes of bytes. -/
def bts (xs : List Nat) (m : Nat) : List Nat := (xs.take m).map (· % 2)
theorem bts_bin (xs : List Nat) (m : Nat) : Bin (bts xs m) := fun x hx => by
  obtain ⟨y, _, rfl⟩ := List.mem_map.1 hx
  show y % 2 ≤ 1
  omega
theorem bts_len (xs : List Nat) (m : Nat) : (bts xs m).length = min m xs.length := by rw [bts, List.length_map, List.length_take]
theorem bts_ok {xs : List Nat} {m : Nat} (h : m ≤ 200) : tapeErr (bts xs m) = 0 := tapeErr_ok (by rw [bts_len]; omega) (bts_bin xs m)
theorem bts_step {xs : List Nat} {k : Nat} (hk : k < xs.length) : bts xs (k + 1) = bts xs k ++ [xs.getD k 0 % 2] := by rw [bts, take_snocT hk, List.map_append]; rfl
/-- Bytes of the call's own come back. -/
def RetByts (w : World) (xs : List Nat) (e : Ending) (w' : World) : Prop := ∃ v, e = .returned v ∧ OwnByts w' w.heap.size v xs ∧ Below w.heap.size w w'

set_option maxHeartbeats 400000 in
theorem bitsOf_any (A : Option Addr) (n c : Nat) (xs : List Nat) (m : Nat) (w : World) (h : Byts w A n xs) (hc : Cap n c) (hm : m ≤ 1000) :
    Calls Try.prog 20 #[.slice A n c, .int .i64 (m : Int)] w (RetByts w (bts xs m)) := by
  obtain ⟨q, hq⟩ : ∃ q, q = min n m := ⟨_, rfl⟩
  have HL := hid h.len
  have hcap := hc
  unfold Cap at hcap
  have hmin := fun ts t W => run_min2N (P := Try.prog) n m q hq ts t W
  have HQ := hid hq
  have hqn : q ≤ n := by omega
  have hqm : q ≤ m := by omega
  clear hq
  have hto := fun W => run_toB A n c q (q : Int) rfl (by omega) W
  have HH := hid h
  clear h
  go_enter Try.func20, Try.ntmps20
  go_wp2
  clear hmin hto
  go_loopg [5, 15] q (fun g v sv wr => ∃ k : Nat, k ≤ q ∧ q - k ≤ g ∧ sv = .int .i64 (k : Int) ∧ OwnByts wr w.heap.size v (bts xs k) ∧ Below w.heap.size w wr)
  case atStart => exact ⟨0, by omega, by omega, rfl, OwnByts.nil _ _, Below.refl _ _⟩
  case round =>
    obtain ⟨k, hk, hg, rfl, ho, hb⟩ := hrel
    have HO := hid ho
    have HB := hid hb
    clear ho hb
    by_cases hlt : k < q
    · obtain ⟨b, o, rfl, hbb, hcc⟩ := HH.out.row (by omega)
      have g1 : wr.cell? ⟨b, o + k, none⟩ = some (.int .u8 ((xs.getD k 0 : Nat) : Int)) := (HB.out.cell (p := ⟨b, o + k, none⟩) hbb).trans (hcc k (by omega))
      have HS := hid (bts_step (xs := xs) (k := k) (by rw [HL.out]; omega))
      have HK : Hid ((bts xs k).length ≤ 1000000000000) := by rw [Hid, bts_len]; omega
      have hx := HH.out.get (j := k) (by omega)
      clear hcc
      generalize xs.getD k 0 = x at *
      have hr : (x : Int).tmod 2 = ((x % 2 : Nat) : Int) := by rw [Int.tmod_eq_emod_of_nonneg (by omega)]; omega
      have hx2 : x % 2 < 2 := Nat.mod_lt _ (by omega)
      go_wp2_with (at_builtin; refine wpList_appT _ _ rfl (.tmp 19) (.tmp 22) rfl w.heap.size _ (bts xs k) (x % 2) hr rfl rfl HO.out HK.out HB.out.size ?_)
      intro v' w1 ho1 hb1 _
      rw [← HS.out] at ho1
      have HO1 := hid ho1
      have HB1 := hid (HB.out.trans hb1)
      clear ho1 hb1
      go_wp2
      go_roundg (q - (k + 1))
      case measure => omega
      case rel => exact ⟨k + 1, by omega, by omega, by go_num, HO1.out, HB1.out⟩
    · obtain rfl : k = q := by omega
      have HE : Hid (bts xs k = bts xs m) := by
        rw [Hid, bts, bts, HQ.out]
        by_cases hnm : n ≤ m
        · rw [Nat.min_eq_left hnm, List.take_of_length_le (by rw [HL.out]; omega), List.take_of_length_le (by rw [HL.out]; omega)]
        · rw [Nat.min_eq_right (by omega)]
      rw [HE.out] at HO
      go_wp2
      go_ret
      exact ⟨_, rfl, HO.out, HB.out⟩
end Go.Proofs.Ytlclmmolbhnpgaa
