/-
  As many stay as there are cycles of one.
-/
import Derived.Test.YtebhlmcenkgolaaDerB
import Derived.Test.YtebhlmcenkgolaaCycT
namespace Go.Proofs.Ytebhlmcenkgolaa
open Go.RowKit

theorem per_one {p : List Int} (h : IsPerm p) {i : Nat} (hi : i < p.length) : decide (p.getD i 0 = (i : Int)) = decide (per p i = 1) := by
  have h1 := per_spec h hi
  have h2 := h.range (getD_mem hi)
  have e1 : it p 1 i = nx p i := rfl
  have e2 : nx p i = (p.getD i 0).toNat := rfl
  rw [decide_eq_decide]
  constructor
  · intro e
    rcases Nat.lt_or_ge 1 (per p i) with hlt | hge
    · refine absurd ?_ (h1.2.2.2 1 (Nat.le_refl _) hlt)
      rw [e1, e2, e, Int.toNat_natCast]
    · omega
  · intro e
    have h3 := h1.2.2.1
    rw [e, e1, e2] at h3
    omega
theorem ownN_count {p : List Int} (h : IsPerm p) : ownN p = (cycL p p.length).count (1 : Int) := by
  have := tot_all h 1
  rw [Nat.one_mul] at this
  rw [show ((1 : Int)) = ((1 : Nat) : Int) from rfl, ← this]
  unfold ownN ownK
  apply countP_congr'
  intro x hx
  exact per_one h (List.mem_range.1 hx)
theorem ownN_inv {p q : List Int} (h : IsInv p q) (hp : IsPerm p) : ownN q = ownN p := by
  rw [ownN_count hp, ownN_count (h.isPerm hp), (cycL_inv h hp).count_eq]
theorem ownN_conj {a b vb : List Int} (ha : IsPerm a) (hb : IsPerm b) (hv : IsInv b vb) (hl : a.length = b.length) : ownN (times b (times a vb)) = ownN a := by
  have hpv := hv.isPerm hb
  have hp1 : IsPerm (times a vb) := isPerm_times ha hpv (by rw [hv.1, hl])
  have hp2 : IsPerm (times b (times a vb)) := isPerm_times hb hp1 (by rw [length_times, hv.1])
  rw [ownN_count ha, ownN_count hp2, (cycL_conj ha hb hv hl).count_eq]
theorem ownN_cycles {p c : List Int} (hp : IsPerm p) (hc : IsCycles p c) : ownN p = c.count (1 : Int) := by
  rw [ownN_count hp, hc.1.count_eq]
theorem ownN_le (p : List Int) : ownN p ≤ p.length := ownK_le p _
theorem count_take_yes {c : List Int} {k : Nat} (hk : k < c.length) (h : c.getD k 0 = 1) : (c.take (k + 1)).count (1 : Int) = (c.take k).count 1 + 1 := by
  rw [take_snoc hk, List.count_append, h]
  rfl
theorem count_take_no {c : List Int} {k : Nat} (hk : k < c.length) (h : c.getD k 0 ≠ 1) : (c.take (k + 1)).count (1 : Int) = (c.take k).count 1 := by
  rw [take_snoc hk, List.count_append, List.count_singleton]
  simp only [beq_iff_eq, h, if_false, Nat.add_zero]
theorem own_perm (A : Option Addr) (n c : Nat) (p : List Int) (w : World) (hA : Ints w A n p) (hp : IsPerm p) (hn : n ≤ 10) :
    Calls Try.prog 9 #[.slice A n c] w fun e w' => e = .returned (.tuple #[.int .i64 ((ownN p : Nat) : Int), .int .i64 0]) ∧ Below w.heap.size w w' :=
  own_ok A n c p w hA (permErr_of hp (by rw [hA.len]; exact hn))

end Go.Proofs.Ytebhlmcenkgolaa
