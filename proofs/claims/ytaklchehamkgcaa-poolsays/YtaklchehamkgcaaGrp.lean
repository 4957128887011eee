/-
  Plain facts on composing and undoing permutations given as lists.
-/
import Derived.Test.YtaklchehamkgcaaRst
import Derived.Test.YtaklchehamkgcaaDeal
import Derived.Test.YtaklchehamkgcaaInverse
import Derived.Test.YtaklchehamkgcaaSmall
namespace Go.Proofs.Ytaklchehamkgcaa

theorem IsPerm.nat {p : List Int} (h : IsPerm p) {i : Nat} (hi : i < p.length) : ∃ j : Nat, j < p.length ∧ p.getD i 0 = (j : Int) := by
  have := h.range (getD_mem hi)
  exact ⟨(p.getD i 0).toNat, by omega, by omega⟩
theorem IsPerm.pre {p : List Int} (h : IsPerm p) {j : Nat} (hj : j < p.length) : ∃ i : Nat, i < p.length ∧ p.getD i 0 = (j : Int) := mem_getD (h.all j hj)

theorem isPerm_times {a b : List Int} (ha : IsPerm a) (hb : IsPerm b) (hl : a.length = b.length) : IsPerm (times a b) :=
  isPerm_of_all fun k hk => by
    rw [length_times] at hk
    obtain ⟨i, hi, ei⟩ := ha.pre (show k < a.length by omega)
    obtain ⟨j, hj, ej⟩ := hb.pre (show i < b.length by omega)
    have : (times a b).getD j 0 = (k : Int) := by rw [getD_times hj, ej, Int.toNat_natCast, ei]
    rw [← this]
    exact getD_mem (by rw [length_times]; exact hj)

theorem times_assoc {a b c : List Int} (hc : IsPerm c) (hl : b.length = c.length) : times (times a b) c = times a (times b c) := by
  apply ext_getD (by simp [length_times])
  intro j hj
  rw [length_times] at hj
  obtain ⟨i, hi, ei⟩ := hc.nat hj
  have h1 : (times a (times b c)).getD j 0 = a.getD ((times b c).getD j 0).toNat 0 := getD_times (by rw [length_times]; exact hj)
  rw [h1, getD_times (a := times a b) hj, getD_times (a := b) hj, ei, Int.toNat_natCast, getD_times (by omega)]

theorem IsInv.isPerm {p q : List Int} (h : IsInv p q) (hp : IsPerm p) : IsPerm q :=
  isPerm_of_all fun k hk => by
    rw [h.1] at hk
    obtain ⟨j, hj, ej⟩ := hp.nat hk
    have := h.2 k hk
    rw [ej, Int.toNat_natCast] at this
    rw [← this]
    exact getD_mem (by rw [h.1]; exact hj)

theorem IsInv.right {p q : List Int} (h : IsInv p q) (hp : IsPerm p) : times p q = iota p.length := by
  apply ext_getD (by rw [length_times, length_iota, h.1])
  intro j hj
  rw [length_times, h.1] at hj
  obtain ⟨i, hi, ei⟩ := hp.pre hj
  have := h.2 i hi
  rw [ei, Int.toNat_natCast] at this
  rw [getD_times (by rw [h.1]; exact hj), this, Int.toNat_natCast, ei, getD_iota hj]
theorem IsInv.left {p q : List Int} (h : IsInv p q) : times q p = iota p.length := by
  apply ext_getD (by rw [length_times, length_iota])
  intro j hj
  rw [length_times] at hj
  rw [getD_times hj, h.2 j hj, getD_iota hj]
theorem IsInv.unique {p q r : List Int} (h : IsInv p q) (k : IsInv p r) (hp : IsPerm p) : q = r := by
  apply ext_getD (by rw [h.1, k.1])
  intro j hj
  rw [h.1] at hj
  obtain ⟨i, hi, ei⟩ := hp.pre hj
  have h1 := h.2 i hi
  have h2 := k.2 i hi
  rw [ei, Int.toNat_natCast] at h1 h2
  rw [h1, h2]
theorem IsInv.times {a b va vb : List Int} (ha : IsInv a va) (hb : IsInv b vb) (hpb : IsPerm b) (hpa : IsPerm a) (hl : a.length = b.length) : IsInv (times a b) (times vb va) := by
  refine ⟨by rw [length_times, length_times, ha.1, hl], fun i hi => ?_⟩
  rw [length_times] at hi
  obtain ⟨j, hj, ej⟩ := hpb.nat hi
  obtain ⟨k, hk, ek⟩ := hpa.nat (show j < a.length by omega)
  have h1 := ha.2 j (by omega)
  have h2 := hb.2 i hi
  rw [ek, Int.toNat_natCast] at h1
  rw [ej, Int.toNat_natCast] at h2
  rw [getD_times hi, ej, Int.toNat_natCast, ek, Int.toNat_natCast, getD_times (by rw [ha.1]; exact hk), h1, Int.toNat_natCast, h2]

theorem sorted_iota (n : Nat) : sortedB (iota n) = true := sortedB_true.2 fun i hi => by
  rw [length_iota] at hi
  rw [getD_iota (by omega), getD_iota hi]
  omega

end Go.Proofs.Ytaklchehamkgcaa
