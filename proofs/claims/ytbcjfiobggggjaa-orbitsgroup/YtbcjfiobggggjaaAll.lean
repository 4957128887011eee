/-
  Several slices known at once; what a law over permutations takes and gives.
-/
import Derived.Test.YtbcjfiobggggjaaGen
import Derived.Test.YtbcjfiobggggjaaPerms
import Derived.Test.YtbcjfiobggggjaaGrp
namespace Go.Proofs.Ytbcjfiobggggjaa
open Go.RowKit

theorem permErr_of {p : List Int} (h : IsPerm p) (hl : p.length ≤ 10) : permErr p = 0 := permErr_ok.2 ⟨hl, h⟩

/-- A permutation of m numbers comes back, in new memory. -/
def RetPerm (w : World) (m : Nat) (e : Ending) (w' : World) : Prop := ∃ A c p, e = .returned (.slice A m c) ∧ IsPerm p ∧ Ints w' A m p ∧ Cap m c ∧ Below w.heap.size w w'

theorem permOf_perm (A : Option Addr) (n c m : Nat) (xs : List Int) (w : World) (h : Ints w A n xs) (hc : n ≤ c) (hm : m ≤ n) (hm2 : m ≤ 10) :
    Calls Try.prog 55 #[.slice A n c, .int .i64 (m : Int)] w (RetPerm w m) := by
  refine (permOf_any A n c m xs w h hc (by omega) m (by omega)).mono ?_
  rintro e w' ⟨v, rfl, hown, hb⟩
  obtain ⟨A', c', rfl, hI, hcap⟩ := hown.ints
  have hl : (dealt (lotsOf (xs.take m))).length = m := by rw [length_dealt, length_lotsOf, List.length_take, h.len]; omega
  rw [hl] at hI hcap ⊢
  exact ⟨A', c', _, rfl, isPerm_dealt (isLots_lotsOf _), hI, hcap, hb⟩

/-- PermOf(x, api.MaxPerm). -/
theorem permOf_ten (A : Option Addr) (n c m : Nat) (xs : List Int) (w : World) (h : Ints w A n xs) (hc : n ≤ c) (hm : m = min n 10) :
    Calls Try.prog 55 #[.slice A n c, .int .i64 10] w (RetPerm w m) := by
  refine (permOf_any A n c m xs w h hc (by omega) 10 (by omega)).mono ?_
  rintro e w' ⟨v, rfl, hown, hb⟩
  obtain ⟨A', c', rfl, hI, hcap⟩ := hown.ints
  have hl : (dealt (lotsOf (xs.take m))).length = m := by rw [length_dealt, length_lotsOf, List.length_take, h.len]; omega
  rw [hl] at hI hcap ⊢
  exact ⟨A', c', _, rfl, isPerm_dealt (isLots_lotsOf _), hI, hcap, hb⟩

/-- A list of n numbers comes back with OK. -/
def RetP (w : World) (n : Nat) (ys : List Int) (e : Ending) (w' : World) : Prop := ∃ A c, e = .returned (.tuple #[.slice A n c, .int .i64 0]) ∧ Ints w' A n ys ∧ Cap n c ∧ Below w.heap.size w w'

theorem times_perm (A : Option Addr) (n c : Nat) (B : Option Addr) (d : Nat) (a b : List Int) (w : World) (hA : Ints w A n a) (hB : Ints w B n b) (ha : IsPerm a) (hb : IsPerm b) (hn : n ≤ 10) :
    Calls Try.prog 24 #[.slice A n c, .slice B n d] w (RetP w n (times a b)) := by
  refine (times_ok A n c B d a b w hA hB (permErr_of ha (by rw [hA.len]; exact hn)) (permErr_of hb (by rw [hB.len]; exact hn))).mono ?_
  rintro e w' ⟨A', n', c', rfl, hbel, hI, hcap⟩
  have : n' = n := by rw [← hI.len, length_times, hB.len]
  subst this
  exact ⟨A', c', rfl, hI, hcap, hbel⟩

def RetPInv (w : World) (n : Nat) (p : List Int) (e : Ending) (w' : World) : Prop := ∃ q, IsInv p q ∧ RetP w n q e w'

theorem inverse_perm (A : Option Addr) (n c : Nat) (p : List Int) (w : World) (hA : Ints w A n p) (hp : IsPerm p) (hn : n ≤ 10) :
    Calls Try.prog 25 #[.slice A n c] w (RetPInv w n p) := by
  refine (inverse_ok A n c p w hA (permErr_of hp (by rw [hA.len]; exact hn))).mono ?_
  rintro e w' ⟨q, hq, A', n', c', rfl, hbel, hI, hcap⟩
  have : n' = n := by rw [← hI.len, hq.1, hA.len]
  subst this
  exact ⟨q, hq, A', c', rfl, hI, hcap, hbel⟩

/-! The same contracts, the world told by 'Below' alone. -/
end Go.Proofs.Ytbcjfiobggggjaa
