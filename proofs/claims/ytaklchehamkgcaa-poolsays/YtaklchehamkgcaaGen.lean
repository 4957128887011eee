/-
  Several slices known at once; what a law over lists takes and gives.
-/
import Derived.Test.YtaklchehamkgcaaLit
import Derived.Test.YtaklchehamkgcaaGood
import Derived.Test.YtaklchehamkgcaaEqual
import Derived.Test.YtaklchehamkgcaaSmall
namespace Go.Proofs.Ytaklchehamkgcaa
open Go.RowKit

/-- All of these slices are known in the world w. -/
def All (w : World) : List (Option Addr × Nat × List Int) → Prop
  | [] => True
  | x :: L => Ints w x.1 x.2.1 x.2.2 ∧ All w L

theorem All.keep {w w' : World} (hb : Below w.heap.size w w') : ∀ {L : List (Option Addr × Nat × List Int)}, All w L → All w' L
  | [], _ => trivial
  | _ :: _, h => ⟨h.1.keep hb, All.keep hb h.2⟩

/-- A slice of ints that came in. -/
def IsRow (k : IntKind) (w : World) (a : Option Addr) (len cap : Nat) (zs : List Int) : Prop :=
  (a = none ∧ len = 0 ∧ cap = 0 ∧ zs = []) ∨
  ∃ x, a = some x ∧ len ≤ cap ∧ cap ≤ maxLen ∧ zs.length = cap ∧ (∀ i, i < zs.length → w.cell? (x.add i) = some (.int k (zs.getD i 0))) ∧ ∀ n ∈ zs, (Lit.int k n).wf = true

theorem block_lt_of_cell {w : World} {a : Addr} {v : Value} (h : w.cell? a = some v) : a.block < w.heap.size := World.block_lt_of_cell? w a h

theorem IsRow.ints {w : World} {a : Option Addr} {len cap : Nat} {zs : List Int} (h : IsRow .i64 w a len cap zs) : Ints w a len (zs.take len) ∧ len ≤ cap ∧ cap ≤ maxLen := by
  rcases h with ⟨rfl, rfl, rfl, rfl⟩ | ⟨⟨b, off, sp⟩, rfl, hl, hm, hz, hcell, _⟩
  · exact ⟨Ints.nil _ _, Nat.le_refl _, Nat.zero_le _⟩
  · refine ⟨⟨by rw [List.length_take]; omega, fun hp => ?_⟩, hl, hm⟩
    have h0 := hcell 0 (by omega)
    have hsp : sp = none := by simpa [Addr.add] using World.cell?_spot h0
    subst hsp
    refine ⟨b, off, rfl, ?_, fun j hj => ?_⟩
    · have := block_lt_of_cell h0
      simpa [Addr.add] using this
    · have h1 := hcell j (by omega)
      have ha : (⟨b, off, none⟩ : Addr).add j = ⟨b, off + j, none⟩ := by unfold Addr.add; split <;> simp_all
      rw [ha] at h1
      rw [h1]
      simp [List.getD_eq_getElem?_getD, hj]

/-- min(x, y, 10). -/
theorem run_min3 {P : Program} (x y m : Nat) (hm : m = min (min x y) 10) (ts : Array TypeId) (t : TypeId) (W : World) :
    (Builtin.min_ ts t #[.int .i64 (x : Int), .int .i64 (y : Int), .int .i64 10]).run P W = .ok (.int .i64 (m : Int)) W := by
  have e : (if (10 : Int) < (if (y : Int) < x then (y : Int) else x) then (10 : Int) else (if (y : Int) < x then (y : Int) else x)) = (m : Int) := by
    subst hm
    split <;> split at * <;> omega
  simp only [Builtin.min_, Builtin.min2, List.foldlM_cons, List.foldlM_nil, pure_bind]
  simp only [e]
  rfl

/-- min(x, y, z, 10). -/
theorem run_min4 {P : Program} (x y z m : Nat) (hm : m = min (min (min x y) z) 10) (ts : Array TypeId) (t : TypeId) (W : World) :
    (Builtin.min_ ts t #[.int .i64 (x : Int), .int .i64 (y : Int), .int .i64 (z : Int), .int .i64 10]).run P W = .ok (.int .i64 (m : Int)) W := by
  have e1 : (if (z : Int) < (if (y : Int) < x then (y : Int) else x) then (z : Int) else (if (y : Int) < x then (y : Int) else x)) = ((min (min x y) z : Nat) : Int) := by
    split <;> split at * <;> omega
  have e : (if (10 : Int) < ((min (min x y) z : Nat) : Int) then (10 : Int) else ((min (min x y) z : Nat) : Int)) = (m : Int) := by
    subst hm
    split <;> omega
  simp only [Builtin.min_, Builtin.min2, List.foldlM_cons, List.foldlM_nil, pure_bind]
  simp only [e1, e]
  rfl

theorem equal_bel (A1 : Option Addr) (n c : Nat) (A2 : Option Addr) (m d : Nat) (xs ys : List Int) (w : World) (h1 : Ints w A1 n xs) (h2 : Ints w A2 m ys) (hn : n ≤ 1000000) (hm : m ≤ 1000000) :
    Calls Try.prog 24 #[.slice A1 n c, .slice A2 m d] w fun e w' => e = .returned (.bool (decide (xs = ys))) ∧ Below w.heap.size w w' :=
  (equal_any A1 n c A2 m d xs ys w h1 h2 hn hm).mono fun _ _ ⟨he, q, hq⟩ => ⟨he, by rw [hq]; exact below_drewN (Below.refl _ _) q⟩

theorem good_bel (w : World) (cs : Array Value) (t n : Nat) (l : List Int) (h : cs = (l.map (Value.int .i64)).toArray) (hn : l.length = n) (hs : n ≤ 1000000) :
    Calls Try.prog 21 #[.slice (some ⟨w.heap.size, 0, none⟩) n n] (w.alloc (.cells cs t)) fun e w' => e = .returned (.bool (allOK l)) ∧ Below w.heap.size w w' :=
  (good_any _ n n l _ (ints_lit w cs t n l h hn) hs).mono fun _ _ ⟨he, hw⟩ => ⟨he, by rw [← hw]; exact below_alloc _ _⟩

end Go.Proofs.Ytaklchehamkgcaa
