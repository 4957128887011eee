/-
  orbits.Group: the whole group, in order, in memory of the call's own.
-/
import Derived.Test.YtbcjfiobggggjaaOrbS
import Derived.Test.YtbcjfiobggggjaaOrbA
import Derived.Test.YtbcjfiobggggjaaRankB
import Derived.Deep.WholeRow
namespace Go.Proofs.Ytbcjfiobggggjaa
open Go.RowKit

/-! ### What the search keeps -/
structure Bfs (n : Nat) (l T : List (List Int)) (i : Nat) : Prop where
  one : iota n ∈ T
  gen : ∀ p, p ∈ T → Gen n l p
  inj : T.Pairwise (fun a b => rk a ≠ rk b)
  closed : ∀ j, j < i → ∀ g, g ∈ l → times g (T.getD j []) ∈ T

structure BfsIn (n : Nat) (l T : List (List Int)) (i t : Nat) : Prop where
  base : Bfs n l T i
  lt : i < T.length
  some : ∀ s, s < t → times (l.getD s []) (T.getD i []) ∈ T

section
variable {n : Nat} {l T : List (List Int)} {i t : Nat}

theorem Bfs.start (n : Nat) (l : List (List Int)) : Bfs n l [iota n] 0 :=
  ⟨by simp, fun p hp => by rw [List.mem_singleton.1 hp]; exact .one, by simp, fun j hj => absurd hj (Nat.not_lt_zero _)⟩
theorem Bfs.len (h : Bfs n l T i) (hl : Orders n l) : T.length ≤ fact n := by
  have := length_le_of_nodup (l := T.map rk) (n := fact n) (by
    rw [List.nodup_iff_pairwise_ne, List.pairwise_map]
    exact h.inj) (fun x hx => by
    obtain ⟨p, hp, rfl⟩ := List.mem_map.1 hx
    have := rk_lt p
    rwa [((h.gen p hp).ok hl).1] at this)
  simpa using this
theorem Bfs.enter (h : Bfs n l T i) (hi : i < T.length) : BfsIn n l T i 0 := ⟨h, hi, fun _ hs => absurd hs (Nat.not_lt_zero _)⟩
theorem getD_mem_rows {L : List (List Int)} {j : Nat} (hj : j < L.length) : L.getD j [] ∈ L := by
  rw [List.getD_eq_getElem?_getD, List.getElem?_eq_getElem hj]
  exact List.getElem_mem hj
theorem mem_rows_getD {L : List (List Int)} {x : List Int} (h : x ∈ L) : ∃ j, j < L.length ∧ L.getD j [] = x := by
  obtain ⟨j, hj, e⟩ := List.getElem_of_mem h
  exact ⟨j, hj, by rw [List.getD_eq_getElem?_getD, List.getElem?_eq_getElem hj]; exact e⟩
theorem BfsIn.leave (h : BfsIn n l T i l.length) : Bfs n l T (i + 1) :=
  ⟨h.base.one, h.base.gen, h.base.inj, fun j hj g hg => by
    by_cases e : j < i
    · exact h.base.closed j e g hg
    · have : j = i := by omega
      subst this
      obtain ⟨s, hs, rfl⟩ := mem_rows_getD hg
      exact h.some s hs⟩
/-- The next product. -/
theorem BfsIn.prod (h : BfsIn n l T i t) (ht : t < l.length) : Gen n l (times (l.getD t []) (T.getD i [])) := .step (getD_mem_rows ht) (h.base.gen _ (getD_mem_rows h.lt))
theorem BfsIn.old (h : BfsIn n l T i t) (hl : Orders n l) (ht : t < l.length) (hin : rk (times (l.getD t []) (T.getD i [])) ∈ T.map rk) : BfsIn n l T i (t + 1) := by
  refine ⟨h.base, h.lt, fun s hs => ?_⟩
  by_cases e : s < t
  · exact h.some s e
  · have : s = t := by omega
    subst this
    obtain ⟨q, hq, hr⟩ := List.mem_map.1 hin
    have hP := (h.prod ht).ok hl
    have hQ := (h.base.gen q hq).ok hl
    rw [← rk_inj (hQ.2.perm hP.2 (hQ.1.trans hP.1.symm)) hr]
    exact hq
theorem BfsIn.new (h : BfsIn n l T i t) (ht : t < l.length) (hin : rk (times (l.getD t []) (T.getD i [])) ∉ T.map rk) : BfsIn n l (T ++ [times (l.getD t []) (T.getD i [])]) i (t + 1) := by
  have hg : ∀ j, j < T.length → (T ++ [times (l.getD t []) (T.getD i [])]).getD j [] = T.getD j [] := fun j hj => by
    rw [List.getD_eq_getElem?_getD, List.getElem?_append_left hj, ← List.getD_eq_getElem?_getD]
  refine ⟨⟨by simp [h.base.one], fun p hp => ?_, ?_, fun j hj g hgl => ?_⟩, by rw [List.length_append]; have := h.lt; omega, fun s hs => ?_⟩
  · rcases List.mem_append.1 hp with h1 | h1
    · exact h.base.gen p h1
    · rw [List.mem_singleton.1 h1]
      exact h.prod ht
  · rw [List.pairwise_append]
    refine ⟨h.base.inj, by simp, fun a ha b hb e => ?_⟩
    rw [List.mem_singleton.1 hb] at e
    exact hin (List.mem_map.2 ⟨a, ha, e⟩)
  · rw [hg j (by have := h.lt; omega)]
    exact List.mem_append_left _ (h.base.closed j hj g hgl)
  · rw [hg i h.lt]
    by_cases e : s < t
    · exact List.mem_append_left _ (h.some s e)
    · have : s = t := by omega
      subst this
      simp
theorem Bfs.done (h : Bfs n l T T.length) (hl : Orders n l) {T' : List (List Int)} (hp : T'.Perm T) (hr : Rising T') : GroupOf n l T' := by
  have hm : ∀ p, p ∈ T' ↔ p ∈ T := fun p => hp.mem_iff
  refine ⟨?_, fun p => (hm p).trans ⟨h.gen p, fun hg => ?_⟩⟩
  · have hi : T'.Pairwise (fun a b => rk a ≠ rk b) := (hp.pairwise_iff (fun {a b} (hab : rk a ≠ rk b) => Ne.symm hab)).2 h.inj
    refine List.Pairwise.imp_of_mem ?_ (hi.and hr)
    intro a b ha hb hab
    have hA := (h.gen a ((hm a).1 ha)).ok hl
    have hB := (h.gen b ((hm b).1 hb)).ok hl
    have h1 := hab.1
    have h2 := hab.2
    rw [cmp_lt (hB.2.perm hA.2 (hB.1.trans hA.1.symm))] at h2
    omega
  · refine Gen.sub (G := fun p => p ∈ T) h.one (fun g p hgl hpT => ?_) hg
    obtain ⟨j, hj, rfl⟩ := mem_rows_getD hpT
    exact h.closed j hj g hgl
end

/-! ### Blocks of other kinds -/
theorem row_ne_own {w : World} {b t m base e s n : Nat} {f : Nat → Value} {v : Value} {xs : List Value} (hr : w.rowIs b t m f) (ho : w.ownsRow base e s v n xs) (hne : e ≠ t) : v.ownBlock ≠ some b := by
  obtain ⟨c, h1, _⟩ := hr
  rcases ho.2 with ⟨rfl, _⟩ | ⟨g, cap, cur, rfl, _, hh, _⟩
  · simp [Value.ownBlock]
  · simp only [Value.ownBlock, ne_eq, Option.some.injEq]
    intro e9
    rw [e9, h1] at hh
    injection hh with hh
    injection hh with _ hh
    exact hne hh.symm
theorem own_row {w w' : World} {b t m base e s n : Nat} {f : Nat → Value} {v : Value} {xs : List Value} (ho : w.ownsRow base e s v n xs) (hr : w.rowIs b t m f) (hne : e ≠ t) (hg : w.grownBy w' (some b)) : w'.ownsRow base e s v n xs := by
  refine World.ownsRow.kept ho hg ?_
  have := row_ne_own hr ho hne
  rcases hv : v.ownBlock with _ | k
  · exact .inl rfl
  · right
    rw [hv] at this
    exact fun e => this e
theorem BRows.row {w w' : World} {b t m base : Nat} {f : Nat → Value} {v : Value} {T : List (List Int)} (h : BRows w base v T) (hr : w.rowIs b t m f) (h1 : 23 ≠ t) (h2 : 3 ≠ t) (hg : w.grownBy w' (some b)) : BRows w' base v T := by
  obtain ⟨vals, hl, ho, hv⟩ := h
  exact ⟨vals, hl, own_row ho hr h1 hg, fun j hj => own_row (hv j hj) hr h2 hg⟩
theorem rowIs_kept {w w' : World} {b t m base : Nat} {f : Nat → Value} {v : Value} {T : List (List Int)} (hr : w.rowIs b t m f) (h : BRows w base v T) (hne : 23 ≠ t) (hg : w.grownBy w' v.ownBlock) : w'.rowIs b t m f := by
  obtain ⟨vals, hl, ho, hv⟩ := h
  exact World.rowIs.of_block hr (hg.block b (World.rowIs.lt hr) (fun e => row_ne_own hr ho hne e.symm))

/-! ### The walk -/
/-- Found: the numbers of the orders that are there. -/
def fndB (T : List (List Int)) (j : Nat) : Value := .bool (decide (j ∈ T.map rk))
theorem fndB_step {T : List (List Int)} {p : List Int} (j : Nat) : (if j = rk p then Value.bool true else fndB T j) = fndB (T ++ [p]) j := by
  unfold fndB
  by_cases e : j = rk p
  · subst e
    simp
  · rw [if_neg e]
    congr 1
    simp [e]
def zero720 : Array Value := Array.replicate 720 (.bool false)
theorem zero_found : (∀ w, (zeroValue 67).run Try.prog w = .ok (.agg zero720) w) ∧ (Try.prog.info? 67).map (·.size) = some 720 :=
  zero_of_info (by kernel_rfl)
theorem found_start (w : World) (n : Nat) : (w.alloc (.cells (zero720.setIfInBounds 0 (.bool true)) 67)).rowIs w.heap.size 67 720 (fndB [iota n]) := by
  have hs : (zero720.setIfInBounds 0 (.bool true)).size = 720 := by simp [zero720]
  have h := World.rowIs_alloc w (zero720.setIfInBounds 0 (.bool true)) 67 (fndB [iota n]) (fun i hi => by
    have hi' : i < 720 := by rw [hs] at hi; exact hi
    have hr : rk (iota n) = 0 := rk_rises (sorted_iotaP n)
    unfold fndB
    rw [Array.getElem?_setIfInBounds]
    by_cases e : i = 0
    · subst e
      simp [hr, zero720]
    · rw [if_neg (fun h => e h.symm)]
      simp [hr, zero720, e, hi'])
  rw [hs] at h
  exact h

/-- The group comes back. -/
def RetGroup (w : World) (k : Nat) (L : List (List Int)) (e : Ending) (w' : World) : Prop := ∃ v T, e = .returned (.tuple #[v, .int .i64 0]) ∧ GroupOf k L T ∧ BRows w' w.heap.size v T ∧ Below w.heap.size w w'

end Go.Proofs.Ytbcjfiobggggjaa
