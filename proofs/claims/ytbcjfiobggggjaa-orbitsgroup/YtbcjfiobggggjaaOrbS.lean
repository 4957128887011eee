/-
  slices.SortFunc at rows by slices.Compare, however many: the rows in order.
-/
import Derived.Test.YtbcjfiobggggjaaOrbLay
import Derived.Test.YtbcjfiobggggjaaOrbR
import Derived.Test.YtbcjfiobggggjaaOrbM
import Derived.Sort.OwnSorted
namespace Go.Proofs.Ytbcjfiobggggjaa
open Go.RowKit Go.Sort

section
variable {α : Type} [Inhabited α] {enc : α → Value}

theorem heap_putV {w : World} {g n : Nat} {os : Array Obj} {cur : Array Value} {e : TypeId} {fr : Nat × Nat} (d : Array α) (hb : w.heap[g]? = some (.cells cur e fr)) :
    (Go.Sort.grow (putRow enc (Sort.ahead w n) g 0 d) os).heap[g]? = some (.cells (putCells enc 0 d cur) e fr) := by
  have hg : g < w.heap.size := (Array.getElem?_eq_some_iff.1 hb).1
  rw [heap_grow_old _ _ (by simpa using hg)]
  simp [putRow, mapBlock, Sort.ahead, Array.getElem?_modify, hb, onCells]
theorem grownBy_putV {w : World} {g n : Nat} {os : Array Obj} (d : Array α) : w.grownBy (Go.Sort.grow (putRow enc (Sort.ahead w n) g 0 d) os) (some g) := by
  refine ⟨rfl, rfl, rfl, by simp, fun k hk hne => ?_⟩
  rw [heap_grow_old _ _ (by simpa using hk)]
  have : g ≠ k := fun e => hne (by rw [e])
  simp [putRow, mapBlock, Sort.ahead, Array.getElem?_modify, this]
theorem take_putV (cur : Array Value) (d : Array α) (h : d.size ≤ cur.size) : (putCells enc 0 d cur).toList.take d.size = d.toList.map enc := by
  apply List.ext_getElem?
  intro j
  by_cases hj : j < d.size
  · rw [List.getElem?_take_of_lt hj, Array.getElem?_toList]
    simp [putCells, hj, show j < cur.size by omega]
  · rw [List.getElem?_take_eq_none (by omega), List.getElem?_eq_none (by simp; omega)]
end

/-- The rows, none of them behind a greater one. -/
def Rising (T : List (List Int)) : Prop := T.Pairwise (fun a b => ¬ cmpL b a < 0)

def RetSortR (w : World) (base : Nat) (v : Value) (T : List (List Int)) (e : Ending) (w' : World) : Prop := ∃ T', e = .returned (.tuple #[]) ∧ T'.Perm T ∧ Rising T' ∧ BRows w' base v T' ∧ w.grownBy w' v.ownBlock

/-- 'cmp(a, b) < 0' is a strict weak order. -/
theorem swoRows (R : Nat → List Int) : SWO (ltOf (fun i j => cmpL (R i) (R j))) where
  irrefl x := by
    show decide (cmpL (R x) (R x) < 0) = false
    rw [cmpL_self]
    rfl
  trans x y z h1 h2 := by
    unfold ltOf at *
    simp only [decide_eq_true_eq] at *
    exact cmpL_trans h1 h2
  ntrans x y z h1 h2 := by
    unfold ltOf at *
    simp only [decide_eq_false_iff_not] at *
    intro h3
    have s1 := cmpL_swap (R x) (R y)
    have s2 := cmpL_swap (R y) (R z)
    rcases Int.lt_trichotomy (cmpL (R y) (R x)) 0 with h | h | h
    · have := cmpL_trans h h3
      omega
    · rw [cmpL_eq h] at h2
      exact h2 h3
    · omega

theorem sortRows_any (base n : Nat) (v : Value) (T : List (List Int)) (w : World) (h : BRows w base v T) (h0 : 0 < T.length) (hN : T.length ≤ 1000000) (hn : n ≤ 1000000) (hT : ∀ j, j < T.length → (T.getD j []).length = n) :
    Calls Try.prog 44 #[v, .func (.func 29) #[] #[]] w (RetSortR w base v T) := by
  obtain ⟨vals, hl, ho, hv⟩ := h
  have ho' := ho
  rcases ho.2 with ⟨_, h9⟩ | ⟨g, cap, cur, rfl, hb, hg, h1, h2, h3, h4⟩
  · omega
  · rw [Nat.mul_one] at h3 h4
    have hgs := (Array.getElem?_eq_some_iff.1 hg).1
    let enc : Nat → Value := fun i => vals.getD (i % vals.length) (.slice none 0 0)
    let cf : Nat → Nat → Int := fun i j => cmpL (T.getD (i % vals.length) []) (T.getD (j % vals.length) [])
    let D : Array Nat := (List.range vals.length).toArray
    have hD : D.size = vals.length := by simp [D]
    have hDg : ∀ j, j < vals.length → D[j]! = j := by
      intro j hj
      simp [D, hj]
    have hHolds : Holds enc w g 0 D := by
      intro j hj
      rw [hD] at hj
      rw [hDg j hj, Nat.zero_add]
      refine ⟨?_, World.ownsRow.frozenAt ho' j⟩
      rw [World.ownsRow.cellAt ho' j (by omega)]
      show vals[j]? = some (vals.getD (j % vals.length) (.slice none 0 0))
      rw [Nat.mod_eq_of_lt hj, List.getD_eq_getElem?_getD, List.getElem?_eq_getElem (by omega)]
      rfl
    have h1c : OneCell enc := by
      intro i
      exact own_oneCell (hv (i % vals.length) (by rw [← hl]; exact Nat.mod_lt _ (by omega)))
    have hgrow : ∀ (m : Nat) (os : Array Obj) (dk : Array Nat), w.grownBy (sortWorld enc w g 0 m dk os) (Value.slice (some ⟨g, 0, none⟩) vals.length cap).ownBlock := fun m os dk => grownBy_putV dk
    have hcmp : CmpLays1 Try.prog 29 #[] enc cf g 0 D.size w := by
      intro m os dk _ x y
      have row : ∀ i, ∃ A c, enc i = .slice A n c ∧ Ints (sortWorld enc w g 0 m dk os) A n (T.getD (i % vals.length) []) := by
        intro i
        have hi : i % vals.length < T.length := by rw [← hl]; exact Nat.mod_lt _ (by omega)
        have := (hv _ hi).other ho' (hgrow m os dk)
        obtain ⟨A, c, e, hI, _⟩ := this.ints
        rw [hT _ hi] at e hI
        exact ⟨A, c, e, hI⟩
      obtain ⟨A1, c1, e1, hI1⟩ := row x
      obtain ⟨A2, c2, e2, hI2⟩ := row y
      rw [e1, e2]
      refine (compareL_any A1 n c1 A2 c2 _ _ _ hI1 hI2 hn).mono ?_
      rintro e w' ⟨rfl, rfl⟩
      exact ⟨rfl, 0, #[], by simp; rfl⟩
    have eg : ∀ args w, (callFunc 29 args).run Try.prog w = .ok (.enter 29 args) w := enters_of Try.func29 (by kernel_rfl) rfl
    have key := Any.slices_SortFunc laysn6 enc h1c cf (swoRows _) 29 #[] g 0 cap D w eg hcmp hHolds hgs (by omega)
    rw [hD] at key
    refine key.mono ?_
    rintro e w' ⟨rfl, d', n', os, hp, hs, rfl⟩
    obtain ⟨hp1, _, hp2⟩ := hp
    have hd's : d'.size = vals.length := hp1.trans hD
    have hperm : d'.toList.Perm (List.range vals.length) := by
      have e1 : d'.extract 0 vals.length = d' := by rw [← hd's]; simp
      have e2 : D.extract 0 vals.length = D := by rw [← hD]; simp
      rw [e1, e2] at hp2
      simpa [D] using hp2
    refine ⟨d'.toList.map (fun i => T.getD (i % vals.length) []), rfl, ?_, ?_, ?_, hgrow n' os d'⟩
    · have h5 := hperm.map (fun i => T.getD (i % vals.length) [])
      have h6 : (List.range vals.length).map (fun i => T.getD (i % vals.length) []) = T := by
        rw [hl]
        apply List.ext_getElem (by simp)
        intro i h7 h8
        simp [List.getD_eq_getElem?_getD, Nat.mod_eq_of_lt h8, h8]
      rwa [h6] at h5
    · unfold Rising
      rw [List.pairwise_map, List.pairwise_iff_getElem]
      intro i j hi hj hij
      have hi' : i < d'.size := by simpa using hi
      have hj' : j < d'.size := by simpa using hj
      have := hs i j (Nat.zero_le _) hij (by omega)
      unfold ltOf at this
      simp only [decide_eq_false_iff_not] at this
      rw [getElem!_pos d' i hi', getElem!_pos d' j hj'] at this
      simpa [cf] using this
    · have hlen : (d'.toList.map (fun i => T.getD (i % vals.length) [])).length = vals.length := by simp [hd's]
      refine ⟨d'.toList.map enc, by simp, ?_, fun j hj => ?_⟩
      · have hcl : (d'.toList.map enc).length = vals.length := by simp [hd's]
        rw [hcl]
        refine ⟨by rw [hcl, Nat.mul_one], .inr ⟨g, cap, putCells enc 0 d' cur, rfl, hb, heap_putV d' hg, h1, h2, by simp [putCells, h3], ?_⟩⟩
        rw [Nat.mul_one, ← hd's]
        exact take_putV cur d' (by omega)
      · rw [hlen] at hj
        have hj' : j < d'.size := by omega
        have hmem : d'[j] < vals.length := List.mem_range.1 (hperm.mem_iff.1 (by simp))
        have := (hv d'[j] (by omega)).other ho' (hgrow n' os d')
        have e1 : (d'.toList.map enc).getD j (.slice none 0 0) = vals.getD d'[j] (.slice none 0 0) := by
          rw [List.getD_eq_getElem?_getD]
          simp [hj', enc, Nat.mod_eq_of_lt hmem]
        have e2 : (d'.toList.map (fun i => T.getD (i % vals.length) [])).getD j [] = T.getD d'[j] [] := by
          rw [List.getD_eq_getElem?_getD]
          simp [hj', Nat.mod_eq_of_lt hmem]
        rw [e1, e2]
        exact this

end Go.Proofs.Ytbcjfiobggggjaa
