/-
  Plain facts on lists of numbers: permutations of 0 .. n-1. No program, no memory.
-/
namespace Go.Proofs.Ytaklchehamkgcaa

theorem perm_of_nodup_subset {α : Type} [DecidableEq α] : ∀ {l l' : List α}, l.Nodup → (∀ x, x ∈ l → x ∈ l') → l'.length ≤ l.length → l'.Perm l
  | [], l', _, _, hl => by
    have : l' = [] := List.eq_nil_of_length_eq_zero (by simpa using hl)
    subst this
    exact List.Perm.refl _
  | a :: t, l', hn, hs, hl => by
    have ha : a ∈ l' := hs a (by simp)
    have hn' := List.nodup_cons.1 hn
    have h1 : l'.Perm (a :: l'.erase a) := List.perm_cons_erase ha
    have h2 : (l'.erase a).Perm t := by
      refine perm_of_nodup_subset hn'.2 (fun x hx => ?_) ?_
      · have hne : x ≠ a := fun e => hn'.1 (e ▸ hx)
        exact (List.mem_erase_of_ne hne).2 (hs x (by simp [hx]))
      · have := List.length_erase_of_mem ha
        have hpos : 0 < l'.length := List.length_pos_of_mem ha
        simp only [List.length_cons] at hl
        omega
    exact h1.trans (h2.cons a)

/-- 0, 1, .., n-1. -/
def iota (n : Nat) : List Int := (List.range n).map (fun i : Nat => (i : Int))

theorem length_iota (n : Nat) : (iota n).length = n := by simp [iota]
theorem mem_iota {n : Nat} {x : Int} : x ∈ iota n ↔ 0 ≤ x ∧ x < n := by
  simp only [iota, List.mem_map, List.mem_range]
  constructor
  · rintro ⟨i, hi, rfl⟩; omega
  · rintro ⟨h0, h1⟩; exact ⟨x.toNat, by omega, by omega⟩
theorem nodup_iota (n : Nat) : (iota n).Nodup := by
  unfold iota
  rw [List.nodup_iff_pairwise_ne, List.pairwise_map]
  have h := List.nodup_range (n := n)
  rw [List.nodup_iff_pairwise_ne] at h
  exact h.imp (fun hab e => hab (by omega))
theorem getD_iota {n i : Nat} (h : i < n) : (iota n).getD i 0 = (i : Int) := by
  simp [iota, List.getD_eq_getElem?_getD, h]

/-- A list that holds each of 0 .. n-1 once. -/
def IsPerm (xs : List Int) : Prop := xs.Perm (iota xs.length)

theorem isPerm_of_all {xs : List Int} (h : ∀ i : Nat, i < xs.length → (i : Int) ∈ xs) : IsPerm xs :=
  perm_of_nodup_subset (nodup_iota _) (fun x hx => by
    have := mem_iota.1 hx
    have h' := h x.toNat (by omega)
    rwa [show ((x.toNat : Nat) : Int) = x by omega] at h') (by rw [length_iota]; exact Nat.le_refl _)

theorem IsPerm.all {xs : List Int} (h : IsPerm xs) (i : Nat) (hi : i < xs.length) : (i : Int) ∈ xs :=
  h.mem_iff.2 (mem_iota.2 ⟨by omega, by omega⟩)
theorem IsPerm.range {xs : List Int} (h : IsPerm xs) {x : Int} (hx : x ∈ xs) : 0 ≤ x ∧ x < xs.length := mem_iota.1 (h.mem_iff.1 hx)
theorem IsPerm.nodup {xs : List Int} (h : IsPerm xs) : xs.Nodup := h.nodup_iff.2 (nodup_iota _)

theorem isPerm_of_nodup {xs : List Int} (hn : xs.Nodup) (hr : ∀ x, x ∈ xs → 0 ≤ x ∧ x < xs.length) : IsPerm xs :=
  (perm_of_nodup_subset hn (fun x hx => mem_iota.2 (hr x hx)) (by rw [length_iota]; exact Nat.le_refl _)).symm

theorem getD_mem {xs : List Int} {i : Nat} (h : i < xs.length) : xs.getD i 0 ∈ xs := by
  rw [List.getD_eq_getElem?_getD, List.getElem?_eq_getElem h]
  exact List.getElem_mem h
theorem mem_getD {xs : List Int} {x : Int} (h : x ∈ xs) : ∃ i, i < xs.length ∧ xs.getD i 0 = x := by
  obtain ⟨i, hi, e⟩ := List.getElem_of_mem h
  exact ⟨i, hi, by rw [List.getD_eq_getElem?_getD, List.getElem?_eq_getElem hi]; exact e⟩

theorem mem_take_iff {xs : List Int} {k : Nat} {x : Int} : x ∈ xs.take k ↔ ∃ i, i < k ∧ i < xs.length ∧ xs.getD i 0 = x := by
  constructor
  · intro h
    obtain ⟨i, hi, e⟩ := mem_getD h
    have hl := List.length_take (i := k) (l := xs)
    refine ⟨i, by omega, by omega, ?_⟩
    rw [← e]
    simp only [List.getD_eq_getElem?_getD, List.getElem?_take]
    rw [if_pos (by omega)]
  · rintro ⟨i, hk, hi, rfl⟩
    have h : (xs.take k).getD i 0 = xs.getD i 0 := by
      simp only [List.getD_eq_getElem?_getD, List.getElem?_take]
      rw [if_pos hk]
    rw [← h]
    exact getD_mem (by rw [List.length_take]; omega)

theorem nodup_iff_getD {xs : List Int} : xs.Nodup ↔ ∀ i j, i < j → j < xs.length → xs.getD i 0 ≠ xs.getD j 0 := by
  rw [List.nodup_iff_pairwise_ne, List.pairwise_iff_getElem]
  constructor
  · intro h i j hij hj
    have := h i j (by omega) hj hij
    simpa [List.getD_eq_getElem?_getD, List.getElem?_eq_getElem (show i < xs.length by omega), List.getElem?_eq_getElem hj] using this
  · intro h i j hi hj hij
    have := h i j hij hj
    simpa [List.getD_eq_getElem?_getD, List.getElem?_eq_getElem hi, List.getElem?_eq_getElem hj] using this

/-- What Check finds good, number by number. -/
theorem isPerm_of_steps {xs : List Int} (h : ∀ k, k < xs.length → 0 ≤ xs.getD k 0 ∧ xs.getD k 0 < xs.length ∧ xs.getD k 0 ∉ xs.take k) : IsPerm xs := by
  refine isPerm_of_nodup (nodup_iff_getD.2 fun i j hij hj e => ?_) fun x hx => ?_
  · exact (h j hj).2.2 (mem_take_iff.2 ⟨i, hij, by omega, e⟩)
  · obtain ⟨i, hi, rfl⟩ := mem_getD hx
    exact ⟨(h i hi).1, (h i hi).2.1⟩

theorem not_isPerm_of_step {xs : List Int} {k : Nat} (hk : k < xs.length) (h : xs.getD k 0 < 0 ∨ (xs.length : Int) ≤ xs.getD k 0 ∨ xs.getD k 0 ∈ xs.take k) : ¬ IsPerm xs := by
  intro hp
  have hr := hp.range (getD_mem hk)
  rcases h with h | h | h
  · omega
  · omega
  · obtain ⟨i, hik, hi, e⟩ := mem_take_iff.1 h
    exact nodup_iff_getD.1 hp.nodup i k hik hk e

instance (xs : List Int) : Decidable (IsPerm xs) :=
  if h : ∀ i, i < xs.length → (i : Int) ∈ xs then isTrue (isPerm_of_all h) else isFalse (fun hp => h hp.all)

/-- P3: the error of a list. -/
def permErr (xs : List Int) : Int := if 10 < xs.length then 2 else if IsPerm xs then 0 else 3

theorem permErr_bad {xs : List Int} (hl : xs.length ≤ 10) (h : ¬ IsPerm xs) : permErr xs = 3 := by
  unfold permErr
  rw [if_neg (by omega), if_neg h]

theorem permErr_ok {xs : List Int} : permErr xs = 0 ↔ xs.length ≤ 10 ∧ IsPerm xs := by
  unfold permErr
  split
  · constructor
    · intro h; cases h
    · intro h; omega
  · rename_i h1
    split
    · rename_i h2
      exact ⟨fun _ => ⟨by omega, h2⟩, fun _ => rfl⟩
    · rename_i h2
      exact ⟨(fun h => by cases h), fun h => absurd h.2 h2⟩

end Go.Proofs.Ytaklchehamkgcaa
