/-
  Things in heaps: plain mathematics. Nothing of the program is proved here.
-/
import Derived.Test.YtmdpfadfimodjaaCmp
import Derived.Test.YtmdpfadfimodjaaIdx
namespace Go.Proofs.Ytmdpfadfimodjaa
open Go.RowKit

/-! ### Restricted growth -/

/-- How many heaps there are. -/
def bkStep (b : Nat) (x : Int) : Nat := if x = (b : Int) then b + 1 else b
def bk (l : List Int) : Nat := l.foldl bkStep 0
theorem bk_snoc (l : List Int) (x : Int) : bk (l ++ [x]) = if x = ((bk l : Nat) : Int) then bk l + 1 else bk l := by
  unfold bk
  rw [List.foldl_append]
  rfl
theorem bk_take {g : List Int} {k : Nat} (hk : k < g.length) : bk (g.take (k + 1)) = if g.getD k 0 = ((bk (g.take k) : Nat) : Int) then bk (g.take k) + 1 else bk (g.take k) := by
  rw [take_snoc hk, bk_snoc]
theorem bk_zero (g : List Int) : bk (g.take 0) = 0 := rfl
theorem bk_le (g : List Int) : ∀ k, bk (g.take k) ≤ k
  | 0 => Nat.le_refl _
  | k + 1 => by
    have ih := bk_le g k
    rcases Nat.lt_or_ge k g.length with h | h
    · rw [bk_take h]
      split <;> omega
    · rw [List.take_of_length_le (by omega)] at ih ⊢
      omega
theorem bk_up (g : List Int) (k : Nat) : bk (g.take k) ≤ bk (g.take (k + 1)) := by
  rcases Nat.lt_or_ge k g.length with h | h
  · rw [bk_take h]
    split <;> omega
  · rw [List.take_of_length_le h, List.take_of_length_le (by omega)]
    exact Nat.le_refl _

/-- The first k are right. -/
def RgsTo (g : List Int) (k : Nat) : Prop := ∀ j, j < k → 0 ≤ g.getD j 0 ∧ g.getD j 0 ≤ ((bk (g.take j) : Nat) : Int)
def Rgs (g : List Int) : Prop := RgsTo g g.length
instance decRgs (g : List Int) : Decidable (Rgs g) := by
  unfold Rgs RgsTo
  exact inferInstance
theorem RgsTo.succ {g : List Int} {k : Nat} (h : RgsTo g k) (h0 : 0 ≤ g.getD k 0) (h1 : g.getD k 0 ≤ ((bk (g.take k) : Nat) : Int)) : RgsTo g (k + 1) := by
  intro j hj
  by_cases e : j = k
  · subst e
    exact ⟨h0, h1⟩
  · exact h j (by omega)
theorem RgsTo.less {g : List Int} {k m : Nat} (h : RgsTo g k) (hm : m ≤ k) : RgsTo g m := fun j hj => h j (by omega)

theorem mem_take_snoc {g : List Int} {k : Nat} (hk : k < g.length) (y : Int) : y ∈ g.take (k + 1) ↔ y ∈ g.take k ∨ y = g.getD k 0 := by
  rw [take_snoc hk, List.mem_append, List.mem_singleton]

/-- What stands in it: each number below how many heaps there are. -/
theorem mem_rgs {g : List Int} : ∀ {k : Nat}, k ≤ g.length → RgsTo g k → ∀ y, y ∈ g.take k ↔ 0 ≤ y ∧ y < ((bk (g.take k) : Nat) : Int)
  | 0, _, _, y => by
    rw [bk_zero, List.take_zero]
    constructor
    · intro h
      cases h
    · intro h
      omega
  | k + 1, hk, h, y => by
    have ih := mem_rgs (k := k) (by omega) (h.less (by omega)) y
    have hk2 := h k (by omega)
    rw [mem_take_snoc (by omega), ih, bk_take (by omega)]
    generalize g.getD k 0 = x at *
    generalize bk (g.take k) = b at *
    split
    · omega
    · omega

/-- P23. -/
def heapErr (g : List Int) : Int := if 10 < g.length then 2 else if Rgs g then 0 else 3
theorem heapErr_large {g : List Int} (h : 10 < g.length) : heapErr g = 2 := if_pos h
theorem heapErr_ok {g : List Int} (h : g.length ≤ 10) (hr : Rgs g) : heapErr g = 0 := by
  unfold heapErr
  rw [if_neg (by omega), if_pos hr]
theorem heapErr_form {g : List Int} (h : g.length ≤ 10) (hr : ¬ Rgs g) : heapErr g = 3 := by
  unfold heapErr
  rw [if_neg (by omega), if_neg hr]
theorem heapErr_zero {g : List Int} (h : heapErr g = 0) : g.length ≤ 10 ∧ Rgs g := by
  unfold heapErr at h
  by_cases h1 : 10 < g.length
  · rw [if_pos h1] at h
    omega
  · rw [if_neg h1] at h
    by_cases h2 : Rgs g
    · exact ⟨by omega, h2⟩
    · rw [if_neg h2] at h
      omega

/-! ### The next one -/

/-- The last place of the first k at which a greater number may stand. -/
def ltg (g : List Int) : Nat → Int
  | 0 => -1
  | k + 1 => if g.getD k 0 < ((bk (g.take k) : Nat) : Int) then (k : Int) else ltg g k
theorem ltg_yes {g : List Int} {k : Nat} (h : g.getD k 0 < ((bk (g.take k) : Nat) : Int)) : ltg g (k + 1) = k := if_pos h
theorem ltg_no {g : List Int} {k : Nat} (h : ¬ g.getD k 0 < ((bk (g.take k) : Nat) : Int)) : ltg g (k + 1) = ltg g k := if_neg h
theorem ltg_bd (g : List Int) : ∀ k : Nat, -1 ≤ ltg g k ∧ ltg g k < k
  | 0 => by unfold ltg; omega
  | k + 1 => by
    have ih := ltg_bd g k
    unfold ltg
    split <;> omega
theorem ltg_none {g : List Int} : ∀ {k : Nat}, ltg g k < 0 → ∀ j, j < k → ¬ g.getD j 0 < ((bk (g.take j) : Nat) : Int)
  | 0, _, j, hj => absurd hj (Nat.not_lt_zero _)
  | k + 1, h, j, hj => by
    by_cases hk : g.getD k 0 < ((bk (g.take k) : Nat) : Int)
    · rw [ltg_yes hk] at h
      omega
    · rw [ltg_no hk] at h
      by_cases e : j = k
      · subst e
        exact hk
      · exact ltg_none h j (by omega)
theorem ltg_some {g : List Int} {L : Nat} : ∀ {k : Nat}, ltg g k = (L : Int) → L < k ∧ g.getD L 0 < ((bk (g.take L) : Nat) : Int) ∧ ∀ j, L < j → j < k → ¬ g.getD j 0 < ((bk (g.take j) : Nat) : Int)
  | 0, h => by unfold ltg at h; omega
  | k + 1, h => by
    by_cases hk : g.getD k 0 < ((bk (g.take k) : Nat) : Int)
    · rw [ltg_yes hk] at h
      have e : k = L := by omega
      subst e
      exact ⟨by omega, hk, fun j h1 h2 => by omega⟩
    · rw [ltg_no hk] at h
      obtain ⟨h1, h2, h3⟩ := ltg_some h
      refine ⟨by omega, h2, fun j h4 h5 => ?_⟩
      by_cases e : j = k
      · subst e
        exact hk
      · exact h3 j h4 (by omega)

def nextL (g : List Int) (L : Nat) : List Int := g.take L ++ [g.getD L 0 + 1] ++ List.replicate (g.length - (L + 1)) 0
theorem length_nextL {g : List Int} {L : Nat} (h : L < g.length) : (nextL g L).length = g.length := by
  simp [nextL]
  omega
theorem getD_nextL {g : List Int} {L : Nat} (h : L < g.length) (j : Nat) : (nextL g L).getD j 0 = if j < L then g.getD j 0 else if j = L then g.getD L 0 + 1 else 0 := by
  unfold nextL
  rw [List.append_assoc]
  simp only [List.getD_eq_getElem?_getD]
  have hl : (g.take L).length = L := by rw [List.length_take]; omega
  by_cases h1 : j < L
  · rw [if_pos h1, List.getElem?_append_left (by omega), List.getElem?_take, if_pos h1]
  · rw [if_neg h1, List.getElem?_append_right (by omega), hl]
    by_cases h2 : j = L
    · subst h2
      rw [if_pos rfl]
      simp
    · rw [if_neg h2, List.getElem?_append_right (by simp; omega)]
      simp only [List.length_singleton, List.getElem?_replicate]
      split <;> rfl
theorem take_nextL {g : List Int} {L j : Nat} (h : L < g.length) (hj : j ≤ L) : (nextL g L).take j = g.take j := by
  unfold nextL
  rw [List.append_assoc, List.take_append_of_le_length (by rw [List.length_take]; omega), List.take_take, Nat.min_eq_left hj]
theorem rgs_nextL {g : List Int} {L : Nat} (h : L < g.length) (hr : Rgs g) (hL : g.getD L 0 < ((bk (g.take L) : Nat) : Int)) : Rgs (nextL g L) := by
  intro j hj
  rw [length_nextL h] at hj
  have h0 := hr j hj
  rw [getD_nextL h]
  by_cases h1 : j < L
  · rw [if_pos h1, take_nextL h (by omega)]
    exact h0
  · rw [if_neg h1]
    by_cases h2 : j = L
    · subst h2
      rw [if_pos rfl, take_nextL h (Nat.le_refl _)]
      omega
    · rw [if_neg h2]
      omega

/-! ### In order -/

theorem cmpL_cases : ∀ (a b : List Int), a.length = b.length → (a = b ∧ cmpL a b = 0) ∨ ∃ d, d < a.length ∧ (∀ j, j < d → a.getD j 0 = b.getD j 0) ∧ ((a.getD d 0 < b.getD d 0 ∧ cmpL a b = -1) ∨ (b.getD d 0 < a.getD d 0 ∧ cmpL a b = 1))
  | [], [], _ => .inl ⟨rfl, rfl⟩
  | [], _ :: _, h => by simp at h
  | _ :: _, [], h => by simp at h
  | x :: a, y :: b, h => by
    have hl : a.length = b.length := by simpa using h
    by_cases h1 : x < y
    · exact .inr ⟨0, by simp, fun j hj => absurd hj (Nat.not_lt_zero _), .inl ⟨by simpa using h1, by simp only [cmpL]; rw [if_pos h1]⟩⟩
    · by_cases h2 : y < x
      · exact .inr ⟨0, by simp, fun j hj => absurd hj (Nat.not_lt_zero _), .inr ⟨by simpa using h2, by simp only [cmpL]; rw [if_neg h1, if_pos h2]⟩⟩
      · have e : x = y := by omega
        subst e
        have hc : cmpL (x :: a) (x :: b) = cmpL a b := by simp only [cmpL]; rw [if_neg h1, if_neg h1]
        rw [hc]
        rcases cmpL_cases a b hl with ⟨rfl, h3⟩ | ⟨d, hd, hj, h3⟩
        · exact .inl ⟨rfl, h3⟩
        · refine .inr ⟨d + 1, by simpa using hd, fun j hjd => ?_, by simpa using h3⟩
          cases j with
          | zero => rfl
          | succ j => simpa using hj j (by omega)

theorem cmpL_of_lt {a b : List Int} {d : Nat} (hl : a.length = b.length) (_hd : d < a.length) (he : ∀ j, j < d → a.getD j 0 = b.getD j 0) (h : a.getD d 0 < b.getD d 0) : cmpL a b = -1 := by
  rcases cmpL_cases a b hl with ⟨rfl, _⟩ | ⟨d', _, hj, hh⟩
  · omega
  · rcases Nat.lt_trichotomy d d' with h1 | h1 | h1
    · have := hj d h1
      omega
    · subst h1
      rcases hh with hh | hh
      · exact hh.2
      · omega
    · have := he d' h1
      omega
theorem cmpL_of_gt {a b : List Int} {d : Nat} (hl : a.length = b.length) (_hd : d < a.length) (he : ∀ j, j < d → a.getD j 0 = b.getD j 0) (h : b.getD d 0 < a.getD d 0) : cmpL a b = 1 := by
  rcases cmpL_cases a b hl with ⟨rfl, _⟩ | ⟨d', _, hj, hh⟩
  · omega
  · rcases Nat.lt_trichotomy d d' with h1 | h1 | h1
    · have := hj d h1
      omega
    · subst h1
      rcases hh with hh | hh
      · omega
      · exact hh.2
    · have := he d' h1
      omega

theorem bk_alike {a b : List Int} (hl : a.length = b.length) : ∀ {d : Nat}, d ≤ a.length → (∀ j, j < d → a.getD j 0 = b.getD j 0) → bk (a.take d) = bk (b.take d)
  | 0, _, _ => rfl
  | d + 1, hd, h => by
    have ih := bk_alike hl (d := d) (by omega) (fun j hj => h j (by omega))
    rw [bk_take (by omega), bk_take (by omega), h d (by omega), ih]

/-- Something right stands behind it: at that place a greater number may stand. -/
theorem behind {a b : List Int} (hl : b.length = a.length) (hb : Rgs b) (h : 0 < cmpL b a) : ∃ d, d < a.length ∧ (∀ j, j < d → b.getD j 0 = a.getD j 0) ∧ a.getD d 0 < b.getD d 0 ∧ a.getD d 0 < ((bk (a.take d) : Nat) : Int) := by
  rcases cmpL_cases b a hl with ⟨_, h0⟩ | ⟨d, hd, hj, hh⟩
  · omega
  · rcases hh with hh | hh
    · omega
    · have h1 := (hb d hd).2
      rw [bk_alike hl (by omega) hj] at h1
      exact ⟨d, by omega, hj, hh.1, by omega⟩
theorem none_behind {a b : List Int} (hl : b.length = a.length) (hb : Rgs b) (h : ltg a a.length < 0) : cmpL b a ≤ 0 := by
  rcases Int.lt_or_le 0 (cmpL b a) with h1 | h1
  · obtain ⟨d, hd, _, _, h2⟩ := behind hl hb h1
    exact absurd h2 (ltg_none h d hd)
  · exact h1
theorem next_ahead {a : List Int} {L : Nat} (h : L < a.length) : cmpL a (nextL a L) = -1 := by
  refine cmpL_of_lt (d := L) (length_nextL h).symm h (fun j hj => ?_) ?_
  · rw [getD_nextL h, if_pos hj]
  · rw [getD_nextL h, if_neg (by omega), if_pos rfl]
    omega
theorem none_between {a b : List Int} {L : Nat} (hl : b.length = a.length) (hb : Rgs b) (h : ltg a a.length = (L : Int)) : cmpL b a ≤ 0 ∨ 0 ≤ cmpL b (nextL a L) := by
  rcases Int.lt_or_le 0 (cmpL b a) with h1 | h1
  · obtain ⟨d, hd, hj, h2, h3⟩ := behind hl hb h1
    obtain ⟨l1, _, l3⟩ := ltg_some h
    have hn := length_nextL l1
    right
    have hdL : d ≤ L := by
      rcases Nat.lt_or_ge L d with h4 | h4
      · exact absurd h3 (l3 d h4 hd)
      · exact h4
    rcases cmpL_cases b (nextL a L) (by omega) with ⟨_, h5⟩ | ⟨e, he, hje, hh⟩
    · omega
    · rcases hh with hh | hh
      · exfalso
        have h6 := (hb e he).1
        rw [getD_nextL l1] at hh
        by_cases c1 : e < L
        · rw [if_pos c1] at hh
          rcases Nat.lt_trichotomy e d with c2 | c2 | c2
          · have := hj e c2
            omega
          · subst c2
            omega
          · have h7 := hje d c2
            rw [getD_nextL l1, if_pos (by omega)] at h7
            omega
        · rw [if_neg c1] at hh
          by_cases c2 : e = L
          · subst c2
            rw [if_pos rfl] at hh
            rcases Nat.lt_or_ge d e with c3 | c3
            · have h7 := hje d c3
              rw [getD_nextL l1, if_pos (by omega)] at h7
              omega
            · have : d = e := by omega
              subst this
              omega
          · rw [if_neg c2] at hh
            omega
      · omega
  · exact .inl h1

/-! ### Heaps by what is alike -/

def ixf : List Int → Int → Nat
  | [], _ => 0
  | x :: l, v => if x = v then 0 else ixf l v + 1
theorem FirstAt.only {l : List Int} {v : Int} {r s : Nat} (h : FirstAt l v r) (k : FirstAt l v s) : r = s := by
  rcases Nat.lt_trichotomy r s with c | c | c
  · exact absurd h.2.1 (k.2.2 r c)
  · exact c
  · exact absurd k.2.1 (h.2.2 s c)
theorem ixf_first : ∀ {l : List Int} {v : Int}, v ∈ l → FirstAt l v (ixf l v)
  | [], _, h => by cases h
  | x :: l, v, h => by
    unfold ixf
    by_cases e : x = v
    · rw [if_pos e]
      exact ⟨by simp, by simpa using e, fun j hj => absurd hj (Nat.not_lt_zero _)⟩
    · rw [if_neg e]
      have hm : v ∈ l := by
        rcases List.mem_cons.1 h with h | h
        · exact absurd h.symm e
        · exact h
      obtain ⟨h1, h2, h3⟩ := ixf_first hm
      refine ⟨by simpa using h1, by simpa using h2, fun j hj => ?_⟩
      cases j with
      | zero => simpa using e
      | succ j => simpa using h3 j (by omega)
/-- The first place of the like. -/
def ix (l : List Int) (i : Nat) : Nat := ixf l (l.getD i 0)
theorem ix_first {l : List Int} {i : Nat} (h : i < l.length) : FirstAt l (l.getD i 0) (ix l i) := ixf_first (getD_mem h)
theorem ix_of {l : List Int} {i r : Nat} (h : FirstAt l (l.getD i 0) r) (hi : i < l.length) : ix l i = r := (ix_first hi).only h
theorem ix_le {l : List Int} {i : Nat} (h : i < l.length) : ix l i ≤ i := by
  rcases Nat.lt_or_ge i (ix l i) with c | c
  · exact absurd rfl ((ix_first h).2.2 i c)
  · exact c
theorem ix_getD {l : List Int} {i : Nat} (h : i < l.length) : l.getD (ix l i) 0 = l.getD i 0 := (ix_first h).2.1
theorem ix_ix {l : List Int} {i : Nat} (h : i < l.length) : ix l (ix l i) = ix l i := by
  have e := ix_getD h
  unfold ix at e ⊢
  rw [e]
theorem ix_eq {l : List Int} {i j : Nat} (e : l.getD i 0 = l.getD j 0) : ix l i = ix l j := by
  unfold ix
  rw [e]

/-- How many new ones there are among the first k. -/
def nf (l : List Int) : Nat → Nat
  | 0 => 0
  | k + 1 => nf l k + if ix l k = k then 1 else 0
theorem nf_new {l : List Int} {k : Nat} (h : ix l k = k) : nf l (k + 1) = nf l k + 1 := by
  show nf l k + _ = _
  rw [if_pos h]
theorem nf_old {l : List Int} {k : Nat} (h : ix l k ≠ k) : nf l (k + 1) = nf l k := by
  show nf l k + _ = _
  rw [if_neg h]
  rfl
theorem nf_mono (l : List Int) {a b : Nat} (h : a ≤ b) : nf l a ≤ nf l b := by
  induction h with
  | refl => exact Nat.le_refl _
  | step _ ih => exact Nat.le_trans ih (Nat.le_add_right _ _)
theorem nf_le (l : List Int) : ∀ k, nf l k ≤ k
  | 0 => Nat.le_refl _
  | k + 1 => by
    have := nf_le l k
    show nf l k + _ ≤ _
    split <;> omega
theorem nf_lt {l : List Int} {a b : Nat} (ha : ix l a = a) (h : a < b) : nf l a < nf l b := by
  have h1 := nf_mono l (show a + 1 ≤ b from h)
  rw [nf_new ha] at h1
  omega
theorem nf_inj {l : List Int} {a b : Nat} (ha : ix l a = a) (hb : ix l b = b) (h : nf l a = nf l b) : a = b := by
  rcases Nat.lt_trichotomy a b with c | c | c
  · have := nf_lt ha c
    omega
  · exact c
  · have := nf_lt hb c
    omega

/-- P26. -/
def ofL (l : List Int) : List Int := (List.range l.length).map (fun i => ((nf l (ix l i) : Nat) : Int))
theorem length_ofL (l : List Int) : (ofL l).length = l.length := by simp [ofL]
theorem getD_ofL {l : List Int} {i : Nat} (h : i < l.length) : (ofL l).getD i 0 = ((nf l (ix l i) : Nat) : Int) := by
  simp [ofL, List.getD_eq_getElem?_getD, h]
theorem bk_ofL {l : List Int} : ∀ {k : Nat}, k ≤ l.length → bk ((ofL l).take k) = nf l k
  | 0, _ => rfl
  | k + 1, hk => by
    have ih := bk_ofL (l := l) (k := k) (by omega)
    rw [bk_take (by rw [length_ofL]; omega), ih, getD_ofL (by omega)]
    by_cases e : ix l k = k
    · rw [e, if_pos rfl, nf_new e]
    · have h1 := ix_le (l := l) (i := k) (by omega)
      have h2 := nf_lt (ix_ix (l := l) (i := k) (by omega)) (show ix l k < k by omega)
      rw [if_neg (by omega), nf_old e]
theorem rgs_ofL (l : List Int) : Rgs (ofL l) := by
  intro j hj
  rw [length_ofL] at hj
  rw [getD_ofL hj, bk_ofL (by omega)]
  have := nf_mono l (ix_le hj)
  omega
theorem ofL_alike {l : List Int} {x y : Nat} (hx : x < l.length) (hy : y < l.length) : (ofL l).getD x 0 = (ofL l).getD y 0 ↔ l.getD x 0 = l.getD y 0 := by
  rw [getD_ofL hx, getD_ofL hy]
  constructor
  · intro h
    have e : ix l x = ix l y := nf_inj (ix_ix hx) (ix_ix hy) (by omega)
    rw [← ix_getD hx, ← ix_getD hy, e]
  · intro h
    rw [ix_eq h]
theorem ix_same {l m : List Int} (hl : l.length = m.length) (h : ∀ i j, i < l.length → j < l.length → (l.getD i 0 = l.getD j 0 ↔ m.getD i 0 = m.getD j 0)) {i : Nat} (hi : i < l.length) : ix l i = ix m i := by
  have h1 := ix_first (l := m) (i := i) (by omega)
  refine ix_of ⟨by have := h1.1; omega, ?_, fun j hj e => ?_⟩ hi
  · exact (h _ _ (by have := h1.1; omega) hi).2 h1.2.1
  · exact h1.2.2 j hj ((h j i (by have := h1.1; omega) hi).1 e)
theorem nf_same {l m : List Int} (hl : l.length = m.length) (h : ∀ i j, i < l.length → j < l.length → (l.getD i 0 = l.getD j 0 ↔ m.getD i 0 = m.getD j 0)) : ∀ k, k ≤ l.length → nf l k = nf m k
  | 0, _ => rfl
  | k + 1, hk => by
    show nf l k + _ = nf m k + _
    rw [nf_same hl h k (by omega), ix_same hl h (by omega)]
theorem ofL_same {l m : List Int} (hl : l.length = m.length) (h : ∀ i j, i < l.length → j < l.length → (l.getD i 0 = l.getD j 0 ↔ m.getD i 0 = m.getD j 0)) : ofL l = ofL m := by
  refine ext_getD (by rw [length_ofL, length_ofL, hl]) fun j hj => ?_
  rw [length_ofL] at hj
  have := ix_le hj
  rw [getD_ofL hj, getD_ofL (by omega), nf_same hl h _ (by omega), ix_same hl h hj]
theorem ofL_ofL (l : List Int) : ofL (ofL l) = ofL l :=
  (ofL_same (length_ofL l).symm fun _ _ hi hj => (ofL_alike hi hj).symm).symm

end Go.Proofs.Ytmdpfadfimodjaa
