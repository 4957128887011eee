/-
  Texts joined: Base, Row0, Own, Rst, Plain, Check, Times, Deal, Small, Cmp, Idx, BlkM, Inverse, Grp, Sgn, ShufM, Arr, Lit, ShufA, Good, Equal, Gen.
-/
import Derived.Test.YtmdpfadfimodjaaDoorRows
import Derived.WalkKit
import Derived.Deep.LoopGhost
import Derived.Deep.Draws
import Derived.Deep.QuietTactic
import Derived.BigQuiet
import Derived.Deep.OwnRows
import Derived.Laws.IdiomCopy

/-
  Words of my own for slices of ints, and small plain facts. Nothing of the program is proved here.
-/
namespace Go.Proofs.YtmdpfadfimodjaaDoor
open Go.RowKit

/-- The slice value '.slice A n c' holds the numbers xs in the world w (nil and empty ones too). -/
structure Ints (w : World) (A : Option Addr) (n : Nat) (xs : List Int) : Prop where
  len : xs.length = n
  row : 0 < n → ∃ b off, A = some ⟨b, off, none⟩ ∧ b < w.heap.size ∧ ∀ j, j < n → w.cell? ⟨b, off + j, none⟩ = some (.int .i64 (xs.getD j 0))

theorem Ints.nil (w : World) (A : Option Addr) : Ints w A 0 [] := ⟨rfl, fun h => absurd h (by omega)⟩

theorem Ints.keep {w w' : World} {A : Option Addr} {n : Nat} {xs : List Int} (h : Ints w A n xs) (hb : Below w.heap.size w w') : Ints w' A n xs := by
  refine ⟨h.len, fun hn => ?_⟩
  obtain ⟨b, off, e, hlt, hc⟩ := h.row hn
  exact ⟨b, off, e, Nat.lt_of_lt_of_le hlt hb.size, fun j hj => (hb.cell (p := ⟨b, off + j, none⟩) hlt).trans (hc j hj)⟩

theorem below_drewN {B : Nat} {a w : World} (h : Below B a w) (n : Nat) : Below B a (w.drewN n) := ⟨h.os, h.tape, h.output, h.size, h.block⟩

theorem Ints.drewN {w : World} {A : Option Addr} {n : Nat} {xs : List Int} (h : Ints w A n xs) (k : Nat) : Ints (w.drewN k) A n xs := h.keep (below_drewN (Below.refl _ _) k)

/-- A length within its capacity. -/
def Cap (n c : Nat) : Prop := n ≤ c ∧ c ≤ 9223372036854775807

/-- A fact kept from the walk. -/
theorem hid {p : Prop} (h : p) : Hid p := h

end Go.Proofs.YtmdpfadfimodjaaDoor

/-
  Rows of ints that come back: words and plain facts.
-/
namespace Go.Proofs.YtmdpfadfimodjaaDoor
open Go.RowKit

theorem infoInt : (Tryd.prog.info? 3).map (fun i => (i.zero, i.size, i.bytes)) = some (some (.int .i64 0), 1, 8) := by kernel_rfl

/-- A list and an error come back; nothing that was there has turned. -/
def RetInts (w : World) (ys : List Int) (er : Int) (e : Ending) (w' : World) : Prop :=
  ∃ A n c, e = .returned (.tuple #[.slice A n c, .int .i64 er]) ∧ Below w.heap.size w w' ∧ Ints w' A n ys ∧ Cap n c

theorem ints_of_row {w : World} {g t n : Nat} {f : Nat → Value} {xs : List Int} (h : w.rowIs g t n f) (hl : xs.length = n) (hf : ∀ j, j < n → f j = .int .i64 (xs.getD j 0)) :
    Ints w (some ⟨g, 0, none⟩) n xs :=
  ⟨hl, fun _ => ⟨g, 0, rfl, h.lt, fun j hj => by rw [Nat.zero_add, h.cell hj, hf j hj]⟩⟩

/-- What the product holds after k rounds. -/
def partCell (ys : List Int) (k j : Nat) : Value := if j < k then .int .i64 (ys.getD j 0) else .int .i64 0

theorem partCell_step (ys : List Int) (k j : Nat) : (if j = k then Value.int .i64 (ys.getD k 0) else partCell ys k j) = partCell ys (k + 1) j := by
  unfold partCell
  by_cases h : j = k
  · subst h
    rw [if_pos rfl, if_pos (by omega)]
  · rw [if_neg h]
    by_cases h2 : j < k
    · rw [if_pos h2, if_pos (by omega)]
    · rw [if_neg h2, if_neg (by omega)]

end Go.Proofs.YtmdpfadfimodjaaDoor

/-
  A slice of ints that the call itself has made, and one append onto it.
-/
namespace Go.Proofs.YtmdpfadfimodjaaDoor
open Go.RowKit

/-- v is a slice of the call's own (its block from 'base' on), and holds xs. -/
def OwnInts (w : World) (base : Nat) (v : Value) (xs : List Int) : Prop := w.ownsRow base 3 1 v xs.length (xs.map (Value.int .i64))

theorem OwnInts.nil (w : World) (base : Nat) : OwnInts w base (.slice none 0 0) [] := World.ownsRow_nil w base 3 1

theorem OwnInts.form {w : World} {base : Nat} {v : Value} {xs : List Int} (h : OwnInts w base v xs) (hn : 0 < xs.length) :
    ∃ g cap, v = .slice (some ⟨g, 0, none⟩) xs.length cap ∧ base ≤ g ∧ g < w.heap.size ∧ xs.length ≤ cap := by
  rcases h.2 with ⟨_, h0⟩ | ⟨g, cap, cur, hv, hb, hg, hc, _⟩
  · omega
  · exact ⟨g, cap, hv, hb, (Array.getElem?_eq_some_iff.1 hg).1, hc⟩

theorem OwnInts.cell {w : World} {base g cap : Nat} {xs : List Int} (h : OwnInts w base (.slice (some ⟨g, 0, none⟩) xs.length cap) xs) {j : Nat} (hj : j < xs.length) :
    w.cell? ⟨g, j, none⟩ = some (.int .i64 (xs.getD j 0)) := by
  rw [World.ownsRow.cellAt h j (by omega)]
  simp [List.getD_eq_getElem?_getD, List.getElem?_eq_getElem hj]

theorem OwnInts.frozen {w : World} {base g cap : Nat} {xs : List Int} (h : OwnInts w base (.slice (some ⟨g, 0, none⟩) xs.length cap) xs) (j : Nat) : w.frozen? ⟨g, j, none⟩ = false := World.ownsRow.frozenAt h j

theorem OwnInts.set {w : World} {base g n cap : Nat} {xs : List Int} (h : OwnInts w base (.slice (some ⟨g, 0, none⟩) n cap) xs) (hn : n = xs.length) (j : Nat) (x : Int) :
    OwnInts (w.setCell ⟨g, j, none⟩ (.int .i64 x)) base (.slice (some ⟨g, 0, none⟩) n cap) (xs.set j x) := by
  subst hn
  have := (World.ownsRow.stored h j (.int .i64 x)).1
  unfold OwnInts
  rw [List.length_set, List.map_set]
  exact this

theorem OwnInts.drewN {w : World} {base : Nat} {v : Value} {xs : List Int} (h : OwnInts w base v xs) (k : Nat) : OwnInts (w.drewN k) base v xs := h
theorem OwnInts.drew {w : World} {base : Nat} {v : Value} {xs : List Int} (h : OwnInts w base v xs) : OwnInts w.drew base v xs := h

theorem OwnInts.mono {w : World} {base base' : Nat} {v : Value} {xs : List Int} (h : OwnInts w base v xs) (hb : base' ≤ base) : OwnInts w base' v xs := by
  refine ⟨h.1, ?_⟩
  rcases h.2 with h0 | ⟨g, cap, cur, hv, hg, r⟩
  · exact .inl h0
  · exact .inr ⟨g, cap, cur, hv, Nat.le_trans hb hg, r⟩

/-- All that was there stays, so the slice does. -/
theorem OwnInts.keep {w w' : World} {base : Nat} {v : Value} {xs : List Int} (h : OwnInts w base v xs) (hb : Below w.heap.size w w') : OwnInts w' base v xs := by
  refine ⟨h.1, ?_⟩
  rcases h.2 with h0 | ⟨g, cap, cur, hv, hg, hh, r⟩
  · exact .inl h0
  · exact .inr ⟨g, cap, cur, hv, hg, (hb.block g (Array.getElem?_eq_some_iff.1 hh).1).trans hh, r⟩

/-- A block that is known whole, as a slice of the call's own. -/
theorem own_of_rowIs {w : World} {base g n : Nat} {f : Nat → Value} {xs : List Int} (h : w.rowIs g 3 n f) (hl : xs.length = n) (hf : ∀ j, j < n → f j = .int .i64 (xs.getD j 0)) (hb : base ≤ g) (hn : n ≤ maxLen) :
    OwnInts w base (.slice (some ⟨g, 0, none⟩) n n) xs := by
  subst hl
  obtain ⟨c, hg, hc, hat⟩ := h
  refine ⟨by simp, .inr ⟨g, xs.length, c, rfl, hb, hg, Nat.le_refl _, hn, by omega, ?_⟩⟩
  refine List.ext_getElem? fun i => ?_
  rcases Nat.lt_or_ge i xs.length with hi | hi
  · rw [List.getElem?_take, if_pos (by omega), Array.getElem?_toList, hat i hi, hf i hi]
    simp [List.getD_eq_getElem?_getD, hi]
  · rw [List.getElem?_eq_none (by rw [List.length_take]; omega), List.getElem?_eq_none (by simpa using hi)]

/-- A list of the call's own comes back, and an error. -/
def RetOwnE (w : World) (ys : List Int) (er : Int) (e : Ending) (w' : World) : Prop := ∃ v, e = .returned (.tuple #[v, .int .i64 er]) ∧ OwnInts w' w.heap.size v ys ∧ Below w.heap.size w w'

/-- The slice as one that is only read. -/
theorem OwnInts.ints {w : World} {base : Nat} {v : Value} {xs : List Int} (h : OwnInts w base v xs) : ∃ A c, v = .slice A xs.length c ∧ Ints w A xs.length xs ∧ Cap xs.length c := by
  rcases h.2 with ⟨rfl, h0⟩ | ⟨g, cap, cur, rfl, hb, hg, hc1, hc2, _⟩
  · have : xs = [] := List.eq_nil_of_length_eq_zero h0
    subst this
    exact ⟨none, 0, rfl, Ints.nil _ _, Nat.le_refl _, by omega⟩
  · exact ⟨_, _, rfl, ⟨rfl, fun _ => ⟨g, 0, rfl, (Array.getElem?_eq_some_iff.1 hg).1, fun j hj => by rw [Nat.zero_add]; exact OwnInts.cell h hj⟩⟩, hc1, by unfold maxLen at hc2; exact hc2⟩

theorem OwnInts.asInts {w : World} {base : Nat} {A : Option Addr} {n c : Nat} {xs : List Int} (h : OwnInts w base (.slice A n c) xs) : Ints w A n xs ∧ Cap n c := by
  obtain ⟨A', c', e, hI, hc⟩ := h.ints
  injection e with e1 e2 e3
  subst e1
  subst e2
  subst e3
  exact ⟨hI, hc⟩

theorem cell_one (W : World) (y : Int) : ∀ j u, [Value.int .i64 y][j]? = some u → (W.alloc (.cells #[.int .i64 y] 3)).cell? ((⟨W.heap.size, 0, none⟩ : Addr).add j) = some u := by
  intro j u hj
  match j, hj with
  | 0, hj => simp at hj; subst hj; simp [Addr.add]

/-- 'out = append(out, y)', out nil or the call's own: the world has laid y in a block of its own first. -/
theorem wpList_app1 {ops : Array Oper} {rest : List Oper} {o : Oper} {a : Act} {Q : Exit → Act → World → Prop} (W : World) (hgd : o.guard = none) (s x : Operand)
    (ho : o.op = .call { callee := .builtin .append, args := #[s, x], argTypes := #[22, 22] })
    (base : Nat) (v : Value) (xs : List Int) (y : Int) (hs : a.eval s = v) (hx : a.eval x = .slice (some ⟨W.heap.size, 0, none⟩) 1 1) (hown : OwnInts W base v xs)
    (hlen : xs.length ≤ 1000000000000) (hbase : base ≤ W.heap.size)
    (h : ∀ v' w', OwnInts w' base v' (xs ++ [y]) → W.grownBy w' v.ownBlock → Below base W w' → wpList Tryd.prog ops Q rest (a.put o.dst v') w') :
    wpList Tryd.prog ops Q (o :: rest) a (W.alloc (.cells #[.int .i64 y] 3)) := by
  obtain ⟨i0, hi, hz0, hz1, hz2⟩ := info_parts infoInt
  refine wpList_append_own _ hgd s x 22 ho base 3 i0 (.int .i64 0) 1 8 Tryd.underlying22 hi hz0 hz1 hz2 rfl (by decide) v xs.length (xs.map (Value.int .i64)) hs (World.ownsRow.alloc hown _)
    ⟨W.heap.size, 0, none⟩ 1 1 [.int .i64 y] hx rfl (cell_one W y) (by intro u hu; simp at hu; subst hu; rfl) (by unfold maxLen; omega) (by omega) (by simp; omega) ?_
  intro v' w' h1 h2 _
  have hg : W.grownBy w' v.ownBlock := ⟨h2.os, h2.tape, h2.output, Nat.le_trans (by simp) h2.size, fun k hk hne => (h2.block k (by simp; omega) hne).trans (Below.heap_alloc W _ k hk)⟩
  refine h v' w' ?_ hg ?_
  · unfold OwnInts
    simpa using h1
  · refine ⟨hg.os, hg.tape, hg.output, hg.size, fun k hk => hg.block k (by omega) (fun e => ?_)⟩
    have := World.ownsRow.lt hown k e.symm
    omega

end Go.Proofs.YtmdpfadfimodjaaDoor

/-
  castref.Rest, castkeep.Within; a slice cut short; small plain facts.
-/
namespace Go.Proofs.YtmdpfadfimodjaaDoor
open Go.RowKit

/-- One lot: the next number is put behind, and changes places. -/
def swapAt (l : List Int) (i j : Nat) : List Int := (l.set i (l.getD j 0)).set j (l.getD i 0)

theorem length_swapAt (l : List Int) (i j : Nat) : (swapAt l i j).length = l.length := by simp [swapAt]

theorem getD_set (l : List Int) (i j : Nat) (x : Int) : (l.set i x).getD j 0 = if j = i ∧ i < l.length then x else l.getD j 0 := by
  simp only [List.getD_eq_getElem?_getD, List.getElem?_set]
  by_cases h : i = j
  · subst h
    by_cases h2 : i < l.length
    · simp [h2]
    · simp [h2]
  · have h' : ¬ j = i := fun e => h e.symm
    simp [h, h']

theorem getD_swapAt {l : List Int} {i j : Nat} (hi : i < l.length) (hj : j < l.length) (k : Nat) :
    (swapAt l i j).getD k 0 = if k = j then l.getD i 0 else if k = i then l.getD j 0 else l.getD k 0 := by
  unfold swapAt
  rw [getD_set, getD_set, List.length_set]
  by_cases h1 : k = j
  · rw [if_pos ⟨h1, hj⟩, if_pos h1]
  · rw [if_neg (fun h => h1 h.1), if_neg h1]
    by_cases h2 : k = i
    · rw [if_pos ⟨h2, hi⟩, if_pos h2]
    · rw [if_neg (fun h => h2 h.1), if_neg h2]

theorem take_snoc {l : List Int} {k : Nat} (hk : k < l.length) : l.take (k + 1) = l.take k ++ [l.getD k 0] := by
  rw [List.take_succ_eq_append_getElem hk, List.getD_eq_getElem?_getD, List.getElem?_eq_getElem hk]
  rfl

theorem ret_int {k : IntKind} {a b : Int} (h : a = b) : Ending.returned (.int k a) = .returned (.int k b) := by rw [h]

theorem emod_of_tmod_neg {x m : Int} (hm : 0 < m) (h : x.tmod m < 0) : x.tmod m + m = x % m := by
  have h1 := Int.tmod_eq_emod (a := x) (b := m)
  have h2 := Int.emod_nonneg x (show m ≠ 0 by omega)
  have h3 := Int.emod_lt_of_pos x hm
  rw [h1] at h ⊢
  split at h
  · omega
  · rename_i hc
    rw [if_neg hc]
    omega

theorem emod_of_tmod_pos {x m : Int} (hm : 0 < m) (h : 0 ≤ x.tmod m) : x.tmod m = x % m := by
  have h1 := Int.tmod_eq_emod (a := x) (b := m)
  have h2 := Int.emod_nonneg x (show m ≠ 0 by omega)
  have h3 := Int.emod_lt_of_pos x hm
  rw [h1] at h ⊢
  split at h
  · rename_i hc
    rw [if_pos hc]
    omega
  · rename_i hc
    rw [if_neg hc]
    omega

def RetOwn (w : World) (ys : List Int) (e : Ending) (w' : World) : Prop := ∃ v, e = .returned v ∧ OwnInts w' w.heap.size v ys ∧ Below w.heap.size w w'

theorem Ints.take {w : World} {A : Option Addr} {n m : Nat} {xs : List Int} (h : Ints w A n xs) (hm : m ≤ n) : Ints w A m (xs.take m) := by
  refine ⟨by rw [List.length_take, h.len]; omega, fun hp => ?_⟩
  obtain ⟨b, o, e, hb, hc⟩ := h.row (by omega)
  refine ⟨b, o, e, hb, fun j hj => ?_⟩
  rw [hc j (by omega)]
  simp [List.getD_eq_getElem?_getD, hj]

theorem ext_getD {xs ys : List Int} (hl : xs.length = ys.length) (h : ∀ j, j < xs.length → xs.getD j 0 = ys.getD j 0) : xs = ys := by
  apply List.ext_getElem hl
  intro i h1 h2
  have := h i h1
  simpa [List.getD_eq_getElem?_getD, List.getElem?_eq_getElem h1, List.getElem?_eq_getElem h2] using this

theorem only_drewN {a w : World} {row : Option Nat} (h : a.grownBy w row) (n : Nat) : a.grownBy (w.drewN n) row := ⟨h.os, h.tape, h.output, h.size, h.block⟩

theorem only_refl (a : World) (row : Option Nat) : a.grownBy a row := ⟨rfl, rfl, rfl, Nat.le_refl _, fun _ _ _ => rfl⟩

theorem only_set {a w : World} {g : Nat} (h : a.grownBy w (some g)) (j : Nat) (u : Value) : a.grownBy (w.setCell ⟨g, j, none⟩ u) (some g) :=
  ⟨h.os, h.tape, h.output, by simpa [World.setCell] using h.size, fun i hi hne => (Below.heap_setCell w ⟨g, j, none⟩ u i (by
    rintro rfl
    exact hne rfl)).trans (h.block i hi hne)⟩

end Go.Proofs.YtmdpfadfimodjaaDoor

/-
  Plain facts on lists of numbers: permutations of 0 .. n-1. No program, no memory.
-/
namespace Go.Proofs.YtmdpfadfimodjaaDoor

theorem perm_of_nodup_subset {α : Type} [DecidableEq α] : ∀ {l l' : List α}, l.Nodup → (∀ x, x ∈ l → x ∈ l') → l'.length ≤ l.length → l'.Perm l
  | [], l', _, _, hl => by
    have : l' = [] := List.eq_nil_of_length_eq_zero (by simpa using hl)
    subst this
    exact List.Perm.refl _
  | a :: t, l', hn, hs, hl => by
    have ha : a ∈ l' := hs a (by simp)
    have hn' := List.nodup_cons.1 hn
    have h1 : l'.Perm (a :: l'.erase a) := List.perm_cons_erase ha
    have h2 : (l'.erase a).Perm t := by
      refine perm_of_nodup_subset hn'.2 (fun x hx => ?_) ?_
      · have hne : x ≠ a := fun e => hn'.1 (e ▸ hx)
        exact (List.mem_erase_of_ne hne).2 (hs x (by simp [hx]))
      · have := List.length_erase_of_mem ha
        have hpos : 0 < l'.length := List.length_pos_of_mem ha
        simp only [List.length_cons] at hl
        omega
    exact h1.trans (h2.cons a)

/-- 0, 1, .., n-1. -/
def iota (n : Nat) : List Int := (List.range n).map (fun i : Nat => (i : Int))

theorem length_iota (n : Nat) : (iota n).length = n := by simp [iota]
theorem mem_iota {n : Nat} {x : Int} : x ∈ iota n ↔ 0 ≤ x ∧ x < n := by
  simp only [iota, List.mem_map, List.mem_range]
  constructor
  · rintro ⟨i, hi, rfl⟩; omega
  · rintro ⟨h0, h1⟩; exact ⟨x.toNat, by omega, by omega⟩
theorem nodup_iota (n : Nat) : (iota n).Nodup := by
  unfold iota
  rw [List.nodup_iff_pairwise_ne, List.pairwise_map]
  have h := List.nodup_range (n := n)
  rw [List.nodup_iff_pairwise_ne] at h
  exact h.imp (fun hab e => hab (by omega))
theorem getD_iota {n i : Nat} (h : i < n) : (iota n).getD i 0 = (i : Int) := by
  simp [iota, List.getD_eq_getElem?_getD, h]

/-- A list that holds each of 0 .. n-1 once. -/
def IsPerm (xs : List Int) : Prop := xs.Perm (iota xs.length)

theorem isPerm_of_all {xs : List Int} (h : ∀ i : Nat, i < xs.length → (i : Int) ∈ xs) : IsPerm xs :=
  perm_of_nodup_subset (nodup_iota _) (fun x hx => by
    have := mem_iota.1 hx
    have h' := h x.toNat (by omega)
    rwa [show ((x.toNat : Nat) : Int) = x by omega] at h') (by rw [length_iota]; exact Nat.le_refl _)

theorem IsPerm.all {xs : List Int} (h : IsPerm xs) (i : Nat) (hi : i < xs.length) : (i : Int) ∈ xs :=
  h.mem_iff.2 (mem_iota.2 ⟨by omega, by omega⟩)
theorem IsPerm.range {xs : List Int} (h : IsPerm xs) {x : Int} (hx : x ∈ xs) : 0 ≤ x ∧ x < xs.length := mem_iota.1 (h.mem_iff.1 hx)
theorem IsPerm.nodup {xs : List Int} (h : IsPerm xs) : xs.Nodup := h.nodup_iff.2 (nodup_iota _)

theorem isPerm_of_nodup {xs : List Int} (hn : xs.Nodup) (hr : ∀ x, x ∈ xs → 0 ≤ x ∧ x < xs.length) : IsPerm xs :=
  (perm_of_nodup_subset hn (fun x hx => mem_iota.2 (hr x hx)) (by rw [length_iota]; exact Nat.le_refl _)).symm

theorem getD_mem {xs : List Int} {i : Nat} (h : i < xs.length) : xs.getD i 0 ∈ xs := by
  rw [List.getD_eq_getElem?_getD, List.getElem?_eq_getElem h]
  exact List.getElem_mem h
theorem mem_getD {xs : List Int} {x : Int} (h : x ∈ xs) : ∃ i, i < xs.length ∧ xs.getD i 0 = x := by
  obtain ⟨i, hi, e⟩ := List.getElem_of_mem h
  exact ⟨i, hi, by rw [List.getD_eq_getElem?_getD, List.getElem?_eq_getElem hi]; exact e⟩

theorem mem_take_iff {xs : List Int} {k : Nat} {x : Int} : x ∈ xs.take k ↔ ∃ i, i < k ∧ i < xs.length ∧ xs.getD i 0 = x := by
  constructor
  · intro h
    obtain ⟨i, hi, e⟩ := mem_getD h
    have hl := List.length_take (i := k) (l := xs)
    refine ⟨i, by omega, by omega, ?_⟩
    rw [← e]
    simp only [List.getD_eq_getElem?_getD, List.getElem?_take]
    rw [if_pos (by omega)]
  · rintro ⟨i, hk, hi, rfl⟩
    have h : (xs.take k).getD i 0 = xs.getD i 0 := by
      simp only [List.getD_eq_getElem?_getD, List.getElem?_take]
      rw [if_pos hk]
    rw [← h]
    exact getD_mem (by rw [List.length_take]; omega)

theorem nodup_iff_getD {xs : List Int} : xs.Nodup ↔ ∀ i j, i < j → j < xs.length → xs.getD i 0 ≠ xs.getD j 0 := by
  rw [List.nodup_iff_pairwise_ne, List.pairwise_iff_getElem]
  constructor
  · intro h i j hij hj
    have := h i j (by omega) hj hij
    simpa [List.getD_eq_getElem?_getD, List.getElem?_eq_getElem (show i < xs.length by omega), List.getElem?_eq_getElem hj] using this
  · intro h i j hi hj hij
    have := h i j hij hj
    simpa [List.getD_eq_getElem?_getD, List.getElem?_eq_getElem hi, List.getElem?_eq_getElem hj] using this

/-- What Check finds good, number by number. -/
theorem isPerm_of_steps {xs : List Int} (h : ∀ k, k < xs.length → 0 ≤ xs.getD k 0 ∧ xs.getD k 0 < xs.length ∧ xs.getD k 0 ∉ xs.take k) : IsPerm xs := by
  refine isPerm_of_nodup (nodup_iff_getD.2 fun i j hij hj e => ?_) fun x hx => ?_
  · exact (h j hj).2.2 (mem_take_iff.2 ⟨i, hij, by omega, e⟩)
  · obtain ⟨i, hi, rfl⟩ := mem_getD hx
    exact ⟨(h i hi).1, (h i hi).2.1⟩

theorem not_isPerm_of_step {xs : List Int} {k : Nat} (hk : k < xs.length) (h : xs.getD k 0 < 0 ∨ (xs.length : Int) ≤ xs.getD k 0 ∨ xs.getD k 0 ∈ xs.take k) : ¬ IsPerm xs := by
  intro hp
  have hr := hp.range (getD_mem hk)
  rcases h with h | h | h
  · omega
  · omega
  · obtain ⟨i, hik, hi, e⟩ := mem_take_iff.1 h
    exact nodup_iff_getD.1 hp.nodup i k hik hk e

instance (xs : List Int) : Decidable (IsPerm xs) :=
  if h : ∀ i, i < xs.length → (i : Int) ∈ xs then isTrue (isPerm_of_all h) else isFalse (fun hp => h hp.all)

/-- P3: the error of a list. -/
def permErr (xs : List Int) : Int := if 10 < xs.length then 2 else if IsPerm xs then 0 else 3

theorem permErr_bad {xs : List Int} (hl : xs.length ≤ 10) (h : ¬ IsPerm xs) : permErr xs = 3 := by
  unfold permErr
  rw [if_neg (by omega), if_neg h]

theorem permErr_ok {xs : List Int} : permErr xs = 0 ↔ xs.length ≤ 10 ∧ IsPerm xs := by
  unfold permErr
  split
  · constructor
    · intro h; cases h
    · intro h; omega
  · rename_i h1
    split
    · rename_i h2
      exact ⟨fun _ => ⟨by omega, h2⟩, fun _ => rfl⟩
    · rename_i h2
      exact ⟨(fun h => by cases h), fun h => absurd h.2 h2⟩

end Go.Proofs.YtmdpfadfimodjaaDoor

/-
  perm.Check: its answer is permErr of the list.
-/
namespace Go.Proofs.YtmdpfadfimodjaaDoor
open Go.RowKit

set_option maxHeartbeats 400000 in
theorem check_large (A : Option Addr) (n c : Nat) (w : World) (hn : 10 < n) (hm : n ≤ 9223372036854775807) :
    Calls Tryd.prog 30 #[.slice A n c] w fun e w' => e = .returned (.int .i64 2) ∧ w = w' := by
  go_enter Tryd.func30, Tryd.ntmps30
  go_wp2
  go_ret
  exact ⟨rfl, rfl⟩

theorem step_seen {xs : List Int} {k m : Nat} (hk : k < xs.length) (hx : xs.getD k 0 = (m : Int)) (j : Nat) :
    (if j = m then Value.bool true else Value.bool (decide ((j : Int) ∈ xs.take k))) = Value.bool (decide ((j : Int) ∈ xs.take (k + 1))) := by
  have e : xs.take (k + 1) = xs.take k ++ [(m : Int)] := by
    rw [List.take_succ_eq_append_getElem hk, ← hx, List.getD_eq_getElem?_getD, List.getElem?_eq_getElem hk]
    rfl
  rw [e]
  by_cases hj : j = m
  · subst hj
    simp
  · rw [if_neg hj]
    congr 1
    have : ¬ (j : Int) = (m : Int) := by omega
    simp [this]

theorem seen_start (w : World) (xs : List Int) : (w.alloc (Obj.cells #[Value.bool false, Value.bool false, Value.bool false, Value.bool false, Value.bool false, Value.bool false,
      Value.bool false, Value.bool false, Value.bool false, Value.bool false] 53)).rowIs w.heap.size 53 10 (fun j => .bool (decide ((j : Int) ∈ xs.take 0))) := by
  refine World.rowIs_alloc w _ _ _ fun i hi => ?_
  simp only [List.take_zero, List.not_mem_nil, decide_false]
  match i, hi with
  | 0, _ | 1, _ | 2, _ | 3, _ | 4, _ | 5, _ | 6, _ | 7, _ | 8, _ | 9, _ => rfl

set_option maxHeartbeats 400000 in
theorem check_small (A : Option Addr) (n c : Nat) (xs : List Int) (w : World) (h : Ints w A n xs) (hn : n ≤ 10) :
    Calls Tryd.prog 30 #[.slice A n c] w fun e w' => e = .returned (.int .i64 (permErr xs)) ∧ Below w.heap.size w w' := by
  have h10 : decide (10 < (n : Int)) = false := by simp; omega
  go_enter Tryd.func30, Tryd.ntmps30
  go_wp2
  go_loopg [11] n (fun g s wr => ∃ k : Nat, k ≤ n ∧ n - k ≤ g ∧ s = .int .i64 k ∧ wr.rowIs w.heap.size 53 10 (fun j => .bool (decide ((j : Int) ∈ xs.take k))) ∧ Below w.heap.size w wr ∧
      ∀ j, j < k → 0 ≤ xs.getD j 0 ∧ xs.getD j 0 < xs.length ∧ xs.getD j 0 ∉ xs.take j)
  case atStart => exact ⟨0, Nat.zero_le _, by omega, rfl, seen_start w xs, (Below.refl _ _).alloc (Nat.le_refl _) _, fun j hj => absurd hj (Nat.not_lt_zero _)⟩
  case round =>
    obtain ⟨k, hk, hg, rfl, hrow, hbel, hall⟩ := hrel
    have HA := hid hall
    have HR := hid hrow
    have HB := hid hbel
    clear hall hrow hbel
    by_cases hlt : k < n
    · obtain ⟨b, o, rfl, hb, hc⟩ := h.row (by omega)
      have HL := hid h.len
      have g1 : wr.cell? ⟨b, o + k, none⟩ = some (.int .i64 (xs.getD k 0)) := (HB.out.cell (p := ⟨b, o + k, none⟩) hb).trans (hc k hlt)
      have hbad : xs.getD k 0 < 0 ∨ (xs.length : Int) ≤ xs.getD k 0 ∨ xs.getD k 0 ∈ xs.take k → permErr xs = 3 := fun hx => permErr_bad (by rw [HL.out]; exact hn) (not_isPerm_of_step (by rw [HL.out]; exact hlt) hx)
      have HBAD := hid hbad
      clear hc h hbad
      generalize hxk : xs.getD k 0 = x at g1
      have HX := hid hxk
      clear hxk
      by_cases h0 : x < 0
      · go_wp2
        go_ret
        rw [HBAD.out (by rw [HX.out]; exact Or.inl h0)]
        exact ⟨rfl, HB.out⟩
      · have h0' : 0 ≤ x := by omega
        obtain ⟨m, rfl⟩ := Int.eq_ofNat_of_zero_le h0'
        clear h0 h0'
        have d0 : decide ((m : Int) < 0) = false := by simp
        by_cases h1 : n ≤ m
        · have d1 : decide ((n : Int) ≤ (m : Int)) = true := by simp; omega
          go_wp2
          go_ret
          rw [HBAD.out (by rw [HX.out, HL.out]; exact Or.inr (Or.inl (by omega)))]
          exact ⟨rfl, HB.out⟩
        · have d1 : decide ((n : Int) ≤ (m : Int)) = false := by simp; omega
          have hm : m < n := by omega
          have g2 : wr.cell? ⟨w.heap.size, m, none⟩ = some (.bool (decide ((m : Int) ∈ xs.take k))) := HR.out.cell (by omega)
          have g3 : wr.frozen? ⟨w.heap.size, m, none⟩ = false := HR.out.frozen m
          by_cases h2 : (m : Int) ∈ xs.take k
          · rw [decide_eq_true h2] at g2
            have H2 := hid h2
            clear h2
            go_wp2
            go_ret
            rw [HBAD.out (by rw [HX.out]; exact Or.inr (Or.inr H2.out))]
            exact ⟨rfl, HB.out⟩
          · rw [decide_eq_false h2] at g2
            have H2 := hid h2
            clear h2
            go_wp2
            go_roundg (n - (k + 1))
            case measure => omega
            case rel =>
              refine ⟨k + 1, by omega, by omega, by go_num, (HR.out.set m (.bool true)).congr (fun j _ => step_seen (by rw [HL.out]; exact hlt) HX.out j), HB.out.setCell (Nat.le_refl _) _, fun j hj => ?_⟩
              by_cases e : j = k
              · subst e
                rw [HX.out, HL.out]
                exact ⟨by omega, by omega, H2.out⟩
              · exact HA.out j (by omega)
    · have hkn : k = n := by omega
      subst hkn
      go_wp2
      go_ret
      rw [permErr_ok.2 ⟨by rw [h.len]; exact hn, isPerm_of_steps (by rw [h.len]; rw [h.len] at HA; exact HA.out)⟩]
      exact ⟨rfl, HB.out⟩

/-- perm.Check, whatever the slice. -/
theorem check_any (A : Option Addr) (n c : Nat) (xs : List Int) (w : World) (h : Ints w A n xs) (hm : n ≤ 9223372036854775807) :
    Calls Tryd.prog 30 #[.slice A n c] w fun e w' => e = .returned (.int .i64 (permErr xs)) ∧ Below w.heap.size w w' := by
  by_cases hn : 10 < n
  · refine (check_large A n c w hn hm).mono ?_
    rintro e w' ⟨rfl, rfl⟩
    have e : permErr xs = 2 := if_pos (by rw [h.len]; exact hn)
    rw [e]
    exact ⟨rfl, Below.refl _ _⟩
  · refine (check_small A n c xs w h (by omega)).mono ?_
    rintro e w' ⟨rfl, hb⟩
    exact ⟨rfl, hb⟩

end Go.Proofs.YtmdpfadfimodjaaDoor

/-
  perm.Times: the composition, or the error.
-/
namespace Go.Proofs.YtmdpfadfimodjaaDoor
open Go.RowKit

/-- The composition: i goes to a[b[i]]. -/
def times (a b : List Int) : List Int := b.map (fun v => a.getD v.toNat 0)
/-- P4's error of Times. -/
def timesErr (a b : List Int) : Int := if permErr a = 0 then (if permErr b = 0 then (if a.length = b.length then 0 else 1) else permErr b) else permErr a
def timesRes (a b : List Int) : List Int := if timesErr a b = 0 then times a b else []

theorem getD_times {a b : List Int} {k : Nat} (hk : k < b.length) : (times a b).getD k 0 = a.getD (b.getD k 0).toNat 0 := by
  simp [times, List.getD_eq_getElem?_getD, List.getElem?_eq_getElem hk]
theorem length_times (a b : List Int) : (times a b).length = b.length := by simp [times]

set_option maxHeartbeats 800000 in
theorem times_own (A : Option Addr) (n c : Nat) (B : Option Addr) (d : Nat) (a b : List Int) (w : World) (hA : Ints w A n a) (hB : Ints w B n b) (ha : permErr a = 0) (hb : permErr b = 0) :
    Calls Tryd.prog 8 #[.slice A n c, .slice B n d] w (RetOwnE w (times a b) 0) := by
  have hn10 : n ≤ 10 := by rw [← hA.len]; exact (permErr_ok.1 ha).1
  have hpb := (permErr_ok.1 hb).2
  have HPB := hid hpb
  clear hpb
  have hnn : ((n : Int) != (n : Int)) = false := by simp
  go_enter Tryd.func8, Tryd.ntmps8
  go_wp2_with fail
  refine (check_any A n c a _ hA (by omega)).mono ?_
  rintro e w1 ⟨rfl, hb1⟩
  have hA1 := hA.keep hb1
  have hB1 := hB.keep hb1
  have HB1 := hid hb1
  clear hA hB hb1
  go_wp2_with fail
  refine (check_any B n d b _ hB1 (by omega)).mono ?_
  rintro e w2 ⟨rfl, hb2⟩
  have hA2 := hA1.keep hb2
  have hB2 := hB1.keep hb2
  have HB2 := hid (HB1.out.trans (hb2.mono HB1.out.size))
  clear hA1 hB1 hb2 HB1
  have hmk := fun W => run_make_row' (P := Tryd.prog) 22 3 (.int .i64 0) 8 Tryd.underlying22 infoInt rfl .i64 .i64 n (by omega) (by omega) W
  go_wp2_with fail
  go_loopg [31] n (fun g s wr => ∃ k : Nat, k ≤ n ∧ n - k ≤ g ∧ s = .int .i64 k ∧ wr.rowIs w2.heap.size 3 n (partCell (times a b) k) ∧ Below w2.heap.size w2 wr)
  case atStart => exact ⟨0, Nat.zero_le _, by omega, rfl, (World.rowIs_made w2 _ n _).congr (fun j _ => by simp [partCell]), (Below.refl _ _).alloc (Nat.le_refl _) _⟩
  case round =>
    obtain ⟨k, hk, hg, rfl, hrow, hbel⟩ := hrel
    have HR := hid hrow
    have HB := hid hbel
    clear hrow hbel hmk
    by_cases hlt : k < n
    · obtain ⟨b2, o2, rfl, hlt2, hc2⟩ := hB2.row (by omega)
      obtain ⟨b1, o1, rfl, hlt1, hc1⟩ := hA2.row (by omega)
      have HL := hid hB2.len
      have hkl : k < b.length := by rw [HL.out]; exact hlt
      have hr := HPB.out.range (getD_mem hkl)
      rw [HL.out] at hr
      have g1 : wr.cell? ⟨b2, o2 + k, none⟩ = some (.int .i64 (b.getD k 0)) := (HB.out.cell (p := ⟨b2, o2 + k, none⟩) hlt2).trans (hc2 k hlt)
      have hst := getD_times (a := a) hkl
      generalize hxk : b.getD k 0 = x at g1 hr hst
      obtain ⟨m, rfl⟩ := Int.eq_ofNat_of_zero_le hr.1
      have hm : m < n := by omega
      have g2 : wr.cell? ⟨b1, o1 + m, none⟩ = some (.int .i64 (a.getD m 0)) := (HB.out.cell (p := ⟨b1, o1 + m, none⟩) hlt1).trans (hc1 m hm)
      have g3 : wr.cell? ⟨w2.heap.size, k, none⟩ = some (partCell (times a b) k k) := HR.out.cell hlt
      have g4 : wr.frozen? ⟨w2.heap.size, k, none⟩ = false := HR.out.frozen k
      rw [Int.toNat_natCast] at hst
      have HS := hid hst
      clear hst hxk hc1 hc2 hr hA2 hB2 hkl
      generalize a.getD m 0 = y at g2 HS
      go_wp2
      go_roundg (n - (k + 1))
      case measure => omega
      case rel =>
        refine ⟨k + 1, by omega, by omega, by go_num, ?_, HB.out.setCell (Nat.le_refl _) _⟩
        exact (HR.out.set k (.int .i64 y)).congr (fun j _ => by rw [← HS.out]; exact partCell_step _ _ _)
    · have hkn : k = n := by omega
      subst hkn
      go_wp2
      go_ret2
      refine ⟨_, rfl, own_of_rowIs HR.out (by rw [length_times, hB2.len]) (fun j hj => ?_) HB2.out.size (by unfold maxLen; omega), HB2.out.trans (HB.out.mono HB2.out.size)⟩
      unfold partCell
      rw [if_pos hj]

theorem times_ok (A : Option Addr) (n c : Nat) (B : Option Addr) (d : Nat) (a b : List Int) (w : World) (hA : Ints w A n a) (hB : Ints w B n b) (ha : permErr a = 0) (hb : permErr b = 0) :
    Calls Tryd.prog 8 #[.slice A n c, .slice B n d] w (RetInts w (times a b) 0) := by
  refine (times_own A n c B d a b w hA hB ha hb).mono ?_
  rintro e w' ⟨v, rfl, ho, hbel⟩
  obtain ⟨A', c', rfl, hI, hc⟩ := ho.ints
  exact ⟨_, _, _, rfl, hbel, hI, hc⟩

end Go.Proofs.YtmdpfadfimodjaaDoor

/-
  The verifier's helpers: castref.Rest, castkeep.Within, castref.Dealt, castkeep.PermOf: an order made of lots.
-/
namespace Go.Proofs.YtmdpfadfimodjaaDoor
open Go.RowKit

def dealStep (p : List Int) (x : Int) : List Int := swapAt (p ++ [(p.length : Int)]) p.length x.toNat
def dealt (lots : List Int) : List Int := lots.foldl dealStep []

theorem length_dealStep (p : List Int) (x : Int) : (dealStep p x).length = p.length + 1 := by simp [dealStep, length_swapAt]

theorem mem_swapAt {l : List Int} {i j : Nat} (hi : i < l.length) (hj : j < l.length) {x : Int} (hx : x ∈ l) : x ∈ swapAt l i j := by
  obtain ⟨k, hk, rfl⟩ := mem_getD hx
  have hget : ∀ m, m < l.length → (swapAt l i j).getD m 0 ∈ swapAt l i j := fun m hm => getD_mem (by rw [length_swapAt]; exact hm)
  by_cases h1 : k = i
  · subst h1
    have := hget j hj
    rwa [getD_swapAt hi hj, if_pos rfl] at this
  · by_cases h2 : k = j
    · subst h2
      have := hget i hi
      rw [getD_swapAt hi hj] at this
      by_cases e : i = k
      · exact absurd e.symm h1
      · rwa [if_neg e, if_pos rfl] at this
    · have := hget k hk
      rwa [getD_swapAt hi hj, if_neg h2, if_neg h1] at this

theorem isPerm_swapAt {l : List Int} {i j : Nat} (h : IsPerm l) (hi : i < l.length) (hj : j < l.length) : IsPerm (swapAt l i j) :=
  isPerm_of_all fun k hk => mem_swapAt hi hj (h.all k (by rw [length_swapAt] at hk; exact hk))

theorem isPerm_snoc {p : List Int} (h : IsPerm p) : IsPerm (p ++ [(p.length : Int)]) :=
  isPerm_of_all fun k hk => by
    simp only [List.length_append, List.length_cons, List.length_nil] at hk
    by_cases e : k = p.length
    · simp [e]
    · exact List.mem_append.2 (.inl (h.all k (by omega)))

theorem isPerm_dealStep {p : List Int} {x : Int} (h : IsPerm p) (h1 : x ≤ p.length) : IsPerm (dealStep p x) :=
  isPerm_swapAt (isPerm_snoc h) (by simp) (by simp; omega)

theorem dealt_snoc (l : List Int) (x : Int) : dealt (l ++ [x]) = dealStep (dealt l) x := by simp [dealt, List.foldl_append]
theorem length_foldl_deal (l p : List Int) : (l.foldl dealStep p).length = p.length + l.length := by
  induction l generalizing p with
  | nil => simp
  | cons a t ih => rw [List.foldl_cons, ih, length_dealStep, List.length_cons]; omega
theorem length_dealt (l : List Int) : (dealt l).length = l.length := by rw [dealt, length_foldl_deal]; simp

/-- Lots: each from 0 to its place. -/
def IsLots (l : List Int) : Prop := ∀ i, i < l.length → 0 ≤ l.getD i 0 ∧ l.getD i 0 ≤ i

theorem isPerm_dealt_take {l : List Int} (h : IsLots l) : ∀ k, k ≤ l.length → IsPerm (dealt (l.take k))
  | 0, _ => isPerm_of_all fun i hi => by simp [dealt] at hi
  | k + 1, hk => by
    rw [take_snoc (by omega), dealt_snoc]
    refine isPerm_dealStep (isPerm_dealt_take h k (by omega)) ?_
    rw [length_dealt, List.length_take]
    have := h k (by omega)
    omega
theorem isPerm_dealt {l : List Int} (h : IsLots l) : IsPerm (dealt l) := by
  have := isPerm_dealt_take h l.length (Nat.le_refl _)
  rwa [List.take_of_length_le (Nat.le_refl _)] at this

/-! ### Rest, Within -/

/-! ### Dealt -/

/-! ### PermOf -/

/-- The lots that PermOf makes of any numbers. -/
def lotsOf (xs : List Int) : List Int := (List.range xs.length).map (fun i : Nat => xs.getD i 0 % ((i : Int) + 1))
theorem length_lotsOf (xs : List Int) : (lotsOf xs).length = xs.length := by simp [lotsOf]
theorem getD_lotsOf {xs : List Int} {i : Nat} (h : i < xs.length) : (lotsOf xs).getD i 0 = xs.getD i 0 % ((i : Int) + 1) := by
  simp [lotsOf, List.getD_eq_getElem?_getD, h]
theorem isLots_lotsOf (xs : List Int) : IsLots (lotsOf xs) := by
  intro i hi
  rw [length_lotsOf] at hi
  rw [getD_lotsOf hi]
  have h1 := Int.emod_nonneg (xs.getD i 0) (show ((i : Int) + 1) ≠ 0 by omega)
  have h2 := Int.emod_lt_of_pos (xs.getD i 0) (show 0 < ((i : Int) + 1) by omega)
  omega

end Go.Proofs.YtmdpfadfimodjaaDoor

/-
  The library's slices.IsSorted at []int; the verifier's castkeep.good.
-/
namespace Go.Proofs.YtmdpfadfimodjaaDoor
open Go.RowKit

set_option maxHeartbeats 400000 in
theorem isNaN_any (x : Int) (w : World) : Calls Tryd.prog 55 #[.int .i64 x] w fun e w' => e = .returned (.bool false) ∧ w = w' := by
  have hx : (x != x) = false := by simp
  go_enter Tryd.func55, Tryd.ntmps55
  go_wp2
  go_ret
  exact ⟨rfl, rfl⟩

/-- Does no number fall? -/
def sortedB (xs : List Int) : Bool := (List.range (xs.length - 1)).all (fun i => decide (xs.getD i 0 ≤ xs.getD (i + 1) 0))

theorem sortedB_true {xs : List Int} : sortedB xs = true ↔ ∀ i, i + 1 < xs.length → xs.getD i 0 ≤ xs.getD (i + 1) 0 := by
  simp only [sortedB, List.all_eq_true, List.mem_range, decide_eq_true_eq]
  exact ⟨fun h i hi => h i (by omega), fun h i hi => h i (by omega)⟩

theorem quiet_left {P : Program} {f : FuncId} {args : Array Value} {w : World} {v : Value} (h : Calls P f args w fun e w' => e = .returned v ∧ w = w') : Calls P f args w fun e w'' => e = .returned v ∧ w'' = w :=
  h.mono fun _ _ ⟨he, hw⟩ => ⟨he, hw.symm⟩

end Go.Proofs.YtmdpfadfimodjaaDoor

/-
  cmp.Compare, slices.Compare at ints.
-/
namespace Go.Proofs.YtmdpfadfimodjaaDoor
open Go.RowKit

def cmpI (a b : Int) : Int := if a < b then -1 else if b < a then 1 else 0
theorem cmpI_bd (a b : Int) : -1 ≤ cmpI a b ∧ cmpI a b ≤ 1 := by unfold cmpI; split <;> (try split) <;> omega
theorem cmpI_neg {a b : Int} : decide (cmpI a b < 0) = decide (a < b) := by
  unfold cmpI
  by_cases h : a < b
  · simp [h]
  · by_cases h2 : b < a <;> simp [h, h2]

set_option maxHeartbeats 400000 in
theorem compare_any (a b : Int) (w : World) : Calls Tryd.prog 34 #[.int .i64 a, .int .i64 b] w fun e w' => e = .returned (.int .i64 (cmpI a b)) ∧ w = w' := by
  by_cases h : a < b
  · have e : cmpI a b = -1 := if_pos h
    have HE := hid e
    clear e
    go_enter Tryd.func34, Tryd.ntmps34
    go_wp2_with (go_at_call 55; refine (isNaN_any _ _).mono ?_; rintro e w' ⟨rfl, rfl⟩)
    go_ret
    exact ⟨by rw [HE.out]; rfl, rfl⟩
  · by_cases h2 : b < a
    · have e : cmpI a b = 1 := by unfold cmpI; rw [if_neg h, if_pos h2]
      have HE := hid e
      clear e
      go_enter Tryd.func34, Tryd.ntmps34
      go_wp2_with (go_at_call 55; refine (isNaN_any _ _).mono ?_; rintro e w' ⟨rfl, rfl⟩)
      go_ret
      exact ⟨by rw [HE.out]; rfl, rfl⟩
    · have e : cmpI a b = 0 := by unfold cmpI; rw [if_neg h, if_neg h2]
      have HE := hid e
      clear e
      go_enter Tryd.func34, Tryd.ntmps34
      go_wp2_with (go_at_call 55; refine (isNaN_any _ _).mono ?_; rintro e w' ⟨rfl, rfl⟩)
      go_ret
      exact ⟨by rw [HE.out]; rfl, rfl⟩

def cmpL : List Int → List Int → Int
  | [], [] => 0
  | [], _ :: _ => -1
  | _ :: _, [] => 1
  | x :: l, y :: m => if x < y then -1 else if y < x then 1 else cmpL l m

theorem cmpL_step {xs ys : List Int} {k : Nat} (h1 : k < xs.length) (h2 : k < ys.length) : cmpL (xs.drop k) (ys.drop k) = if cmpI (xs.getD k 0) (ys.getD k 0) = 0 then cmpL (xs.drop (k + 1)) (ys.drop (k + 1)) else cmpI (xs.getD k 0) (ys.getD k 0) := by
  have e1 : xs.getD k 0 = xs[k] := by rw [List.getD_eq_getElem?_getD, List.getElem?_eq_getElem h1]; rfl
  have e2 : ys.getD k 0 = ys[k] := by rw [List.getD_eq_getElem?_getD, List.getElem?_eq_getElem h2]; rfl
  rw [List.drop_eq_getElem_cons h1, List.drop_eq_getElem_cons h2, e1, e2]
  simp only [cmpL, cmpI]
  split
  · rfl
  · split <;> rfl

end Go.Proofs.YtmdpfadfimodjaaDoor

/-
  slices.Index, slices.Contains at []int.
-/
namespace Go.Proofs.YtmdpfadfimodjaaDoor
open Go.RowKit

/-- It stands first at r. -/
def FirstAt (xs : List Int) (v : Int) (r : Nat) : Prop := r < xs.length ∧ xs.getD r 0 = v ∧ ∀ j, j < r → xs.getD j 0 ≠ v
/-- The place at which it stands first, or -1. -/
def IdxIs (xs : List Int) (v : Int) (w : World) (e : Ending) (w' : World) : Prop := ∃ r : Int, e = .returned (.int .i64 r) ∧ decide (0 ≤ r) = decide (v ∈ xs) ∧ w = w' ∧ (v ∈ xs → ∃ k : Nat, r = k ∧ FirstAt xs v k)

set_option maxHeartbeats 800000 in
theorem index_any (A : Option Addr) (n c : Nat) (xs : List Int) (v : Int) (w : World) (h : Ints w A n xs) (hn : n ≤ 1000000) :
    Calls Tryd.prog 37 #[.slice A n c, .int .i64 v] w (IdxIs xs v w) := by
  go_enter Tryd.func37, Tryd.ntmps37
  go_wp2
  go_loopg [8] n (fun g s wr => ∃ k : Nat, k ≤ n ∧ n - k ≤ g ∧ s = .int .i64 k ∧ w = wr ∧ ∀ j, j < k → xs.getD j 0 ≠ v)
  case atStart => exact ⟨0, Nat.zero_le _, by omega, rfl, rfl, fun j hj => absurd hj (Nat.not_lt_zero _)⟩
  case round =>
    obtain ⟨k, hk, hg, rfl, rfl, hall⟩ := hrel
    have HA := hid hall
    have HL := hid h.len
    clear hall
    by_cases hlt : k < n
    · obtain ⟨b, o, rfl, hb, hc⟩ := h.row (by omega)
      have g1 := hc k hlt
      have HM := hid (getD_mem (show k < xs.length by rw [HL.out]; exact hlt))
      clear hc h
      generalize hx : xs.getD k 0 = x at g1 HM
      have HX := hid hx
      clear hx
      by_cases hz : v = x
      · have hz' : (v == x) = true := by simpa using hz
        have HZ := hid hz
        clear hz
        go_wp2
        go_ret
        exact ⟨_, rfl, by rw [HZ.out, decide_eq_true HM.out]; simp, rfl, fun _ => ⟨k, rfl, by rw [HL.out]; exact hlt, by rw [HX.out, HZ.out], HA.out⟩⟩
      · have hz' : (v == x) = false := by simpa using hz
        go_wp2
        go_roundg (n - (k + 1))
        case measure => omega
        case rel =>
          refine ⟨k + 1, by omega, by omega, by go_num, rfl, fun j hj => ?_⟩
          by_cases e : j = k
          · subst e
            rw [HX.out]
            exact fun e => hz e.symm
          · exact HA.out j (by omega)
    · go_wp2
      go_ret
      have hv : ¬ v ∈ xs := fun hm => by
        obtain ⟨i, hi, e⟩ := mem_getD hm
        exact HA.out i (by rw [HL.out] at hi; omega) e
      exact ⟨_, rfl, by rw [decide_eq_false hv]; rfl, rfl, fun h => absurd h hv⟩

set_option maxHeartbeats 400000 in
theorem contains_any (A : Option Addr) (n c : Nat) (xs : List Int) (v : Int) (w : World) (h : Ints w A n xs) (hn : n ≤ 1000000) :
    Calls Tryd.prog 25 #[.slice A n c, .int .i64 v] w fun e w' => e = .returned (.bool (decide (v ∈ xs))) ∧ w = w' := by
  go_enter Tryd.func25, Tryd.ntmps25
  go_wp2_with fail
  refine (index_any A n c xs v _ h hn).mono ?_
  rintro e w' ⟨r, rfl, hr, rfl, _⟩
  have HR := hid hr
  clear hr
  go_wp2
  go_ret
  exact ⟨by rw [← HR.out]; rfl, rfl⟩

theorem contains_yes (A : Option Addr) (n c : Nat) (xs : List Int) (v : Int) (w : World) (h : Ints w A n xs) (hn : n ≤ 1000000) (hv : v ∈ xs) :
    Calls Tryd.prog 25 #[.slice A n c, .int .i64 v] w fun e w' => e = .returned (.bool true) ∧ w' = w := by
  refine (contains_any A n c xs v w h hn).mono ?_
  rintro e w' ⟨rfl, rfl⟩
  rw [decide_eq_true hv]
  exact ⟨rfl, rfl⟩
theorem contains_no (A : Option Addr) (n c : Nat) (xs : List Int) (v : Int) (w : World) (h : Ints w A n xs) (hn : n ≤ 1000000) (hv : ¬ v ∈ xs) :
    Calls Tryd.prog 25 #[.slice A n c, .int .i64 v] w fun e w' => e = .returned (.bool false) ∧ w' = w := by
  refine (contains_any A n c xs v w h hn).mono ?_
  rintro e w' ⟨rfl, rfl⟩
  rw [decide_eq_false hv]
  exact ⟨rfl, rfl⟩

end Go.Proofs.YtmdpfadfimodjaaDoor

/-
  Things in heaps: plain mathematics. Nothing of the program is proved here.
-/
namespace Go.Proofs.YtmdpfadfimodjaaDoor
open Go.RowKit

/-! ### Restricted growth -/

/-- How many heaps there are. -/
def bkStep (b : Nat) (x : Int) : Nat := if x = (b : Int) then b + 1 else b
def bk (l : List Int) : Nat := l.foldl bkStep 0
theorem bk_snoc (l : List Int) (x : Int) : bk (l ++ [x]) = if x = ((bk l : Nat) : Int) then bk l + 1 else bk l := by
  unfold bk
  rw [List.foldl_append]
  rfl
theorem bk_take {g : List Int} {k : Nat} (hk : k < g.length) : bk (g.take (k + 1)) = if g.getD k 0 = ((bk (g.take k) : Nat) : Int) then bk (g.take k) + 1 else bk (g.take k) := by
  rw [take_snoc hk, bk_snoc]
theorem bk_zero (g : List Int) : bk (g.take 0) = 0 := rfl
theorem bk_le (g : List Int) : ∀ k, bk (g.take k) ≤ k
  | 0 => Nat.le_refl _
  | k + 1 => by
    have ih := bk_le g k
    rcases Nat.lt_or_ge k g.length with h | h
    · rw [bk_take h]
      split <;> omega
    · rw [List.take_of_length_le (by omega)] at ih ⊢
      omega
theorem bk_up (g : List Int) (k : Nat) : bk (g.take k) ≤ bk (g.take (k + 1)) := by
  rcases Nat.lt_or_ge k g.length with h | h
  · rw [bk_take h]
    split <;> omega
  · rw [List.take_of_length_le h, List.take_of_length_le (by omega)]
    exact Nat.le_refl _

/-- The first k are right. -/
def RgsTo (g : List Int) (k : Nat) : Prop := ∀ j, j < k → 0 ≤ g.getD j 0 ∧ g.getD j 0 ≤ ((bk (g.take j) : Nat) : Int)
def Rgs (g : List Int) : Prop := RgsTo g g.length
instance decRgs (g : List Int) : Decidable (Rgs g) := by
  unfold Rgs RgsTo
  exact inferInstance
theorem RgsTo.succ {g : List Int} {k : Nat} (h : RgsTo g k) (h0 : 0 ≤ g.getD k 0) (h1 : g.getD k 0 ≤ ((bk (g.take k) : Nat) : Int)) : RgsTo g (k + 1) := by
  intro j hj
  by_cases e : j = k
  · subst e
    exact ⟨h0, h1⟩
  · exact h j (by omega)
theorem RgsTo.less {g : List Int} {k m : Nat} (h : RgsTo g k) (hm : m ≤ k) : RgsTo g m := fun j hj => h j (by omega)

theorem mem_take_snoc {g : List Int} {k : Nat} (hk : k < g.length) (y : Int) : y ∈ g.take (k + 1) ↔ y ∈ g.take k ∨ y = g.getD k 0 := by
  rw [take_snoc hk, List.mem_append, List.mem_singleton]

/-- What stands in it: each number below how many heaps there are. -/
theorem mem_rgs {g : List Int} : ∀ {k : Nat}, k ≤ g.length → RgsTo g k → ∀ y, y ∈ g.take k ↔ 0 ≤ y ∧ y < ((bk (g.take k) : Nat) : Int)
  | 0, _, _, y => by
    rw [bk_zero, List.take_zero]
    constructor
    · intro h
      cases h
    · intro h
      omega
  | k + 1, hk, h, y => by
    have ih := mem_rgs (k := k) (by omega) (h.less (by omega)) y
    have hk2 := h k (by omega)
    rw [mem_take_snoc (by omega), ih, bk_take (by omega)]
    generalize g.getD k 0 = x at *
    generalize bk (g.take k) = b at *
    split
    · omega
    · omega

/-- P23. -/
def heapErr (g : List Int) : Int := if 10 < g.length then 2 else if Rgs g then 0 else 3
theorem heapErr_large {g : List Int} (h : 10 < g.length) : heapErr g = 2 := if_pos h
theorem heapErr_ok {g : List Int} (h : g.length ≤ 10) (hr : Rgs g) : heapErr g = 0 := by
  unfold heapErr
  rw [if_neg (by omega), if_pos hr]
theorem heapErr_form {g : List Int} (h : g.length ≤ 10) (hr : ¬ Rgs g) : heapErr g = 3 := by
  unfold heapErr
  rw [if_neg (by omega), if_neg hr]
theorem heapErr_zero {g : List Int} (h : heapErr g = 0) : g.length ≤ 10 ∧ Rgs g := by
  unfold heapErr at h
  by_cases h1 : 10 < g.length
  · rw [if_pos h1] at h
    omega
  · rw [if_neg h1] at h
    by_cases h2 : Rgs g
    · exact ⟨by omega, h2⟩
    · rw [if_neg h2] at h
      omega

/-! ### The next one -/

/-- The last place of the first k at which a greater number may stand. -/
def ltg (g : List Int) : Nat → Int
  | 0 => -1
  | k + 1 => if g.getD k 0 < ((bk (g.take k) : Nat) : Int) then (k : Int) else ltg g k
theorem ltg_yes {g : List Int} {k : Nat} (h : g.getD k 0 < ((bk (g.take k) : Nat) : Int)) : ltg g (k + 1) = k := if_pos h
theorem ltg_no {g : List Int} {k : Nat} (h : ¬ g.getD k 0 < ((bk (g.take k) : Nat) : Int)) : ltg g (k + 1) = ltg g k := if_neg h
theorem ltg_bd (g : List Int) : ∀ k : Nat, -1 ≤ ltg g k ∧ ltg g k < k
  | 0 => by unfold ltg; omega
  | k + 1 => by
    have ih := ltg_bd g k
    unfold ltg
    split <;> omega
theorem ltg_none {g : List Int} : ∀ {k : Nat}, ltg g k < 0 → ∀ j, j < k → ¬ g.getD j 0 < ((bk (g.take j) : Nat) : Int)
  | 0, _, j, hj => absurd hj (Nat.not_lt_zero _)
  | k + 1, h, j, hj => by
    by_cases hk : g.getD k 0 < ((bk (g.take k) : Nat) : Int)
    · rw [ltg_yes hk] at h
      omega
    · rw [ltg_no hk] at h
      by_cases e : j = k
      · subst e
        exact hk
      · exact ltg_none h j (by omega)
theorem ltg_some {g : List Int} {L : Nat} : ∀ {k : Nat}, ltg g k = (L : Int) → L < k ∧ g.getD L 0 < ((bk (g.take L) : Nat) : Int) ∧ ∀ j, L < j → j < k → ¬ g.getD j 0 < ((bk (g.take j) : Nat) : Int)
  | 0, h => by unfold ltg at h; omega
  | k + 1, h => by
    by_cases hk : g.getD k 0 < ((bk (g.take k) : Nat) : Int)
    · rw [ltg_yes hk] at h
      have e : k = L := by omega
      subst e
      exact ⟨by omega, hk, fun j h1 h2 => by omega⟩
    · rw [ltg_no hk] at h
      obtain ⟨h1, h2, h3⟩ := ltg_some h
      refine ⟨by omega, h2, fun j h4 h5 => ?_⟩
      by_cases e : j = k
      · subst e
        exact hk
      · exact h3 j h4 (by omega)

def nextL (g : List Int) (L : Nat) : List Int := g.take L ++ [g.getD L 0 + 1] ++ List.replicate (g.length - (L + 1)) 0
theorem length_nextL {g : List Int} {L : Nat} (h : L < g.length) : (nextL g L).length = g.length := by
  simp [nextL]
  omega
theorem getD_nextL {g : List Int} {L : Nat} (h : L < g.length) (j : Nat) : (nextL g L).getD j 0 = if j < L then g.getD j 0 else if j = L then g.getD L 0 + 1 else 0 := by
  unfold nextL
  rw [List.append_assoc]
  simp only [List.getD_eq_getElem?_getD]
  have hl : (g.take L).length = L := by rw [List.length_take]; omega
  by_cases h1 : j < L
  · rw [if_pos h1, List.getElem?_append_left (by omega), List.getElem?_take, if_pos h1]
  · rw [if_neg h1, List.getElem?_append_right (by omega), hl]
    by_cases h2 : j = L
    · subst h2
      rw [if_pos rfl]
      simp
    · rw [if_neg h2, List.getElem?_append_right (by simp; omega)]
      simp only [List.length_singleton, List.getElem?_replicate]
      split <;> rfl
theorem take_nextL {g : List Int} {L j : Nat} (h : L < g.length) (hj : j ≤ L) : (nextL g L).take j = g.take j := by
  unfold nextL
  rw [List.append_assoc, List.take_append_of_le_length (by rw [List.length_take]; omega), List.take_take, Nat.min_eq_left hj]
theorem rgs_nextL {g : List Int} {L : Nat} (h : L < g.length) (hr : Rgs g) (hL : g.getD L 0 < ((bk (g.take L) : Nat) : Int)) : Rgs (nextL g L) := by
  intro j hj
  rw [length_nextL h] at hj
  have h0 := hr j hj
  rw [getD_nextL h]
  by_cases h1 : j < L
  · rw [if_pos h1, take_nextL h (by omega)]
    exact h0
  · rw [if_neg h1]
    by_cases h2 : j = L
    · subst h2
      rw [if_pos rfl, take_nextL h (Nat.le_refl _)]
      omega
    · rw [if_neg h2]
      omega

/-! ### In order -/

theorem cmpL_cases : ∀ (a b : List Int), a.length = b.length → (a = b ∧ cmpL a b = 0) ∨ ∃ d, d < a.length ∧ (∀ j, j < d → a.getD j 0 = b.getD j 0) ∧ ((a.getD d 0 < b.getD d 0 ∧ cmpL a b = -1) ∨ (b.getD d 0 < a.getD d 0 ∧ cmpL a b = 1))
  | [], [], _ => .inl ⟨rfl, rfl⟩
  | [], _ :: _, h => by simp at h
  | _ :: _, [], h => by simp at h
  | x :: a, y :: b, h => by
    have hl : a.length = b.length := by simpa using h
    by_cases h1 : x < y
    · exact .inr ⟨0, by simp, fun j hj => absurd hj (Nat.not_lt_zero _), .inl ⟨by simpa using h1, by simp only [cmpL]; rw [if_pos h1]⟩⟩
    · by_cases h2 : y < x
      · exact .inr ⟨0, by simp, fun j hj => absurd hj (Nat.not_lt_zero _), .inr ⟨by simpa using h2, by simp only [cmpL]; rw [if_neg h1, if_pos h2]⟩⟩
      · have e : x = y := by omega
        subst e
        have hc : cmpL (x :: a) (x :: b) = cmpL a b := by simp only [cmpL]; rw [if_neg h1, if_neg h1]
        rw [hc]
        rcases cmpL_cases a b hl with ⟨rfl, h3⟩ | ⟨d, hd, hj, h3⟩
        · exact .inl ⟨rfl, h3⟩
        · refine .inr ⟨d + 1, by simpa using hd, fun j hjd => ?_, by simpa using h3⟩
          cases j with
          | zero => rfl
          | succ j => simpa using hj j (by omega)

theorem cmpL_of_lt {a b : List Int} {d : Nat} (hl : a.length = b.length) (_hd : d < a.length) (he : ∀ j, j < d → a.getD j 0 = b.getD j 0) (h : a.getD d 0 < b.getD d 0) : cmpL a b = -1 := by
  rcases cmpL_cases a b hl with ⟨rfl, _⟩ | ⟨d', _, hj, hh⟩
  · omega
  · rcases Nat.lt_trichotomy d d' with h1 | h1 | h1
    · have := hj d h1
      omega
    · subst h1
      rcases hh with hh | hh
      · exact hh.2
      · omega
    · have := he d' h1
      omega
theorem cmpL_of_gt {a b : List Int} {d : Nat} (hl : a.length = b.length) (_hd : d < a.length) (he : ∀ j, j < d → a.getD j 0 = b.getD j 0) (h : b.getD d 0 < a.getD d 0) : cmpL a b = 1 := by
  rcases cmpL_cases a b hl with ⟨rfl, _⟩ | ⟨d', _, hj, hh⟩
  · omega
  · rcases Nat.lt_trichotomy d d' with h1 | h1 | h1
    · have := hj d h1
      omega
    · subst h1
      rcases hh with hh | hh
      · omega
      · exact hh.2
    · have := he d' h1
      omega

theorem bk_alike {a b : List Int} (hl : a.length = b.length) : ∀ {d : Nat}, d ≤ a.length → (∀ j, j < d → a.getD j 0 = b.getD j 0) → bk (a.take d) = bk (b.take d)
  | 0, _, _ => rfl
  | d + 1, hd, h => by
    have ih := bk_alike hl (d := d) (by omega) (fun j hj => h j (by omega))
    rw [bk_take (by omega), bk_take (by omega), h d (by omega), ih]

/-- Something right stands behind it: at that place a greater number may stand. -/
theorem behind {a b : List Int} (hl : b.length = a.length) (hb : Rgs b) (h : 0 < cmpL b a) : ∃ d, d < a.length ∧ (∀ j, j < d → b.getD j 0 = a.getD j 0) ∧ a.getD d 0 < b.getD d 0 ∧ a.getD d 0 < ((bk (a.take d) : Nat) : Int) := by
  rcases cmpL_cases b a hl with ⟨_, h0⟩ | ⟨d, hd, hj, hh⟩
  · omega
  · rcases hh with hh | hh
    · omega
    · have h1 := (hb d hd).2
      rw [bk_alike hl (by omega) hj] at h1
      exact ⟨d, by omega, hj, hh.1, by omega⟩
theorem none_behind {a b : List Int} (hl : b.length = a.length) (hb : Rgs b) (h : ltg a a.length < 0) : cmpL b a ≤ 0 := by
  rcases Int.lt_or_le 0 (cmpL b a) with h1 | h1
  · obtain ⟨d, hd, _, _, h2⟩ := behind hl hb h1
    exact absurd h2 (ltg_none h d hd)
  · exact h1
theorem next_ahead {a : List Int} {L : Nat} (h : L < a.length) : cmpL a (nextL a L) = -1 := by
  refine cmpL_of_lt (d := L) (length_nextL h).symm h (fun j hj => ?_) ?_
  · rw [getD_nextL h, if_pos hj]
  · rw [getD_nextL h, if_neg (by omega), if_pos rfl]
    omega
theorem none_between {a b : List Int} {L : Nat} (hl : b.length = a.length) (hb : Rgs b) (h : ltg a a.length = (L : Int)) : cmpL b a ≤ 0 ∨ 0 ≤ cmpL b (nextL a L) := by
  rcases Int.lt_or_le 0 (cmpL b a) with h1 | h1
  · obtain ⟨d, hd, hj, h2, h3⟩ := behind hl hb h1
    obtain ⟨l1, _, l3⟩ := ltg_some h
    have hn := length_nextL l1
    right
    have hdL : d ≤ L := by
      rcases Nat.lt_or_ge L d with h4 | h4
      · exact absurd h3 (l3 d h4 hd)
      · exact h4
    rcases cmpL_cases b (nextL a L) (by omega) with ⟨_, h5⟩ | ⟨e, he, hje, hh⟩
    · omega
    · rcases hh with hh | hh
      · exfalso
        have h6 := (hb e he).1
        rw [getD_nextL l1] at hh
        by_cases c1 : e < L
        · rw [if_pos c1] at hh
          rcases Nat.lt_trichotomy e d with c2 | c2 | c2
          · have := hj e c2
            omega
          · subst c2
            omega
          · have h7 := hje d c2
            rw [getD_nextL l1, if_pos (by omega)] at h7
            omega
        · rw [if_neg c1] at hh
          by_cases c2 : e = L
          · subst c2
            rw [if_pos rfl] at hh
            rcases Nat.lt_or_ge d e with c3 | c3
            · have h7 := hje d c3
              rw [getD_nextL l1, if_pos (by omega)] at h7
              omega
            · have : d = e := by omega
              subst this
              omega
          · rw [if_neg c2] at hh
            omega
      · omega
  · exact .inl h1

/-! ### Heaps by what is alike -/

def ixf : List Int → Int → Nat
  | [], _ => 0
  | x :: l, v => if x = v then 0 else ixf l v + 1
theorem FirstAt.only {l : List Int} {v : Int} {r s : Nat} (h : FirstAt l v r) (k : FirstAt l v s) : r = s := by
  rcases Nat.lt_trichotomy r s with c | c | c
  · exact absurd h.2.1 (k.2.2 r c)
  · exact c
  · exact absurd k.2.1 (h.2.2 s c)
theorem ixf_first : ∀ {l : List Int} {v : Int}, v ∈ l → FirstAt l v (ixf l v)
  | [], _, h => by cases h
  | x :: l, v, h => by
    unfold ixf
    by_cases e : x = v
    · rw [if_pos e]
      exact ⟨by simp, by simpa using e, fun j hj => absurd hj (Nat.not_lt_zero _)⟩
    · rw [if_neg e]
      have hm : v ∈ l := by
        rcases List.mem_cons.1 h with h | h
        · exact absurd h.symm e
        · exact h
      obtain ⟨h1, h2, h3⟩ := ixf_first hm
      refine ⟨by simpa using h1, by simpa using h2, fun j hj => ?_⟩
      cases j with
      | zero => simpa using e
      | succ j => simpa using h3 j (by omega)
/-- The first place of the like. -/
def ix (l : List Int) (i : Nat) : Nat := ixf l (l.getD i 0)
theorem ix_first {l : List Int} {i : Nat} (h : i < l.length) : FirstAt l (l.getD i 0) (ix l i) := ixf_first (getD_mem h)
theorem ix_of {l : List Int} {i r : Nat} (h : FirstAt l (l.getD i 0) r) (hi : i < l.length) : ix l i = r := (ix_first hi).only h
theorem ix_le {l : List Int} {i : Nat} (h : i < l.length) : ix l i ≤ i := by
  rcases Nat.lt_or_ge i (ix l i) with c | c
  · exact absurd rfl ((ix_first h).2.2 i c)
  · exact c
theorem ix_getD {l : List Int} {i : Nat} (h : i < l.length) : l.getD (ix l i) 0 = l.getD i 0 := (ix_first h).2.1
theorem ix_ix {l : List Int} {i : Nat} (h : i < l.length) : ix l (ix l i) = ix l i := by
  have e := ix_getD h
  unfold ix at e ⊢
  rw [e]
theorem ix_eq {l : List Int} {i j : Nat} (e : l.getD i 0 = l.getD j 0) : ix l i = ix l j := by
  unfold ix
  rw [e]

/-- How many new ones there are among the first k. -/
def nf (l : List Int) : Nat → Nat
  | 0 => 0
  | k + 1 => nf l k + if ix l k = k then 1 else 0
theorem nf_new {l : List Int} {k : Nat} (h : ix l k = k) : nf l (k + 1) = nf l k + 1 := by
  show nf l k + _ = _
  rw [if_pos h]
theorem nf_old {l : List Int} {k : Nat} (h : ix l k ≠ k) : nf l (k + 1) = nf l k := by
  show nf l k + _ = _
  rw [if_neg h]
  rfl
theorem nf_mono (l : List Int) {a b : Nat} (h : a ≤ b) : nf l a ≤ nf l b := by
  induction h with
  | refl => exact Nat.le_refl _
  | step _ ih => exact Nat.le_trans ih (Nat.le_add_right _ _)
theorem nf_le (l : List Int) : ∀ k, nf l k ≤ k
  | 0 => Nat.le_refl _
  | k + 1 => by
    have := nf_le l k
    show nf l k + _ ≤ _
    split <;> omega
theorem nf_lt {l : List Int} {a b : Nat} (ha : ix l a = a) (h : a < b) : nf l a < nf l b := by
  have h1 := nf_mono l (show a + 1 ≤ b from h)
  rw [nf_new ha] at h1
  omega
theorem nf_inj {l : List Int} {a b : Nat} (ha : ix l a = a) (hb : ix l b = b) (h : nf l a = nf l b) : a = b := by
  rcases Nat.lt_trichotomy a b with c | c | c
  · have := nf_lt ha c
    omega
  · exact c
  · have := nf_lt hb c
    omega

/-- P26. -/
def ofL (l : List Int) : List Int := (List.range l.length).map (fun i => ((nf l (ix l i) : Nat) : Int))
theorem length_ofL (l : List Int) : (ofL l).length = l.length := by simp [ofL]
theorem getD_ofL {l : List Int} {i : Nat} (h : i < l.length) : (ofL l).getD i 0 = ((nf l (ix l i) : Nat) : Int) := by
  simp [ofL, List.getD_eq_getElem?_getD, h]
theorem bk_ofL {l : List Int} : ∀ {k : Nat}, k ≤ l.length → bk ((ofL l).take k) = nf l k
  | 0, _ => rfl
  | k + 1, hk => by
    have ih := bk_ofL (l := l) (k := k) (by omega)
    rw [bk_take (by rw [length_ofL]; omega), ih, getD_ofL (by omega)]
    by_cases e : ix l k = k
    · rw [e, if_pos rfl, nf_new e]
    · have h1 := ix_le (l := l) (i := k) (by omega)
      have h2 := nf_lt (ix_ix (l := l) (i := k) (by omega)) (show ix l k < k by omega)
      rw [if_neg (by omega), nf_old e]
theorem rgs_ofL (l : List Int) : Rgs (ofL l) := by
  intro j hj
  rw [length_ofL] at hj
  rw [getD_ofL hj, bk_ofL (by omega)]
  have := nf_mono l (ix_le hj)
  omega
theorem ofL_alike {l : List Int} {x y : Nat} (hx : x < l.length) (hy : y < l.length) : (ofL l).getD x 0 = (ofL l).getD y 0 ↔ l.getD x 0 = l.getD y 0 := by
  rw [getD_ofL hx, getD_ofL hy]
  constructor
  · intro h
    have e : ix l x = ix l y := nf_inj (ix_ix hx) (ix_ix hy) (by omega)
    rw [← ix_getD hx, ← ix_getD hy, e]
  · intro h
    rw [ix_eq h]
theorem ix_same {l m : List Int} (hl : l.length = m.length) (h : ∀ i j, i < l.length → j < l.length → (l.getD i 0 = l.getD j 0 ↔ m.getD i 0 = m.getD j 0)) {i : Nat} (hi : i < l.length) : ix l i = ix m i := by
  have h1 := ix_first (l := m) (i := i) (by omega)
  refine ix_of ⟨by have := h1.1; omega, ?_, fun j hj e => ?_⟩ hi
  · exact (h _ _ (by have := h1.1; omega) hi).2 h1.2.1
  · exact h1.2.2 j hj ((h j i (by have := h1.1; omega) hi).1 e)
theorem nf_same {l m : List Int} (hl : l.length = m.length) (h : ∀ i j, i < l.length → j < l.length → (l.getD i 0 = l.getD j 0 ↔ m.getD i 0 = m.getD j 0)) : ∀ k, k ≤ l.length → nf l k = nf m k
  | 0, _ => rfl
  | k + 1, hk => by
    show nf l k + _ = nf m k + _
    rw [nf_same hl h k (by omega), ix_same hl h (by omega)]
theorem ofL_same {l m : List Int} (hl : l.length = m.length) (h : ∀ i j, i < l.length → j < l.length → (l.getD i 0 = l.getD j 0 ↔ m.getD i 0 = m.getD j 0)) : ofL l = ofL m := by
  refine ext_getD (by rw [length_ofL, length_ofL, hl]) fun j hj => ?_
  rw [length_ofL] at hj
  have := ix_le hj
  rw [getD_ofL hj, getD_ofL (by omega), nf_same hl h _ (by omega), ix_same hl h hj]
theorem ofL_ofL (l : List Int) : ofL (ofL l) = ofL l :=
  (ofL_same (length_ofL l).symm fun _ _ hi hj => (ofL_alike hi hj).symm).symm

end Go.Proofs.YtmdpfadfimodjaaDoor

/-
  perm.Inverse: the inverse, or the error.
-/
namespace Go.Proofs.YtmdpfadfimodjaaDoor
open Go.RowKit

/-- q undoes p. -/
def IsInv (p q : List Int) : Prop := q.length = p.length ∧ ∀ i, i < p.length → q.getD (p.getD i 0).toNat 0 = (i : Int)

/-- f, but for one place. -/
def upd (f : Nat → Int) (m : Nat) (x : Int) (j : Nat) : Int := if j = m then x else f j
theorem upd_same (f : Nat → Int) (m : Nat) (x : Int) : upd f m x m = x := if_pos rfl
theorem upd_other (f : Nat → Int) {m j : Nat} (x : Int) (h : j ≠ m) : upd f m x j = f j := if_neg h

/-- The same, in memory of the call's own. -/
def RetInvO (w : World) (p : List Int) (e : Ending) (w' : World) : Prop := ∃ q, IsInv p q ∧ RetOwnE w q 0 e w'
def RetInv (w : World) (p : List Int) (e : Ending) (w' : World) : Prop := ∃ q, IsInv p q ∧ RetInts w q 0 e w'

set_option maxHeartbeats 800000 in
theorem inverse_own (A : Option Addr) (n c : Nat) (p : List Int) (w : World) (hA : Ints w A n p) (hp : permErr p = 0) :
    Calls Tryd.prog 10 #[.slice A n c] w (RetInvO w p) := by
  have hn10 : n ≤ 10 := by rw [← hA.len]; exact (permErr_ok.1 hp).1
  have HP := hid (permErr_ok.1 hp).2
  go_enter Tryd.func10, Tryd.ntmps10
  go_wp2_with fail
  refine (check_any A n c p _ hA (by omega)).mono ?_
  rintro e w1 ⟨rfl, hb1⟩
  have hA1 := hA.keep hb1
  have HB1 := hid hb1
  clear hA hb1
  have hmk := fun W => run_make_row' (P := Tryd.prog) 22 3 (.int .i64 0) 8 Tryd.underlying22 infoInt rfl .i64 .i64 n (by omega) (by omega) W
  go_wp2_with fail
  go_loopg [18] n (fun g s wr => ∃ (k : Nat) (f : Nat → Int), k ≤ n ∧ n - k ≤ g ∧ s = .int .i64 k ∧ wr.rowIs w1.heap.size 3 n (fun j => .int .i64 (f j)) ∧ Below w1.heap.size w1 wr ∧
      ∀ i, i < k → f (p.getD i 0).toNat = (i : Int))
  case atStart => exact ⟨0, fun _ => 0, Nat.zero_le _, by omega, rfl, World.rowIs_made w1 _ n _, (Below.refl _ _).alloc (Nat.le_refl _) _, fun i hi => absurd hi (Nat.not_lt_zero _)⟩
  case round =>
    obtain ⟨k, f, hk, hg, rfl, hrow, hbel, hall⟩ := hrel
    have HR := hid hrow
    have HB := hid hbel
    have HF := hid hall
    clear hrow hbel hmk hall
    by_cases hlt : k < n
    · obtain ⟨b1, o1, rfl, hlt1, hc1⟩ := hA1.row (by omega)
      have HL := hid hA1.len
      have hkl : k < p.length := by rw [HL.out]; exact hlt
      have hr := HP.out.range (getD_mem hkl)
      rw [HL.out] at hr
      have g1 : wr.cell? ⟨b1, o1 + k, none⟩ = some (.int .i64 (p.getD k 0)) := (HB.out.cell (p := ⟨b1, o1 + k, none⟩) hlt1).trans (hc1 k hlt)
      generalize hxk : p.getD k 0 = x at g1 hr
      obtain ⟨m, rfl⟩ := Int.eq_ofNat_of_zero_le hr.1
      have hm : m < n := by omega
      have HX := hid hxk
      have g3 : wr.cell? ⟨w1.heap.size, m, none⟩ = some (.int .i64 (f m)) := HR.out.cell hm
      have g4 : wr.frozen? ⟨w1.heap.size, m, none⟩ = false := HR.out.frozen m
      clear hxk hc1 hr hA1 hkl
      go_wp2
      go_roundg (n - (k + 1))
      case measure => omega
      case rel =>
        refine ⟨k + 1, upd f m k, by omega, by omega, by go_num, ?_, HB.out.setCell (Nat.le_refl _) _, fun i hi => ?_⟩
        · refine (HR.out.set m (.int .i64 k)).congr (fun j _ => ?_)
          by_cases e : j = m
          · rw [if_pos e, e, upd_same]
          · rw [if_neg e, upd_other _ _ e]
        · by_cases e : i = k
          · subst e
            rw [HX.out, Int.toNat_natCast, upd_same]
          · have hne : (p.getD i 0).toNat ≠ m := by
              intro e2
              have hr := HP.out.range (getD_mem (show i < p.length by rw [HL.out]; omega))
              have : p.getD i 0 = p.getD k 0 := by rw [HX.out]; omega
              exact nodup_iff_getD.1 HP.out.nodup i k (by omega) (by rw [HL.out]; exact hlt) this
            rw [upd_other _ _ hne]
            exact HF.out i (by omega)
    · have hkn : k = n := by omega
      subst hkn
      go_wp2
      go_ret2
      have hlen : ((List.range k).map f).length = k := by simp
      refine ⟨(List.range k).map f, ⟨by rw [hlen, hA1.len], fun i hi => ?_⟩, _, rfl, own_of_rowIs HR.out hlen (fun j hj => by simp [List.getD_eq_getElem?_getD, hj]) HB1.out.size (by unfold maxLen; omega), HB1.out.trans (HB.out.mono HB1.out.size)⟩
      have hr := HP.out.range (getD_mem hi)
      rw [hA1.len] at hr hi
      rw [← HF.out i hi]
      simp [List.getD_eq_getElem?_getD, show (p[i]?.getD 0).toNat < k by rw [← List.getD_eq_getElem?_getD]; omega]
theorem inverse_ok (A : Option Addr) (n c : Nat) (p : List Int) (w : World) (hA : Ints w A n p) (hp : permErr p = 0) :
    Calls Tryd.prog 10 #[.slice A n c] w (RetInv w p) := by
  refine (inverse_own A n c p w hA hp).mono ?_
  rintro e w' ⟨q, hq, v, rfl, ho, hbel⟩
  obtain ⟨A', c', rfl, hI, hc⟩ := ho.ints
  exact ⟨q, hq, _, _, _, rfl, hbel, hI, hc⟩

end Go.Proofs.YtmdpfadfimodjaaDoor

/-
  Plain facts on composing and undoing permutations given as lists.
-/
namespace Go.Proofs.YtmdpfadfimodjaaDoor

theorem IsPerm.nat {p : List Int} (h : IsPerm p) {i : Nat} (hi : i < p.length) : ∃ j : Nat, j < p.length ∧ p.getD i 0 = (j : Int) := by
  have := h.range (getD_mem hi)
  exact ⟨(p.getD i 0).toNat, by omega, by omega⟩
theorem IsPerm.pre {p : List Int} (h : IsPerm p) {j : Nat} (hj : j < p.length) : ∃ i : Nat, i < p.length ∧ p.getD i 0 = (j : Int) := mem_getD (h.all j hj)

theorem isPerm_times {a b : List Int} (ha : IsPerm a) (hb : IsPerm b) (hl : a.length = b.length) : IsPerm (times a b) :=
  isPerm_of_all fun k hk => by
    rw [length_times] at hk
    obtain ⟨i, hi, ei⟩ := ha.pre (show k < a.length by omega)
    obtain ⟨j, hj, ej⟩ := hb.pre (show i < b.length by omega)
    have : (times a b).getD j 0 = (k : Int) := by rw [getD_times hj, ej, Int.toNat_natCast, ei]
    rw [← this]
    exact getD_mem (by rw [length_times]; exact hj)

theorem times_assoc {a b c : List Int} (hc : IsPerm c) (hl : b.length = c.length) : times (times a b) c = times a (times b c) := by
  apply ext_getD (by simp [length_times])
  intro j hj
  rw [length_times] at hj
  obtain ⟨i, hi, ei⟩ := hc.nat hj
  have h1 : (times a (times b c)).getD j 0 = a.getD ((times b c).getD j 0).toNat 0 := getD_times (by rw [length_times]; exact hj)
  rw [h1, getD_times (a := times a b) hj, getD_times (a := b) hj, ei, Int.toNat_natCast, getD_times (by omega)]

theorem IsInv.isPerm {p q : List Int} (h : IsInv p q) (hp : IsPerm p) : IsPerm q :=
  isPerm_of_all fun k hk => by
    rw [h.1] at hk
    obtain ⟨j, hj, ej⟩ := hp.nat hk
    have := h.2 k hk
    rw [ej, Int.toNat_natCast] at this
    rw [← this]
    exact getD_mem (by rw [h.1]; exact hj)

theorem IsInv.right {p q : List Int} (h : IsInv p q) (hp : IsPerm p) : times p q = iota p.length := by
  apply ext_getD (by rw [length_times, length_iota, h.1])
  intro j hj
  rw [length_times, h.1] at hj
  obtain ⟨i, hi, ei⟩ := hp.pre hj
  have := h.2 i hi
  rw [ei, Int.toNat_natCast] at this
  rw [getD_times (by rw [h.1]; exact hj), this, Int.toNat_natCast, ei, getD_iota hj]
theorem IsInv.left {p q : List Int} (h : IsInv p q) : times q p = iota p.length := by
  apply ext_getD (by rw [length_times, length_iota])
  intro j hj
  rw [length_times] at hj
  rw [getD_times hj, h.2 j hj, getD_iota hj]
theorem IsInv.unique {p q r : List Int} (h : IsInv p q) (k : IsInv p r) (hp : IsPerm p) : q = r := by
  apply ext_getD (by rw [h.1, k.1])
  intro j hj
  rw [h.1] at hj
  obtain ⟨i, hi, ei⟩ := hp.pre hj
  have h1 := h.2 i hi
  have h2 := k.2 i hi
  rw [ei, Int.toNat_natCast] at h1 h2
  rw [h1, h2]
theorem IsInv.times {a b va vb : List Int} (ha : IsInv a va) (hb : IsInv b vb) (hpb : IsPerm b) (hpa : IsPerm a) (hl : a.length = b.length) : IsInv (times a b) (times vb va) := by
  refine ⟨by rw [length_times, length_times, ha.1, hl], fun i hi => ?_⟩
  rw [length_times] at hi
  obtain ⟨j, hj, ej⟩ := hpb.nat hi
  obtain ⟨k, hk, ek⟩ := hpa.nat (show j < a.length by omega)
  have h1 := ha.2 j (by omega)
  have h2 := hb.2 i hi
  rw [ek, Int.toNat_natCast] at h1
  rw [ej, Int.toNat_natCast] at h2
  rw [getD_times hi, ej, Int.toNat_natCast, ek, Int.toNat_natCast, getD_times (by rw [ha.1]; exact hk), h1, Int.toNat_natCast, h2]

theorem sorted_iota (n : Nat) : sortedB (iota n) = true := sortedB_true.2 fun i hi => by
  rw [length_iota] at hi
  rw [getD_iota (by omega), getD_iota hi]
  omega

end Go.Proofs.YtmdpfadfimodjaaDoor

/-
  Plain facts on inversions and the sign of a list of numbers.
-/
namespace Go.Proofs.YtmdpfadfimodjaaDoor

/-- 1 or -1, by parity. -/
def sg (k : Nat) : Int := if k % 2 = 0 then 1 else -1
theorem sg_succ (k : Nat) : sg (k + 1) = - sg k := by unfold sg; split <;> split <;> omega
theorem sg_bd (k : Nat) : -1 ≤ sg k ∧ sg k ≤ 1 ∧ sg k ≠ 0 := by unfold sg; split <;> omega
theorem sg_add (a b : Nat) : sg (a + b) = sg a * sg b := by unfold sg; split <;> split <;> split <;> omega
theorem sg_sq (a : Nat) : sg a * sg a = 1 := by unfold sg; split <;> rfl

/-- How many pairs: the greater one ahead. -/
def inv : List Int → Nat
  | [] => 0
  | x :: t => t.countP (fun y => decide (y < x)) + inv t
def sgn (p : List Int) : Int := sg (inv p)

/-- The pairs whose first place is below i. -/
def invUpto (p : List Int) : Nat → Nat
  | 0 => 0
  | i + 1 => invUpto p i + (p.drop (i + 1)).countP (fun y => decide (y < p.getD i 0))

theorem drop_cons {p : List Int} {i : Nat} (h : i < p.length) : p.drop i = p.getD i 0 :: p.drop (i + 1) := by
  rw [List.drop_eq_getElem_cons h, List.getD_eq_getElem?_getD, List.getElem?_eq_getElem h]
  rfl
theorem inv_upto (p : List Int) : ∀ i, i ≤ p.length → inv p = invUpto p i + inv (p.drop i)
  | 0, _ => by simp [invUpto]
  | i + 1, h => by
    rw [inv_upto p i (by omega), drop_cons (show i < p.length by omega)]
    simp only [inv, invUpto]
    omega
theorem inv_all (p : List Int) : inv p = invUpto p p.length := by
  have h := inv_upto p p.length (Nat.le_refl _)
  rw [List.drop_length] at h
  simpa [inv] using h

/-! ### The sign of a product -/

theorem inv_swap (x y : Int) (l : List Int) (h : x < y) : inv (y :: x :: l) = inv (x :: y :: l) + 1 := by
  have h1 : ¬ y < x := by omega
  simp only [inv, List.countP_cons, h, h1, decide_true, decide_false, if_true]
  simp
  omega
theorem sgn_swap {x y : Int} (l : List Int) (h : x ≠ y) : sgn (y :: x :: l) = - sgn (x :: y :: l) := by
  unfold sgn
  rcases Int.lt_or_gt_of_ne h with hlt | hgt
  · rw [inv_swap x y l hlt, sg_succ]
  · rw [inv_swap y x l hgt, sg_succ, Int.neg_neg]
theorem sgn_cons (x : Int) (l : List Int) : sgn (x :: l) = sg (l.countP (fun y => decide (y < x))) * sgn l := by
  unfold sgn
  rw [← sg_add]
  rfl
theorem sgn_bd (l : List Int) : sgn l = 1 ∨ sgn l = -1 := by have := sg_bd (inv l); unfold sgn; omega
theorem sgn_sq (l : List Int) : sgn l * sgn l = 1 := sg_sq _

theorem mul_four (a b c d : Int) : a * b * (c * d) = a * c * (b * d) := by
  rw [Int.mul_assoc, Int.mul_assoc, ← Int.mul_assoc b, ← Int.mul_assoc c, Int.mul_comm b c]

/-- Under any renaming that keeps numbers apart, lists of the same numbers have the same 'sign times sign of the renamed list'. -/
theorem sgn_map {f : Int → Int} {l l' : List Int} (h : l.Perm l') : l.Nodup → (∀ x, x ∈ l → ∀ y, y ∈ l → f x = f y → x = y) → sgn (l.map f) * sgn l = sgn (l'.map f) * sgn l' := by
  induction h with
  | nil => intros; rfl
  | cons x h ih =>
    rename_i l1 l2
    intro hn hf
    have hn' := List.nodup_cons.1 hn
    have ih' := ih hn'.2 (fun a ha b hb => hf a (by simp [ha]) b (by simp [hb]))
    have e1 : (l1.map f).countP (fun y => decide (y < f x)) = (l2.map f).countP (fun y => decide (y < f x)) := (h.map f).countP_eq _
    have e2 : l1.countP (fun y => decide (y < x)) = l2.countP (fun y => decide (y < x)) := h.countP_eq _
    simp only [List.map_cons, sgn_cons]
    rw [e1, e2, mul_four, ih', ← mul_four]
  | swap x y l =>
    intro hn hf
    have hxy : x ≠ y := by
      intro e
      subst e
      simp at hn
    have hfxy : f x ≠ f y := fun e => hxy (hf x (by simp) y (by simp) e)
    simp only [List.map_cons]
    rw [sgn_swap _ hxy, sgn_swap _ hfxy, Int.neg_mul_neg]
  | trans h1 h2 ih1 ih2 =>
    intro hn hf
    rw [ih1 hn hf]
    exact ih2 (h1.nodup_iff.1 hn) (fun a ha b hb => hf a (h1.mem_iff.2 ha) b (h1.mem_iff.2 hb))

theorem countP_zero_of {l : List Int} {x : Int} (h : ∀ y, y ∈ l → x ≤ y) : l.countP (fun y => decide (y < x)) = 0 := by
  rw [List.countP_eq_zero]
  intro y hy
  have := h y hy
  simp
  omega
theorem inv_sorted : ∀ {l : List Int}, l.Pairwise (· ≤ ·) → inv l = 0
  | [], _ => rfl
  | x :: t, h => by
    have h' := List.pairwise_cons.1 h
    simp only [inv]
    rw [countP_zero_of h'.1, inv_sorted h'.2]
theorem pairwise_iota (n : Nat) : (iota n).Pairwise (· ≤ ·) := by
  unfold iota
  rw [List.pairwise_map]
  exact List.pairwise_lt_range.imp (fun h => by omega)
theorem sgn_iota (n : Nat) : sgn (iota n) = 1 := by unfold sgn; rw [inv_sorted (pairwise_iota n)]; rfl

theorem map_iota (a : List Int) : (iota a.length).map (fun v => a.getD v.toNat 0) = a := by
  apply ext_getD (by simp [length_iota])
  intro j hj
  simp only [List.length_map, length_iota] at hj
  simp [iota, List.getD_eq_getElem?_getD, hj]

theorem sgn_times {a b : List Int} (ha : IsPerm a) (hb : IsPerm b) (hl : a.length = b.length) : sgn (times a b) = sgn a * sgn b := by
  have h := sgn_map (f := fun v => a.getD v.toNat 0) (l := b) (l' := iota b.length) hb hb.nodup (by
    intro x hx y hy e
    have h1 := hb.range hx
    have h2 := hb.range hy
    have hn := nodup_iff_getD.1 ha.nodup
    rcases Nat.lt_trichotomy x.toNat y.toNat with hlt | he | hgt
    · exact absurd e (hn _ _ hlt (by omega))
    · omega
    · exact absurd e.symm (hn _ _ hgt (by omega)))
  rw [← hl, map_iota, sgn_iota, Int.mul_one] at h
  have : sgn (times a b) * sgn b * sgn b = sgn a * sgn b := by rw [← h]; rfl
  rwa [Int.mul_assoc, sgn_sq, Int.mul_one] at this

theorem sgn_inv {a va : List Int} (h : IsInv a va) (ha : IsPerm a) : sgn va = sgn a := by
  have h1 := sgn_times ha (h.isPerm ha) h.1.symm
  rw [h.right ha, sgn_iota] at h1
  have h2 : sgn a * (sgn a * sgn va) = sgn a * 1 := by rw [← h1]
  rwa [← Int.mul_assoc, sgn_sq, Int.one_mul, Int.mul_one] at h2

/-! ### A change of two places -/

theorem sgn_move (x : Int) (m v : List Int) (h : x ∉ m) : sgn (x :: (m ++ v)) = sg m.length * sgn (m ++ x :: v) := by
  induction m with
  | nil => simp [sg]
  | cons y t ih =>
    have hxy : x ≠ y := fun e => h (by simp [e])
    have ht : x ∉ t := fun e => h (by simp [e])
    have e0 : (t ++ x :: v).countP (fun z => decide (z < y)) = (x :: (t ++ v)).countP (fun z => decide (z < y)) := by
      simp only [List.countP_append, List.countP_cons]
      omega
    have e1 : sgn (y :: x :: (t ++ v)) = sg t.length * sgn (y :: (t ++ x :: v)) := by
      rw [sgn_cons y, ih ht, sgn_cons y (t ++ x :: v), e0, ← Int.mul_assoc, ← Int.mul_assoc, Int.mul_comm (sg _) (sg t.length)]
    have e2 : sgn (x :: y :: (t ++ v)) = - sgn (y :: x :: (t ++ v)) := by rw [sgn_swap _ hxy, Int.neg_neg]
    show sgn (x :: y :: (t ++ v)) = sg (t.length + 1) * sgn (y :: (t ++ x :: v))
    rw [e2, e1, sg_succ, Int.neg_mul]

theorem sgn_front (u : List Int) {l l' : List Int} (h : l.Perm l') (s : Int) (e : sgn l = s * sgn l') : sgn (u ++ l) = s * sgn (u ++ l') := by
  induction u with
  | nil => exact e
  | cons x t ih =>
    show sgn (x :: (t ++ l)) = s * sgn (x :: (t ++ l'))
    have e0 : (t ++ l).countP (fun z => decide (z < x)) = (t ++ l').countP (fun z => decide (z < x)) := (h.append_left t).countP_eq _
    rw [sgn_cons, sgn_cons, ih, e0, ← Int.mul_assoc, ← Int.mul_assoc, Int.mul_comm s]

theorem sgn_exchange (u m v : List Int) (x y : Int) (hxy : x ≠ y) (hx : x ∉ m) (hy : y ∉ m) : sgn (u ++ y :: (m ++ x :: v)) = - sgn (u ++ x :: (m ++ y :: v)) := by
  have h1 : sgn (y :: (m ++ x :: v)) = sg m.length * sgn (m ++ y :: x :: v) := sgn_move y m (x :: v) hy
  have h2 : sgn (x :: (m ++ y :: v)) = sg m.length * sgn (m ++ x :: y :: v) := sgn_move x m (y :: v) hx
  have h3 : sgn (m ++ y :: x :: v) = -1 * sgn (m ++ x :: y :: v) := sgn_front m (List.Perm.swap x y v) (-1) (by rw [sgn_swap _ hxy]; omega)
  have h4 : sgn (y :: (m ++ x :: v)) = -1 * sgn (x :: (m ++ y :: v)) := by
    rw [h1, h2, h3, ← Int.mul_assoc, ← Int.mul_assoc, Int.mul_comm (sg _) (-1)]
  have hp : (y :: (m ++ x :: v)).Perm (x :: (m ++ y :: v)) :=
    (List.perm_middle (a := x) (l₁ := y :: m) (l₂ := v)).trans (List.Perm.cons x (List.perm_middle (a := y) (l₁ := m) (l₂ := v)).symm)
  have := sgn_front u hp (-1) h4
  omega

end Go.Proofs.YtmdpfadfimodjaaDoor

/-
  Lots and orders: plain mathematics. Nothing of the program is proved here.
-/
namespace Go.Proofs.YtmdpfadfimodjaaDoor
open Go.RowKit

/-- What is wrong with a row of lots. -/
def lotsErr (l : List Int) : Int := if 10 < l.length then 2 else if ∀ i, i < l.length → 0 ≤ l.getD i 0 ∧ l.getD i 0 ≤ i then 0 else 1
theorem lotsErr_large {l : List Int} (h : 10 < l.length) : lotsErr l = 2 := if_pos h
theorem lotsErr_good {l : List Int} (h : l.length ≤ 10) (hl : IsLots l) : lotsErr l = 0 := by
  unfold lotsErr
  rw [if_neg (by omega), if_pos (show ∀ i, i < l.length → 0 ≤ l.getD i 0 ∧ l.getD i 0 ≤ i from hl)]
theorem lotsErr_bad {l : List Int} (h : l.length ≤ 10) (hl : ¬ IsLots l) : lotsErr l = 1 := by
  unfold lotsErr
  rw [if_neg (by omega), if_neg (show ¬ ∀ i, i < l.length → 0 ≤ l.getD i 0 ∧ l.getD i 0 ≤ i from hl)]
theorem lotsErr_ok {l : List Int} : lotsErr l = 0 ↔ l.length ≤ 10 ∧ IsLots l := by
  constructor
  · intro h
    by_cases c : 10 < l.length
    · rw [lotsErr_large c] at h; cases h
    · refine ⟨by omega, ?_⟩
      by_cases k : IsLots l
      · exact k
      · rw [lotsErr_bad (by omega) k] at h; cases h
  · rintro ⟨h, k⟩
    exact lotsErr_good h k

/-- What Deal hands out. -/
def dealX (l : List Int) : List Int := if lotsErr l = 0 then dealt l else []
theorem dealX_ok {l : List Int} (h : lotsErr l = 0) : dealX l = dealt l := if_pos h
theorem dealX_bad {l : List Int} (h : lotsErr l ≠ 0) : dealX l = [] := if_neg h

theorem getD_app_len {p : List Int} {x : Int} : (p ++ [x]).getD p.length 0 = x := by simp [List.getD_eq_getElem?_getD]
theorem getD_app_lt {p : List Int} {x : Int} {j : Nat} (h : j < p.length) : (p ++ [x]).getD j 0 = p.getD j 0 := by simp [List.getD_eq_getElem?_getD, h, List.getElem?_append_left]

/-- A step of a deal, place by place. -/
theorem getD_dealStep {p : List Int} {m j : Nat} (hm : m ≤ p.length) (hj : j ≤ p.length) : (dealStep p (m : Int)).getD j 0 = if j = m then (p.length : Int) else if j = p.length then p.getD m 0 else p.getD j 0 := by
  unfold dealStep
  rw [Int.toNat_natCast, getD_swapAt (by simp) (by simp; omega) j]
  by_cases h1 : j = m
  · rw [if_pos h1, if_pos h1, getD_app_len]
  · rw [if_neg h1, if_neg h1]
    by_cases h2 : j = p.length
    · rw [if_pos h2, if_pos h2]
      exact getD_app_lt (by omega)
    · rw [if_neg h2, if_neg h2]
      exact getD_app_lt (by omega)

/-- A step taken back: the greatest number lies at m. -/
def undo (q : List Int) (k m : Nat) : List Int := (q.set m (q.getD k 0)).take k
theorem length_undo {q : List Int} {k m : Nat} (h : q.length = k + 1) : (undo q k m).length = k := by
  unfold undo
  rw [List.length_take, List.length_set, h]; omega
theorem getD_undo {q : List Int} {k m j : Nat} (h : q.length = k + 1) (_hm : m ≤ k) (hj : j < k) : (undo q k m).getD j 0 = if j = m then q.getD k 0 else q.getD j 0 := by
  unfold undo
  have : ((q.set m (q.getD k 0)).take k).getD j 0 = (q.set m (q.getD k 0)).getD j 0 := by
    generalize q.set m (q.getD k 0) = r
    rw [List.getD_eq_getElem?_getD, List.getD_eq_getElem?_getD, List.getElem?_take, if_pos hj]
  rw [this, getD_set]
  by_cases e : j = m
  · rw [if_pos ⟨e, by omega⟩, if_pos e]
  · rw [if_neg (fun h => e h.1), if_neg e]

theorem undo_dealStep {p : List Int} {k m : Nat} (h : p.length = k) (hm : m ≤ k) : undo (dealStep p (m : Int)) k m = p := by
  have hl : (dealStep p (m : Int)).length = k + 1 := by rw [length_dealStep, h]
  refine ext_getD (by rw [length_undo hl, h]) fun j hj => ?_
  rw [length_undo hl] at hj
  rw [getD_undo hl hm hj, getD_dealStep (by omega) (by omega), getD_dealStep (by omega) (by omega)]
  by_cases e : j = m
  · subst e
    rw [if_pos rfl, if_neg (by omega), if_pos h.symm]
  · rw [if_neg e, if_neg e, if_neg (by omega)]

theorem dealStep_undo {q : List Int} {k m : Nat} (h : q.length = k + 1) (hm : m ≤ k) (hk : q.getD m 0 = (k : Int)) : dealStep (undo q k m) (m : Int) = q := by
  have hl := length_undo (m := m) h
  refine ext_getD (by rw [length_dealStep, hl, h]) fun j hj => ?_
  rw [length_dealStep, hl] at hj
  rw [getD_dealStep (by omega) (by omega), hl]
  by_cases e : j = m
  · subst e
    rw [if_pos rfl, hk]
  · rw [if_neg e]
    by_cases e2 : j = k
    · subst e2
      rw [if_pos rfl, getD_undo h hm (by omega), if_pos rfl]
    · rw [if_neg e2, getD_undo h hm (by omega), if_neg e]

theorem isPerm_undo {q : List Int} {k m : Nat} (h : q.length = k + 1) (hq : IsPerm q) (hm : m ≤ k) (hk : q.getD m 0 = (k : Int)) : IsPerm (undo q k m) := by
  have hl := length_undo (m := m) h
  refine isPerm_of_all fun i hi => ?_
  rw [hl] at hi
  obtain ⟨a, ha, he⟩ := mem_getD (hq.all i (by omega))
  have ham : a ≠ m := by
    rintro rfl
    rw [hk] at he
    omega
  by_cases hak : a < k
  · have := getD_undo h hm hak
    rw [if_neg ham, he] at this
    rw [← this]
    exact getD_mem (by omega)
  · obtain rfl : a = k := by omega
    have := getD_undo (j := m) h hm (by omega)
    rw [if_pos rfl, he] at this
    rw [← this]
    exact getD_mem (by omega)

/-- The lots of an order of k numbers. -/
def unlots : Nat → List Int → List Int
  | 0, _ => []
  | k + 1, q => unlots k (undo q k (ixf q (k : Int))) ++ [((ixf q (k : Int) : Nat) : Int)]

theorem length_unlots : ∀ (k : Nat) (q : List Int), (unlots k q).length = k
  | 0, _ => rfl
  | k + 1, q => by unfold unlots; rw [List.length_append, length_unlots k]; rfl

theorem isPerm_last {q : List Int} {k : Nat} (h : q.length = k + 1) (hq : IsPerm q) : FirstAt q (k : Int) (ixf q (k : Int)) := ixf_first (hq.all k (by omega))

theorem dealt_unlots : ∀ (k : Nat) (q : List Int), q.length = k → IsPerm q → dealt (unlots k q) = q ∧ IsLots (unlots k q)
  | 0, q, h, _ => by
    obtain rfl := List.eq_nil_of_length_eq_zero h
    exact ⟨rfl, fun i hi => by simp [unlots] at hi⟩
  | k + 1, q, h, hq => by
    have hf := isPerm_last h hq
    have hm : ixf q (k : Int) ≤ k := by have := hf.1; omega
    have hU : unlots (k + 1) q = unlots k (undo q k (ixf q (k : Int))) ++ [((ixf q (k : Int) : Nat) : Int)] := rfl
    rw [hU]
    generalize ixf q (k : Int) = m at *
    obtain ⟨i1, i2⟩ := dealt_unlots k (undo q k m) (length_undo h) (isPerm_undo h hq hm hf.2.1)
    refine ⟨by rw [dealt_snoc, i1]; exact dealStep_undo h hm hf.2.1, fun i hi => ?_⟩
    have hl := length_unlots k (undo q k m)
    rw [List.length_append, hl] at hi
    simp only [List.length_cons, List.length_nil] at hi
    by_cases e : i < k
    · rw [getD_app_lt (by omega)]
      exact i2 i (by omega)
    · obtain rfl : i = k := by omega
      have : (unlots i (undo q i m) ++ [(m : Int)]).getD i 0 = (m : Int) := by
        have := getD_app_len (p := unlots i (undo q i m)) (x := (m : Int))
        rwa [hl] at this
      rw [this]
      omega

theorem isLots_take {l : List Int} (h : IsLots l) (k : Nat) : IsLots (l.take k) := by
  intro i hi
  rw [List.length_take] at hi
  have : (l.take k).getD i 0 = l.getD i 0 := by rw [List.getD_eq_getElem?_getD, List.getD_eq_getElem?_getD, List.getElem?_take, if_pos (by omega)]
  rw [this]
  exact h i (by omega)

theorem unlots_take {l : List Int} (h : IsLots l) : ∀ k, k ≤ l.length → unlots k (dealt (l.take k)) = l.take k
  | 0, _ => by simp [unlots]
  | k + 1, hk => by
    obtain ⟨m, hm⟩ := Int.eq_ofNat_of_zero_le (h k (by omega)).1
    have hmk : m ≤ k := by have := (h k (by omega)).2; omega
    have hp : (dealt (l.take k)).length = k := by rw [length_dealt, List.length_take]; omega
    have hperm := isPerm_dealt_take h (k + 1) hk
    rw [take_snoc (by omega), dealt_snoc, hm] at hperm ⊢
    have hl : (dealStep (dealt (l.take k)) (m : Int)).length = k + 1 := by rw [length_dealStep, hp]
    have hg : (dealStep (dealt (l.take k)) (m : Int)).getD m 0 = (k : Int) := by rw [getD_dealStep (by omega) (by omega), if_pos rfl, hp]
    have hf := isPerm_last hl hperm
    have hix : ixf (dealStep (dealt (l.take k)) (m : Int)) (k : Int) = m := by
      have h1 := hf.2.1
      have hnd := hperm.nodup
      generalize dealStep (dealt (l.take k)) (m : Int) = q at *
      have ha := hf.1
      generalize ixf q (k : Int) = a at *
      have e1 : q[a]'(by omega) = (k : Int) := by
        rw [List.getD_eq_getElem?_getD, List.getElem?_eq_getElem (by omega)] at h1
        exact h1
      have e2 : q[m]'(by omega) = (k : Int) := by
        rw [List.getD_eq_getElem?_getD, List.getElem?_eq_getElem (by omega)] at hg
        exact hg
      exact (List.getElem_inj hnd).1 (e1.trans e2.symm)
    have hU : ∀ q, unlots (k + 1) q = unlots k (undo q k (ixf q (k : Int))) ++ [((ixf q (k : Int) : Nat) : Int)] := fun _ => rfl
    rw [hU, hix, undo_dealStep hp hmk, unlots_take h k (by omega)]
theorem unlots_dealt {l : List Int} (h : IsLots l) : unlots l.length (dealt l) = l := by
  have := unlots_take h l.length (Nat.le_refl _)
  rwa [List.take_of_length_le (Nat.le_refl _)] at this

/-- What Lots hands out. -/
def lotsX (p : List Int) : List Int := if permErr p = 0 then unlots p.length p else []
theorem lotsX_ok {p : List Int} (h : permErr p = 0) : lotsX p = unlots p.length p := if_pos h
theorem lotsX_bad {p : List Int} (h : permErr p ≠ 0) : lotsX p = [] := if_neg h
theorem length_lotsX {p : List Int} (h : permErr p = 0) : (lotsX p).length = p.length := by rw [lotsX_ok h, length_unlots]

theorem lotsErr_lotsX {p : List Int} (h : permErr p = 0) : lotsErr (lotsX p) = 0 := by
  obtain ⟨h1, h2⟩ := permErr_ok.1 h
  rw [lotsX_ok h]
  exact lotsErr_good (by rw [length_unlots]; exact h1) (dealt_unlots _ p rfl h2).2
theorem dealX_lotsX {p : List Int} (h : permErr p = 0) : dealX (lotsX p) = p := by
  rw [dealX_ok (lotsErr_lotsX h), lotsX_ok h]
  exact (dealt_unlots _ p rfl (permErr_ok.1 h).2).1
theorem dealt_lotsX {p : List Int} (h : permErr p = 0) : dealt (lotsX p) = p := by
  have := dealX_lotsX h
  rwa [dealX_ok (lotsErr_lotsX h)] at this
theorem permErr_dealX {l : List Int} (h : lotsErr l = 0) : permErr (dealX l) = 0 := by
  obtain ⟨h1, h2⟩ := lotsErr_ok.1 h
  rw [dealX_ok h]
  exact permErr_ok.2 ⟨by rw [length_dealt]; exact h1, isPerm_dealt h2⟩
theorem length_dealX {l : List Int} (h : lotsErr l = 0) : (dealX l).length = l.length := by rw [dealX_ok h, length_dealt]
theorem lotsX_dealX {l : List Int} (h : lotsErr l = 0) : lotsX (dealX l) = l := by
  rw [lotsX_ok (permErr_dealX h), length_dealX h, dealX_ok h]
  exact unlots_dealt (lotsErr_ok.1 h).2

end Go.Proofs.YtmdpfadfimodjaaDoor

/-
  A block of ints known whole; a slice from a place on; only one block has turned. Nothing of the program is proved here.
-/
namespace Go.Proofs.YtmdpfadfimodjaaDoor
open Go.RowKit

/-- Block g is a row of ints, and holds xs. -/
def Arr (w : World) (g : Nat) (xs : List Int) : Prop := w.rowIs g 3 xs.length (fun j => .int .i64 (xs.getD j 0))

namespace Arr
variable {w : World} {g : Nat} {xs : List Int}
theorem cell (h : Arr w g xs) {j : Nat} (hj : j < xs.length) : w.cell? ⟨g, j, none⟩ = some (.int .i64 (xs.getD j 0)) := World.rowIs.cell h hj
theorem frozen (h : Arr w g xs) (j : Nat) : w.frozen? ⟨g, j, none⟩ = false := World.rowIs.frozen h j
theorem lt (h : Arr w g xs) : g < w.heap.size := World.rowIs.lt h
theorem set (h : Arr w g xs) (i : Nat) (x : Int) : Arr (w.setCell ⟨g, i, none⟩ (.int .i64 x)) g (xs.set i x) := by
  unfold Arr
  rw [List.length_set]
  refine (World.rowIs.set h i (.int .i64 x)).congr fun j hj => ?_
  rw [getD_set]
  by_cases e : j = i
  · subst e
    rw [if_pos rfl, if_pos ⟨rfl, hj⟩]
  · rw [if_neg e, if_neg (fun h => e h.1)]
theorem setOther (h : Arr w g xs) {a : Addr} (ha : g ≠ a.block) (v : Value) : Arr (w.setCell a v) g xs := World.rowIs.setOther h ha v
theorem of_block {w' : World} (h : Arr w g xs) (e : w'.heap[g]? = w.heap[g]?) : Arr w' g xs := World.rowIs.of_block h e
theorem keep {w' : World} (h : Arr w g xs) (hb : Below w.heap.size w w') : Arr w' g xs := h.of_block (hb.block g h.lt)
theorem kept {w' : World} (h : Arr w g xs) {r : Nat} (hb : w.grownBy w' (some r)) (hne : g ≠ r) : Arr w' g xs := h.of_block (hb.block g h.lt (fun e => hne (by injection e)))
theorem alloc (h : Arr w g xs) (o : Obj) : Arr (w.alloc o) g xs := World.rowIs.alloc h o
theorem drewN (h : Arr w g xs) (k : Nat) : Arr (w.drewN k) g xs := h
theorem drew (h : Arr w g xs) : Arr w.drew g xs := h
theorem made (w : World) (n : Nat) : Arr (w.alloc (.cells (madeCells #[.int .i64 0] n) 3)) w.heap.size (List.replicate n 0) := by
  unfold Arr
  rw [List.length_replicate]
  refine (World.rowIs_made w _ n _).congr fun j hj => ?_
  simp [List.getD_eq_getElem?_getD, hj]
/-- As a slice that is read, from o on. -/
theorem ints (h : Arr w g xs) (o m : Nat) (hm : o + m ≤ xs.length) : Ints w (some ⟨g, o, none⟩) m ((xs.drop o).take m) := by
  refine ⟨by rw [List.length_take, List.length_drop]; omega, fun _ => ⟨g, o, rfl, h.lt, fun j hj => ?_⟩⟩
  rw [h.cell (by omega)]
  simp [List.getD_eq_getElem?_getD, hj]
theorem ints0 (h : Arr w g xs) (m : Nat) (hm : m ≤ xs.length) : Ints w (some ⟨g, 0, none⟩) m (xs.take m) := by
  have := h.ints 0 m (by omega)
  rwa [List.drop_zero] at this
theorem setCells : ∀ {ys : List Int} {w : World} {xs : List Int} {o : Nat}, Arr w g xs → o + ys.length ≤ xs.length →
    Arr (w.setCells g o (ys.map (Value.int .i64))) g (xs.take o ++ ys ++ xs.drop (o + ys.length))
  | [], w, xs, o, h, _ => by simpa [World.setCells] using h
  | y :: ys, w, xs, o, h, hl => by
    rw [List.length_cons] at hl
    have ih := setCells (ys := ys) (o := o + 1) (h.set o y) (by rw [List.length_set]; omega)
    rw [List.map_cons, World.setCells]
    have e : (xs.set o y).take (o + 1) ++ ys ++ (xs.set o y).drop (o + 1 + ys.length) = xs.take o ++ (y :: ys) ++ xs.drop (o + (y :: ys).length) := by
      rw [take_snoc (by rw [List.length_set]; omega), getD_set, if_pos ⟨rfl, by omega⟩, List.take_set_of_le (by omega), List.drop_set_of_lt (by omega), List.length_cons]
      simp [Nat.add_assoc, Nat.add_comm 1]
    rw [← e]
    exact ih
end Arr

/-! ### Only one block has turned -/
theorem one_refl (a : World) (row : Option Nat) : a.grownBy a row := ⟨rfl, rfl, rfl, Nat.le_refl _, fun _ _ _ => rfl⟩
theorem one_drewN {a w : World} {row : Option Nat} (h : a.grownBy w row) (n : Nat) : a.grownBy (w.drewN n) row := ⟨h.os, h.tape, h.output, h.size, h.block⟩
theorem one_drew {a w : World} {row : Option Nat} (h : a.grownBy w row) : a.grownBy w.drew row := ⟨h.os, h.tape, h.output, h.size, h.block⟩
theorem one_set {a w : World} {g : Nat} (h : a.grownBy w (some g)) (j : Nat) (u : Value) : a.grownBy (w.setCell ⟨g, j, none⟩ u) (some g) :=
  ⟨h.os, h.tape, h.output, by simpa [World.setCell] using h.size, fun i hi hne => (Below.heap_setCell w ⟨g, j, none⟩ u i (by rintro rfl; exact hne rfl)).trans (h.block i hi hne)⟩
theorem one_sets {a : World} {g : Nat} : ∀ {vs : List Value} {w : World} {o : Nat}, a.grownBy w (some g) → a.grownBy (w.setCells g o vs) (some g)
  | [], _, _, h => h
  | v :: vs, _, _, h => one_sets (vs := vs) (one_set h _ v)
/-- A block of the call's own has turned: nothing below. -/
theorem below_one {B g : Nat} {a b c : World} (h : Below B a b) (hg : B ≤ g) (hB : B ≤ b.heap.size) (k : b.grownBy c (some g)) : Below B a c :=
  h.trans ⟨k.os, k.tape, k.output, k.size, fun i hi => k.block i (Nat.lt_of_lt_of_le hi hB) (fun e => by injection e with e; omega)⟩

/-! ### 'xs[l:]' -/
def subA (A : Option Addr) (c l : Nat) : Option Addr := if c = l then A else A.map (·.add l)
theorem Ints.drop {w : World} {A : Option Addr} {n c l : Nat} {xs : List Int} (h : Ints w A n xs) (hl : l ≤ n) (hc : n ≤ c) : Ints w (subA A c l) (n - l) (xs.drop l) := by
  refine ⟨by rw [List.length_drop, h.len], fun hp => ?_⟩
  obtain ⟨b, o, rfl, hb, hcell⟩ := h.row (by omega)
  refine ⟨b, o + l, ?_, hb, fun j hj => ?_⟩
  · unfold subA
    rw [if_neg (by omega)]
    simp only [Option.map_some, Addr.add]
    by_cases h0 : l = 0
    · subst h0
      rfl
    · rw [if_neg h0]
  · rw [show o + l + j = o + (l + j) by omega, hcell (l + j) (by omega)]
    simp [List.getD_eq_getElem?_getD]
set_option maxRecDepth 100000 in
theorem sizeInt : ∀ w, (Go.sizeOf 3).run Tryd.prog w = .ok 1 w := by
  exact fun _ => by kernel_rfl
theorem run_from (A : Option Addr) (n c l : Nat) (L : Int) (hL : L = (l : Int)) (hl : l ≤ n) (W : World) :
    (Instr.slice 22 (.slice A n c) (some (.int .i64 L)) none none).run Tryd.prog W = .ok (.slice (subA A c l) (n - l) (c - l)) W := by
  subst hL
  have ht' : Tryd.prog.underlying 22 = some (.slice (Tryd.prog.elem 22)) := by simp [Program.elem, Tryd.underlying22]
  have he : Tryd.prog.elem 22 = 3 := by simp [Program.elem, Tryd.underlying22]
  rw [run_slice_l W _ _ _ _ ht' .i64 _ (by omega) (by omega), he, sizeInt]
  simp [Result.andThen, sliced, subA]

end Go.Proofs.YtmdpfadfimodjaaDoor

/-
  A slice that is written out.
-/
namespace Go.Proofs.YtmdpfadfimodjaaDoor
open Go.RowKit

theorem ints_lit (w : World) (cs : Array Value) (t n : Nat) (xs : List Int) (h : cs = (xs.map (Value.int .i64)).toArray) (hn : xs.length = n) : Ints (w.alloc (.cells cs t)) (some ⟨w.heap.size, 0, none⟩) n xs := by
  subst h
  subst hn
  refine ⟨rfl, fun _ => ⟨w.heap.size, 0, rfl, by simp, fun j hj => ?_⟩⟩
  rw [cell_of_row (w.alloc _) w.heap.size (0 + j) _ t (0, 0) (heap_alloc_new w _)]
  simp [List.getD_eq_getElem?_getD, List.getElem?_eq_getElem hj]

theorem below_alloc (w : World) (o : Obj) : Below w.heap.size w (w.alloc o) := (Below.refl _ _).alloc (Nat.le_refl _) _

theorem below_step {B : Nat} {a b c : World} (h : Below B a b) (hB : B ≤ a.heap.size) (k : Below b.heap.size b c) : Below B a c := h.trans (k.mono (Nat.le_trans hB h.size))

end Go.Proofs.YtmdpfadfimodjaaDoor

/-
  shuffle.Check, castref.LotsErr, shuffle.Deal.
-/
namespace Go.Proofs.YtmdpfadfimodjaaDoor
open Go.RowKit

theorem not_lots {xs : List Int} {k : Nat} (hk : k < xs.length) (h : xs.getD k 0 < 0 ∨ (k : Int) < xs.getD k 0) : ¬ IsLots xs := fun hl => by
  have := hl k hk
  omega

set_option maxHeartbeats 400000 in
theorem shCheck_large (A : Option Addr) (n c : Nat) (w : World) (hn : 10 < n) :
    Calls Tryd.prog 38 #[.slice A n c] w fun e w' => e = .returned (.int .i64 2) ∧ w = w' := by
  have hI : (n : Int) > 10 := by omega
  go_enter Tryd.func38, Tryd.ntmps38
  go_wp2
  go_ret
  exact ⟨rfl, rfl⟩

set_option maxHeartbeats 400000 in
theorem shCheck_small (A : Option Addr) (n c : Nat) (xs : List Int) (w : World) (h : Ints w A n xs) (hn : n ≤ 10) :
    Calls Tryd.prog 38 #[.slice A n c] w fun e w' => e = .returned (.int .i64 (lotsErr xs)) ∧ w = w' := by
  go_enter Tryd.func38, Tryd.ntmps38
  go_wp2
  go_loopg [10] n (fun g s wr => ∃ k : Nat, k ≤ n ∧ n - k ≤ g ∧ s = .int .i64 k ∧ wr = w ∧ ∀ j, j < k → 0 ≤ xs.getD j 0 ∧ xs.getD j 0 ≤ j)
  case atStart => exact ⟨0, Nat.zero_le _, by omega, rfl, rfl, fun j hj => absurd hj (Nat.not_lt_zero _)⟩
  case round =>
    obtain ⟨k, hk, hg, rfl, rfl, hall⟩ := hrel
    have HA := hid hall
    clear hall
    have HL := hid h.len
    by_cases hlt : k < n
    · obtain ⟨b, o, rfl, hb, hc⟩ := h.row (by omega)
      have g1 := hc k hlt
      have HBAD := hid (fun hx => lotsErr_bad (l := xs) (by rw [HL.out]; exact hn) (not_lots (by rw [HL.out]; exact hlt) hx))
      clear hc h
      generalize hxk : xs.getD k 0 = x at g1 HBAD
      have HX := hid hxk
      clear hxk
      by_cases h0 : x < 0
      · go_wp2
        go_ret
        rw [HBAD.out (Or.inl h0)]
        exact ⟨rfl, rfl⟩
      · obtain ⟨m, rfl⟩ := Int.eq_ofNat_of_zero_le (show 0 ≤ x by omega)
        clear h0
        by_cases h1 : k < m
        · go_wp2
          go_ret
          rw [HBAD.out (Or.inr (by omega))]
          exact ⟨rfl, rfl⟩
        · go_wp2
          go_roundg (n - (k + 1))
          case measure => omega
          case rel =>
            refine ⟨k + 1, by omega, by omega, by go_num, rfl, fun j hj => ?_⟩
            by_cases e : j = k
            · subst e
              rw [HX.out]
              omega
            · exact HA.out j (by omega)
    · have hkn : k = n := by omega
      subst hkn
      go_wp2
      go_ret
      rw [lotsErr_good (by rw [HL.out]; exact hn) (fun j hj => HA.out j (by rw [HL.out] at hj; exact hj))]
      exact ⟨rfl, rfl⟩

/-- shuffle.Check, whatever comes in. -/
theorem shCheck_any (A : Option Addr) (n c : Nat) (xs : List Int) (w : World) (h : Ints w A n xs) :
    Calls Tryd.prog 38 #[.slice A n c] w fun e w' => e = .returned (.int .i64 (lotsErr xs)) ∧ w = w' := by
  by_cases hn : 10 < n
  · rw [lotsErr_large (by rw [h.len]; exact hn)]
    exact shCheck_large A n c w hn
  · exact shCheck_small A n c xs w h (by omega)

/-! ### Deal -/

/-- A block of ints known whole, as a slice of the call's own. -/
theorem Arr.own {w : World} {base g n : Nat} {xs : List Int} (h : Arr w g xs) (hb : base ≤ g) (hl : xs.length = n) (hn : n ≤ 1000000) : OwnInts w base (.slice (some ⟨g, 0, none⟩) n n) xs := by
  subst hl
  exact own_of_rowIs h rfl (fun j _ => rfl) hb (by unfold maxLen; omega)

/-- One step of Deal in a row that is made beforehand. -/
theorem deal_step {p : List Int} {n m : Nat} (hp : p.length < n) (hm : m ≤ p.length) :
    ((p ++ List.replicate (n - p.length) (0 : Int)).set p.length ((p ++ List.replicate (n - p.length) (0 : Int)).getD m 0)).set m (p.length : Int) = dealStep p (m : Int) ++ List.replicate (n - (p.length + 1)) (0 : Int) := by
  refine ext_getD (by simp [length_dealStep]; omega) fun j hj => ?_
  simp only [List.length_set, List.length_append, List.length_replicate] at hj
  have hX : ∀ i, (p ++ List.replicate (n - p.length) (0 : Int)).getD i 0 = if i < p.length then p.getD i 0 else 0 := by
    intro i
    by_cases hi : i < p.length
    · rw [if_pos hi]; simp [List.getD_eq_getElem?_getD, hi, List.getElem?_append_left]
    · rw [if_neg hi, List.getD_eq_getElem?_getD, List.getElem?_append_right (by omega)]
      rw [List.getElem?_replicate]
      split <;> rfl
  have hY : (dealStep p (m : Int) ++ List.replicate (n - (p.length + 1)) (0 : Int)).getD j 0 = if j < p.length + 1 then (dealStep p (m : Int)).getD j 0 else 0 := by
    by_cases hi : j < p.length + 1
    · rw [if_pos hi, List.getD_eq_getElem?_getD, List.getD_eq_getElem?_getD, List.getElem?_append_left (by rw [length_dealStep]; exact hi)]
    · rw [if_neg hi, List.getD_eq_getElem?_getD, List.getElem?_append_right (by rw [length_dealStep]; omega), List.getElem?_replicate]
      split <;> rfl
  rw [hY, getD_set, getD_set, hX, hX]
  simp only [List.length_set, List.length_append, List.length_replicate]
  by_cases e : j = m
  · rw [if_pos ⟨e, by omega⟩, if_pos (by omega), getD_dealStep hm (by omega), if_pos e]
  · rw [if_neg (fun h => e h.1)]
    by_cases e2 : j = p.length
    · rw [if_pos ⟨e2, by omega⟩, if_pos (by omega), getD_dealStep hm (by omega), if_neg e, if_pos e2]
      rw [if_pos (by omega)]
    · rw [if_neg (fun h => e2 h.1)]
      by_cases e3 : j < p.length
      · rw [if_pos e3, if_pos (by omega), getD_dealStep hm (by omega), if_neg e, if_neg e2]
      · rw [if_neg e3, if_neg (by omega)]

theorem shDeal_bad (A : Option Addr) (n c : Nat) (xs : List Int) (w : World) (h : Ints w A n xs) (he : lotsErr xs ≠ 0) :
    Calls Tryd.prog 15 #[.slice A n c] w (RetOwnE w [] (lotsErr xs)) := by
  have HC := hid (shCheck_any A n c xs w h)
  have hz : (lotsErr xs != 0) = true := by simpa using he
  clear h he
  generalize lotsErr xs = E at *
  go_enter Tryd.func15, Tryd.ntmps15
  go_wp2_with fail
  refine HC.out.mono ?_
  rintro e w' ⟨rfl, rfl⟩
  go_wp2
  go_ret2
  exact ⟨_, rfl, OwnInts.nil _ _, Below.refl _ _⟩

set_option maxHeartbeats 1000000 in
theorem shDeal_good (A : Option Addr) (n c : Nat) (l : List Int) (w : World) (h : Ints w A n l) (he : lotsErr l = 0) :
    Calls Tryd.prog 15 #[.slice A n c] w (RetOwnE w (dealt l) 0) := by
  obtain ⟨hn, hl⟩ := lotsErr_ok.1 he
  rw [h.len] at hn
  have HL := hid h.len
  have HC := hid (shCheck_any A n c l w h)
  rw [he] at HC
  have HI := hid h
  have HLT := hid hl
  have hmk := fun W => run_make_row' (P := Tryd.prog) 22 3 (.int .i64 0) 8 Tryd.underlying22 infoInt rfl .i64 .i64 n (by omega) (by omega) W
  clear h he hl
  go_enter Tryd.func15, Tryd.ntmps15
  go_wp2_with fail
  refine HC.out.mono ?_
  rintro e w' ⟨rfl, rfl⟩
  clear HC
  go_wp2_with fail
  go_loopg [18] n (fun g s wr => ∃ k : Nat, k ≤ n ∧ n - k ≤ g ∧ s = .int .i64 k ∧ Arr wr w.heap.size (dealt (l.take k) ++ List.replicate (n - k) (0 : Int)) ∧ Below w.heap.size w wr)
  case atStart => exact ⟨0, Nat.zero_le _, by omega, rfl, Arr.made w n, below_alloc _ _⟩
  case round =>
    obtain ⟨k, hk, hg, rfl, harr, hbel⟩ := hrel
    have HR := hid harr
    have HB := hid hbel
    clear harr hbel
    have HD : Hid ((dealt (l.take k)).length = k) := by rw [length_dealt, List.length_take, HL.out]; exact Nat.min_eq_left hk
    by_cases hlt : k < n
    · obtain ⟨b, o, rfl, hb, hc⟩ := HI.out.row (by omega)
      have g1 : wr.cell? ⟨b, o + k, none⟩ = some (.int .i64 (l.getD k 0)) := (HB.out.cell (p := ⟨b, o + k, none⟩) hb).trans (hc k hlt)
      have hx := HLT.out k (by rw [HL.out]; exact hlt)
      have HX : Hid (dealt (l.take (k + 1)) = dealStep (dealt (l.take k)) (l.getD k 0)) := by rw [take_snoc (by rw [HL.out]; exact hlt), dealt_snoc]; exact rfl
      clear hc
      generalize l.getD k 0 = x at g1 hx HX
      obtain ⟨m, rfl⟩ := Int.eq_ofNat_of_zero_le hx.1
      have hm : m ≤ k := by omega
      clear hx
      have HS : Hid (((dealt (l.take k) ++ List.replicate (n - k) (0 : Int)).set k ((dealt (l.take k) ++ List.replicate (n - k) (0 : Int)).getD m 0)).set m (k : Int) = dealt (l.take (k + 1)) ++ List.replicate (n - (k + 1)) (0 : Int)) := by
        rw [HX.out]
        have := deal_step (p := dealt (l.take k)) (n := n) (m := m) (by rw [HD.out]; exact hlt) (by rw [HD.out]; exact hm)
        rw [HD.out] at this
        exact this
      have HXL : Hid ((dealt (l.take k) ++ List.replicate (n - k) (0 : Int)).length = n) := by
        rw [List.length_append, HD.out, List.length_replicate]; exact Nat.add_sub_cancel' hk
      generalize dealt (l.take k) ++ List.replicate (n - k) (0 : Int) = X at HR HS HXL
      have g2 := HR.out.cell (j := m) (by rw [HXL.out]; omega)
      have g3 := HR.out.cell (j := k) (by rw [HXL.out]; exact hlt)
      have f2 := HR.out.frozen m
      have f3 := HR.out.frozen k
      generalize X.getD m 0 = y at g2 HS
      generalize X.getD k 0 = z at g3
      have g4 := (HR.out.set k y).cell (j := m) (by rw [List.length_set, HXL.out]; omega)
      generalize (X.set k y).getD m 0 = z2 at g4
      have f4 := (HR.out.set k y).frozen m
      go_wp2
      go_roundg (n - (k + 1))
      case measure => omega
      case rel => exact ⟨k + 1, by omega, by omega, by go_num, by rw [← HS.out]; exact (HR.out.set k y).set m k, (HB.out.setCell (Nat.le_refl _) _).setCell (Nat.le_refl _) _⟩
    · have hkn : k = n := by omega
      subst hkn
      have HT : Hid (dealt (l.take k) ++ List.replicate (k - k) (0 : Int) = dealt l) := by
        rw [Nat.sub_self, List.replicate_zero, List.append_nil, List.take_of_length_le (by rw [HL.out]; exact Nat.le_refl _)]; exact rfl
      rw [HT.out] at HR
      have HDL : Hid ((dealt l).length = k) := by rw [length_dealt]; exact HL.out
      go_wp2
      go_ret2
      exact ⟨_, rfl, HR.out.own (Nat.le_refl _) HDL.out (by omega), HB.out⟩

/-- shuffle.Deal, whatever comes in. -/
theorem shDeal_any (A : Option Addr) (n c : Nat) (xs : List Int) (w : World) (h : Ints w A n xs) :
    Calls Tryd.prog 15 #[.slice A n c] w (RetOwnE w (dealX xs) (lotsErr xs)) := by
  by_cases he : lotsErr xs = 0
  · rw [dealX_ok he, he]
    exact shDeal_good A n c xs w h he
  · rw [dealX_bad he]
    exact shDeal_bad A n c xs w h he

end Go.Proofs.YtmdpfadfimodjaaDoor

/-
  castkeep.good: true just where all of its errors are OK.
-/
namespace Go.Proofs.YtmdpfadfimodjaaDoor
open Go.RowKit

set_option maxHeartbeats 400000 in
theorem good1_any (x : Int) (w : World) : Calls Tryd.prog 49 #[.int .i64 x] w fun e w' => e = .returned (.bool (x != 0)) ∧ w = w' := by
  go_enter Tryd.func49, Tryd.ntmps49
  go_wp2
  go_ret
  exact ⟨rfl, rfl⟩

def allOK (l : List Int) : Bool := l.all (fun x => x == 0)
theorem allOK_true {l : List Int} : allOK l = true ↔ ∀ i, i < l.length → l.getD i 0 = 0 := by
  simp only [allOK, List.all_eq_true, beq_iff_eq]
  constructor
  · intro h i hi
    exact h _ (getD_mem hi)
  · intro h x hx
    obtain ⟨i, hi, rfl⟩ := mem_getD hx
    exact h i hi

def IdxGood (l : List Int) (w : World) (e : Ending) (w' : World) : Prop := ∃ r : Int, e = .returned (.int .i64 r) ∧ decide (0 ≤ r) = !(allOK l) ∧ w = w'

set_option maxHeartbeats 800000 in
theorem indexFunc_good (A : Option Addr) (n c : Nat) (l : List Int) (w : World) (h : Ints w A n l) (hn : n ≤ 1000000) :
    Calls Tryd.prog 58 #[.slice A n c, .func (.func 49) #[] #[]] w (IdxGood l w) := by
  go_enter Tryd.func58, Tryd.ntmps58
  go_wp2
  go_loopg [8] n (fun g s wr => ∃ k : Nat, k ≤ n ∧ n - k ≤ g ∧ s = .int .i64 k ∧ w = wr ∧ ∀ j, j < k → l.getD j 0 = 0)
  case atStart => exact ⟨0, Nat.zero_le _, by omega, rfl, rfl, fun j hj => absurd hj (Nat.not_lt_zero _)⟩
  case round =>
    obtain ⟨k, hk, hg, rfl, rfl, hall⟩ := hrel
    have HA := hid hall
    clear hall
    by_cases hlt : k < n
    · obtain ⟨b, o, rfl, hb, hc⟩ := h.row (by omega)
      have g1 := hc k hlt
      have HL := hid h.len
      clear hc h
      generalize hx : l.getD k 0 = x at g1
      have HX := hid hx
      clear hx
      by_cases hz : x = 0
      · subst hz
        go_wp2_with (go_at_call 49; refine (good1_any _ _).mono ?_; rintro e w' ⟨rfl, rfl⟩)
        go_roundg (n - (k + 1))
        case measure => omega
        case rel =>
          refine ⟨k + 1, by omega, by omega, by go_num, rfl, fun j hj => ?_⟩
          by_cases e : j = k
          · subst e
            exact HX.out
          · exact HA.out j (by omega)
      · have hz' : (x != 0) = true := by simpa using hz
        go_wp2_with (go_at_call 49; refine (good1_any _ _).mono ?_; rintro e w' ⟨rfl, rfl⟩)
        go_ret
        have HS : allOK l = false := by
          rw [Bool.eq_false_iff]
          intro e
          exact hz (HX.out.symm.trans (allOK_true.1 e k (by rw [HL.out]; exact hlt)))
        exact ⟨_, rfl, by rw [HS]; simp, rfl⟩
    · go_wp2
      go_ret
      have HS : allOK l = true := allOK_true.2 fun i hi => HA.out i (by rw [h.len] at hi; omega)
      exact ⟨_, rfl, by rw [HS]; rfl, rfl⟩

set_option maxHeartbeats 800000 in
theorem containsFunc_good (A : Option Addr) (n c : Nat) (l : List Int) (w : World) (h : Ints w A n l) (hn : n ≤ 1000000) :
    Calls Tryd.prog 48 #[.slice A n c, .func (.func 49) #[] #[]] w fun e w' => e = .returned (.bool (!(allOK l))) ∧ w = w' := by
  go_enter Tryd.func48, Tryd.ntmps48
  go_wp2_with fail
  refine (indexFunc_good A n c l _ h hn).mono ?_
  rintro e w' ⟨r, rfl, hr, rfl⟩
  go_wp2
  go_ret
  exact ⟨rfl, rfl⟩

set_option maxHeartbeats 800000 in
theorem good_any (A : Option Addr) (n c : Nat) (l : List Int) (w : World) (h : Ints w A n l) (hn : n ≤ 1000000) :
    Calls Tryd.prog 27 #[.slice A n c] w fun e w' => e = .returned (.bool (allOK l)) ∧ w = w' := by
  go_enter Tryd.func27, Tryd.ntmps27
  go_wp2_with fail
  refine (containsFunc_good A n c l _ h hn).mono ?_
  rintro e w' ⟨rfl, rfl⟩
  go_wp2
  go_ret
  exact ⟨by simp, rfl⟩

end Go.Proofs.YtmdpfadfimodjaaDoor

/-
  slices.Equal at []int: two slices are equal just where their lists are.
-/
namespace Go.Proofs.YtmdpfadfimodjaaDoor
open Go.RowKit

theorem getD_take_eq {xs ys : List Int} {n : Nat} (hx : xs.length = n) (hy : ys.length = n) (h : ∀ j, j < n → xs.getD j 0 = ys.getD j 0) : xs = ys := by
  apply List.ext_getElem (by omega)
  intro i h1 h2
  have := h i (by omega)
  simpa [List.getD_eq_getElem?_getD, List.getElem?_eq_getElem h1, List.getElem?_eq_getElem h2] using this

set_option maxHeartbeats 400000 in
theorem equal_any (A1 : Option Addr) (n c : Nat) (A2 : Option Addr) (m d : Nat) (xs ys : List Int) (w : World) (h1 : Ints w A1 n xs) (h2 : Ints w A2 m ys) (hn : n ≤ 1000000) (hm : m ≤ 1000000) :
    Calls Tryd.prog 24 #[.slice A1 n c, .slice A2 m d] w fun e w' => e = .returned (.bool (decide (xs = ys))) ∧ ∃ q, w' = w.drewN q := by
  by_cases hnm : n = m
  · subst hnm
    go_enter Tryd.func24, Tryd.ntmps24
    go_wp2
    go_loopg [13] n (fun g s13 wr => ∃ k q : Nat, k ≤ n ∧ n - k ≤ g ∧ s13 = .int .i64 k ∧ wr = w.drewN q ∧ ∀ j, j < k → xs.getD j 0 = ys.getD j 0)
    case atStart => exact ⟨0, 0, Nat.zero_le _, by omega, rfl, rfl, fun j hj => absurd hj (Nat.not_lt_zero _)⟩
    case round =>
      obtain ⟨k, q, hk, hg, rfl, rfl, heq⟩ := hrel
      have HE := hid heq
      clear heq
      by_cases hlt : k < n
      · obtain ⟨b1, o1, rfl, _, hc1⟩ := h1.row (by omega)
        obtain ⟨b2, o2, rfl, _, hc2⟩ := h2.row (by omega)
        have g1 := hc1 k hlt
        have g2 := hc2 k hlt
        clear hc1 hc2
        generalize hxk : xs.getD k 0 = x at g1
        generalize hyk : ys.getD k 0 = y at g2
        have HX := hid hxk
        have HY := hid hyk
        clear hxk hyk
        by_cases hxy : x = y
        · subst hxy
          go_wp2_with fail
          go_region
          go_wp2
          go_roundg (n - (k + 1))
          case measure => omega
          case rel =>
            refine ⟨k + 1, q + 1, by omega, by omega, by go_num, rfl, fun j hj => ?_⟩
            by_cases e : j = k
            · subst e
              rw [HX.out, HY.out]
            · exact HE.out j (by omega)
        · go_wp2_with fail
          go_region
          go_wp2
          go_ret
          have hd : decide (xs = ys) = false := decide_eq_false (fun e => by subst e; exact hxy (HX.out.symm.trans HY.out))
          rw [hd]
          exact ⟨rfl, q + 1, rfl⟩
      · have hkn : k = n := by omega
        subst hkn
        go_wp2
        go_ret
        rw [decide_eq_true (getD_take_eq h1.len h2.len HE.out)]
        exact ⟨rfl, q, rfl⟩
  · have hnm' : ¬ (n : Int) = (m : Int) := by omega
    go_enter Tryd.func24, Tryd.ntmps24
    go_wp2
    go_ret
    have hd : decide (xs = ys) = false := decide_eq_false (fun e => by subst e; exact hnm (h1.len.symm.trans h2.len))
    rw [hd]
    exact ⟨rfl, 0, rfl⟩

end Go.Proofs.YtmdpfadfimodjaaDoor

/-
  Several slices known at once; what a law over lists takes and gives.
-/
namespace Go.Proofs.YtmdpfadfimodjaaDoor
open Go.RowKit

/-- All of these slices are known in the world w. -/
def All (w : World) : List (Option Addr × Nat × List Int) → Prop
  | [] => True
  | x :: L => Ints w x.1 x.2.1 x.2.2 ∧ All w L

theorem All.keep {w w' : World} (hb : Below w.heap.size w w') : ∀ {L : List (Option Addr × Nat × List Int)}, All w L → All w' L
  | [], _ => trivial
  | _ :: _, h => ⟨h.1.keep hb, All.keep hb h.2⟩

/-- A slice of ints that came in. -/
def IsRow (k : IntKind) (w : World) (a : Option Addr) (len cap : Nat) (zs : List Int) : Prop :=
  (a = none ∧ len = 0 ∧ cap = 0 ∧ zs = []) ∨
  ∃ x, a = some x ∧ len ≤ cap ∧ cap ≤ maxLen ∧ zs.length = cap ∧ (∀ i, i < zs.length → w.cell? (x.add i) = some (.int k (zs.getD i 0))) ∧ ∀ n ∈ zs, (Lit.int k n).wf = true

theorem block_lt_of_cell {w : World} {a : Addr} {v : Value} (h : w.cell? a = some v) : a.block < w.heap.size := World.block_lt_of_cell? w a h

theorem IsRow.ints {w : World} {a : Option Addr} {len cap : Nat} {zs : List Int} (h : IsRow .i64 w a len cap zs) : Ints w a len (zs.take len) ∧ len ≤ cap ∧ cap ≤ maxLen := by
  rcases h with ⟨rfl, rfl, rfl, rfl⟩ | ⟨⟨b, off, sp⟩, rfl, hl, hm, hz, hcell, _⟩
  · exact ⟨Ints.nil _ _, Nat.le_refl _, Nat.zero_le _⟩
  · refine ⟨⟨by rw [List.length_take]; omega, fun hp => ?_⟩, hl, hm⟩
    have h0 := hcell 0 (by omega)
    have hsp : sp = none := by simpa [Addr.add] using World.cell?_spot h0
    subst hsp
    refine ⟨b, off, rfl, ?_, fun j hj => ?_⟩
    · have := block_lt_of_cell h0
      simpa [Addr.add] using this
    · have h1 := hcell j (by omega)
      have ha : (⟨b, off, none⟩ : Addr).add j = ⟨b, off + j, none⟩ := by unfold Addr.add; split <;> simp_all
      rw [ha] at h1
      rw [h1]
      simp [List.getD_eq_getElem?_getD, hj]

/-- min(x, y, 10). -/
theorem run_min3 {P : Program} (x y m : Nat) (hm : m = min (min x y) 10) (ts : Array TypeId) (t : TypeId) (W : World) :
    (Builtin.min_ ts t #[.int .i64 (x : Int), .int .i64 (y : Int), .int .i64 10]).run P W = .ok (.int .i64 (m : Int)) W := by
  have e : (if (10 : Int) < (if (y : Int) < x then (y : Int) else x) then (10 : Int) else (if (y : Int) < x then (y : Int) else x)) = (m : Int) := by
    subst hm
    split <;> split at * <;> omega
  simp only [Builtin.min_, Builtin.min2, List.foldlM_cons, List.foldlM_nil, pure_bind]
  simp only [e]
  rfl

/-- min(x, y, z, 10). -/
theorem run_min4 {P : Program} (x y z m : Nat) (hm : m = min (min (min x y) z) 10) (ts : Array TypeId) (t : TypeId) (W : World) :
    (Builtin.min_ ts t #[.int .i64 (x : Int), .int .i64 (y : Int), .int .i64 (z : Int), .int .i64 10]).run P W = .ok (.int .i64 (m : Int)) W := by
  have e1 : (if (z : Int) < (if (y : Int) < x then (y : Int) else x) then (z : Int) else (if (y : Int) < x then (y : Int) else x)) = ((min (min x y) z : Nat) : Int) := by
    split <;> split at * <;> omega
  have e : (if (10 : Int) < ((min (min x y) z : Nat) : Int) then (10 : Int) else ((min (min x y) z : Nat) : Int)) = (m : Int) := by
    subst hm
    split <;> omega
  simp only [Builtin.min_, Builtin.min2, List.foldlM_cons, List.foldlM_nil, pure_bind]
  simp only [e1, e]
  rfl

theorem equal_bel (A1 : Option Addr) (n c : Nat) (A2 : Option Addr) (m d : Nat) (xs ys : List Int) (w : World) (h1 : Ints w A1 n xs) (h2 : Ints w A2 m ys) (hn : n ≤ 1000000) (hm : m ≤ 1000000) :
    Calls Tryd.prog 24 #[.slice A1 n c, .slice A2 m d] w fun e w' => e = .returned (.bool (decide (xs = ys))) ∧ Below w.heap.size w w' :=
  (equal_any A1 n c A2 m d xs ys w h1 h2 hn hm).mono fun _ _ ⟨he, q, hq⟩ => ⟨he, by rw [hq]; exact below_drewN (Below.refl _ _) q⟩

theorem good_bel (w : World) (cs : Array Value) (t n : Nat) (l : List Int) (h : cs = (l.map (Value.int .i64)).toArray) (hn : l.length = n) (hs : n ≤ 1000000) :
    Calls Tryd.prog 27 #[.slice (some ⟨w.heap.size, 0, none⟩) n n] (w.alloc (.cells cs t)) fun e w' => e = .returned (.bool (allOK l)) ∧ Below w.heap.size w w' :=
  (good_any _ n n l _ (ints_lit w cs t n l h hn) hs).mono fun _ _ ⟨he, hw⟩ => ⟨he, by rw [← hw]; exact below_alloc _ _⟩

end Go.Proofs.YtmdpfadfimodjaaDoor
