/-
  Texts joined: Base, Row0, Own, Rst, Plain, Good, Lit, Equal, Small, Gen, Cyc, Check, Times, Deal, CycLen, Order, RatM, RatA, RatB, RatC.
-/
import Derived.Test.YtcnljljgdkjndaaRows
import Derived.WalkKit
import Derived.Deep.LoopGhost
import Derived.Deep.Draws
import Derived.Deep.QuietTactic
import Derived.BigQuiet
import Derived.Deep.OwnRows

/-
  Words of my own for slices of ints, and small plain facts. Nothing of the program is proved here.
-/
namespace Go.Proofs.Ytcnljljgdkjndaa
open Go.RowKit

/-- The slice value '.slice A n c' holds the numbers xs in the world w (nil and empty ones too). -/
structure Ints (w : World) (A : Option Addr) (n : Nat) (xs : List Int) : Prop where
  len : xs.length = n
  row : 0 < n → ∃ b off, A = some ⟨b, off, none⟩ ∧ b < w.heap.size ∧ ∀ j, j < n → w.cell? ⟨b, off + j, none⟩ = some (.int .i64 (xs.getD j 0))

theorem Ints.nil (w : World) (A : Option Addr) : Ints w A 0 [] := ⟨rfl, fun h => absurd h (by omega)⟩

theorem Ints.keep {w w' : World} {A : Option Addr} {n : Nat} {xs : List Int} (h : Ints w A n xs) (hb : Below w.heap.size w w') : Ints w' A n xs := by
  refine ⟨h.len, fun hn => ?_⟩
  obtain ⟨b, off, e, hlt, hc⟩ := h.row hn
  exact ⟨b, off, e, Nat.lt_of_lt_of_le hlt hb.size, fun j hj => (hb.cell (p := ⟨b, off + j, none⟩) hlt).trans (hc j hj)⟩

theorem below_drewN {B : Nat} {a w : World} (h : Below B a w) (n : Nat) : Below B a (w.drewN n) := ⟨h.os, h.tape, h.output, h.size, h.block⟩

theorem Ints.drewN {w : World} {A : Option Addr} {n : Nat} {xs : List Int} (h : Ints w A n xs) (k : Nat) : Ints (w.drewN k) A n xs := h.keep (below_drewN (Below.refl _ _) k)

/-- A length within its capacity. -/
def Cap (n c : Nat) : Prop := n ≤ c ∧ c ≤ 9223372036854775807

/-- A fact kept from the walk. -/
theorem hid {p : Prop} (h : p) : Hid p := h

end Go.Proofs.Ytcnljljgdkjndaa

/-
  Rows of ints that come back: words and plain facts.
-/
namespace Go.Proofs.Ytcnljljgdkjndaa
open Go.RowKit

theorem infoInt : (Try.prog.info? 3).map (fun i => (i.zero, i.size, i.bytes)) = some (some (.int .i64 0), 1, 8) := by kernel_rfl

/-- A list and an error come back; nothing that was there has turned. -/
def RetInts (w : World) (ys : List Int) (er : Int) (e : Ending) (w' : World) : Prop :=
  ∃ A n c, e = .returned (.tuple #[.slice A n c, .int .i64 er]) ∧ Below w.heap.size w w' ∧ Ints w' A n ys ∧ Cap n c

theorem ints_of_row {w : World} {g t n : Nat} {f : Nat → Value} {xs : List Int} (h : w.rowIs g t n f) (hl : xs.length = n) (hf : ∀ j, j < n → f j = .int .i64 (xs.getD j 0)) :
    Ints w (some ⟨g, 0, none⟩) n xs :=
  ⟨hl, fun _ => ⟨g, 0, rfl, h.lt, fun j hj => by rw [Nat.zero_add, h.cell hj, hf j hj]⟩⟩

/-- What the product holds after k rounds. -/
def partCell (ys : List Int) (k j : Nat) : Value := if j < k then .int .i64 (ys.getD j 0) else .int .i64 0

theorem partCell_step (ys : List Int) (k j : Nat) : (if j = k then Value.int .i64 (ys.getD k 0) else partCell ys k j) = partCell ys (k + 1) j := by
  unfold partCell
  by_cases h : j = k
  · subst h
    rw [if_pos rfl, if_pos (by omega)]
  · rw [if_neg h]
    by_cases h2 : j < k
    · rw [if_pos h2, if_pos (by omega)]
    · rw [if_neg h2, if_neg (by omega)]

end Go.Proofs.Ytcnljljgdkjndaa

/-
  A slice of ints that the call itself has made, and one append onto it.
-/
namespace Go.Proofs.Ytcnljljgdkjndaa
open Go.RowKit

/-- v is a slice of the call's own (its block from 'base' on), and holds xs. -/
def OwnInts (w : World) (base : Nat) (v : Value) (xs : List Int) : Prop := w.ownsRow base 3 1 v xs.length (xs.map (Value.int .i64))

theorem OwnInts.nil (w : World) (base : Nat) : OwnInts w base (.slice none 0 0) [] := World.ownsRow_nil w base 3 1

theorem OwnInts.form {w : World} {base : Nat} {v : Value} {xs : List Int} (h : OwnInts w base v xs) (hn : 0 < xs.length) :
    ∃ g cap, v = .slice (some ⟨g, 0, none⟩) xs.length cap ∧ base ≤ g ∧ g < w.heap.size ∧ xs.length ≤ cap := by
  rcases h.2 with ⟨_, h0⟩ | ⟨g, cap, cur, hv, hb, hg, hc, _⟩
  · omega
  · exact ⟨g, cap, hv, hb, (Array.getElem?_eq_some_iff.1 hg).1, hc⟩

theorem OwnInts.cell {w : World} {base g cap : Nat} {xs : List Int} (h : OwnInts w base (.slice (some ⟨g, 0, none⟩) xs.length cap) xs) {j : Nat} (hj : j < xs.length) :
    w.cell? ⟨g, j, none⟩ = some (.int .i64 (xs.getD j 0)) := by
  rw [World.ownsRow.cellAt h j (by omega)]
  simp [List.getD_eq_getElem?_getD, List.getElem?_eq_getElem hj]

theorem OwnInts.frozen {w : World} {base g cap : Nat} {xs : List Int} (h : OwnInts w base (.slice (some ⟨g, 0, none⟩) xs.length cap) xs) (j : Nat) : w.frozen? ⟨g, j, none⟩ = false := World.ownsRow.frozenAt h j

theorem OwnInts.set {w : World} {base g n cap : Nat} {xs : List Int} (h : OwnInts w base (.slice (some ⟨g, 0, none⟩) n cap) xs) (hn : n = xs.length) (j : Nat) (x : Int) :
    OwnInts (w.setCell ⟨g, j, none⟩ (.int .i64 x)) base (.slice (some ⟨g, 0, none⟩) n cap) (xs.set j x) := by
  subst hn
  have := (World.ownsRow.stored h j (.int .i64 x)).1
  unfold OwnInts
  rw [List.length_set, List.map_set]
  exact this

theorem OwnInts.drewN {w : World} {base : Nat} {v : Value} {xs : List Int} (h : OwnInts w base v xs) (k : Nat) : OwnInts (w.drewN k) base v xs := h
theorem OwnInts.drew {w : World} {base : Nat} {v : Value} {xs : List Int} (h : OwnInts w base v xs) : OwnInts w.drew base v xs := h

theorem OwnInts.mono {w : World} {base base' : Nat} {v : Value} {xs : List Int} (h : OwnInts w base v xs) (hb : base' ≤ base) : OwnInts w base' v xs := by
  refine ⟨h.1, ?_⟩
  rcases h.2 with h0 | ⟨g, cap, cur, hv, hg, r⟩
  · exact .inl h0
  · exact .inr ⟨g, cap, cur, hv, Nat.le_trans hb hg, r⟩

/-- All that was there stays, so the slice does. -/
theorem OwnInts.keep {w w' : World} {base : Nat} {v : Value} {xs : List Int} (h : OwnInts w base v xs) (hb : Below w.heap.size w w') : OwnInts w' base v xs := by
  refine ⟨h.1, ?_⟩
  rcases h.2 with h0 | ⟨g, cap, cur, hv, hg, hh, r⟩
  · exact .inl h0
  · exact .inr ⟨g, cap, cur, hv, hg, (hb.block g (Array.getElem?_eq_some_iff.1 hh).1).trans hh, r⟩

/-- A block that is known whole, as a slice of the call's own. -/
theorem own_of_rowIs {w : World} {base g n : Nat} {f : Nat → Value} {xs : List Int} (h : w.rowIs g 3 n f) (hl : xs.length = n) (hf : ∀ j, j < n → f j = .int .i64 (xs.getD j 0)) (hb : base ≤ g) (hn : n ≤ maxLen) :
    OwnInts w base (.slice (some ⟨g, 0, none⟩) n n) xs := by
  subst hl
  obtain ⟨c, hg, hc, hat⟩ := h
  refine ⟨by simp, .inr ⟨g, xs.length, c, rfl, hb, hg, Nat.le_refl _, hn, by omega, ?_⟩⟩
  refine List.ext_getElem? fun i => ?_
  rcases Nat.lt_or_ge i xs.length with hi | hi
  · rw [List.getElem?_take, if_pos (by omega), Array.getElem?_toList, hat i hi, hf i hi]
    simp [List.getD_eq_getElem?_getD, hi]
  · rw [List.getElem?_eq_none (by rw [List.length_take]; omega), List.getElem?_eq_none (by simpa using hi)]

/-- A list of the call's own comes back, and an error. -/
def RetOwnE (w : World) (ys : List Int) (er : Int) (e : Ending) (w' : World) : Prop := ∃ v, e = .returned (.tuple #[v, .int .i64 er]) ∧ OwnInts w' w.heap.size v ys ∧ Below w.heap.size w w'

/-- The slice as one that is only read. -/
theorem OwnInts.ints {w : World} {base : Nat} {v : Value} {xs : List Int} (h : OwnInts w base v xs) : ∃ A c, v = .slice A xs.length c ∧ Ints w A xs.length xs ∧ Cap xs.length c := by
  rcases h.2 with ⟨rfl, h0⟩ | ⟨g, cap, cur, rfl, hb, hg, hc1, hc2, _⟩
  · have : xs = [] := List.eq_nil_of_length_eq_zero h0
    subst this
    exact ⟨none, 0, rfl, Ints.nil _ _, Nat.le_refl _, by omega⟩
  · exact ⟨_, _, rfl, ⟨rfl, fun _ => ⟨g, 0, rfl, (Array.getElem?_eq_some_iff.1 hg).1, fun j hj => by rw [Nat.zero_add]; exact OwnInts.cell h hj⟩⟩, hc1, by unfold maxLen at hc2; exact hc2⟩

theorem OwnInts.asInts {w : World} {base : Nat} {A : Option Addr} {n c : Nat} {xs : List Int} (h : OwnInts w base (.slice A n c) xs) : Ints w A n xs ∧ Cap n c := by
  obtain ⟨A', c', e, hI, hc⟩ := h.ints
  injection e with e1 e2 e3
  subst e1
  subst e2
  subst e3
  exact ⟨hI, hc⟩

theorem cell_one (W : World) (y : Int) : ∀ j u, [Value.int .i64 y][j]? = some u → (W.alloc (.cells #[.int .i64 y] 3)).cell? ((⟨W.heap.size, 0, none⟩ : Addr).add j) = some u := by
  intro j u hj
  match j, hj with
  | 0, hj => simp at hj; subst hj; simp [Addr.add]

/-- 'out = append(out, y)', out nil or the call's own: the world has laid y in a block of its own first. -/
theorem wpList_app1 {ops : Array Oper} {rest : List Oper} {o : Oper} {a : Act} {Q : Exit → Act → World → Prop} (W : World) (hgd : o.guard = none) (s x : Operand)
    (ho : o.op = .call { callee := .builtin .append, args := #[s, x], argTypes := #[44, 44] })
    (base : Nat) (v : Value) (xs : List Int) (y : Int) (hs : a.eval s = v) (hx : a.eval x = .slice (some ⟨W.heap.size, 0, none⟩) 1 1) (hown : OwnInts W base v xs)
    (hlen : xs.length ≤ 1000000000000) (hbase : base ≤ W.heap.size)
    (h : ∀ v' w', OwnInts w' base v' (xs ++ [y]) → W.grownBy w' v.ownBlock → Below base W w' → wpList Try.prog ops Q rest (a.put o.dst v') w') :
    wpList Try.prog ops Q (o :: rest) a (W.alloc (.cells #[.int .i64 y] 3)) := by
  obtain ⟨i0, hi, hz0, hz1, hz2⟩ := info_parts infoInt
  refine wpList_append_own _ hgd s x 44 ho base 3 i0 (.int .i64 0) 1 8 Try.underlying44 hi hz0 hz1 hz2 rfl (by decide) v xs.length (xs.map (Value.int .i64)) hs (World.ownsRow.alloc hown _)
    ⟨W.heap.size, 0, none⟩ 1 1 [.int .i64 y] hx rfl (cell_one W y) (by intro u hu; simp at hu; subst hu; rfl) (by unfold maxLen; omega) (by omega) (by simp; omega) ?_
  intro v' w' h1 h2 _
  have hg : W.grownBy w' v.ownBlock := ⟨h2.os, h2.tape, h2.output, Nat.le_trans (by simp) h2.size, fun k hk hne => (h2.block k (by simp; omega) hne).trans (Below.heap_alloc W _ k hk)⟩
  refine h v' w' ?_ hg ?_
  · unfold OwnInts
    simpa using h1
  · refine ⟨hg.os, hg.tape, hg.output, hg.size, fun k hk => hg.block k (by omega) (fun e => ?_)⟩
    have := World.ownsRow.lt hown k e.symm
    omega

end Go.Proofs.Ytcnljljgdkjndaa

/-
  castref.Rest, castkeep.Within; a slice cut short; small plain facts.
-/
namespace Go.Proofs.Ytcnljljgdkjndaa
open Go.RowKit

/-- One lot: the next number is put behind, and changes places. -/
def swapAt (l : List Int) (i j : Nat) : List Int := (l.set i (l.getD j 0)).set j (l.getD i 0)

theorem length_swapAt (l : List Int) (i j : Nat) : (swapAt l i j).length = l.length := by simp [swapAt]

theorem getD_set (l : List Int) (i j : Nat) (x : Int) : (l.set i x).getD j 0 = if j = i ∧ i < l.length then x else l.getD j 0 := by
  simp only [List.getD_eq_getElem?_getD, List.getElem?_set]
  by_cases h : i = j
  · subst h
    by_cases h2 : i < l.length
    · simp [h2]
    · simp [h2]
  · have h' : ¬ j = i := fun e => h e.symm
    simp [h, h']

theorem getD_swapAt {l : List Int} {i j : Nat} (hi : i < l.length) (hj : j < l.length) (k : Nat) :
    (swapAt l i j).getD k 0 = if k = j then l.getD i 0 else if k = i then l.getD j 0 else l.getD k 0 := by
  unfold swapAt
  rw [getD_set, getD_set, List.length_set]
  by_cases h1 : k = j
  · rw [if_pos ⟨h1, hj⟩, if_pos h1]
  · rw [if_neg (fun h => h1 h.1), if_neg h1]
    by_cases h2 : k = i
    · rw [if_pos ⟨h2, hi⟩, if_pos h2]
    · rw [if_neg (fun h => h2 h.1), if_neg h2]

theorem take_snoc {l : List Int} {k : Nat} (hk : k < l.length) : l.take (k + 1) = l.take k ++ [l.getD k 0] := by
  rw [List.take_succ_eq_append_getElem hk, List.getD_eq_getElem?_getD, List.getElem?_eq_getElem hk]
  rfl

theorem ret_int {k : IntKind} {a b : Int} (h : a = b) : Ending.returned (.int k a) = .returned (.int k b) := by rw [h]

theorem emod_of_tmod_neg {x m : Int} (hm : 0 < m) (h : x.tmod m < 0) : x.tmod m + m = x % m := by
  have h1 := Int.tmod_eq_emod (a := x) (b := m)
  have h2 := Int.emod_nonneg x (show m ≠ 0 by omega)
  have h3 := Int.emod_lt_of_pos x hm
  rw [h1] at h ⊢
  split at h
  · omega
  · rename_i hc
    rw [if_neg hc]
    omega

theorem emod_of_tmod_pos {x m : Int} (hm : 0 < m) (h : 0 ≤ x.tmod m) : x.tmod m = x % m := by
  have h1 := Int.tmod_eq_emod (a := x) (b := m)
  have h2 := Int.emod_nonneg x (show m ≠ 0 by omega)
  have h3 := Int.emod_lt_of_pos x hm
  rw [h1] at h ⊢
  split at h
  · rename_i hc
    rw [if_pos hc]
    omega
  · rename_i hc
    rw [if_neg hc]
    omega

set_option maxHeartbeats 400000 in
theorem rest_any (x m : Int) (w : World) (hm : 0 < m) (hm2 : m ≤ 4611686018427387904) :
    Calls Try.prog 42 #[.int .i64 x, .int .i64 m] w fun e w' => e = .returned (.int .i64 (x % m)) ∧ w = w' := by
  have h1 : x.tmod m < m := Int.tmod_lt_of_pos x hm
  have h2 : -m < x.tmod m := by have := Int.lt_tmod_of_pos x hm; omega
  have hne : (m == 0) = false := by simp; omega
  have hw : IntKind.i64.wrap (x.tmod m) = x.tmod m := IntWalk.i64_in _ (by omega)
  by_cases hneg : x.tmod m < 0
  · have HE := hid (emod_of_tmod_neg hm hneg)
    generalize hr : x.tmod m = r at *
    go_enter Try.func42, Try.ntmps42
    go_wp2
    go_ret
    exact ⟨ret_int HE.out, rfl⟩
  · have hpos : 0 ≤ x.tmod m := by omega
    have HE := hid (emod_of_tmod_pos hm hpos)
    clear hneg
    generalize hr : x.tmod m = r at *
    go_enter Try.func42, Try.ntmps42
    go_wp2
    go_ret
    exact ⟨ret_int HE.out, rfl⟩

set_option maxHeartbeats 400000 in
theorem within_any (x m : Int) (w : World) (hm : 0 < m) (hm2 : m ≤ 4611686018427387904) :
    Calls Try.prog 22 #[.int .i64 x, .int .i64 m] w fun e w' => e = .returned (.int .i64 (x % m)) ∧ w = w' := by
  go_enter Try.func22, Try.ntmps22
  go_wp2_with fail
  refine (rest_any x m _ hm hm2).mono ?_
  rintro e w' ⟨rfl, rfl⟩
  go_wp2
  go_ret
  exact ⟨rfl, rfl⟩

def RetOwn (w : World) (ys : List Int) (e : Ending) (w' : World) : Prop := ∃ v, e = .returned v ∧ OwnInts w' w.heap.size v ys ∧ Below w.heap.size w w'

theorem Ints.take {w : World} {A : Option Addr} {n m : Nat} {xs : List Int} (h : Ints w A n xs) (hm : m ≤ n) : Ints w A m (xs.take m) := by
  refine ⟨by rw [List.length_take, h.len]; omega, fun hp => ?_⟩
  obtain ⟨b, o, e, hb, hc⟩ := h.row (by omega)
  refine ⟨b, o, e, hb, fun j hj => ?_⟩
  rw [hc j (by omega)]
  simp [List.getD_eq_getElem?_getD, hj]

theorem ext_getD {xs ys : List Int} (hl : xs.length = ys.length) (h : ∀ j, j < xs.length → xs.getD j 0 = ys.getD j 0) : xs = ys := by
  apply List.ext_getElem hl
  intro i h1 h2
  have := h i h1
  simpa [List.getD_eq_getElem?_getD, List.getElem?_eq_getElem h1, List.getElem?_eq_getElem h2] using this

theorem only_drewN {a w : World} {row : Option Nat} (h : a.grownBy w row) (n : Nat) : a.grownBy (w.drewN n) row := ⟨h.os, h.tape, h.output, h.size, h.block⟩

theorem only_refl (a : World) (row : Option Nat) : a.grownBy a row := ⟨rfl, rfl, rfl, Nat.le_refl _, fun _ _ _ => rfl⟩

theorem only_set {a w : World} {g : Nat} (h : a.grownBy w (some g)) (j : Nat) (u : Value) : a.grownBy (w.setCell ⟨g, j, none⟩ u) (some g) :=
  ⟨h.os, h.tape, h.output, by simpa [World.setCell] using h.size, fun i hi hne => (Below.heap_setCell w ⟨g, j, none⟩ u i (by
    rintro rfl
    exact hne rfl)).trans (h.block i hi hne)⟩

end Go.Proofs.Ytcnljljgdkjndaa

/-
  Plain facts on lists of numbers: permutations of 0 .. n-1. No program, no memory.
-/
namespace Go.Proofs.Ytcnljljgdkjndaa

theorem perm_of_nodup_subset {α : Type} [DecidableEq α] : ∀ {l l' : List α}, l.Nodup → (∀ x, x ∈ l → x ∈ l') → l'.length ≤ l.length → l'.Perm l
  | [], l', _, _, hl => by
    have : l' = [] := List.eq_nil_of_length_eq_zero (by simpa using hl)
    subst this
    exact List.Perm.refl _
  | a :: t, l', hn, hs, hl => by
    have ha : a ∈ l' := hs a (by simp)
    have hn' := List.nodup_cons.1 hn
    have h1 : l'.Perm (a :: l'.erase a) := List.perm_cons_erase ha
    have h2 : (l'.erase a).Perm t := by
      refine perm_of_nodup_subset hn'.2 (fun x hx => ?_) ?_
      · have hne : x ≠ a := fun e => hn'.1 (e ▸ hx)
        exact (List.mem_erase_of_ne hne).2 (hs x (by simp [hx]))
      · have := List.length_erase_of_mem ha
        have hpos : 0 < l'.length := List.length_pos_of_mem ha
        simp only [List.length_cons] at hl
        omega
    exact h1.trans (h2.cons a)

/-- 0, 1, .., n-1. -/
def iota (n : Nat) : List Int := (List.range n).map (fun i : Nat => (i : Int))

theorem length_iota (n : Nat) : (iota n).length = n := by simp [iota]
theorem mem_iota {n : Nat} {x : Int} : x ∈ iota n ↔ 0 ≤ x ∧ x < n := by
  simp only [iota, List.mem_map, List.mem_range]
  constructor
  · rintro ⟨i, hi, rfl⟩; omega
  · rintro ⟨h0, h1⟩; exact ⟨x.toNat, by omega, by omega⟩
theorem nodup_iota (n : Nat) : (iota n).Nodup := by
  unfold iota
  rw [List.nodup_iff_pairwise_ne, List.pairwise_map]
  have h := List.nodup_range (n := n)
  rw [List.nodup_iff_pairwise_ne] at h
  exact h.imp (fun hab e => hab (by omega))
theorem getD_iota {n i : Nat} (h : i < n) : (iota n).getD i 0 = (i : Int) := by
  simp [iota, List.getD_eq_getElem?_getD, h]

/-- A list that holds each of 0 .. n-1 once. -/
def IsPerm (xs : List Int) : Prop := xs.Perm (iota xs.length)

theorem isPerm_of_all {xs : List Int} (h : ∀ i : Nat, i < xs.length → (i : Int) ∈ xs) : IsPerm xs :=
  perm_of_nodup_subset (nodup_iota _) (fun x hx => by
    have := mem_iota.1 hx
    have h' := h x.toNat (by omega)
    rwa [show ((x.toNat : Nat) : Int) = x by omega] at h') (by rw [length_iota]; exact Nat.le_refl _)

theorem IsPerm.all {xs : List Int} (h : IsPerm xs) (i : Nat) (hi : i < xs.length) : (i : Int) ∈ xs :=
  h.mem_iff.2 (mem_iota.2 ⟨by omega, by omega⟩)
theorem IsPerm.range {xs : List Int} (h : IsPerm xs) {x : Int} (hx : x ∈ xs) : 0 ≤ x ∧ x < xs.length := mem_iota.1 (h.mem_iff.1 hx)
theorem IsPerm.nodup {xs : List Int} (h : IsPerm xs) : xs.Nodup := h.nodup_iff.2 (nodup_iota _)

theorem isPerm_of_nodup {xs : List Int} (hn : xs.Nodup) (hr : ∀ x, x ∈ xs → 0 ≤ x ∧ x < xs.length) : IsPerm xs :=
  (perm_of_nodup_subset hn (fun x hx => mem_iota.2 (hr x hx)) (by rw [length_iota]; exact Nat.le_refl _)).symm

theorem getD_mem {xs : List Int} {i : Nat} (h : i < xs.length) : xs.getD i 0 ∈ xs := by
  rw [List.getD_eq_getElem?_getD, List.getElem?_eq_getElem h]
  exact List.getElem_mem h
theorem mem_getD {xs : List Int} {x : Int} (h : x ∈ xs) : ∃ i, i < xs.length ∧ xs.getD i 0 = x := by
  obtain ⟨i, hi, e⟩ := List.getElem_of_mem h
  exact ⟨i, hi, by rw [List.getD_eq_getElem?_getD, List.getElem?_eq_getElem hi]; exact e⟩

theorem mem_take_iff {xs : List Int} {k : Nat} {x : Int} : x ∈ xs.take k ↔ ∃ i, i < k ∧ i < xs.length ∧ xs.getD i 0 = x := by
  constructor
  · intro h
    obtain ⟨i, hi, e⟩ := mem_getD h
    have hl := List.length_take (i := k) (l := xs)
    refine ⟨i, by omega, by omega, ?_⟩
    rw [← e]
    simp only [List.getD_eq_getElem?_getD, List.getElem?_take]
    rw [if_pos (by omega)]
  · rintro ⟨i, hk, hi, rfl⟩
    have h : (xs.take k).getD i 0 = xs.getD i 0 := by
      simp only [List.getD_eq_getElem?_getD, List.getElem?_take]
      rw [if_pos hk]
    rw [← h]
    exact getD_mem (by rw [List.length_take]; omega)

theorem nodup_iff_getD {xs : List Int} : xs.Nodup ↔ ∀ i j, i < j → j < xs.length → xs.getD i 0 ≠ xs.getD j 0 := by
  rw [List.nodup_iff_pairwise_ne, List.pairwise_iff_getElem]
  constructor
  · intro h i j hij hj
    have := h i j (by omega) hj hij
    simpa [List.getD_eq_getElem?_getD, List.getElem?_eq_getElem (show i < xs.length by omega), List.getElem?_eq_getElem hj] using this
  · intro h i j hi hj hij
    have := h i j hij hj
    simpa [List.getD_eq_getElem?_getD, List.getElem?_eq_getElem hi, List.getElem?_eq_getElem hj] using this

/-- What Check finds good, number by number. -/
theorem isPerm_of_steps {xs : List Int} (h : ∀ k, k < xs.length → 0 ≤ xs.getD k 0 ∧ xs.getD k 0 < xs.length ∧ xs.getD k 0 ∉ xs.take k) : IsPerm xs := by
  refine isPerm_of_nodup (nodup_iff_getD.2 fun i j hij hj e => ?_) fun x hx => ?_
  · exact (h j hj).2.2 (mem_take_iff.2 ⟨i, hij, by omega, e⟩)
  · obtain ⟨i, hi, rfl⟩ := mem_getD hx
    exact ⟨(h i hi).1, (h i hi).2.1⟩

theorem not_isPerm_of_step {xs : List Int} {k : Nat} (hk : k < xs.length) (h : xs.getD k 0 < 0 ∨ (xs.length : Int) ≤ xs.getD k 0 ∨ xs.getD k 0 ∈ xs.take k) : ¬ IsPerm xs := by
  intro hp
  have hr := hp.range (getD_mem hk)
  rcases h with h | h | h
  · omega
  · omega
  · obtain ⟨i, hik, hi, e⟩ := mem_take_iff.1 h
    exact nodup_iff_getD.1 hp.nodup i k hik hk e

instance (xs : List Int) : Decidable (IsPerm xs) :=
  if h : ∀ i, i < xs.length → (i : Int) ∈ xs then isTrue (isPerm_of_all h) else isFalse (fun hp => h hp.all)

/-- P3: the error of a list. -/
def permErr (xs : List Int) : Int := if 10 < xs.length then 2 else if IsPerm xs then 0 else 3

theorem permErr_bad {xs : List Int} (hl : xs.length ≤ 10) (h : ¬ IsPerm xs) : permErr xs = 3 := by
  unfold permErr
  rw [if_neg (by omega), if_neg h]

theorem permErr_ok {xs : List Int} : permErr xs = 0 ↔ xs.length ≤ 10 ∧ IsPerm xs := by
  unfold permErr
  split
  · constructor
    · intro h; cases h
    · intro h; omega
  · rename_i h1
    split
    · rename_i h2
      exact ⟨fun _ => ⟨by omega, h2⟩, fun _ => rfl⟩
    · rename_i h2
      exact ⟨(fun h => by cases h), fun h => absurd h.2 h2⟩

end Go.Proofs.Ytcnljljgdkjndaa

/-
  castkeep.good: true just where all of its errors are OK.
-/
namespace Go.Proofs.Ytcnljljgdkjndaa
open Go.RowKit

set_option maxHeartbeats 400000 in
theorem good1_any (x : Int) (w : World) : Calls Try.prog 44 #[.int .i64 x] w fun e w' => e = .returned (.bool (x != 0)) ∧ w = w' := by
  go_enter Try.func44, Try.ntmps44
  go_wp2
  go_ret
  exact ⟨rfl, rfl⟩

def allOK (l : List Int) : Bool := l.all (fun x => x == 0)
theorem allOK_true {l : List Int} : allOK l = true ↔ ∀ i, i < l.length → l.getD i 0 = 0 := by
  simp only [allOK, List.all_eq_true, beq_iff_eq]
  constructor
  · intro h i hi
    exact h _ (getD_mem hi)
  · intro h x hx
    obtain ⟨i, hi, rfl⟩ := mem_getD hx
    exact h i hi

def IdxGood (l : List Int) (w : World) (e : Ending) (w' : World) : Prop := ∃ r : Int, e = .returned (.int .i64 r) ∧ decide (0 ≤ r) = !(allOK l) ∧ w = w'

set_option maxHeartbeats 800000 in
theorem indexFunc_good (A : Option Addr) (n c : Nat) (l : List Int) (w : World) (h : Ints w A n l) (hn : n ≤ 1000000) :
    Calls Try.prog 65 #[.slice A n c, .func (.func 44) #[] #[]] w (IdxGood l w) := by
  go_enter Try.func65, Try.ntmps65
  go_wp2
  go_loopg [8] n (fun g s wr => ∃ k : Nat, k ≤ n ∧ n - k ≤ g ∧ s = .int .i64 k ∧ w = wr ∧ ∀ j, j < k → l.getD j 0 = 0)
  case atStart => exact ⟨0, Nat.zero_le _, by omega, rfl, rfl, fun j hj => absurd hj (Nat.not_lt_zero _)⟩
  case round =>
    obtain ⟨k, hk, hg, rfl, rfl, hall⟩ := hrel
    have HA := hid hall
    clear hall
    by_cases hlt : k < n
    · obtain ⟨b, o, rfl, hb, hc⟩ := h.row (by omega)
      have g1 := hc k hlt
      have HL := hid h.len
      clear hc h
      generalize hx : l.getD k 0 = x at g1
      have HX := hid hx
      clear hx
      by_cases hz : x = 0
      · subst hz
        go_wp2_with (go_at_call 44; refine (good1_any _ _).mono ?_; rintro e w' ⟨rfl, rfl⟩)
        go_roundg (n - (k + 1))
        case measure => omega
        case rel =>
          refine ⟨k + 1, by omega, by omega, by go_num, rfl, fun j hj => ?_⟩
          by_cases e : j = k
          · subst e
            exact HX.out
          · exact HA.out j (by omega)
      · have hz' : (x != 0) = true := by simpa using hz
        go_wp2_with (go_at_call 44; refine (good1_any _ _).mono ?_; rintro e w' ⟨rfl, rfl⟩)
        go_ret
        have HS : allOK l = false := by
          rw [Bool.eq_false_iff]
          intro e
          exact hz (HX.out.symm.trans (allOK_true.1 e k (by rw [HL.out]; exact hlt)))
        exact ⟨_, rfl, by rw [HS]; simp, rfl⟩
    · go_wp2
      go_ret
      have HS : allOK l = true := allOK_true.2 fun i hi => HA.out i (by rw [h.len] at hi; omega)
      exact ⟨_, rfl, by rw [HS]; rfl, rfl⟩

set_option maxHeartbeats 800000 in
theorem containsFunc_good (A : Option Addr) (n c : Nat) (l : List Int) (w : World) (h : Ints w A n l) (hn : n ≤ 1000000) :
    Calls Try.prog 43 #[.slice A n c, .func (.func 44) #[] #[]] w fun e w' => e = .returned (.bool (!(allOK l))) ∧ w = w' := by
  go_enter Try.func43, Try.ntmps43
  go_wp2_with fail
  refine (indexFunc_good A n c l _ h hn).mono ?_
  rintro e w' ⟨r, rfl, hr, rfl⟩
  go_wp2
  go_ret
  exact ⟨rfl, rfl⟩

set_option maxHeartbeats 800000 in
theorem good_any (A : Option Addr) (n c : Nat) (l : List Int) (w : World) (h : Ints w A n l) (hn : n ≤ 1000000) :
    Calls Try.prog 23 #[.slice A n c] w fun e w' => e = .returned (.bool (allOK l)) ∧ w = w' := by
  go_enter Try.func23, Try.ntmps23
  go_wp2_with fail
  refine (containsFunc_good A n c l _ h hn).mono ?_
  rintro e w' ⟨rfl, rfl⟩
  go_wp2
  go_ret
  exact ⟨by simp, rfl⟩

end Go.Proofs.Ytcnljljgdkjndaa

/-
  A slice that is written out.
-/
namespace Go.Proofs.Ytcnljljgdkjndaa
open Go.RowKit

theorem ints_lit (w : World) (cs : Array Value) (t n : Nat) (xs : List Int) (h : cs = (xs.map (Value.int .i64)).toArray) (hn : xs.length = n) : Ints (w.alloc (.cells cs t)) (some ⟨w.heap.size, 0, none⟩) n xs := by
  subst h
  subst hn
  refine ⟨rfl, fun _ => ⟨w.heap.size, 0, rfl, by simp, fun j hj => ?_⟩⟩
  rw [cell_of_row (w.alloc _) w.heap.size (0 + j) _ t (0, 0) (heap_alloc_new w _)]
  simp [List.getD_eq_getElem?_getD, List.getElem?_eq_getElem hj]

theorem below_alloc (w : World) (o : Obj) : Below w.heap.size w (w.alloc o) := (Below.refl _ _).alloc (Nat.le_refl _) _

theorem below_step {B : Nat} {a b c : World} (h : Below B a b) (hB : B ≤ a.heap.size) (k : Below b.heap.size b c) : Below B a c := h.trans (k.mono (Nat.le_trans hB h.size))

end Go.Proofs.Ytcnljljgdkjndaa

/-
  slices.Equal at []int: two slices are equal just where their lists are.
-/
namespace Go.Proofs.Ytcnljljgdkjndaa
open Go.RowKit

theorem getD_take_eq {xs ys : List Int} {n : Nat} (hx : xs.length = n) (hy : ys.length = n) (h : ∀ j, j < n → xs.getD j 0 = ys.getD j 0) : xs = ys := by
  apply List.ext_getElem (by omega)
  intro i h1 h2
  have := h i (by omega)
  simpa [List.getD_eq_getElem?_getD, List.getElem?_eq_getElem h1, List.getElem?_eq_getElem h2] using this

end Go.Proofs.Ytcnljljgdkjndaa

/-
  The library's slices.IsSorted at []int; the verifier's castkeep.good.
-/
namespace Go.Proofs.Ytcnljljgdkjndaa
open Go.RowKit

/-- Does no number fall? -/
def sortedB (xs : List Int) : Bool := (List.range (xs.length - 1)).all (fun i => decide (xs.getD i 0 ≤ xs.getD (i + 1) 0))

theorem sortedB_true {xs : List Int} : sortedB xs = true ↔ ∀ i, i + 1 < xs.length → xs.getD i 0 ≤ xs.getD (i + 1) 0 := by
  simp only [sortedB, List.all_eq_true, List.mem_range, decide_eq_true_eq]
  exact ⟨fun h i hi => h i (by omega), fun h i hi => h i (by omega)⟩

theorem quiet_left {P : Program} {f : FuncId} {args : Array Value} {w : World} {v : Value} (h : Calls P f args w fun e w' => e = .returned v ∧ w = w') : Calls P f args w fun e w'' => e = .returned v ∧ w'' = w :=
  h.mono fun _ _ ⟨he, hw⟩ => ⟨he, hw.symm⟩

end Go.Proofs.Ytcnljljgdkjndaa

/-
  Several slices known at once; what a law over lists takes and gives.
-/
namespace Go.Proofs.Ytcnljljgdkjndaa
open Go.RowKit

/-- All of these slices are known in the world w. -/
def All (w : World) : List (Option Addr × Nat × List Int) → Prop
  | [] => True
  | x :: L => Ints w x.1 x.2.1 x.2.2 ∧ All w L

theorem All.keep {w w' : World} (hb : Below w.heap.size w w') : ∀ {L : List (Option Addr × Nat × List Int)}, All w L → All w' L
  | [], _ => trivial
  | _ :: _, h => ⟨h.1.keep hb, All.keep hb h.2⟩

/-- A slice of ints that came in. -/
def IsRow (k : IntKind) (w : World) (a : Option Addr) (len cap : Nat) (zs : List Int) : Prop :=
  (a = none ∧ len = 0 ∧ cap = 0 ∧ zs = []) ∨
  ∃ x, a = some x ∧ len ≤ cap ∧ cap ≤ maxLen ∧ zs.length = cap ∧ (∀ i, i < zs.length → w.cell? (x.add i) = some (.int k (zs.getD i 0))) ∧ ∀ n ∈ zs, (Lit.int k n).wf = true

theorem block_lt_of_cell {w : World} {a : Addr} {v : Value} (h : w.cell? a = some v) : a.block < w.heap.size := World.block_lt_of_cell? w a h

theorem IsRow.ints {w : World} {a : Option Addr} {len cap : Nat} {zs : List Int} (h : IsRow .i64 w a len cap zs) : Ints w a len (zs.take len) ∧ len ≤ cap ∧ cap ≤ maxLen := by
  rcases h with ⟨rfl, rfl, rfl, rfl⟩ | ⟨⟨b, off, sp⟩, rfl, hl, hm, hz, hcell, _⟩
  · exact ⟨Ints.nil _ _, Nat.le_refl _, Nat.zero_le _⟩
  · refine ⟨⟨by rw [List.length_take]; omega, fun hp => ?_⟩, hl, hm⟩
    have h0 := hcell 0 (by omega)
    have hsp : sp = none := by simpa [Addr.add] using World.cell?_spot h0
    subst hsp
    refine ⟨b, off, rfl, ?_, fun j hj => ?_⟩
    · have := block_lt_of_cell h0
      simpa [Addr.add] using this
    · have h1 := hcell j (by omega)
      have ha : (⟨b, off, none⟩ : Addr).add j = ⟨b, off + j, none⟩ := by unfold Addr.add; split <;> simp_all
      rw [ha] at h1
      rw [h1]
      simp [List.getD_eq_getElem?_getD, hj]

/-- min(x, y, 10). -/
theorem run_min3 {P : Program} (x y m : Nat) (hm : m = min (min x y) 10) (ts : Array TypeId) (t : TypeId) (W : World) :
    (Builtin.min_ ts t #[.int .i64 (x : Int), .int .i64 (y : Int), .int .i64 10]).run P W = .ok (.int .i64 (m : Int)) W := by
  have e : (if (10 : Int) < (if (y : Int) < x then (y : Int) else x) then (10 : Int) else (if (y : Int) < x then (y : Int) else x)) = (m : Int) := by
    subst hm
    split <;> split at * <;> omega
  simp only [Builtin.min_, Builtin.min2, List.foldlM_cons, List.foldlM_nil, pure_bind]
  simp only [e]
  rfl

/-- min(x, y, z, 10). -/
theorem run_min4 {P : Program} (x y z m : Nat) (hm : m = min (min (min x y) z) 10) (ts : Array TypeId) (t : TypeId) (W : World) :
    (Builtin.min_ ts t #[.int .i64 (x : Int), .int .i64 (y : Int), .int .i64 (z : Int), .int .i64 10]).run P W = .ok (.int .i64 (m : Int)) W := by
  have e1 : (if (z : Int) < (if (y : Int) < x then (y : Int) else x) then (z : Int) else (if (y : Int) < x then (y : Int) else x)) = ((min (min x y) z : Nat) : Int) := by
    split <;> split at * <;> omega
  have e : (if (10 : Int) < ((min (min x y) z : Nat) : Int) then (10 : Int) else ((min (min x y) z : Nat) : Int)) = (m : Int) := by
    subst hm
    split <;> omega
  simp only [Builtin.min_, Builtin.min2, List.foldlM_cons, List.foldlM_nil, pure_bind]
  simp only [e1, e]
  rfl

theorem good_bel (w : World) (cs : Array Value) (t n : Nat) (l : List Int) (h : cs = (l.map (Value.int .i64)).toArray) (hn : l.length = n) (hs : n ≤ 1000000) :
    Calls Try.prog 23 #[.slice (some ⟨w.heap.size, 0, none⟩) n n] (w.alloc (.cells cs t)) fun e w' => e = .returned (.bool (allOK l)) ∧ Below w.heap.size w w' :=
  (good_any _ n n l _ (ints_lit w cs t n l h hn) hs).mono fun _ _ ⟨he, hw⟩ => ⟨he, by rw [← hw]; exact below_alloc _ _⟩

end Go.Proofs.Ytcnljljgdkjndaa

/-
  Plain facts on the cycles of a permutation given as a list. No program, no memory.
-/
namespace Go.Proofs.Ytcnljljgdkjndaa

def nx (p : List Int) (i : Nat) : Nat := (p.getD i 0).toNat
/-- k steps from i. -/
def it (p : List Int) : Nat → Nat → Nat
  | 0, i => i
  | k + 1, i => nx p (it p k i)

theorem length_le_of_nodup {l : List Nat} {n : Nat} (hn : l.Nodup) (hl : ∀ x, x ∈ l → x < n) : l.length ≤ n := by
  by_cases h : l.length ≤ n
  · exact h
  · have := (perm_of_nodup_subset (l := l) (l' := List.range n) hn (fun x hx => List.mem_range.2 (hl x hx)) (by simp; omega)).length_eq
    simp at this
    omega

section
variable {p : List Int}

theorem nx_lt (h : IsPerm p) {i : Nat} (hi : i < p.length) : nx p i < p.length := by
  have := h.range (getD_mem hi)
  unfold nx
  omega
theorem nx_inj (h : IsPerm p) {i j : Nat} (hi : i < p.length) (hj : j < p.length) (e : nx p i = nx p j) : i = j := by
  have h1 := h.range (getD_mem hi)
  have h2 := h.range (getD_mem hj)
  have e' : p.getD i 0 = p.getD j 0 := by unfold nx at e; omega
  have hn := nodup_iff_getD.1 h.nodup
  rcases Nat.lt_trichotomy i j with hlt | he | hgt
  · exact absurd e' (hn i j hlt hj)
  · exact he
  · exact absurd e'.symm (hn j i hgt hi)

theorem it_lt (h : IsPerm p) {i : Nat} (hi : i < p.length) (k : Nat) : it p k i < p.length := by
  induction k with
  | zero => exact hi
  | succ k ih => exact nx_lt h ih
theorem it_add (p : List Int) (a b i : Nat) : it p (a + b) i = it p a (it p b i) := by
  induction a with
  | zero => simp [it]
  | succ a ih => rw [Nat.succ_add]; simp only [it]; rw [ih]
theorem it_inj (h : IsPerm p) {i j : Nat} (hi : i < p.length) (hj : j < p.length) (k : Nat) (e : it p k i = it p k j) : i = j := by
  induction k with
  | zero => exact e
  | succ k ih => exact ih (nx_inj h (it_lt h hi k) (it_lt h hj k) e)

theorem it_back (h : IsPerm p) {i : Nat} (hi : i < p.length) : ∃ k, 1 ≤ k ∧ k ≤ p.length ∧ it p k i = i := by
  apply Classical.byContradiction
  intro hno
  have hd : ((List.range (p.length + 1)).map (fun k => it p k i)).Nodup := by
    rw [List.nodup_iff_pairwise_ne, List.pairwise_map]
    have hr := List.pairwise_lt_range (n := p.length + 1)
    refine List.Pairwise.imp_of_mem ?_ hr
    intro a b ha hb hab e
    have hb' := List.mem_range.1 hb
    refine hno ⟨b - a, by omega, by omega, ?_⟩
    have e2 : it p b i = it p a (it p (b - a) i) := by rw [← it_add]; congr 1; omega
    exact (it_inj h hi (it_lt h hi _) a (e.trans e2)).symm
  have := length_le_of_nodup hd (n := p.length) (fun x hx => by
    obtain ⟨k, _, rfl⟩ := List.mem_map.1 hx
    exact it_lt h hi k)
  simp at this
  omega

/-- How many steps it takes to come back. -/
def per (p : List Int) (i : Nat) : Nat := ((List.range p.length).find? (fun k => decide (it p (k + 1) i = i))).getD 0 + 1

theorem per_spec (h : IsPerm p) {i : Nat} (hi : i < p.length) : 1 ≤ per p i ∧ per p i ≤ p.length ∧ it p (per p i) i = i ∧ ∀ k, 1 ≤ k → k < per p i → it p k i ≠ i := by
  obtain ⟨k, h1, h2, h3⟩ := it_back h hi
  unfold per
  cases hf : (List.range p.length).find? (fun k => decide (it p (k + 1) i = i)) with
  | none =>
    have := List.find?_eq_none.1 hf (k - 1) (List.mem_range.2 (by omega))
    rw [show k - 1 + 1 = k by omega] at this
    simp [h3] at this
  | some m =>
    rw [List.find?_range_eq_some] at hf
    obtain ⟨ha, hb, hc⟩ := hf
    have hb' := List.mem_range.1 hb
    refine ⟨by omega, by simp; omega, by simpa using ha, fun k hk1 hk2 => ?_⟩
    simp only [Option.getD_some] at hk2
    have := hc (k - 1) (by omega)
    rw [show k - 1 + 1 = k by omega] at this
    simpa using this

theorem it_mul (h : IsPerm p) {i : Nat} (hi : i < p.length) (t : Nat) : it p (t * per p i) i = i := by
  induction t with
  | zero => simp [it]
  | succ t ih => rw [Nat.succ_mul, it_add, (per_spec h hi).2.2.1, ih]
theorem it_mod (h : IsPerm p) {i : Nat} (hi : i < p.length) (k : Nat) : it p k i = it p (k % per p i) i := by
  have e : k % per p i + k / per p i * per p i = k := by rw [Nat.mul_comm]; exact Nat.mod_add_div k (per p i)
  rw [← it_mul h hi (k / per p i)]
  conv => lhs; rw [← e]
  rw [it_add, it_mul h hi, it_mul h hi]
theorem it_ne (h : IsPerm p) {i : Nat} (hi : i < p.length) {a b : Nat} (hab : a < b) (hb : b < per p i) : it p a i ≠ it p b i := by
  intro e
  have e2 : it p b i = it p a (it p (b - a) i) := by rw [← it_add]; congr 1; omega
  exact (per_spec h hi).2.2.2 (b - a) (by omega) (by omega) (it_inj h hi (it_lt h hi _) a (e.trans e2)).symm

/-- The way back within a cycle. -/
theorem it_symm (h : IsPerm p) {i : Nat} (hi : i < p.length) (k : Nat) : ∃ m, it p m (it p k i) = i := by
  refine ⟨k * per p i - k, ?_⟩
  have h1 := (per_spec h hi).1
  have h2 : k ≤ k * per p i := Nat.le_mul_of_pos_right k (by omega)
  rw [← it_add, show k * per p i - k + k = k * per p i by omega, it_mul h hi]

/-- The least number of a cycle. -/
def lo (p : List Int) (j : Nat) : Nat := (List.range p.length).foldr (fun k m => min (it p k j) m) j

theorem foldr_min_le (f : Nat → Nat) (l : List Nat) (z k : Nat) (hk : k ∈ l) : l.foldr (fun k m => min (f k) m) z ≤ f k := by
  induction l with
  | nil => cases hk
  | cons a t ih =>
    rw [List.foldr_cons]
    rcases List.mem_cons.1 hk with rfl | hk
    · exact Nat.min_le_left _ _
    · exact Nat.le_trans (Nat.min_le_right _ _) (ih hk)
theorem foldr_min_mem (f : Nat → Nat) (l : List Nat) (z : Nat) : l.foldr (fun k m => min (f k) m) z = z ∨ ∃ k, l.foldr (fun k m => min (f k) m) z = f k := by
  induction l with
  | nil => exact .inl rfl
  | cons a t ih =>
    rw [List.foldr_cons]
    rcases Nat.le_total (f a) (t.foldr (fun k m => min (f k) m) z) with hle | hle
    · exact .inr ⟨a, Nat.min_eq_left hle⟩
    · rw [Nat.min_eq_right hle]
      exact ih

theorem lo_mem (p : List Int) (j : Nat) : ∃ k, lo p j = it p k j := by
  rcases foldr_min_mem (fun k => it p k j) (List.range p.length) j with h | ⟨k, h⟩
  · exact ⟨0, h⟩
  · exact ⟨k, h⟩
theorem lo_le (h : IsPerm p) {j : Nat} (hj : j < p.length) (k : Nat) : lo p j ≤ it p k j := by
  rw [it_mod h hj k]
  have h1 := (per_spec h hj).1
  have h2 := (per_spec h hj).2.1
  exact foldr_min_le (fun k => it p k j) _ j _ (List.mem_range.2 (Nat.lt_of_lt_of_le (Nat.mod_lt _ (by omega)) h2))
theorem lo_lt (h : IsPerm p) {j : Nat} (hj : j < p.length) : lo p j < p.length := by
  obtain ⟨k, e⟩ := lo_mem p j
  rw [e]
  exact it_lt h hj k
theorem lo_it (h : IsPerm p) {j : Nat} (hj : j < p.length) (k : Nat) : lo p (it p k j) = lo p j := by
  apply Nat.le_antisymm
  · obtain ⟨m, e⟩ := lo_mem p j
    obtain ⟨r, er⟩ := it_symm h hj k
    rw [e]
    have := lo_le h (it_lt h hj k) (m + r)
    rwa [it_add, er] at this
  · obtain ⟨m, e⟩ := lo_mem p (it p k j)
    rw [e, ← it_add]
    exact lo_le h hj _

/-- Whose least number is s lies in the cycle of s. -/
theorem lo_eq (h : IsPerm p) {j s : Nat} (hj : j < p.length) (e : lo p j = s) : s < p.length ∧ lo p s = s ∧ ∃ k, k < per p s ∧ it p k s = j := by
  have hs : s < p.length := by rw [← e]; exact lo_lt h hj
  obtain ⟨m, em⟩ := lo_mem p j
  have hls : lo p s = s := by
    have := lo_it h hj m
    rw [← em, e] at this
    exact this
  obtain ⟨r, er⟩ := it_symm h hj m
  rw [← em, e] at er
  refine ⟨hs, hls, r % per p s, Nat.mod_lt _ (by have := (per_spec h hs).1; omega), ?_⟩
  rw [← it_mod h hs]
  exact er

/-! ### What the loops of cycleLengths keep -/

/-- The lengths of the cycles whose least number is below s, by that number. -/
def cycL (p : List Int) (s : Nat) : List Int := ((List.range s).filter (fun i => decide (lo p i = i))).map (fun i => (per p i : Int))

theorem cycL_yes {s : Nat} (h : lo p s = s) : cycL p (s + 1) = cycL p s ++ [(per p s : Int)] := by
  simp [cycL, List.range_succ, List.filter_append, h]
theorem cycL_no {s : Nat} (h : lo p s ≠ s) : cycL p (s + 1) = cycL p s := by
  simp [cycL, List.range_succ, List.filter_append, h]
theorem length_cycL_le (p : List Int) (s : Nat) : (cycL p s).length ≤ s := by
  have := List.length_filter_le (fun i => decide (lo p i = i)) (List.range s)
  simpa [cycL] using this

/-- Seen: in a cycle whose least number is below s, or among the first m steps from s. -/
def snB (p : List Int) (s m j : Nat) : Bool := decide (j < p.length) && (decide (lo p j < s) || (List.range m).any (fun k => it p k s == j))

theorem snB_true {s m j : Nat} : snB p s m j = true ↔ j < p.length ∧ (lo p j < s ∨ ∃ k, k < m ∧ it p k s = j) := by
  simp [snB]

theorem bool_ext {a b : Bool} (h : a = true ↔ b = true) : a = b := by cases a <;> cases b <;> simp_all

theorem snB_step {s m i : Nat} (hi : i < p.length) (e : it p m s = i) (j : Nat) : (if j = i then Value.bool true else Value.bool (snB p s m j)) = Value.bool (snB p s (m + 1) j) := by
  by_cases h : j = i
  · rw [if_pos h]
    have : snB p s (m + 1) j = true := snB_true.2 ⟨by omega, .inr ⟨m, by omega, by rw [e, h]⟩⟩
    rw [this]
  · rw [if_neg h]
    congr 1
    apply bool_ext
    rw [snB_true, snB_true]
    constructor
    · rintro ⟨h1, h2 | ⟨k, hk, ek⟩⟩
      · exact ⟨h1, .inl h2⟩
      · exact ⟨h1, .inr ⟨k, by omega, ek⟩⟩
    · rintro ⟨h1, h2 | ⟨k, hk, ek⟩⟩
      · exact ⟨h1, .inl h2⟩
      · refine ⟨h1, .inr ⟨k, ?_, ek⟩⟩
        rcases Nat.lt_or_ge k m with hlt | hge
        · exact hlt
        · have : k = m := by omega
          subst this
          exact absurd (ek.symm.trans e) h

theorem snB_go (h : IsPerm p) {s m : Nat} (hs : s < p.length) (hl : lo p s = s) (hm : m < per p s) : snB p s m (it p m s) = false := by
  rw [Bool.eq_false_iff]
  intro e
  rcases (snB_true.1 e).2 with h1 | ⟨k, hk, ek⟩
  · rw [lo_it h hs] at h1
    omega
  · exact it_ne h hs hk hm ek
theorem snB_stop (h : IsPerm p) {s : Nat} (hs : s < p.length) : snB p s (per p s) (it p (per p s) s) = true := by
  have h1 := per_spec h hs
  exact snB_true.2 ⟨by rw [h1.2.2.1]; exact hs, .inr ⟨0, by omega, by rw [h1.2.2.1]; rfl⟩⟩
theorem snB_end (h : IsPerm p) {s : Nat} (hs : s < p.length) (hl : lo p s = s) (j : Nat) : snB p s (per p s) j = snB p (s + 1) 0 j := by
  apply bool_ext
  rw [snB_true, snB_true]
  constructor
  · rintro ⟨h1, h2 | ⟨k, hk, rfl⟩⟩
    · exact ⟨h1, .inl (by omega)⟩
    · exact ⟨h1, .inl (by rw [lo_it h hs]; omega)⟩
  · rintro ⟨h1, h2 | ⟨k, hk, _⟩⟩
    · rcases Nat.lt_or_ge (lo p j) s with hlt | hge
      · exact ⟨h1, .inl hlt⟩
      · obtain ⟨_, _, k, hk, ek⟩ := lo_eq h h1 (show lo p j = s by omega)
        exact ⟨h1, .inr ⟨k, hk, ek⟩⟩
    · omega
theorem snB_skip (h : IsPerm p) {s : Nat} (hl : lo p s ≠ s) (j : Nat) : snB p s 0 j = snB p (s + 1) 0 j := by
  apply bool_ext
  rw [snB_true, snB_true]
  constructor
  · rintro ⟨h1, h2 | ⟨k, hk, _⟩⟩
    · exact ⟨h1, .inl (by omega)⟩
    · omega
  · rintro ⟨h1, h2 | ⟨k, hk, _⟩⟩
    · refine ⟨h1, .inl ?_⟩
      rcases Nat.lt_or_ge (lo p j) s with hlt | hge
      · exact hlt
      · exact absurd (lo_eq h h1 (show lo p j = s by omega)).2.1 hl
    · omega
theorem snB_seen (h : IsPerm p) {s : Nat} (hs : s < p.length) (hl : lo p s ≠ s) : snB p s 0 s = true :=
  snB_true.2 ⟨hs, .inl (by have := lo_le h hs 0; simp only [it] at this; omega)⟩
theorem snB_zero (j : Nat) : snB p 0 0 j = false := by
  rw [Bool.eq_false_iff]
  intro e
  rcases (snB_true.1 e).2 with h1 | ⟨k, hk, _⟩ <;> omega

end
end Go.Proofs.Ytcnljljgdkjndaa

/-
  perm.Check: its answer is permErr of the list.
-/
namespace Go.Proofs.Ytcnljljgdkjndaa
open Go.RowKit

set_option maxHeartbeats 400000 in
theorem check_large (A : Option Addr) (n c : Nat) (w : World) (hn : 10 < n) (hm : n ≤ 9223372036854775807) :
    Calls Try.prog 61 #[.slice A n c] w fun e w' => e = .returned (.int .i64 2) ∧ w = w' := by
  go_enter Try.func61, Try.ntmps61
  go_wp2
  go_ret
  exact ⟨rfl, rfl⟩

theorem step_seen {xs : List Int} {k m : Nat} (hk : k < xs.length) (hx : xs.getD k 0 = (m : Int)) (j : Nat) :
    (if j = m then Value.bool true else Value.bool (decide ((j : Int) ∈ xs.take k))) = Value.bool (decide ((j : Int) ∈ xs.take (k + 1))) := by
  have e : xs.take (k + 1) = xs.take k ++ [(m : Int)] := by
    rw [List.take_succ_eq_append_getElem hk, ← hx, List.getD_eq_getElem?_getD, List.getElem?_eq_getElem hk]
    rfl
  rw [e]
  by_cases hj : j = m
  · subst hj
    simp
  · rw [if_neg hj]
    congr 1
    have : ¬ (j : Int) = (m : Int) := by omega
    simp [this]

theorem seen_start (w : World) (xs : List Int) : (w.alloc (Obj.cells #[Value.bool false, Value.bool false, Value.bool false, Value.bool false, Value.bool false, Value.bool false,
      Value.bool false, Value.bool false, Value.bool false, Value.bool false] 76)).rowIs w.heap.size 76 10 (fun j => .bool (decide ((j : Int) ∈ xs.take 0))) := by
  refine World.rowIs_alloc w _ _ _ fun i hi => ?_
  simp only [List.take_zero, List.not_mem_nil, decide_false]
  match i, hi with
  | 0, _ | 1, _ | 2, _ | 3, _ | 4, _ | 5, _ | 6, _ | 7, _ | 8, _ | 9, _ => rfl

set_option maxHeartbeats 400000 in
theorem check_small (A : Option Addr) (n c : Nat) (xs : List Int) (w : World) (h : Ints w A n xs) (hn : n ≤ 10) :
    Calls Try.prog 61 #[.slice A n c] w fun e w' => e = .returned (.int .i64 (permErr xs)) ∧ Below w.heap.size w w' := by
  have h10 : decide (10 < (n : Int)) = false := by simp; omega
  go_enter Try.func61, Try.ntmps61
  go_wp2
  go_loopg [11] n (fun g s wr => ∃ k : Nat, k ≤ n ∧ n - k ≤ g ∧ s = .int .i64 k ∧ wr.rowIs w.heap.size 76 10 (fun j => .bool (decide ((j : Int) ∈ xs.take k))) ∧ Below w.heap.size w wr ∧
      ∀ j, j < k → 0 ≤ xs.getD j 0 ∧ xs.getD j 0 < xs.length ∧ xs.getD j 0 ∉ xs.take j)
  case atStart => exact ⟨0, Nat.zero_le _, by omega, rfl, seen_start w xs, (Below.refl _ _).alloc (Nat.le_refl _) _, fun j hj => absurd hj (Nat.not_lt_zero _)⟩
  case round =>
    obtain ⟨k, hk, hg, rfl, hrow, hbel, hall⟩ := hrel
    have HA := hid hall
    have HR := hid hrow
    have HB := hid hbel
    clear hall hrow hbel
    by_cases hlt : k < n
    · obtain ⟨b, o, rfl, hb, hc⟩ := h.row (by omega)
      have HL := hid h.len
      have g1 : wr.cell? ⟨b, o + k, none⟩ = some (.int .i64 (xs.getD k 0)) := (HB.out.cell (p := ⟨b, o + k, none⟩) hb).trans (hc k hlt)
      have hbad : xs.getD k 0 < 0 ∨ (xs.length : Int) ≤ xs.getD k 0 ∨ xs.getD k 0 ∈ xs.take k → permErr xs = 3 := fun hx => permErr_bad (by rw [HL.out]; exact hn) (not_isPerm_of_step (by rw [HL.out]; exact hlt) hx)
      have HBAD := hid hbad
      clear hc h hbad
      generalize hxk : xs.getD k 0 = x at g1
      have HX := hid hxk
      clear hxk
      by_cases h0 : x < 0
      · go_wp2
        go_ret
        rw [HBAD.out (by rw [HX.out]; exact Or.inl h0)]
        exact ⟨rfl, HB.out⟩
      · have h0' : 0 ≤ x := by omega
        obtain ⟨m, rfl⟩ := Int.eq_ofNat_of_zero_le h0'
        clear h0 h0'
        have d0 : decide ((m : Int) < 0) = false := by simp
        by_cases h1 : n ≤ m
        · have d1 : decide ((n : Int) ≤ (m : Int)) = true := by simp; omega
          go_wp2
          go_ret
          rw [HBAD.out (by rw [HX.out, HL.out]; exact Or.inr (Or.inl (by omega)))]
          exact ⟨rfl, HB.out⟩
        · have d1 : decide ((n : Int) ≤ (m : Int)) = false := by simp; omega
          have hm : m < n := by omega
          have g2 : wr.cell? ⟨w.heap.size, m, none⟩ = some (.bool (decide ((m : Int) ∈ xs.take k))) := HR.out.cell (by omega)
          have g3 : wr.frozen? ⟨w.heap.size, m, none⟩ = false := HR.out.frozen m
          by_cases h2 : (m : Int) ∈ xs.take k
          · rw [decide_eq_true h2] at g2
            have H2 := hid h2
            clear h2
            go_wp2
            go_ret
            rw [HBAD.out (by rw [HX.out]; exact Or.inr (Or.inr H2.out))]
            exact ⟨rfl, HB.out⟩
          · rw [decide_eq_false h2] at g2
            have H2 := hid h2
            clear h2
            go_wp2
            go_roundg (n - (k + 1))
            case measure => omega
            case rel =>
              refine ⟨k + 1, by omega, by omega, by go_num, (HR.out.set m (.bool true)).congr (fun j _ => step_seen (by rw [HL.out]; exact hlt) HX.out j), HB.out.setCell (Nat.le_refl _) _, fun j hj => ?_⟩
              by_cases e : j = k
              · subst e
                rw [HX.out, HL.out]
                exact ⟨by omega, by omega, H2.out⟩
              · exact HA.out j (by omega)
    · have hkn : k = n := by omega
      subst hkn
      go_wp2
      go_ret
      rw [permErr_ok.2 ⟨by rw [h.len]; exact hn, isPerm_of_steps (by rw [h.len]; rw [h.len] at HA; exact HA.out)⟩]
      exact ⟨rfl, HB.out⟩

/-- perm.Check, whatever the slice. -/
theorem check_any (A : Option Addr) (n c : Nat) (xs : List Int) (w : World) (h : Ints w A n xs) (hm : n ≤ 9223372036854775807) :
    Calls Try.prog 61 #[.slice A n c] w fun e w' => e = .returned (.int .i64 (permErr xs)) ∧ Below w.heap.size w w' := by
  by_cases hn : 10 < n
  · refine (check_large A n c w hn hm).mono ?_
    rintro e w' ⟨rfl, rfl⟩
    have e : permErr xs = 2 := if_pos (by rw [h.len]; exact hn)
    rw [e]
    exact ⟨rfl, Below.refl _ _⟩
  · refine (check_small A n c xs w h (by omega)).mono ?_
    rintro e w' ⟨rfl, hb⟩
    exact ⟨rfl, hb⟩

end Go.Proofs.Ytcnljljgdkjndaa

/-
  perm.Times: the composition, or the error.
-/
namespace Go.Proofs.Ytcnljljgdkjndaa
open Go.RowKit

/-- The composition: i goes to a[b[i]]. -/
def times (a b : List Int) : List Int := b.map (fun v => a.getD v.toNat 0)
/-- P4's error of Times. -/
def timesErr (a b : List Int) : Int := if permErr a = 0 then (if permErr b = 0 then (if a.length = b.length then 0 else 1) else permErr b) else permErr a
def timesRes (a b : List Int) : List Int := if timesErr a b = 0 then times a b else []

theorem getD_times {a b : List Int} {k : Nat} (hk : k < b.length) : (times a b).getD k 0 = a.getD (b.getD k 0).toNat 0 := by
  simp [times, List.getD_eq_getElem?_getD, List.getElem?_eq_getElem hk]
theorem length_times (a b : List Int) : (times a b).length = b.length := by simp [times]

end Go.Proofs.Ytcnljljgdkjndaa

/-
  The verifier's helpers: castref.Rest, castkeep.Within, castref.Dealt, castkeep.PermOf: an order made of lots.
-/
namespace Go.Proofs.Ytcnljljgdkjndaa
open Go.RowKit

def dealStep (p : List Int) (x : Int) : List Int := swapAt (p ++ [(p.length : Int)]) p.length x.toNat
def dealt (lots : List Int) : List Int := lots.foldl dealStep []

theorem length_dealStep (p : List Int) (x : Int) : (dealStep p x).length = p.length + 1 := by simp [dealStep, length_swapAt]

theorem mem_swapAt {l : List Int} {i j : Nat} (hi : i < l.length) (hj : j < l.length) {x : Int} (hx : x ∈ l) : x ∈ swapAt l i j := by
  obtain ⟨k, hk, rfl⟩ := mem_getD hx
  have hget : ∀ m, m < l.length → (swapAt l i j).getD m 0 ∈ swapAt l i j := fun m hm => getD_mem (by rw [length_swapAt]; exact hm)
  by_cases h1 : k = i
  · subst h1
    have := hget j hj
    rwa [getD_swapAt hi hj, if_pos rfl] at this
  · by_cases h2 : k = j
    · subst h2
      have := hget i hi
      rw [getD_swapAt hi hj] at this
      by_cases e : i = k
      · exact absurd e.symm h1
      · rwa [if_neg e, if_pos rfl] at this
    · have := hget k hk
      rwa [getD_swapAt hi hj, if_neg h2, if_neg h1] at this

theorem isPerm_swapAt {l : List Int} {i j : Nat} (h : IsPerm l) (hi : i < l.length) (hj : j < l.length) : IsPerm (swapAt l i j) :=
  isPerm_of_all fun k hk => mem_swapAt hi hj (h.all k (by rw [length_swapAt] at hk; exact hk))

theorem isPerm_snoc {p : List Int} (h : IsPerm p) : IsPerm (p ++ [(p.length : Int)]) :=
  isPerm_of_all fun k hk => by
    simp only [List.length_append, List.length_cons, List.length_nil] at hk
    by_cases e : k = p.length
    · simp [e]
    · exact List.mem_append.2 (.inl (h.all k (by omega)))

theorem isPerm_dealStep {p : List Int} {x : Int} (h : IsPerm p) (h1 : x ≤ p.length) : IsPerm (dealStep p x) :=
  isPerm_swapAt (isPerm_snoc h) (by simp) (by simp; omega)

theorem dealt_snoc (l : List Int) (x : Int) : dealt (l ++ [x]) = dealStep (dealt l) x := by simp [dealt, List.foldl_append]
theorem length_foldl_deal (l p : List Int) : (l.foldl dealStep p).length = p.length + l.length := by
  induction l generalizing p with
  | nil => simp
  | cons a t ih => rw [List.foldl_cons, ih, length_dealStep, List.length_cons]; omega
theorem length_dealt (l : List Int) : (dealt l).length = l.length := by rw [dealt, length_foldl_deal]; simp

/-- Lots: each from 0 to its place. -/
def IsLots (l : List Int) : Prop := ∀ i, i < l.length → 0 ≤ l.getD i 0 ∧ l.getD i 0 ≤ i

theorem isPerm_dealt_take {l : List Int} (h : IsLots l) : ∀ k, k ≤ l.length → IsPerm (dealt (l.take k))
  | 0, _ => isPerm_of_all fun i hi => by simp [dealt] at hi
  | k + 1, hk => by
    rw [take_snoc (by omega), dealt_snoc]
    refine isPerm_dealStep (isPerm_dealt_take h k (by omega)) ?_
    rw [length_dealt, List.length_take]
    have := h k (by omega)
    omega
theorem isPerm_dealt {l : List Int} (h : IsLots l) : IsPerm (dealt l) := by
  have := isPerm_dealt_take h l.length (Nat.le_refl _)
  rwa [List.take_of_length_le (Nat.le_refl _)] at this

/-! ### Rest, Within -/

/-! ### Dealt -/

/-! ### PermOf -/

/-- The lots that PermOf makes of any numbers. -/
def lotsOf (xs : List Int) : List Int := (List.range xs.length).map (fun i : Nat => xs.getD i 0 % ((i : Int) + 1))
theorem length_lotsOf (xs : List Int) : (lotsOf xs).length = xs.length := by simp [lotsOf]
theorem getD_lotsOf {xs : List Int} {i : Nat} (h : i < xs.length) : (lotsOf xs).getD i 0 = xs.getD i 0 % ((i : Int) + 1) := by
  simp [lotsOf, List.getD_eq_getElem?_getD, h]
theorem isLots_lotsOf (xs : List Int) : IsLots (lotsOf xs) := by
  intro i hi
  rw [length_lotsOf] at hi
  rw [getD_lotsOf hi]
  have h1 := Int.emod_nonneg (xs.getD i 0) (show ((i : Int) + 1) ≠ 0 by omega)
  have h2 := Int.emod_lt_of_pos (xs.getD i 0) (show 0 < ((i : Int) + 1) by omega)
  omega

end Go.Proofs.Ytcnljljgdkjndaa

/-
  perm.cycleLengths: the lengths of all cycles, by their least numbers.
-/
namespace Go.Proofs.Ytcnljljgdkjndaa
open Go.RowKit

theorem seen0 (w : World) (p : List Int) : (w.alloc (Obj.cells #[Value.bool false, Value.bool false, Value.bool false, Value.bool false, Value.bool false, Value.bool false,
      Value.bool false, Value.bool false, Value.bool false, Value.bool false] 76)).rowIs w.heap.size 76 10 (fun j => .bool (snB p 0 0 j)) := by
  refine World.rowIs_alloc w _ _ _ fun i hi => ?_
  simp only [snB_zero]
  match i, hi with
  | 0, _ | 1, _ | 2, _ | 3, _ | 4, _ | 5, _ | 6, _ | 7, _ | 8, _ | 9, _ => rfl

theorem rowIs_below {w w' : World} {B b t n : Nat} {f : Nat → Value} (h : w.rowIs b t n f) (hb : Below B w w') (hlt : b < B) : w'.rowIs b t n f := h.of_block (hb.block b hlt)

set_option maxHeartbeats 1600000 in
theorem cycleLengths_any (A : Option Addr) (n c : Nat) (p : List Int) (w : World) (h : Ints w A n p) (hp : IsPerm p) (hn : n ≤ 10) :
    Calls Try.prog 66 #[.slice A n c] w (RetOwn w (cycL p n)) := by
  have HP := hid hp
  have HL := hid h.len
  clear hp
  go_enter Try.func66, Try.ntmps66
  go_wp2
  go_loopg [3, 10] n (fun g v s wr => ∃ k : Nat, k ≤ n ∧ n - k ≤ g ∧ s = .int .i64 k ∧ OwnInts wr (w.heap.size + 1) v (cycL p k) ∧ wr.rowIs w.heap.size 76 10 (fun j => .bool (snB p k 0 j)) ∧ Below w.heap.size w wr ∧ w.heap.size < wr.heap.size)
  case atStart => exact ⟨0, Nat.zero_le _, by omega, rfl, OwnInts.nil _ _, seen0 w p, (Below.refl _ _).alloc (Nat.le_refl _) _, by simp⟩
  case round =>
    obtain ⟨k, hk, hg, rfl, hown, hrow, hbel, hsz⟩ := hrel
    have HO := hid hown
    have HR := hid hrow
    have HB := hid hbel
    clear hown hrow hbel
    by_cases hlt : k < n
    · obtain ⟨b, o, rfl, hb, hc⟩ := h.row (by omega)
      have HC := hid hc
      clear hc h
      by_cases hl : lo p k = k
      · have HLO := hid hl
        clear hl
        have HPS := hid (per_spec HP.out (show k < p.length by rw [HL.out]; exact hlt))
        go_wp2
        go_loopg [6, 7] (per p k) (fun g u v wq => ∃ m : Nat, m ≤ per p k ∧ per p k - m ≤ g ∧ u = .int .i64 m ∧ v = .int .i64 (it p m k) ∧ OwnInts wq (w.heap.size + 1) u3 (cycL p k) ∧ wq.rowIs w.heap.size 76 10 (fun j => .bool (snB p k m j)) ∧ Below w.heap.size w wq ∧ w.heap.size < wq.heap.size)
        case atStart => exact ⟨0, Nat.zero_le _, by omega, rfl, rfl, HO.out, HR.out, HB.out, hsz⟩
        case round =>
          obtain ⟨m, hm, hgm, rfl, rfl, hownq, hrowq, hbelq, hszq⟩ := hrel
          have HOq := hid hownq
          have HRq := hid hrowq
          have HBq := hid hbelq
          clear hownq hrowq hbelq HO HR HB
          have hkl : k < p.length := by rw [HL.out]; exact hlt
          have hi := it_lt HP.out hkl m
          have hpn := HPS.out.2.1
          have hp1 := HPS.out.1
          rw [HL.out] at hi hpn
          have hrd : p.getD (it p m k) 0 = ((it p (m + 1) k : Nat) : Int) := by
            have := HP.out.range (getD_mem (show it p m k < p.length by rw [HL.out]; exact hi))
            show _ = ((nx p (it p m k) : Nat) : Int)
            unfold nx
            omega
          have g1 : wr.cell? ⟨b, o + it p m k, none⟩ = some (.int .i64 ((it p (m + 1) k : Nat) : Int)) := by
            rw [← hrd]
            exact (HBq.out.cell (p := ⟨b, o + it p m k, none⟩) hb).trans (HC.out _ hi)
          have g2 : wr.cell? ⟨w.heap.size, it p m k, none⟩ = some (.bool (snB p k m (it p m k))) := HRq.out.cell (by omega)
          have g3 : wr.frozen? ⟨w.heap.size, it p m k, none⟩ = false := HRq.out.frozen _
          clear hrd
          by_cases hmp : m < per p k
          · rw [snB_go HP.out hkl HLO.out hmp] at g2
            go_wp2
            go_roundg (per p k - (m + 1))
            case measure => omega
            case rel =>
              exact ⟨m + 1, by omega, by omega, by go_num, rfl, ownsRow_setCell_below HOq.out (by exact Nat.lt_succ_self _) _,
                (HRq.out.set (it p m k) (.bool true)).congr (fun j _ => snB_step (by rw [HL.out]; exact hi) rfl j), HBq.out.setCell (Nat.le_refl _) _, by simpa [World.setCell] using hszq⟩
          · have hme : m = per p k := by omega
            subst hme
            rw [snB_stop HP.out hkl] at g2
            have hpos : decide (0 < ((per p k : Nat) : Int)) = true := by simp; omega
            have hpos' : (0 : Int) < ((per p k : Nat) : Int) := by omega
            have HLC : Hid ((cycL p k).length ≤ 10) := Nat.le_trans (length_cycL_le p k) (by omega)
            go_wp2_with (at_builtin; refine wpList_app1 _ rfl (.tmp 28) (.tmp 30) rfl (w.heap.size + 1) _ (cycL p k) (per p k : Nat) rfl rfl HOq.out (Nat.le_trans HLC.out (by omega)) hszq ?_)
            intro v' w1 hown1 hgrow1 hbel1
            have HO1 := hid hown1
            have HB1 := hid hbel1
            clear hown1 hbel1 hgrow1
            go_wp2
            go_roundg (n - (k + 1))
            case measure => omega
            case rel =>
              exact ⟨k + 1, by omega, by omega, by go_num, by rw [cycL_yes HLO.out]; exact HO1.out,
                (rowIs_below HRq.out HB1.out (Nat.lt_succ_self _)).congr (fun j _ => by rw [snB_end HP.out hkl HLO.out]), HBq.out.trans (HB1.out.mono (Nat.le_succ _)), Nat.lt_of_lt_of_le hszq HB1.out.size⟩
      · have hkl : k < p.length := by rw [HL.out]; exact hlt
        have g2 : wr.cell? ⟨w.heap.size, k, none⟩ = some (.bool (snB p k 0 k)) := HR.out.cell (by omega)
        rw [snB_seen HP.out hkl hl] at g2
        have HLO := hid hl
        clear hl
        go_wp2
        go_loopg [6, 7] 0 (fun g u v wq => u = .int .i64 0 ∧ v = .int .i64 k ∧ wr = wq)
        case atStart => exact ⟨rfl, rfl, rfl⟩
        case round =>
          obtain ⟨rfl, rfl, rfl⟩ := hrel
          go_wp2
          go_roundg (n - (k + 1))
          case measure => omega
          case rel => exact ⟨k + 1, by omega, by omega, by go_num, by rw [cycL_no HLO.out]; exact HO.out, HR.out.congr (fun j _ => by rw [snB_skip HP.out HLO.out]), HB.out, hsz⟩
    · have hkn : k = n := by omega
      subst hkn
      go_wp2
      go_ret
      exact ⟨_, rfl, HO.out.mono (Nat.le_succ _), HB.out⟩

end Go.Proofs.Ytcnljljgdkjndaa

/-
  perm.greatestCommonDivisor, perm.leastCommonMultiple, perm.Order.
-/
namespace Go.Proofs.Ytcnljljgdkjndaa
open Go.RowKit

set_option maxHeartbeats 400000 in
theorem gcd_any (a b : Nat) (w : World) (ha : a ≤ 1000000000000) (hb : b ≤ 1000000000000) :
    Calls Try.prog 72 #[.int .i64 a, .int .i64 b] w fun e w' => e = .returned (.int .i64 (Nat.gcd a b : Nat)) ∧ ∃ q, w' = w.drewN q := by
  have HG : Hid (Nat.gcd a b = Nat.gcd a b) := rfl
  go_enter Try.func72, Try.ntmps72
  go_wp2
  go_loopg [0, 1] b (fun g u v wr => ∃ x y q : Nat, x ≤ 1000000000000 ∧ y ≤ 1000000000000 ∧ y ≤ g ∧ u = .int .i64 x ∧ v = .int .i64 y ∧ wr = w.drewN q ∧ Nat.gcd x y = Nat.gcd a b)
  case atStart => exact ⟨a, b, 0, ha, hb, Nat.le_refl _, rfl, rfl, rfl, rfl⟩
  case round =>
    obtain ⟨x, y, q, hx, hy, hg, rfl, rfl, hq, he⟩ := hrel
    have HQ := hid hq
    have HE := hid he
    clear hq he HG
    by_cases h0 : y = 0
    · subst h0
      go_wp2
      go_ret
      exact ⟨by rw [← HE.out, Nat.gcd_zero_right]; rfl, q, HQ.out⟩
    · have hpos : 0 < y := by omega
      have hne : ((y : Int) != 0) = true := by simp; omega
      have hne2 : ((y : Int) == 0) = false := by simp; omega
      have hmod := Nat.mod_lt x hpos
      have hcast : (x : Int) % (y : Int) = ((x % y : Nat) : Int) := by omega
      have hw : IntKind.i64.wrap ((x : Int).tmod (y : Int)) = ((x % y : Nat) : Int) := by
        rw [Int.tmod_eq_emod_of_nonneg (by omega), hcast]
        exact IntWalk.i64_in _ (by omega)
      have HC := hid hcast
      clear hcast
      go_wp2_with fail
      go_region
      go_wp2
      go_roundg (x % y)
      case measure => omega
      case rel => exact ⟨y, x % y, q + 1, by omega, by omega, Nat.le_refl _, rfl, by first | rfl | (rw [HC.out]), by rw [HQ.out]; rfl, by rw [← HE.out, Nat.gcd_comm, ← Nat.gcd_rec, Nat.gcd_comm]⟩

theorem lcm_div (a b : Nat) : a / Nat.gcd a b * b = Nat.lcm a b := by
  rw [Nat.lcm]
  exact Nat.div_mul_right_comm (Nat.gcd_dvd_left a b) b

set_option maxHeartbeats 400000 in
theorem lcm_any (a b : Nat) (w : World) (ha : 1 ≤ a) (hb : 1 ≤ b) (ha2 : a ≤ 1000000000000) (hb2 : b ≤ 1000000) :
    Calls Try.prog 67 #[.int .i64 a, .int .i64 b] w fun e w' => e = .returned (.int .i64 (Nat.lcm a b : Nat)) ∧ ∃ q, w' = w.drewN q := by
  have hg1 : 1 ≤ Nat.gcd a b := Nat.gcd_pos_of_pos_left b ha
  have hle : a / Nat.gcd a b ≤ a := Nat.div_le_self _ _
  have hprod : a / Nat.gcd a b * b ≤ 1000000000000 * 1000000 := Nat.mul_le_mul (Nat.le_trans hle ha2) hb2
  have HLC := hid (lcm_div a b)
  have HQ : Hid ((a : Int) / ((Nat.gcd a b : Nat) : Int) = ((a / Nat.gcd a b : Nat) : Int)) := (Int.natCast_ediv _ _).symm
  go_enter Try.func67, Try.ntmps67
  go_wp2_with fail
  refine (gcd_any a b _ ha2 (by omega)).mono ?_
  rintro e w' ⟨rfl, q, rfl⟩
  have hq := HQ.out
  generalize hQ : a / Nat.gcd a b = Q at hle hprod hq HLC
  generalize Nat.gcd a b = G at hg1 hq ⊢
  have hp2 : (Q : Int) * (b : Int) ≤ 1000000000000000000 := by
    have : ((Q * b : Nat) : Int) ≤ 1000000000000000000 := by omega
    simpa using this
  have hp0 : 0 ≤ (Q : Int) * (b : Int) := Int.mul_nonneg (by omega) (by omega)
  have hG : (1 : Int) ≤ (G : Int) := by omega
  clear hprod hQ HQ
  go_wp2
  go_ret
  refine ⟨?_, q, rfl⟩
  rw [← HLC.out, Int.natCast_mul]
  rfl

/-- The least common multiple of all of them. -/
def ordL (l : List Int) : Nat := l.foldl (fun a x => Nat.lcm a x.toNat) 1

def RetOrder (w : World) (r : Int) (er : Int) (e : Ending) (w' : World) : Prop := e = .returned (.tuple #[.int .i64 r, .int .i64 er]) ∧ Below w.heap.size w w'

theorem ordL_snoc (l : List Int) (x : Int) : ordL (l ++ [x]) = Nat.lcm (ordL l) x.toNat := by simp [ordL, List.foldl_append]
theorem ordL_take_bound {l : List Int} (hl : ∀ x, x ∈ l → 1 ≤ x ∧ x ≤ 10) : ∀ k, k ≤ l.length → 1 ≤ ordL (l.take k) ∧ ordL (l.take k) ≤ 10 ^ k
  | 0, _ => by simp [ordL]
  | k + 1, hk => by
    have ih := ordL_take_bound hl k (by omega)
    have hx := hl _ (getD_mem (show k < l.length by omega))
    rw [take_snoc (by omega), ordL_snoc]
    refine ⟨Nat.lcm_pos (by omega) (by omega), ?_⟩
    refine Nat.le_trans (Nat.div_le_self _ _) ?_
    rw [Nat.pow_succ]
    exact Nat.mul_le_mul ih.2 (by omega)
theorem mem_cycL {p : List Int} (hp : IsPerm p) {x : Int} (hx : x ∈ cycL p p.length) : 1 ≤ x ∧ x ≤ p.length := by
  obtain ⟨i, hi, rfl⟩ := List.mem_map.1 hx
  have h := per_spec hp (List.mem_range.1 (List.mem_filter.1 hi).1)
  omega

set_option maxHeartbeats 800000 in
theorem order_ok (A : Option Addr) (n c : Nat) (p : List Int) (w : World) (hA : Ints w A n p) (hp : permErr p = 0) :
    Calls Try.prog 45 #[.slice A n c] w (RetOrder w (ordL (cycL p n) : Nat) 0) := by
  have hn10 : n ≤ 10 := by rw [← hA.len]; exact (permErr_ok.1 hp).1
  have HP := hid (permErr_ok.1 hp).2
  go_enter Try.func45, Try.ntmps45
  go_wp2_with fail
  refine (check_any A n c p _ hA (by omega)).mono ?_
  rintro e w1 ⟨rfl, hb1⟩
  have hA1 := hA.keep hb1
  have HB1 := hid hb1
  have HL := hid hA.len
  clear hA hb1
  go_wp2_with fail
  refine (cycleLengths_any A n c p _ hA1 HP.out hn10).mono ?_
  rintro e w2 ⟨v, rfl, hown, hb2⟩
  have HB2 := hid (HB1.out.trans (hb2.mono HB1.out.size))
  obtain ⟨A2, c2, rfl, hI, _⟩ := hown.ints
  have hl10 := Nat.le_trans (length_cycL_le p n) hn10
  have HM : Hid (∀ x, x ∈ cycL p n → 1 ≤ x ∧ x ≤ 10) := fun x hx => by
    rw [← HL.out] at hx
    have := mem_cycL HP.out hx
    rw [HL.out] at this
    omega
  have HI := hid hI
  clear hA1 hb2 hown HB1 hI
  generalize hl0 : cycL p n = l at HI HM hl10 ⊢
  have HL0 := hid hl0
  clear hl0
  generalize hm : l.length = m at HI hl10 ⊢
  have HLM := hid hm
  clear hm
  go_wp2_with fail
  go_loopg [5, 16] m (fun g u s wr => ∃ k q : Nat, k ≤ m ∧ m - k ≤ g ∧ s = .int .i64 k ∧ u = .int .i64 (ordL (l.take k) : Nat) ∧ wr = w2.drewN q)
  case atStart => exact ⟨0, 0, Nat.zero_le _, by omega, rfl, rfl, rfl⟩
  case round =>
    obtain ⟨k, q, hk, hg, rfl, rfl, hq⟩ := hrel
    have HQ := hid hq
    clear hq
    have hbd := ordL_take_bound HM.out k (by rw [HLM.out]; exact hk)
    have hpow : 10 ^ k ≤ 10 ^ 10 := Nat.pow_le_pow_right (by omega) (by omega)
    have hob : ordL (l.take k) ≤ 10000000000 := Nat.le_trans hbd.2 hpow
    have ho1 := hbd.1
    clear hbd hpow
    by_cases hlt : k < m
    · obtain ⟨b, o, rfl, hb, hc⟩ := HI.out.row (by omega)
      have g1 : wr.cell? ⟨b, o + k, none⟩ = some (.int .i64 (l.getD k 0)) := by rw [HQ.out]; exact hc k hlt
      have hr := HM.out _ (getD_mem (show k < l.length by rw [HLM.out]; exact hlt))
      have HS : Hid (ordL (l.take (k + 1)) = Nat.lcm (ordL (l.take k)) (l.getD k 0).toNat) := by rw [take_snoc (by rw [HLM.out]; exact hlt), ordL_snoc]; exact rfl
      clear hc
      generalize l.getD k 0 = x at g1 hr HS
      obtain ⟨y, rfl⟩ := Int.eq_ofNat_of_zero_le (show 0 ≤ x by omega)
      rw [Int.toNat_natCast] at HS
      generalize ordL (l.take k) = z at HS hob ho1 ⊢
      go_wp2_with fail
      refine (lcm_any z y _ ho1 (by omega) (by omega) (by omega)).mono ?_
      rintro e w' ⟨rfl, q2, rfl⟩
      go_wp2
      go_roundg (m - (k + 1))
      case measure => omega
      case rel => exact ⟨k + 1, q + q2, by omega, by omega, by go_num, by rw [HS.out], by rw [HQ.out, World.drewN_drewN]⟩
    · have hkm : k = m := by omega
      subst hkm
      have HT : Hid (l.take k = l) := List.take_of_length_le (by rw [HLM.out]; exact Nat.le_refl _)
      rw [HT.out]
      go_wp2
      go_ret2
      exact ⟨by rw [HL0.out]; rfl, by rw [HQ.out]; exact below_drewN HB2.out q⟩

end Go.Proofs.Ytcnljljgdkjndaa

/-
  Ratios as plain numbers: lowest terms, what is too great, sums and products (over Lean's own Rat).
-/
namespace Go.Proofs.Ytcnljljgdkjndaa

/-- A ratio that the program can hold. -/
def RFits (r : Rat) : Prop := -1000000000 ≤ r.num ∧ r.num ≤ 1000000000 ∧ (r.den : Int) ≤ 1000000000
instance (r : Rat) : Decidable (RFits r) := by unfold RFits; infer_instance

/-- The error of what is handed in. -/
def ratioErr (P Q : Int) : Int := if Q < 1 ∨ 1000000000 < Q ∨ P < -1000000000 ∨ 1000000000 < P then 1 else if Int.gcd P Q = 1 then 0 else 3

theorem ratioErr_zero {P Q : Int} (h : ratioErr P Q = 0) : ∃ r : Rat, RFits r ∧ P = r.num ∧ Q = (r.den : Int) := by
  unfold ratioErr at h
  split at h
  · omega
  · rename_i hb
    split at h
    · rename_i hg
      obtain ⟨q, rfl⟩ : ∃ q : Nat, Q = q := ⟨Q.toNat, by omega⟩
      have hg' : Nat.Coprime P.natAbs q := by simpa [Nat.Coprime, Int.gcd] using hg
      exact ⟨⟨P, q, by omega, hg'⟩, ⟨by dsimp only; omega, by dsimp only; omega, by dsimp only; omega⟩, rfl, rfl⟩
    · omega

theorem ratioErr_of {r : Rat} (h : RFits r) : ratioErr r.num (r.den : Int) = 0 := by
  obtain ⟨h1, h2, h3⟩ := h
  have hd := r.den_pos
  have hr := r.reduced
  unfold ratioErr
  rw [if_neg (by omega), if_pos]
  simpa [Nat.Coprime, Int.gcd] using hr

theorem ratioErr_cases (P Q : Int) : ratioErr P Q = 0 ∨ ratioErr P Q = 1 ∨ ratioErr P Q = 3 := by
  unfold ratioErr
  split
  · exact .inr (.inl rfl)
  · split
    · exact .inl rfl
    · exact .inr (.inr rfl)

/-- p by q, p and q over what divides both, the sign above. -/
theorem low_num (p q : Int) (hq : q ≠ 0) : p.tdiv (if q < 0 then -(Int.gcd p q : Int) else (Int.gcd p q : Int)) = (Rat.divInt p q).num := by
  have hg : ((Int.gcd p q : Nat) : Int) ∣ p := Int.gcd_dvd_left ..
  rw [Rat.num_divInt, Int.gcd_comm q p]
  by_cases h : q < 0
  · rw [if_pos h, Int.sign_eq_neg_one_of_neg h, Int.tdiv_neg, Int.tdiv_eq_ediv_of_dvd hg, Int.neg_one_mul, Int.neg_ediv_of_dvd hg]
  · rw [if_neg h, Int.sign_eq_one_of_pos (by omega), Int.tdiv_eq_ediv_of_dvd hg, Int.one_mul]

theorem low_den (p q : Int) (hq : q ≠ 0) : q.tdiv (if q < 0 then -(Int.gcd p q : Int) else (Int.gcd p q : Int)) = ((Rat.divInt p q).den : Int) := by
  have hg : ((Int.gcd p q : Nat) : Int) ∣ q := Int.gcd_dvd_right ..
  rw [Rat.den_divInt, if_neg hq, Int.gcd_comm q p, Int.natCast_ediv]
  by_cases h : q < 0
  · rw [if_pos h, Int.tdiv_neg, Int.tdiv_eq_ediv_of_dvd hg, ← Int.neg_ediv_of_dvd hg]
    congr 1
    omega
  · rw [if_neg h, Int.tdiv_eq_ediv_of_dvd hg]
    congr 1
    omega

theorem num_le (p q : Int) (hq : q ≠ 0) : (Rat.divInt p q).num.natAbs ≤ p.natAbs := by
  rw [← low_num p q hq]
  exact Int.natAbs_tdiv_le_natAbs _ _

theorem den_le (p q : Int) (hq : q ≠ 0) : (Rat.divInt p q).den ≤ q.natAbs := by
  have h := Int.natAbs_tdiv_le_natAbs q (if q < 0 then -(Int.gcd p q : Int) else (Int.gcd p q : Int))
  rw [low_den p q hq] at h
  simpa using h

theorem add_eq (x y : Rat) : Rat.divInt (x.num * (y.den : Int) + y.num * (x.den : Int)) ((x.den : Int) * (y.den : Int)) = x + y := by
  rw [Rat.add_def', ← Rat.divInt_ofNat, Int.natCast_mul]

theorem add_eq' (x y : Rat) : Rat.divInt (x.num * (y.den : Int) + (x.den : Int) * y.num) ((x.den : Int) * (y.den : Int)) = x + y := by
  rw [Int.mul_comm (x.den : Int) y.num, add_eq]

theorem mul_eq (x y : Rat) : Rat.divInt (x.num * y.num) ((x.den : Int) * (y.den : Int)) = x * y := by
  rw [Rat.mul_def', ← Rat.divInt_ofNat, Int.natCast_mul]

theorem div_eq (x y : Rat) : Rat.divInt (x.num * (y.den : Int)) ((x.den : Int) * y.num) = x / y := by
  rw [Rat.div_def, Rat.inv_def, ← Rat.divInt_mul_divInt, Rat.num_divInt_den]

theorem lt_eq (x y : Rat) : decide (x.num * (y.den : Int) < y.num * (x.den : Int)) = decide (x < y) := by
  simp only [Rat.lt_iff]

theorem den_ne (x y : Rat) : (x.den : Int) * (y.den : Int) ≠ 0 := by
  have h1 := x.den_pos
  have h2 := y.den_pos
  exact Int.mul_ne_zero (by omega) (by omega)

/-- A product of two numbers within bounds. -/
theorem mul_bd {a b A B : Int} (ha : -A ≤ a) (ha' : a ≤ A) (hb : -B ≤ b) (hb' : b ≤ B) : -(A * B) ≤ a * b ∧ a * b ≤ A * B := by
  have h1 : a.natAbs ≤ A.toNat := by omega
  have h2 : b.natAbs ≤ B.toNat := by omega
  have h3 : (a * b).natAbs ≤ (A * B).toNat := by
    rw [Int.natAbs_mul]
    have := Nat.mul_le_mul h1 h2
    rwa [show (A * B).toNat = A.toNat * B.toNat from Int.toNat_mul (by omega) (by omega)]
  have hA : 0 ≤ A * B := Int.mul_nonneg (by omega) (by omega)
  omega

theorem mul_bd18 {a b : Int} (ha : -1000000000 ≤ a) (ha' : a ≤ 1000000000) (hb : -1000000000 ≤ b) (hb' : b ≤ 1000000000) : -1000000000000000000 ≤ a * b ∧ a * b ≤ 1000000000000000000 :=
  mul_bd ha ha' hb hb'

theorem gcd_tmod (a b : Int) : Int.gcd b (a.tmod b) = Int.gcd a b := by
  rw [Int.gcd_comm a b]
  have h : a = b * a.tdiv b + a.tmod b := (Int.mul_tdiv_add_tmod a b).symm
  conv => rhs; rw [h, Int.add_comm]
  exact (Int.gcd_add_mul_left_right ..).symm

theorem tmod_lt_natAbs {a b : Int} (hb : b ≠ 0) : (a.tmod b).natAbs < b.natAbs := by
  rw [Int.natAbs_tmod]
  exact Nat.mod_lt _ (by omega)

end Go.Proofs.Ytcnljljgdkjndaa

/-
  ratio.inRange, divisor, Check, checkBoth, lowest.
-/
namespace Go.Proofs.Ytcnljljgdkjndaa
open Go.RowKit

theorem rret_bool {a b : Bool} (h : a = b) : Ending.returned (.bool a) = .returned (.bool b) := by rw [h]

theorem rinR_yes (n : Int) (w : World) (h0 : -1000000000 ≤ n) (h1 : n ≤ 1000000000) :
    Calls Try.prog 37 #[.int .i64 n] w fun e w' => e = .returned (.bool true) ∧ w = w' := by
  go_enter Try.func37, Try.ntmps37
  go_wp2
  go_ret
  exact ⟨rfl, rfl⟩
theorem rinR_no (n : Int) (w : World) (h : n < -1000000000 ∨ 1000000000 < n) :
    Calls Try.prog 37 #[.int .i64 n] w fun e w' => e = .returned (.bool false) ∧ w = w' := by
  rcases h with h | h
  · go_enter Try.func37, Try.ntmps37
    go_wp2
    go_ret
    exact ⟨rfl, rfl⟩
  · have h2 : -1000000000 ≤ n := by omega
    have HD : Hid (decide (n ≤ 1000000000) = false) := decide_eq_false (by omega)
    go_enter Try.func37, Try.ntmps37
    go_wp2
    go_ret
    exact ⟨rret_bool HD.out, rfl⟩

/-- Within reach of the products. -/
def Wide (x : Int) : Prop := -4000000000000000000 ≤ x ∧ x ≤ 4000000000000000000

set_option maxHeartbeats 800000 in
theorem divisor_any (a b : Int) (w : World) (ha : Wide a) (hb : Wide b) :
    Calls Try.prog 41 #[.int .i64 a, .int .i64 b] w fun e w' => e = .returned (.int .i64 ((Int.gcd a b : Nat) : Int)) ∧ ∃ q, w' = w.drewN q := by
  have HA := hid ha
  have HB := hid hb
  clear ha hb
  go_enter Try.func41, Try.ntmps41
  go_wp2
  go_loopg [0, 1] b.natAbs (fun g u v wr => ∃ (x y : Int) (q : Nat), Wide x ∧ Wide y ∧ y.natAbs ≤ g ∧ u = .int .i64 x ∧ v = .int .i64 y ∧ wr = w.drewN q ∧ Int.gcd x y = Int.gcd a b)
  case atStart => exact ⟨a, b, 0, HA.out, HB.out, Nat.le_refl _, rfl, rfl, rfl, rfl⟩
  case round =>
    obtain ⟨x, y, q, hx, hy, hg, rfl, rfl, hq, he⟩ := hrel
    have HQ := hid hq
    have HE := hid he
    have HG := hid hg
    have HX := hid hx
    have HY := hid hy
    clear hq he HA HB hg hx hy
    by_cases h0 : y = 0
    · subst h0
      have hx1 := HX.out.1
      have hx2 := HX.out.2
      have HR : Hid (((Int.gcd a b : Nat) : Int) = if 0 ≤ x then x else -x) := by
        show _ = _
        rw [← HE.out, Int.gcd_zero_right]
        split <;> omega
      by_cases hs : 0 ≤ x
      · have HR2 := HR.out
        rw [if_pos hs] at HR2
        have HR3 := hid HR2
        clear HR2 HR
        go_wp2
        go_ret
        exact ⟨by rw [HR3.out]; first | rfl | (congr 2; omega), q, HQ.out⟩
      · have HR2 := HR.out
        rw [if_neg hs] at HR2
        have HR3 := hid HR2
        have hs2 : x < 0 := by omega
        clear HR2 HR hs
        go_wp2
        go_ret
        exact ⟨by rw [HR3.out]; first | rfl | (congr 2; omega), q, HQ.out⟩
    · have hne : (y != 0) = true := by simpa using h0
      have hne2 : (y == 0) = false := by simpa using h0
      have HL := hid (tmod_lt_natAbs (a := x) h0)
      have HM := hid (gcd_tmod x y)
      have HW : Hid (Wide (x.tmod y)) := by
        have := HL.out
        have := HY.out
        unfold Wide at *
        exact ⟨by omega, by omega⟩
      have hw : IntKind.i64.wrap (x.tmod y) = x.tmod y := by
        have := HW.out
        unfold Wide at this
        exact IntWalk.i64_in _ (by omega)
      generalize hz : x.tmod y = z at *
      have HZ := hid hz
      clear hz
      go_wp2_with fail
      go_region
      go_wp2
      go_roundg z.natAbs
      case measure =>
        have := HL.out
        have := HG.out
        omega
      case rel => exact ⟨y, z, q + 1, HY.out, HW.out, Nat.le_refl _, rfl, by rw [← HZ.out], by rw [HQ.out]; rfl, by rw [HM.out, HE.out]⟩
end Go.Proofs.Ytcnljljgdkjndaa

/-
  A ratio in a block; ratio.Check, checkBoth, lowest.
-/
namespace Go.Proofs.Ytcnljljgdkjndaa
open Go.RowKit

/-- Block b holds P by Q. -/
structure RatAt (w : World) (b : Nat) (P Q : Int) : Prop where
  p0 : w.cell? ⟨b, 0, none⟩ = some (.int .i64 P)
  p1 : w.cell? ⟨b, 1, none⟩ = some (.int .i64 Q)
  f0 : w.frozen? ⟨b, 0, none⟩ = false
  f1 : w.frozen? ⟨b, 1, none⟩ = false
  lt : b < w.heap.size

theorem rat_row {w : World} {b : Nat} {x y : Value} : (w.alloc (.cells #[x, y] b)).rowIs w.heap.size b 2 (fun j => if j = 0 then x else y) := by
  refine ⟨#[x, y], heap_alloc_new w _, rfl, fun i hi => ?_⟩
  match i, hi with
  | 0, _ => rfl
  | 1, _ => rfl
theorem RatAt.new (w : World) (t : TypeId) (P Q : Int) : RatAt (w.alloc (.cells #[.int .i64 P, .int .i64 Q] t)) w.heap.size P Q := by
  have hr := rat_row (w := w) (b := t) (x := .int .i64 P) (y := .int .i64 Q)
  exact ⟨(hr.cell (i := 0) (by omega)).trans rfl, (hr.cell (i := 1) (by omega)).trans rfl, hr.frozen 0, hr.frozen 1, hr.lt⟩
theorem RatAt.keep {w w' : World} {b : Nat} {P Q : Int} (h : RatAt w b P Q) (hb : Below w.heap.size w w') : RatAt w' b P Q := by
  have e := hb.block b h.lt
  exact ⟨(hb.cell (p := ⟨b, 0, none⟩) h.lt).trans h.p0, (hb.cell (p := ⟨b, 1, none⟩) h.lt).trans h.p1, (World.frozen?_of_block (a := ⟨b, 0, none⟩) e).trans h.f0, (World.frozen?_of_block (a := ⟨b, 1, none⟩) e).trans h.f1, Nat.lt_of_lt_of_le h.lt hb.size⟩
theorem RatAt.keep_alloc {w : World} {b : Nat} {P Q : Int} (h : RatAt w b P Q) (o : Obj) : RatAt (w.alloc o) b P Q := h.keep (below_alloc w o)

/-- What is said of a call that hands out an error. -/
def RetE (w : World) (er : Int) (e : Ending) (w' : World) : Prop := e = .returned (.int .i64 er) ∧ Below w.heap.size w w'

set_option maxHeartbeats 800000 in
theorem rcheck_any (P Q : Int) (w : World) : Calls Try.prog 17 #[.agg #[.int .i64 P, .int .i64 Q]] w (RetE w (ratioErr P Q)) := by
  have HB0 : Hid (Below w.heap.size w (w.alloc (.cells #[.int .i64 P, .int .i64 Q] 23))) := below_alloc w _
  by_cases h1 : P < -1000000000 ∨ 1000000000 < P
  · have HE : Hid (ratioErr P Q = 1) := by
      show _ = _
      unfold ratioErr
      rw [if_pos (by omega)]
    go_enter Try.func17, Try.ntmps17
    go_wp2_with fail
    refine (rinR_no _ _ h1).mono ?_
    rintro e w' ⟨rfl, rfl⟩
    go_wp2
    go_ret
    exact ⟨by rw [HE.out]; rfl, HB0.out⟩
  · by_cases h2 : Q < -1000000000 ∨ 1000000000 < Q
    · have HE : Hid (ratioErr P Q = 1) := by
        show _ = _
        unfold ratioErr
        rw [if_pos (by omega)]
      go_enter Try.func17, Try.ntmps17
      go_wp2_with fail
      refine (rinR_yes _ _ (by omega) (by omega)).mono ?_
      rintro e w' ⟨rfl, rfl⟩
      go_wp2_with fail
      refine (rinR_no _ _ h2).mono ?_
      rintro e w' ⟨rfl, rfl⟩
      go_wp2
      go_ret
      exact ⟨by rw [HE.out]; rfl, HB0.out⟩
    · by_cases h3 : Q < 1
      · have HE : Hid (ratioErr P Q = 1) := by
          show _ = _
          unfold ratioErr
          rw [if_pos (by omega)]
        go_enter Try.func17, Try.ntmps17
        go_wp2_with fail
        refine (rinR_yes _ _ (by omega) (by omega)).mono ?_
        rintro e w' ⟨rfl, rfl⟩
        go_wp2_with fail
        refine (rinR_yes _ _ (by omega) (by omega)).mono ?_
        rintro e w' ⟨rfl, rfl⟩
        go_wp2
        go_ret
        exact ⟨by rw [HE.out]; rfl, HB0.out⟩
      · have hG : 1 ≤ Int.gcd P Q := Int.gcd_pos_of_ne_zero_right _ (by omega)
        have HE : Hid (ratioErr P Q = if Int.gcd P Q = 1 then 0 else 3) := by
          show _ = _
          unfold ratioErr
          rw [if_neg (by omega)]
        have h4 : 1 ≤ Q := by omega
        have hW1 : Wide P := ⟨by omega, by omega⟩
        have hW2 : Wide Q := ⟨by omega, by omega⟩
        have H4 := hid h4
        by_cases h5 : Int.gcd P Q = 1
        · have HE1 := HE.out
          rw [if_pos h5] at HE1
          have HE2 := hid HE1
          have HG5 := hid h5
          clear HE HE1
          go_enter Try.func17, Try.ntmps17
          go_wp2_with fail
          refine (rinR_yes _ _ (by omega) (by omega)).mono ?_
          rintro e w' ⟨rfl, rfl⟩
          go_wp2_with fail
          refine (rinR_yes _ _ (by omega) (by omega)).mono ?_
          rintro e w' ⟨rfl, rfl⟩
          go_wp2_with fail
          refine (divisor_any _ _ _ hW1 hW2).mono ?_
          rintro e w' ⟨rfl, q, rfl⟩
          rw [HG5.out]
          go_wp2
          go_ret
          exact ⟨by rw [HE2.out]; rfl, below_drewN HB0.out q⟩
        · have HE1 := HE.out
          rw [if_neg h5] at HE1
          have HE2 := hid HE1
          have h6 : (1 : Int) < ((Int.gcd P Q : Nat) : Int) := by omega
          clear HE HE1
          go_enter Try.func17, Try.ntmps17
          go_wp2_with fail
          refine (rinR_yes _ _ (by omega) (by omega)).mono ?_
          rintro e w' ⟨rfl, rfl⟩
          go_wp2_with fail
          refine (rinR_yes _ _ (by omega) (by omega)).mono ?_
          rintro e w' ⟨rfl, rfl⟩
          go_wp2_with fail
          refine (divisor_any _ _ _ hW1 hW2).mono ?_
          rintro e w' ⟨rfl, q, rfl⟩
          go_wp2
          go_ret
          exact ⟨by rw [HE2.out]; rfl, below_drewN HB0.out q⟩

/-- The first error of two. -/
def bothErr (P Q P' Q' : Int) : Int := if ratioErr P Q ≠ 0 then ratioErr P Q else ratioErr P' Q'

set_option maxHeartbeats 800000 in
theorem checkBoth_any (P Q P' Q' : Int) (w : World) : Calls Try.prog 39 #[.agg #[.int .i64 P, .int .i64 Q], .agg #[.int .i64 P', .int .i64 Q']] w (RetE w (bothErr P Q P' Q')) := by
  have HB0 : Hid (Below w.heap.size w ((w.alloc (.cells #[.int .i64 P, .int .i64 Q] 23)).alloc (.cells #[.int .i64 P', .int .i64 Q'] 23))) := below_step (below_alloc w _) (Nat.le_refl _) (below_alloc _ _)
  have HR : Hid (RatAt ((w.alloc (.cells #[.int .i64 P, .int .i64 Q] 23)).alloc (.cells #[.int .i64 P', .int .i64 Q'] 23)) (w.heap.size + 1) P' Q') := by
    have h := RatAt.new (w.alloc (.cells #[.int .i64 P, .int .i64 Q] 23)) 23 P' Q'
    rwa [show (w.alloc (.cells #[.int .i64 P, .int .i64 Q] 23)).heap.size = w.heap.size + 1 by simp] at h
  by_cases h : ratioErr P Q = 0
  · have HE : Hid (bothErr P Q P' Q' = ratioErr P' Q') := if_neg (by simpa using h)
    have H0 := hid h
    clear h
    go_enter Try.func39, Try.ntmps39
    go_wp2_with fail
    refine (rcheck_any _ _ _).mono ?_
    rintro e w1 ⟨rfl, hb⟩
    rw [H0.out]
    have hr := HR.out.keep hb
    have g0 := hr.p0
    have g1 := hr.p1
    have HB1 := hid (below_step HB0.out (by simp) hb)
    clear hr hb HB0 HR
    go_wp2_with fail
    refine (rcheck_any _ _ _).mono ?_
    rintro e w2 ⟨rfl, hb⟩
    have HB2 := hid (below_step HB1.out (by first | exact HB1.out.size | simp) hb)
    go_wp2
    go_ret
    exact ⟨by rw [HE.out]; rfl, HB2.out⟩
  · have HE : Hid (bothErr P Q P' Q' = ratioErr P Q) := if_pos h
    have hne : (ratioErr P Q != 0) = true := by simpa using h
    clear h
    go_enter Try.func39, Try.ntmps39
    go_wp2_with fail
    refine (rcheck_any _ _ _).mono ?_
    rintro e w1 ⟨rfl, hb⟩
    have HB1 := hid (below_step HB0.out (by simp) hb)
    clear hb HB0 HR
    generalize ratioErr P Q = er at *
    go_wp2
    go_ret
    exact ⟨by rw [HE.out]; rfl, HB1.out⟩
end Go.Proofs.Ytcnljljgdkjndaa

/-
  ratio.lowest, castref.Common, castref.RatioOf.
-/
namespace Go.Proofs.Ytcnljljgdkjndaa
open Go.RowKit

/-- What is said of a call that hands out a ratio and an error. -/
def RetR (w : World) (P Q er : Int) (e : Ending) (w' : World) : Prop := e = .returned (.tuple #[.agg #[.int .i64 P, .int .i64 Q], .int .i64 er]) ∧ Below w.heap.size w w'
def outP (r : Rat) : Int := if RFits r then r.num else 0
def outQ (r : Rat) : Int := if RFits r then (r.den : Int) else 0
def outE (r : Rat) : Int := if RFits r then 0 else 2

theorem out_fits {r : Rat} (h : RFits r) : outP r = r.num ∧ outQ r = (r.den : Int) ∧ outE r = 0 := ⟨if_pos h, if_pos h, if_pos h⟩
theorem out_not {r : Rat} (h : ¬ RFits r) : outP r = 0 ∧ outQ r = 0 ∧ outE r = 2 := ⟨if_neg h, if_neg h, if_neg h⟩

theorem low_facts {p q : Int} (h0 : q ≠ 0) (D : Int) (hD : D = if q < 0 then -((Int.gcd p q : Nat) : Int) else ((Int.gcd p q : Nat) : Int)) :
    D ≠ 0 ∧ p.tdiv D = (Rat.divInt p q).num ∧ q.tdiv D = ((Rat.divInt p q).den : Int) := by
  subst hD
  refine ⟨?_, low_num p q h0, low_den p q h0⟩
  have hG : 1 ≤ Int.gcd p q := Int.gcd_pos_of_ne_zero_right _ h0
  split <;> omega

theorem below_set2 {w : World} {b B : Nat} {v v' : Value} (hB : B ≤ b) : Below B w ((w.setCell ⟨b, 0, none⟩ v).setCell ⟨b, 1, none⟩ v') :=
  ((Below.refl B w).setCell hB _).setCell hB _

set_option maxHeartbeats 800000 in
theorem lowest_neg_n (p q n d : Int) (w : World) (hp : Wide p) (hq : Wide q) (hs : q < 0) (h1 : -((Int.gcd p q : Nat) : Int) ≠ 0) (h2 : p.tdiv (-((Int.gcd p q : Nat) : Int)) = n) (h3 : q.tdiv (-((Int.gcd p q : Nat) : Int)) = d)
    (hn1 : -4000000000000000000 ≤ n) (hn2 : n ≤ 4000000000000000000) (hd1 : 1 ≤ d) (hd2 : d ≤ 4000000000000000000) (hc : n < -1000000000 ∨ 1000000000 < n) :
    Calls Try.prog 38 #[.int .i64 p, .int .i64 q] w (RetR w 0 0 2) := by
  have HB0 : Hid (Below w.heap.size w (w.alloc (.cells #[.int .i64 0, .int .i64 0] 23))) := below_alloc w _
  have HR0 := hid (RatAt.new w 23 0 0)
  have hgq : Int.gcd p q ≤ q.natAbs := Int.gcd_le_natAbs_right _ (by omega)
  have hWq := hq
  unfold Wide at hWq
  obtain ⟨hq1, hq2⟩ := hWq
  have hgb : ((Int.gcd p q : Nat) : Int) ≤ 4000000000000000000 := by omega
  have hsd : decide (q < 0) = true := by simp; omega
  go_enter Try.func38, Try.ntmps38
  go_wp2_with fail
  refine (divisor_any _ _ _ hp hq).mono ?_
  rintro e w1 ⟨rfl, k, rfl⟩
  generalize Int.gcd p q = G at *
  clear hgq
  go_wp2_with fail
  go_region
  have HB1 : Hid (Below w.heap.size w (((w.alloc (.cells #[.int .i64 0, .int .i64 0] 23)).drewN (k + 1)).alloc (.cells #[.int .i64 n, .int .i64 d] 23))) :=
    below_step (below_drewN HB0.out _) (Nat.le_refl _) (below_alloc _ _)
  have HR1 := hid ((HR0.out.keep (below_drewN (Below.refl _ _) (k + 1))).keep_alloc (.cells #[.int .i64 n, .int .i64 d] 23))
  have HS : Hid (w.heap.size < (((w.alloc (.cells #[.int .i64 0, .int .i64 0] 23)).drewN (k + 1)).alloc (.cells #[.int .i64 n, .int .i64 d] 23)).heap.size) := HR1.out.lt
  go_wp2_with fail
  refine (rinR_no _ _ hc).mono ?_
  rintro e w' ⟨rfl, rfl⟩
  have g0 := HR1.out.p0
  have g1 := HR1.out.p1
  have f0 := HR1.out.f0
  have f1 := HR1.out.f1
  go_wp2
  (try simp only [Exit.inBlock, Exit.then])
  refine bodyPost_ret (v := .tuple #[.agg #[.int .i64 0, .int .i64 0], .int .i64 2]) ?_ rfl ⟨rfl, ((below_drewN HB0.out _).trans (below_set2 (Nat.le_refl _))).alloc (by simp) _⟩
  rw [results_cell_tmp rfl]
  go_simp

set_option maxHeartbeats 800000 in
theorem lowest_neg_d (p q n d : Int) (w : World) (hp : Wide p) (hq : Wide q) (hs : q < 0) (h1 : -((Int.gcd p q : Nat) : Int) ≠ 0) (h2 : p.tdiv (-((Int.gcd p q : Nat) : Int)) = n) (h3 : q.tdiv (-((Int.gcd p q : Nat) : Int)) = d)
    (hn1 : -4000000000000000000 ≤ n) (hn2 : n ≤ 4000000000000000000) (hd1 : 1 ≤ d) (hd2 : d ≤ 4000000000000000000) (hc1 : -1000000000 ≤ n) (hc2 : n ≤ 1000000000) (hc : 1000000000 < d) :
    Calls Try.prog 38 #[.int .i64 p, .int .i64 q] w (RetR w 0 0 2) := by
  have HB0 : Hid (Below w.heap.size w (w.alloc (.cells #[.int .i64 0, .int .i64 0] 23))) := below_alloc w _
  have HR0 := hid (RatAt.new w 23 0 0)
  have hgq : Int.gcd p q ≤ q.natAbs := Int.gcd_le_natAbs_right _ (by omega)
  have hWq := hq
  unfold Wide at hWq
  obtain ⟨hq1, hq2⟩ := hWq
  have hgb : ((Int.gcd p q : Nat) : Int) ≤ 4000000000000000000 := by omega
  have hsd : decide (q < 0) = true := by simp; omega
  go_enter Try.func38, Try.ntmps38
  go_wp2_with fail
  refine (divisor_any _ _ _ hp hq).mono ?_
  rintro e w1 ⟨rfl, k, rfl⟩
  generalize Int.gcd p q = G at *
  clear hgq
  go_wp2_with fail
  go_region
  have HB1 : Hid (Below w.heap.size w (((w.alloc (.cells #[.int .i64 0, .int .i64 0] 23)).drewN (k + 1)).alloc (.cells #[.int .i64 n, .int .i64 d] 23))) :=
    below_step (below_drewN HB0.out _) (Nat.le_refl _) (below_alloc _ _)
  have HR1 := hid ((HR0.out.keep (below_drewN (Below.refl _ _) (k + 1))).keep_alloc (.cells #[.int .i64 n, .int .i64 d] 23))
  have HS : Hid (w.heap.size < (((w.alloc (.cells #[.int .i64 0, .int .i64 0] 23)).drewN (k + 1)).alloc (.cells #[.int .i64 n, .int .i64 d] 23)).heap.size) := HR1.out.lt
  go_wp2_with fail
  refine (rinR_yes _ _ hc1 hc2).mono ?_
  rintro e w' ⟨rfl, rfl⟩
  go_wp2_with fail
  refine (rinR_no _ _ (.inr hc)).mono ?_
  rintro e w' ⟨rfl, rfl⟩
  have g0 := HR1.out.p0
  have g1 := HR1.out.p1
  have f0 := HR1.out.f0
  have f1 := HR1.out.f1
  go_wp2
  (try simp only [Exit.inBlock, Exit.then])
  refine bodyPost_ret (v := .tuple #[.agg #[.int .i64 0, .int .i64 0], .int .i64 2]) ?_ rfl ⟨rfl, ((below_drewN HB0.out _).trans (below_set2 (Nat.le_refl _))).alloc (by simp) _⟩
  rw [results_cell_tmp rfl]
  go_simp

set_option maxHeartbeats 800000 in
theorem lowest_neg_ok (p q n d : Int) (w : World) (hp : Wide p) (hq : Wide q) (hs : q < 0) (h1 : -((Int.gcd p q : Nat) : Int) ≠ 0) (h2 : p.tdiv (-((Int.gcd p q : Nat) : Int)) = n) (h3 : q.tdiv (-((Int.gcd p q : Nat) : Int)) = d)
    (hn1 : -4000000000000000000 ≤ n) (hn2 : n ≤ 4000000000000000000) (hd1 : 1 ≤ d) (hd2 : d ≤ 4000000000000000000) (hc1 : -1000000000 ≤ n) (hc2 : n ≤ 1000000000) (hc : d ≤ 1000000000) :
    Calls Try.prog 38 #[.int .i64 p, .int .i64 q] w (RetR w n d 0) := by
  have HB0 : Hid (Below w.heap.size w (w.alloc (.cells #[.int .i64 0, .int .i64 0] 23))) := below_alloc w _
  have HR0 := hid (RatAt.new w 23 0 0)
  have hgq : Int.gcd p q ≤ q.natAbs := Int.gcd_le_natAbs_right _ (by omega)
  have hWq := hq
  unfold Wide at hWq
  obtain ⟨hq1, hq2⟩ := hWq
  have hgb : ((Int.gcd p q : Nat) : Int) ≤ 4000000000000000000 := by omega
  have hsd : decide (q < 0) = true := by simp; omega
  go_enter Try.func38, Try.ntmps38
  go_wp2_with fail
  refine (divisor_any _ _ _ hp hq).mono ?_
  rintro e w1 ⟨rfl, k, rfl⟩
  generalize Int.gcd p q = G at *
  clear hgq
  go_wp2_with fail
  go_region
  have HB1 : Hid (Below w.heap.size w (((w.alloc (.cells #[.int .i64 0, .int .i64 0] 23)).drewN (k + 1)).alloc (.cells #[.int .i64 n, .int .i64 d] 23))) :=
    below_step (below_drewN HB0.out _) (Nat.le_refl _) (below_alloc _ _)
  have HR1 := hid ((HR0.out.keep (below_drewN (Below.refl _ _) (k + 1))).keep_alloc (.cells #[.int .i64 n, .int .i64 d] 23))
  have HS : Hid (w.heap.size < (((w.alloc (.cells #[.int .i64 0, .int .i64 0] 23)).drewN (k + 1)).alloc (.cells #[.int .i64 n, .int .i64 d] 23)).heap.size) := HR1.out.lt
  go_wp2_with fail
  refine (rinR_yes _ _ hc1 hc2).mono ?_
  rintro e w' ⟨rfl, rfl⟩
  go_wp2_with fail
  refine (rinR_yes _ _ (by omega) hc).mono ?_
  rintro e w' ⟨rfl, rfl⟩
  have g0 := HR1.out.p0
  have g1 := HR1.out.p1
  have f0 := HR1.out.f0
  have f1 := HR1.out.f1
  go_wp2
  (try simp only [Exit.inBlock, Exit.then])
  refine bodyPost_ret (v := .tuple #[.agg #[.int .i64 n, .int .i64 d], .int .i64 0]) ?_ rfl ⟨rfl, ((below_drewN HB0.out _).trans (below_set2 (Nat.le_refl _))).alloc (by simp) _⟩
  rw [results_cell_tmp rfl]
  go_simp

set_option maxHeartbeats 800000 in
theorem lowest_pos_n (p q n d : Int) (w : World) (hp : Wide p) (hq : Wide q) (hs : 0 < q) (h1 : ((Int.gcd p q : Nat) : Int) ≠ 0) (h2 : p.tdiv (((Int.gcd p q : Nat) : Int)) = n) (h3 : q.tdiv (((Int.gcd p q : Nat) : Int)) = d)
    (hn1 : -4000000000000000000 ≤ n) (hn2 : n ≤ 4000000000000000000) (hd1 : 1 ≤ d) (hd2 : d ≤ 4000000000000000000) (hc : n < -1000000000 ∨ 1000000000 < n) :
    Calls Try.prog 38 #[.int .i64 p, .int .i64 q] w (RetR w 0 0 2) := by
  have HB0 : Hid (Below w.heap.size w (w.alloc (.cells #[.int .i64 0, .int .i64 0] 23))) := below_alloc w _
  have HR0 := hid (RatAt.new w 23 0 0)
  have hgq : Int.gcd p q ≤ q.natAbs := Int.gcd_le_natAbs_right _ (by omega)
  have hWq := hq
  unfold Wide at hWq
  obtain ⟨hq1, hq2⟩ := hWq
  have hgb : ((Int.gcd p q : Nat) : Int) ≤ 4000000000000000000 := by omega
  have hsd : decide (q < 0) = false := by simp; omega
  go_enter Try.func38, Try.ntmps38
  go_wp2_with fail
  refine (divisor_any _ _ _ hp hq).mono ?_
  rintro e w1 ⟨rfl, k, rfl⟩
  generalize Int.gcd p q = G at *
  clear hgq
  go_wp2_with fail
  go_region
  have HB1 : Hid (Below w.heap.size w (((w.alloc (.cells #[.int .i64 0, .int .i64 0] 23)).drewN (k + 1)).alloc (.cells #[.int .i64 n, .int .i64 d] 23))) :=
    below_step (below_drewN HB0.out _) (Nat.le_refl _) (below_alloc _ _)
  have HR1 := hid ((HR0.out.keep (below_drewN (Below.refl _ _) (k + 1))).keep_alloc (.cells #[.int .i64 n, .int .i64 d] 23))
  have HS : Hid (w.heap.size < (((w.alloc (.cells #[.int .i64 0, .int .i64 0] 23)).drewN (k + 1)).alloc (.cells #[.int .i64 n, .int .i64 d] 23)).heap.size) := HR1.out.lt
  go_wp2_with fail
  refine (rinR_no _ _ hc).mono ?_
  rintro e w' ⟨rfl, rfl⟩
  have g0 := HR1.out.p0
  have g1 := HR1.out.p1
  have f0 := HR1.out.f0
  have f1 := HR1.out.f1
  go_wp2
  (try simp only [Exit.inBlock, Exit.then])
  refine bodyPost_ret (v := .tuple #[.agg #[.int .i64 0, .int .i64 0], .int .i64 2]) ?_ rfl ⟨rfl, ((below_drewN HB0.out _).trans (below_set2 (Nat.le_refl _))).alloc (by simp) _⟩
  rw [results_cell_tmp rfl]
  go_simp

set_option maxHeartbeats 800000 in
theorem lowest_pos_d (p q n d : Int) (w : World) (hp : Wide p) (hq : Wide q) (hs : 0 < q) (h1 : ((Int.gcd p q : Nat) : Int) ≠ 0) (h2 : p.tdiv (((Int.gcd p q : Nat) : Int)) = n) (h3 : q.tdiv (((Int.gcd p q : Nat) : Int)) = d)
    (hn1 : -4000000000000000000 ≤ n) (hn2 : n ≤ 4000000000000000000) (hd1 : 1 ≤ d) (hd2 : d ≤ 4000000000000000000) (hc1 : -1000000000 ≤ n) (hc2 : n ≤ 1000000000) (hc : 1000000000 < d) :
    Calls Try.prog 38 #[.int .i64 p, .int .i64 q] w (RetR w 0 0 2) := by
  have HB0 : Hid (Below w.heap.size w (w.alloc (.cells #[.int .i64 0, .int .i64 0] 23))) := below_alloc w _
  have HR0 := hid (RatAt.new w 23 0 0)
  have hgq : Int.gcd p q ≤ q.natAbs := Int.gcd_le_natAbs_right _ (by omega)
  have hWq := hq
  unfold Wide at hWq
  obtain ⟨hq1, hq2⟩ := hWq
  have hgb : ((Int.gcd p q : Nat) : Int) ≤ 4000000000000000000 := by omega
  have hsd : decide (q < 0) = false := by simp; omega
  go_enter Try.func38, Try.ntmps38
  go_wp2_with fail
  refine (divisor_any _ _ _ hp hq).mono ?_
  rintro e w1 ⟨rfl, k, rfl⟩
  generalize Int.gcd p q = G at *
  clear hgq
  go_wp2_with fail
  go_region
  have HB1 : Hid (Below w.heap.size w (((w.alloc (.cells #[.int .i64 0, .int .i64 0] 23)).drewN (k + 1)).alloc (.cells #[.int .i64 n, .int .i64 d] 23))) :=
    below_step (below_drewN HB0.out _) (Nat.le_refl _) (below_alloc _ _)
  have HR1 := hid ((HR0.out.keep (below_drewN (Below.refl _ _) (k + 1))).keep_alloc (.cells #[.int .i64 n, .int .i64 d] 23))
  have HS : Hid (w.heap.size < (((w.alloc (.cells #[.int .i64 0, .int .i64 0] 23)).drewN (k + 1)).alloc (.cells #[.int .i64 n, .int .i64 d] 23)).heap.size) := HR1.out.lt
  go_wp2_with fail
  refine (rinR_yes _ _ hc1 hc2).mono ?_
  rintro e w' ⟨rfl, rfl⟩
  go_wp2_with fail
  refine (rinR_no _ _ (.inr hc)).mono ?_
  rintro e w' ⟨rfl, rfl⟩
  have g0 := HR1.out.p0
  have g1 := HR1.out.p1
  have f0 := HR1.out.f0
  have f1 := HR1.out.f1
  go_wp2
  (try simp only [Exit.inBlock, Exit.then])
  refine bodyPost_ret (v := .tuple #[.agg #[.int .i64 0, .int .i64 0], .int .i64 2]) ?_ rfl ⟨rfl, ((below_drewN HB0.out _).trans (below_set2 (Nat.le_refl _))).alloc (by simp) _⟩
  rw [results_cell_tmp rfl]
  go_simp

set_option maxHeartbeats 800000 in
theorem lowest_pos_ok (p q n d : Int) (w : World) (hp : Wide p) (hq : Wide q) (hs : 0 < q) (h1 : ((Int.gcd p q : Nat) : Int) ≠ 0) (h2 : p.tdiv (((Int.gcd p q : Nat) : Int)) = n) (h3 : q.tdiv (((Int.gcd p q : Nat) : Int)) = d)
    (hn1 : -4000000000000000000 ≤ n) (hn2 : n ≤ 4000000000000000000) (hd1 : 1 ≤ d) (hd2 : d ≤ 4000000000000000000) (hc1 : -1000000000 ≤ n) (hc2 : n ≤ 1000000000) (hc : d ≤ 1000000000) :
    Calls Try.prog 38 #[.int .i64 p, .int .i64 q] w (RetR w n d 0) := by
  have HB0 : Hid (Below w.heap.size w (w.alloc (.cells #[.int .i64 0, .int .i64 0] 23))) := below_alloc w _
  have HR0 := hid (RatAt.new w 23 0 0)
  have hgq : Int.gcd p q ≤ q.natAbs := Int.gcd_le_natAbs_right _ (by omega)
  have hWq := hq
  unfold Wide at hWq
  obtain ⟨hq1, hq2⟩ := hWq
  have hgb : ((Int.gcd p q : Nat) : Int) ≤ 4000000000000000000 := by omega
  have hsd : decide (q < 0) = false := by simp; omega
  go_enter Try.func38, Try.ntmps38
  go_wp2_with fail
  refine (divisor_any _ _ _ hp hq).mono ?_
  rintro e w1 ⟨rfl, k, rfl⟩
  generalize Int.gcd p q = G at *
  clear hgq
  go_wp2_with fail
  go_region
  have HB1 : Hid (Below w.heap.size w (((w.alloc (.cells #[.int .i64 0, .int .i64 0] 23)).drewN (k + 1)).alloc (.cells #[.int .i64 n, .int .i64 d] 23))) :=
    below_step (below_drewN HB0.out _) (Nat.le_refl _) (below_alloc _ _)
  have HR1 := hid ((HR0.out.keep (below_drewN (Below.refl _ _) (k + 1))).keep_alloc (.cells #[.int .i64 n, .int .i64 d] 23))
  have HS : Hid (w.heap.size < (((w.alloc (.cells #[.int .i64 0, .int .i64 0] 23)).drewN (k + 1)).alloc (.cells #[.int .i64 n, .int .i64 d] 23)).heap.size) := HR1.out.lt
  go_wp2_with fail
  refine (rinR_yes _ _ hc1 hc2).mono ?_
  rintro e w' ⟨rfl, rfl⟩
  go_wp2_with fail
  refine (rinR_yes _ _ (by omega) hc).mono ?_
  rintro e w' ⟨rfl, rfl⟩
  have g0 := HR1.out.p0
  have g1 := HR1.out.p1
  have f0 := HR1.out.f0
  have f1 := HR1.out.f1
  go_wp2
  (try simp only [Exit.inBlock, Exit.then])
  refine bodyPost_ret (v := .tuple #[.agg #[.int .i64 n, .int .i64 d], .int .i64 0]) ?_ rfl ⟨rfl, ((below_drewN HB0.out _).trans (below_set2 (Nat.le_refl _))).alloc (by simp) _⟩
  rw [results_cell_tmp rfl]
  go_simp

theorem lowest_any (p q : Int) (w : World) (hp : Wide p) (hq : Wide q) (h0 : q ≠ 0) :
    Calls Try.prog 38 #[.int .i64 p, .int .i64 q] w (RetR w (outP (Rat.divInt p q)) (outQ (Rat.divInt p q)) (outE (Rat.divInt p q))) := by
  have HN := num_le p q h0
  have HD := den_le p q h0
  have HP := Rat.den_pos (Rat.divInt p q)
  have hp' := hp
  have hq' := hq
  unfold Wide at hp' hq'
  have key : (RFits (Rat.divInt p q) ∧ outP (Rat.divInt p q) = (Rat.divInt p q).num ∧ outQ (Rat.divInt p q) = ((Rat.divInt p q).den : Int) ∧ outE (Rat.divInt p q) = 0)
      ∨ (¬ RFits (Rat.divInt p q) ∧ outP (Rat.divInt p q) = 0 ∧ outQ (Rat.divInt p q) = 0 ∧ outE (Rat.divInt p q) = 2) := by
    by_cases h : RFits (Rat.divInt p q)
    · exact .inl ⟨h, out_fits h⟩
    · exact .inr ⟨h, out_not h⟩
  have hn1 : -4000000000000000000 ≤ (Rat.divInt p q).num := by omega
  have hn2 : (Rat.divInt p q).num ≤ 4000000000000000000 := by omega
  have hd1 : 1 ≤ ((Rat.divInt p q).den : Int) := by omega
  have hd2 : ((Rat.divInt p q).den : Int) ≤ 4000000000000000000 := by omega
  by_cases hs : q < 0
  · obtain ⟨a1, a2, a3⟩ := low_facts (p := p) h0 (-((Int.gcd p q : Nat) : Int)) (by rw [if_pos hs])
    rcases key with ⟨hf, e1, e2, e3⟩ | ⟨hf, e1, e2, e3⟩
    · rw [e1, e2, e3]
      exact lowest_neg_ok p q _ _ w hp hq hs a1 a2 a3 hn1 hn2 hd1 hd2 hf.1 hf.2.1 hf.2.2
    · rw [e1, e2, e3]
      unfold RFits at hf
      by_cases hc : (Rat.divInt p q).num < -1000000000 ∨ 1000000000 < (Rat.divInt p q).num
      · exact lowest_neg_n p q _ _ w hp hq hs a1 a2 a3 hn1 hn2 hd1 hd2 hc
      · exact lowest_neg_d p q _ _ w hp hq hs a1 a2 a3 hn1 hn2 hd1 hd2 (by omega) (by omega) (by omega)
  · have hs' : 0 < q := by omega
    obtain ⟨a1, a2, a3⟩ := low_facts (p := p) h0 (((Int.gcd p q : Nat) : Int)) (by rw [if_neg hs])
    rcases key with ⟨hf, e1, e2, e3⟩ | ⟨hf, e1, e2, e3⟩
    · rw [e1, e2, e3]
      exact lowest_pos_ok p q _ _ w hp hq hs' a1 a2 a3 hn1 hn2 hd1 hd2 hf.1 hf.2.1 hf.2.2
    · rw [e1, e2, e3]
      unfold RFits at hf
      by_cases hc : (Rat.divInt p q).num < -1000000000 ∨ 1000000000 < (Rat.divInt p q).num
      · exact lowest_pos_n p q _ _ w hp hq hs' a1 a2 a3 hn1 hn2 hd1 hd2 hc
      · exact lowest_pos_d p q _ _ w hp hq hs' a1 a2 a3 hn1 hn2 hd1 hd2 (by omega) (by omega) (by omega)
end Go.Proofs.Ytcnljljgdkjndaa
