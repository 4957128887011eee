/-
  Texts joined: Base, Lit, Row0, Own, Rst, Plain, Good, Equal, Small, Gen, Clone, PartF, Grid, ORow, OrbR, Check, Times.
-/
import Derived.Test.YtbcjfiobggggjaaRows
import Derived.WalkKit
import Derived.Deep.LoopGhost
import Derived.Deep.Draws
import Derived.Deep.QuietTactic
import Derived.BigQuiet
import Derived.Deep.OwnRows
import Derived.Lib.SliceRun
import Derived.Laws.AppendOwnNone
import Derived.Maps.AppendAt

/-
  Words of my own for slices of ints, and small plain facts. Nothing of the program is proved here.
-/
namespace Go.Proofs.Ytbcjfiobggggjaa
open Go.RowKit

/-- The slice value '.slice A n c' holds the numbers xs in the world w (nil and empty ones too). -/
structure Ints (w : World) (A : Option Addr) (n : Nat) (xs : List Int) : Prop where
  len : xs.length = n
  row : 0 < n → ∃ b off, A = some ⟨b, off, none⟩ ∧ b < w.heap.size ∧ ∀ j, j < n → w.cell? ⟨b, off + j, none⟩ = some (.int .i64 (xs.getD j 0))

theorem Ints.nil (w : World) (A : Option Addr) : Ints w A 0 [] := ⟨rfl, fun h => absurd h (by omega)⟩

theorem Ints.keep {w w' : World} {A : Option Addr} {n : Nat} {xs : List Int} (h : Ints w A n xs) (hb : Below w.heap.size w w') : Ints w' A n xs := by
  refine ⟨h.len, fun hn => ?_⟩
  obtain ⟨b, off, e, hlt, hc⟩ := h.row hn
  exact ⟨b, off, e, Nat.lt_of_lt_of_le hlt hb.size, fun j hj => (hb.cell (p := ⟨b, off + j, none⟩) hlt).trans (hc j hj)⟩

theorem below_drewN {B : Nat} {a w : World} (h : Below B a w) (n : Nat) : Below B a (w.drewN n) := ⟨h.os, h.tape, h.output, h.size, h.block⟩

theorem Ints.drewN {w : World} {A : Option Addr} {n : Nat} {xs : List Int} (h : Ints w A n xs) (k : Nat) : Ints (w.drewN k) A n xs := h.keep (below_drewN (Below.refl _ _) k)

/-- A length within its capacity. -/
def Cap (n c : Nat) : Prop := n ≤ c ∧ c ≤ 9223372036854775807

/-- A fact kept from the walk. -/
theorem hid {p : Prop} (h : p) : Hid p := h

end Go.Proofs.Ytbcjfiobggggjaa

/-
  A slice that is written out.
-/
namespace Go.Proofs.Ytbcjfiobggggjaa
open Go.RowKit

theorem ints_lit (w : World) (cs : Array Value) (t n : Nat) (xs : List Int) (h : cs = (xs.map (Value.int .i64)).toArray) (hn : xs.length = n) : Ints (w.alloc (.cells cs t)) (some ⟨w.heap.size, 0, none⟩) n xs := by
  subst h
  subst hn
  refine ⟨rfl, fun _ => ⟨w.heap.size, 0, rfl, by simp, fun j hj => ?_⟩⟩
  rw [cell_of_row (w.alloc _) w.heap.size (0 + j) _ t (0, 0) (heap_alloc_new w _)]
  simp [List.getD_eq_getElem?_getD, List.getElem?_eq_getElem hj]

theorem below_alloc (w : World) (o : Obj) : Below w.heap.size w (w.alloc o) := (Below.refl _ _).alloc (Nat.le_refl _) _

theorem below_step {B : Nat} {a b c : World} (h : Below B a b) (hB : B ≤ a.heap.size) (k : Below b.heap.size b c) : Below B a c := h.trans (k.mono (Nat.le_trans hB h.size))

end Go.Proofs.Ytbcjfiobggggjaa

/-
  Rows of ints that come back: words and plain facts.
-/
namespace Go.Proofs.Ytbcjfiobggggjaa
open Go.RowKit

theorem infoInt : (Try.prog.info? 3).map (fun i => (i.zero, i.size, i.bytes)) = some (some (.int .i64 0), 1, 8) := by kernel_rfl

/-- A list and an error come back; nothing that was there has turned. -/
def RetInts (w : World) (ys : List Int) (er : Int) (e : Ending) (w' : World) : Prop :=
  ∃ A n c, e = .returned (.tuple #[.slice A n c, .int .i64 er]) ∧ Below w.heap.size w w' ∧ Ints w' A n ys ∧ Cap n c

theorem ints_of_row {w : World} {g t n : Nat} {f : Nat → Value} {xs : List Int} (h : w.rowIs g t n f) (hl : xs.length = n) (hf : ∀ j, j < n → f j = .int .i64 (xs.getD j 0)) :
    Ints w (some ⟨g, 0, none⟩) n xs :=
  ⟨hl, fun _ => ⟨g, 0, rfl, h.lt, fun j hj => by rw [Nat.zero_add, h.cell hj, hf j hj]⟩⟩

/-- What the product holds after k rounds. -/
def partCell (ys : List Int) (k j : Nat) : Value := if j < k then .int .i64 (ys.getD j 0) else .int .i64 0

theorem partCell_step (ys : List Int) (k j : Nat) : (if j = k then Value.int .i64 (ys.getD k 0) else partCell ys k j) = partCell ys (k + 1) j := by
  unfold partCell
  by_cases h : j = k
  · subst h
    rw [if_pos rfl, if_pos (by omega)]
  · rw [if_neg h]
    by_cases h2 : j < k
    · rw [if_pos h2, if_pos (by omega)]
    · rw [if_neg h2, if_neg (by omega)]

end Go.Proofs.Ytbcjfiobggggjaa

/-
  A slice of ints that the call itself has made, and one append onto it.
-/
namespace Go.Proofs.Ytbcjfiobggggjaa
open Go.RowKit

/-- v is a slice of the call's own (its block from 'base' on), and holds xs. -/
def OwnInts (w : World) (base : Nat) (v : Value) (xs : List Int) : Prop := w.ownsRow base 3 1 v xs.length (xs.map (Value.int .i64))

theorem OwnInts.nil (w : World) (base : Nat) : OwnInts w base (.slice none 0 0) [] := World.ownsRow_nil w base 3 1

theorem OwnInts.form {w : World} {base : Nat} {v : Value} {xs : List Int} (h : OwnInts w base v xs) (hn : 0 < xs.length) :
    ∃ g cap, v = .slice (some ⟨g, 0, none⟩) xs.length cap ∧ base ≤ g ∧ g < w.heap.size ∧ xs.length ≤ cap := by
  rcases h.2 with ⟨_, h0⟩ | ⟨g, cap, cur, hv, hb, hg, hc, _⟩
  · omega
  · exact ⟨g, cap, hv, hb, (Array.getElem?_eq_some_iff.1 hg).1, hc⟩

theorem OwnInts.cell {w : World} {base g cap : Nat} {xs : List Int} (h : OwnInts w base (.slice (some ⟨g, 0, none⟩) xs.length cap) xs) {j : Nat} (hj : j < xs.length) :
    w.cell? ⟨g, j, none⟩ = some (.int .i64 (xs.getD j 0)) := by
  rw [World.ownsRow.cellAt h j (by omega)]
  simp [List.getD_eq_getElem?_getD, List.getElem?_eq_getElem hj]

theorem OwnInts.frozen {w : World} {base g cap : Nat} {xs : List Int} (h : OwnInts w base (.slice (some ⟨g, 0, none⟩) xs.length cap) xs) (j : Nat) : w.frozen? ⟨g, j, none⟩ = false := World.ownsRow.frozenAt h j

theorem OwnInts.set {w : World} {base g n cap : Nat} {xs : List Int} (h : OwnInts w base (.slice (some ⟨g, 0, none⟩) n cap) xs) (hn : n = xs.length) (j : Nat) (x : Int) :
    OwnInts (w.setCell ⟨g, j, none⟩ (.int .i64 x)) base (.slice (some ⟨g, 0, none⟩) n cap) (xs.set j x) := by
  subst hn
  have := (World.ownsRow.stored h j (.int .i64 x)).1
  unfold OwnInts
  rw [List.length_set, List.map_set]
  exact this

theorem OwnInts.drewN {w : World} {base : Nat} {v : Value} {xs : List Int} (h : OwnInts w base v xs) (k : Nat) : OwnInts (w.drewN k) base v xs := h
theorem OwnInts.drew {w : World} {base : Nat} {v : Value} {xs : List Int} (h : OwnInts w base v xs) : OwnInts w.drew base v xs := h

theorem OwnInts.mono {w : World} {base base' : Nat} {v : Value} {xs : List Int} (h : OwnInts w base v xs) (hb : base' ≤ base) : OwnInts w base' v xs := by
  refine ⟨h.1, ?_⟩
  rcases h.2 with h0 | ⟨g, cap, cur, hv, hg, r⟩
  · exact .inl h0
  · exact .inr ⟨g, cap, cur, hv, Nat.le_trans hb hg, r⟩

/-- All that was there stays, so the slice does. -/
theorem OwnInts.keep {w w' : World} {base : Nat} {v : Value} {xs : List Int} (h : OwnInts w base v xs) (hb : Below w.heap.size w w') : OwnInts w' base v xs := by
  refine ⟨h.1, ?_⟩
  rcases h.2 with h0 | ⟨g, cap, cur, hv, hg, hh, r⟩
  · exact .inl h0
  · exact .inr ⟨g, cap, cur, hv, hg, (hb.block g (Array.getElem?_eq_some_iff.1 hh).1).trans hh, r⟩

/-- A block that is known whole, as a slice of the call's own. -/
theorem own_of_rowIs {w : World} {base g n : Nat} {f : Nat → Value} {xs : List Int} (h : w.rowIs g 3 n f) (hl : xs.length = n) (hf : ∀ j, j < n → f j = .int .i64 (xs.getD j 0)) (hb : base ≤ g) (hn : n ≤ maxLen) :
    OwnInts w base (.slice (some ⟨g, 0, none⟩) n n) xs := by
  subst hl
  obtain ⟨c, hg, hc, hat⟩ := h
  refine ⟨by simp, .inr ⟨g, xs.length, c, rfl, hb, hg, Nat.le_refl _, hn, by omega, ?_⟩⟩
  refine List.ext_getElem? fun i => ?_
  rcases Nat.lt_or_ge i xs.length with hi | hi
  · rw [List.getElem?_take, if_pos (by omega), Array.getElem?_toList, hat i hi, hf i hi]
    simp [List.getD_eq_getElem?_getD, hi]
  · rw [List.getElem?_eq_none (by rw [List.length_take]; omega), List.getElem?_eq_none (by simpa using hi)]

/-- A list of the call's own comes back, and an error. -/
def RetOwnE (w : World) (ys : List Int) (er : Int) (e : Ending) (w' : World) : Prop := ∃ v, e = .returned (.tuple #[v, .int .i64 er]) ∧ OwnInts w' w.heap.size v ys ∧ Below w.heap.size w w'

/-- The slice as one that is only read. -/
theorem OwnInts.ints {w : World} {base : Nat} {v : Value} {xs : List Int} (h : OwnInts w base v xs) : ∃ A c, v = .slice A xs.length c ∧ Ints w A xs.length xs ∧ Cap xs.length c := by
  rcases h.2 with ⟨rfl, h0⟩ | ⟨g, cap, cur, rfl, hb, hg, hc1, hc2, _⟩
  · have : xs = [] := List.eq_nil_of_length_eq_zero h0
    subst this
    exact ⟨none, 0, rfl, Ints.nil _ _, Nat.le_refl _, by omega⟩
  · exact ⟨_, _, rfl, ⟨rfl, fun _ => ⟨g, 0, rfl, (Array.getElem?_eq_some_iff.1 hg).1, fun j hj => by rw [Nat.zero_add]; exact OwnInts.cell h hj⟩⟩, hc1, by unfold maxLen at hc2; exact hc2⟩

theorem OwnInts.asInts {w : World} {base : Nat} {A : Option Addr} {n c : Nat} {xs : List Int} (h : OwnInts w base (.slice A n c) xs) : Ints w A n xs ∧ Cap n c := by
  obtain ⟨A', c', e, hI, hc⟩ := h.ints
  injection e with e1 e2 e3
  subst e1
  subst e2
  subst e3
  exact ⟨hI, hc⟩

theorem cell_one (W : World) (y : Int) : ∀ j u, [Value.int .i64 y][j]? = some u → (W.alloc (.cells #[.int .i64 y] 3)).cell? ((⟨W.heap.size, 0, none⟩ : Addr).add j) = some u := by
  intro j u hj
  match j, hj with
  | 0, hj => simp at hj; subst hj; simp [Addr.add]

/-- 'out = append(out, y)', out nil or the call's own: the world has laid y in a block of its own first. -/
theorem wpList_app1 {ops : Array Oper} {rest : List Oper} {o : Oper} {a : Act} {Q : Exit → Act → World → Prop} (W : World) (hgd : o.guard = none) (s x : Operand)
    (ho : o.op = .call { callee := .builtin .append, args := #[s, x], argTypes := #[23, 23] })
    (base : Nat) (v : Value) (xs : List Int) (y : Int) (hs : a.eval s = v) (hx : a.eval x = .slice (some ⟨W.heap.size, 0, none⟩) 1 1) (hown : OwnInts W base v xs)
    (hlen : xs.length ≤ 1000000000000) (hbase : base ≤ W.heap.size)
    (h : ∀ v' w', OwnInts w' base v' (xs ++ [y]) → W.grownBy w' v.ownBlock → Below base W w' → wpList Try.prog ops Q rest (a.put o.dst v') w') :
    wpList Try.prog ops Q (o :: rest) a (W.alloc (.cells #[.int .i64 y] 3)) := by
  obtain ⟨i0, hi, hz0, hz1, hz2⟩ := info_parts infoInt
  refine wpList_append_own _ hgd s x 23 ho base 3 i0 (.int .i64 0) 1 8 Try.underlying23 hi hz0 hz1 hz2 rfl (by decide) v xs.length (xs.map (Value.int .i64)) hs (World.ownsRow.alloc hown _)
    ⟨W.heap.size, 0, none⟩ 1 1 [.int .i64 y] hx rfl (cell_one W y) (by intro u hu; simp at hu; subst hu; rfl) (by unfold maxLen; omega) (by omega) (by simp; omega) ?_
  intro v' w' h1 h2 _
  have hg : W.grownBy w' v.ownBlock := ⟨h2.os, h2.tape, h2.output, Nat.le_trans (by simp) h2.size, fun k hk hne => (h2.block k (by simp; omega) hne).trans (Below.heap_alloc W _ k hk)⟩
  refine h v' w' ?_ hg ?_
  · unfold OwnInts
    simpa using h1
  · refine ⟨hg.os, hg.tape, hg.output, hg.size, fun k hk => hg.block k (by omega) (fun e => ?_)⟩
    have := World.ownsRow.lt hown k e.symm
    omega

end Go.Proofs.Ytbcjfiobggggjaa

/-
  castref.Rest, castkeep.Within; a slice cut short; small plain facts.
-/
namespace Go.Proofs.Ytbcjfiobggggjaa
open Go.RowKit

/-- One lot: the next number is put behind, and changes places. -/
def swapAt (l : List Int) (i j : Nat) : List Int := (l.set i (l.getD j 0)).set j (l.getD i 0)

theorem length_swapAt (l : List Int) (i j : Nat) : (swapAt l i j).length = l.length := by simp [swapAt]

theorem getD_set (l : List Int) (i j : Nat) (x : Int) : (l.set i x).getD j 0 = if j = i ∧ i < l.length then x else l.getD j 0 := by
  simp only [List.getD_eq_getElem?_getD, List.getElem?_set]
  by_cases h : i = j
  · subst h
    by_cases h2 : i < l.length
    · simp [h2]
    · simp [h2]
  · have h' : ¬ j = i := fun e => h e.symm
    simp [h, h']

theorem getD_swapAt {l : List Int} {i j : Nat} (hi : i < l.length) (hj : j < l.length) (k : Nat) :
    (swapAt l i j).getD k 0 = if k = j then l.getD i 0 else if k = i then l.getD j 0 else l.getD k 0 := by
  unfold swapAt
  rw [getD_set, getD_set, List.length_set]
  by_cases h1 : k = j
  · rw [if_pos ⟨h1, hj⟩, if_pos h1]
  · rw [if_neg (fun h => h1 h.1), if_neg h1]
    by_cases h2 : k = i
    · rw [if_pos ⟨h2, hi⟩, if_pos h2]
    · rw [if_neg (fun h => h2 h.1), if_neg h2]

theorem take_snoc {l : List Int} {k : Nat} (hk : k < l.length) : l.take (k + 1) = l.take k ++ [l.getD k 0] := by
  rw [List.take_succ_eq_append_getElem hk, List.getD_eq_getElem?_getD, List.getElem?_eq_getElem hk]
  rfl

theorem ret_int {k : IntKind} {a b : Int} (h : a = b) : Ending.returned (.int k a) = .returned (.int k b) := by rw [h]

theorem emod_of_tmod_neg {x m : Int} (hm : 0 < m) (h : x.tmod m < 0) : x.tmod m + m = x % m := by
  have h1 := Int.tmod_eq_emod (a := x) (b := m)
  have h2 := Int.emod_nonneg x (show m ≠ 0 by omega)
  have h3 := Int.emod_lt_of_pos x hm
  rw [h1] at h ⊢
  split at h
  · omega
  · rename_i hc
    rw [if_neg hc]
    omega

theorem emod_of_tmod_pos {x m : Int} (hm : 0 < m) (h : 0 ≤ x.tmod m) : x.tmod m = x % m := by
  have h1 := Int.tmod_eq_emod (a := x) (b := m)
  have h2 := Int.emod_nonneg x (show m ≠ 0 by omega)
  have h3 := Int.emod_lt_of_pos x hm
  rw [h1] at h ⊢
  split at h
  · rename_i hc
    rw [if_pos hc]
    omega
  · rename_i hc
    rw [if_neg hc]
    omega

set_option maxHeartbeats 400000 in
theorem rest_any (x m : Int) (w : World) (hm : 0 < m) (hm2 : m ≤ 4611686018427387904) :
    Calls Try.prog 54 #[.int .i64 x, .int .i64 m] w fun e w' => e = .returned (.int .i64 (x % m)) ∧ w = w' := by
  have h1 : x.tmod m < m := Int.tmod_lt_of_pos x hm
  have h2 : -m < x.tmod m := by have := Int.lt_tmod_of_pos x hm; omega
  have hne : (m == 0) = false := by simp; omega
  have hw : IntKind.i64.wrap (x.tmod m) = x.tmod m := IntWalk.i64_in _ (by omega)
  by_cases hneg : x.tmod m < 0
  · have HE := hid (emod_of_tmod_neg hm hneg)
    generalize hr : x.tmod m = r at *
    go_enter Try.func54, Try.ntmps54
    go_wp2
    go_ret
    exact ⟨ret_int HE.out, rfl⟩
  · have hpos : 0 ≤ x.tmod m := by omega
    have HE := hid (emod_of_tmod_pos hm hpos)
    clear hneg
    generalize hr : x.tmod m = r at *
    go_enter Try.func54, Try.ntmps54
    go_wp2
    go_ret
    exact ⟨ret_int HE.out, rfl⟩

set_option maxHeartbeats 400000 in
theorem within_any (x m : Int) (w : World) (hm : 0 < m) (hm2 : m ≤ 4611686018427387904) :
    Calls Try.prog 20 #[.int .i64 x, .int .i64 m] w fun e w' => e = .returned (.int .i64 (x % m)) ∧ w = w' := by
  go_enter Try.func20, Try.ntmps20
  go_wp2_with fail
  refine (rest_any x m _ hm hm2).mono ?_
  rintro e w' ⟨rfl, rfl⟩
  go_wp2
  go_ret
  exact ⟨rfl, rfl⟩

def RetOwn (w : World) (ys : List Int) (e : Ending) (w' : World) : Prop := ∃ v, e = .returned v ∧ OwnInts w' w.heap.size v ys ∧ Below w.heap.size w w'

theorem Ints.take {w : World} {A : Option Addr} {n m : Nat} {xs : List Int} (h : Ints w A n xs) (hm : m ≤ n) : Ints w A m (xs.take m) := by
  refine ⟨by rw [List.length_take, h.len]; omega, fun hp => ?_⟩
  obtain ⟨b, o, e, hb, hc⟩ := h.row (by omega)
  refine ⟨b, o, e, hb, fun j hj => ?_⟩
  rw [hc j (by omega)]
  simp [List.getD_eq_getElem?_getD, hj]

theorem ext_getD {xs ys : List Int} (hl : xs.length = ys.length) (h : ∀ j, j < xs.length → xs.getD j 0 = ys.getD j 0) : xs = ys := by
  apply List.ext_getElem hl
  intro i h1 h2
  have := h i h1
  simpa [List.getD_eq_getElem?_getD, List.getElem?_eq_getElem h1, List.getElem?_eq_getElem h2] using this

theorem only_drewN {a w : World} {row : Option Nat} (h : a.grownBy w row) (n : Nat) : a.grownBy (w.drewN n) row := ⟨h.os, h.tape, h.output, h.size, h.block⟩

theorem only_refl (a : World) (row : Option Nat) : a.grownBy a row := ⟨rfl, rfl, rfl, Nat.le_refl _, fun _ _ _ => rfl⟩

theorem only_set {a w : World} {g : Nat} (h : a.grownBy w (some g)) (j : Nat) (u : Value) : a.grownBy (w.setCell ⟨g, j, none⟩ u) (some g) :=
  ⟨h.os, h.tape, h.output, by simpa [World.setCell] using h.size, fun i hi hne => (Below.heap_setCell w ⟨g, j, none⟩ u i (by
    rintro rfl
    exact hne rfl)).trans (h.block i hi hne)⟩

end Go.Proofs.Ytbcjfiobggggjaa

/-
  Plain facts on lists of numbers: permutations of 0 .. n-1. No program, no memory.
-/
namespace Go.Proofs.Ytbcjfiobggggjaa

theorem perm_of_nodup_subset {α : Type} [DecidableEq α] : ∀ {l l' : List α}, l.Nodup → (∀ x, x ∈ l → x ∈ l') → l'.length ≤ l.length → l'.Perm l
  | [], l', _, _, hl => by
    have : l' = [] := List.eq_nil_of_length_eq_zero (by simpa using hl)
    subst this
    exact List.Perm.refl _
  | a :: t, l', hn, hs, hl => by
    have ha : a ∈ l' := hs a (by simp)
    have hn' := List.nodup_cons.1 hn
    have h1 : l'.Perm (a :: l'.erase a) := List.perm_cons_erase ha
    have h2 : (l'.erase a).Perm t := by
      refine perm_of_nodup_subset hn'.2 (fun x hx => ?_) ?_
      · have hne : x ≠ a := fun e => hn'.1 (e ▸ hx)
        exact (List.mem_erase_of_ne hne).2 (hs x (by simp [hx]))
      · have := List.length_erase_of_mem ha
        have hpos : 0 < l'.length := List.length_pos_of_mem ha
        simp only [List.length_cons] at hl
        omega
    exact h1.trans (h2.cons a)

/-- 0, 1, .., n-1. -/
def iota (n : Nat) : List Int := (List.range n).map (fun i : Nat => (i : Int))

theorem length_iota (n : Nat) : (iota n).length = n := by simp [iota]
theorem mem_iota {n : Nat} {x : Int} : x ∈ iota n ↔ 0 ≤ x ∧ x < n := by
  simp only [iota, List.mem_map, List.mem_range]
  constructor
  · rintro ⟨i, hi, rfl⟩; omega
  · rintro ⟨h0, h1⟩; exact ⟨x.toNat, by omega, by omega⟩
theorem nodup_iota (n : Nat) : (iota n).Nodup := by
  unfold iota
  rw [List.nodup_iff_pairwise_ne, List.pairwise_map]
  have h := List.nodup_range (n := n)
  rw [List.nodup_iff_pairwise_ne] at h
  exact h.imp (fun hab e => hab (by omega))
theorem getD_iota {n i : Nat} (h : i < n) : (iota n).getD i 0 = (i : Int) := by
  simp [iota, List.getD_eq_getElem?_getD, h]

/-- A list that holds each of 0 .. n-1 once. -/
def IsPerm (xs : List Int) : Prop := xs.Perm (iota xs.length)

theorem isPerm_of_all {xs : List Int} (h : ∀ i : Nat, i < xs.length → (i : Int) ∈ xs) : IsPerm xs :=
  perm_of_nodup_subset (nodup_iota _) (fun x hx => by
    have := mem_iota.1 hx
    have h' := h x.toNat (by omega)
    rwa [show ((x.toNat : Nat) : Int) = x by omega] at h') (by rw [length_iota]; exact Nat.le_refl _)

theorem IsPerm.all {xs : List Int} (h : IsPerm xs) (i : Nat) (hi : i < xs.length) : (i : Int) ∈ xs :=
  h.mem_iff.2 (mem_iota.2 ⟨by omega, by omega⟩)
theorem IsPerm.range {xs : List Int} (h : IsPerm xs) {x : Int} (hx : x ∈ xs) : 0 ≤ x ∧ x < xs.length := mem_iota.1 (h.mem_iff.1 hx)
theorem IsPerm.nodup {xs : List Int} (h : IsPerm xs) : xs.Nodup := h.nodup_iff.2 (nodup_iota _)

theorem isPerm_of_nodup {xs : List Int} (hn : xs.Nodup) (hr : ∀ x, x ∈ xs → 0 ≤ x ∧ x < xs.length) : IsPerm xs :=
  (perm_of_nodup_subset hn (fun x hx => mem_iota.2 (hr x hx)) (by rw [length_iota]; exact Nat.le_refl _)).symm

theorem getD_mem {xs : List Int} {i : Nat} (h : i < xs.length) : xs.getD i 0 ∈ xs := by
  rw [List.getD_eq_getElem?_getD, List.getElem?_eq_getElem h]
  exact List.getElem_mem h
theorem mem_getD {xs : List Int} {x : Int} (h : x ∈ xs) : ∃ i, i < xs.length ∧ xs.getD i 0 = x := by
  obtain ⟨i, hi, e⟩ := List.getElem_of_mem h
  exact ⟨i, hi, by rw [List.getD_eq_getElem?_getD, List.getElem?_eq_getElem hi]; exact e⟩

theorem mem_take_iff {xs : List Int} {k : Nat} {x : Int} : x ∈ xs.take k ↔ ∃ i, i < k ∧ i < xs.length ∧ xs.getD i 0 = x := by
  constructor
  · intro h
    obtain ⟨i, hi, e⟩ := mem_getD h
    have hl := List.length_take (i := k) (l := xs)
    refine ⟨i, by omega, by omega, ?_⟩
    rw [← e]
    simp only [List.getD_eq_getElem?_getD, List.getElem?_take]
    rw [if_pos (by omega)]
  · rintro ⟨i, hk, hi, rfl⟩
    have h : (xs.take k).getD i 0 = xs.getD i 0 := by
      simp only [List.getD_eq_getElem?_getD, List.getElem?_take]
      rw [if_pos hk]
    rw [← h]
    exact getD_mem (by rw [List.length_take]; omega)

theorem nodup_iff_getD {xs : List Int} : xs.Nodup ↔ ∀ i j, i < j → j < xs.length → xs.getD i 0 ≠ xs.getD j 0 := by
  rw [List.nodup_iff_pairwise_ne, List.pairwise_iff_getElem]
  constructor
  · intro h i j hij hj
    have := h i j (by omega) hj hij
    simpa [List.getD_eq_getElem?_getD, List.getElem?_eq_getElem (show i < xs.length by omega), List.getElem?_eq_getElem hj] using this
  · intro h i j hi hj hij
    have := h i j hij hj
    simpa [List.getD_eq_getElem?_getD, List.getElem?_eq_getElem hi, List.getElem?_eq_getElem hj] using this

/-- What Check finds good, number by number. -/
theorem isPerm_of_steps {xs : List Int} (h : ∀ k, k < xs.length → 0 ≤ xs.getD k 0 ∧ xs.getD k 0 < xs.length ∧ xs.getD k 0 ∉ xs.take k) : IsPerm xs := by
  refine isPerm_of_nodup (nodup_iff_getD.2 fun i j hij hj e => ?_) fun x hx => ?_
  · exact (h j hj).2.2 (mem_take_iff.2 ⟨i, hij, by omega, e⟩)
  · obtain ⟨i, hi, rfl⟩ := mem_getD hx
    exact ⟨(h i hi).1, (h i hi).2.1⟩

theorem not_isPerm_of_step {xs : List Int} {k : Nat} (hk : k < xs.length) (h : xs.getD k 0 < 0 ∨ (xs.length : Int) ≤ xs.getD k 0 ∨ xs.getD k 0 ∈ xs.take k) : ¬ IsPerm xs := by
  intro hp
  have hr := hp.range (getD_mem hk)
  rcases h with h | h | h
  · omega
  · omega
  · obtain ⟨i, hik, hi, e⟩ := mem_take_iff.1 h
    exact nodup_iff_getD.1 hp.nodup i k hik hk e

instance (xs : List Int) : Decidable (IsPerm xs) :=
  if h : ∀ i, i < xs.length → (i : Int) ∈ xs then isTrue (isPerm_of_all h) else isFalse (fun hp => h hp.all)

/-- P3: the error of a list. -/
def permErr (xs : List Int) : Int := if 10 < xs.length then 2 else if IsPerm xs then 0 else 3

theorem permErr_bad {xs : List Int} (hl : xs.length ≤ 10) (h : ¬ IsPerm xs) : permErr xs = 3 := by
  unfold permErr
  rw [if_neg (by omega), if_neg h]

theorem permErr_ok {xs : List Int} : permErr xs = 0 ↔ xs.length ≤ 10 ∧ IsPerm xs := by
  unfold permErr
  split
  · constructor
    · intro h; cases h
    · intro h; omega
  · rename_i h1
    split
    · rename_i h2
      exact ⟨fun _ => ⟨by omega, h2⟩, fun _ => rfl⟩
    · rename_i h2
      exact ⟨(fun h => by cases h), fun h => absurd h.2 h2⟩

end Go.Proofs.Ytbcjfiobggggjaa

/-
  castkeep.good: true just where all of its errors are OK.
-/
namespace Go.Proofs.Ytbcjfiobggggjaa
open Go.RowKit

set_option maxHeartbeats 400000 in
theorem good1_any (x : Int) (w : World) : Calls Try.prog 57 #[.int .i64 x] w fun e w' => e = .returned (.bool (x != 0)) ∧ w = w' := by
  go_enter Try.func57, Try.ntmps57
  go_wp2
  go_ret
  exact ⟨rfl, rfl⟩

def allOK (l : List Int) : Bool := l.all (fun x => x == 0)
theorem allOK_true {l : List Int} : allOK l = true ↔ ∀ i, i < l.length → l.getD i 0 = 0 := by
  simp only [allOK, List.all_eq_true, beq_iff_eq]
  constructor
  · intro h i hi
    exact h _ (getD_mem hi)
  · intro h x hx
    obtain ⟨i, hi, rfl⟩ := mem_getD hx
    exact h i hi

def IdxGood (l : List Int) (w : World) (e : Ending) (w' : World) : Prop := ∃ r : Int, e = .returned (.int .i64 r) ∧ decide (0 ≤ r) = !(allOK l) ∧ w = w'

set_option maxHeartbeats 800000 in
theorem indexFunc_good (A : Option Addr) (n c : Nat) (l : List Int) (w : World) (h : Ints w A n l) (hn : n ≤ 1000000) :
    Calls Try.prog 79 #[.slice A n c, .func (.func 57) #[] #[]] w (IdxGood l w) := by
  go_enter Try.func79, Try.ntmps79
  go_wp2
  go_loopg [8] n (fun g s wr => ∃ k : Nat, k ≤ n ∧ n - k ≤ g ∧ s = .int .i64 k ∧ w = wr ∧ ∀ j, j < k → l.getD j 0 = 0)
  case atStart => exact ⟨0, Nat.zero_le _, by omega, rfl, rfl, fun j hj => absurd hj (Nat.not_lt_zero _)⟩
  case round =>
    obtain ⟨k, hk, hg, rfl, rfl, hall⟩ := hrel
    have HA := hid hall
    clear hall
    by_cases hlt : k < n
    · obtain ⟨b, o, rfl, hb, hc⟩ := h.row (by omega)
      have g1 := hc k hlt
      have HL := hid h.len
      clear hc h
      generalize hx : l.getD k 0 = x at g1
      have HX := hid hx
      clear hx
      by_cases hz : x = 0
      · subst hz
        go_wp2_with (go_at_call 57; refine (good1_any _ _).mono ?_; rintro e w' ⟨rfl, rfl⟩)
        go_roundg (n - (k + 1))
        case measure => omega
        case rel =>
          refine ⟨k + 1, by omega, by omega, by go_num, rfl, fun j hj => ?_⟩
          by_cases e : j = k
          · subst e
            exact HX.out
          · exact HA.out j (by omega)
      · have hz' : (x != 0) = true := by simpa using hz
        go_wp2_with (go_at_call 57; refine (good1_any _ _).mono ?_; rintro e w' ⟨rfl, rfl⟩)
        go_ret
        have HS : allOK l = false := by
          rw [Bool.eq_false_iff]
          intro e
          exact hz (HX.out.symm.trans (allOK_true.1 e k (by rw [HL.out]; exact hlt)))
        exact ⟨_, rfl, by rw [HS]; simp, rfl⟩
    · go_wp2
      go_ret
      have HS : allOK l = true := allOK_true.2 fun i hi => HA.out i (by rw [h.len] at hi; omega)
      exact ⟨_, rfl, by rw [HS]; rfl, rfl⟩

set_option maxHeartbeats 800000 in
theorem containsFunc_good (A : Option Addr) (n c : Nat) (l : List Int) (w : World) (h : Ints w A n l) (hn : n ≤ 1000000) :
    Calls Try.prog 56 #[.slice A n c, .func (.func 57) #[] #[]] w fun e w' => e = .returned (.bool (!(allOK l))) ∧ w = w' := by
  go_enter Try.func56, Try.ntmps56
  go_wp2_with fail
  refine (indexFunc_good A n c l _ h hn).mono ?_
  rintro e w' ⟨r, rfl, hr, rfl⟩
  go_wp2
  go_ret
  exact ⟨rfl, rfl⟩

set_option maxHeartbeats 800000 in
theorem good_any (A : Option Addr) (n c : Nat) (l : List Int) (w : World) (h : Ints w A n l) (hn : n ≤ 1000000) :
    Calls Try.prog 23 #[.slice A n c] w fun e w' => e = .returned (.bool (allOK l)) ∧ w = w' := by
  go_enter Try.func23, Try.ntmps23
  go_wp2_with fail
  refine (containsFunc_good A n c l _ h hn).mono ?_
  rintro e w' ⟨rfl, rfl⟩
  go_wp2
  go_ret
  exact ⟨by simp, rfl⟩

end Go.Proofs.Ytbcjfiobggggjaa

/-
  slices.Equal at []int: two slices are equal just where their lists are.
-/
namespace Go.Proofs.Ytbcjfiobggggjaa
open Go.RowKit

theorem getD_take_eq {xs ys : List Int} {n : Nat} (hx : xs.length = n) (hy : ys.length = n) (h : ∀ j, j < n → xs.getD j 0 = ys.getD j 0) : xs = ys := by
  apply List.ext_getElem (by omega)
  intro i h1 h2
  have := h i (by omega)
  simpa [List.getD_eq_getElem?_getD, List.getElem?_eq_getElem h1, List.getElem?_eq_getElem h2] using this

set_option maxHeartbeats 400000 in
theorem equal_any (A1 : Option Addr) (n c : Nat) (A2 : Option Addr) (m d : Nat) (xs ys : List Int) (w : World) (h1 : Ints w A1 n xs) (h2 : Ints w A2 m ys) (hn : n ≤ 1000000) (hm : m ≤ 1000000) :
    Calls Try.prog 15 #[.slice A1 n c, .slice A2 m d] w fun e w' => e = .returned (.bool (decide (xs = ys))) ∧ ∃ q, w' = w.drewN q := by
  by_cases hnm : n = m
  · subst hnm
    go_enter Try.func15, Try.ntmps15
    go_wp2
    go_loopg [13] n (fun g s13 wr => ∃ k q : Nat, k ≤ n ∧ n - k ≤ g ∧ s13 = .int .i64 k ∧ wr = w.drewN q ∧ ∀ j, j < k → xs.getD j 0 = ys.getD j 0)
    case atStart => exact ⟨0, 0, Nat.zero_le _, by omega, rfl, rfl, fun j hj => absurd hj (Nat.not_lt_zero _)⟩
    case round =>
      obtain ⟨k, q, hk, hg, rfl, rfl, heq⟩ := hrel
      have HE := hid heq
      clear heq
      by_cases hlt : k < n
      · obtain ⟨b1, o1, rfl, _, hc1⟩ := h1.row (by omega)
        obtain ⟨b2, o2, rfl, _, hc2⟩ := h2.row (by omega)
        have g1 := hc1 k hlt
        have g2 := hc2 k hlt
        clear hc1 hc2
        generalize hxk : xs.getD k 0 = x at g1
        generalize hyk : ys.getD k 0 = y at g2
        have HX := hid hxk
        have HY := hid hyk
        clear hxk hyk
        by_cases hxy : x = y
        · subst hxy
          go_wp2_with fail
          go_region
          go_wp2
          go_roundg (n - (k + 1))
          case measure => omega
          case rel =>
            refine ⟨k + 1, q + 1, by omega, by omega, by go_num, rfl, fun j hj => ?_⟩
            by_cases e : j = k
            · subst e
              rw [HX.out, HY.out]
            · exact HE.out j (by omega)
        · go_wp2_with fail
          go_region
          go_wp2
          go_ret
          have hd : decide (xs = ys) = false := decide_eq_false (fun e => by subst e; exact hxy (HX.out.symm.trans HY.out))
          rw [hd]
          exact ⟨rfl, q + 1, rfl⟩
      · have hkn : k = n := by omega
        subst hkn
        go_wp2
        go_ret
        rw [decide_eq_true (getD_take_eq h1.len h2.len HE.out)]
        exact ⟨rfl, q, rfl⟩
  · have hnm' : ¬ (n : Int) = (m : Int) := by omega
    go_enter Try.func15, Try.ntmps15
    go_wp2
    go_ret
    have hd : decide (xs = ys) = false := decide_eq_false (fun e => by subst e; exact hnm (h1.len.symm.trans h2.len))
    rw [hd]
    exact ⟨rfl, 0, rfl⟩

end Go.Proofs.Ytbcjfiobggggjaa

/-
  The library's slices.IsSorted at []int; the verifier's castkeep.good.
-/
namespace Go.Proofs.Ytbcjfiobggggjaa
open Go.RowKit

set_option maxHeartbeats 400000 in
theorem isNaN_any (x : Int) (w : World) : Calls Try.prog 80 #[.int .i64 x] w fun e w' => e = .returned (.bool false) ∧ w = w' := by
  have hx : (x != x) = false := by simp
  go_enter Try.func80, Try.ntmps80
  go_wp2
  go_ret
  exact ⟨rfl, rfl⟩

set_option maxHeartbeats 400000 in
theorem less_any (x y : Int) (w : World) : Calls Try.prog 87 #[.int .i64 x, .int .i64 y] w fun e w' => e = .returned (.bool (decide (x < y))) ∧ w = w' := by
  go_enter Try.func87, Try.ntmps87
  go_wp2_with (go_at_call 80; refine (isNaN_any _ _).mono ?_; rintro e w' ⟨rfl, rfl⟩)
  go_ret
  exact ⟨rfl, rfl⟩

/-- Does no number fall? -/
def sortedB (xs : List Int) : Bool := (List.range (xs.length - 1)).all (fun i => decide (xs.getD i 0 ≤ xs.getD (i + 1) 0))

theorem sortedB_true {xs : List Int} : sortedB xs = true ↔ ∀ i, i + 1 < xs.length → xs.getD i 0 ≤ xs.getD (i + 1) 0 := by
  simp only [sortedB, List.all_eq_true, List.mem_range, decide_eq_true_eq]
  exact ⟨fun h i hi => h i (by omega), fun h i hi => h i (by omega)⟩

theorem quiet_left {P : Program} {f : FuncId} {args : Array Value} {w : World} {v : Value} (h : Calls P f args w fun e w' => e = .returned v ∧ w = w') : Calls P f args w fun e w'' => e = .returned v ∧ w'' = w :=
  h.mono fun _ _ ⟨he, hw⟩ => ⟨he, hw.symm⟩

set_option maxHeartbeats 800000 in
theorem isSorted_any (A : Option Addr) (n c : Nat) (xs : List Int) (w : World) (h : Ints w A n xs) (hn : n ≤ 1000000) :
    Calls Try.prog 94 #[.slice A n c] w fun e w' => e = .returned (.bool (sortedB xs)) ∧ ∃ q, w' = w.drewN q := by
  go_enter Try.func94, Try.ntmps94
  go_wp2
  go_loopg [3] n (fun g s wr => ∃ (k : Int) (q : Nat), -1 ≤ k ∧ k ≤ (n : Int) - 1 ∧ k + 1 ≤ g ∧ s = .int .i64 k ∧ wr = w.drewN q ∧ ∀ i : Nat, k ≤ i → i + 1 < n → xs.getD i 0 ≤ xs.getD (i + 1) 0)
  case atStart => exact ⟨_, 0, by omega, by omega, by omega, rfl, rfl, fun i h1 h2 => by omega⟩
  case round =>
    obtain ⟨k, q, hk0, hk1, hg, rfl, hwr0, hall⟩ := hrel
    have HA := hid hall
    have HQ := hid hwr0
    clear hall hwr0
    by_cases hpos : 0 < k
    · obtain ⟨j, m, rfl, hjm⟩ : ∃ j m : Nat, k = (j : Int) ∧ j = m + 1 := ⟨k.toNat, (k - 1).toNat, by omega, by omega⟩
      have hjn : j < n := by omega
      have hmn : m < n := by omega
      have hwr : IntKind.i64.wrap ((j : Int) - 1) = (m : Int) := by rw [IntWalk.i64_in _ (by omega)]; omega
      obtain ⟨b, o, rfl, hb, hc⟩ := h.row (by omega)
      have g1 : wr.cell? ⟨b, o + j, none⟩ = some (.int .i64 (xs.getD j 0)) := by rw [HQ.out]; exact hc j (by omega)
      have g2 : wr.cell? ⟨b, o + m, none⟩ = some (.int .i64 (xs.getD m 0)) := by rw [HQ.out]; exact hc m (by omega)
      have hjN : (j : Int) < (n : Int) := by omega
      have hmN : (m : Int) < (n : Int) := by omega
      have HJ := hid hjm
      clear hjm
      have HL := hid h.len
      clear hc h
      generalize hx : xs.getD j 0 = x at g1
      generalize hy : xs.getD m 0 = y at g2
      have HX := hid hx
      have HY := hid hy
      clear hx hy
      by_cases hlt : x < y
      · have hd : decide (x < y) = true := by simpa using hlt
        go_wp2_with fail
        go_quiet ((go_at_call 87; exact Calls.quiet_of_same (quiet_left (less_any _ _ _))))
        go_wp2
        go_ret
        have HS : sortedB xs = false := by
          rw [Bool.eq_false_iff]
          intro e
          have := sortedB_true.1 e m (by rw [HL.out, ← HJ.out]; exact hjn)
          rw [← HJ.out, HX.out, HY.out] at this
          omega
        rw [HS]
        exact ⟨rfl, _, by rw [HQ.out, World.drewN_drewN]⟩
      · have hd : decide (x < y) = false := by simpa using hlt
        go_wp2_with fail
        go_quiet ((go_at_call 87; exact Calls.quiet_of_same (quiet_left (less_any _ _ _))))
        go_wp2
        have hjm := HJ.out
        go_roundg (m + 1)
        case measure => omega
        case rel =>
          refine ⟨m, _, by omega, by omega, by omega, by go_num, by rw [HQ.out, World.drewN_drewN], fun i h1 h2 => ?_⟩
          by_cases e : i = m
          · subst e
            rw [← hjm, HX.out, HY.out]
            omega
          · exact HA.out i (by omega) h2
    · go_wp2
      go_ret
      have HS : sortedB xs = true := sortedB_true.2 fun i hi => HA.out i (by omega) (by rw [← h.len]; exact hi)
      rw [HS]
      exact ⟨rfl, _, HQ.out⟩

end Go.Proofs.Ytbcjfiobggggjaa

/-
  Several slices known at once; what a law over lists takes and gives.
-/
namespace Go.Proofs.Ytbcjfiobggggjaa
open Go.RowKit

/-- All of these slices are known in the world w. -/
def All (w : World) : List (Option Addr × Nat × List Int) → Prop
  | [] => True
  | x :: L => Ints w x.1 x.2.1 x.2.2 ∧ All w L

theorem All.keep {w w' : World} (hb : Below w.heap.size w w') : ∀ {L : List (Option Addr × Nat × List Int)}, All w L → All w' L
  | [], _ => trivial
  | _ :: _, h => ⟨h.1.keep hb, All.keep hb h.2⟩

/-- A slice of ints that came in. -/
def IsRow (k : IntKind) (w : World) (a : Option Addr) (len cap : Nat) (zs : List Int) : Prop :=
  (a = none ∧ len = 0 ∧ cap = 0 ∧ zs = []) ∨
  ∃ x, a = some x ∧ len ≤ cap ∧ cap ≤ maxLen ∧ zs.length = cap ∧ (∀ i, i < zs.length → w.cell? (x.add i) = some (.int k (zs.getD i 0))) ∧ ∀ n ∈ zs, (Lit.int k n).wf = true

theorem block_lt_of_cell {w : World} {a : Addr} {v : Value} (h : w.cell? a = some v) : a.block < w.heap.size := World.block_lt_of_cell? w a h

theorem IsRow.ints {w : World} {a : Option Addr} {len cap : Nat} {zs : List Int} (h : IsRow .i64 w a len cap zs) : Ints w a len (zs.take len) ∧ len ≤ cap ∧ cap ≤ maxLen := by
  rcases h with ⟨rfl, rfl, rfl, rfl⟩ | ⟨⟨b, off, sp⟩, rfl, hl, hm, hz, hcell, _⟩
  · exact ⟨Ints.nil _ _, Nat.le_refl _, Nat.zero_le _⟩
  · refine ⟨⟨by rw [List.length_take]; omega, fun hp => ?_⟩, hl, hm⟩
    have h0 := hcell 0 (by omega)
    have hsp : sp = none := by simpa [Addr.add] using World.cell?_spot h0
    subst hsp
    refine ⟨b, off, rfl, ?_, fun j hj => ?_⟩
    · have := block_lt_of_cell h0
      simpa [Addr.add] using this
    · have h1 := hcell j (by omega)
      have ha : (⟨b, off, none⟩ : Addr).add j = ⟨b, off + j, none⟩ := by unfold Addr.add; split <;> simp_all
      rw [ha] at h1
      rw [h1]
      simp [List.getD_eq_getElem?_getD, hj]

/-- min(x, y, 10). -/
theorem run_min3 {P : Program} (x y m : Nat) (hm : m = min (min x y) 10) (ts : Array TypeId) (t : TypeId) (W : World) :
    (Builtin.min_ ts t #[.int .i64 (x : Int), .int .i64 (y : Int), .int .i64 10]).run P W = .ok (.int .i64 (m : Int)) W := by
  have e : (if (10 : Int) < (if (y : Int) < x then (y : Int) else x) then (10 : Int) else (if (y : Int) < x then (y : Int) else x)) = (m : Int) := by
    subst hm
    split <;> split at * <;> omega
  simp only [Builtin.min_, Builtin.min2, List.foldlM_cons, List.foldlM_nil, pure_bind]
  simp only [e]
  rfl

/-- min(x, y, z, 10). -/
theorem run_min4 {P : Program} (x y z m : Nat) (hm : m = min (min (min x y) z) 10) (ts : Array TypeId) (t : TypeId) (W : World) :
    (Builtin.min_ ts t #[.int .i64 (x : Int), .int .i64 (y : Int), .int .i64 (z : Int), .int .i64 10]).run P W = .ok (.int .i64 (m : Int)) W := by
  have e1 : (if (z : Int) < (if (y : Int) < x then (y : Int) else x) then (z : Int) else (if (y : Int) < x then (y : Int) else x)) = ((min (min x y) z : Nat) : Int) := by
    split <;> split at * <;> omega
  have e : (if (10 : Int) < ((min (min x y) z : Nat) : Int) then (10 : Int) else ((min (min x y) z : Nat) : Int)) = (m : Int) := by
    subst hm
    split <;> omega
  simp only [Builtin.min_, Builtin.min2, List.foldlM_cons, List.foldlM_nil, pure_bind]
  simp only [e1, e]
  rfl

theorem equal_bel (A1 : Option Addr) (n c : Nat) (A2 : Option Addr) (m d : Nat) (xs ys : List Int) (w : World) (h1 : Ints w A1 n xs) (h2 : Ints w A2 m ys) (hn : n ≤ 1000000) (hm : m ≤ 1000000) :
    Calls Try.prog 15 #[.slice A1 n c, .slice A2 m d] w fun e w' => e = .returned (.bool (decide (xs = ys))) ∧ Below w.heap.size w w' :=
  (equal_any A1 n c A2 m d xs ys w h1 h2 hn hm).mono fun _ _ ⟨he, q, hq⟩ => ⟨he, by rw [hq]; exact below_drewN (Below.refl _ _) q⟩

theorem isSorted_bel (A : Option Addr) (n c : Nat) (xs : List Int) (w : World) (h : Ints w A n xs) (hn : n ≤ 1000000) :
    Calls Try.prog 94 #[.slice A n c] w fun e w' => e = .returned (.bool (sortedB xs)) ∧ Below w.heap.size w w' :=
  (isSorted_any A n c xs w h hn).mono fun _ _ ⟨he, q, hq⟩ => ⟨he, by rw [hq]; exact below_drewN (Below.refl _ _) q⟩

theorem good_bel (w : World) (cs : Array Value) (t n : Nat) (l : List Int) (h : cs = (l.map (Value.int .i64)).toArray) (hn : l.length = n) (hs : n ≤ 1000000) :
    Calls Try.prog 23 #[.slice (some ⟨w.heap.size, 0, none⟩) n n] (w.alloc (.cells cs t)) fun e w' => e = .returned (.bool (allOK l)) ∧ Below w.heap.size w w' :=
  (good_any _ n n l _ (ints_lit w cs t n l h hn) hs).mono fun _ _ ⟨he, hw⟩ => ⟨he, by rw [← hw]; exact below_alloc _ _⟩

end Go.Proofs.Ytbcjfiobggggjaa

/-
  slices.Clone at []int: the same numbers in new memory.
-/
namespace Go.Proofs.Ytbcjfiobggggjaa
open Go.RowKit

theorem cells_of_ints {w : World} {ad : Addr} {n : Nat} {xs : List Int} (h : Ints w (some ad) n xs) : ∀ j u, (xs.map (Value.int .i64))[j]? = some u → w.cell? (ad.add j) = some u := by
  intro j u hu
  have hj : j < xs.length := by
    rcases Nat.lt_or_ge j xs.length with hlt | hge
    · exact hlt
    · rw [List.getElem?_eq_none (by simpa using hge)] at hu
      cases hu
  obtain ⟨b, o, e, _, hc⟩ := h.row (by rw [← h.len]; omega)
  injection e with e
  subst e
  have ha : (⟨b, o, none⟩ : Addr).add j = ⟨b, o + j, none⟩ := by unfold Addr.add; split <;> simp_all
  rw [ha, hc j (by rw [← h.len]; exact hj)]
  rw [List.getElem?_map, List.getElem?_eq_getElem hj] at hu
  rw [List.getD_eq_getElem?_getD, List.getElem?_eq_getElem hj]
  exact hu

/-- 'out = append(out, xs...)', out the call's own, xs not nil. -/
theorem wpList_appNB {ops : Array Oper} {rest : List Oper} {o : Oper} {a : Act} {Q : Exit → Act → World → Prop} (W : World) (hgd : o.guard = none) (s x : Operand)
    (ho : o.op = .call { callee := .builtin .append, args := #[s, x], argTypes := #[23, 23] })
    (base : Nat) (v : Value) (xs : List Int) (hs : a.eval s = v) (ad : Addr) (n c : Nat) (ys : List Int) (hx : a.eval x = .slice (some ad) n c) (hown : OwnInts W base v xs) (hI : Ints W (some ad) n ys)
    (hlen : xs.length + n ≤ 17592186044416) (hbase : base ≤ W.heap.size)
    (h : ∀ v' w', OwnInts w' base v' (xs ++ ys) → W.grownBy w' v.ownBlock → Below base W w' → wpList Try.prog ops Q rest (a.put o.dst v') w') :
    wpList Try.prog ops Q (o :: rest) a W := by
  obtain ⟨i0, hi, hz0, hz1, hz2⟩ := info_parts infoInt
  refine wpList_append_own _ hgd s x 23 ho base 3 i0 (.int .i64 0) 1 8 Try.underlying23 hi hz0 hz1 hz2 rfl (by decide) v xs.length (xs.map (Value.int .i64)) hs hown
    ad n c (ys.map (Value.int .i64)) hx (by rw [List.length_map, hI.len, Nat.mul_one]) (cells_of_ints hI) (by intro u hu; obtain ⟨y, _, rfl⟩ := List.mem_map.1 hu; rfl) (by unfold maxLen; omega) (by omega) hbase ?_
  intro v' w' h1 h2 _
  refine h v' w' ?_ h2 ?_
  · unfold OwnInts
    rw [List.length_append, List.map_append, hI.len]
    exact h1
  · refine ⟨h2.os, h2.tape, h2.output, h2.size, fun k hk => h2.block k (by omega) (fun e => ?_)⟩
    have := World.ownsRow.lt hown k e.symm
    omega

theorem wpList_appN {ops : Array Oper} {rest : List Oper} {o : Oper} {a : Act} {Q : Exit → Act → World → Prop} (W : World) (hgd : o.guard = none) (s x : Operand)
    (ho : o.op = .call { callee := .builtin .append, args := #[s, x], argTypes := #[23, 23] })
    (base : Nat) (v : Value) (xs : List Int) (hs : a.eval s = v) (ad : Addr) (n c : Nat) (ys : List Int) (hx : a.eval x = .slice (some ad) n c) (hown : OwnInts W base v xs) (hI : Ints W (some ad) n ys)
    (hlen : xs.length + n ≤ 1000000000000) (hbase : base ≤ W.heap.size)
    (h : ∀ v' w', OwnInts w' base v' (xs ++ ys) → W.grownBy w' v.ownBlock → Below base W w' → wpList Try.prog ops Q rest (a.put o.dst v') w') :
    wpList Try.prog ops Q (o :: rest) a W := wpList_appNB W hgd s x ho base v xs hs ad n c ys hx hown hI (Nat.le_trans hlen (by omega)) hbase h

set_option maxHeartbeats 800000 in
theorem clone_big (A : Option Addr) (n c : Nat) (xs : List Int) (w : World) (h : Ints w A n xs) (hn : n ≤ 17592186044416) :
    Calls Try.prog 30 #[.slice A n c] w (RetOwn w xs) := by
  rcases A with _ | ad
  · have hn0 : n = 0 := by
      rcases Nat.eq_zero_or_pos n with h0 | h0
      · exact h0
      · obtain ⟨b, o, e, _⟩ := h.row h0
        cases e
    subst hn0
    have hxs : xs = [] := List.eq_nil_of_length_eq_zero h.len
    subst hxs
    have heq := fun W => Lib.run_eql_slice_nil (P := Try.prog) W 23 3 none 0 c 0 0 Try.underlying23
    simp only [Option.isNone_none] at heq
    go_enter Try.func30, Try.ntmps30
    go_wp2
    go_ret
    exact ⟨_, rfl, OwnInts.nil _ _, Below.refl _ _⟩
  · have heq := fun W => Lib.run_eql_slice_nil (P := Try.prog) W 23 3 (some ad) n c 0 0 Try.underlying23
    simp only [Option.isNone_some] at heq
    go_enter Try.func30, Try.ntmps30
    go_wp2_with (at_builtin; refine wpList_appNB _ rfl (.tmp 5) (.tmp 6) rfl w.heap.size _ [] rfl ad n c xs rfl (World.ownsRow_made w #[] 0 (Nat.le_refl _) (Nat.zero_le _) rfl) (h.keep (below_alloc _ _)) (by simp; omega) (by simp) ?_)
    intro v' w1 hown1 _ hbel1
    have HO1 := hid hown1
    have HB1 := hid ((below_alloc w _).trans hbel1)
    clear hown1 hbel1 heq
    go_wp2
    go_ret
    exact ⟨_, rfl, HO1.out, HB1.out⟩

theorem clone_any (A : Option Addr) (n c : Nat) (xs : List Int) (w : World) (h : Ints w A n xs) (hn : n ≤ 1000000) :
    Calls Try.prog 30 #[.slice A n c] w (RetOwn w xs) := clone_big A n c xs w h (by omega)

theorem below_own {B base : Nat} {a b c : World} {v : Value} {xs : List Int} (h : Below B a b) (ho : OwnInts b base v xs) (hB : B ≤ base) (hBa : B ≤ a.heap.size) (k : b.grownBy c v.ownBlock) : Below B a c :=
  h.trans ⟨k.os, k.tape, k.output, k.size, fun i hi => k.block i (Nat.lt_of_lt_of_le hi (Nat.le_trans hBa h.size)) (fun e => by have := World.ownsRow.lt ho i e.symm; omega)⟩

end Go.Proofs.Ytbcjfiobggggjaa

/-
  Words of my own for a row of rows of ints that the call made.
-/
namespace Go.Proofs.Ytbcjfiobggggjaa
open Go.RowKit

/-- v is the call's own row of rows; each of them lies in memory of its own. -/
def Rows2 (w : World) (base : Nat) (v : Value) (xss : List (List Int)) : Prop :=
  ∃ vals : List Value, vals.length = xss.length ∧ w.ownsRow base 23 1 v vals.length vals ∧ ∀ j, j < xss.length → OwnInts w 0 (vals.getD j (.slice none 0 0)) (xss.getD j [])

theorem infoRow : (Try.prog.info? 23).map (fun i => (i.zero, i.size, i.bytes)) = some (some (.slice none 0 0), 1, 24) := by kernel_rfl

theorem Rows2.nil (w : World) (base : Nat) : Rows2 w base (.slice none 0 0) [] := ⟨[], rfl, World.ownsRow_nil w base 23 1, fun _ hj => absurd hj (Nat.not_lt_zero _)⟩

theorem own_keep {w w' : World} {base e size n : Nat} {v : Value} {xs : List Value} (h : w.ownsRow base e size v n xs) (hb : Below w.heap.size w w') : w'.ownsRow base e size v n xs := by
  refine ⟨h.1, ?_⟩
  rcases h.2 with h0 | ⟨g, cap, cur, hv, hg, hh, r⟩
  · exact .inl h0
  · exact .inr ⟨g, cap, cur, hv, hg, (hb.block g (Array.getElem?_eq_some_iff.1 hh).1).trans hh, r⟩
theorem own_mono {w : World} {base base' e size n : Nat} {v : Value} {xs : List Value} (h : w.ownsRow base e size v n xs) (hb : base' ≤ base) : w.ownsRow base' e size v n xs := by
  refine ⟨h.1, ?_⟩
  rcases h.2 with h0 | ⟨g, cap, cur, hv, hg, r⟩
  · exact .inl h0
  · exact .inr ⟨g, cap, cur, hv, Nat.le_trans hb hg, r⟩
theorem Rows2.keep {w w' : World} {base : Nat} {v : Value} {xss : List (List Int)} (h : Rows2 w base v xss) (hb : Below w.heap.size w w') : Rows2 w' base v xss := by
  obtain ⟨vals, hl, ho, hv⟩ := h
  exact ⟨vals, hl, own_keep ho hb, fun j hj => (hv j hj).keep hb⟩
theorem Rows2.mono {w : World} {base base' : Nat} {v : Value} {xss : List (List Int)} (h : Rows2 w base v xss) (hb : base' ≤ base) : Rows2 w base' v xss := by
  obtain ⟨vals, hl, ho, hv⟩ := h
  exact ⟨vals, hl, own_mono ho hb, hv⟩
/-- Another kind of row has grown: this one is as it was. -/
theorem OwnInts.other {w w' : World} {base base2 n : Nat} {v u : Value} {xs : List Int} {ys : List Value} (h : OwnInts w base v xs) (ho : w.ownsRow base2 23 1 u n ys) (hg : w.grownBy w' u.ownBlock) : OwnInts w' base v xs := by
  refine World.ownsRow.kept h hg ?_
  rcases h.2 with ⟨rfl, _⟩ | ⟨g, cap, cur, rfl, _, hh, _⟩
  · exact .inl rfl
  · right
    rcases ho.2 with ⟨rfl, _⟩ | ⟨g2, cap2, cur2, rfl, _, hh2, _⟩
    · simp [Value.ownBlock]
    · simp only [Value.ownBlock, ne_eq, Option.some.injEq]
      intro e
      rw [e, hh2] at hh
      injection hh with hh
      injection hh with _ hh
      exact absurd hh (by decide)

/-- What lies at place j. -/
theorem Rows2.at {w : World} {base : Nat} {v : Value} {xss : List (List Int)} (h : Rows2 w base v xss) {j : Nat} (hj : j < xss.length) :
    ∃ g cap u, v = .slice (some ⟨g, 0, none⟩) xss.length cap ∧ w.cell? ⟨g, j, none⟩ = some u ∧ OwnInts w 0 u (xss.getD j []) := by
  obtain ⟨vals, hl, ho, hv⟩ := h
  rcases ho.2 with ⟨_, h0⟩ | ⟨g, cap, cur, rfl, _, hh, _⟩
  · omega
  · refine ⟨g, cap, vals.getD j (.slice none 0 0), by rw [hl], ?_, hv j hj⟩
    rw [World.ownsRow.cellAt ho j (by omega), List.getD_eq_getElem?_getD, List.getElem?_eq_getElem (by omega)]
    rfl
/-- The row's own length. -/
theorem Rows2.form {w : World} {base : Nat} {v : Value} {xss : List (List Int)} (h : Rows2 w base v xss) : ∃ A c, v = .slice A xss.length c ∧ Cap xss.length c := by
  obtain ⟨vals, hl, ho, _⟩ := h
  rw [hl] at ho
  rcases ho.2 with ⟨rfl, h0⟩ | ⟨g, cap, cur, rfl, _, _, h1, h2, _⟩
  · exact ⟨none, 0, by rw [h0], by rw [h0]; exact ⟨Nat.le_refl _, by omega⟩⟩
  · exact ⟨_, _, rfl, h1, by unfold maxLen at h2; exact h2⟩

theorem cell_oneV (W : World) (y : Value) : ∀ j u, [y][j]? = some u → (W.alloc (.cells #[y] 23)).cell? ((⟨W.heap.size, 0, none⟩ : Addr).add j) = some u := by
  intro j u hj
  match j, hj with
  | 0, hj => simp at hj; subst hj; simp [Addr.add]
theorem own_oneCell {w : World} {base : Nat} {v : Value} {xs : List Int} (h : OwnInts w base v xs) : v.oneCell' = true := by
  obtain ⟨A, c, rfl, _⟩ := h.ints
  rfl

/-- Two rows that do not lie in one block. -/
def ApartV (v u : Value) : Prop := ∀ k, v.ownBlock = some k → u.ownBlock ≠ some k
theorem Rows2.other {w w' : World} {base base2 n : Nat} {v u : Value} {xss : List (List Int)} {ys : List Value} (h : Rows2 w base v xss) (ho : w.ownsRow base2 23 1 u n ys) (ha : ApartV u v) (hg : w.grownBy w' u.ownBlock) : Rows2 w' base v xss := by
  obtain ⟨vals, hl, hv, he⟩ := h
  refine ⟨vals, hl, World.ownsRow.kept hv hg ?_, fun j hj => (he j hj).other ho hg⟩
  rcases e : v.ownBlock with _ | k
  · exact .inl rfl
  · right
    intro e2
    exact ha k e2.symm e
theorem Rows2.lt {w : World} {base : Nat} {v : Value} {xss : List (List Int)} (h : Rows2 w base v xss) : ∀ k, v.ownBlock = some k → base ≤ k ∧ k < w.heap.size := by
  obtain ⟨vals, _, hv, _⟩ := h
  exact World.ownsRow.lt hv

/-- 'out = append(out, y)', y a row of ints: the world has laid y in a block of its own first; another row of rows stays as it was. -/
theorem wpList_appRow {ops : Array Oper} {rest : List Oper} {o : Oper} {a : Act} {Q : Exit → Act → World → Prop} (W : World) (hgd : o.guard = none) (s x : Operand)
    (ho : o.op = .call { callee := .builtin .append, args := #[s, x], argTypes := #[22, 22] })
    (base : Nat) (v : Value) (xss : List (List Int)) (y : Value) (ys : List Int) (hs : a.eval s = v) (hx : a.eval x = .slice (some ⟨W.heap.size, 0, none⟩) 1 1) (hown : Rows2 W base v xss) (hy : OwnInts W 0 y ys)
    (v1 : Value) (L : List (List Int)) (hv1 : Rows2 W 0 v1 L) (hap : ApartV v v1)
    (hlen : xss.length ≤ 1000000000000) (hbase : base ≤ W.heap.size)
    (h : ∀ v' w', Rows2 w' base v' (xss ++ [ys]) → Rows2 w' 0 v1 L → ApartV v' v1 → Below base W w' → wpList Try.prog ops Q rest (a.put o.dst v') w') :
    wpList Try.prog ops Q (o :: rest) a (W.alloc (.cells #[y] 23)) := by
  obtain ⟨i0, hi, hz0, hz1, hz2⟩ := info_parts infoRow
  obtain ⟨vals, hl, hv, he⟩ := hown
  refine wpList_append_own_at _ hgd s x 22 ho base 23 i0 (.slice none 0 0) 1 24 Try.underlying22 hi hz0 hz1 hz2 rfl (by decide) v vals.length vals hs (World.ownsRow.alloc hv _)
    ⟨W.heap.size, 0, none⟩ 1 1 [y] hx rfl (cell_oneV W y) (by intro u hu; simp at hu; subst hu; exact own_oneCell hy) (by unfold maxLen; omega) (by omega) (by simp; omega) ?_
  intro v' w' h1 h2 _ hat
  have hg : W.grownBy w' v.ownBlock := ⟨h2.os, h2.tape, h2.output, Nat.le_trans (by simp) h2.size, fun k hk hne => (h2.block k (by simp; omega) hne).trans (Below.heap_alloc W _ k hk)⟩
  refine h v' w' ⟨vals ++ [y], by simp [hl], by simpa using h1, fun j hj => ?_⟩ (hv1.other hv hap hg) ?_ ?_
  · rw [List.length_append] at hj
    simp only [List.length_cons, List.length_nil] at hj
    by_cases e : j < xss.length
    · have := (he j e).other hv hg
      simpa [List.getD_eq_getElem?_getD, List.getElem?_append_left (hl ▸ e), List.getElem?_append_left e] using this
    · have ej : j = xss.length := by omega
      subst ej
      have := hy.other hv hg
      rw [List.getD_eq_getElem?_getD, List.getD_eq_getElem?_getD, List.getElem?_append_right (by omega), List.getElem?_append_right (Nat.le_refl _), hl]
      simpa using this
  · intro k hk
    rcases hat with e | e
    · exact hap k (by rw [← e]; exact hk)
    · intro e2
      have h3 := hv1.lt k e2
      rw [e] at hk
      injection hk with hk
      have h4 : (W.alloc (.cells #[y] 23)).heap.size = W.heap.size + 1 := by simp
      omega
  · refine ⟨hg.os, hg.tape, hg.output, hg.size, fun k hk => hg.block k (by omega) (fun e => ?_)⟩
    have := World.ownsRow.lt hv k e.symm
    omega

/-- 'append([]int{X}, ys...)'. -/
theorem wpList_consL {ops : Array Oper} {rest : List Oper} {o : Oper} {a : Act} {Q : Exit → Act → World → Prop} (W : World) (hgd : o.guard = none) (s x : Operand)
    (ho : o.op = .call { callee := .builtin .append, args := #[s, x], argTypes := #[23, 23] })
    (X : Int) (hs : a.eval s = .slice (some ⟨W.heap.size, 0, none⟩) 1 1) (y : Value) (ys : List Int) (hx : a.eval x = y) (hy : OwnInts W 0 y ys) (hlen : ys.length ≤ 1000000)
    (h : ∀ v' w', OwnInts w' W.heap.size v' (X :: ys) → Below W.heap.size W w' → wpList Try.prog ops Q rest (a.put o.dst v') w') :
    wpList Try.prog ops Q (o :: rest) a (W.alloc (.cells #[.int .i64 X] 3)) := by
  have hO : OwnInts (W.alloc (.cells #[.int .i64 X] 3)) W.heap.size (.slice (some ⟨W.heap.size, 0, none⟩) 1 1) [X] := World.ownsRow_lit W #[.int .i64 X] 1 (Nat.le_refl _) (by unfold maxLen; omega) rfl
  have hB := below_alloc W (.cells #[.int .i64 X] 3)
  rcases hy.2 with ⟨rfl, h0⟩ | ⟨g, cap, cur, rfl, _, hh, _⟩
  · have hy0 : ys = [] := List.eq_nil_of_length_eq_zero h0
    subst hy0
    obtain ⟨i0, hi, _⟩ := info_parts infoInt
    refine wpList_append_own_none hgd s x 23 ho W.heap.size 3 i0 1 Try.underlying23 hi _ 1 _ hs hO hx ?_
    exact h _ _ hO hB
  · obtain ⟨A', c', e, hI, _⟩ := hy.ints
    injection e with e1 _ e3
    subst e1
    subst e3
    refine wpList_appN _ hgd s x ho W.heap.size _ [X] hs _ _ _ ys hx hO (hI.keep hB) (by simp; omega) (by simp) ?_
    intro v' w' h1 _ h3
    exact h v' w' h1 (hB.trans h3)

/-- One row, which is nil. -/
theorem Rows2.one (w : World) : Rows2 (w.alloc (.cells #[.slice none 0 0] 23)) w.heap.size (.slice (some ⟨w.heap.size, 0, none⟩) 1 1) [[]] :=
  ⟨[.slice none 0 0], rfl, World.ownsRow_lit w #[.slice none 0 0] 1 (Nat.le_refl _) (by unfold maxLen; omega) rfl, fun j hj => by
    have : j = 0 := by simpa using hj
    subst this
    exact OwnInts.nil _ _⟩

end Go.Proofs.Ytbcjfiobggggjaa

/-
  Words of my own for rows of rows of ints: rows that are only read, and rows that the call made and changes in place. Nothing of the program is proved here.
-/
namespace Go.Proofs.Ytbcjfiobggggjaa
open Go.RowKit

/-- The slice value '.slice A n c' holds the rows T in the world w; each of them is only read. -/
structure RRows (w : World) (A : Option Addr) (n : Nat) (T : List (List Int)) : Prop where
  len : T.length = n
  row : 0 < n → ∃ b off, A = some ⟨b, off, none⟩ ∧ b < w.heap.size ∧ ∀ j, j < n → ∃ Aj nj cj, w.cell? ⟨b, off + j, none⟩ = some (.slice Aj nj cj) ∧ Ints w Aj nj (T.getD j []) ∧ Cap nj cj ∧ (Aj = none → cj = 0)

theorem RRows.nil (w : World) (A : Option Addr) : RRows w A 0 [] := ⟨rfl, fun h => absurd h (by omega)⟩
theorem RRows.keep {w w' : World} {A : Option Addr} {n : Nat} {T : List (List Int)} (h : RRows w A n T) (hb : Below w.heap.size w w') : RRows w' A n T := by
  refine ⟨h.len, fun hn => ?_⟩
  obtain ⟨b, off, e, hlt, hc⟩ := h.row hn
  refine ⟨b, off, e, Nat.lt_of_lt_of_le hlt hb.size, fun j hj => ?_⟩
  obtain ⟨Aj, nj, cj, h1, h2, h3, h4⟩ := hc j hj
  exact ⟨Aj, nj, cj, (hb.cell (p := ⟨b, off + j, none⟩) hlt).trans h1, h2.keep hb, h3, h4⟩
theorem RRows.drewN {w : World} {A : Option Addr} {n : Nat} {T : List (List Int)} (h : RRows w A n T) (k : Nat) : RRows (w.drewN k) A n T := h.keep (below_drewN (Below.refl _ _) k)

/-- Blocks of fp alone may have turned. -/
structure Only (fp : Nat → Prop) (a b : World) : Prop where
  os : b.os = a.os
  tape : b.tape = a.tape
  output : b.output = a.output
  size : a.heap.size ≤ b.heap.size
  block : ∀ k, k < a.heap.size → ¬ fp k → b.heap[k]? = a.heap[k]?
/-- fp, and what has been made since. -/
def fpN (fp : Nat → Prop) (a b : Nat) (k : Nat) : Prop := fp k ∨ (a ≤ k ∧ k < b)

namespace Only
variable {fp : Nat → Prop} {a b c : World}
theorem refl (fp : Nat → Prop) (a : World) : Only fp a a := ⟨rfl, rfl, rfl, Nat.le_refl _, fun _ _ _ => rfl⟩
theorem trans (h : Only fp a b) (k : Only fp b c) : Only fp a c :=
  ⟨k.os.trans h.os, k.tape.trans h.tape, k.output.trans h.output, Nat.le_trans h.size k.size, fun i hi hn => (k.block i (Nat.lt_of_lt_of_le hi h.size) hn).trans (h.block i hi hn)⟩
theorem transN (h : Only fp a b) (k : Only (fpN fp a.heap.size b.heap.size) b c) : Only fp a c :=
  ⟨k.os.trans h.os, k.tape.trans h.tape, k.output.trans h.output, Nat.le_trans h.size k.size, fun i hi hn => (k.block i (Nat.lt_of_lt_of_le hi h.size) (fun e => e.elim hn (fun e => by omega))).trans (h.block i hi hn)⟩
theorem up {fp' : Nat → Prop} (h : Only fp a b) (hs : ∀ k, k < a.heap.size → fp k → fp' k) : Only fp' a b := ⟨h.os, h.tape, h.output, h.size, fun k hk hn => h.block k hk (fun e => hn (hs k hk e))⟩
theorem of_below (h : Below a.heap.size a b) : Only fp a b := ⟨h.os, h.tape, h.output, h.size, fun k hk _ => h.block k hk⟩
theorem below {B : Nat} (h : Only fp a b) (hB : B ≤ a.heap.size) (hf : ∀ k, fp k → B ≤ k) : Below B a b := ⟨h.os, h.tape, h.output, h.size, fun k hk => h.block k (by omega) (fun e => by have := hf k e; omega)⟩
theorem set {g : Nat} (h : Only fp a b) (hg : fp g) (j : Nat) (u : Value) : Only fp a (b.setCell ⟨g, j, none⟩ u) :=
  ⟨h.os, h.tape, h.output, by simpa [World.setCell] using h.size, fun i hi hne => (Below.heap_setCell b ⟨g, j, none⟩ u i (by rintro rfl; exact hne hg)).trans (h.block i hi hne)⟩
theorem grown {row : Option Nat} (h : Only fp a b) (hg : b.grownBy c row) (hr : ∀ k, row = some k → k < a.heap.size → fp k) : Only fp a c :=
  ⟨hg.os.trans h.os, hg.tape.trans h.tape, hg.output.trans h.output, Nat.le_trans h.size hg.size, fun k hk hn => (hg.block k (Nat.lt_of_lt_of_le hk h.size) (fun e => hn (hr k e.symm hk))).trans (h.block k hk hn)⟩
theorem drewN (h : Only fp a b) (n : Nat) : Only fp a (b.drewN n) := ⟨h.os, h.tape, h.output, h.size, h.block⟩
end Only

/-- v holds the rows T; all of it is the call's own, each row in a block of its own; all these blocks are in fp. -/
structure GridAt (w : World) (base : Nat) (fp : Nat → Prop) (v : Value) (vals : List Value) (T : List (List Int)) : Prop where
  len : vals.length = T.length
  own : w.ownsRow base 23 1 v T.length vals
  row : ∀ j, j < T.length → OwnInts w base (vals.getD j (.slice none 0 0)) (T.getD j [])
  apart : ∀ i j, i < T.length → j < T.length → i ≠ j → ∀ k, (vals.getD i (.slice none 0 0)).ownBlock = some k → (vals.getD j (.slice none 0 0)).ownBlock ≠ some k
  inV : ∀ k, v.ownBlock = some k → fp k
  inR : ∀ j, j < T.length → ∀ k, (vals.getD j (.slice none 0 0)).ownBlock = some k → fp k
  bound : ∀ k, fp k → base ≤ k ∧ k < w.heap.size
def Grid (w : World) (base : Nat) (fp : Nat → Prop) (v : Value) (T : List (List Int)) : Prop := ∃ vals, GridAt w base fp v vals T

theorem own_of_block {w w' : World} {base e size n : Nat} {v : Value} {xs : List Value} (h : w.ownsRow base e size v n xs) (hb : ∀ k, v.ownBlock = some k → w'.heap[k]? = w.heap[k]?) : w'.ownsRow base e size v n xs := by
  refine ⟨h.1, ?_⟩
  rcases h.2 with h0 | ⟨g, cap, cur, hv, hg, hh, r⟩
  · exact .inl h0
  · exact .inr ⟨g, cap, cur, hv, hg, (hb g (by rw [hv]; rfl)).trans hh, r⟩
theorem one_refl2 (w : World) (row : Option Nat) : w.grownBy w row := ⟨rfl, rfl, rfl, Nat.le_refl _, fun _ _ _ => rfl⟩
theorem own_apart {w : World} {base base2 n m size : Nat} {v u : Value} {xs ys : List Value} (h : w.ownsRow base 3 size v n xs) (ho : w.ownsRow base2 23 1 u m ys) : ∀ k, v.ownBlock = some k → u.ownBlock ≠ some k := by
  intro k hk e2
  rcases h.2 with ⟨rfl, _⟩ | ⟨g, cap, cur, rfl, _, hh, _⟩
  · cases hk
  · rcases ho.2 with ⟨rfl, _⟩ | ⟨g2, cap2, cur2, rfl, _, hh2, _⟩
    · cases e2
    · simp only [Value.ownBlock, Option.some.injEq] at hk e2
      subst hk
      rw [e2] at hh2
      rw [hh2] at hh
      injection hh with hh
      injection hh with _ hh
      exact absurd hh (by decide)

theorem GridAt.only {w w' : World} {base : Nat} {fp fp2 : Nat → Prop} {v : Value} {vals : List Value} {T : List (List Int)} (h : GridAt w base fp v vals T) (ho : Only fp2 w w') (ha : ∀ k, fp k → ¬ fp2 k) : GridAt w' base fp v vals T := by
  refine ⟨h.len, own_of_block h.own (fun k hk => ?_), fun j hj => own_of_block (h.row j hj) (fun k hk => ?_), h.apart, h.inV, h.inR, fun k hk => ⟨(h.bound k hk).1, Nat.lt_of_lt_of_le (h.bound k hk).2 ho.size⟩⟩
  · exact ho.block k (h.bound k (h.inV k hk)).2 (ha k (h.inV k hk))
  · exact ho.block k (h.bound k (h.inR j hj k hk)).2 (ha k (h.inR j hj k hk))
theorem Grid.only {w w' : World} {base : Nat} {fp fp2 : Nat → Prop} {v : Value} {T : List (List Int)} (h : Grid w base fp v T) (ho : Only fp2 w w') (ha : ∀ k, fp k → ¬ fp2 k) : Grid w' base fp v T := by
  obtain ⟨vals, h⟩ := h
  exact ⟨vals, h.only ho ha⟩
theorem Grid.keep {w w' : World} {base : Nat} {fp : Nat → Prop} {v : Value} {T : List (List Int)} (h : Grid w base fp v T) (hb : Below w.heap.size w w') : Grid w' base fp v T :=
  h.only (Only.of_below (fp := fun _ => False) hb) (fun _ _ e => e)
theorem Grid.bound {w : World} {base : Nat} {fp : Nat → Prop} {v : Value} {T : List (List Int)} (h : Grid w base fp v T) : ∀ k, fp k → base ≤ k ∧ k < w.heap.size := by
  obtain ⟨vals, h⟩ := h
  exact h.bound
theorem Grid.up {w : World} {base : Nat} {fp fp' : Nat → Prop} {v : Value} {T : List (List Int)} (h : Grid w base fp v T) (h1 : ∀ k, fp k → fp' k) (h2 : ∀ k, fp' k → base ≤ k ∧ k < w.heap.size) : Grid w base fp' v T := by
  obtain ⟨vals, h⟩ := h
  exact ⟨vals, h.len, h.own, h.row, h.apart, fun k hk => h1 k (h.inV k hk), fun j hj k hk => h1 k (h.inR j hj k hk), h2⟩
theorem Grid.nil (w : World) (base : Nat) : Grid w base (fun _ => False) (.slice none 0 0) [] :=
  ⟨[], rfl, World.ownsRow_nil w base 23 1, fun _ hj => absurd hj (Nat.not_lt_zero _), fun _ _ hj => absurd hj (Nat.not_lt_zero _), fun _ hk => (by cases hk), fun _ hj => absurd hj (Nat.not_lt_zero _), fun _ hk => hk.elim⟩
theorem Grid.drewN {w : World} {base : Nat} {fp : Nat → Prop} {v : Value} {T : List (List Int)} (h : Grid w base fp v T) (n : Nat) : Grid (w.drewN n) base fp v T := h.keep (below_drewN (Below.refl _ _) n)
theorem Grid.form {w : World} {base : Nat} {fp : Nat → Prop} {v : Value} {T : List (List Int)} (h : Grid w base fp v T) : ∃ A c, v = .slice A T.length c ∧ Cap T.length c := by
  obtain ⟨vals, h⟩ := h
  rcases h.own.2 with ⟨rfl, h0⟩ | ⟨g, cap, cur, rfl, _, _, h1, h2, _⟩
  · exact ⟨none, 0, by rw [h0], by rw [h0]; exact ⟨Nat.le_refl _, by omega⟩⟩
  · exact ⟨_, _, rfl, h1, by unfold maxLen at h2; exact h2⟩

theorem getD_vals {vals : List Value} {j : Nat} (hj : j < vals.length) : vals[j]? = some (vals.getD j (.slice none 0 0)) := by
  rw [List.getD_eq_getElem?_getD, List.getElem?_eq_getElem hj]
  rfl
/-- What lies at place j. -/
theorem Grid.at {w : World} {base : Nat} {fp : Nat → Prop} {v : Value} {T : List (List Int)} (h : Grid w base fp v T) {j : Nat} (hj : j < T.length) :
    ∃ g cap u, v = .slice (some ⟨g, 0, none⟩) T.length cap ∧ w.cell? ⟨g, j, none⟩ = some u ∧ w.frozen? ⟨g, j, none⟩ = false ∧ OwnInts w base u (T.getD j []) := by
  obtain ⟨vals, h⟩ := h
  rcases h.own.2 with ⟨_, h0⟩ | ⟨g, cap, cur, rfl, _, hh, _⟩
  · omega
  · refine ⟨g, cap, vals.getD j (.slice none 0 0), rfl, ?_, World.ownsRow.frozenAt h.own j, h.row j hj⟩
    rw [World.ownsRow.cellAt h.own j (by omega), getD_vals (by rw [h.len]; exact hj)]
theorem GridAt.cell_eq {w : World} {base g n cap : Nat} {fp : Nat → Prop} {vals : List Value} {T : List (List Int)} {j : Nat} {u : Value} (h : GridAt w base fp (.slice (some ⟨g, 0, none⟩) n cap) vals T) (hj : j < T.length) (hu : w.cell? ⟨g, j, none⟩ = some u) : u = vals.getD j (.slice none 0 0) ∧ n = T.length := by
  have hn : n = T.length := by
    rcases h.own.2 with ⟨e, _⟩ | ⟨g', cap', cur, e, _⟩
    · cases e
    · injection e
  subst hn
  rw [World.ownsRow.cellAt h.own j (by omega), getD_vals (by rw [h.len]; exact hj)] at hu
  injection hu with hu
  exact ⟨hu.symm, rfl⟩

theorem getD_setV {vals : List Value} {i j : Nat} (u : Value) (hj : j < vals.length) : (vals.set j u).getD i (.slice none 0 0) = if i = j then u else vals.getD i (.slice none 0 0) := by
  simp only [List.getD_eq_getElem?_getD, List.getElem?_set]
  by_cases h : j = i
  · subst h
    simp [hj]
  · have h' : ¬ i = j := fun e => h e.symm
    simp [h, h']
theorem getD_setT {T : List (List Int)} {i j : Nat} (ys : List Int) (hj : j < T.length) : (T.set j ys).getD i [] = if i = j then ys else T.getD i [] := by
  simp only [List.getD_eq_getElem?_getD, List.getElem?_set]
  by_cases h : j = i
  · subst h
    simp [hj]
  · have h' : ¬ i = j := fun e => h e.symm
    simp [h, h']

/-- One number in one row is another. -/
theorem Grid.store {w : World} {base g n cap h m c : Nat} {fp : Nat → Prop} {T : List (List Int)} {j : Nat} (hG : Grid w base fp (.slice (some ⟨g, 0, none⟩) n cap) T) (hj : j < T.length) (hu : w.cell? ⟨g, j, none⟩ = some (.slice (some ⟨h, 0, none⟩) m c)) (hm : m = (T.getD j []).length) (i : Nat) (x : Int) :
    Grid (w.setCell ⟨h, i, none⟩ (.int .i64 x)) base fp (.slice (some ⟨g, 0, none⟩) n cap) (T.set j ((T.getD j []).set i x)) ∧ Only fp w (w.setCell ⟨h, i, none⟩ (.int .i64 x)) := by
  obtain ⟨vals, hG⟩ := hG
  obtain ⟨e, rfl⟩ := hG.cell_eq hj hu
  have hfp : fp h := hG.inR j hj h (by rw [← e]; rfl)
  have hO : Only fp w (w.setCell ⟨h, i, none⟩ (.int .i64 x)) := (Only.refl fp w).set hfp i _
  have hrow := hG.row j hj
  rw [← e] at hrow
  have hset := hrow.set hm i x
  have hblk : ∀ k, k ≠ h → (w.setCell ⟨h, i, none⟩ (.int .i64 x)).heap[k]? = w.heap[k]? := fun k hk => Below.heap_setCell w ⟨h, i, none⟩ _ k hk
  refine ⟨⟨vals, by rw [List.length_set]; exact hG.len, ?_, fun a ha => ?_, by rw [List.length_set]; exact hG.apart, hG.inV, by rw [List.length_set]; exact hG.inR, fun k hk => ⟨(hG.bound k hk).1, Nat.lt_of_lt_of_le (hG.bound k hk).2 hO.size⟩⟩, hO⟩
  · rw [List.length_set]
    refine own_of_block hG.own (fun k hk => hblk k ?_)
    rintro rfl
    exact own_apart hrow hG.own k rfl hk
  · rw [List.length_set] at ha
    rw [getD_setT _ hj]
    by_cases ea : a = j
    · subst ea
      rw [if_pos rfl, ← e]
      exact hset
    · rw [if_neg ea]
      refine own_of_block (hG.row a ha) (fun k hk => hblk k ?_)
      rintro rfl
      exact hG.apart a j ha hj ea k hk (by rw [← e]; rfl)

/-- One row is another, which has grown out of it (or is new); the cell that holds it has been stored. -/
theorem Grid.replace {w w' : World} {base g n cap : Nat} {fp : Nat → Prop} {T : List (List Int)} {j : Nat} {u u' : Value} {ys : List Int} (hG : Grid w base fp (.slice (some ⟨g, 0, none⟩) n cap) T) (hj : j < T.length) (hu : w.cell? ⟨g, j, none⟩ = some u)
    (hg : w.grownBy w' u.ownBlock) (ho : OwnInts w' base u' ys) (hb : u'.ownBlock = u.ownBlock ∨ ∀ k, u'.ownBlock = some k → w.heap.size ≤ k) (hbase : base ≤ w.heap.size) :
    Grid (w'.setCell ⟨g, j, none⟩ u') base (fpN fp w.heap.size w'.heap.size) (.slice (some ⟨g, 0, none⟩) n cap) (T.set j ys) ∧ Only fp w (w'.setCell ⟨g, j, none⟩ u') := by
  obtain ⟨vals, hG⟩ := hG
  obtain ⟨e, rfl⟩ := hG.cell_eq hj hu
  have hfg : fp g := hG.inV g rfl
  have hgr : Only fp w w' := (Only.refl fp w).grown hg (fun k hk _ => hG.inR j hj k (by rw [← e]; exact hk))
  have hO : Only fp w (w'.setCell ⟨g, j, none⟩ u') := hgr.set hfg j _
  have hown' : w'.ownsRow base 23 1 (.slice (some ⟨g, 0, none⟩) T.length cap) T.length vals := by
    refine World.ownsRow.kept hG.own hg (.inr ?_)
    intro e2
    have hrow := hG.row j hj
    rw [← e] at hrow
    exact own_apart hrow hG.own g e2.symm rfl
  have hst := (World.ownsRow.stored hown' j u').1
  have hsz : (w'.setCell ⟨g, j, none⟩ u').heap.size = w'.heap.size := by simp [World.setCell]
  have hblk : ∀ k, k ≠ g → (w'.setCell ⟨g, j, none⟩ u').heap[k]? = w'.heap[k]? := fun k hk => Below.heap_setCell w' ⟨g, j, none⟩ _ k hk
  have hfr : ∀ k, u'.ownBlock = some k → fpN fp w.heap.size w'.heap.size k := by
    intro k hk
    rcases hb with hb | hb
    · exact .inl (hG.inR j hj k (by rw [← e, ← hb]; exact hk))
    · exact .inr ⟨hb k hk, (World.ownsRow.lt ho k hk).2⟩
  have hjl : j < vals.length := by rw [hG.len]; exact hj
  have hap : ∀ a, a < T.length → a ≠ j → ∀ k, (vals.getD a (.slice none 0 0)).ownBlock = some k → u'.ownBlock ≠ some k := by
    intro a ha hne k hk e2
    rcases hb with hb | hb
    · exact hG.apart a j ha hj hne k hk (by rw [← e, ← hb]; exact e2)
    · have h1 := hb k e2
      have h2 := (hG.bound k (hG.inR a ha k hk)).2
      omega
  refine ⟨⟨vals.set j u', by rw [List.length_set, List.length_set]; exact hG.len, by rw [List.length_set]; exact hst, fun a ha => ?_, fun a b ha hb' hne k hk => ?_, fun k hk => .inl (hG.inV k hk), fun a ha k hk => ?_, fun k hk => ?_⟩, hO⟩
  · rw [List.length_set] at ha
    rw [getD_setV _ hjl, getD_setT _ hj]
    by_cases ea : a = j
    · rw [if_pos ea, if_pos ea]
      refine own_of_block ho (fun k hk => hblk k ?_)
      rintro rfl
      exact own_apart ho hown' k hk rfl
    · rw [if_neg ea, if_neg ea]
      have h1 : OwnInts w' base (vals.getD a (.slice none 0 0)) (T.getD a []) := by
        refine World.ownsRow.kept (hG.row a ha) hg ?_
        rcases eb : (vals.getD a (.slice none 0 0)).ownBlock with _ | k
        · exact .inl rfl
        · right
          intro e3
          exact hG.apart a j ha hj ea k eb (by rw [← e]; exact e3.symm)
      refine own_of_block h1 (fun k hk => hblk k ?_)
      rintro rfl
      exact own_apart h1 hown' k hk rfl
  · rw [List.length_set] at ha hb'
    rw [getD_setV _ hjl] at hk ⊢
    by_cases ea : a = j
    · rw [if_pos ea] at hk
      rw [if_neg (fun eb => hne (ea.trans eb.symm))]
      intro e2
      exact hap b hb' (fun eb => hne (ea.trans eb.symm)) k e2 hk
    · rw [if_neg ea] at hk
      by_cases eb : b = j
      · rw [if_pos eb]
        exact hap a ha ea k hk
      · rw [if_neg eb]
        exact hG.apart a b ha hb' hne k hk
  · rw [List.length_set] at ha
    rw [getD_setV _ hjl] at hk
    by_cases ea : a = j
    · rw [if_pos ea] at hk
      exact hfr k hk
    · rw [if_neg ea] at hk
      exact .inl (hG.inR a ha k hk)
  · rw [hsz]
    rcases hk with hk | hk
    · exact ⟨(hG.bound k hk).1, Nat.lt_of_lt_of_le (hG.bound k hk).2 hg.size⟩
    · exact ⟨by omega, hk.2⟩

/-- 'out = append(out, y)', y a row of the call's own that is none of them: the world has laid y in a block of its own first. -/
theorem wpList_gridApp {ops : Array Oper} {rest : List Oper} {o : Oper} {a : Act} {Q : Exit → Act → World → Prop} (W : World) (hgd : o.guard = none) (s x : Operand)
    (ho : o.op = .call { callee := .builtin .append, args := #[s, x], argTypes := #[22, 22] })
    (base : Nat) (fp : Nat → Prop) (v : Value) (T : List (List Int)) (y : Value) (ys : List Int) (hs : a.eval s = v) (hx : a.eval x = .slice (some ⟨W.heap.size, 0, none⟩) 1 1) (hown : Grid W base fp v T) (hy : OwnInts W base y ys)
    (hyf : ∀ k, y.ownBlock = some k → ¬ fp k)
    (hlen : T.length ≤ 1000000000000) (hbase : base ≤ W.heap.size)
    (h : ∀ v' w', Grid w' base (fun k => fpN fp W.heap.size w'.heap.size k ∨ y.ownBlock = some k) v' (T ++ [ys]) → Only fp W w' → wpList Try.prog ops Q rest (a.put o.dst v') w') :
    wpList Try.prog ops Q (o :: rest) a (W.alloc (.cells #[y] 23)) := by
  obtain ⟨i0, hi, hz0, hz1, hz2⟩ := info_parts infoRow
  obtain ⟨vals, hG⟩ := hown
  refine wpList_append_own_at _ hgd s x 22 ho base 23 i0 (.slice none 0 0) 1 24 Try.underlying22 hi hz0 hz1 hz2 rfl (by decide) v T.length vals hs (World.ownsRow.alloc hG.own _)
    ⟨W.heap.size, 0, none⟩ 1 1 [y] hx rfl (cell_oneV W y) (by intro u hu; simp at hu; subst hu; exact own_oneCell hy) (by unfold maxLen; omega) (by omega) (by simp; omega) ?_
  intro v' w' h1 h2 _ hat
  have hg : W.grownBy w' v.ownBlock := ⟨h2.os, h2.tape, h2.output, Nat.le_trans (by simp) h2.size, fun k hk hne => (h2.block k (by simp; omega) hne).trans (Below.heap_alloc W _ k hk)⟩
  have hsz : (W.alloc (.cells #[y] 23)).heap.size = W.heap.size + 1 := by simp
  have hO : Only fp W w' := (Only.refl fp W).grown hg (fun k hk _ => hG.inV k hk)
  have hrows : ∀ j, j < T.length → OwnInts w' base (vals.getD j (.slice none 0 0)) (T.getD j []) := fun j hj => (hG.row j hj).other hG.own hg
  have hgl : ∀ j, j < T.length → (vals ++ [y]).getD j (.slice none 0 0) = vals.getD j (.slice none 0 0) := by
    intro j hj
    rw [List.getD_eq_getElem?_getD, List.getD_eq_getElem?_getD, List.getElem?_append_left (by rw [hG.len]; exact hj)]
  have hgy : (vals ++ [y]).getD T.length (.slice none 0 0) = y := by
    rw [List.getD_eq_getElem?_getD, List.getElem?_append_right (by rw [hG.len]; exact Nat.le_refl _), hG.len]
    simp
  refine h v' w' ⟨vals ++ [y], by simp [hG.len], by simpa using h1, fun j hj => ?_, fun i j hi hj hne k hk => ?_, fun k hk => ?_, fun j hj k hk => ?_, fun k hk => ?_⟩ hO
  · rw [List.length_append] at hj
    simp only [List.length_cons, List.length_nil] at hj
    by_cases e : j < T.length
    · have hT : (T ++ [ys]).getD j [] = T.getD j [] := by rw [List.getD_eq_getElem?_getD, List.getD_eq_getElem?_getD, List.getElem?_append_left e]
      rw [hgl j e, hT]
      exact hrows j e
    · have ej : j = T.length := by omega
      subst ej
      have hT : (T ++ [ys]).getD T.length [] = ys := by rw [List.getD_eq_getElem?_getD, List.getElem?_append_right (Nat.le_refl _)]; simp
      rw [hgy, hT]
      exact hy.other hG.own hg
  · rw [List.length_append] at hi hj
    simp only [List.length_cons, List.length_nil] at hi hj
    by_cases ei : i < T.length
    · rw [hgl i ei] at hk
      by_cases ej : j < T.length
      · rw [hgl j ej]
        exact hG.apart i j ei ej hne k hk
      · have : j = T.length := by omega
        subst this
        rw [hgy]
        intro e2
        exact hyf k e2 (hG.inR i ei k hk)
    · have : i = T.length := by omega
      subst this
      rw [hgy] at hk
      rw [hgl j (by omega)]
      intro e2
      exact hyf k hk (hG.inR j (by omega) k e2)
  · rcases hat with e | e
    · exact .inl (.inl (hG.inV k (by rw [← e]; exact hk)))
    · left
      right
      have h3 := (World.ownsRow.lt h1 k hk).2
      rw [e] at hk
      injection hk with hk
      rw [hsz] at hk
      exact ⟨by omega, h3⟩
  · rw [List.length_append] at hj
    simp only [List.length_cons, List.length_nil] at hj
    by_cases e : j < T.length
    · rw [hgl j e] at hk
      exact .inl (.inl (hG.inR j e k hk))
    · have ej : j = T.length := by omega
      subst ej
      rw [hgy] at hk
      exact .inr hk
  · rcases hk with (hk | hk) | hk
    · exact ⟨(hG.bound k hk).1, Nat.lt_of_lt_of_le (hG.bound k hk).2 hO.size⟩
    · exact ⟨by omega, hk.2⟩
    · have := World.ownsRow.lt hy k hk
      exact ⟨this.1, Nat.lt_of_lt_of_le this.2 hO.size⟩

/-- As rows that are only read. -/
theorem Grid.rrows {w : World} {base : Nat} {fp : Nat → Prop} {A : Option Addr} {n c : Nat} {T : List (List Int)} (h : Grid w base fp (.slice A n c) T) : RRows w A n T := by
  obtain ⟨vals, h⟩ := h
  rcases h.own.2 with ⟨e, h0⟩ | ⟨g, cap, cur, e, hb, hh, _⟩
  · injection e with e1 e2 e3
    subst e2
    have : T = [] := List.eq_nil_of_length_eq_zero h0
    subst this
    exact RRows.nil _ _
  · injection e with e1 e2 e3
    subst e1 e2 e3
    refine ⟨rfl, fun _ => ⟨g, 0, rfl, (Array.getElem?_eq_some_iff.1 hh).1, fun j hj => ?_⟩⟩
    obtain ⟨Aj, cj, ev, hI, hc⟩ := (h.row j hj).ints
    have hnil : Aj = none → cj = 0 := by
      intro e
      rcases (h.row j hj).2 with ⟨e2, _⟩ | ⟨g2, cap2, cur2, e2, _⟩
      · rw [ev] at e2
        injection e2
      · rw [ev, e] at e2
        injection e2 with e2
        cases e2
    refine ⟨Aj, (T.getD j []).length, cj, ?_, hI, hc, hnil⟩
    rw [Nat.zero_add, World.ownsRow.cellAt h.own j (by omega), getD_vals (by rw [h.len]; exact hj), ev]

/-- 'out = append(out, y)' with out nil or the call's own: where the new row lies. -/
theorem wpList_app1At {ops : Array Oper} {rest : List Oper} {o : Oper} {a : Act} {Q : Exit → Act → World → Prop} (W : World) (hgd : o.guard = none) (s x : Operand)
    (ho : o.op = .call { callee := .builtin .append, args := #[s, x], argTypes := #[23, 23] })
    (base : Nat) (v : Value) (xs : List Int) (y : Int) (hs : a.eval s = v) (hx : a.eval x = .slice (some ⟨W.heap.size, 0, none⟩) 1 1) (hown : OwnInts W base v xs)
    (hlen : xs.length ≤ 1000000000000) (hbase : base ≤ W.heap.size)
    (h : ∀ v' w', OwnInts w' base v' (xs ++ [y]) → W.grownBy w' v.ownBlock → (v'.ownBlock = v.ownBlock ∨ ∀ k, v'.ownBlock = some k → W.heap.size ≤ k) → wpList Try.prog ops Q rest (a.put o.dst v') w') :
    wpList Try.prog ops Q (o :: rest) a (W.alloc (.cells #[.int .i64 y] 3)) := by
  obtain ⟨i0, hi, hz0, hz1, hz2⟩ := info_parts infoInt
  refine wpList_append_own_at _ hgd s x 23 ho base 3 i0 (.int .i64 0) 1 8 Try.underlying23 hi hz0 hz1 hz2 rfl (by decide) v xs.length (xs.map (Value.int .i64)) hs (World.ownsRow.alloc hown _)
    ⟨W.heap.size, 0, none⟩ 1 1 [.int .i64 y] hx rfl (cell_one W y) (by intro u hu; simp at hu; subst hu; rfl) (by unfold maxLen; omega) (by omega) (by simp; omega) ?_
  intro v' w' h1 h2 _ hat
  have hg : W.grownBy w' v.ownBlock := ⟨h2.os, h2.tape, h2.output, Nat.le_trans (by simp) h2.size, fun k hk hne => (h2.block k (by simp; omega) hne).trans (Below.heap_alloc W _ k hk)⟩
  refine h v' w' ?_ hg ?_
  · unfold OwnInts
    simpa using h1
  · rcases hat with e | e
    · exact .inl e
    · right
      intro k hk
      rw [e] at hk
      injection hk with hk
      have hsz : (W.alloc (.cells #[.int .i64 y] 3)).heap.size = W.heap.size + 1 := by simp
      omega

/-- The outer block is none of the rows'. -/
theorem Grid.outer_kept {w w' : World} {base g n cap : Nat} {fp : Nat → Prop} {T : List (List Int)} {j : Nat} {u : Value} (hG : Grid w base fp (.slice (some ⟨g, 0, none⟩) n cap) T) (hj : j < T.length) (hu : w.cell? ⟨g, j, none⟩ = some u) (hg : w.grownBy w' u.ownBlock) : w'.heap[g]? = w.heap[g]? := by
  obtain ⟨vals, hG⟩ := hG
  obtain ⟨e, rfl⟩ := hG.cell_eq hj hu
  refine hg.block g (hG.bound g (hG.inV g rfl)).2 (fun e2 => ?_)
  have hrow := hG.row j hj
  rw [← e] at hrow
  exact own_apart hrow hG.own g e2.symm rfl
theorem Grid.outer_lt {w : World} {base g n cap : Nat} {fp : Nat → Prop} {T : List (List Int)} (hG : Grid w base fp (.slice (some ⟨g, 0, none⟩) n cap) T) : g < w.heap.size := by
  obtain ⟨vals, hG⟩ := hG
  exact (hG.bound g (hG.inV g rfl)).2
theorem Grid.outer_ge {w : World} {base g n cap : Nat} {fp : Nat → Prop} {T : List (List Int)} (hG : Grid w base fp (.slice (some ⟨g, 0, none⟩) n cap) T) : base ≤ g := by
  obtain ⟨vals, hG⟩ := hG
  exact (hG.bound g (hG.inV g rfl)).1

/-- v is the call's own row of rows; each of them lies in the call's own memory too. -/
def BRows (w : World) (base : Nat) (v : Value) (T : List (List Int)) : Prop :=
  ∃ vals : List Value, vals.length = T.length ∧ w.ownsRow base 23 1 v vals.length vals ∧ ∀ j, j < T.length → OwnInts w base (vals.getD j (.slice none 0 0)) (T.getD j [])
theorem BRows.mono {w : World} {base base' : Nat} {v : Value} {T : List (List Int)} (h : BRows w base v T) (hb : base' ≤ base) : BRows w base' v T := by
  obtain ⟨vals, hl, ho, hv⟩ := h
  exact ⟨vals, hl, own_mono ho hb, fun j hj => (hv j hj).mono hb⟩
theorem Grid.brows {w : World} {base : Nat} {fp : Nat → Prop} {v : Value} {T : List (List Int)} (h : Grid w base fp v T) : BRows w base v T := by
  obtain ⟨vals, hg⟩ := h
  have ho := hg.own
  rw [← hg.len] at ho
  exact ⟨vals, hg.len, ho, hg.row⟩

end Go.Proofs.Ytbcjfiobggggjaa

/-
  Rows of rows whose outer block the call made, the rows only read; appends.
-/
namespace Go.Proofs.Ytbcjfiobggggjaa
open Go.RowKit

/-! ### Rows whose outer block the call made, the rows only read -/
def ORows (w : World) (base : Nat) (v : Value) (T : List (List Int)) : Prop :=
  ∃ vals : List Value, vals.length = T.length ∧ w.ownsRow base 23 1 v T.length vals ∧ ∀ j, j < T.length → ∃ Aj nj cj, vals.getD j (.slice none 0 0) = .slice Aj nj cj ∧ Ints w Aj nj (T.getD j []) ∧ Cap nj cj ∧ (Aj = none → cj = 0)
theorem ORows.keep {w w' : World} {base : Nat} {v : Value} {T : List (List Int)} (h : ORows w base v T) (hb : Below w.heap.size w w') : ORows w' base v T := by
  obtain ⟨vals, hl, ho, hr⟩ := h
  refine ⟨vals, hl, own_keep ho hb, fun j hj => ?_⟩
  obtain ⟨Aj, nj, cj, h1, h2, h3⟩ := hr j hj
  exact ⟨Aj, nj, cj, h1, h2.keep hb, h3⟩
theorem ORows.mono {w : World} {base base' : Nat} {v : Value} {T : List (List Int)} (h : ORows w base v T) (hb : base' ≤ base) : ORows w base' v T := by
  obtain ⟨vals, hl, ho, hr⟩ := h
  exact ⟨vals, hl, own_mono ho hb, hr⟩
theorem ORows.rrows {w : World} {base : Nat} {v : Value} {T : List (List Int)} (h : ORows w base v T) : ∃ A c, v = .slice A T.length c ∧ RRows w A T.length T ∧ Cap T.length c ∧ (A = none → c = 0) := by
  obtain ⟨vals, hl, ho, hr⟩ := h
  rcases ho.2 with ⟨rfl, h0⟩ | ⟨g, cap, cur, rfl, hb, hh, hn, hm, _⟩
  · have : T = [] := List.eq_nil_of_length_eq_zero h0
    subst this
    exact ⟨none, 0, rfl, RRows.nil _ _, ⟨Nat.le_refl _, by omega⟩, fun _ => rfl⟩
  · refine ⟨some ⟨g, 0, none⟩, cap, rfl, ⟨rfl, fun _ => ⟨g, 0, rfl, (Array.getElem?_eq_some_iff.1 hh).1, fun j hj => ?_⟩⟩, ⟨hn, by unfold maxLen at hm; exact hm⟩, fun e => by cases e⟩
    obtain ⟨Aj, nj, cj, h1, h2, h3, h4⟩ := hr j hj
    refine ⟨Aj, nj, cj, ?_, h2, h3, h4⟩
    rw [Nat.zero_add, World.ownsRow.cellAt ho j (by omega), getD_vals (by rw [hl]; exact hj), h1]

/-- 'append(out, rows...)', out the call's own, rows only read. -/
theorem wpList_appRows {ops : Array Oper} {rest : List Oper} {o : Oper} {a : Act} {Q : Exit → Act → World → Prop} (W : World) (hgd : o.guard = none) (s x : Operand)
    (ho : o.op = .call { callee := .builtin .append, args := #[s, x], argTypes := #[22, 22] })
    (base : Nat) (v : Value) (T : List (List Int)) (hs : a.eval s = v) (A : Option Addr) (n c : Nat) (U : List (List Int)) (hx : a.eval x = .slice A n c) (hown : ORows W base v T) (hI : RRows W A n U) (hcap : A = none → c = 0)
    (hfull : ∀ g n' cap, v = .slice (some ⟨g, 0, none⟩) n' cap → cap = n') (hlen : T.length + n ≤ 1000000000) (hbase : base ≤ W.heap.size)
    (h : ∀ v' w', ORows w' base v' (T ++ U) → Below base W w' → wpList Try.prog ops Q rest (a.put o.dst v') w') :
    wpList Try.prog ops Q (o :: rest) a W := by
  obtain ⟨i0, hi, hz0, hz1, hz2⟩ := info_parts infoRow
  obtain ⟨vals, hl, hv, hr⟩ := hown
  rcases A with _ | ad
  · have hn0 : n = 0 := by
      rcases Nat.eq_zero_or_pos n with h0 | h0
      · exact h0
      · obtain ⟨b, o', e, _⟩ := hI.row h0
        cases e
    subst hn0
    have hc0 := hcap rfl
    subst hc0
    have hy0 : U = [] := List.eq_nil_of_length_eq_zero hI.len
    subst hy0
    refine wpList_append_own_none hgd s x 22 ho base 23 i0 1 Try.underlying22 hi _ T.length _ hs hv hx ?_
    refine h _ _ ?_ (Below.refl _ _)
    rw [List.append_nil]
    exact ⟨vals, hl, hv, hr⟩
  · obtain ⟨news, hnews⟩ : ∃ news : List Value, news = (List.range n).map (fun j => (W.cell? (ad.add j)).getD (.slice none 0 0)) := ⟨_, rfl⟩
    have hnl : news.length = n := by rw [hnews]; simp
    have hrow : ∀ j, j < n → ∃ Aj nj cj, W.cell? (ad.add j) = some (.slice Aj nj cj) ∧ Ints W Aj nj (U.getD j []) ∧ Cap nj cj ∧ (Aj = none → cj = 0) := by
      intro j hj
      obtain ⟨b, off, e, _, hc⟩ := hI.row (by omega)
      injection e with e
      subst e
      have ha : (⟨b, off, none⟩ : Addr).add j = ⟨b, off + j, none⟩ := by unfold Addr.add; split <;> simp_all
      rw [ha]
      exact hc j hj
    have hat : ∀ j, j < n → news[j]? = some ((W.cell? (ad.add j)).getD (.slice none 0 0)) := by
      intro j hj
      rw [hnews, List.getElem?_map, List.getElem?_range hj]
      rfl
    refine wpList_append_own _ hgd s x 22 ho base 23 i0 (.slice none 0 0) 1 24 Try.underlying22 hi hz0 hz1 hz2 rfl (by decide) v T.length vals hs hv
      ad n c news hx (by rw [hnl, Nat.mul_one]) (fun j u hj => ?_) (fun u hu => ?_) (by unfold maxLen; omega) (by omega) hbase ?_
    · have hjn : j < n := by
        rcases Nat.lt_or_ge j n with h1 | h1
        · exact h1
        · rw [List.getElem?_eq_none (by omega)] at hj
          cases hj
      obtain ⟨Aj, nj, cj, h1, _⟩ := hrow j hjn
      rw [hat j hjn, h1] at hj
      rw [h1]
      exact hj
    · obtain ⟨j, hj, rfl⟩ := List.getElem_of_mem hu
      rw [hnl] at hj
      obtain ⟨Aj, nj, cj, h1, _⟩ := hrow j hj
      have h2 := hat j hj
      rw [List.getElem?_eq_getElem (by omega), h1] at h2
      replace h2 := Option.some.inj h2
      rw [h2]
      rfl
    · intro v' w' h1 h2 _
      have hB : Below base W w' := ⟨h2.os, h2.tape, h2.output, h2.size, fun k hk => h2.block k (by omega) (fun e => by have := World.ownsRow.lt hv k e.symm; omega)⟩
      have hkeep : ∀ {Aj nj} {r : List Int}, Ints W Aj nj r → Ints w' Aj nj r := by
        intro Aj nj r hr'
        refine ⟨hr'.len, fun hp => ?_⟩
        obtain ⟨b, off, e, hlt, hc⟩ := hr'.row hp
        refine ⟨b, off, e, Nat.lt_of_lt_of_le hlt h2.size, fun j hj => ?_⟩
        have hcj := hc j hj
        rw [World.cell?_of_block (a := ⟨b, off + j, none⟩) (h2.block b hlt (fun e2 => ?_))]
        · exact hcj
        · rcases hv.2 with ⟨rfl, _⟩ | ⟨g, cap, cur, rfl, _, hh, _, _, hsz, htk⟩
          · cases e2
          · simp only [Value.ownBlock, Option.some.injEq] at e2
            subst e2
            have hcp := hfull b T.length cap rfl
            subst hcp
            rw [Nat.mul_one] at hsz htk
            rw [List.take_of_length_le (by simp [hsz])] at htk
            have hcv : (W.cell? ⟨b, off + j, none⟩) = cur[off + j]? := by simp [World.cell?, hh]
            rw [hcv] at hcj
            have hlt2 : off + j < T.length := by
              have := (Array.getElem?_eq_some_iff.1 hcj).1
              omega
            obtain ⟨Aj, nj, cj, k1, _⟩ := hr (off + j) hlt2
            have hv2 : vals[off + j]? = some (.int .i64 (r.getD j 0)) := by rw [← htk, Array.getElem?_toList]; exact hcj
            rw [List.getD_eq_getElem?_getD, hv2] at k1
            cases k1
      refine h v' w' ⟨vals ++ news, by rw [List.length_append, List.length_append, hl, hnl, hI.len], by rw [List.length_append, hI.len]; exact h1, fun j hj => ?_⟩ hB
      rw [List.length_append, hI.len] at hj
      by_cases e : j < T.length
      · obtain ⟨Aj, nj, cj, k1, k2, k3⟩ := hr j e
        refine ⟨Aj, nj, cj, ?_, ?_, k3⟩
        · rw [List.getD_eq_getElem?_getD, List.getElem?_append_left (by omega), ← List.getD_eq_getElem?_getD]
          exact k1
        · rw [List.getD_eq_getElem?_getD, List.getElem?_append_left e, ← List.getD_eq_getElem?_getD]
          exact hkeep k2
      · obtain ⟨Aj, nj, cj, k1, k2, k3⟩ := hrow (j - T.length) (by omega)
        refine ⟨Aj, nj, cj, ?_, ?_, k3⟩
        · rw [List.getD_eq_getElem?_getD, List.getElem?_append_right (by omega), hl, hat _ (by omega), k1]
          rfl
        · rw [List.getD_eq_getElem?_getD, List.getElem?_append_right (by omega), ← List.getD_eq_getElem?_getD]
          exact hkeep k2

/-- The same in a region that draws. -/
theorem step_appRows {ops : Array Oper} {o : Oper} {a : Act} {K : Act → World → Prop} {Q : Exit → Act → World → Prop} {E : Prop} (W : World) (hgd : o.guard = none) (s x : Operand)
    (ho : o.op = .call { callee := .builtin .append, args := #[s, x], argTypes := #[22, 22] })
    (base : Nat) (v : Value) (T : List (List Int)) (hs : a.eval s = v) (ad : Addr) (n c : Nat) (U : List (List Int)) (hx : a.eval x = .slice (some ad) n c) (hown : ORows W base v T) (hI : RRows W (some ad) n U)
    (hfull : ∀ g n' cap, v = .slice (some ⟨g, 0, none⟩) n' cap → cap = n') (hlen : T.length + n ≤ 1000000000) (hbase : base ≤ W.heap.size)
    (h : ∀ v' w', ORows w' base v' (T ++ U) → Below base W w' → K (a.put o.dst v') w') :
    if Region.wanted o (yielded ops a.tmps) = true then Oper.wp Try.prog o a W K Q else E := by
  have hwn : Region.wanted o (yielded ops a.tmps) = true := by simp [Region.wanted, hgd]
  rw [if_pos hwn]
  obtain ⟨i0, hi, hz0, hz1, hz2⟩ := info_parts infoRow
  obtain ⟨vals, hl, hv, hr⟩ := hown
  obtain ⟨news, hnews⟩ : ∃ news : List Value, news = (List.range n).map (fun j => (W.cell? (ad.add j)).getD (.slice none 0 0)) := ⟨_, rfl⟩
  have hnl : news.length = n := by rw [hnews]; simp
  have hrow : ∀ j, j < n → ∃ Aj nj cj, W.cell? (ad.add j) = some (.slice Aj nj cj) ∧ Ints W Aj nj (U.getD j []) ∧ Cap nj cj ∧ (Aj = none → cj = 0) := by
    intro j hj
    obtain ⟨b, off, e, _, hc⟩ := hI.row (by omega)
    injection e with e
    subst e
    have ha : (⟨b, off, none⟩ : Addr).add j = ⟨b, off + j, none⟩ := by unfold Addr.add; split <;> simp_all
    rw [ha]
    exact hc j hj
  have hat : ∀ j, j < n → news[j]? = some ((W.cell? (ad.add j)).getD (.slice none 0 0)) := by
    intro j hj
    rw [hnews, List.getElem?_map, List.getElem?_range hj]
    rfl
  refine wp_append_own _ s x 22 ho base 23 i0 (.slice none 0 0) 1 24 Try.underlying22 hi hz0 hz1 hz2 rfl (by decide) v T.length vals hs hv
    ad n c news hx (by rw [hnl, Nat.mul_one]) (fun j u hj => ?_) (fun u hu => ?_) (by unfold maxLen; omega) (by omega) hbase ?_
  · have hjn : j < n := by
      rcases Nat.lt_or_ge j n with h1 | h1
      · exact h1
      · rw [List.getElem?_eq_none (by omega)] at hj
        cases hj
    obtain ⟨Aj, nj, cj, h1, _⟩ := hrow j hjn
    rw [hat j hjn, h1] at hj
    rw [h1]
    exact hj
  · obtain ⟨j, hj, rfl⟩ := List.getElem_of_mem hu
    rw [hnl] at hj
    obtain ⟨Aj, nj, cj, h1, _⟩ := hrow j hj
    have h2 := hat j hj
    rw [List.getElem?_eq_getElem (by omega), h1] at h2
    replace h2 := Option.some.inj h2
    rw [h2]
    rfl
  · intro v' w' h1 h2 _
    have hB : Below base W w' := ⟨h2.os, h2.tape, h2.output, h2.size, fun k hk => h2.block k (by omega) (fun e => by have := World.ownsRow.lt hv k e.symm; omega)⟩
    have hkeep : ∀ {Aj nj} {r : List Int}, Ints W Aj nj r → Ints w' Aj nj r := by
      intro Aj nj r hr'
      refine ⟨hr'.len, fun hp => ?_⟩
      obtain ⟨b, off, e, hlt, hc⟩ := hr'.row hp
      refine ⟨b, off, e, Nat.lt_of_lt_of_le hlt h2.size, fun j hj => ?_⟩
      have hcj := hc j hj
      rw [World.cell?_of_block (a := ⟨b, off + j, none⟩) (h2.block b hlt (fun e2 => ?_))]
      · exact hcj
      · rcases hv.2 with ⟨rfl, _⟩ | ⟨g, cap, cur, rfl, _, hh, _, _, hsz, htk⟩
        · cases e2
        · simp only [Value.ownBlock, Option.some.injEq] at e2
          subst e2
          have hcp := hfull b T.length cap rfl
          subst hcp
          rw [Nat.mul_one] at hsz htk
          rw [List.take_of_length_le (by simp [hsz])] at htk
          have hcv : (W.cell? ⟨b, off + j, none⟩) = cur[off + j]? := by simp [World.cell?, hh]
          rw [hcv] at hcj
          have hlt2 : off + j < T.length := by
            have := (Array.getElem?_eq_some_iff.1 hcj).1
            omega
          obtain ⟨Aj, nj, cj, k1, _⟩ := hr (off + j) hlt2
          have hv2 : vals[off + j]? = some (.int .i64 (r.getD j 0)) := by rw [← htk, Array.getElem?_toList]; exact hcj
          rw [List.getD_eq_getElem?_getD, hv2] at k1
          cases k1
    refine h v' w' ⟨vals ++ news, by rw [List.length_append, List.length_append, hl, hnl, hI.len], by rw [List.length_append, hI.len]; exact h1, fun j hj => ?_⟩ hB
    rw [List.length_append, hI.len] at hj
    by_cases e : j < T.length
    · obtain ⟨Aj, nj, cj, k1, k2, k3⟩ := hr j e
      refine ⟨Aj, nj, cj, ?_, ?_, k3⟩
      · rw [List.getD_eq_getElem?_getD, List.getElem?_append_left (by omega), ← List.getD_eq_getElem?_getD]
        exact k1
      · rw [List.getD_eq_getElem?_getD, List.getElem?_append_left e, ← List.getD_eq_getElem?_getD]
        exact hkeep k2
    · obtain ⟨Aj, nj, cj, k1, k2, k3⟩ := hrow (j - T.length) (by omega)
      refine ⟨Aj, nj, cj, ?_, ?_, k3⟩
      · rw [List.getD_eq_getElem?_getD, List.getElem?_append_right (by omega), hl, hat _ (by omega), k1]
        rfl
      · rw [List.getD_eq_getElem?_getD, List.getElem?_append_right (by omega), ← List.getD_eq_getElem?_getD]
        exact hkeep k2

end Go.Proofs.Ytbcjfiobggggjaa

/-
  Rows of rows, all of it the call's own: what comes of an append, and of other memory that turns.
-/
namespace Go.Proofs.Ytbcjfiobggggjaa
open Go.RowKit

theorem BRows.nil (w : World) (base : Nat) : BRows w base (.slice none 0 0) [] := ⟨[], rfl, World.ownsRow_nil w base 23 1, fun _ hj => absurd hj (Nat.not_lt_zero _)⟩
theorem BRows.keep {w w' : World} {base : Nat} {v : Value} {T : List (List Int)} (h : BRows w base v T) (hb : Below w.heap.size w w') : BRows w' base v T := by
  obtain ⟨vals, hl, ho, hv⟩ := h
  exact ⟨vals, hl, own_keep ho hb, fun j hj => (hv j hj).keep hb⟩
theorem BRows.drewN {w : World} {base : Nat} {v : Value} {T : List (List Int)} (h : BRows w base v T) (n : Nat) : BRows (w.drewN n) base v T := h
theorem BRows.rows2 {w : World} {base : Nat} {v : Value} {T : List (List Int)} (h : BRows w base v T) : Rows2 w base v T := by
  obtain ⟨vals, hl, ho, hv⟩ := h
  exact ⟨vals, hl, ho, fun j hj => (hv j hj).mono (Nat.zero_le _)⟩
theorem BRows.form {w : World} {base : Nat} {v : Value} {T : List (List Int)} (h : BRows w base v T) : ∃ A c, v = .slice A T.length c ∧ Cap T.length c := h.rows2.form
/-- What lies at place j. -/
theorem BRows.at {w : World} {base : Nat} {v : Value} {T : List (List Int)} (h : BRows w base v T) {j : Nat} (hj : j < T.length) :
    ∃ g cap u, v = .slice (some ⟨g, 0, none⟩) T.length cap ∧ base ≤ g ∧ g < w.heap.size ∧ w.cell? ⟨g, j, none⟩ = some u ∧ w.frozen? ⟨g, j, none⟩ = false ∧ OwnInts w base u (T.getD j []) := by
  obtain ⟨vals, hl, ho, hv⟩ := h
  have ho' := ho
  rcases ho'.2 with ⟨_, h0⟩ | ⟨g, cap, cur, rfl, hb, hh, _⟩
  · omega
  · refine ⟨g, cap, vals.getD j (.slice none 0 0), by rw [hl], hb, (Array.getElem?_eq_some_iff.1 hh).1, ?_, World.ownsRow.frozenAt ho j, hv j hj⟩
    rw [World.ownsRow.cellAt ho j (by omega), List.getD_eq_getElem?_getD, List.getElem?_eq_getElem (by omega)]
    rfl
/-- As rows that are only read. -/
theorem BRows.orows {w : World} {base : Nat} {v : Value} {T : List (List Int)} (h : BRows w base v T) : ORows w base v T := by
  obtain ⟨vals, hl, ho, hv⟩ := h
  rw [hl] at ho
  refine ⟨vals, hl, ho, fun j hj => ?_⟩
  have hw := hv j hj
  obtain ⟨A, c, e, hI, hc⟩ := hw.ints
  refine ⟨A, _, c, e, hI, hc, fun e0 => ?_⟩
  rcases hw.2 with ⟨e1, _⟩ | ⟨g, cap, cur, e1, _⟩
  · rw [e1] at e
    injection e with _ _ e3
    exact e3.symm
  · rw [e1, e0] at e
    injection e with e2
    cases e2
theorem BRows.rrows {w : World} {base : Nat} {v : Value} {T : List (List Int)} (h : BRows w base v T) : ∃ A c, v = .slice A T.length c ∧ RRows w A T.length T ∧ Cap T.length c ∧ (A = none → c = 0) := h.orows.rrows
theorem BRows.lt {w : World} {base : Nat} {v : Value} {T : List (List Int)} (h : BRows w base v T) : ∀ k, v.ownBlock = some k → base ≤ k ∧ k < w.heap.size := h.rows2.lt

theorem own_other {w w' : World} {base base2 n m e e2 s1 s2 : Nat} {v u : Value} {xs ys : List Value} (h : w.ownsRow base e s1 v n xs) (ho : w.ownsRow base2 e2 s2 u m ys) (hne : e ≠ e2) (hg : w.grownBy w' u.ownBlock) : w'.ownsRow base e s1 v n xs := by
  refine World.ownsRow.kept h hg ?_
  rcases h.2 with ⟨rfl, _⟩ | ⟨g, cap, cur, rfl, _, hh, _⟩
  · exact .inl rfl
  · right
    rcases ho.2 with ⟨rfl, _⟩ | ⟨g2, cap2, cur2, rfl, _, hh2, _⟩
    · simp [Value.ownBlock]
    · simp only [Value.ownBlock, ne_eq, Option.some.injEq]
      intro e9
      rw [e9, hh2] at hh
      injection hh with hh
      injection hh with _ hh
      exact absurd hh.symm hne

/-- A block of numbers, not of rows, has turned. -/
theorem BRows.inner {w w' : World} {base base2 m : Nat} {v u : Value} {T : List (List Int)} {ys : List Value} (h : BRows w base v T) (ho : w.ownsRow base2 23 1 u m ys) (ha : ApartV u v) (hg : w.grownBy w' u.ownBlock) : BRows w' base v T := by
  obtain ⟨vals, hl, hv, he⟩ := h
  refine ⟨vals, hl, World.ownsRow.kept hv hg ?_, fun j hj => (he j hj).other ho hg⟩
  rcases e : v.ownBlock with _ | k
  · exact .inl rfl
  · right
    intro e2
    exact ha k e2.symm e

/-- 'out = append(out, y)', all of it the call's own; what else was there is as it was. -/
theorem wpList_appBR {ops : Array Oper} {rest : List Oper} {o : Oper} {a : Act} {Q : Exit → Act → World → Prop} (W : World) (hgd : o.guard = none) (s x : Operand)
    (ho : o.op = .call { callee := .builtin .append, args := #[s, x], argTypes := #[22, 22] })
    (base : Nat) (v : Value) (T : List (List Int)) (y : Value) (ys : List Int) (hs : a.eval s = v) (hx : a.eval x = .slice (some ⟨W.heap.size, 0, none⟩) 1 1) (hown : BRows W base v T) (hy : OwnInts W base y ys)
    (hlen : T.length ≤ 1000000000000) (hbase : base ≤ W.heap.size)
    (h : ∀ v' w', BRows w' base v' (T ++ [ys]) → W.grownBy w' v.ownBlock → Below base W w' → wpList Try.prog ops Q rest (a.put o.dst v') w') :
    wpList Try.prog ops Q (o :: rest) a (W.alloc (.cells #[y] 23)) := by
  obtain ⟨i0, hi, hz0, hz1, hz2⟩ := info_parts infoRow
  obtain ⟨vals, hl, hv, he⟩ := hown
  refine wpList_append_own _ hgd s x 22 ho base 23 i0 (.slice none 0 0) 1 24 Try.underlying22 hi hz0 hz1 hz2 rfl (by decide) v vals.length vals hs (World.ownsRow.alloc hv _)
    ⟨W.heap.size, 0, none⟩ 1 1 [y] hx rfl (cell_oneV W y) (by intro u hu; simp at hu; subst hu; exact own_oneCell hy) (by unfold maxLen; omega) (by omega) (by simp; omega) ?_
  intro v' w' h1 h2 _
  have hg : W.grownBy w' v.ownBlock := ⟨h2.os, h2.tape, h2.output, Nat.le_trans (by simp) h2.size, fun k hk hne => (h2.block k (by simp; omega) hne).trans (Below.heap_alloc W _ k hk)⟩
  refine h v' w' ⟨vals ++ [y], by simp [hl], by simpa using h1, fun j hj => ?_⟩ hg ?_
  · rw [List.length_append] at hj
    simp only [List.length_cons, List.length_nil] at hj
    by_cases e : j < T.length
    · have := (he j e).other hv hg
      simpa [List.getD_eq_getElem?_getD, List.getElem?_append_left (hl ▸ e), List.getElem?_append_left e] using this
    · have ej : j = T.length := by omega
      subst ej
      have := hy.other hv hg
      rw [List.getD_eq_getElem?_getD, List.getD_eq_getElem?_getD, List.getElem?_append_right (by omega), List.getElem?_append_right (Nat.le_refl _), hl]
      simpa using this
  · refine ⟨hg.os, hg.tape, hg.output, hg.size, fun k hk => hg.block k (by omega) (fun e => ?_)⟩
    have := World.ownsRow.lt hv k e.symm
    omega

/-- '[][]int{y}'. -/
theorem BRows.one {w : World} {base : Nat} {y : Value} {ys : List Int} (hy : OwnInts w base y ys) (hb : base ≤ w.heap.size) : BRows (w.alloc (.cells #[y] 23)) base (.slice (some ⟨w.heap.size, 0, none⟩) 1 1) [ys] := by
  refine ⟨[y], rfl, own_mono (World.ownsRow_lit w #[y] 1 (Nat.le_refl _) (by unfold maxLen; omega) rfl) hb, fun j hj => ?_⟩
  have : j = 0 := by simp at hj; omega
  subst this
  exact hy.keep (below_alloc w _)

end Go.Proofs.Ytbcjfiobggggjaa

/-
  perm.Check: its answer is permErr of the list.
-/
namespace Go.Proofs.Ytbcjfiobggggjaa
open Go.RowKit

set_option maxHeartbeats 400000 in
theorem check_large (A : Option Addr) (n c : Nat) (w : World) (hn : 10 < n) (hm : n ≤ 9223372036854775807) :
    Calls Try.prog 49 #[.slice A n c] w fun e w' => e = .returned (.int .i64 2) ∧ w = w' := by
  go_enter Try.func49, Try.ntmps49
  go_wp2
  go_ret
  exact ⟨rfl, rfl⟩

theorem step_seen {xs : List Int} {k m : Nat} (hk : k < xs.length) (hx : xs.getD k 0 = (m : Int)) (j : Nat) :
    (if j = m then Value.bool true else Value.bool (decide ((j : Int) ∈ xs.take k))) = Value.bool (decide ((j : Int) ∈ xs.take (k + 1))) := by
  have e : xs.take (k + 1) = xs.take k ++ [(m : Int)] := by
    rw [List.take_succ_eq_append_getElem hk, ← hx, List.getD_eq_getElem?_getD, List.getElem?_eq_getElem hk]
    rfl
  rw [e]
  by_cases hj : j = m
  · subst hj
    simp
  · rw [if_neg hj]
    congr 1
    have : ¬ (j : Int) = (m : Int) := by omega
    simp [this]

theorem seen_start (w : World) (xs : List Int) : (w.alloc (Obj.cells #[Value.bool false, Value.bool false, Value.bool false, Value.bool false, Value.bool false, Value.bool false,
      Value.bool false, Value.bool false, Value.bool false, Value.bool false] 93)).rowIs w.heap.size 93 10 (fun j => .bool (decide ((j : Int) ∈ xs.take 0))) := by
  refine World.rowIs_alloc w _ _ _ fun i hi => ?_
  simp only [List.take_zero, List.not_mem_nil, decide_false]
  match i, hi with
  | 0, _ | 1, _ | 2, _ | 3, _ | 4, _ | 5, _ | 6, _ | 7, _ | 8, _ | 9, _ => rfl

set_option maxHeartbeats 400000 in
theorem check_small (A : Option Addr) (n c : Nat) (xs : List Int) (w : World) (h : Ints w A n xs) (hn : n ≤ 10) :
    Calls Try.prog 49 #[.slice A n c] w fun e w' => e = .returned (.int .i64 (permErr xs)) ∧ Below w.heap.size w w' := by
  have h10 : decide (10 < (n : Int)) = false := by simp; omega
  go_enter Try.func49, Try.ntmps49
  go_wp2
  go_loopg [11] n (fun g s wr => ∃ k : Nat, k ≤ n ∧ n - k ≤ g ∧ s = .int .i64 k ∧ wr.rowIs w.heap.size 93 10 (fun j => .bool (decide ((j : Int) ∈ xs.take k))) ∧ Below w.heap.size w wr ∧
      ∀ j, j < k → 0 ≤ xs.getD j 0 ∧ xs.getD j 0 < xs.length ∧ xs.getD j 0 ∉ xs.take j)
  case atStart => exact ⟨0, Nat.zero_le _, by omega, rfl, seen_start w xs, (Below.refl _ _).alloc (Nat.le_refl _) _, fun j hj => absurd hj (Nat.not_lt_zero _)⟩
  case round =>
    obtain ⟨k, hk, hg, rfl, hrow, hbel, hall⟩ := hrel
    have HA := hid hall
    have HR := hid hrow
    have HB := hid hbel
    clear hall hrow hbel
    by_cases hlt : k < n
    · obtain ⟨b, o, rfl, hb, hc⟩ := h.row (by omega)
      have HL := hid h.len
      have g1 : wr.cell? ⟨b, o + k, none⟩ = some (.int .i64 (xs.getD k 0)) := (HB.out.cell (p := ⟨b, o + k, none⟩) hb).trans (hc k hlt)
      have hbad : xs.getD k 0 < 0 ∨ (xs.length : Int) ≤ xs.getD k 0 ∨ xs.getD k 0 ∈ xs.take k → permErr xs = 3 := fun hx => permErr_bad (by rw [HL.out]; exact hn) (not_isPerm_of_step (by rw [HL.out]; exact hlt) hx)
      have HBAD := hid hbad
      clear hc h hbad
      generalize hxk : xs.getD k 0 = x at g1
      have HX := hid hxk
      clear hxk
      by_cases h0 : x < 0
      · go_wp2
        go_ret
        rw [HBAD.out (by rw [HX.out]; exact Or.inl h0)]
        exact ⟨rfl, HB.out⟩
      · have h0' : 0 ≤ x := by omega
        obtain ⟨m, rfl⟩ := Int.eq_ofNat_of_zero_le h0'
        clear h0 h0'
        have d0 : decide ((m : Int) < 0) = false := by simp
        by_cases h1 : n ≤ m
        · have d1 : decide ((n : Int) ≤ (m : Int)) = true := by simp; omega
          go_wp2
          go_ret
          rw [HBAD.out (by rw [HX.out, HL.out]; exact Or.inr (Or.inl (by omega)))]
          exact ⟨rfl, HB.out⟩
        · have d1 : decide ((n : Int) ≤ (m : Int)) = false := by simp; omega
          have hm : m < n := by omega
          have g2 : wr.cell? ⟨w.heap.size, m, none⟩ = some (.bool (decide ((m : Int) ∈ xs.take k))) := HR.out.cell (by omega)
          have g3 : wr.frozen? ⟨w.heap.size, m, none⟩ = false := HR.out.frozen m
          by_cases h2 : (m : Int) ∈ xs.take k
          · rw [decide_eq_true h2] at g2
            have H2 := hid h2
            clear h2
            go_wp2
            go_ret
            rw [HBAD.out (by rw [HX.out]; exact Or.inr (Or.inr H2.out))]
            exact ⟨rfl, HB.out⟩
          · rw [decide_eq_false h2] at g2
            have H2 := hid h2
            clear h2
            go_wp2
            go_roundg (n - (k + 1))
            case measure => omega
            case rel =>
              refine ⟨k + 1, by omega, by omega, by go_num, (HR.out.set m (.bool true)).congr (fun j _ => step_seen (by rw [HL.out]; exact hlt) HX.out j), HB.out.setCell (Nat.le_refl _) _, fun j hj => ?_⟩
              by_cases e : j = k
              · subst e
                rw [HX.out, HL.out]
                exact ⟨by omega, by omega, H2.out⟩
              · exact HA.out j (by omega)
    · have hkn : k = n := by omega
      subst hkn
      go_wp2
      go_ret
      rw [permErr_ok.2 ⟨by rw [h.len]; exact hn, isPerm_of_steps (by rw [h.len]; rw [h.len] at HA; exact HA.out)⟩]
      exact ⟨rfl, HB.out⟩

/-- perm.Check, whatever the slice. -/
theorem check_any (A : Option Addr) (n c : Nat) (xs : List Int) (w : World) (h : Ints w A n xs) (hm : n ≤ 9223372036854775807) :
    Calls Try.prog 49 #[.slice A n c] w fun e w' => e = .returned (.int .i64 (permErr xs)) ∧ Below w.heap.size w w' := by
  by_cases hn : 10 < n
  · refine (check_large A n c w hn hm).mono ?_
    rintro e w' ⟨rfl, rfl⟩
    have e : permErr xs = 2 := if_pos (by rw [h.len]; exact hn)
    rw [e]
    exact ⟨rfl, Below.refl _ _⟩
  · refine (check_small A n c xs w h (by omega)).mono ?_
    rintro e w' ⟨rfl, hb⟩
    exact ⟨rfl, hb⟩

end Go.Proofs.Ytbcjfiobggggjaa

/-
  perm.Times: the composition, or the error.
-/
namespace Go.Proofs.Ytbcjfiobggggjaa
open Go.RowKit

/-- The composition: i goes to a[b[i]]. -/
def times (a b : List Int) : List Int := b.map (fun v => a.getD v.toNat 0)
/-- P4's error of Times. -/
def timesErr (a b : List Int) : Int := if permErr a = 0 then (if permErr b = 0 then (if a.length = b.length then 0 else 1) else permErr b) else permErr a
def timesRes (a b : List Int) : List Int := if timesErr a b = 0 then times a b else []

theorem getD_times {a b : List Int} {k : Nat} (hk : k < b.length) : (times a b).getD k 0 = a.getD (b.getD k 0).toNat 0 := by
  simp [times, List.getD_eq_getElem?_getD, List.getElem?_eq_getElem hk]
theorem length_times (a b : List Int) : (times a b).length = b.length := by simp [times]

set_option maxHeartbeats 800000 in
theorem times_own (A : Option Addr) (n c : Nat) (B : Option Addr) (d : Nat) (a b : List Int) (w : World) (hA : Ints w A n a) (hB : Ints w B n b) (ha : permErr a = 0) (hb : permErr b = 0) :
    Calls Try.prog 24 #[.slice A n c, .slice B n d] w (RetOwnE w (times a b) 0) := by
  have hn10 : n ≤ 10 := by rw [← hA.len]; exact (permErr_ok.1 ha).1
  have hpb := (permErr_ok.1 hb).2
  have HPB := hid hpb
  clear hpb
  have hnn : ((n : Int) != (n : Int)) = false := by simp
  go_enter Try.func24, Try.ntmps24
  go_wp2_with fail
  refine (check_any A n c a _ hA (by omega)).mono ?_
  rintro e w1 ⟨rfl, hb1⟩
  have hA1 := hA.keep hb1
  have hB1 := hB.keep hb1
  have HB1 := hid hb1
  clear hA hB hb1
  go_wp2_with fail
  refine (check_any B n d b _ hB1 (by omega)).mono ?_
  rintro e w2 ⟨rfl, hb2⟩
  have hA2 := hA1.keep hb2
  have hB2 := hB1.keep hb2
  have HB2 := hid (HB1.out.trans (hb2.mono HB1.out.size))
  clear hA1 hB1 hb2 HB1
  have hmk := fun W => run_make_row' (P := Try.prog) 23 3 (.int .i64 0) 8 Try.underlying23 infoInt rfl .i64 .i64 n (by omega) (by omega) W
  go_wp2_with fail
  go_loopg [31] n (fun g s wr => ∃ k : Nat, k ≤ n ∧ n - k ≤ g ∧ s = .int .i64 k ∧ wr.rowIs w2.heap.size 3 n (partCell (times a b) k) ∧ Below w2.heap.size w2 wr)
  case atStart => exact ⟨0, Nat.zero_le _, by omega, rfl, (World.rowIs_made w2 _ n _).congr (fun j _ => by simp [partCell]), (Below.refl _ _).alloc (Nat.le_refl _) _⟩
  case round =>
    obtain ⟨k, hk, hg, rfl, hrow, hbel⟩ := hrel
    have HR := hid hrow
    have HB := hid hbel
    clear hrow hbel hmk
    by_cases hlt : k < n
    · obtain ⟨b2, o2, rfl, hlt2, hc2⟩ := hB2.row (by omega)
      obtain ⟨b1, o1, rfl, hlt1, hc1⟩ := hA2.row (by omega)
      have HL := hid hB2.len
      have hkl : k < b.length := by rw [HL.out]; exact hlt
      have hr := HPB.out.range (getD_mem hkl)
      rw [HL.out] at hr
      have g1 : wr.cell? ⟨b2, o2 + k, none⟩ = some (.int .i64 (b.getD k 0)) := (HB.out.cell (p := ⟨b2, o2 + k, none⟩) hlt2).trans (hc2 k hlt)
      have hst := getD_times (a := a) hkl
      generalize hxk : b.getD k 0 = x at g1 hr hst
      obtain ⟨m, rfl⟩ := Int.eq_ofNat_of_zero_le hr.1
      have hm : m < n := by omega
      have g2 : wr.cell? ⟨b1, o1 + m, none⟩ = some (.int .i64 (a.getD m 0)) := (HB.out.cell (p := ⟨b1, o1 + m, none⟩) hlt1).trans (hc1 m hm)
      have g3 : wr.cell? ⟨w2.heap.size, k, none⟩ = some (partCell (times a b) k k) := HR.out.cell hlt
      have g4 : wr.frozen? ⟨w2.heap.size, k, none⟩ = false := HR.out.frozen k
      rw [Int.toNat_natCast] at hst
      have HS := hid hst
      clear hst hxk hc1 hc2 hr hA2 hB2 hkl
      generalize a.getD m 0 = y at g2 HS
      go_wp2
      go_roundg (n - (k + 1))
      case measure => omega
      case rel =>
        refine ⟨k + 1, by omega, by omega, by go_num, ?_, HB.out.setCell (Nat.le_refl _) _⟩
        exact (HR.out.set k (.int .i64 y)).congr (fun j _ => by rw [← HS.out]; exact partCell_step _ _ _)
    · have hkn : k = n := by omega
      subst hkn
      go_wp2
      go_ret2
      refine ⟨_, rfl, own_of_rowIs HR.out (by rw [length_times, hB2.len]) (fun j hj => ?_) HB2.out.size (by unfold maxLen; omega), HB2.out.trans (HB.out.mono HB2.out.size)⟩
      unfold partCell
      rw [if_pos hj]

theorem times_ok (A : Option Addr) (n c : Nat) (B : Option Addr) (d : Nat) (a b : List Int) (w : World) (hA : Ints w A n a) (hB : Ints w B n b) (ha : permErr a = 0) (hb : permErr b = 0) :
    Calls Try.prog 24 #[.slice A n c, .slice B n d] w (RetInts w (times a b) 0) := by
  refine (times_own A n c B d a b w hA hB ha hb).mono ?_
  rintro e w' ⟨v, rfl, ho, hbel⟩
  obtain ⟨A', c', rfl, hI, hc⟩ := ho.ints
  exact ⟨_, _, _, rfl, hbel, hI, hc⟩

end Go.Proofs.Ytbcjfiobggggjaa
