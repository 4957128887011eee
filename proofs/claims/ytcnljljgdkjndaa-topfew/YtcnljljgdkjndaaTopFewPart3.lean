/-
  Texts joined: Grid, TabI, TabO, TabE, TabX.
-/
import Derived.Test.YtcnljljgdkjndaaTopFewPart2
import Derived.Deep.AppendLies
import Derived.Deep.RegionHeld
import Derived.Laws.ResultCell

/-
  Words of my own for rows of rows of ints: rows that are only read, and rows that the call made and changes in place. Nothing of the program is proved here.
-/
namespace Go.Proofs.Ytcnljljgdkjndaa
open Go.RowKit

/-- The slice value '.slice A n c' holds the rows T in the world w; each of them is only read. -/
structure RRows (w : World) (A : Option Addr) (n : Nat) (T : List (List Int)) : Prop where
  len : T.length = n
  row : 0 < n → ∃ b off, A = some ⟨b, off, none⟩ ∧ b < w.heap.size ∧ ∀ j, j < n → ∃ Aj nj cj, w.cell? ⟨b, off + j, none⟩ = some (.slice Aj nj cj) ∧ Ints w Aj nj (T.getD j []) ∧ Cap nj cj ∧ (Aj = none → cj = 0)

theorem RRows.nil (w : World) (A : Option Addr) : RRows w A 0 [] := ⟨rfl, fun h => absurd h (by omega)⟩
theorem RRows.keep {w w' : World} {A : Option Addr} {n : Nat} {T : List (List Int)} (h : RRows w A n T) (hb : Below w.heap.size w w') : RRows w' A n T := by
  refine ⟨h.len, fun hn => ?_⟩
  obtain ⟨b, off, e, hlt, hc⟩ := h.row hn
  refine ⟨b, off, e, Nat.lt_of_lt_of_le hlt hb.size, fun j hj => ?_⟩
  obtain ⟨Aj, nj, cj, h1, h2, h3, h4⟩ := hc j hj
  exact ⟨Aj, nj, cj, (hb.cell (p := ⟨b, off + j, none⟩) hlt).trans h1, h2.keep hb, h3, h4⟩
theorem RRows.drewN {w : World} {A : Option Addr} {n : Nat} {T : List (List Int)} (h : RRows w A n T) (k : Nat) : RRows (w.drewN k) A n T := h.keep (below_drewN (Below.refl _ _) k)

/-- Blocks of fp alone may have turned. -/
structure Only (fp : Nat → Prop) (a b : World) : Prop where
  os : b.os = a.os
  tape : b.tape = a.tape
  output : b.output = a.output
  size : a.heap.size ≤ b.heap.size
  block : ∀ k, k < a.heap.size → ¬ fp k → b.heap[k]? = a.heap[k]?
/-- fp, and what has been made since. -/
def fpN (fp : Nat → Prop) (a b : Nat) (k : Nat) : Prop := fp k ∨ (a ≤ k ∧ k < b)

namespace Only
variable {fp : Nat → Prop} {a b c : World}
theorem refl (fp : Nat → Prop) (a : World) : Only fp a a := ⟨rfl, rfl, rfl, Nat.le_refl _, fun _ _ _ => rfl⟩
theorem trans (h : Only fp a b) (k : Only fp b c) : Only fp a c :=
  ⟨k.os.trans h.os, k.tape.trans h.tape, k.output.trans h.output, Nat.le_trans h.size k.size, fun i hi hn => (k.block i (Nat.lt_of_lt_of_le hi h.size) hn).trans (h.block i hi hn)⟩
theorem transN (h : Only fp a b) (k : Only (fpN fp a.heap.size b.heap.size) b c) : Only fp a c :=
  ⟨k.os.trans h.os, k.tape.trans h.tape, k.output.trans h.output, Nat.le_trans h.size k.size, fun i hi hn => (k.block i (Nat.lt_of_lt_of_le hi h.size) (fun e => e.elim hn (fun e => by omega))).trans (h.block i hi hn)⟩
theorem up {fp' : Nat → Prop} (h : Only fp a b) (hs : ∀ k, k < a.heap.size → fp k → fp' k) : Only fp' a b := ⟨h.os, h.tape, h.output, h.size, fun k hk hn => h.block k hk (fun e => hn (hs k hk e))⟩
theorem of_below (h : Below a.heap.size a b) : Only fp a b := ⟨h.os, h.tape, h.output, h.size, fun k hk _ => h.block k hk⟩
theorem below {B : Nat} (h : Only fp a b) (hB : B ≤ a.heap.size) (hf : ∀ k, fp k → B ≤ k) : Below B a b := ⟨h.os, h.tape, h.output, h.size, fun k hk => h.block k (by omega) (fun e => by have := hf k e; omega)⟩
theorem set {g : Nat} (h : Only fp a b) (hg : fp g) (j : Nat) (u : Value) : Only fp a (b.setCell ⟨g, j, none⟩ u) :=
  ⟨h.os, h.tape, h.output, by simpa [World.setCell] using h.size, fun i hi hne => (Below.heap_setCell b ⟨g, j, none⟩ u i (by rintro rfl; exact hne hg)).trans (h.block i hi hne)⟩
theorem grown {row : Option Nat} (h : Only fp a b) (hg : b.grownBy c row) (hr : ∀ k, row = some k → k < a.heap.size → fp k) : Only fp a c :=
  ⟨hg.os.trans h.os, hg.tape.trans h.tape, hg.output.trans h.output, Nat.le_trans h.size hg.size, fun k hk hn => (hg.block k (Nat.lt_of_lt_of_le hk h.size) (fun e => hn (hr k e.symm hk))).trans (h.block k hk hn)⟩
theorem drewN (h : Only fp a b) (n : Nat) : Only fp a (b.drewN n) := ⟨h.os, h.tape, h.output, h.size, h.block⟩
end Only

/-- v holds the rows T; all of it is the call's own, each row in a block of its own; all these blocks are in fp. -/
structure GridAt (w : World) (base : Nat) (fp : Nat → Prop) (v : Value) (vals : List Value) (T : List (List Int)) : Prop where
  len : vals.length = T.length
  own : w.ownsRow base 44 1 v T.length vals
  row : ∀ j, j < T.length → OwnInts w base (vals.getD j (.slice none 0 0)) (T.getD j [])
  apart : ∀ i j, i < T.length → j < T.length → i ≠ j → ∀ k, (vals.getD i (.slice none 0 0)).ownBlock = some k → (vals.getD j (.slice none 0 0)).ownBlock ≠ some k
  inV : ∀ k, v.ownBlock = some k → fp k
  inR : ∀ j, j < T.length → ∀ k, (vals.getD j (.slice none 0 0)).ownBlock = some k → fp k
  bound : ∀ k, fp k → base ≤ k ∧ k < w.heap.size
def Grid (w : World) (base : Nat) (fp : Nat → Prop) (v : Value) (T : List (List Int)) : Prop := ∃ vals, GridAt w base fp v vals T

theorem own_of_block {w w' : World} {base e size n : Nat} {v : Value} {xs : List Value} (h : w.ownsRow base e size v n xs) (hb : ∀ k, v.ownBlock = some k → w'.heap[k]? = w.heap[k]?) : w'.ownsRow base e size v n xs := by
  refine ⟨h.1, ?_⟩
  rcases h.2 with h0 | ⟨g, cap, cur, hv, hg, hh, r⟩
  · exact .inl h0
  · exact .inr ⟨g, cap, cur, hv, hg, (hb g (by rw [hv]; rfl)).trans hh, r⟩
theorem one_refl2 (w : World) (row : Option Nat) : w.grownBy w row := ⟨rfl, rfl, rfl, Nat.le_refl _, fun _ _ _ => rfl⟩
theorem own_apart {w : World} {base base2 n m size : Nat} {v u : Value} {xs ys : List Value} (h : w.ownsRow base 3 size v n xs) (ho : w.ownsRow base2 44 1 u m ys) : ∀ k, v.ownBlock = some k → u.ownBlock ≠ some k := by
  intro k hk e2
  rcases h.2 with ⟨rfl, _⟩ | ⟨g, cap, cur, rfl, _, hh, _⟩
  · cases hk
  · rcases ho.2 with ⟨rfl, _⟩ | ⟨g2, cap2, cur2, rfl, _, hh2, _⟩
    · cases e2
    · simp only [Value.ownBlock, Option.some.injEq] at hk e2
      subst hk
      rw [e2] at hh2
      rw [hh2] at hh
      injection hh with hh
      injection hh with _ hh
      exact absurd hh (by decide)

theorem GridAt.only {w w' : World} {base : Nat} {fp fp2 : Nat → Prop} {v : Value} {vals : List Value} {T : List (List Int)} (h : GridAt w base fp v vals T) (ho : Only fp2 w w') (ha : ∀ k, fp k → ¬ fp2 k) : GridAt w' base fp v vals T := by
  refine ⟨h.len, own_of_block h.own (fun k hk => ?_), fun j hj => own_of_block (h.row j hj) (fun k hk => ?_), h.apart, h.inV, h.inR, fun k hk => ⟨(h.bound k hk).1, Nat.lt_of_lt_of_le (h.bound k hk).2 ho.size⟩⟩
  · exact ho.block k (h.bound k (h.inV k hk)).2 (ha k (h.inV k hk))
  · exact ho.block k (h.bound k (h.inR j hj k hk)).2 (ha k (h.inR j hj k hk))
theorem Grid.only {w w' : World} {base : Nat} {fp fp2 : Nat → Prop} {v : Value} {T : List (List Int)} (h : Grid w base fp v T) (ho : Only fp2 w w') (ha : ∀ k, fp k → ¬ fp2 k) : Grid w' base fp v T := by
  obtain ⟨vals, h⟩ := h
  exact ⟨vals, h.only ho ha⟩
theorem Grid.keep {w w' : World} {base : Nat} {fp : Nat → Prop} {v : Value} {T : List (List Int)} (h : Grid w base fp v T) (hb : Below w.heap.size w w') : Grid w' base fp v T :=
  h.only (Only.of_below (fp := fun _ => False) hb) (fun _ _ e => e)
theorem Grid.bound {w : World} {base : Nat} {fp : Nat → Prop} {v : Value} {T : List (List Int)} (h : Grid w base fp v T) : ∀ k, fp k → base ≤ k ∧ k < w.heap.size := by
  obtain ⟨vals, h⟩ := h
  exact h.bound
theorem Grid.up {w : World} {base : Nat} {fp fp' : Nat → Prop} {v : Value} {T : List (List Int)} (h : Grid w base fp v T) (h1 : ∀ k, fp k → fp' k) (h2 : ∀ k, fp' k → base ≤ k ∧ k < w.heap.size) : Grid w base fp' v T := by
  obtain ⟨vals, h⟩ := h
  exact ⟨vals, h.len, h.own, h.row, h.apart, fun k hk => h1 k (h.inV k hk), fun j hj k hk => h1 k (h.inR j hj k hk), h2⟩
theorem Grid.nil (w : World) (base : Nat) : Grid w base (fun _ => False) (.slice none 0 0) [] :=
  ⟨[], rfl, World.ownsRow_nil w base 44 1, fun _ hj => absurd hj (Nat.not_lt_zero _), fun _ _ hj => absurd hj (Nat.not_lt_zero _), fun _ hk => (by cases hk), fun _ hj => absurd hj (Nat.not_lt_zero _), fun _ hk => hk.elim⟩
theorem Grid.drewN {w : World} {base : Nat} {fp : Nat → Prop} {v : Value} {T : List (List Int)} (h : Grid w base fp v T) (n : Nat) : Grid (w.drewN n) base fp v T := h.keep (below_drewN (Below.refl _ _) n)
theorem Grid.form {w : World} {base : Nat} {fp : Nat → Prop} {v : Value} {T : List (List Int)} (h : Grid w base fp v T) : ∃ A c, v = .slice A T.length c ∧ Cap T.length c := by
  obtain ⟨vals, h⟩ := h
  rcases h.own.2 with ⟨rfl, h0⟩ | ⟨g, cap, cur, rfl, _, _, h1, h2, _⟩
  · exact ⟨none, 0, by rw [h0], by rw [h0]; exact ⟨Nat.le_refl _, by omega⟩⟩
  · exact ⟨_, _, rfl, h1, by unfold maxLen at h2; exact h2⟩

theorem getD_vals {vals : List Value} {j : Nat} (hj : j < vals.length) : vals[j]? = some (vals.getD j (.slice none 0 0)) := by
  rw [List.getD_eq_getElem?_getD, List.getElem?_eq_getElem hj]
  rfl
/-- What lies at place j. -/
theorem Grid.at {w : World} {base : Nat} {fp : Nat → Prop} {v : Value} {T : List (List Int)} (h : Grid w base fp v T) {j : Nat} (hj : j < T.length) :
    ∃ g cap u, v = .slice (some ⟨g, 0, none⟩) T.length cap ∧ w.cell? ⟨g, j, none⟩ = some u ∧ w.frozen? ⟨g, j, none⟩ = false ∧ OwnInts w base u (T.getD j []) := by
  obtain ⟨vals, h⟩ := h
  rcases h.own.2 with ⟨_, h0⟩ | ⟨g, cap, cur, rfl, _, hh, _⟩
  · omega
  · refine ⟨g, cap, vals.getD j (.slice none 0 0), rfl, ?_, World.ownsRow.frozenAt h.own j, h.row j hj⟩
    rw [World.ownsRow.cellAt h.own j (by omega), getD_vals (by rw [h.len]; exact hj)]
theorem GridAt.cell_eq {w : World} {base g n cap : Nat} {fp : Nat → Prop} {vals : List Value} {T : List (List Int)} {j : Nat} {u : Value} (h : GridAt w base fp (.slice (some ⟨g, 0, none⟩) n cap) vals T) (hj : j < T.length) (hu : w.cell? ⟨g, j, none⟩ = some u) : u = vals.getD j (.slice none 0 0) ∧ n = T.length := by
  have hn : n = T.length := by
    rcases h.own.2 with ⟨e, _⟩ | ⟨g', cap', cur, e, _⟩
    · cases e
    · injection e
  subst hn
  rw [World.ownsRow.cellAt h.own j (by omega), getD_vals (by rw [h.len]; exact hj)] at hu
  injection hu with hu
  exact ⟨hu.symm, rfl⟩

theorem getD_setV {vals : List Value} {i j : Nat} (u : Value) (hj : j < vals.length) : (vals.set j u).getD i (.slice none 0 0) = if i = j then u else vals.getD i (.slice none 0 0) := by
  simp only [List.getD_eq_getElem?_getD, List.getElem?_set]
  by_cases h : j = i
  · subst h
    simp [hj]
  · have h' : ¬ i = j := fun e => h e.symm
    simp [h, h']
theorem getD_setT {T : List (List Int)} {i j : Nat} (ys : List Int) (hj : j < T.length) : (T.set j ys).getD i [] = if i = j then ys else T.getD i [] := by
  simp only [List.getD_eq_getElem?_getD, List.getElem?_set]
  by_cases h : j = i
  · subst h
    simp [hj]
  · have h' : ¬ i = j := fun e => h e.symm
    simp [h, h']

/-- One number in one row is another. -/
theorem Grid.store {w : World} {base g n cap h m c : Nat} {fp : Nat → Prop} {T : List (List Int)} {j : Nat} (hG : Grid w base fp (.slice (some ⟨g, 0, none⟩) n cap) T) (hj : j < T.length) (hu : w.cell? ⟨g, j, none⟩ = some (.slice (some ⟨h, 0, none⟩) m c)) (hm : m = (T.getD j []).length) (i : Nat) (x : Int) :
    Grid (w.setCell ⟨h, i, none⟩ (.int .i64 x)) base fp (.slice (some ⟨g, 0, none⟩) n cap) (T.set j ((T.getD j []).set i x)) ∧ Only fp w (w.setCell ⟨h, i, none⟩ (.int .i64 x)) := by
  obtain ⟨vals, hG⟩ := hG
  obtain ⟨e, rfl⟩ := hG.cell_eq hj hu
  have hfp : fp h := hG.inR j hj h (by rw [← e]; rfl)
  have hO : Only fp w (w.setCell ⟨h, i, none⟩ (.int .i64 x)) := (Only.refl fp w).set hfp i _
  have hrow := hG.row j hj
  rw [← e] at hrow
  have hset := hrow.set hm i x
  have hblk : ∀ k, k ≠ h → (w.setCell ⟨h, i, none⟩ (.int .i64 x)).heap[k]? = w.heap[k]? := fun k hk => Below.heap_setCell w ⟨h, i, none⟩ _ k hk
  refine ⟨⟨vals, by rw [List.length_set]; exact hG.len, ?_, fun a ha => ?_, by rw [List.length_set]; exact hG.apart, hG.inV, by rw [List.length_set]; exact hG.inR, fun k hk => ⟨(hG.bound k hk).1, Nat.lt_of_lt_of_le (hG.bound k hk).2 hO.size⟩⟩, hO⟩
  · rw [List.length_set]
    refine own_of_block hG.own (fun k hk => hblk k ?_)
    rintro rfl
    exact own_apart hrow hG.own k rfl hk
  · rw [List.length_set] at ha
    rw [getD_setT _ hj]
    by_cases ea : a = j
    · subst ea
      rw [if_pos rfl, ← e]
      exact hset
    · rw [if_neg ea]
      refine own_of_block (hG.row a ha) (fun k hk => hblk k ?_)
      rintro rfl
      exact hG.apart a j ha hj ea k hk (by rw [← e]; rfl)

/-- One row is another, which has grown out of it (or is new); the cell that holds it has been stored. -/
theorem Grid.replace {w w' : World} {base g n cap : Nat} {fp : Nat → Prop} {T : List (List Int)} {j : Nat} {u u' : Value} {ys : List Int} (hG : Grid w base fp (.slice (some ⟨g, 0, none⟩) n cap) T) (hj : j < T.length) (hu : w.cell? ⟨g, j, none⟩ = some u)
    (hg : w.grownBy w' u.ownBlock) (ho : OwnInts w' base u' ys) (hb : u'.ownBlock = u.ownBlock ∨ ∀ k, u'.ownBlock = some k → w.heap.size ≤ k) (hbase : base ≤ w.heap.size) :
    Grid (w'.setCell ⟨g, j, none⟩ u') base (fpN fp w.heap.size w'.heap.size) (.slice (some ⟨g, 0, none⟩) n cap) (T.set j ys) ∧ Only fp w (w'.setCell ⟨g, j, none⟩ u') := by
  obtain ⟨vals, hG⟩ := hG
  obtain ⟨e, rfl⟩ := hG.cell_eq hj hu
  have hfg : fp g := hG.inV g rfl
  have hgr : Only fp w w' := (Only.refl fp w).grown hg (fun k hk _ => hG.inR j hj k (by rw [← e]; exact hk))
  have hO : Only fp w (w'.setCell ⟨g, j, none⟩ u') := hgr.set hfg j _
  have hown' : w'.ownsRow base 44 1 (.slice (some ⟨g, 0, none⟩) T.length cap) T.length vals := by
    refine World.ownsRow.kept hG.own hg (.inr ?_)
    intro e2
    have hrow := hG.row j hj
    rw [← e] at hrow
    exact own_apart hrow hG.own g e2.symm rfl
  have hst := (World.ownsRow.stored hown' j u').1
  have hsz : (w'.setCell ⟨g, j, none⟩ u').heap.size = w'.heap.size := by simp [World.setCell]
  have hblk : ∀ k, k ≠ g → (w'.setCell ⟨g, j, none⟩ u').heap[k]? = w'.heap[k]? := fun k hk => Below.heap_setCell w' ⟨g, j, none⟩ _ k hk
  have hfr : ∀ k, u'.ownBlock = some k → fpN fp w.heap.size w'.heap.size k := by
    intro k hk
    rcases hb with hb | hb
    · exact .inl (hG.inR j hj k (by rw [← e, ← hb]; exact hk))
    · exact .inr ⟨hb k hk, (World.ownsRow.lt ho k hk).2⟩
  have hjl : j < vals.length := by rw [hG.len]; exact hj
  have hap : ∀ a, a < T.length → a ≠ j → ∀ k, (vals.getD a (.slice none 0 0)).ownBlock = some k → u'.ownBlock ≠ some k := by
    intro a ha hne k hk e2
    rcases hb with hb | hb
    · exact hG.apart a j ha hj hne k hk (by rw [← e, ← hb]; exact e2)
    · have h1 := hb k e2
      have h2 := (hG.bound k (hG.inR a ha k hk)).2
      omega
  refine ⟨⟨vals.set j u', by rw [List.length_set, List.length_set]; exact hG.len, by rw [List.length_set]; exact hst, fun a ha => ?_, fun a b ha hb' hne k hk => ?_, fun k hk => .inl (hG.inV k hk), fun a ha k hk => ?_, fun k hk => ?_⟩, hO⟩
  · rw [List.length_set] at ha
    rw [getD_setV _ hjl, getD_setT _ hj]
    by_cases ea : a = j
    · rw [if_pos ea, if_pos ea]
      refine own_of_block ho (fun k hk => hblk k ?_)
      rintro rfl
      exact own_apart ho hown' k hk rfl
    · rw [if_neg ea, if_neg ea]
      have h1 : OwnInts w' base (vals.getD a (.slice none 0 0)) (T.getD a []) := by
        refine World.ownsRow.kept (hG.row a ha) hg ?_
        rcases eb : (vals.getD a (.slice none 0 0)).ownBlock with _ | k
        · exact .inl rfl
        · right
          intro e3
          exact hG.apart a j ha hj ea k eb (by rw [← e]; exact e3.symm)
      refine own_of_block h1 (fun k hk => hblk k ?_)
      rintro rfl
      exact own_apart h1 hown' k hk rfl
  · rw [List.length_set] at ha hb'
    rw [getD_setV _ hjl] at hk ⊢
    by_cases ea : a = j
    · rw [if_pos ea] at hk
      rw [if_neg (fun eb => hne (ea.trans eb.symm))]
      intro e2
      exact hap b hb' (fun eb => hne (ea.trans eb.symm)) k e2 hk
    · rw [if_neg ea] at hk
      by_cases eb : b = j
      · rw [if_pos eb]
        exact hap a ha ea k hk
      · rw [if_neg eb]
        exact hG.apart a b ha hb' hne k hk
  · rw [List.length_set] at ha
    rw [getD_setV _ hjl] at hk
    by_cases ea : a = j
    · rw [if_pos ea] at hk
      exact hfr k hk
    · rw [if_neg ea] at hk
      exact .inl (hG.inR a ha k hk)
  · rw [hsz]
    rcases hk with hk | hk
    · exact ⟨(hG.bound k hk).1, Nat.lt_of_lt_of_le (hG.bound k hk).2 hg.size⟩
    · exact ⟨by omega, hk.2⟩

/-- 'out = append(out, y)', y a row of the call's own that is none of them: the world has laid y in a block of its own first. -/
theorem wpList_gridApp {ops : Array Oper} {rest : List Oper} {o : Oper} {a : Act} {Q : Exit → Act → World → Prop} (W : World) (hgd : o.guard = none) (s x : Operand)
    (ho : o.op = .call { callee := .builtin .append, args := #[s, x], argTypes := #[51, 51] })
    (base : Nat) (fp : Nat → Prop) (v : Value) (T : List (List Int)) (y : Value) (ys : List Int) (hs : a.eval s = v) (hx : a.eval x = .slice (some ⟨W.heap.size, 0, none⟩) 1 1) (hown : Grid W base fp v T) (hy : OwnInts W base y ys)
    (hyf : ∀ k, y.ownBlock = some k → ¬ fp k)
    (hlen : T.length ≤ 1000000000000) (hbase : base ≤ W.heap.size)
    (h : ∀ v' w', Grid w' base (fun k => fpN fp W.heap.size w'.heap.size k ∨ y.ownBlock = some k) v' (T ++ [ys]) → Only fp W w' → wpList Try.prog ops Q rest (a.put o.dst v') w') :
    wpList Try.prog ops Q (o :: rest) a (W.alloc (.cells #[y] 44)) := by
  obtain ⟨i0, hi, hz0, hz1, hz2⟩ := info_parts infoRow
  obtain ⟨vals, hG⟩ := hown
  refine wpList_append_own_at _ hgd s x 51 ho base 44 i0 (.slice none 0 0) 1 24 Try.underlying51 hi hz0 hz1 hz2 rfl (by decide) v T.length vals hs (World.ownsRow.alloc hG.own _)
    ⟨W.heap.size, 0, none⟩ 1 1 [y] hx rfl (cell_oneV W y) (by intro u hu; simp at hu; subst hu; exact own_oneCell hy) (by unfold maxLen; omega) (by omega) (by simp; omega) ?_
  intro v' w' h1 h2 _ hat
  have hg : W.grownBy w' v.ownBlock := ⟨h2.os, h2.tape, h2.output, Nat.le_trans (by simp) h2.size, fun k hk hne => (h2.block k (by simp; omega) hne).trans (Below.heap_alloc W _ k hk)⟩
  have hsz : (W.alloc (.cells #[y] 44)).heap.size = W.heap.size + 1 := by simp
  have hO : Only fp W w' := (Only.refl fp W).grown hg (fun k hk _ => hG.inV k hk)
  have hrows : ∀ j, j < T.length → OwnInts w' base (vals.getD j (.slice none 0 0)) (T.getD j []) := fun j hj => (hG.row j hj).other hG.own hg
  have hgl : ∀ j, j < T.length → (vals ++ [y]).getD j (.slice none 0 0) = vals.getD j (.slice none 0 0) := by
    intro j hj
    rw [List.getD_eq_getElem?_getD, List.getD_eq_getElem?_getD, List.getElem?_append_left (by rw [hG.len]; exact hj)]
  have hgy : (vals ++ [y]).getD T.length (.slice none 0 0) = y := by
    rw [List.getD_eq_getElem?_getD, List.getElem?_append_right (by rw [hG.len]; exact Nat.le_refl _), hG.len]
    simp
  refine h v' w' ⟨vals ++ [y], by simp [hG.len], by simpa using h1, fun j hj => ?_, fun i j hi hj hne k hk => ?_, fun k hk => ?_, fun j hj k hk => ?_, fun k hk => ?_⟩ hO
  · rw [List.length_append] at hj
    simp only [List.length_cons, List.length_nil] at hj
    by_cases e : j < T.length
    · have hT : (T ++ [ys]).getD j [] = T.getD j [] := by rw [List.getD_eq_getElem?_getD, List.getD_eq_getElem?_getD, List.getElem?_append_left e]
      rw [hgl j e, hT]
      exact hrows j e
    · have ej : j = T.length := by omega
      subst ej
      have hT : (T ++ [ys]).getD T.length [] = ys := by rw [List.getD_eq_getElem?_getD, List.getElem?_append_right (Nat.le_refl _)]; simp
      rw [hgy, hT]
      exact hy.other hG.own hg
  · rw [List.length_append] at hi hj
    simp only [List.length_cons, List.length_nil] at hi hj
    by_cases ei : i < T.length
    · rw [hgl i ei] at hk
      by_cases ej : j < T.length
      · rw [hgl j ej]
        exact hG.apart i j ei ej hne k hk
      · have : j = T.length := by omega
        subst this
        rw [hgy]
        intro e2
        exact hyf k e2 (hG.inR i ei k hk)
    · have : i = T.length := by omega
      subst this
      rw [hgy] at hk
      rw [hgl j (by omega)]
      intro e2
      exact hyf k hk (hG.inR j (by omega) k e2)
  · rcases hat with e | e
    · exact .inl (.inl (hG.inV k (by rw [← e]; exact hk)))
    · left
      right
      have h3 := (World.ownsRow.lt h1 k hk).2
      rw [e] at hk
      injection hk with hk
      rw [hsz] at hk
      exact ⟨by omega, h3⟩
  · rw [List.length_append] at hj
    simp only [List.length_cons, List.length_nil] at hj
    by_cases e : j < T.length
    · rw [hgl j e] at hk
      exact .inl (.inl (hG.inR j e k hk))
    · have ej : j = T.length := by omega
      subst ej
      rw [hgy] at hk
      exact .inr hk
  · rcases hk with (hk | hk) | hk
    · exact ⟨(hG.bound k hk).1, Nat.lt_of_lt_of_le (hG.bound k hk).2 hO.size⟩
    · exact ⟨by omega, hk.2⟩
    · have := World.ownsRow.lt hy k hk
      exact ⟨this.1, Nat.lt_of_lt_of_le this.2 hO.size⟩

/-- As rows that are only read. -/
theorem Grid.rrows {w : World} {base : Nat} {fp : Nat → Prop} {A : Option Addr} {n c : Nat} {T : List (List Int)} (h : Grid w base fp (.slice A n c) T) : RRows w A n T := by
  obtain ⟨vals, h⟩ := h
  rcases h.own.2 with ⟨e, h0⟩ | ⟨g, cap, cur, e, hb, hh, _⟩
  · injection e with e1 e2 e3
    subst e2
    have : T = [] := List.eq_nil_of_length_eq_zero h0
    subst this
    exact RRows.nil _ _
  · injection e with e1 e2 e3
    subst e1 e2 e3
    refine ⟨rfl, fun _ => ⟨g, 0, rfl, (Array.getElem?_eq_some_iff.1 hh).1, fun j hj => ?_⟩⟩
    obtain ⟨Aj, cj, ev, hI, hc⟩ := (h.row j hj).ints
    have hnil : Aj = none → cj = 0 := by
      intro e
      rcases (h.row j hj).2 with ⟨e2, _⟩ | ⟨g2, cap2, cur2, e2, _⟩
      · rw [ev] at e2
        injection e2
      · rw [ev, e] at e2
        injection e2 with e2
        cases e2
    refine ⟨Aj, (T.getD j []).length, cj, ?_, hI, hc, hnil⟩
    rw [Nat.zero_add, World.ownsRow.cellAt h.own j (by omega), getD_vals (by rw [h.len]; exact hj), ev]

/-- 'out = append(out, y)' with out nil or the call's own: where the new row lies. -/
theorem wpList_app1At {ops : Array Oper} {rest : List Oper} {o : Oper} {a : Act} {Q : Exit → Act → World → Prop} (W : World) (hgd : o.guard = none) (s x : Operand)
    (ho : o.op = .call { callee := .builtin .append, args := #[s, x], argTypes := #[44, 44] })
    (base : Nat) (v : Value) (xs : List Int) (y : Int) (hs : a.eval s = v) (hx : a.eval x = .slice (some ⟨W.heap.size, 0, none⟩) 1 1) (hown : OwnInts W base v xs)
    (hlen : xs.length ≤ 1000000000000) (hbase : base ≤ W.heap.size)
    (h : ∀ v' w', OwnInts w' base v' (xs ++ [y]) → W.grownBy w' v.ownBlock → (v'.ownBlock = v.ownBlock ∨ ∀ k, v'.ownBlock = some k → W.heap.size ≤ k) → wpList Try.prog ops Q rest (a.put o.dst v') w') :
    wpList Try.prog ops Q (o :: rest) a (W.alloc (.cells #[.int .i64 y] 3)) := by
  obtain ⟨i0, hi, hz0, hz1, hz2⟩ := info_parts infoInt
  refine wpList_append_own_at _ hgd s x 44 ho base 3 i0 (.int .i64 0) 1 8 Try.underlying44 hi hz0 hz1 hz2 rfl (by decide) v xs.length (xs.map (Value.int .i64)) hs (World.ownsRow.alloc hown _)
    ⟨W.heap.size, 0, none⟩ 1 1 [.int .i64 y] hx rfl (cell_one W y) (by intro u hu; simp at hu; subst hu; rfl) (by unfold maxLen; omega) (by omega) (by simp; omega) ?_
  intro v' w' h1 h2 _ hat
  have hg : W.grownBy w' v.ownBlock := ⟨h2.os, h2.tape, h2.output, Nat.le_trans (by simp) h2.size, fun k hk hne => (h2.block k (by simp; omega) hne).trans (Below.heap_alloc W _ k hk)⟩
  refine h v' w' ?_ hg ?_
  · unfold OwnInts
    simpa using h1
  · rcases hat with e | e
    · exact .inl e
    · right
      intro k hk
      rw [e] at hk
      injection hk with hk
      have hsz : (W.alloc (.cells #[.int .i64 y] 3)).heap.size = W.heap.size + 1 := by simp
      omega

/-- The outer block is none of the rows'. -/
theorem Grid.outer_kept {w w' : World} {base g n cap : Nat} {fp : Nat → Prop} {T : List (List Int)} {j : Nat} {u : Value} (hG : Grid w base fp (.slice (some ⟨g, 0, none⟩) n cap) T) (hj : j < T.length) (hu : w.cell? ⟨g, j, none⟩ = some u) (hg : w.grownBy w' u.ownBlock) : w'.heap[g]? = w.heap[g]? := by
  obtain ⟨vals, hG⟩ := hG
  obtain ⟨e, rfl⟩ := hG.cell_eq hj hu
  refine hg.block g (hG.bound g (hG.inV g rfl)).2 (fun e2 => ?_)
  have hrow := hG.row j hj
  rw [← e] at hrow
  exact own_apart hrow hG.own g e2.symm rfl
theorem Grid.outer_lt {w : World} {base g n cap : Nat} {fp : Nat → Prop} {T : List (List Int)} (hG : Grid w base fp (.slice (some ⟨g, 0, none⟩) n cap) T) : g < w.heap.size := by
  obtain ⟨vals, hG⟩ := hG
  exact (hG.bound g (hG.inV g rfl)).2
theorem Grid.outer_ge {w : World} {base g n cap : Nat} {fp : Nat → Prop} {T : List (List Int)} (hG : Grid w base fp (.slice (some ⟨g, 0, none⟩) n cap) T) : base ≤ g := by
  obtain ⟨vals, hG⟩ := hG
  exact (hG.bound g (hG.inV g rfl)).1

/-- v is the call's own row of rows; each of them lies in the call's own memory too. -/
def BRows (w : World) (base : Nat) (v : Value) (T : List (List Int)) : Prop :=
  ∃ vals : List Value, vals.length = T.length ∧ w.ownsRow base 44 1 v vals.length vals ∧ ∀ j, j < T.length → OwnInts w base (vals.getD j (.slice none 0 0)) (T.getD j [])
theorem BRows.mono {w : World} {base base' : Nat} {v : Value} {T : List (List Int)} (h : BRows w base v T) (hb : base' ≤ base) : BRows w base' v T := by
  obtain ⟨vals, hl, ho, hv⟩ := h
  exact ⟨vals, hl, own_mono ho hb, fun j hj => (hv j hj).mono hb⟩
theorem Grid.brows {w : World} {base : Nat} {fp : Nat → Prop} {v : Value} {T : List (List Int)} (h : Grid w base fp v T) : BRows w base v T := by
  obtain ⟨vals, hg⟩ := h
  have ho := hg.own
  rw [← hg.len] at ho
  exact ⟨vals, hg.len, ho, hg.row⟩

end Go.Proofs.Ytcnljljgdkjndaa

/-
  tableau.insert: a number put into the rows (P38).
-/
namespace Go.Proofs.Ytcnljljgdkjndaa
open Go.RowKit

theorem set_mid (D : List (List Int)) (r r' : List Int) (R : List (List Int)) {i : Nat} (hi : D.length = i) : (D ++ r :: R).set i r' = D ++ r' :: R := by
  subst hi
  rw [List.set_append_right _ _ (Nat.le_refl _), Nat.sub_self, List.set_cons_zero]
theorem getD_mid (D : List (List Int)) (r : List Int) (R : List (List Int)) {i : Nat} (hi : D.length = i) : (D ++ r :: R).getD i [] = r := by
  subst hi
  rw [List.getD_eq_getElem?_getD, List.getElem?_append_right (Nat.le_refl _), Nat.sub_self]
  rfl
theorem drop_rowT {T : List (List Int)} {i : Nat} (hi : i < T.length) : T.drop i = T.getD i [] :: T.drop (i + 1) := by
  rw [List.drop_eq_getElem_cons hi, List.getD_eq_getElem?_getD, List.getElem?_eq_getElem hi]
  rfl
theorem row_split {row : List Int} {k : Nat} (hk : k < row.length) : row = row.take k ++ row.getD k 0 :: row.drop (k + 1) := by
  conv => lhs; rw [← List.take_append_drop k row]
  rw [List.drop_eq_getElem_cons hk, List.getD_eq_getElem?_getD, List.getElem?_eq_getElem hk]
  rfl
theorem set_split {row : List Int} {k : Nat} (hk : k < row.length) (x : Int) : row.set k x = row.take k ++ x :: row.drop (k + 1) := by
  rw [List.set_eq_take_append_cons_drop, if_pos hk]
theorem take_lt_snoc {row : List Int} {k : Nat} {x : Int} (hk : k < row.length) (h : ∀ z ∈ row.take k, z < x) (hx : row.getD k 0 < x) : ∀ z ∈ row.take (k + 1), z < x := by
  intro z hz
  rw [take_snoc hk] at hz
  rcases List.mem_append.1 hz with h1 | h1
  · exact h z h1
  · rw [List.mem_singleton] at h1
    rw [h1]
    exact hx

def RetIns (base : Nat) (fp : Nat → Prop) (w : World) (T : List (List Int)) (x : Int) (e : Ending) (w' : World) : Prop :=
  ∃ v', e = .returned (.tuple #[v', .int .i64 ((tin T x).2 : Int)]) ∧ Grid w' base (fpN fp w.heap.size w'.heap.size) v' (tin T x).1 ∧ Only fp w w'

set_option maxRecDepth 100000 in
set_option maxHeartbeats 3200000 in
theorem insert_any (base : Nat) (fp : Nat → Prop) (v : Value) (T : List (List Int)) (x : Int) (w : World) (h : Grid w base fp v T) (hT : T.length ≤ 1000) (hR : ∀ j, (T.getD j []).length ≤ 1000) (hbase : base ≤ w.heap.size) :
    Calls Try.prog 62 #[v, .int .i64 x] w (RetIns base fp w T x) := by
  obtain ⟨A, c, hv, hcap⟩ := h.form
  subst hv
  have HG := hid h
  have HR := hid hR
  obtain ⟨n, hn⟩ : ∃ n, n = T.length := ⟨_, rfl⟩
  rw [← hn] at HG hT hcap ⊢
  have HN := hid hn
  clear h hR hn
  go_enter Try.func62, Try.ntmps62
  go_wp2
  go_loopg [1, 11] n (fun g s t wr => ∃ (i : Nat) (y : Int) (D : List (List Int)), i ≤ n ∧ n - i ≤ g ∧ s = .int .i64 y ∧ t = .int .i64 (i : Int) ∧ D.length = i ∧ Grid wr base fp (.slice A n c) (D ++ T.drop i) ∧ Only fp w wr ∧ tin T x = (D ++ (tin (T.drop i) y).1, i + (tin (T.drop i) y).2))
  case atStart => exact ⟨0, x, [], Nat.zero_le _, by omega, rfl, rfl, rfl, HG.out, Only.refl _ _, by simp⟩
  case round =>
    obtain ⟨i, y, D, hi, hg, rfl, rfl, hD, hgr, hon, htin⟩ := hrel
    have HD := hid hD
    have HGR := hid hgr
    have HON := hid hon
    have HT := hid htin
    clear hD hgr hon htin HG
    by_cases hlt : i < n
    · have HDR := hid (drop_rowT (T := T) (i := i) (by rw [← HN.out]; exact hlt))
      have hrl := HR.out i
      have hlen2 : i < (D ++ T.drop i).length := by rw [List.length_append, HD.out, HDR.out]; simp
      have HGD : Hid ((D ++ T.drop i).getD i [] = T.getD i []) := by rw [HDR.out]; exact getD_mid D _ _ HD.out
      obtain ⟨gb, cap, u, e1, hcell, hfrz, hu⟩ := HGR.out.at hlen2
      injection e1 with e1 e2 e3
      subst e1
      subst e3
      rw [HGD.out] at hu
      have HS := hid (fun h m c1 hu2 hm2 => HGR.out.store (h := h) (m := m) (c := c1) hlen2 hu2 hm2)
      have HRP := hid (fun w' u1 (ys : List Int) (hb1 : wr.grownBy w' u.ownBlock) (ho1 : OwnInts w' base u1 ys) hb2 => HGR.out.replace hlen2 hcell hb1 ho1 hb2 (Nat.le_trans hbase HON.out.size))
      have HSM : Hid (∀ r', (D ++ T.drop i).set i r' = (D ++ [r']) ++ T.drop (i + 1)) := fun r' => by
        rw [HDR.out, set_mid D _ r' _ HD.out]
        simp
      rw [HDR.out] at HT
      clear e2
      generalize hrow : T.getD i [] = row at *
      obtain ⟨Au, cu, rfl, hIu, hcu⟩ := hu.ints
      obtain ⟨m, hm⟩ : ∃ m, m = row.length := ⟨_, rfl⟩
      rw [← hm] at hIu hcu hcell hrl
      rw [← hm] at hu
      rw [← hm] at HRP
      have HM := hid hm
      have HU := hid hu
      have HIU := hid hIu
      clear hm hu hIu hrow hlen2
      go_wp2
      go_loopg [8] m (fun g s wq => ∃ k : Nat, k ≤ m ∧ m - k ≤ g ∧ s = .int .i64 (k : Int) ∧ wr = wq ∧ ∀ z ∈ row.take k, z < y)
      case atStart => exact ⟨0, Nat.zero_le _, by omega, rfl, rfl, by simp⟩
      case round =>
        obtain ⟨k, hk, hg2, rfl, rfl, hall⟩ := hrel
        have HA := hid hall
        clear hall
        by_cases hkm : k < m
        · obtain ⟨b, o, rfl, hb, hc⟩ := HIU.out.row (by omega)
          have g1 := hc k hkm
          have HKL : Hid (k < row.length) := by rw [← HM.out]; exact hkm
          clear hc
          by_cases hz : row.getD k 0 < y
          · have HTL := hid (take_lt_snoc HKL.out HA.out hz)
            generalize row.getD k 0 = z at *
            go_wp2
            go_roundg (m - (k + 1))
            case measure => omega
            case rel => exact ⟨k + 1, by omega, by omega, by go_num, rfl, HTL.out⟩
          · have hfo := HU.out.form (by rw [← HM.out]; omega)
            obtain ⟨gg, capg, e5, hg5, _, _⟩ := hfo
            injection e5 with e5 e6 e7
            injection e5 with e5
            injection e5 with e8 e9
            subst e8
            subst e9
            have hfz : wr.frozen? ⟨b, k, none⟩ = false := by
              have := HU.out
              rw [HM.out] at this
              exact this.frozen k
            rw [Nat.zero_add] at g1
            have HST := hid (HS.out b m cu hcell (by rw [HGD.out]; exact HM.out) k y)
            have HZ := hid hz
            have HSP := hid (row_split HKL.out)
            have HSS := hid (set_split HKL.out y)
            rw [HGD.out, HSM.out, HSS.out] at HST
            have HTA := hid (tin_at (x := y) (row.drop (k + 1)) (T.drop (i + 1)) HA.out hz)
            rw [← HSP.out] at HTA
            rw [HTA.out] at HT
            have hne : ((k : Int) == (m : Int)) = false := by simp; omega
            clear hcell hfrz e6 e7 hz
            generalize row.getD k 0 = z at *
            go_wp2
            go_roundg (n - (i + 1))
            case measure => omega
            case rel =>
              refine ⟨i + 1, z, D ++ [row.take k ++ y :: row.drop (k + 1)], by omega, by omega, rfl, by go_num, by rw [List.length_append, HD.out]; rfl, HST.out.1, HON.out.trans HST.out.2, ?_⟩
              rw [HT.out]
              simp only [List.append_assoc, List.singleton_append, Prod.mk.injEq, true_and]
              omega
        · have hkm2 : k = m := by omega
          subst hkm2
          have HAL : Hid (∀ z ∈ row, z < y) := by
            have := HA.out
            rwa [List.take_of_length_le (by rw [← HM.out]; exact Nat.le_refl _)] at this
          rw [tin_all _ HAL.out] at HT
          go_wp2_with (at_builtin; refine wpList_app1At _ rfl (.tmp 36) (.tmp 38) rfl base _ row y rfl rfl HU.out (by rw [← HM.out]; omega) (Nat.le_trans hbase HON.out.size) ?_)
          intro v1 w1 ho1 hb1 hb2
          obtain ⟨hgr2, hon2⟩ := HRP.out w1 v1 (row ++ [y]) hb1 ho1 hb2
          have hfrz1 : w1.frozen? ⟨gb, i, none⟩ = false := by
            have h1 := World.frozen?_of_block (a := ⟨gb, i, none⟩) (hb1.block gb (by
              have := HGR.out.bound
              obtain ⟨vals, hG⟩ := HGR.out
              exact (hG.bound gb (hG.inV gb rfl)).2) (fun e => by
              obtain ⟨vals, hG⟩ := HGR.out
              exact own_apart HU.out hG.own gb e.symm rfl))
            rw [h1]
            exact hfrz
          have HG2 := hid hgr2
          have HO2 := hid hon2
          obtain ⟨A1, c1, rfl, _, _⟩ := ho1.ints
          have hcell1 : ∃ u0, w1.cell? ⟨gb, i, none⟩ = some u0 := ⟨_, (World.cell?_of_block (a := ⟨gb, i, none⟩) (hb1.block gb (by
              obtain ⟨vals, hG⟩ := HGR.out
              exact (hG.bound gb (hG.inV gb rfl)).2) (fun e => by
              obtain ⟨vals, hG⟩ := HGR.out
              exact own_apart HU.out hG.own gb e.symm rfl))).trans hcell⟩
          obtain ⟨u0, hcell1⟩ := hcell1
          obtain ⟨q1, hq1⟩ : ∃ q1, q1 = (row ++ [y]).length := ⟨_, rfl⟩
          rw [← hq1] at HG2 HO2
          rw [← hq1]
          clear hq1
          clear ho1 hb1 hb2 hgr2 hon2 hcell hfrz
          go_wp2
          go_ret2
          refine ⟨.slice (some ⟨gb, 0, none⟩) n c, ?_, ?_, HON.out.trans HO2.out⟩
          · rw [HT.out]
            rfl
          · rw [HT.out]
            have h5 := HG2.out
            rw [HSM.out] at h5
            simp only [List.append_assoc, List.singleton_append] at h5
            refine h5.up ?_ ?_
            · intro k' hk'
              rcases hk' with hk' | hk'
              · exact .inl hk'
              · refine .inr ⟨Nat.le_trans HON.out.size hk'.1, ?_⟩
                have e : (w1.setCell ⟨gb, i, none⟩ (.slice A1 q1 c1)).heap.size = w1.heap.size := by simp [World.setCell]
                rw [e]
                exact hk'.2
            · intro k' hk'
              rcases hk' with hk' | hk'
              · exact h5.bound k' (.inl hk')
              · exact ⟨by omega, hk'.2⟩
    · have hin : i = n := by omega
      subst hin
      have HDE : Hid (T.drop i = []) := List.drop_of_length_le (by rw [← HN.out]; exact Nat.le_refl _)
      rw [HDE.out, List.append_nil] at HGR
      rw [HDE.out] at HT
      have hb0 : base ≤ wr.heap.size := Nat.le_trans hbase HON.out.size
      have HOY : Hid (OwnInts (wr.alloc (.cells #[.int .i64 y] 3)) base (.slice (some ⟨wr.heap.size, 0, none⟩) 1 1) [y]) := World.ownsRow_lit wr #[.int .i64 y] 1 hb0 (by unfold maxLen; omega) rfl
      have HGA := hid (HGR.out.keep (below_alloc wr (.cells #[.int .i64 y] 3)))
      have HBD := hid HGR.out.bound
      have hszv : (wr.alloc (.cells #[.int .i64 y] 3)).heap.size = wr.heap.size + 1 := by simp
      have HSZ := hid hszv
      clear hszv
      go_wp2_with (at_builtin; refine wpList_gridApp _ rfl (.tmp 52) (.tmp 55) rfl base fp _ D _ [y] rfl (by rw [HSZ.out]; rfl) HGA.out HOY.out (fun k hk e => by simp only [Value.ownBlock, Option.some.injEq] at hk; have := (HBD.out k e).2; omega) (by rw [HD.out]; omega) (by simp; omega) ?_)
      intro v1 w1 hg1 ho1
      have HG1 := hid hg1
      have HO1 := hid ho1
      obtain ⟨A1, c1, rfl, _⟩ := hg1.form
      obtain ⟨q1, hq1⟩ : ∃ q1, q1 = (D ++ [[y]]).length := ⟨_, rfl⟩
      rw [← hq1] at HG1
      rw [← hq1]
      clear hg1 ho1 hq1
      go_wp2
      go_ret2
      have hsz : (wr.alloc (.cells #[.int .i64 y] 3)).heap.size = wr.heap.size + 1 := by simp
      have hO2 : Only fp wr w1 := (Only.of_below (below_alloc wr _)).trans HO1.out
      refine ⟨.slice A1 q1 c1, ?_, ?_, HON.out.trans hO2⟩
      · rw [HT.out, tin_nil]
        rfl
      · rw [HT.out, tin_nil]
        refine HG1.out.up ?_ ?_
        · intro k' hk'
          have h8 := HG1.out.bound k' hk'
          rcases hk' with (hk' | hk') | hk'
          · exact .inl hk'
          · exact .inr ⟨by have := HON.out.size; omega, h8.2⟩
          · simp only [Value.ownBlock, Option.some.injEq] at hk'
            exact .inr ⟨by have := HON.out.size; omega, h8.2⟩
        · intro k' hk'
          rcases hk' with hk' | hk'
          · exact HG1.out.bound k' (.inl (.inl hk'))
          · exact ⟨by omega, hk'.2⟩

end Go.Proofs.Ytcnljljgdkjndaa

/-
  tableau.Of (P38).
-/
namespace Go.Proofs.Ytcnljljgdkjndaa
open Go.RowKit

/-- One number put behind, in a region that draws: where the row lies then. -/
theorem step_app1At {ops : Array Oper} {o : Oper} {a : Act} {K : Act → World → Prop} {Q : Exit → Act → World → Prop} {E : Prop} (W : World) (hgd : o.guard = none) (s x : Operand)
    (ho : o.op = .call { callee := .builtin .append, args := #[s, x], argTypes := #[44, 44] })
    (base : Nat) (v : Value) (xs : List Int) (y : Int) (hs : a.eval s = v) (hx : a.eval x = .slice (some ⟨W.heap.size, 0, none⟩) 1 1) (hown : OwnInts W base v xs)
    (hlen : xs.length ≤ 1000000000000) (hbase : base ≤ W.heap.size)
    (h : ∀ A' n' c' w', OwnInts w' base (.slice A' n' c') (xs ++ [y]) → W.grownBy w' v.ownBlock → ((Value.slice A' n' c').ownBlock = v.ownBlock ∨ ∀ k, (Value.slice A' n' c').ownBlock = some k → W.heap.size ≤ k) → K (a.put o.dst (.slice A' n' c')) w') :
    if Region.wanted o (yielded ops a.tmps) = true then Oper.wp Try.prog o a (W.alloc (.cells #[.int .i64 y] 3)) K Q else E := by
  obtain ⟨i0, hi, hz0, hz1, hz2⟩ := info_parts infoInt
  refine step_append_lies _ hgd s x 44 ho base 3 i0 (.int .i64 0) 1 8 Try.underlying44 hi hz0 hz1 hz2 rfl (by decide) v xs.length (xs.map (Value.int .i64)) hs (World.ownsRow.alloc hown _) ⟨W.heap.size, 0, none⟩ 1 1 [.int .i64 y] hx rfl (cell_one W y) (by intro u hu; simp at hu; subst hu; rfl) (by omega) (by unfold maxLen; omega) (by omega) (by simp; omega) _ rfl ?_
  intro g cap w' h1 h2 hat _
  have hg : W.grownBy w' v.ownBlock := ⟨h2.os, h2.tape, h2.output, Nat.le_trans (by simp) h2.size, fun k hk hne => (h2.block k (by simp; omega) hne).trans (Below.heap_alloc W _ k hk)⟩
  refine h _ _ _ w' ?_ hg ?_
  · unfold OwnInts
    simpa using h1
  · rcases hat with e | e
    · exact .inl e.symm
    · right
      intro k hk
      simp only [Value.ownBlock, Option.some.injEq] at hk
      have hsz : (W.alloc (.cells #[.int .i64 y] 3)).heap.size = W.heap.size + 1 := by simp
      omega

theorem length_le_flat : ∀ (T : List (List Int)) (j : Nat), (T.getD j []).length ≤ T.flatten.length
  | [], j => by simp
  | r :: T, 0 => by simp
  | r :: T, j + 1 => by
    have := length_le_flat T j
    simp only [List.getD_cons_succ, List.flatten_cons, List.length_append]
    omega
theorem PT_row_le (p : List Int) (j : Nat) : ((PT p).getD j []).length ≤ p.length := by
  have h := length_le_flat (PT p) j
  rwa [(PT_flat p).length_eq] at h
theorem QT_flat_len (p : List Int) : (QT p).flatten.length = p.length := by
  induction p using snoc_ind with
  | h0 => rfl
  | h1 w x ih => rw [QT_snoc, (tadd_flat _ _ _).length_eq, List.length_cons, ih, List.length_append]; rfl
theorem QT_row_le (p : List Int) (j : Nat) : ((QT p).getD j []).length ≤ p.length := by
  have h := length_le_flat (QT p) j
  rwa [QT_flat_len p] at h
theorem PT_len_le (p : List Int) : (PT p).length ≤ p.length := by
  induction p using snoc_ind with
  | h0 => exact Nat.le_refl _
  | h1 w x ih =>
    have := tin_le (PT w) x
    rw [PT_snoc, tin_length, List.length_append, List.length_singleton]
    omega
theorem tadd_lt : ∀ (T : List (List Int)) (r : Nat) (M : Int), r < T.length → tadd T r M = T.set r (T.getD r [] ++ [M])
  | [], r, M, h => absurd h (Nat.not_lt_zero _)
  | row :: T, 0, M, _ => rfl
  | row :: T, r + 1, M, h => by
    rw [tadd, tadd_lt T r M (by simpa using h)]
    rfl
theorem tadd_eq : ∀ (T : List (List Int)) (r : Nat) (M : Int), r = T.length → tadd T r M = (T ++ [[]]).set r ([] ++ [M])
  | [], r, M, h => by
    subst h
    rfl
  | row :: T, r, M, h => by
    subst h
    rw [List.length_cons, tadd, tadd_eq T T.length M rfl]
    rfl

/-- Two tableaux come back, and OK. -/
def RetPairO (w : World) (P Q : List (List Int)) (e : Ending) (w' : World) : Prop :=
  ∃ A n c A' n' c', e = .returned (.tuple #[.agg #[.slice A n c, .slice A' n' c'], .int .i64 0]) ∧ RRows w' A n P ∧ RRows w' A' n' Q ∧ BRows w' w.heap.size (.slice A n c) P ∧ BRows w' w.heap.size (.slice A' n' c') Q ∧ Cap n c ∧ Cap n' c' ∧ Below w.heap.size w w'
def RetPair (w : World) (P Q : List (List Int)) (e : Ending) (w' : World) : Prop :=
  ∃ A n c A' n' c', e = .returned (.tuple #[.agg #[.slice A n c, .slice A' n' c'], .int .i64 0]) ∧ RRows w' A n P ∧ RRows w' A' n' Q ∧ Cap n c ∧ Cap n' c' ∧ Below w.heap.size w w'

theorem pair_row0 {w : World} {b : Nat} {x y : Value} : (w.alloc (.cells #[x, y] b)).rowIs w.heap.size b 2 (fun j => if j = 0 then x else y) := by
  refine ⟨#[x, y], heap_alloc_new w _, rfl, fun i hi => ?_⟩
  match i, hi with
  | 0, _ => rfl
  | 1, _ => rfl

set_option maxRecDepth 100000 in
set_option maxHeartbeats 800000 in
theorem tabOf_bad (A : Option Addr) (n c : Nat) (xs : List Int) (w : World) (h : Ints w A n xs) (hm : n ≤ 9223372036854775807) (he : permErr xs ≠ 0) :
    Calls Try.prog 35 #[.slice A n c] w fun e w' => e = .returned (.tuple #[.agg #[.slice none 0 0, .slice none 0 0], .int .i64 (permErr xs)]) ∧ Below w.heap.size w w' := by
  generalize hq : permErr xs = er at *
  have he' : (er != 0) = true := by simpa using he
  have HQ := hid hq
  have HI := hid h
  clear hq h
  go_enter Try.func35, Try.ntmps35
  go_wp2_with fail
  refine (check_any A n c xs _ (HI.out.keep (below_alloc _ _)) hm).mono ?_
  rintro e w1 ⟨rfl, hb⟩
  have hR := (pair_row0 (w := w) (b := 53) (x := .slice none 0 0) (y := .slice none 0 0)).of_block (hb.block w.heap.size (by simp))
  have g0 := hR.cell (i := 0) (by omega)
  have g1 := hR.cell (i := 1) (by omega)
  have f0 := hR.frozen 0
  have f1 := hR.frozen 1
  simp only [ite_self] at g0 g1
  have hlt : w.heap.size < w1.heap.size := Nat.lt_of_lt_of_le (by simp) hb.size
  have HB := hid (below_step (below_alloc w _) (Nat.le_refl _) hb)
  clear hR hb
  rw [HQ.out]
  go_wp2
  (try simp only [Exit.inBlock, Exit.then])
  refine bodyPost_ret (v := .tuple #[.agg #[.slice none 0 0, .slice none 0 0], .int .i64 er]) ?_ rfl ⟨rfl, (HB.out.setCell (Nat.le_refl _) _).setCell (Nat.le_refl _) _⟩
  rw [results_cell_tmp rfl]
  go_simp

/-- Only the struct's own block has turned. -/
theorem only_cell (fp : Nat → Prop) (w : World) (b j : Nat) (v : Value) (hb : fp b) : Only fp w (w.setCell ⟨b, j, none⟩ v) := (Only.refl fp w).set hb j v

/-- What Of knows at its round's begin. -/
def OfRel (w : World) (bx : Nat) (xs : List Int) (i : Nat) (wr : World) (vP vQ : Value) (fP fQ : Nat → Prop) : Prop :=
  Grid wr (bx + 1) fP vP (PT (xs.take i)) ∧ Grid wr (bx + 1) fQ vQ (QT (xs.take i)) ∧ (∀ k, fP k → ¬ fQ k) ∧ wr.rowIs bx 53 2 (fun j => if j = 0 then vP else vQ) ∧ wr.rowIs w.heap.size 53 2 (fun j => if j = 0 then .slice none 0 0 else .slice none 0 0) ∧ Below w.heap.size w wr ∧ w.heap.size < bx

theorem fun_if0 (x y z : Value) : (fun j : Nat => if j = 0 then z else if j = 0 then x else y) = (fun j => if j = 0 then z else y) := by
  funext j
  split <;> rfl
theorem fun_if1 (x y z : Value) : ∀ j, j < 2 → (if j = 1 then z else if j = 0 then x else y) = (if j = 0 then x else z) := by
  intro j hj
  match j, hj with
  | 0, _ => rfl
  | 1, _ => rfl

set_option maxRecDepth 100000 in
set_option maxHeartbeats 1600000 in
theorem tabOf_own (A : Option Addr) (n c : Nat) (xs : List Int) (w : World) (h : Ints w A n xs) (he : permErr xs = 0) :
    Calls Try.prog 35 #[.slice A n c] w (RetPairO w (PT xs) (QT xs)) := by
  have hn : n ≤ 10 := by rw [← h.len]; exact (permErr_ok.1 he).1
  have HI := hid h
  have HL := hid h.len
  have HE := hid he
  clear h he
  go_enter Try.func35, Try.ntmps35
  go_wp2_with fail
  refine (check_any A n c xs _ (HI.out.keep (below_alloc _ _)) (by omega)).mono ?_
  rintro e w1 ⟨rfl, hb⟩
  have HR0 := hid ((pair_row0 (w := w) (b := 53) (x := .slice none 0 0) (y := .slice none 0 0)).of_block (hb.block w.heap.size (by simp)))
  have HB1 := hid (below_step (below_alloc w _) (Nat.le_refl _) hb)
  obtain ⟨bx, hbx⟩ : ∃ bx, bx = w1.heap.size := ⟨_, rfl⟩
  have hwb : w.heap.size < bx := by rw [hbx]; exact Nat.lt_of_lt_of_le (by simp) hb.size
  have HBX := hid hbx
  clear hb
  rw [HE.out]
  go_wp2_with fail
  rw [← hbx]
  clear hbx
  obtain ⟨w8, hw8⟩ : ∃ w8, w8 = w1.alloc (.cells #[.slice none 0 0, .slice none 0 0] 53) := ⟨_, rfl⟩
  have HREL0 : Hid (OfRel w bx xs 0 w8 (.slice none 0 0) (.slice none 0 0) (fun _ => False) (fun _ => False)) := by
    rw [hw8]
    refine ⟨Grid.nil _ _, Grid.nil _ _, fun _ h => h.elim, ?_, ?_, below_step HB1.out (Nat.le_refl _) (below_alloc _ _), hwb⟩
    · rw [HBX.out]
      exact pair_row0
    · exact HR0.out.alloc _
  rw [← hw8]
  clear hw8 HR0 HB1 HBX
  go_loopg [17] n (fun g t wr => ∃ (i : Nat) (vP vQ : Value) (fP fQ : Nat → Prop), i ≤ n ∧ n - i ≤ g ∧ t = .int .i64 (i : Int) ∧ OfRel w bx xs i wr vP vQ fP fQ)
  case atStart => exact ⟨0, _, _, _, _, Nat.zero_le _, by omega, rfl, HREL0.out⟩
  case round =>
    obtain ⟨i, vP, vQ, fP, fQ, hi, hg, rfl, hof⟩ := hrel
    have HOF := hid hof
    clear hof HREL0
    by_cases hlt : i < n
    · have HKL : Hid (i < xs.length) := by rw [HL.out]; exact hlt
      have HTS := hid (take_snoc HKL.out)
      have HPS := hid (PT_snoc (xs.take i) (xs.getD i 0))
      have HQS := hid (QT_snoc (xs.take i) (xs.getD i 0))
      have HTL : Hid ((xs.take i).length = i) := by rw [List.length_take, HL.out]; exact (by omega : min i n = i)
      rw [← HTS.out] at HPS HQS
      rw [HTL.out] at HQS
      obtain ⟨b, o, rfl, hbb, hc⟩ := HI.out.row (by omega)
      have gx : wr.cell? ⟨b, o + i, none⟩ = some (.int .i64 (xs.getD i 0)) := (HOF.out.2.2.2.2.2.1.cell (p := ⟨b, o + i, none⟩) hbb).trans (hc i hlt)
      clear hc
      generalize xs.getD i 0 = x at *
      obtain ⟨hGP, hGQ, hdis, hrx, hr0, hbel, _⟩ := HOF.out
      obtain ⟨AP, cP, rfl, hcapP⟩ := hGP.form
      obtain ⟨AQ, cQ, rfl, hcapQ⟩ := hGQ.form
      have HPL := hid (PT_len_le (xs.take i))
      have HPR := hid (PT_row_le (xs.take i))
      have HQR := hid (QT_row_le (xs.take i))
      have HPQ := hid (PQ_length (xs.take i))
      rw [HTL.out] at HPL HPR HQR
      have HTI := hid (tin_le (PT (xs.take i)) x)
      have HGP := hid hGP
      have HGQ := hid hGQ
      have HDIS := hid hdis
      have HRX := hid hrx
      have HR0 := hid hr0
      have HB := hid hbel
      clear hGP hGQ hdis hrx hr0 hbel hcapP hcapQ HOF
      have gp := HRX.out.cell (i := 0) (by omega)
      simp only [if_pos] at gp
      have hbxl : bx < wr.heap.size := HRX.out.lt
      generalize PT (xs.take i) = TP at *
      generalize QT (xs.take i) = TQ at *
      obtain ⟨nP, hnP⟩ : ∃ nP, nP = TP.length := ⟨_, rfl⟩
      obtain ⟨nQ, hnQ⟩ : ∃ nQ, nQ = TQ.length := ⟨_, rfl⟩
      rw [← hnP] at HGP HRX gp HPL HTI HPQ
      rw [← hnQ] at HGQ HRX HPQ
      have HNP := hid hnP
      have HNQ := hid hnQ
      clear hnP hnQ
      go_wp2_with fail
      refine (insert_any (bx + 1) fP _ TP x _ HGP.out (by rw [← HNP.out]; have := HPL.out; omega) (fun j => by have := HPR.out j; omega) (by omega)).mono ?_
      rintro e w2 ⟨vP2, rfl, hGP2, hon2⟩
      obtain ⟨AP2, cP2, rfl, hcapP2⟩ := hGP2.form
      obtain ⟨nP2, hnP2⟩ : ∃ nP2, nP2 = (tin TP x).1.length := ⟨_, rfl⟩
      rw [← hnP2] at hGP2 hcapP2
      rw [← hnP2]
      clear hnP2
      have HBD := hid HGP.out.bound
      have HBQ := hid HGQ.out.bound
      have hrx2 := HRX.out.of_block (hon2.block bx hbxl (fun e => by have := HBD.out bx e; omega))
      have hr02 := HR0.out.of_block (hon2.block w.heap.size (by omega) (fun e => by have := HBD.out _ e; omega))
      have hGQ2 := HGQ.out.only hon2 (fun k h1 h2 => HDIS.out k h2 h1)
      have hB2 : Below w.heap.size w w2 := HB.out.trans (hon2.below (by omega) (fun k hk => by have := HBD.out k hk; omega))
      have hsz2 := hon2.size
      have hdis2 : ∀ k, fpN fP wr.heap.size w2.heap.size k → ¬ fQ k := by
        intro k hk hq
        rcases hk with hk | hk
        · exact HDIS.out k hk hq
        · have := HBQ.out k hq
          omega
      -- the store into x.P
      have hst := hrx2.set 0 (.slice AP2 nP2 cP2)
      rw [fun_if0] at hst
      have hO3 : Only (fun k => k = bx) w2 (w2.setCell ⟨bx, 0, none⟩ (.slice AP2 nP2 cP2)) := only_cell _ _ _ _ _ rfl
      have hGP3 := hGP2.only hO3 (fun k h1 h2 => by have := hGP2.bound k h1; omega)
      have hGQ3 := hGQ2.only hO3 (fun k h1 h2 => by have := hGQ2.bound k h1; omega)
      have hr03 := hr02.setOther (a := ⟨bx, 0, none⟩) (by show w.heap.size ≠ bx; omega) (.slice AP2 nP2 cP2)
      have hB3 : Below w.heap.size w (w2.setCell ⟨bx, 0, none⟩ (.slice AP2 nP2 cP2)) := hB2.setCell (by show w.heap.size ≤ bx; omega) _
      have gp2 := hrx2.cell (i := 0) (by omega)
      have fp2 := hrx2.frozen 0
      have gq3 := hst.cell (i := 1) (by omega)
      simp only [if_pos] at gp2
      have gq3' : (w2.setCell ⟨bx, 0, none⟩ (.slice AP2 nP2 cP2)).cell? ⟨bx, 1, none⟩ = some (.slice AQ nQ cQ) := gq3
      have hbx2 : bx < w2.heap.size := by omega
      have HGP3 := hid hGP3
      have HGQ3 := hid hGQ3
      have HRX3 := hid hst
      have HR03 := hid hr03
      have HB3 := hid hB3
      have HDIS2 := hid hdis2
      have HCP2 := hid hcapP2
      have HAL := HTI
      have hsz3 : (w2.setCell ⟨bx, 0, none⟩ (.slice AP2 nP2 cP2)).heap.size = w2.heap.size := by simp [World.setCell]
      clear hGP2 hon2 hrx2 hr02 hGQ2 hB2 hsz2 hdis2 hst hO3 hGP3 hGQ3 hr03 hB3 gq3 hcapP2 HDIS HGP HGQ HRX HR0 HB gp gx
      obtain ⟨a, ha⟩ : ∃ a, a = (tin TP x).2 := ⟨_, rfl⟩
      rw [← ha] at HQS HTI
      rw [← ha]
      have hale : a ≤ nQ := by have h1 := HTI.out; have h2 := HPQ.out; rw [h2] at h1; exact h1
      have hP10 : nP ≤ 10 := by have := HPL.out; omega
      have hQ10 : nQ ≤ 10 := by have h2 := HPQ.out; omega
      clear ha
      by_cases haq : a = nQ
      · have hbe : ((a : Int) == (nQ : Int)) = true := by simp [haq]
        have HAQ := hid haq
        clear haq
        go_wp2_with (at_builtin; refine wpList_gridApp _ rfl (.tmp 36) (.tmp 37) rfl (bx + 1) fQ _ TQ (.slice none 0 0) [] rfl (by rw [hsz3]; rfl) HGQ3.out (OwnInts.nil _ _) (fun k hk => by cases hk) (by rw [← HNQ.out]; omega) (by rw [hsz3]; omega) ?_)
        intro v4 w4 hG4 hO4
        obtain ⟨A4, c4, rfl, _⟩ := hG4.form
        have hBQ3 := HGQ3.out.bound
        have hs4 := hO4.size
        rw [hsz3] at hs4
        have hrx4 := HRX3.out.of_block (hO4.block bx (by rw [hsz3]; omega) (fun e => by have := hBQ3 bx e; omega))
        have hr04 := HR03.out.of_block (hO4.block w.heap.size (by rw [hsz3]; omega) (fun e => by have := hBQ3 _ e; omega))
        have hGP4 := HGP3.out.only hO4 HDIS2.out
        have hB4 : Below w.heap.size w w4 := HB3.out.trans (hO4.below (by rw [hsz3]; omega) (fun k hk => by have := hBQ3 k hk; omega))
        obtain ⟨nQ2, hnQ2⟩ : ∃ nQ2, nQ2 = (TQ ++ [[]]).length := ⟨_, rfl⟩
        rw [← hnQ2] at hG4
        rw [← hnQ2]
        have hst := hrx4.set 1 (.slice A4 nQ2 c4)
        replace hst := hst.congr (fun_if1 _ _ _)
        have hO5 : Only (fun k => k = bx) w4 (w4.setCell ⟨bx, 1, none⟩ (.slice A4 nQ2 c4)) := only_cell _ _ _ _ _ rfl
        have hGPz := hGP4.only hO5 (fun k h1 h2 => by have := hGP4.bound k h1; omega)
        have hGQz := hG4.only hO5 (fun k h1 h2 => by have := hG4.bound k h1; omega)
        have hr0z := hr04.setOther (a := ⟨bx, 1, none⟩) (by show w.heap.size ≠ bx; omega) (.slice A4 nQ2 c4)
        have hBz : Below w.heap.size w (w4.setCell ⟨bx, 1, none⟩ (.slice A4 nQ2 c4)) := hB4.setCell (by show w.heap.size ≤ bx; omega) _
        have g41 : w4.cell? ⟨bx, 1, none⟩ = some (.slice AQ nQ cQ) := by have := hrx4.cell (i := 1) (by omega); exact this
        have f41 := hrx4.frozen 1
        have hDISz : ∀ k, fpN fP wr.heap.size w2.heap.size k → ¬ (fpN fQ w2.heap.size w4.heap.size k ∨ (Value.slice none 0 0).ownBlock = some k) := by
          intro k h1 h2
          rcases h2 with (h2 | h2) | h2
          · exact HDIS2.out k h1 h2
          · have h3 := (HGP3.out.bound k h1).2
            omega
          · cases h2
        have HGPz := hid hGPz
        have HGQz := hid hGQz
        have HRXz := hid hst
        have HR0z := hid hr0z
        have HBz := hid hBz
        have HDISz := hid hDISz
        have HNQ2 := hid hnQ2
        have hal2 : a < nQ2 := by rw [hnQ2, List.length_append, ← HNQ.out, HAQ.out]; simp
        have HTQ2 : Hid ((TQ ++ [[]]).set a ((TQ ++ [[]]).getD a [] ++ [(i : Int)]) = tadd TQ a (i : Int)) := by
          have e : (TQ ++ [[]]).getD a [] = [] := by
            rw [List.getD_eq_getElem?_getD, List.getElem?_append_right (by rw [← HNQ.out, HAQ.out]; exact Nat.le_refl _), ← HNQ.out, HAQ.out]
            simp
          rw [e, tadd_eq TQ a (i : Int) (by rw [← HNQ.out]; exact HAQ.out)]
          exact rfl
        have HQ2R : Hid (∀ j, ((TQ ++ [[]]).getD j []).length ≤ 1000) := by
          intro j
          rcases Nat.lt_or_ge j TQ.length with hj | hj
          · rw [List.getD_eq_getElem?_getD, List.getElem?_append_left hj, ← List.getD_eq_getElem?_getD]
            have := HQR.out j
            omega
          · rw [List.getD_eq_getElem?_getD, List.getElem?_append_right hj]
            rcases Nat.eq_zero_or_pos (j - TQ.length) with h0 | h0
            · rw [h0]
              simp
            · rw [List.getElem?_eq_none (by simp; omega)]
              simp
        clear hG4 hO4 hBQ3 hs4 hrx4 hr04 hGP4 hB4 hst hO5 hGPz hGQz hr0z hBz hDISz hnQ2
        generalize TQ ++ [[]] = TQ2 at *
        go_wp2_with fail
        clear g41 f41 gq3' gp2 fp2
        generalize w4.setCell ⟨bx, 1, none⟩ (.slice A4 nQ2 c4) = wz at *
        clear hsz3
        obtain ⟨cQ2, hc2⟩ : ∃ cQ2, cQ2 = c4 := ⟨_, rfl⟩
        subst hc2
        have halt : a < TQ2.length := by rw [← HNQ2.out]; exact hal2
        obtain ⟨gq, cq, u, e1, hcell, hfrz, hu⟩ := HGQz.out.at halt
        injection e1 with e1 e2 e3
        subst e1
        subst e3
        clear e2
        obtain ⟨row, hrow⟩ : ∃ row, row = TQ2.getD a [] := ⟨_, rfl⟩
        rw [← hrow] at hu HTQ2
        obtain ⟨Au, cu, rfl, hIu, hcu⟩ := hu.ints
        have hrl : row.length ≤ 1000 := by rw [hrow]; exact HQ2R.out a
        obtain ⟨m, hm⟩ : ∃ m, m = row.length := ⟨_, rfl⟩
        rw [← hm] at hcell hu
        have gx1 : wz.cell? ⟨bx, 1, none⟩ = some (.slice (some ⟨gq, 0, none⟩) nQ2 cQ2) := by have := HRXz.out.cell (i := 1) (by omega); exact this
        have fx1 := HRXz.out.frozen 1
        have hbz : bx < wz.heap.size := HRXz.out.lt
        have hgq := HGQz.out.outer_lt
        have hgb : bx ≠ gq := by have := HGQz.out.outer_ge; omega
        have hgb2 : gq ≠ bx := fun e => hgb e.symm
        have HRP := hid (fun w' u1 (ys : List Int) (hb1 : wz.drew.grownBy w' (Value.slice Au m cu).ownBlock) (ho1 : OwnInts w' (bx + 1) u1 ys) hb2 => (HGQz.out.drewN 1).replace halt hcell hb1 ho1 hb2 (show bx + 1 ≤ wz.heap.size by omega))
        have HOK := hid (fun w' (hb1 : wz.drew.grownBy w' (Value.slice Au m cu).ownBlock) => (HGQz.out.drewN 1).outer_kept halt hcell hb1)
        have HU : Hid (OwnInts wz.drew (bx + 1) (.slice Au m cu) row) := hu
        have HBU : Hid (∀ k, (Value.slice Au m cu).ownBlock = some k → bx + 1 ≤ k) := fun k hk => (World.ownsRow.lt hu k hk).1
        have HM := hid hm
        have HFZ := hid hfrz
        have HCE := hid hcell
        have HGX := hid gx1
        clear hu hIu hcu hm hrow
        go_wp2_with fail
        refine wp_region_held_drew (S := fun w' => w'.cell? ⟨bx, 1, none⟩ = some (.slice (some ⟨gq, 0, none⟩) nQ2 cQ2)) (by kernel_rfl) HGX.out (fun hHeld => ?_)
        refine wpAnyH_take (i := 0) (oi := { dst := some 40, op := Op.fieldAddr 53 (Operand.tmp 5) 1, type := 0, pos := "tableau.go:43", after := #[], guard := none }) (v := ?v1) rfl (by kernel_rfl) (by kernel_rfl) (by kernel_rfl) (fun _ _ _ h => h) (Or.inl ⟨by rfl, ?hy1⟩) (by assumption) ?rest1
        case hy1 => (intro w9 hSw; (try dsimp only at hSw); go_simp; try with_reducible rfl)
        try simp only [Act.put, List.setIfInBounds_toArray, List.set_cons_zero, List.set_cons_succ]
        refine wpAnyH_take (i := 2) (oi := { dst := some 42, op := Op.move (Operand.tmp 8), type := 3, pos := "tableau.go:43", after := #[], guard := none }) (v := ?v2) rfl (by kernel_rfl) (by kernel_rfl) (by kernel_rfl) (fun _ _ _ h => h) (Or.inl ⟨by rfl, ?hy2⟩) (by assumption) ?rest2
        case hy2 => (intro w9 hSw; (try dsimp only at hSw); go_simp; try with_reducible rfl)
        try simp only [Act.put, List.setIfInBounds_toArray, List.set_cons_zero, List.set_cons_succ]
        refine wpAnyH_take (i := 3) (oi := { dst := some 43, op := Op.fieldAddr 53 (Operand.tmp 5) 1, type := 0, pos := "tableau.go:43", after := #[], guard := none }) (v := ?v3) rfl (by kernel_rfl) (by kernel_rfl) (by kernel_rfl) (fun _ _ _ h => h) (Or.inl ⟨by rfl, ?hy3⟩) (by assumption) ?rest3
        case hy3 => (intro w9 hSw; (try dsimp only at hSw); go_simp; try with_reducible rfl)
        try simp only [Act.put, List.setIfInBounds_toArray, List.set_cons_zero, List.set_cons_succ]
        refine wpAnyH_take (i := 5) (oi := { dst := some 45, op := Op.move (Operand.tmp 8), type := 3, pos := "tableau.go:43", after := #[], guard := none }) (v := ?v4) rfl (by kernel_rfl) (by kernel_rfl) (by kernel_rfl) (fun _ _ _ h => h) (Or.inl ⟨by rfl, ?hy4⟩) (by assumption) ?rest4
        case hy4 => (intro w9 hSw; (try dsimp only at hSw); go_simp; try with_reducible rfl)
        try simp only [Act.put, List.setIfInBounds_toArray, List.set_cons_zero, List.set_cons_succ]
        refine wpAnyH_take (i := 8) (oi := { dst := some 48, op := Op.move (Operand.tmp 6), type := 3, pos := "tableau.go:43", after := #[], guard := none }) (v := ?v5) rfl (by kernel_rfl) (by kernel_rfl) (by kernel_rfl) (fun _ _ _ h => h) (Or.inl ⟨by rfl, ?hy5⟩) (by assumption) ?rest5
        case hy5 => (intro w9 hSw; (try dsimp only at hSw); go_simp; try with_reducible rfl)
        try simp only [Act.put, List.setIfInBounds_toArray, List.set_cons_zero, List.set_cons_succ]
        refine wpAnyH_take (i := 1) (oi := { dst := some 41, op := Op.load 51 (Operand.tmp 40), type := 51, pos := "tableau.go:43", after := #[{ on := 0, ground := Ground.data }], guard := none }) (v := ?v6) rfl (by kernel_rfl) (by kernel_rfl) (by kernel_rfl) (fun _ _ _ h => h) (Or.inl ⟨by rfl, ?hy6⟩) (by assumption) ?rest6
        case hy6 => (intro w9 hSw; (try dsimp only at hSw); go_simp; try with_reducible rfl)
        try simp only [Act.put, List.setIfInBounds_toArray, List.set_cons_zero, List.set_cons_succ]
        refine wpAnyH_take (i := 4) (oi := { dst := some 44, op := Op.load 51 (Operand.tmp 43), type := 51, pos := "tableau.go:43", after := #[{ on := 3, ground := Ground.data }], guard := none }) (v := ?v7) rfl (by kernel_rfl) (by kernel_rfl) (by kernel_rfl) (fun _ _ _ h => h) (Or.inl ⟨by rfl, ?hy7⟩) (by assumption) ?rest7
        case hy7 => (intro w9 hSw; (try dsimp only at hSw); go_simp; try with_reducible rfl)
        try simp only [Act.put, List.setIfInBounds_toArray, List.set_cons_zero, List.set_cons_succ]
        refine wpAnyH_take (i := 6) (oi := { dst := some 46, op := Op.indexAddr 51 (Operand.tmp 44) (Operand.tmp 45), type := 0, pos := "tableau.go:43", after := #[{ on := 4, ground := Ground.data }, { on := 5, ground := Ground.data }], guard := none }) (v := ?v8) rfl (by kernel_rfl) (by kernel_rfl) (by kernel_rfl) (fun _ _ _ h => h) (Or.inl ⟨by rfl, ?hy8⟩) (by assumption) ?rest8
        case hy8 => (intro w9 hSw; (try dsimp only at hSw); go_simp; try with_reducible rfl)
        try simp only [Act.put, List.setIfInBounds_toArray, List.set_cons_zero, List.set_cons_succ]
        refine wpAnyH_ready (rs := [7, 9]) (by kernel_rfl) (by simp) ?_
        refine AllReadyH.cons (o := { dst := some 47, op := Op.load 44 (Operand.tmp 46), type := 44, pos := "tableau.go:43", after := #[{ on := 6, ground := Ground.data }], guard := none }) rfl (fun K hK => ?_) (AllReadyH.cons (o := { dst := some 49, op := Op.buildSlice 44 1 #[(0, Operand.tmp 48)], type := 44, pos := "tableau.go:43", after := #[{ on := 8, ground := Ground.data }], guard := none }) rfl (fun K hK => ?_) AllReadyH.nil)
        · go_simp
          refine hK.out _ _ ?hS9 (fun hHeld => ?rest9)
          case hS9 => (try dsimp only); (first | exact HGX.out | exact q3 | go_keep)
          clear hK K
          try simp only [Act.put, List.setIfInBounds_toArray, List.set_cons_zero, List.set_cons_succ]
          refine wpAnyH_ready (rs := [9]) (by kernel_rfl) (by simp) ?_
          refine AllReadyH.cons (o := { dst := some 49, op := Op.buildSlice 44 1 #[(0, Operand.tmp 48)], type := 44, pos := "tableau.go:43", after := #[{ on := 8, ground := Ground.data }], guard := none }) rfl (fun K hK => ?_) AllReadyH.nil
          go_simp
          refine hK.out _ _ ?hS10 (fun hHeld => ?rest10)
          case hS10 => (try dsimp only); (first | exact HGX.out | exact q3 | go_keep)
          clear hK K
          try simp only [Act.put, List.setIfInBounds_toArray, List.set_cons_zero, List.set_cons_succ]
          refine wpAnyH_ready (rs := [10]) (by kernel_rfl) (by simp) ?_
          refine AllReadyH.cons (o := { dst := some 50, op := Op.call { callee := Callee.builtin Builtin.append, args := #[Operand.tmp 47, Operand.tmp 49], argTypes := #[44, 44] }, type := 44, pos := "tableau.go:43", after := #[{ on := 7, ground := Ground.data }, { on := 9, ground := Ground.data }], guard := none }) rfl (fun K hK => ?_) AllReadyH.nil
          refine step_app1At wz.drew rfl (.tmp 47) (.tmp 49) rfl (bx + 1) _ row (i : Int) rfl rfl HU.out (by omega) (show bx + 1 ≤ wz.heap.size by omega) ?_; intro A6 n6 c6 w6 ho6 hb6 hl6; have q1 : w6.cell? ⟨gq, a, none⟩ = some (.slice Au m cu) := (World.cell?_of_block (a := ⟨gq, a, none⟩) (HOK.out w6 hb6)).trans HCE.out; have q2 : w6.frozen? ⟨gq, a, none⟩ = false := (World.frozen?_of_block (a := ⟨gq, a, none⟩) (HOK.out w6 hb6)).trans HFZ.out; have q3 : w6.cell? ⟨bx, 1, none⟩ = some (.slice (some ⟨gq, 0, none⟩) nQ2 cQ2) := (World.cell?_of_block (a := ⟨bx, 1, none⟩) (hb6.block bx hbz (fun e => by have := HBU.out bx e.symm; omega))).trans HGX.out; have HR6 := hid (HRP.out w6 (.slice A6 n6 c6) (row ++ [(i : Int)]) hb6 ho6 hl6); have hsz6 := hb6.size; clear ho6 hb6 hl6
          refine hK.out _ _ ?hS11 (fun hHeld => ?rest11)
          case hS11 => (try dsimp only); (first | exact HGX.out | exact q3 | go_keep)
          clear hK K
          try simp only [Act.put, List.setIfInBounds_toArray, List.set_cons_zero, List.set_cons_succ]
          refine wpAnyH_take (i := 11) (oi := { dst := some 51, op := Op.indexAddr 51 (Operand.tmp 41) (Operand.tmp 42), type := 0, pos := "tableau.go:43", after := #[{ on := 1, ground := Ground.data }, { on := 2, ground := Ground.data }, { on := 0, ground := Ground.phase }, { on := 1, ground := Ground.phase }, { on := 2, ground := Ground.phase }, { on := 3, ground := Ground.phase }, { on := 4, ground := Ground.phase }, { on := 5, ground := Ground.phase }, { on := 6, ground := Ground.phase }, { on := 7, ground := Ground.phase }, { on := 8, ground := Ground.phase }, { on := 9, ground := Ground.phase }, { on := 10, ground := Ground.phase }], guard := none }) (v := ?v12) rfl (by kernel_rfl) (by kernel_rfl) (by kernel_rfl) (fun _ _ _ h => h) (Or.inl ⟨by rfl, ?hy12⟩) (by assumption) ?rest12
          case hy12 => (intro w9 hSw; (try dsimp only at hSw); go_simp; try with_reducible rfl)
          try simp only [Act.put, List.setIfInBounds_toArray, List.set_cons_zero, List.set_cons_succ]
          refine wpAnyH_ready (rs := [12]) (by kernel_rfl) (by simp) ?_
          refine AllReadyH.cons (o := { dst := none, op := Op.store 44 (Operand.tmp 51) (Operand.tmp 50), type := 0, pos := "tableau.go:43", after := #[{ on := 11, ground := Ground.data }, { on := 10, ground := Ground.data }, { on := 10, ground := Ground.chain }, { on := 0, ground := Ground.phase }, { on := 1, ground := Ground.phase }, { on := 2, ground := Ground.phase }, { on := 3, ground := Ground.phase }, { on := 4, ground := Ground.phase }, { on := 5, ground := Ground.phase }, { on := 6, ground := Ground.phase }, { on := 7, ground := Ground.phase }, { on := 8, ground := Ground.phase }, { on := 9, ground := Ground.phase }, { on := 10, ground := Ground.phase }], guard := none }) rfl (fun K hK => ?_) AllReadyH.nil
          go_simp
          refine hK.out _ _ ?hS13 (fun hHeld => ?rest13)
          case hS13 => (try dsimp only); (first | exact HGX.out | exact q3 | go_keep)
          clear hK K
          try simp only [Act.put, List.setIfInBounds_toArray, List.set_cons_zero, List.set_cons_succ]
          refine wpAnyH_done (by kernel_rfl) ?_ _
          go_wp2
          go_roundg (n - (i + 1))
          case measure => omega
          case rel =>
            obtain ⟨hG7, hO7⟩ := HR6.out
            have hwz : (wz.drewN 1).heap.size = wz.heap.size := rfl
            have hBQ := HGQz.out.bound
            have k1 := (HGPz.out.drewN 1).only hO7 HDISz.out
            rw [← HPS.out] at k1
            have k2 := hG7
            rw [HTQ2.out, ← HQS.out] at k2
            have k4 := HRXz.out.of_block (hO7.block bx hbz (fun e => by have := hBQ bx e; omega))
            have k5 := HR0z.out.of_block (hO7.block w.heap.size (by rw [hwz]; omega) (fun e => by have := hBQ _ e; omega))
            have k6 := (below_drewN HBz.out 1).trans (hO7.below (B := w.heap.size) (show w.heap.size ≤ wz.heap.size by omega) (fun k hk => by have := hBQ k hk; omega))
            have k3 := HDISz.out
            exact ⟨i + 1, _, _, _, _, by omega, by omega, by go_num, k1, k2, (fun k h1 h2 => by
              rcases h2 with h2 | h2
              · exact k3 k h1 h2
              · have h3 := (HGPz.out.bound k h1).2
                rw [hwz] at h2
                omega), k4, k5, k6, hwb⟩
        · go_simp
          refine hK.out _ _ ?hS14 (fun hHeld => ?rest14)
          case hS14 => (try dsimp only); (first | exact HGX.out | exact q3 | go_keep)
          clear hK K
          try simp only [Act.put, List.setIfInBounds_toArray, List.set_cons_zero, List.set_cons_succ]
          refine wpAnyH_ready (rs := [7]) (by kernel_rfl) (by simp) ?_
          refine AllReadyH.cons (o := { dst := some 47, op := Op.load 44 (Operand.tmp 46), type := 44, pos := "tableau.go:43", after := #[{ on := 6, ground := Ground.data }], guard := none }) rfl (fun K hK => ?_) AllReadyH.nil
          go_simp
          refine hK.out _ _ ?hS15 (fun hHeld => ?rest15)
          case hS15 => (try dsimp only); (first | exact HGX.out | exact q3 | go_keep)
          clear hK K
          try simp only [Act.put, List.setIfInBounds_toArray, List.set_cons_zero, List.set_cons_succ]
          refine wpAnyH_ready (rs := [10]) (by kernel_rfl) (by simp) ?_
          refine AllReadyH.cons (o := { dst := some 50, op := Op.call { callee := Callee.builtin Builtin.append, args := #[Operand.tmp 47, Operand.tmp 49], argTypes := #[44, 44] }, type := 44, pos := "tableau.go:43", after := #[{ on := 7, ground := Ground.data }, { on := 9, ground := Ground.data }], guard := none }) rfl (fun K hK => ?_) AllReadyH.nil
          refine step_app1At wz.drew rfl (.tmp 47) (.tmp 49) rfl (bx + 1) _ row (i : Int) rfl rfl HU.out (by omega) (show bx + 1 ≤ wz.heap.size by omega) ?_; intro A6 n6 c6 w6 ho6 hb6 hl6; have q1 : w6.cell? ⟨gq, a, none⟩ = some (.slice Au m cu) := (World.cell?_of_block (a := ⟨gq, a, none⟩) (HOK.out w6 hb6)).trans HCE.out; have q2 : w6.frozen? ⟨gq, a, none⟩ = false := (World.frozen?_of_block (a := ⟨gq, a, none⟩) (HOK.out w6 hb6)).trans HFZ.out; have q3 : w6.cell? ⟨bx, 1, none⟩ = some (.slice (some ⟨gq, 0, none⟩) nQ2 cQ2) := (World.cell?_of_block (a := ⟨bx, 1, none⟩) (hb6.block bx hbz (fun e => by have := HBU.out bx e.symm; omega))).trans HGX.out; have HR6 := hid (HRP.out w6 (.slice A6 n6 c6) (row ++ [(i : Int)]) hb6 ho6 hl6); have hsz6 := hb6.size; clear ho6 hb6 hl6
          refine hK.out _ _ ?hS16 (fun hHeld => ?rest16)
          case hS16 => (try dsimp only); (first | exact HGX.out | exact q3 | go_keep)
          clear hK K
          try simp only [Act.put, List.setIfInBounds_toArray, List.set_cons_zero, List.set_cons_succ]
          refine wpAnyH_take (i := 11) (oi := { dst := some 51, op := Op.indexAddr 51 (Operand.tmp 41) (Operand.tmp 42), type := 0, pos := "tableau.go:43", after := #[{ on := 1, ground := Ground.data }, { on := 2, ground := Ground.data }, { on := 0, ground := Ground.phase }, { on := 1, ground := Ground.phase }, { on := 2, ground := Ground.phase }, { on := 3, ground := Ground.phase }, { on := 4, ground := Ground.phase }, { on := 5, ground := Ground.phase }, { on := 6, ground := Ground.phase }, { on := 7, ground := Ground.phase }, { on := 8, ground := Ground.phase }, { on := 9, ground := Ground.phase }, { on := 10, ground := Ground.phase }], guard := none }) (v := ?v17) rfl (by kernel_rfl) (by kernel_rfl) (by kernel_rfl) (fun _ _ _ h => h) (Or.inl ⟨by rfl, ?hy17⟩) (by assumption) ?rest17
          case hy17 => (intro w9 hSw; (try dsimp only at hSw); go_simp; try with_reducible rfl)
          try simp only [Act.put, List.setIfInBounds_toArray, List.set_cons_zero, List.set_cons_succ]
          refine wpAnyH_ready (rs := [12]) (by kernel_rfl) (by simp) ?_
          refine AllReadyH.cons (o := { dst := none, op := Op.store 44 (Operand.tmp 51) (Operand.tmp 50), type := 0, pos := "tableau.go:43", after := #[{ on := 11, ground := Ground.data }, { on := 10, ground := Ground.data }, { on := 10, ground := Ground.chain }, { on := 0, ground := Ground.phase }, { on := 1, ground := Ground.phase }, { on := 2, ground := Ground.phase }, { on := 3, ground := Ground.phase }, { on := 4, ground := Ground.phase }, { on := 5, ground := Ground.phase }, { on := 6, ground := Ground.phase }, { on := 7, ground := Ground.phase }, { on := 8, ground := Ground.phase }, { on := 9, ground := Ground.phase }, { on := 10, ground := Ground.phase }], guard := none }) rfl (fun K hK => ?_) AllReadyH.nil
          go_simp
          refine hK.out _ _ ?hS18 (fun hHeld => ?rest18)
          case hS18 => (try dsimp only); (first | exact HGX.out | exact q3 | go_keep)
          clear hK K
          try simp only [Act.put, List.setIfInBounds_toArray, List.set_cons_zero, List.set_cons_succ]
          refine wpAnyH_done (by kernel_rfl) ?_ _
          go_wp2
          go_roundg (n - (i + 1))
          case measure => omega
          case rel =>
            obtain ⟨hG7, hO7⟩ := HR6.out
            have hwz : (wz.drewN 1).heap.size = wz.heap.size := rfl
            have hBQ := HGQz.out.bound
            have k1 := (HGPz.out.drewN 1).only hO7 HDISz.out
            rw [← HPS.out] at k1
            have k2 := hG7
            rw [HTQ2.out, ← HQS.out] at k2
            have k4 := HRXz.out.of_block (hO7.block bx hbz (fun e => by have := hBQ bx e; omega))
            have k5 := HR0z.out.of_block (hO7.block w.heap.size (by rw [hwz]; omega) (fun e => by have := hBQ _ e; omega))
            have k6 := (below_drewN HBz.out 1).trans (hO7.below (B := w.heap.size) (show w.heap.size ≤ wz.heap.size by omega) (fun k hk => by have := hBQ k hk; omega))
            have k3 := HDISz.out
            exact ⟨i + 1, _, _, _, _, by omega, by omega, by go_num, k1, k2, (fun k h1 h2 => by
              rcases h2 with h2 | h2
              · exact k3 k h1 h2
              · have h3 := (HGPz.out.bound k h1).2
                rw [hwz] at h2
                omega), k4, k5, k6, hwb⟩
      · have hbe : ((a : Int) == (nQ : Int)) = false := by simp; omega
        have HGPz := HGP3
        have HGQz := HGQ3
        have HRXz := HRX3
        have HR0z := HR03
        have HBz := HB3
        have HDISz := HDIS2
        have HNQ2 := HNQ
        have hal2 : a < nQ := by omega
        have HTQ2 : Hid (TQ.set a (TQ.getD a [] ++ [(i : Int)]) = tadd TQ a (i : Int)) := (tadd_lt TQ a (i : Int) (by rw [← HNQ.out]; exact hal2)).symm
        have HQ2R : Hid (∀ j, (TQ.getD j []).length ≤ 1000) := fun j => by have := HQR.out j; omega
        obtain ⟨TQ2, hTQ2⟩ : ∃ TQ2, TQ2 = TQ := ⟨_, rfl⟩
        rw [← hTQ2] at HGQz HNQ2 HQ2R
        have HTQ2 : Hid (TQ2.set a (TQ2.getD a [] ++ [(i : Int)]) = tadd TQ a (i : Int)) := by rw [hTQ2]; exact HTQ2.out
        clear hTQ2 HGP3 HGQ3 HRX3 HR03 HB3
        go_wp2_with fail
        clear gq3' gp2 fp2
        generalize w2.setCell ⟨bx, 0, none⟩ (.slice AP2 nP2 cP2) = wz at *
        clear hsz3
        obtain ⟨nQ2, hn2⟩ : ∃ nQ2, nQ2 = nQ := ⟨_, rfl⟩
        subst hn2
        obtain ⟨cQ2, hc2⟩ : ∃ cQ2, cQ2 = cQ := ⟨_, rfl⟩
        subst hc2
        have halt : a < TQ2.length := by rw [← HNQ2.out]; exact hal2
        obtain ⟨gq, cq, u, e1, hcell, hfrz, hu⟩ := HGQz.out.at halt
        injection e1 with e1 e2 e3
        subst e1
        subst e3
        clear e2
        obtain ⟨row, hrow⟩ : ∃ row, row = TQ2.getD a [] := ⟨_, rfl⟩
        rw [← hrow] at hu HTQ2
        obtain ⟨Au, cu, rfl, hIu, hcu⟩ := hu.ints
        have hrl : row.length ≤ 1000 := by rw [hrow]; exact HQ2R.out a
        obtain ⟨m, hm⟩ : ∃ m, m = row.length := ⟨_, rfl⟩
        rw [← hm] at hcell hu
        have gx1 : wz.cell? ⟨bx, 1, none⟩ = some (.slice (some ⟨gq, 0, none⟩) nQ2 cQ2) := by have := HRXz.out.cell (i := 1) (by omega); exact this
        have fx1 := HRXz.out.frozen 1
        have hbz : bx < wz.heap.size := HRXz.out.lt
        have hgq := HGQz.out.outer_lt
        have hgb : bx ≠ gq := by have := HGQz.out.outer_ge; omega
        have hgb2 : gq ≠ bx := fun e => hgb e.symm
        have HRP := hid (fun w' u1 (ys : List Int) (hb1 : wz.drew.grownBy w' (Value.slice Au m cu).ownBlock) (ho1 : OwnInts w' (bx + 1) u1 ys) hb2 => (HGQz.out.drewN 1).replace halt hcell hb1 ho1 hb2 (show bx + 1 ≤ wz.heap.size by omega))
        have HOK := hid (fun w' (hb1 : wz.drew.grownBy w' (Value.slice Au m cu).ownBlock) => (HGQz.out.drewN 1).outer_kept halt hcell hb1)
        have HU : Hid (OwnInts wz.drew (bx + 1) (.slice Au m cu) row) := hu
        have HBU : Hid (∀ k, (Value.slice Au m cu).ownBlock = some k → bx + 1 ≤ k) := fun k hk => (World.ownsRow.lt hu k hk).1
        have HM := hid hm
        have HFZ := hid hfrz
        have HCE := hid hcell
        have HGX := hid gx1
        clear hu hIu hcu hm hrow
        go_wp2_with fail
        refine wp_region_held_drew (S := fun w' => w'.cell? ⟨bx, 1, none⟩ = some (.slice (some ⟨gq, 0, none⟩) nQ2 cQ2)) (by kernel_rfl) HGX.out (fun hHeld => ?_)
        refine wpAnyH_take (i := 0) (oi := { dst := some 40, op := Op.fieldAddr 53 (Operand.tmp 5) 1, type := 0, pos := "tableau.go:43", after := #[], guard := none }) (v := ?v19) rfl (by kernel_rfl) (by kernel_rfl) (by kernel_rfl) (fun _ _ _ h => h) (Or.inl ⟨by rfl, ?hy19⟩) (by assumption) ?rest19
        case hy19 => (intro w9 hSw; (try dsimp only at hSw); go_simp; try with_reducible rfl)
        try simp only [Act.put, List.setIfInBounds_toArray, List.set_cons_zero, List.set_cons_succ]
        refine wpAnyH_take (i := 2) (oi := { dst := some 42, op := Op.move (Operand.tmp 8), type := 3, pos := "tableau.go:43", after := #[], guard := none }) (v := ?v20) rfl (by kernel_rfl) (by kernel_rfl) (by kernel_rfl) (fun _ _ _ h => h) (Or.inl ⟨by rfl, ?hy20⟩) (by assumption) ?rest20
        case hy20 => (intro w9 hSw; (try dsimp only at hSw); go_simp; try with_reducible rfl)
        try simp only [Act.put, List.setIfInBounds_toArray, List.set_cons_zero, List.set_cons_succ]
        refine wpAnyH_take (i := 3) (oi := { dst := some 43, op := Op.fieldAddr 53 (Operand.tmp 5) 1, type := 0, pos := "tableau.go:43", after := #[], guard := none }) (v := ?v21) rfl (by kernel_rfl) (by kernel_rfl) (by kernel_rfl) (fun _ _ _ h => h) (Or.inl ⟨by rfl, ?hy21⟩) (by assumption) ?rest21
        case hy21 => (intro w9 hSw; (try dsimp only at hSw); go_simp; try with_reducible rfl)
        try simp only [Act.put, List.setIfInBounds_toArray, List.set_cons_zero, List.set_cons_succ]
        refine wpAnyH_take (i := 5) (oi := { dst := some 45, op := Op.move (Operand.tmp 8), type := 3, pos := "tableau.go:43", after := #[], guard := none }) (v := ?v22) rfl (by kernel_rfl) (by kernel_rfl) (by kernel_rfl) (fun _ _ _ h => h) (Or.inl ⟨by rfl, ?hy22⟩) (by assumption) ?rest22
        case hy22 => (intro w9 hSw; (try dsimp only at hSw); go_simp; try with_reducible rfl)
        try simp only [Act.put, List.setIfInBounds_toArray, List.set_cons_zero, List.set_cons_succ]
        refine wpAnyH_take (i := 8) (oi := { dst := some 48, op := Op.move (Operand.tmp 6), type := 3, pos := "tableau.go:43", after := #[], guard := none }) (v := ?v23) rfl (by kernel_rfl) (by kernel_rfl) (by kernel_rfl) (fun _ _ _ h => h) (Or.inl ⟨by rfl, ?hy23⟩) (by assumption) ?rest23
        case hy23 => (intro w9 hSw; (try dsimp only at hSw); go_simp; try with_reducible rfl)
        try simp only [Act.put, List.setIfInBounds_toArray, List.set_cons_zero, List.set_cons_succ]
        refine wpAnyH_take (i := 1) (oi := { dst := some 41, op := Op.load 51 (Operand.tmp 40), type := 51, pos := "tableau.go:43", after := #[{ on := 0, ground := Ground.data }], guard := none }) (v := ?v24) rfl (by kernel_rfl) (by kernel_rfl) (by kernel_rfl) (fun _ _ _ h => h) (Or.inl ⟨by rfl, ?hy24⟩) (by assumption) ?rest24
        case hy24 => (intro w9 hSw; (try dsimp only at hSw); go_simp; try with_reducible rfl)
        try simp only [Act.put, List.setIfInBounds_toArray, List.set_cons_zero, List.set_cons_succ]
        refine wpAnyH_take (i := 4) (oi := { dst := some 44, op := Op.load 51 (Operand.tmp 43), type := 51, pos := "tableau.go:43", after := #[{ on := 3, ground := Ground.data }], guard := none }) (v := ?v25) rfl (by kernel_rfl) (by kernel_rfl) (by kernel_rfl) (fun _ _ _ h => h) (Or.inl ⟨by rfl, ?hy25⟩) (by assumption) ?rest25
        case hy25 => (intro w9 hSw; (try dsimp only at hSw); go_simp; try with_reducible rfl)
        try simp only [Act.put, List.setIfInBounds_toArray, List.set_cons_zero, List.set_cons_succ]
        refine wpAnyH_take (i := 6) (oi := { dst := some 46, op := Op.indexAddr 51 (Operand.tmp 44) (Operand.tmp 45), type := 0, pos := "tableau.go:43", after := #[{ on := 4, ground := Ground.data }, { on := 5, ground := Ground.data }], guard := none }) (v := ?v26) rfl (by kernel_rfl) (by kernel_rfl) (by kernel_rfl) (fun _ _ _ h => h) (Or.inl ⟨by rfl, ?hy26⟩) (by assumption) ?rest26
        case hy26 => (intro w9 hSw; (try dsimp only at hSw); go_simp; try with_reducible rfl)
        try simp only [Act.put, List.setIfInBounds_toArray, List.set_cons_zero, List.set_cons_succ]
        refine wpAnyH_ready (rs := [7, 9]) (by kernel_rfl) (by simp) ?_
        refine AllReadyH.cons (o := { dst := some 47, op := Op.load 44 (Operand.tmp 46), type := 44, pos := "tableau.go:43", after := #[{ on := 6, ground := Ground.data }], guard := none }) rfl (fun K hK => ?_) (AllReadyH.cons (o := { dst := some 49, op := Op.buildSlice 44 1 #[(0, Operand.tmp 48)], type := 44, pos := "tableau.go:43", after := #[{ on := 8, ground := Ground.data }], guard := none }) rfl (fun K hK => ?_) AllReadyH.nil)
        · go_simp
          refine hK.out _ _ ?hS27 (fun hHeld => ?rest27)
          case hS27 => (try dsimp only); (first | exact HGX.out | exact q3 | go_keep)
          clear hK K
          try simp only [Act.put, List.setIfInBounds_toArray, List.set_cons_zero, List.set_cons_succ]
          refine wpAnyH_ready (rs := [9]) (by kernel_rfl) (by simp) ?_
          refine AllReadyH.cons (o := { dst := some 49, op := Op.buildSlice 44 1 #[(0, Operand.tmp 48)], type := 44, pos := "tableau.go:43", after := #[{ on := 8, ground := Ground.data }], guard := none }) rfl (fun K hK => ?_) AllReadyH.nil
          go_simp
          refine hK.out _ _ ?hS28 (fun hHeld => ?rest28)
          case hS28 => (try dsimp only); (first | exact HGX.out | exact q3 | go_keep)
          clear hK K
          try simp only [Act.put, List.setIfInBounds_toArray, List.set_cons_zero, List.set_cons_succ]
          refine wpAnyH_ready (rs := [10]) (by kernel_rfl) (by simp) ?_
          refine AllReadyH.cons (o := { dst := some 50, op := Op.call { callee := Callee.builtin Builtin.append, args := #[Operand.tmp 47, Operand.tmp 49], argTypes := #[44, 44] }, type := 44, pos := "tableau.go:43", after := #[{ on := 7, ground := Ground.data }, { on := 9, ground := Ground.data }], guard := none }) rfl (fun K hK => ?_) AllReadyH.nil
          refine step_app1At wz.drew rfl (.tmp 47) (.tmp 49) rfl (bx + 1) _ row (i : Int) rfl rfl HU.out (by omega) (show bx + 1 ≤ wz.heap.size by omega) ?_; intro A6 n6 c6 w6 ho6 hb6 hl6; have q1 : w6.cell? ⟨gq, a, none⟩ = some (.slice Au m cu) := (World.cell?_of_block (a := ⟨gq, a, none⟩) (HOK.out w6 hb6)).trans HCE.out; have q2 : w6.frozen? ⟨gq, a, none⟩ = false := (World.frozen?_of_block (a := ⟨gq, a, none⟩) (HOK.out w6 hb6)).trans HFZ.out; have q3 : w6.cell? ⟨bx, 1, none⟩ = some (.slice (some ⟨gq, 0, none⟩) nQ2 cQ2) := (World.cell?_of_block (a := ⟨bx, 1, none⟩) (hb6.block bx hbz (fun e => by have := HBU.out bx e.symm; omega))).trans HGX.out; have HR6 := hid (HRP.out w6 (.slice A6 n6 c6) (row ++ [(i : Int)]) hb6 ho6 hl6); have hsz6 := hb6.size; clear ho6 hb6 hl6
          refine hK.out _ _ ?hS29 (fun hHeld => ?rest29)
          case hS29 => (try dsimp only); (first | exact HGX.out | exact q3 | go_keep)
          clear hK K
          try simp only [Act.put, List.setIfInBounds_toArray, List.set_cons_zero, List.set_cons_succ]
          refine wpAnyH_take (i := 11) (oi := { dst := some 51, op := Op.indexAddr 51 (Operand.tmp 41) (Operand.tmp 42), type := 0, pos := "tableau.go:43", after := #[{ on := 1, ground := Ground.data }, { on := 2, ground := Ground.data }, { on := 0, ground := Ground.phase }, { on := 1, ground := Ground.phase }, { on := 2, ground := Ground.phase }, { on := 3, ground := Ground.phase }, { on := 4, ground := Ground.phase }, { on := 5, ground := Ground.phase }, { on := 6, ground := Ground.phase }, { on := 7, ground := Ground.phase }, { on := 8, ground := Ground.phase }, { on := 9, ground := Ground.phase }, { on := 10, ground := Ground.phase }], guard := none }) (v := ?v30) rfl (by kernel_rfl) (by kernel_rfl) (by kernel_rfl) (fun _ _ _ h => h) (Or.inl ⟨by rfl, ?hy30⟩) (by assumption) ?rest30
          case hy30 => (intro w9 hSw; (try dsimp only at hSw); go_simp; try with_reducible rfl)
          try simp only [Act.put, List.setIfInBounds_toArray, List.set_cons_zero, List.set_cons_succ]
          refine wpAnyH_ready (rs := [12]) (by kernel_rfl) (by simp) ?_
          refine AllReadyH.cons (o := { dst := none, op := Op.store 44 (Operand.tmp 51) (Operand.tmp 50), type := 0, pos := "tableau.go:43", after := #[{ on := 11, ground := Ground.data }, { on := 10, ground := Ground.data }, { on := 10, ground := Ground.chain }, { on := 0, ground := Ground.phase }, { on := 1, ground := Ground.phase }, { on := 2, ground := Ground.phase }, { on := 3, ground := Ground.phase }, { on := 4, ground := Ground.phase }, { on := 5, ground := Ground.phase }, { on := 6, ground := Ground.phase }, { on := 7, ground := Ground.phase }, { on := 8, ground := Ground.phase }, { on := 9, ground := Ground.phase }, { on := 10, ground := Ground.phase }], guard := none }) rfl (fun K hK => ?_) AllReadyH.nil
          go_simp
          refine hK.out _ _ ?hS31 (fun hHeld => ?rest31)
          case hS31 => (try dsimp only); (first | exact HGX.out | exact q3 | go_keep)
          clear hK K
          try simp only [Act.put, List.setIfInBounds_toArray, List.set_cons_zero, List.set_cons_succ]
          refine wpAnyH_done (by kernel_rfl) ?_ _
          go_wp2
          go_roundg (n - (i + 1))
          case measure => omega
          case rel =>
            obtain ⟨hG7, hO7⟩ := HR6.out
            have hwz : (wz.drewN 1).heap.size = wz.heap.size := rfl
            have hBQ := HGQz.out.bound
            have k1 := (HGPz.out.drewN 1).only hO7 HDISz.out
            rw [← HPS.out] at k1
            have k2 := hG7
            rw [HTQ2.out, ← HQS.out] at k2
            have k4 := HRXz.out.of_block (hO7.block bx hbz (fun e => by have := hBQ bx e; omega))
            have k5 := HR0z.out.of_block (hO7.block w.heap.size (by rw [hwz]; omega) (fun e => by have := hBQ _ e; omega))
            have k6 := (below_drewN HBz.out 1).trans (hO7.below (B := w.heap.size) (show w.heap.size ≤ wz.heap.size by omega) (fun k hk => by have := hBQ k hk; omega))
            have k3 := HDISz.out
            exact ⟨i + 1, _, _, _, _, by omega, by omega, by go_num, k1, k2, (fun k h1 h2 => by
              rcases h2 with h2 | h2
              · exact k3 k h1 h2
              · have h3 := (HGPz.out.bound k h1).2
                rw [hwz] at h2
                omega), k4, k5, k6, hwb⟩
        · go_simp
          refine hK.out _ _ ?hS32 (fun hHeld => ?rest32)
          case hS32 => (try dsimp only); (first | exact HGX.out | exact q3 | go_keep)
          clear hK K
          try simp only [Act.put, List.setIfInBounds_toArray, List.set_cons_zero, List.set_cons_succ]
          refine wpAnyH_ready (rs := [7]) (by kernel_rfl) (by simp) ?_
          refine AllReadyH.cons (o := { dst := some 47, op := Op.load 44 (Operand.tmp 46), type := 44, pos := "tableau.go:43", after := #[{ on := 6, ground := Ground.data }], guard := none }) rfl (fun K hK => ?_) AllReadyH.nil
          go_simp
          refine hK.out _ _ ?hS33 (fun hHeld => ?rest33)
          case hS33 => (try dsimp only); (first | exact HGX.out | exact q3 | go_keep)
          clear hK K
          try simp only [Act.put, List.setIfInBounds_toArray, List.set_cons_zero, List.set_cons_succ]
          refine wpAnyH_ready (rs := [10]) (by kernel_rfl) (by simp) ?_
          refine AllReadyH.cons (o := { dst := some 50, op := Op.call { callee := Callee.builtin Builtin.append, args := #[Operand.tmp 47, Operand.tmp 49], argTypes := #[44, 44] }, type := 44, pos := "tableau.go:43", after := #[{ on := 7, ground := Ground.data }, { on := 9, ground := Ground.data }], guard := none }) rfl (fun K hK => ?_) AllReadyH.nil
          refine step_app1At wz.drew rfl (.tmp 47) (.tmp 49) rfl (bx + 1) _ row (i : Int) rfl rfl HU.out (by omega) (show bx + 1 ≤ wz.heap.size by omega) ?_; intro A6 n6 c6 w6 ho6 hb6 hl6; have q1 : w6.cell? ⟨gq, a, none⟩ = some (.slice Au m cu) := (World.cell?_of_block (a := ⟨gq, a, none⟩) (HOK.out w6 hb6)).trans HCE.out; have q2 : w6.frozen? ⟨gq, a, none⟩ = false := (World.frozen?_of_block (a := ⟨gq, a, none⟩) (HOK.out w6 hb6)).trans HFZ.out; have q3 : w6.cell? ⟨bx, 1, none⟩ = some (.slice (some ⟨gq, 0, none⟩) nQ2 cQ2) := (World.cell?_of_block (a := ⟨bx, 1, none⟩) (hb6.block bx hbz (fun e => by have := HBU.out bx e.symm; omega))).trans HGX.out; have HR6 := hid (HRP.out w6 (.slice A6 n6 c6) (row ++ [(i : Int)]) hb6 ho6 hl6); have hsz6 := hb6.size; clear ho6 hb6 hl6
          refine hK.out _ _ ?hS34 (fun hHeld => ?rest34)
          case hS34 => (try dsimp only); (first | exact HGX.out | exact q3 | go_keep)
          clear hK K
          try simp only [Act.put, List.setIfInBounds_toArray, List.set_cons_zero, List.set_cons_succ]
          refine wpAnyH_take (i := 11) (oi := { dst := some 51, op := Op.indexAddr 51 (Operand.tmp 41) (Operand.tmp 42), type := 0, pos := "tableau.go:43", after := #[{ on := 1, ground := Ground.data }, { on := 2, ground := Ground.data }, { on := 0, ground := Ground.phase }, { on := 1, ground := Ground.phase }, { on := 2, ground := Ground.phase }, { on := 3, ground := Ground.phase }, { on := 4, ground := Ground.phase }, { on := 5, ground := Ground.phase }, { on := 6, ground := Ground.phase }, { on := 7, ground := Ground.phase }, { on := 8, ground := Ground.phase }, { on := 9, ground := Ground.phase }, { on := 10, ground := Ground.phase }], guard := none }) (v := ?v35) rfl (by kernel_rfl) (by kernel_rfl) (by kernel_rfl) (fun _ _ _ h => h) (Or.inl ⟨by rfl, ?hy35⟩) (by assumption) ?rest35
          case hy35 => (intro w9 hSw; (try dsimp only at hSw); go_simp; try with_reducible rfl)
          try simp only [Act.put, List.setIfInBounds_toArray, List.set_cons_zero, List.set_cons_succ]
          refine wpAnyH_ready (rs := [12]) (by kernel_rfl) (by simp) ?_
          refine AllReadyH.cons (o := { dst := none, op := Op.store 44 (Operand.tmp 51) (Operand.tmp 50), type := 0, pos := "tableau.go:43", after := #[{ on := 11, ground := Ground.data }, { on := 10, ground := Ground.data }, { on := 10, ground := Ground.chain }, { on := 0, ground := Ground.phase }, { on := 1, ground := Ground.phase }, { on := 2, ground := Ground.phase }, { on := 3, ground := Ground.phase }, { on := 4, ground := Ground.phase }, { on := 5, ground := Ground.phase }, { on := 6, ground := Ground.phase }, { on := 7, ground := Ground.phase }, { on := 8, ground := Ground.phase }, { on := 9, ground := Ground.phase }, { on := 10, ground := Ground.phase }], guard := none }) rfl (fun K hK => ?_) AllReadyH.nil
          go_simp
          refine hK.out _ _ ?hS36 (fun hHeld => ?rest36)
          case hS36 => (try dsimp only); (first | exact HGX.out | exact q3 | go_keep)
          clear hK K
          try simp only [Act.put, List.setIfInBounds_toArray, List.set_cons_zero, List.set_cons_succ]
          refine wpAnyH_done (by kernel_rfl) ?_ _
          go_wp2
          go_roundg (n - (i + 1))
          case measure => omega
          case rel =>
            obtain ⟨hG7, hO7⟩ := HR6.out
            have hwz : (wz.drewN 1).heap.size = wz.heap.size := rfl
            have hBQ := HGQz.out.bound
            have k1 := (HGPz.out.drewN 1).only hO7 HDISz.out
            rw [← HPS.out] at k1
            have k2 := hG7
            rw [HTQ2.out, ← HQS.out] at k2
            have k4 := HRXz.out.of_block (hO7.block bx hbz (fun e => by have := hBQ bx e; omega))
            have k5 := HR0z.out.of_block (hO7.block w.heap.size (by rw [hwz]; omega) (fun e => by have := hBQ _ e; omega))
            have k6 := (below_drewN HBz.out 1).trans (hO7.below (B := w.heap.size) (show w.heap.size ≤ wz.heap.size by omega) (fun k hk => by have := hBQ k hk; omega))
            have k3 := HDISz.out
            exact ⟨i + 1, _, _, _, _, by omega, by omega, by go_num, k1, k2, (fun k h1 h2 => by
              rcases h2 with h2 | h2
              · exact k3 k h1 h2
              · have h3 := (HGPz.out.bound k h1).2
                rw [hwz] at h2
                omega), k4, k5, k6, hwb⟩
    · have hin : i = n := by omega
      subst hin
      have HT : Hid (xs.take i = xs) := List.take_of_length_le (by rw [HL.out]; exact Nat.le_refl _)
      obtain ⟨hGP, hGQ, _, hrx, hr0, hbel, _⟩ := HOF.out
      rw [HT.out] at hGP hGQ
      obtain ⟨AP, cP, rfl, hcapP⟩ := hGP.form
      obtain ⟨AQ, cQ, rfl, hcapQ⟩ := hGQ.form
      have gp := hrx.cell (i := 0) (by omega)
      have gq : wr.cell? ⟨bx, 1, none⟩ = some (.slice AQ (QT xs).length cQ) := by have := hrx.cell (i := 1) (by omega); exact this
      simp only [if_pos] at gp
      have g0 := hr0.cell (i := 0) (by omega)
      have g1 := hr0.cell (i := 1) (by omega)
      simp only [ite_self] at g0 g1
      have f0 := hr0.frozen 0
      have f1 := hr0.frozen 1
      have hwl : w.heap.size < wr.heap.size := hr0.lt
      have HBF : Hid (Below w.heap.size w ((wr.setCell ⟨w.heap.size, 0, none⟩ (.slice AP (PT xs).length cP)).setCell ⟨w.heap.size, 1, none⟩ (.slice AQ (QT xs).length cQ))) := (hbel.setCell (Nat.le_refl _) _).setCell (Nat.le_refl _) _
      have hO5 : Only (fun k => k = w.heap.size) wr ((wr.setCell ⟨w.heap.size, 0, none⟩ (.slice AP (PT xs).length cP)).setCell ⟨w.heap.size, 1, none⟩ (.slice AQ (QT xs).length cQ)) := (only_cell (fun k => k = w.heap.size) _ _ _ _ rfl).trans (only_cell (fun k => k = w.heap.size) _ _ _ _ rfl)
      have HG1 := hid (hGP.only hO5 (fun k h1 h2 => by have := hGP.bound k h1; omega)).rrows
      have HG2 := hid (hGQ.only hO5 (fun k h1 h2 => by have := hGQ.bound k h1; omega)).rrows
      have HS1 := hid (hGP.only hO5 (fun k h1 h2 => by have := hGP.bound k h1; omega)).brows
      have HS2 := hid (hGQ.only hO5 (fun k h1 h2 => by have := hGQ.bound k h1; omega)).brows
      have HC1 := hid hcapP
      have HC2 := hid hcapQ
      clear hGP hGQ hrx hr0 hbel hO5 hcapP hcapQ HOF
      generalize PT xs = TP at *
      generalize QT xs = TQ at *
      generalize TP.length = nP at *
      generalize TQ.length = nQ at *
      go_wp2
      (try simp only [Exit.inBlock, Exit.then])
      refine bodyPost_ret (v := .tuple #[.agg #[.slice AP nP cP, .slice AQ nQ cQ], .int .i64 0]) ?_ rfl ⟨AP, nP, cP, AQ, nQ, cQ, rfl, HG1.out, HG2.out, HS1.out.mono (by omega), HS2.out.mono (by omega), HC1.out, HC2.out, HBF.out⟩
      rw [results_cell_tmp rfl]
      go_simp

theorem tabOf_ok (A : Option Addr) (n c : Nat) (xs : List Int) (w : World) (h : Ints w A n xs) (he : permErr xs = 0) :
    Calls Try.prog 35 #[.slice A n c] w (RetPair w (PT xs) (QT xs)) :=
  (tabOf_own A n c xs w h he).mono fun _ _ ⟨B, m, d, B', m', d', h1, h2, h3, _, _, h4, h5, h6⟩ => ⟨B, m, d, B', m', d', h1, h2, h3, h4, h5, h6⟩

end Go.Proofs.Ytcnljljgdkjndaa

/-
  slices.EqualFunc at rows of rows, castkeep.sameRows, castref.SamePair.
-/
namespace Go.Proofs.Ytcnljljgdkjndaa
open Go.RowKit

/-- Row by row alike. -/
def sameBy (p : List Int → List Int → Bool) : List (List Int) → List (List Int) → Bool
  | [], [] => true
  | a :: T, b :: U => p a b && sameBy p T U
  | _, _ => false
theorem sameBy_len {p : List Int → List Int → Bool} : ∀ {T U : List (List Int)}, T.length ≠ U.length → sameBy p T U = false
  | [], [], h => absurd rfl h
  | [], _ :: _, _ => rfl
  | _ :: _, [], _ => rfl
  | a :: T, b :: U, h => by
    rw [sameBy, sameBy_len (T := T) (U := U) (fun e => h (by simp [e])), Bool.and_false]
theorem sameBy_not {p : List Int → List Int → Bool} : ∀ {T U : List (List Int)} {j : Nat}, j < T.length → p (T.getD j []) (U.getD j []) = false → sameBy p T U = false
  | [], _, _, h, _ => absurd h (Nat.not_lt_zero _)
  | _ :: _, [], _, _, _ => rfl
  | a :: T, b :: U, 0, _, h => by
    have h' : p a b = false := h
    rw [sameBy, h', Bool.false_and]
  | a :: T, b :: U, j + 1, hj, h => by
    rw [sameBy, sameBy_not (T := T) (U := U) (j := j) (by simpa using hj) (by simpa using h), Bool.and_false]
theorem sameBy_all {p : List Int → List Int → Bool} : ∀ {T U : List (List Int)}, T.length = U.length → (∀ j, j < T.length → p (T.getD j []) (U.getD j []) = true) → sameBy p T U = true
  | [], [], _, _ => rfl
  | [], _ :: _, h, _ => by simp at h
  | _ :: _, [], h, _ => by simp at h
  | a :: T, b :: U, h, hall => by
    have h0 : p a b = true := hall 0 (by simp)
    rw [sameBy, h0, Bool.true_and]
    exact sameBy_all (by simpa using h) (fun j hj => by simpa using hall (j + 1) (by simpa using hj))
theorem sameBy_eq : ∀ (T U : List (List Int)), sameBy (fun a b => decide (a = b)) T U = decide (T = U)
  | [], [] => rfl
  | [], _ :: _ => rfl
  | _ :: _, [] => rfl
  | a :: T, b :: U => by
    rw [sameBy, sameBy_eq T U]
    by_cases h1 : a = b
    · by_cases h2 : T = U
      · simp [h1, h2]
      · simp [h1, h2]
    · simp [h1]

/-- What a function that compares two rows does. -/
def CmpBy (F : Nat) (p : List Int → List Int → Bool) (L : Nat) : Prop := ∀ (A1 : Option Addr) (n c : Nat) (A2 : Option Addr) (m d : Nat) (xs ys : List Int) (w : World), Ints w A1 n xs → Ints w A2 m ys → Cap n c → Cap m d → n ≤ L → m ≤ L →
  Calls Try.prog F #[.slice A1 n c, .slice A2 m d] w fun e w' => e = .returned (.bool (p xs ys)) ∧ Below w.heap.size w w'

theorem RRows.at {w : World} {A : Option Addr} {n : Nat} {T : List (List Int)} (h : RRows w A n T) {j : Nat} (hj : j < n) : ∃ b off Aj nj cj, A = some ⟨b, off, none⟩ ∧ w.cell? ⟨b, off + j, none⟩ = some (.slice Aj nj cj) ∧ Ints w Aj nj (T.getD j []) ∧ Cap nj cj := by
  obtain ⟨b, off, e, _, hc⟩ := h.row (by omega)
  obtain ⟨Aj, nj, cj, h1, h2, h3, _⟩ := hc j hj
  exact ⟨b, off, Aj, nj, cj, e, h1, h2, h3⟩
theorem RRows.at0 {w : World} {A : Option Addr} {n : Nat} {T : List (List Int)} (h : RRows w A n T) {j : Nat} (hj : j < n) : ∃ b off Aj nj cj, A = some ⟨b, off, none⟩ ∧ w.cell? ⟨b, off + j, none⟩ = some (.slice Aj nj cj) ∧ Ints w Aj nj (T.getD j []) ∧ Cap nj cj ∧ (Aj = none → cj = 0) := by
  obtain ⟨b, off, e, _, hc⟩ := h.row (by omega)
  obtain ⟨Aj, nj, cj, h1, h2, h3, h4⟩ := hc j hj
  exact ⟨b, off, Aj, nj, cj, e, h1, h2, h3, h4⟩

def sameLenB (a b : List Int) : Bool := decide (a.length = b.length)
end Go.Proofs.Ytcnljljgdkjndaa

/-
  castkeep.tableaux; a pair of tableaux in a variable.
-/
namespace Go.Proofs.Ytcnljljgdkjndaa
open Go.RowKit

/-- Block b holds two tableaux. -/
structure PairAt (w : World) (b : Nat) (A : Option Addr) (n c : Nat) (A' : Option Addr) (n' c' : Nat) (P Q : List (List Int)) : Prop where
  p0 : w.cell? ⟨b, 0, none⟩ = some (.slice A n c)
  p1 : w.cell? ⟨b, 1, none⟩ = some (.slice A' n' c')
  lt : b < w.heap.size
  rp : RRows w A n P
  rq : RRows w A' n' Q
theorem PairAt.keep {w w' : World} {b : Nat} {A : Option Addr} {n c : Nat} {A' : Option Addr} {n' c' : Nat} {P Q : List (List Int)} (h : PairAt w b A n c A' n' c' P Q) (hb : Below w.heap.size w w') : PairAt w' b A n c A' n' c' P Q :=
  ⟨(hb.cell (p := ⟨b, 0, none⟩) h.lt).trans h.p0, (hb.cell (p := ⟨b, 1, none⟩) h.lt).trans h.p1, Nat.lt_of_lt_of_le h.lt hb.size, h.rp.keep hb, h.rq.keep hb⟩
theorem PairAt.new {w : World} {A : Option Addr} {n c : Nat} {A' : Option Addr} {n' c' : Nat} {P Q : List (List Int)} (h1 : RRows w A n P) (h2 : RRows w A' n' Q) : PairAt (w.alloc (.cells #[.slice A n c, .slice A' n' c'] 53)) w.heap.size A n c A' n' c' P Q := by
  have hr := pair_row0 (w := w) (b := 53) (x := .slice A n c) (y := .slice A' n' c')
  refine ⟨?_, ?_, hr.lt, h1.keep (below_alloc _ _), h2.keep (below_alloc _ _)⟩
  · exact (hr.cell (i := 0) (by omega)).trans rfl
  · exact (hr.cell (i := 1) (by omega)).trans rfl

theorem liveE : permErr [1, 2, 0] = 0 := by decide +kernel
theorem liveP : PT [1, 2, 0] = [[0, 2], [1]] := by decide
theorem liveQ : QT [1, 2, 0] = [[0, 1], [2]] := by decide

end Go.Proofs.Ytcnljljgdkjndaa
