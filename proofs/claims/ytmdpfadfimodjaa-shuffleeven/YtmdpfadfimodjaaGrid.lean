/-
  Words of my own for rows of rows of ints: rows that are only read, and rows that the call made and changes in place. Nothing of the program is proved here.
-/
import Derived.Test.YtmdpfadfimodjaaPartF
namespace Go.Proofs.Ytmdpfadfimodjaa
open Go.RowKit

/-- The slice value '.slice A n c' holds the rows T in the world w; each of them is only read. -/
structure RRows (w : World) (A : Option Addr) (n : Nat) (T : List (List Int)) : Prop where
  len : T.length = n
  row : 0 < n → ∃ b off, A = some ⟨b, off, none⟩ ∧ b < w.heap.size ∧ ∀ j, j < n → ∃ Aj nj cj, w.cell? ⟨b, off + j, none⟩ = some (.slice Aj nj cj) ∧ Ints w Aj nj (T.getD j []) ∧ Cap nj cj ∧ (Aj = none → cj = 0)

theorem RRows.nil (w : World) (A : Option Addr) : RRows w A 0 [] := ⟨rfl, fun h => absurd h (by omega)⟩
theorem RRows.keep {w w' : World} {A : Option Addr} {n : Nat} {T : List (List Int)} (h : RRows w A n T) (hb : Below w.heap.size w w') : RRows w' A n T := by
  refine ⟨h.len, fun hn => ?_⟩
  obtain ⟨b, off, e, hlt, hc⟩ := h.row hn
  refine ⟨b, off, e, Nat.lt_of_lt_of_le hlt hb.size, fun j hj => ?_⟩
  obtain ⟨Aj, nj, cj, h1, h2, h3, h4⟩ := hc j hj
  exact ⟨Aj, nj, cj, (hb.cell (p := ⟨b, off + j, none⟩) hlt).trans h1, h2.keep hb, h3, h4⟩
theorem RRows.drewN {w : World} {A : Option Addr} {n : Nat} {T : List (List Int)} (h : RRows w A n T) (k : Nat) : RRows (w.drewN k) A n T := h.keep (below_drewN (Below.refl _ _) k)

/-- Blocks of fp alone may have turned. -/
structure Only (fp : Nat → Prop) (a b : World) : Prop where
  os : b.os = a.os
  tape : b.tape = a.tape
  output : b.output = a.output
  size : a.heap.size ≤ b.heap.size
  block : ∀ k, k < a.heap.size → ¬ fp k → b.heap[k]? = a.heap[k]?
/-- fp, and what has been made since. -/
def fpN (fp : Nat → Prop) (a b : Nat) (k : Nat) : Prop := fp k ∨ (a ≤ k ∧ k < b)

namespace Only
variable {fp : Nat → Prop} {a b c : World}
theorem refl (fp : Nat → Prop) (a : World) : Only fp a a := ⟨rfl, rfl, rfl, Nat.le_refl _, fun _ _ _ => rfl⟩
theorem trans (h : Only fp a b) (k : Only fp b c) : Only fp a c :=
  ⟨k.os.trans h.os, k.tape.trans h.tape, k.output.trans h.output, Nat.le_trans h.size k.size, fun i hi hn => (k.block i (Nat.lt_of_lt_of_le hi h.size) hn).trans (h.block i hi hn)⟩
theorem transN (h : Only fp a b) (k : Only (fpN fp a.heap.size b.heap.size) b c) : Only fp a c :=
  ⟨k.os.trans h.os, k.tape.trans h.tape, k.output.trans h.output, Nat.le_trans h.size k.size, fun i hi hn => (k.block i (Nat.lt_of_lt_of_le hi h.size) (fun e => e.elim hn (fun e => by omega))).trans (h.block i hi hn)⟩
theorem up {fp' : Nat → Prop} (h : Only fp a b) (hs : ∀ k, k < a.heap.size → fp k → fp' k) : Only fp' a b := ⟨h.os, h.tape, h.output, h.size, fun k hk hn => h.block k hk (fun e => hn (hs k hk e))⟩
theorem of_below (h : Below a.heap.size a b) : Only fp a b := ⟨h.os, h.tape, h.output, h.size, fun k hk _ => h.block k hk⟩
theorem below {B : Nat} (h : Only fp a b) (hB : B ≤ a.heap.size) (hf : ∀ k, fp k → B ≤ k) : Below B a b := ⟨h.os, h.tape, h.output, h.size, fun k hk => h.block k (by omega) (fun e => by have := hf k e; omega)⟩
theorem set {g : Nat} (h : Only fp a b) (hg : fp g) (j : Nat) (u : Value) : Only fp a (b.setCell ⟨g, j, none⟩ u) :=
  ⟨h.os, h.tape, h.output, by simpa [World.setCell] using h.size, fun i hi hne => (Below.heap_setCell b ⟨g, j, none⟩ u i (by rintro rfl; exact hne hg)).trans (h.block i hi hne)⟩
theorem grown {row : Option Nat} (h : Only fp a b) (hg : b.grownBy c row) (hr : ∀ k, row = some k → k < a.heap.size → fp k) : Only fp a c :=
  ⟨hg.os.trans h.os, hg.tape.trans h.tape, hg.output.trans h.output, Nat.le_trans h.size hg.size, fun k hk hn => (hg.block k (Nat.lt_of_lt_of_le hk h.size) (fun e => hn (hr k e.symm hk))).trans (h.block k hk hn)⟩
theorem drewN (h : Only fp a b) (n : Nat) : Only fp a (b.drewN n) := ⟨h.os, h.tape, h.output, h.size, h.block⟩
end Only

/-- v holds the rows T; all of it is the call's own, each row in a block of its own; all these blocks are in fp. -/
structure GridAt (w : World) (base : Nat) (fp : Nat → Prop) (v : Value) (vals : List Value) (T : List (List Int)) : Prop where
  len : vals.length = T.length
  own : w.ownsRow base 22 1 v T.length vals
  row : ∀ j, j < T.length → OwnInts w base (vals.getD j (.slice none 0 0)) (T.getD j [])
  apart : ∀ i j, i < T.length → j < T.length → i ≠ j → ∀ k, (vals.getD i (.slice none 0 0)).ownBlock = some k → (vals.getD j (.slice none 0 0)).ownBlock ≠ some k
  inV : ∀ k, v.ownBlock = some k → fp k
  inR : ∀ j, j < T.length → ∀ k, (vals.getD j (.slice none 0 0)).ownBlock = some k → fp k
  bound : ∀ k, fp k → base ≤ k ∧ k < w.heap.size
def Grid (w : World) (base : Nat) (fp : Nat → Prop) (v : Value) (T : List (List Int)) : Prop := ∃ vals, GridAt w base fp v vals T

theorem own_of_block {w w' : World} {base e size n : Nat} {v : Value} {xs : List Value} (h : w.ownsRow base e size v n xs) (hb : ∀ k, v.ownBlock = some k → w'.heap[k]? = w.heap[k]?) : w'.ownsRow base e size v n xs := by
  refine ⟨h.1, ?_⟩
  rcases h.2 with h0 | ⟨g, cap, cur, hv, hg, hh, r⟩
  · exact .inl h0
  · exact .inr ⟨g, cap, cur, hv, hg, (hb g (by rw [hv]; rfl)).trans hh, r⟩
theorem one_refl2 (w : World) (row : Option Nat) : w.grownBy w row := ⟨rfl, rfl, rfl, Nat.le_refl _, fun _ _ _ => rfl⟩
theorem own_apart {w : World} {base base2 n m size : Nat} {v u : Value} {xs ys : List Value} (h : w.ownsRow base 3 size v n xs) (ho : w.ownsRow base2 22 1 u m ys) : ∀ k, v.ownBlock = some k → u.ownBlock ≠ some k := by
  intro k hk e2
  rcases h.2 with ⟨rfl, _⟩ | ⟨g, cap, cur, rfl, _, hh, _⟩
  · cases hk
  · rcases ho.2 with ⟨rfl, _⟩ | ⟨g2, cap2, cur2, rfl, _, hh2, _⟩
    · cases e2
    · simp only [Value.ownBlock, Option.some.injEq] at hk e2
      subst hk
      rw [e2] at hh2
      rw [hh2] at hh
      injection hh with hh
      injection hh with _ hh
      exact absurd hh (by decide)

theorem GridAt.only {w w' : World} {base : Nat} {fp fp2 : Nat → Prop} {v : Value} {vals : List Value} {T : List (List Int)} (h : GridAt w base fp v vals T) (ho : Only fp2 w w') (ha : ∀ k, fp k → ¬ fp2 k) : GridAt w' base fp v vals T := by
  refine ⟨h.len, own_of_block h.own (fun k hk => ?_), fun j hj => own_of_block (h.row j hj) (fun k hk => ?_), h.apart, h.inV, h.inR, fun k hk => ⟨(h.bound k hk).1, Nat.lt_of_lt_of_le (h.bound k hk).2 ho.size⟩⟩
  · exact ho.block k (h.bound k (h.inV k hk)).2 (ha k (h.inV k hk))
  · exact ho.block k (h.bound k (h.inR j hj k hk)).2 (ha k (h.inR j hj k hk))
theorem Grid.only {w w' : World} {base : Nat} {fp fp2 : Nat → Prop} {v : Value} {T : List (List Int)} (h : Grid w base fp v T) (ho : Only fp2 w w') (ha : ∀ k, fp k → ¬ fp2 k) : Grid w' base fp v T := by
  obtain ⟨vals, h⟩ := h
  exact ⟨vals, h.only ho ha⟩
theorem Grid.keep {w w' : World} {base : Nat} {fp : Nat → Prop} {v : Value} {T : List (List Int)} (h : Grid w base fp v T) (hb : Below w.heap.size w w') : Grid w' base fp v T :=
  h.only (Only.of_below (fp := fun _ => False) hb) (fun _ _ e => e)
theorem Grid.bound {w : World} {base : Nat} {fp : Nat → Prop} {v : Value} {T : List (List Int)} (h : Grid w base fp v T) : ∀ k, fp k → base ≤ k ∧ k < w.heap.size := by
  obtain ⟨vals, h⟩ := h
  exact h.bound
theorem Grid.up {w : World} {base : Nat} {fp fp' : Nat → Prop} {v : Value} {T : List (List Int)} (h : Grid w base fp v T) (h1 : ∀ k, fp k → fp' k) (h2 : ∀ k, fp' k → base ≤ k ∧ k < w.heap.size) : Grid w base fp' v T := by
  obtain ⟨vals, h⟩ := h
  exact ⟨vals, h.len, h.own, h.row, h.apart, fun k hk => h1 k (h.inV k hk), fun j hj k hk => h1 k (h.inR j hj k hk), h2⟩
theorem Grid.nil (w : World) (base : Nat) : Grid w base (fun _ => False) (.slice none 0 0) [] :=
  ⟨[], rfl, World.ownsRow_nil w base 22 1, fun _ hj => absurd hj (Nat.not_lt_zero _), fun _ _ hj => absurd hj (Nat.not_lt_zero _), fun _ hk => (by cases hk), fun _ hj => absurd hj (Nat.not_lt_zero _), fun _ hk => hk.elim⟩
theorem Grid.drewN {w : World} {base : Nat} {fp : Nat → Prop} {v : Value} {T : List (List Int)} (h : Grid w base fp v T) (n : Nat) : Grid (w.drewN n) base fp v T := h.keep (below_drewN (Below.refl _ _) n)
theorem Grid.form {w : World} {base : Nat} {fp : Nat → Prop} {v : Value} {T : List (List Int)} (h : Grid w base fp v T) : ∃ A c, v = .slice A T.length c ∧ Cap T.length c := by
  obtain ⟨vals, h⟩ := h
  rcases h.own.2 with ⟨rfl, h0⟩ | ⟨g, cap, cur, rfl, _, _, h1, h2, _⟩
  · exact ⟨none, 0, by rw [h0], by rw [h0]; exact ⟨Nat.le_refl _, by omega⟩⟩
  · exact ⟨_, _, rfl, h1, by unfold maxLen at h2; exact h2⟩

theorem getD_vals {vals : List Value} {j : Nat} (hj : j < vals.length) : vals[j]? = some (vals.getD j (.slice none 0 0)) := by
  rw [List.getD_eq_getElem?_getD, List.getElem?_eq_getElem hj]
  rfl
/-- What lies at place j. -/
theorem Grid.at {w : World} {base : Nat} {fp : Nat → Prop} {v : Value} {T : List (List Int)} (h : Grid w base fp v T) {j : Nat} (hj : j < T.length) :
    ∃ g cap u, v = .slice (some ⟨g, 0, none⟩) T.length cap ∧ w.cell? ⟨g, j, none⟩ = some u ∧ w.frozen? ⟨g, j, none⟩ = false ∧ OwnInts w base u (T.getD j []) := by
  obtain ⟨vals, h⟩ := h
  rcases h.own.2 with ⟨_, h0⟩ | ⟨g, cap, cur, rfl, _, hh, _⟩
  · omega
  · refine ⟨g, cap, vals.getD j (.slice none 0 0), rfl, ?_, World.ownsRow.frozenAt h.own j, h.row j hj⟩
    rw [World.ownsRow.cellAt h.own j (by omega), getD_vals (by rw [h.len]; exact hj)]
theorem GridAt.cell_eq {w : World} {base g n cap : Nat} {fp : Nat → Prop} {vals : List Value} {T : List (List Int)} {j : Nat} {u : Value} (h : GridAt w base fp (.slice (some ⟨g, 0, none⟩) n cap) vals T) (hj : j < T.length) (hu : w.cell? ⟨g, j, none⟩ = some u) : u = vals.getD j (.slice none 0 0) ∧ n = T.length := by
  have hn : n = T.length := by
    rcases h.own.2 with ⟨e, _⟩ | ⟨g', cap', cur, e, _⟩
    · cases e
    · injection e
  subst hn
  rw [World.ownsRow.cellAt h.own j (by omega), getD_vals (by rw [h.len]; exact hj)] at hu
  injection hu with hu
  exact ⟨hu.symm, rfl⟩

theorem getD_setV {vals : List Value} {i j : Nat} (u : Value) (hj : j < vals.length) : (vals.set j u).getD i (.slice none 0 0) = if i = j then u else vals.getD i (.slice none 0 0) := by
  simp only [List.getD_eq_getElem?_getD, List.getElem?_set]
  by_cases h : j = i
  · subst h
    simp [hj]
  · have h' : ¬ i = j := fun e => h e.symm
    simp [h, h']
theorem getD_setT {T : List (List Int)} {i j : Nat} (ys : List Int) (hj : j < T.length) : (T.set j ys).getD i [] = if i = j then ys else T.getD i [] := by
  simp only [List.getD_eq_getElem?_getD, List.getElem?_set]
  by_cases h : j = i
  · subst h
    simp [hj]
  · have h' : ¬ i = j := fun e => h e.symm
    simp [h, h']

/-- One number in one row is another. -/
theorem Grid.store {w : World} {base g n cap h m c : Nat} {fp : Nat → Prop} {T : List (List Int)} {j : Nat} (hG : Grid w base fp (.slice (some ⟨g, 0, none⟩) n cap) T) (hj : j < T.length) (hu : w.cell? ⟨g, j, none⟩ = some (.slice (some ⟨h, 0, none⟩) m c)) (hm : m = (T.getD j []).length) (i : Nat) (x : Int) :
    Grid (w.setCell ⟨h, i, none⟩ (.int .i64 x)) base fp (.slice (some ⟨g, 0, none⟩) n cap) (T.set j ((T.getD j []).set i x)) ∧ Only fp w (w.setCell ⟨h, i, none⟩ (.int .i64 x)) := by
  obtain ⟨vals, hG⟩ := hG
  obtain ⟨e, rfl⟩ := hG.cell_eq hj hu
  have hfp : fp h := hG.inR j hj h (by rw [← e]; rfl)
  have hO : Only fp w (w.setCell ⟨h, i, none⟩ (.int .i64 x)) := (Only.refl fp w).set hfp i _
  have hrow := hG.row j hj
  rw [← e] at hrow
  have hset := hrow.set hm i x
  have hblk : ∀ k, k ≠ h → (w.setCell ⟨h, i, none⟩ (.int .i64 x)).heap[k]? = w.heap[k]? := fun k hk => Below.heap_setCell w ⟨h, i, none⟩ _ k hk
  refine ⟨⟨vals, by rw [List.length_set]; exact hG.len, ?_, fun a ha => ?_, by rw [List.length_set]; exact hG.apart, hG.inV, by rw [List.length_set]; exact hG.inR, fun k hk => ⟨(hG.bound k hk).1, Nat.lt_of_lt_of_le (hG.bound k hk).2 hO.size⟩⟩, hO⟩
  · rw [List.length_set]
    refine own_of_block hG.own (fun k hk => hblk k ?_)
    rintro rfl
    exact own_apart hrow hG.own k rfl hk
  · rw [List.length_set] at ha
    rw [getD_setT _ hj]
    by_cases ea : a = j
    · subst ea
      rw [if_pos rfl, ← e]
      exact hset
    · rw [if_neg ea]
      refine own_of_block (hG.row a ha) (fun k hk => hblk k ?_)
      rintro rfl
      exact hG.apart a j ha hj ea k hk (by rw [← e]; rfl)

/-- One row is another, which has grown out of it (or is new); the cell that holds it has been stored. -/
theorem Grid.replace {w w' : World} {base g n cap : Nat} {fp : Nat → Prop} {T : List (List Int)} {j : Nat} {u u' : Value} {ys : List Int} (hG : Grid w base fp (.slice (some ⟨g, 0, none⟩) n cap) T) (hj : j < T.length) (hu : w.cell? ⟨g, j, none⟩ = some u)
    (hg : w.grownBy w' u.ownBlock) (ho : OwnInts w' base u' ys) (hb : u'.ownBlock = u.ownBlock ∨ ∀ k, u'.ownBlock = some k → w.heap.size ≤ k) (hbase : base ≤ w.heap.size) :
    Grid (w'.setCell ⟨g, j, none⟩ u') base (fpN fp w.heap.size w'.heap.size) (.slice (some ⟨g, 0, none⟩) n cap) (T.set j ys) ∧ Only fp w (w'.setCell ⟨g, j, none⟩ u') := by
  obtain ⟨vals, hG⟩ := hG
  obtain ⟨e, rfl⟩ := hG.cell_eq hj hu
  have hfg : fp g := hG.inV g rfl
  have hgr : Only fp w w' := (Only.refl fp w).grown hg (fun k hk _ => hG.inR j hj k (by rw [← e]; exact hk))
  have hO : Only fp w (w'.setCell ⟨g, j, none⟩ u') := hgr.set hfg j _
  have hown' : w'.ownsRow base 22 1 (.slice (some ⟨g, 0, none⟩) T.length cap) T.length vals := by
    refine World.ownsRow.kept hG.own hg (.inr ?_)
    intro e2
    have hrow := hG.row j hj
    rw [← e] at hrow
    exact own_apart hrow hG.own g e2.symm rfl
  have hst := (World.ownsRow.stored hown' j u').1
  have hsz : (w'.setCell ⟨g, j, none⟩ u').heap.size = w'.heap.size := by simp [World.setCell]
  have hblk : ∀ k, k ≠ g → (w'.setCell ⟨g, j, none⟩ u').heap[k]? = w'.heap[k]? := fun k hk => Below.heap_setCell w' ⟨g, j, none⟩ _ k hk
  have hfr : ∀ k, u'.ownBlock = some k → fpN fp w.heap.size w'.heap.size k := by
    intro k hk
    rcases hb with hb | hb
    · exact .inl (hG.inR j hj k (by rw [← e, ← hb]; exact hk))
    · exact .inr ⟨hb k hk, (World.ownsRow.lt ho k hk).2⟩
  have hjl : j < vals.length := by rw [hG.len]; exact hj
  have hap : ∀ a, a < T.length → a ≠ j → ∀ k, (vals.getD a (.slice none 0 0)).ownBlock = some k → u'.ownBlock ≠ some k := by
    intro a ha hne k hk e2
    rcases hb with hb | hb
    · exact hG.apart a j ha hj hne k hk (by rw [← e, ← hb]; exact e2)
    · have h1 := hb k e2
      have h2 := (hG.bound k (hG.inR a ha k hk)).2
      omega
  refine ⟨⟨vals.set j u', by rw [List.length_set, List.length_set]; exact hG.len, by rw [List.length_set]; exact hst, fun a ha => ?_, fun a b ha hb' hne k hk => ?_, fun k hk => .inl (hG.inV k hk), fun a ha k hk => ?_, fun k hk => ?_⟩, hO⟩
  · rw [List.length_set] at ha
    rw [getD_setV _ hjl, getD_setT _ hj]
    by_cases ea : a = j
    · rw [if_pos ea, if_pos ea]
      refine own_of_block ho (fun k hk => hblk k ?_)
      rintro rfl
      exact own_apart ho hown' k hk rfl
    · rw [if_neg ea, if_neg ea]
      have h1 : OwnInts w' base (vals.getD a (.slice none 0 0)) (T.getD a []) := by
        refine World.ownsRow.kept (hG.row a ha) hg ?_
        rcases eb : (vals.getD a (.slice none 0 0)).ownBlock with _ | k
        · exact .inl rfl
        · right
          intro e3
          exact hG.apart a j ha hj ea k eb (by rw [← e]; exact e3.symm)
      refine own_of_block h1 (fun k hk => hblk k ?_)
      rintro rfl
      exact own_apart h1 hown' k hk rfl
  · rw [List.length_set] at ha hb'
    rw [getD_setV _ hjl] at hk ⊢
    by_cases ea : a = j
    · rw [if_pos ea] at hk
      rw [if_neg (fun eb => hne (ea.trans eb.symm))]
      intro e2
      exact hap b hb' (fun eb => hne (ea.trans eb.symm)) k e2 hk
    · rw [if_neg ea] at hk
      by_cases eb : b = j
      · rw [if_pos eb]
        exact hap a ha ea k hk
      · rw [if_neg eb]
        exact hG.apart a b ha hb' hne k hk
  · rw [List.length_set] at ha
    rw [getD_setV _ hjl] at hk
    by_cases ea : a = j
    · rw [if_pos ea] at hk
      exact hfr k hk
    · rw [if_neg ea] at hk
      exact .inl (hG.inR a ha k hk)
  · rw [hsz]
    rcases hk with hk | hk
    · exact ⟨(hG.bound k hk).1, Nat.lt_of_lt_of_le (hG.bound k hk).2 hg.size⟩
    · exact ⟨by omega, hk.2⟩

/-- 'out = append(out, y)', y a row of the call's own that is none of them: the world has laid y in a block of its own first. -/
theorem wpList_gridApp {ops : Array Oper} {rest : List Oper} {o : Oper} {a : Act} {Q : Exit → Act → World → Prop} (W : World) (hgd : o.guard = none) (s x : Operand)
    (ho : o.op = .call { callee := .builtin .append, args := #[s, x], argTypes := #[47, 47] })
    (base : Nat) (fp : Nat → Prop) (v : Value) (T : List (List Int)) (y : Value) (ys : List Int) (hs : a.eval s = v) (hx : a.eval x = .slice (some ⟨W.heap.size, 0, none⟩) 1 1) (hown : Grid W base fp v T) (hy : OwnInts W base y ys)
    (hyf : ∀ k, y.ownBlock = some k → ¬ fp k)
    (hlen : T.length ≤ 1000000000000) (hbase : base ≤ W.heap.size)
    (h : ∀ v' w', Grid w' base (fun k => fpN fp W.heap.size w'.heap.size k ∨ y.ownBlock = some k) v' (T ++ [ys]) → Only fp W w' → wpList Try.prog ops Q rest (a.put o.dst v') w') :
    wpList Try.prog ops Q (o :: rest) a (W.alloc (.cells #[y] 22)) := by
  obtain ⟨i0, hi, hz0, hz1, hz2⟩ := info_parts infoRow
  obtain ⟨vals, hG⟩ := hown
  refine wpList_append_own_at _ hgd s x 47 ho base 22 i0 (.slice none 0 0) 1 24 Try.underlying47 hi hz0 hz1 hz2 rfl (by decide) v T.length vals hs (World.ownsRow.alloc hG.own _)
    ⟨W.heap.size, 0, none⟩ 1 1 [y] hx rfl (cell_oneV W y) (by intro u hu; simp at hu; subst hu; exact own_oneCell hy) (by unfold maxLen; omega) (by omega) (by simp; omega) ?_
  intro v' w' h1 h2 _ hat
  have hg : W.grownBy w' v.ownBlock := ⟨h2.os, h2.tape, h2.output, Nat.le_trans (by simp) h2.size, fun k hk hne => (h2.block k (by simp; omega) hne).trans (Below.heap_alloc W _ k hk)⟩
  have hsz : (W.alloc (.cells #[y] 22)).heap.size = W.heap.size + 1 := by simp
  have hO : Only fp W w' := (Only.refl fp W).grown hg (fun k hk _ => hG.inV k hk)
  have hrows : ∀ j, j < T.length → OwnInts w' base (vals.getD j (.slice none 0 0)) (T.getD j []) := fun j hj => (hG.row j hj).other hG.own hg
  have hgl : ∀ j, j < T.length → (vals ++ [y]).getD j (.slice none 0 0) = vals.getD j (.slice none 0 0) := by
    intro j hj
    rw [List.getD_eq_getElem?_getD, List.getD_eq_getElem?_getD, List.getElem?_append_left (by rw [hG.len]; exact hj)]
  have hgy : (vals ++ [y]).getD T.length (.slice none 0 0) = y := by
    rw [List.getD_eq_getElem?_getD, List.getElem?_append_right (by rw [hG.len]; exact Nat.le_refl _), hG.len]
    simp
  refine h v' w' ⟨vals ++ [y], by simp [hG.len], by simpa using h1, fun j hj => ?_, fun i j hi hj hne k hk => ?_, fun k hk => ?_, fun j hj k hk => ?_, fun k hk => ?_⟩ hO
  · rw [List.length_append] at hj
    simp only [List.length_cons, List.length_nil] at hj
    by_cases e : j < T.length
    · have hT : (T ++ [ys]).getD j [] = T.getD j [] := by rw [List.getD_eq_getElem?_getD, List.getD_eq_getElem?_getD, List.getElem?_append_left e]
      rw [hgl j e, hT]
      exact hrows j e
    · have ej : j = T.length := by omega
      subst ej
      have hT : (T ++ [ys]).getD T.length [] = ys := by rw [List.getD_eq_getElem?_getD, List.getElem?_append_right (Nat.le_refl _)]; simp
      rw [hgy, hT]
      exact hy.other hG.own hg
  · rw [List.length_append] at hi hj
    simp only [List.length_cons, List.length_nil] at hi hj
    by_cases ei : i < T.length
    · rw [hgl i ei] at hk
      by_cases ej : j < T.length
      · rw [hgl j ej]
        exact hG.apart i j ei ej hne k hk
      · have : j = T.length := by omega
        subst this
        rw [hgy]
        intro e2
        exact hyf k e2 (hG.inR i ei k hk)
    · have : i = T.length := by omega
      subst this
      rw [hgy] at hk
      rw [hgl j (by omega)]
      intro e2
      exact hyf k hk (hG.inR j (by omega) k e2)
  · rcases hat with e | e
    · exact .inl (.inl (hG.inV k (by rw [← e]; exact hk)))
    · left
      right
      have h3 := (World.ownsRow.lt h1 k hk).2
      rw [e] at hk
      injection hk with hk
      rw [hsz] at hk
      exact ⟨by omega, h3⟩
  · rw [List.length_append] at hj
    simp only [List.length_cons, List.length_nil] at hj
    by_cases e : j < T.length
    · rw [hgl j e] at hk
      exact .inl (.inl (hG.inR j e k hk))
    · have ej : j = T.length := by omega
      subst ej
      rw [hgy] at hk
      exact .inr hk
  · rcases hk with (hk | hk) | hk
    · exact ⟨(hG.bound k hk).1, Nat.lt_of_lt_of_le (hG.bound k hk).2 hO.size⟩
    · exact ⟨by omega, hk.2⟩
    · have := World.ownsRow.lt hy k hk
      exact ⟨this.1, Nat.lt_of_lt_of_le this.2 hO.size⟩

/-- As rows that are only read. -/
theorem Grid.rrows {w : World} {base : Nat} {fp : Nat → Prop} {A : Option Addr} {n c : Nat} {T : List (List Int)} (h : Grid w base fp (.slice A n c) T) : RRows w A n T := by
  obtain ⟨vals, h⟩ := h
  rcases h.own.2 with ⟨e, h0⟩ | ⟨g, cap, cur, e, hb, hh, _⟩
  · injection e with e1 e2 e3
    subst e2
    have : T = [] := List.eq_nil_of_length_eq_zero h0
    subst this
    exact RRows.nil _ _
  · injection e with e1 e2 e3
    subst e1 e2 e3
    refine ⟨rfl, fun _ => ⟨g, 0, rfl, (Array.getElem?_eq_some_iff.1 hh).1, fun j hj => ?_⟩⟩
    obtain ⟨Aj, cj, ev, hI, hc⟩ := (h.row j hj).ints
    have hnil : Aj = none → cj = 0 := by
      intro e
      rcases (h.row j hj).2 with ⟨e2, _⟩ | ⟨g2, cap2, cur2, e2, _⟩
      · rw [ev] at e2
        injection e2
      · rw [ev, e] at e2
        injection e2 with e2
        cases e2
    refine ⟨Aj, (T.getD j []).length, cj, ?_, hI, hc, hnil⟩
    rw [Nat.zero_add, World.ownsRow.cellAt h.own j (by omega), getD_vals (by rw [h.len]; exact hj), ev]

/-- 'out = append(out, y)' with out nil or the call's own: where the new row lies. -/
theorem wpList_app1At {ops : Array Oper} {rest : List Oper} {o : Oper} {a : Act} {Q : Exit → Act → World → Prop} (W : World) (hgd : o.guard = none) (s x : Operand)
    (ho : o.op = .call { callee := .builtin .append, args := #[s, x], argTypes := #[22, 22] })
    (base : Nat) (v : Value) (xs : List Int) (y : Int) (hs : a.eval s = v) (hx : a.eval x = .slice (some ⟨W.heap.size, 0, none⟩) 1 1) (hown : OwnInts W base v xs)
    (hlen : xs.length ≤ 1000000000000) (hbase : base ≤ W.heap.size)
    (h : ∀ v' w', OwnInts w' base v' (xs ++ [y]) → W.grownBy w' v.ownBlock → (v'.ownBlock = v.ownBlock ∨ ∀ k, v'.ownBlock = some k → W.heap.size ≤ k) → wpList Try.prog ops Q rest (a.put o.dst v') w') :
    wpList Try.prog ops Q (o :: rest) a (W.alloc (.cells #[.int .i64 y] 3)) := by
  obtain ⟨i0, hi, hz0, hz1, hz2⟩ := info_parts infoInt
  refine wpList_append_own_at _ hgd s x 22 ho base 3 i0 (.int .i64 0) 1 8 Try.underlying22 hi hz0 hz1 hz2 rfl (by decide) v xs.length (xs.map (Value.int .i64)) hs (World.ownsRow.alloc hown _)
    ⟨W.heap.size, 0, none⟩ 1 1 [.int .i64 y] hx rfl (cell_one W y) (by intro u hu; simp at hu; subst hu; rfl) (by unfold maxLen; omega) (by omega) (by simp; omega) ?_
  intro v' w' h1 h2 _ hat
  have hg : W.grownBy w' v.ownBlock := ⟨h2.os, h2.tape, h2.output, Nat.le_trans (by simp) h2.size, fun k hk hne => (h2.block k (by simp; omega) hne).trans (Below.heap_alloc W _ k hk)⟩
  refine h v' w' ?_ hg ?_
  · unfold OwnInts
    simpa using h1
  · rcases hat with e | e
    · exact .inl e
    · right
      intro k hk
      rw [e] at hk
      injection hk with hk
      have hsz : (W.alloc (.cells #[.int .i64 y] 3)).heap.size = W.heap.size + 1 := by simp
      omega

/-- The outer block is none of the rows'. -/
theorem Grid.outer_kept {w w' : World} {base g n cap : Nat} {fp : Nat → Prop} {T : List (List Int)} {j : Nat} {u : Value} (hG : Grid w base fp (.slice (some ⟨g, 0, none⟩) n cap) T) (hj : j < T.length) (hu : w.cell? ⟨g, j, none⟩ = some u) (hg : w.grownBy w' u.ownBlock) : w'.heap[g]? = w.heap[g]? := by
  obtain ⟨vals, hG⟩ := hG
  obtain ⟨e, rfl⟩ := hG.cell_eq hj hu
  refine hg.block g (hG.bound g (hG.inV g rfl)).2 (fun e2 => ?_)
  have hrow := hG.row j hj
  rw [← e] at hrow
  exact own_apart hrow hG.own g e2.symm rfl
theorem Grid.outer_lt {w : World} {base g n cap : Nat} {fp : Nat → Prop} {T : List (List Int)} (hG : Grid w base fp (.slice (some ⟨g, 0, none⟩) n cap) T) : g < w.heap.size := by
  obtain ⟨vals, hG⟩ := hG
  exact (hG.bound g (hG.inV g rfl)).2
theorem Grid.outer_ge {w : World} {base g n cap : Nat} {fp : Nat → Prop} {T : List (List Int)} (hG : Grid w base fp (.slice (some ⟨g, 0, none⟩) n cap) T) : base ≤ g := by
  obtain ⟨vals, hG⟩ := hG
  exact (hG.bound g (hG.inV g rfl)).1

/-- v is the call's own row of rows; each of them lies in the call's own memory too. -/
def BRows (w : World) (base : Nat) (v : Value) (T : List (List Int)) : Prop :=
  ∃ vals : List Value, vals.length = T.length ∧ w.ownsRow base 22 1 v vals.length vals ∧ ∀ j, j < T.length → OwnInts w base (vals.getD j (.slice none 0 0)) (T.getD j [])
theorem BRows.mono {w : World} {base base' : Nat} {v : Value} {T : List (List Int)} (h : BRows w base v T) (hb : base' ≤ base) : BRows w base' v T := by
  obtain ⟨vals, hl, ho, hv⟩ := h
  exact ⟨vals, hl, own_mono ho hb, fun j hj => (hv j hj).mono hb⟩
theorem Grid.brows {w : World} {base : Nat} {fp : Nat → Prop} {v : Value} {T : List (List Int)} (h : Grid w base fp v T) : BRows w base v T := by
  obtain ⟨vals, hg⟩ := h
  have ho := hg.own
  rw [← hg.len] at ho
  exact ⟨vals, hg.len, ho, hg.row⟩

end Go.Proofs.Ytmdpfadfimodjaa
