/-
  Two slices of the call's own, kept in a struct's two cells; each grows by 'append'.
-/
import Derived.Test.YtmdpfadfimodjaaOddA
import Derived.Test.YtmdpfadfimodjaaOwn
import Derived.Deep.AppendLies
namespace Go.Proofs.Ytmdpfadfimodjaa
open Go.RowKit

/-- The two have not one block between them. -/
def Apart2 (v u : Value) : Prop := ∀ k, v.ownBlock = some k → u.ownBlock ≠ some k
/-- Block bs holds two slices of the call's own (blocks from base on). -/
structure SumsAt (w : World) (bs base : Nat) (v u : Value) (xs ys : List Int) : Prop where
  c0 : w.cell? ⟨bs, 0, none⟩ = some v
  c1 : w.cell? ⟨bs, 1, none⟩ = some u
  f0 : w.frozen? ⟨bs, 0, none⟩ = false
  f1 : w.frozen? ⟨bs, 1, none⟩ = false
  lt : bs < w.heap.size
  lb : bs < base
  v0 : OwnInts w base v xs
  u0 : OwnInts w base u ys
  ap : Apart2 v u
theorem SumsAt.drewN {w : World} {bs base : Nat} {v u : Value} {xs ys : List Int} (h : SumsAt w bs base v u xs ys) (k : Nat) : SumsAt (w.drewN k) bs base v u xs ys :=
  ⟨h.c0, h.c1, h.f0, h.f1, h.lt, h.lb, h.v0, h.u0, h.ap⟩
theorem SumsAt.new (w : World) (t : TypeId) : SumsAt (w.alloc (.cells #[.slice none 0 0, .slice none 0 0] t)) w.heap.size (w.heap.size + 1) (.slice none 0 0) (.slice none 0 0) [] [] := by
  have h := OddsAt.new w t none 0 0 none 0 0
  exact ⟨h.p0, h.p1, h.f0, h.f1, h.lt, Nat.lt_succ_self _, OwnInts.nil _ _, OwnInts.nil _ _, fun k hk => by cases hk⟩
theorem OwnInts.grown {w w' : World} {base : Nat} {u : Value} {ys : List Int} {g : Option Nat} (h : OwnInts w base u ys) (hg : w.grownBy w' g) (hne : ∀ k, u.ownBlock = some k → g ≠ some k) : OwnInts w' base u ys := by
  refine ⟨h.1, ?_⟩
  rcases h.2 with h0 | ⟨k, cap, cur, hv, hb, hh, r⟩
  · exact .inl h0
  · refine .inr ⟨k, cap, cur, hv, hb, ?_, r⟩
    have hlt := (Array.getElem?_eq_some_iff.1 hh).1
    exact (hg.block k hlt (fun e => hne k (by rw [hv]; rfl) e.symm)).trans hh
theorem OwnInts.below_base {w : World} {base : Nat} {u : Value} {ys : List Int} (h : OwnInts w base u ys) : ∀ k, u.ownBlock = some k → base ≤ k ∧ k < w.heap.size := fun k hk => World.ownsRow.lt h k hk
theorem OwnInts.setFar {w : World} {base : Nat} {u : Value} {ys : List Int} (h : OwnInts w base u ys) (b j : Nat) (hb : b < base) (x : Value) : OwnInts (w.setCell ⟨b, j, none⟩ x) base u ys := by
  refine ⟨h.1, ?_⟩
  rcases h.2 with h0 | ⟨k, cap, cur, hv, hk, hh, r⟩
  · exact .inl h0
  · exact .inr ⟨k, cap, cur, hv, hk, (Below.heap_setCell w ⟨b, j, none⟩ x k (by show k ≠ b; omega)).trans hh, r⟩

/-- The first one grew, and is stored. -/
theorem SumsAt.grow0 {w w' : World} {bs base : Nat} {v u : Value} {xs ys xs' : List Int} (h : SumsAt w bs base v u xs ys) (v' : Value) (h1 : OwnInts w' base v' xs') (hg : w.grownBy w' v.ownBlock) (hp : v'.ownBlock = v.ownBlock ∨ ∀ k, v'.ownBlock = some k → w.heap.size ≤ k) :
    SumsAt (w'.setCell ⟨bs, 0, none⟩ v') bs base v' u xs' ys ∧ Below bs w (w'.setCell ⟨bs, 0, none⟩ v') ∧ w'.cell? ⟨bs, 0, none⟩ = some v ∧ w'.frozen? ⟨bs, 0, none⟩ = false := by
  have hvb := fun k hk => h.v0.below_base k hk
  have hub := fun k hk => h.u0.below_base k hk
  have hlb := h.lb
  have e := hg.block bs h.lt (fun e => by have := (hvb bs e.symm).1; omega)
  have k0 : w'.cell? ⟨bs, 0, none⟩ = some v := (World.cell?_of_block (a := ⟨bs, 0, none⟩) e).trans h.c0
  have k1 : w'.cell? ⟨bs, 1, none⟩ = some u := (World.cell?_of_block (a := ⟨bs, 1, none⟩) e).trans h.c1
  have kf0 : w'.frozen? ⟨bs, 0, none⟩ = false := (World.frozen?_of_block (a := ⟨bs, 0, none⟩) e).trans h.f0
  have kf1 : w'.frozen? ⟨bs, 1, none⟩ = false := (World.frozen?_of_block (a := ⟨bs, 1, none⟩) e).trans h.f1
  have hlt : bs < w'.heap.size := Nat.lt_of_lt_of_le h.lt hg.size
  refine ⟨⟨?_, ?_, ?_, ?_, by simpa [World.setCell] using hlt, hlb, h1.setFar bs 0 hlb _, (h.u0.grown hg (fun k hk e => h.ap k e hk)).setFar bs 0 hlb _, ?_⟩, ?_, k0, kf0⟩
  · exact World.cell?_setCell_same w' ⟨bs, 0, none⟩ v' (by rw [k0])
  · rw [World.cell?_setCell_other w' ⟨bs, 0, none⟩ ⟨bs, 1, none⟩ v' (fun e => by cases e)]
    exact k1
  · rw [World.frozen?_setCell]
    exact kf0
  · rw [World.frozen?_setCell]
    exact kf1
  · intro k hk hu
    rcases hp with hp | hp
    · exact h.ap k (hp.symm.trans hk) hu
    · have := hp k hk
      have := (hub k hu).2
      omega
  · have b1 : Below bs w w' := ⟨hg.os, hg.tape, hg.output, hg.size, fun k hk => hg.block k (by have := h.lt; omega) (fun e => by have := (hvb k e.symm).1; omega)⟩
    exact b1.setCell (Nat.le_refl _) _
/-- The second one grew, and is stored. -/
theorem SumsAt.grow1 {w w' : World} {bs base : Nat} {v u : Value} {xs ys ys' : List Int} (h : SumsAt w bs base v u xs ys) (u' : Value) (h1 : OwnInts w' base u' ys') (hg : w.grownBy w' u.ownBlock) (hp : u'.ownBlock = u.ownBlock ∨ ∀ k, u'.ownBlock = some k → w.heap.size ≤ k) :
    SumsAt (w'.setCell ⟨bs, 1, none⟩ u') bs base v u' xs ys' ∧ Below bs w (w'.setCell ⟨bs, 1, none⟩ u') ∧ w'.cell? ⟨bs, 1, none⟩ = some u ∧ w'.frozen? ⟨bs, 1, none⟩ = false := by
  have hvb := fun k hk => h.v0.below_base k hk
  have hub := fun k hk => h.u0.below_base k hk
  have hlb := h.lb
  have e := hg.block bs h.lt (fun e => by have := (hub bs e.symm).1; omega)
  have k0 : w'.cell? ⟨bs, 0, none⟩ = some v := (World.cell?_of_block (a := ⟨bs, 0, none⟩) e).trans h.c0
  have k1 : w'.cell? ⟨bs, 1, none⟩ = some u := (World.cell?_of_block (a := ⟨bs, 1, none⟩) e).trans h.c1
  have kf0 : w'.frozen? ⟨bs, 0, none⟩ = false := (World.frozen?_of_block (a := ⟨bs, 0, none⟩) e).trans h.f0
  have kf1 : w'.frozen? ⟨bs, 1, none⟩ = false := (World.frozen?_of_block (a := ⟨bs, 1, none⟩) e).trans h.f1
  have hlt : bs < w'.heap.size := Nat.lt_of_lt_of_le h.lt hg.size
  refine ⟨⟨?_, ?_, ?_, ?_, by simpa [World.setCell] using hlt, hlb, (h.v0.grown hg (fun k hk e => h.ap k hk e)).setFar bs 1 hlb _, h1.setFar bs 1 hlb _, ?_⟩, ?_, k1, kf1⟩
  · rw [World.cell?_setCell_other w' ⟨bs, 1, none⟩ ⟨bs, 0, none⟩ u' (fun e => by cases e)]
    exact k0
  · exact World.cell?_setCell_same w' ⟨bs, 1, none⟩ u' (by rw [k1])
  · rw [World.frozen?_setCell]
    exact kf0
  · rw [World.frozen?_setCell]
    exact kf1
  · intro k hk hu
    rcases hp with hp | hp
    · exact h.ap k hk (hp.symm.trans hu)
    · have := hp k hu
      have := (hvb k hk).2
      omega
  · have b1 : Below bs w w' := ⟨hg.os, hg.tape, hg.output, hg.size, fun k hk => hg.block k (by have := h.lt; omega) (fun e => by have := (hub k e.symm).1; omega)⟩
    exact b1.setCell (Nat.le_refl _) _

theorem app_place {W W1 w' : World} {v : Value} {g : Nat} (hW1 : W1.heap.size = W.heap.size + 1) (hB : ∀ k, k < W.heap.size → W1.heap[k]? = W.heap[k]?) (ho : W1.os = W.os) (ht : W1.tape = W.tape) (hout : W1.output = W.output)
    (h2 : W1.grownBy w' v.ownBlock) (hat : v.ownBlock = some g ∨ g = W1.heap.size) (n c : Nat) :
    W.grownBy w' v.ownBlock ∧ ((Value.slice (some ⟨g, 0, none⟩) n c).ownBlock = v.ownBlock ∨ ∀ k, (Value.slice (some ⟨g, 0, none⟩) n c).ownBlock = some k → W.heap.size ≤ k) := by
  refine ⟨⟨h2.os.trans ho, h2.tape.trans ht, h2.output.trans hout, by have := h2.size; omega, fun k hk hne => (h2.block k (by omega) hne).trans (hB k hk)⟩, ?_⟩
  rcases hat with e | e
  · exact .inl e.symm
  · right
    intro k hk
    simp only [Value.ownBlock, Option.some.injEq] at hk
    omega

/-- 'append(xs, y)' in a plain region: the world has laid y into a block of its own first. -/
theorem wpList_appK {ops : Array Oper} {rest : List Oper} {o : Oper} {a : Act} {Q : Exit → Act → World → Prop} (W : World) (hgd : o.guard = none) (s x : Operand)
    (ho : o.op = .call { callee := .builtin .append, args := #[s, x], argTypes := #[22, 22] })
    (base : Nat) (v : Value) (xs : List Int) (y : Int) (hs : a.eval s = v) (hx : a.eval x = .slice (some ⟨W.heap.size, 0, none⟩) 1 1) (hown : OwnInts W base v xs)
    (hlen : xs.length ≤ 1000000000000) (hbase : base ≤ W.heap.size)
    (h : ∀ g c w', OwnInts w' base (.slice (some ⟨g, 0, none⟩) (xs.length + 1) c) (xs ++ [y]) → W.grownBy w' v.ownBlock → ((Value.slice (some ⟨g, 0, none⟩) (xs.length + 1) c).ownBlock = v.ownBlock ∨ ∀ k, (Value.slice (some ⟨g, 0, none⟩) (xs.length + 1) c).ownBlock = some k → W.heap.size ≤ k) →
      wpList Try.prog ops Q rest (a.put o.dst (.slice (some ⟨g, 0, none⟩) (xs.length + 1) c)) w') :
    wpList Try.prog ops Q (o :: rest) a (W.alloc (.cells #[.int .i64 y] 3)) := by
  obtain ⟨i0, hi, hz0, hz1, hz2⟩ := info_parts infoInt
  refine wpList_append_lies _ hgd s x 22 ho base 3 i0 (.int .i64 0) 1 8 Try.underlying22 hi hz0 hz1 hz2 rfl (by decide) v xs.length (xs.map (Value.int .i64)) hs (World.ownsRow.alloc hown _)
    ⟨W.heap.size, 0, none⟩ 1 1 [.int .i64 y] hx rfl (cell_one W y) (by intro u hu; simp at hu; subst hu; rfl) (by omega) (by unfold maxLen; omega) (by omega) (by simp; omega) _ rfl ?_
  intro g cap w' h1 h2 hat _
  obtain ⟨h3, h4⟩ := app_place (W := W) (by simp) (fun k hk => Below.heap_alloc W _ k hk) rfl rfl rfl h2 hat (xs.length + 1) cap
  refine h g cap w' ?_ h3 h4
  unfold OwnInts
  simpa using h1
/-- The same in a region that draws. -/
theorem step_appK {ops : Array Oper} {o : Oper} {a : Act} {K : Act → World → Prop} {Q : Exit → Act → World → Prop} {E : Prop} (W : World) (hgd : o.guard = none) (s x : Operand)
    (ho : o.op = .call { callee := .builtin .append, args := #[s, x], argTypes := #[22, 22] })
    (base : Nat) (v : Value) (xs : List Int) (y : Int) (hs : a.eval s = v) (hx : a.eval x = .slice (some ⟨W.heap.size, 0, none⟩) 1 1) (hown : OwnInts W base v xs)
    (hlen : xs.length ≤ 1000000000000) (hbase : base ≤ W.heap.size)
    (h : ∀ g c w', OwnInts w' base (.slice (some ⟨g, 0, none⟩) (xs.length + 1) c) (xs ++ [y]) → W.grownBy w' v.ownBlock → ((Value.slice (some ⟨g, 0, none⟩) (xs.length + 1) c).ownBlock = v.ownBlock ∨ ∀ k, (Value.slice (some ⟨g, 0, none⟩) (xs.length + 1) c).ownBlock = some k → W.heap.size ≤ k) →
      K (a.put o.dst (.slice (some ⟨g, 0, none⟩) (xs.length + 1) c)) w') :
    if Region.wanted o (yielded ops a.tmps) = true then Oper.wp Try.prog o a (W.alloc (.cells #[.int .i64 y] 3)) K Q else E := by
  obtain ⟨i0, hi, hz0, hz1, hz2⟩ := info_parts infoInt
  refine step_append_lies _ hgd s x 22 ho base 3 i0 (.int .i64 0) 1 8 Try.underlying22 hi hz0 hz1 hz2 rfl (by decide) v xs.length (xs.map (Value.int .i64)) hs (World.ownsRow.alloc hown _)
    ⟨W.heap.size, 0, none⟩ 1 1 [.int .i64 y] hx rfl (cell_one W y) (by intro u hu; simp at hu; subst hu; rfl) (by omega) (by unfold maxLen; omega) (by omega) (by simp; omega) _ rfl ?_
  intro g cap w' h1 h2 hat _
  obtain ⟨h3, h4⟩ := app_place (W := W) (by simp) (fun k hk => Below.heap_alloc W _ k hk) rfl rfl rfl h2 hat (xs.length + 1) cap
  refine h g cap w' ?_ h3 h4
  unfold OwnInts
  simpa using h1
end Go.Proofs.Ytmdpfadfimodjaa
