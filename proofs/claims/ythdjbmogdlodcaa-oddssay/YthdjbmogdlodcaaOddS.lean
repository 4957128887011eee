/-
  Two slices of the call's own that grow in one statement, in whatever order.
-/
import Derived.Test.YthdjbmogdlodcaaOddK
import Derived.Test.YthdjbmogdlodcaaOddQ
namespace Go.Proofs.Ythdjbmogdlodcaa
open Go.RowKit

/-- Two slices of the call's own, apart. -/
structure SumsG (w : World) (base : Nat) (v u : Value) (xs ys : List Int) : Prop where
  v0 : OwnInts w base v xs
  u0 : OwnInts w base u ys
  ap : Apart2 v u
  lt : base ≤ w.heap.size
theorem SumsAt.both {w : World} {bs base : Nat} {v u : Value} {xs ys : List Int} (h : SumsAt w bs base v u xs ys) (hb : base ≤ w.heap.size) : SumsG w base v u xs ys := ⟨h.v0, h.u0, h.ap, hb⟩
theorem SumsG.alloc {w : World} {base : Nat} {v u : Value} {xs ys : List Int} (h : SumsG w base v u xs ys) (o : Obj) : SumsG (w.alloc o) base v u xs ys :=
  ⟨h.v0.keep (below_alloc w o), h.u0.keep (below_alloc w o), h.ap, by have := h.lt; simp; omega⟩
theorem SumsG.drew {w : World} {base : Nat} {v u : Value} {xs ys : List Int} (h : SumsG w base v u xs ys) : SumsG w.drew base v u xs ys := ⟨h.v0, h.u0, h.ap, h.lt⟩
theorem grown_below {w w' : World} {base : Nat} {v : Value} {xs : List Int} (h : OwnInts w base v xs) (hb : base ≤ w.heap.size) (hg : w.grownBy w' v.ownBlock) : Below base w w' :=
  ⟨hg.os, hg.tape, hg.output, hg.size, fun k hk => hg.block k (by omega) (fun e => by have := (h.below_base k e.symm).1; omega)⟩
theorem SumsG.growV {w w' : World} {base : Nat} {v u v' : Value} {xs ys xs' : List Int} (h : SumsG w base v u xs ys) (h1 : OwnInts w' base v' xs') (hg : w.grownBy w' v.ownBlock) (hp : v'.ownBlock = v.ownBlock ∨ ∀ k, v'.ownBlock = some k → w.heap.size ≤ k) :
    SumsG w' base v' u xs' ys ∧ Below base w w' := by
  refine ⟨⟨h1, h.u0.grown hg (fun k hk e => h.ap k e hk), fun k hk hu => ?_, by have := h.lt; have := hg.size; omega⟩, grown_below h.v0 h.lt hg⟩
  rcases hp with hp | hp
  · exact h.ap k (hp.symm.trans hk) hu
  · have := hp k hk
    have := (h.u0.below_base k hu).2
    omega
theorem SumsG.growU {w w' : World} {base : Nat} {v u u' : Value} {xs ys ys' : List Int} (h : SumsG w base v u xs ys) (h1 : OwnInts w' base u' ys') (hg : w.grownBy w' u.ownBlock) (hp : u'.ownBlock = u.ownBlock ∨ ∀ k, u'.ownBlock = some k → w.heap.size ≤ k) :
    SumsG w' base v u' xs ys' ∧ Below base w w' := by
  refine ⟨⟨h.v0.grown hg (fun k hk e => h.ap k hk e), h1, fun k hk hu => ?_, by have := h.lt; have := hg.size; omega⟩, grown_below h.u0 h.lt hg⟩
  rcases hp with hp | hp
  · exact h.ap k hk (hp.symm.trans hu)
  · have := hp k hu
    have := (h.v0.below_base k hk).2
    omega
/-- Both are stored. -/
theorem SumsAt.put2 {w w' : World} {bs base : Nat} {v u v' u' : Value} {xs ys xs' ys' : List Int} (h : SumsAt w bs base v u xs ys) (hG : SumsG w' base v' u' xs' ys') (hb : Below base w w') :
    SumsAt ((w'.setCell ⟨bs, 0, none⟩ v').setCell ⟨bs, 1, none⟩ u') bs base v' u' xs' ys' ∧ Below bs w ((w'.setCell ⟨bs, 0, none⟩ v').setCell ⟨bs, 1, none⟩ u') := by
  have hlb := h.lb
  have e := hb.block bs hlb
  have k0 : w'.cell? ⟨bs, 0, none⟩ = some v := (World.cell?_of_block (a := ⟨bs, 0, none⟩) e).trans h.c0
  have k1 : w'.cell? ⟨bs, 1, none⟩ = some u := (World.cell?_of_block (a := ⟨bs, 1, none⟩) e).trans h.c1
  have kf0 : w'.frozen? ⟨bs, 0, none⟩ = false := (World.frozen?_of_block (a := ⟨bs, 0, none⟩) e).trans h.f0
  have kf1 : w'.frozen? ⟨bs, 1, none⟩ = false := (World.frozen?_of_block (a := ⟨bs, 1, none⟩) e).trans h.f1
  have hlt : bs < w'.heap.size := Nat.lt_of_lt_of_le h.lt hb.size
  refine ⟨⟨?_, ?_, ?_, ?_, by simpa [World.setCell] using hlt, hlb, (hG.v0.setFar bs 0 hlb _).setFar bs 1 hlb _, (hG.u0.setFar bs 0 hlb _).setFar bs 1 hlb _, hG.ap⟩, ((hb.mono (Nat.le_of_lt hlb)).setCell (Nat.le_refl _) _).setCell (Nat.le_refl _) _⟩
  · rw [World.cell?_setCell_other _ ⟨bs, 1, none⟩ ⟨bs, 0, none⟩ u' (fun e => by cases e)]
    exact World.cell?_setCell_same w' ⟨bs, 0, none⟩ v' (by rw [k0])
  · refine World.cell?_setCell_same _ ⟨bs, 1, none⟩ u' (u := u) ?_
    rw [World.cell?_setCell_other w' ⟨bs, 0, none⟩ ⟨bs, 1, none⟩ v' (fun e => by cases e)]
    exact k1
  · rw [World.frozen?_setCell, World.frozen?_setCell]
    exact kf0
  · rw [World.frozen?_setCell, World.frozen?_setCell]
    exact kf1

theorem SumsAt.thaw {w w' : World} {bs base : Nat} {v u : Value} {xs ys : List Int} (h : SumsAt w bs base v u xs ys) (hb : Below base w w') : w'.frozen? ⟨bs, 0, none⟩ = false ∧ w'.frozen? ⟨bs, 1, none⟩ = false ∧ w'.cell? ⟨bs, 0, none⟩ = some v ∧ w'.cell? ⟨bs, 1, none⟩ = some u := by
  have e := hb.block bs h.lb
  exact ⟨(World.frozen?_of_block (a := ⟨bs, 0, none⟩) e).trans h.f0, (World.frozen?_of_block (a := ⟨bs, 1, none⟩) e).trans h.f1, (World.cell?_of_block (a := ⟨bs, 0, none⟩) e).trans h.c0, (World.cell?_of_block (a := ⟨bs, 1, none⟩) e).trans h.c1⟩
/-- 'append(xs, y)' in a region that draws, y written out anywhere. -/
theorem step_appG {ops : Array Oper} {o : Oper} {a : Act} {K : Act → World → Prop} {Q : Exit → Act → World → Prop} {E : Prop} (W : World) (hgd : o.guard = none) (s x : Operand)
    (ho : o.op = .call { callee := .builtin .append, args := #[s, x], argTypes := #[22, 22] })
    (base : Nat) (v : Value) (xs : List Int) (y : Int) (b : Nat) (hs : a.eval s = v) (hx : a.eval x = .slice (some ⟨b, 0, none⟩) 1 1) (hown : OwnInts W base v xs)
    (hcell : W.cell? ⟨b, 0, none⟩ = some (.int .i64 y)) (hlen : xs.length ≤ 1000000000000) (hbase : base ≤ W.heap.size)
    (h : ∀ g c w', OwnInts w' base (.slice (some ⟨g, 0, none⟩) (xs.length + 1) c) (xs ++ [y]) → W.grownBy w' v.ownBlock → ((Value.slice (some ⟨g, 0, none⟩) (xs.length + 1) c).ownBlock = v.ownBlock ∨ ∀ k, (Value.slice (some ⟨g, 0, none⟩) (xs.length + 1) c).ownBlock = some k → W.heap.size ≤ k) →
      K (a.put o.dst (.slice (some ⟨g, 0, none⟩) (xs.length + 1) c)) w') :
    if Region.wanted o (yielded ops a.tmps) = true then Oper.wp Try.prog o a W K Q else E := by
  obtain ⟨i0, hi, hz0, hz1, hz2⟩ := info_parts infoInt
  refine step_append_lies W hgd s x 22 ho base 3 i0 (.int .i64 0) 1 8 Try.underlying22 hi hz0 hz1 hz2 rfl (by decide) v xs.length (xs.map (Value.int .i64)) hs hown
    ⟨b, 0, none⟩ 1 1 [.int .i64 y] hx rfl ?_ (by intro u hu; simp at hu; subst hu; rfl) (by omega) (by unfold maxLen; omega) (by omega) hbase _ rfl ?_
  · intro j u hj
    match j, hj with
    | 0, hj =>
      simp at hj
      subst hj
      exact hcell
  · intro g cap w' h1 h2 hat _
    refine h g cap w' ?_ h2 ?_
    · unfold OwnInts
      simpa using h1
    · rcases hat with e | e
      · exact .inl e.symm
      · right
        intro k hk
        simp only [Value.ownBlock, Option.some.injEq] at hk
        omega
/-- A number that was just written out; and what stands behind another one. -/
theorem lit_cell (w : World) (y : Int) (t : TypeId) : (w.alloc (.cells #[.int .i64 y] t)).cell? ⟨w.heap.size, 0, none⟩ = some (.int .i64 y) := by
  rw [cell_of_row (w.alloc (.cells #[.int .i64 y] t)) w.heap.size 0 #[.int .i64 y] t (0, 0) (heap_alloc_new w _)]
  rfl
theorem lit_cell1 (w : World) (o : Obj) (y : Int) (t : TypeId) : ((w.alloc o).alloc (.cells #[.int .i64 y] t)).cell? ⟨w.heap.size + 1, 0, none⟩ = some (.int .i64 y) := by
  have h := lit_cell (w.alloc o) y t
  rwa [show (w.alloc o).heap.size = w.heap.size + 1 by simp] at h
theorem lit_keep {w w' : World} {b : Nat} {y : Int} (h : w.cell? ⟨b, 0, none⟩ = some (.int .i64 y)) (hb : Below w.heap.size w w') : w'.cell? ⟨b, 0, none⟩ = some (.int .i64 y) :=
  (hb.cell (p := ⟨b, 0, none⟩) (World.block_lt_of_cell? w ⟨b, 0, none⟩ h)).trans h
end Go.Proofs.Ythdjbmogdlodcaa
