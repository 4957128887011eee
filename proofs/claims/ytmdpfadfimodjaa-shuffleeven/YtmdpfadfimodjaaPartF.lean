/-
  Words of my own for a row of rows of ints that the call made.
-/
import Derived.Test.YtmdpfadfimodjaaClone
import Derived.Laws.AppendOwnNone
import Derived.Maps.AppendAt
namespace Go.Proofs.Ytmdpfadfimodjaa
open Go.RowKit

/-- v is the call's own row of rows; each of them lies in memory of its own. -/
def Rows2 (w : World) (base : Nat) (v : Value) (xss : List (List Int)) : Prop :=
  ∃ vals : List Value, vals.length = xss.length ∧ w.ownsRow base 22 1 v vals.length vals ∧ ∀ j, j < xss.length → OwnInts w 0 (vals.getD j (.slice none 0 0)) (xss.getD j [])

theorem infoRow : (Try.prog.info? 22).map (fun i => (i.zero, i.size, i.bytes)) = some (some (.slice none 0 0), 1, 24) := by kernel_rfl

theorem Rows2.nil (w : World) (base : Nat) : Rows2 w base (.slice none 0 0) [] := ⟨[], rfl, World.ownsRow_nil w base 22 1, fun _ hj => absurd hj (Nat.not_lt_zero _)⟩

theorem own_keep {w w' : World} {base e size n : Nat} {v : Value} {xs : List Value} (h : w.ownsRow base e size v n xs) (hb : Below w.heap.size w w') : w'.ownsRow base e size v n xs := by
  refine ⟨h.1, ?_⟩
  rcases h.2 with h0 | ⟨g, cap, cur, hv, hg, hh, r⟩
  · exact .inl h0
  · exact .inr ⟨g, cap, cur, hv, hg, (hb.block g (Array.getElem?_eq_some_iff.1 hh).1).trans hh, r⟩
theorem own_mono {w : World} {base base' e size n : Nat} {v : Value} {xs : List Value} (h : w.ownsRow base e size v n xs) (hb : base' ≤ base) : w.ownsRow base' e size v n xs := by
  refine ⟨h.1, ?_⟩
  rcases h.2 with h0 | ⟨g, cap, cur, hv, hg, r⟩
  · exact .inl h0
  · exact .inr ⟨g, cap, cur, hv, Nat.le_trans hb hg, r⟩
theorem Rows2.keep {w w' : World} {base : Nat} {v : Value} {xss : List (List Int)} (h : Rows2 w base v xss) (hb : Below w.heap.size w w') : Rows2 w' base v xss := by
  obtain ⟨vals, hl, ho, hv⟩ := h
  exact ⟨vals, hl, own_keep ho hb, fun j hj => (hv j hj).keep hb⟩
theorem Rows2.mono {w : World} {base base' : Nat} {v : Value} {xss : List (List Int)} (h : Rows2 w base v xss) (hb : base' ≤ base) : Rows2 w base' v xss := by
  obtain ⟨vals, hl, ho, hv⟩ := h
  exact ⟨vals, hl, own_mono ho hb, hv⟩
/-- Another kind of row has grown: this one is as it was. -/
theorem OwnInts.other {w w' : World} {base base2 n : Nat} {v u : Value} {xs : List Int} {ys : List Value} (h : OwnInts w base v xs) (ho : w.ownsRow base2 22 1 u n ys) (hg : w.grownBy w' u.ownBlock) : OwnInts w' base v xs := by
  refine World.ownsRow.kept h hg ?_
  rcases h.2 with ⟨rfl, _⟩ | ⟨g, cap, cur, rfl, _, hh, _⟩
  · exact .inl rfl
  · right
    rcases ho.2 with ⟨rfl, _⟩ | ⟨g2, cap2, cur2, rfl, _, hh2, _⟩
    · simp [Value.ownBlock]
    · simp only [Value.ownBlock, ne_eq, Option.some.injEq]
      intro e
      rw [e, hh2] at hh
      injection hh with hh
      injection hh with _ hh
      exact absurd hh (by decide)

/-- What lies at place j. -/
theorem Rows2.at {w : World} {base : Nat} {v : Value} {xss : List (List Int)} (h : Rows2 w base v xss) {j : Nat} (hj : j < xss.length) :
    ∃ g cap u, v = .slice (some ⟨g, 0, none⟩) xss.length cap ∧ w.cell? ⟨g, j, none⟩ = some u ∧ OwnInts w 0 u (xss.getD j []) := by
  obtain ⟨vals, hl, ho, hv⟩ := h
  rcases ho.2 with ⟨_, h0⟩ | ⟨g, cap, cur, rfl, _, hh, _⟩
  · omega
  · refine ⟨g, cap, vals.getD j (.slice none 0 0), by rw [hl], ?_, hv j hj⟩
    rw [World.ownsRow.cellAt ho j (by omega), List.getD_eq_getElem?_getD, List.getElem?_eq_getElem (by omega)]
    rfl
/-- The row's own length. -/
theorem Rows2.form {w : World} {base : Nat} {v : Value} {xss : List (List Int)} (h : Rows2 w base v xss) : ∃ A c, v = .slice A xss.length c ∧ Cap xss.length c := by
  obtain ⟨vals, hl, ho, _⟩ := h
  rw [hl] at ho
  rcases ho.2 with ⟨rfl, h0⟩ | ⟨g, cap, cur, rfl, _, _, h1, h2, _⟩
  · exact ⟨none, 0, by rw [h0], by rw [h0]; exact ⟨Nat.le_refl _, by omega⟩⟩
  · exact ⟨_, _, rfl, h1, by unfold maxLen at h2; exact h2⟩

theorem cell_oneV (W : World) (y : Value) : ∀ j u, [y][j]? = some u → (W.alloc (.cells #[y] 22)).cell? ((⟨W.heap.size, 0, none⟩ : Addr).add j) = some u := by
  intro j u hj
  match j, hj with
  | 0, hj => simp at hj; subst hj; simp [Addr.add]
theorem own_oneCell {w : World} {base : Nat} {v : Value} {xs : List Int} (h : OwnInts w base v xs) : v.oneCell' = true := by
  obtain ⟨A, c, rfl, _⟩ := h.ints
  rfl

/-- Two rows that do not lie in one block. -/
def ApartV (v u : Value) : Prop := ∀ k, v.ownBlock = some k → u.ownBlock ≠ some k
theorem Rows2.other {w w' : World} {base base2 n : Nat} {v u : Value} {xss : List (List Int)} {ys : List Value} (h : Rows2 w base v xss) (ho : w.ownsRow base2 22 1 u n ys) (ha : ApartV u v) (hg : w.grownBy w' u.ownBlock) : Rows2 w' base v xss := by
  obtain ⟨vals, hl, hv, he⟩ := h
  refine ⟨vals, hl, World.ownsRow.kept hv hg ?_, fun j hj => (he j hj).other ho hg⟩
  rcases e : v.ownBlock with _ | k
  · exact .inl rfl
  · right
    intro e2
    exact ha k e2.symm e
theorem Rows2.lt {w : World} {base : Nat} {v : Value} {xss : List (List Int)} (h : Rows2 w base v xss) : ∀ k, v.ownBlock = some k → base ≤ k ∧ k < w.heap.size := by
  obtain ⟨vals, _, hv, _⟩ := h
  exact World.ownsRow.lt hv

/-- 'out = append(out, y)', y a row of ints: the world has laid y in a block of its own first; another row of rows stays as it was. -/
theorem wpList_appRow {ops : Array Oper} {rest : List Oper} {o : Oper} {a : Act} {Q : Exit → Act → World → Prop} (W : World) (hgd : o.guard = none) (s x : Operand)
    (ho : o.op = .call { callee := .builtin .append, args := #[s, x], argTypes := #[47, 47] })
    (base : Nat) (v : Value) (xss : List (List Int)) (y : Value) (ys : List Int) (hs : a.eval s = v) (hx : a.eval x = .slice (some ⟨W.heap.size, 0, none⟩) 1 1) (hown : Rows2 W base v xss) (hy : OwnInts W 0 y ys)
    (v1 : Value) (L : List (List Int)) (hv1 : Rows2 W 0 v1 L) (hap : ApartV v v1)
    (hlen : xss.length ≤ 1000000000000) (hbase : base ≤ W.heap.size)
    (h : ∀ v' w', Rows2 w' base v' (xss ++ [ys]) → Rows2 w' 0 v1 L → ApartV v' v1 → Below base W w' → wpList Try.prog ops Q rest (a.put o.dst v') w') :
    wpList Try.prog ops Q (o :: rest) a (W.alloc (.cells #[y] 22)) := by
  obtain ⟨i0, hi, hz0, hz1, hz2⟩ := info_parts infoRow
  obtain ⟨vals, hl, hv, he⟩ := hown
  refine wpList_append_own_at _ hgd s x 47 ho base 22 i0 (.slice none 0 0) 1 24 Try.underlying47 hi hz0 hz1 hz2 rfl (by decide) v vals.length vals hs (World.ownsRow.alloc hv _)
    ⟨W.heap.size, 0, none⟩ 1 1 [y] hx rfl (cell_oneV W y) (by intro u hu; simp at hu; subst hu; exact own_oneCell hy) (by unfold maxLen; omega) (by omega) (by simp; omega) ?_
  intro v' w' h1 h2 _ hat
  have hg : W.grownBy w' v.ownBlock := ⟨h2.os, h2.tape, h2.output, Nat.le_trans (by simp) h2.size, fun k hk hne => (h2.block k (by simp; omega) hne).trans (Below.heap_alloc W _ k hk)⟩
  refine h v' w' ⟨vals ++ [y], by simp [hl], by simpa using h1, fun j hj => ?_⟩ (hv1.other hv hap hg) ?_ ?_
  · rw [List.length_append] at hj
    simp only [List.length_cons, List.length_nil] at hj
    by_cases e : j < xss.length
    · have := (he j e).other hv hg
      simpa [List.getD_eq_getElem?_getD, List.getElem?_append_left (hl ▸ e), List.getElem?_append_left e] using this
    · have ej : j = xss.length := by omega
      subst ej
      have := hy.other hv hg
      rw [List.getD_eq_getElem?_getD, List.getD_eq_getElem?_getD, List.getElem?_append_right (by omega), List.getElem?_append_right (Nat.le_refl _), hl]
      simpa using this
  · intro k hk
    rcases hat with e | e
    · exact hap k (by rw [← e]; exact hk)
    · intro e2
      have h3 := hv1.lt k e2
      rw [e] at hk
      injection hk with hk
      have h4 : (W.alloc (.cells #[y] 22)).heap.size = W.heap.size + 1 := by simp
      omega
  · refine ⟨hg.os, hg.tape, hg.output, hg.size, fun k hk => hg.block k (by omega) (fun e => ?_)⟩
    have := World.ownsRow.lt hv k e.symm
    omega

/-- 'append([]int{X}, ys...)'. -/
theorem wpList_consL {ops : Array Oper} {rest : List Oper} {o : Oper} {a : Act} {Q : Exit → Act → World → Prop} (W : World) (hgd : o.guard = none) (s x : Operand)
    (ho : o.op = .call { callee := .builtin .append, args := #[s, x], argTypes := #[22, 22] })
    (X : Int) (hs : a.eval s = .slice (some ⟨W.heap.size, 0, none⟩) 1 1) (y : Value) (ys : List Int) (hx : a.eval x = y) (hy : OwnInts W 0 y ys) (hlen : ys.length ≤ 1000000)
    (h : ∀ v' w', OwnInts w' W.heap.size v' (X :: ys) → Below W.heap.size W w' → wpList Try.prog ops Q rest (a.put o.dst v') w') :
    wpList Try.prog ops Q (o :: rest) a (W.alloc (.cells #[.int .i64 X] 3)) := by
  have hO : OwnInts (W.alloc (.cells #[.int .i64 X] 3)) W.heap.size (.slice (some ⟨W.heap.size, 0, none⟩) 1 1) [X] := World.ownsRow_lit W #[.int .i64 X] 1 (Nat.le_refl _) (by unfold maxLen; omega) rfl
  have hB := below_alloc W (.cells #[.int .i64 X] 3)
  rcases hy.2 with ⟨rfl, h0⟩ | ⟨g, cap, cur, rfl, _, hh, _⟩
  · have hy0 : ys = [] := List.eq_nil_of_length_eq_zero h0
    subst hy0
    obtain ⟨i0, hi, _⟩ := info_parts infoInt
    refine wpList_append_own_none hgd s x 22 ho W.heap.size 3 i0 1 Try.underlying22 hi _ 1 _ hs hO hx ?_
    exact h _ _ hO hB
  · obtain ⟨A', c', e, hI, _⟩ := hy.ints
    injection e with e1 _ e3
    subst e1
    subst e3
    refine wpList_appN _ hgd s x ho W.heap.size _ [X] hs _ _ _ ys hx hO (hI.keep hB) (by simp; omega) (by simp) ?_
    intro v' w' h1 _ h3
    exact h v' w' h1 (hB.trans h3)

/-- One row, which is nil. -/
theorem Rows2.one (w : World) : Rows2 (w.alloc (.cells #[.slice none 0 0] 22)) w.heap.size (.slice (some ⟨w.heap.size, 0, none⟩) 1 1) [[]] :=
  ⟨[.slice none 0 0], rfl, World.ownsRow_lit w #[.slice none 0 0] 1 (Nat.le_refl _) (by unfold maxLen; omega) rfl, fun j hj => by
    have : j = 0 := by simpa using hj
    subst this
    exact OwnInts.nil _ _⟩

end Go.Proofs.Ytmdpfadfimodjaa
