/-
  Rows of rows, all of it the call's own: what comes of an append, and of other memory that turns.
-/
import Derived.Test.YtbcjfiobggggjaaPartF
import Derived.Test.YtbcjfiobggggjaaORow
namespace Go.Proofs.Ytbcjfiobggggjaa
open Go.RowKit

/-- v is the call's own row of rows; each of them lies in the call's own memory too. -/
def BRows (w : World) (base : Nat) (v : Value) (T : List (List Int)) : Prop :=
  ∃ vals : List Value, vals.length = T.length ∧ w.ownsRow base 23 1 v vals.length vals ∧ ∀ j, j < T.length → OwnInts w base (vals.getD j (.slice none 0 0)) (T.getD j [])

theorem BRows.nil (w : World) (base : Nat) : BRows w base (.slice none 0 0) [] := ⟨[], rfl, World.ownsRow_nil w base 23 1, fun _ hj => absurd hj (Nat.not_lt_zero _)⟩
theorem BRows.keep {w w' : World} {base : Nat} {v : Value} {T : List (List Int)} (h : BRows w base v T) (hb : Below w.heap.size w w') : BRows w' base v T := by
  obtain ⟨vals, hl, ho, hv⟩ := h
  exact ⟨vals, hl, own_keep ho hb, fun j hj => (hv j hj).keep hb⟩
theorem BRows.drewN {w : World} {base : Nat} {v : Value} {T : List (List Int)} (h : BRows w base v T) (n : Nat) : BRows (w.drewN n) base v T := h
theorem BRows.mono {w : World} {base base' : Nat} {v : Value} {T : List (List Int)} (h : BRows w base v T) (hb : base' ≤ base) : BRows w base' v T := by
  obtain ⟨vals, hl, ho, hv⟩ := h
  exact ⟨vals, hl, own_mono ho hb, fun j hj => (hv j hj).mono hb⟩
theorem BRows.rows2 {w : World} {base : Nat} {v : Value} {T : List (List Int)} (h : BRows w base v T) : Rows2 w base v T := by
  obtain ⟨vals, hl, ho, hv⟩ := h
  exact ⟨vals, hl, ho, fun j hj => (hv j hj).mono (Nat.zero_le _)⟩
theorem BRows.form {w : World} {base : Nat} {v : Value} {T : List (List Int)} (h : BRows w base v T) : ∃ A c, v = .slice A T.length c ∧ Cap T.length c := h.rows2.form
/-- What lies at place j. -/
theorem BRows.at {w : World} {base : Nat} {v : Value} {T : List (List Int)} (h : BRows w base v T) {j : Nat} (hj : j < T.length) :
    ∃ g cap u, v = .slice (some ⟨g, 0, none⟩) T.length cap ∧ base ≤ g ∧ g < w.heap.size ∧ w.cell? ⟨g, j, none⟩ = some u ∧ w.frozen? ⟨g, j, none⟩ = false ∧ OwnInts w base u (T.getD j []) := by
  obtain ⟨vals, hl, ho, hv⟩ := h
  have ho' := ho
  rcases ho'.2 with ⟨_, h0⟩ | ⟨g, cap, cur, rfl, hb, hh, _⟩
  · omega
  · refine ⟨g, cap, vals.getD j (.slice none 0 0), by rw [hl], hb, (Array.getElem?_eq_some_iff.1 hh).1, ?_, World.ownsRow.frozenAt ho j, hv j hj⟩
    rw [World.ownsRow.cellAt ho j (by omega), List.getD_eq_getElem?_getD, List.getElem?_eq_getElem (by omega)]
    rfl
/-- As rows that are only read. -/
theorem BRows.orows {w : World} {base : Nat} {v : Value} {T : List (List Int)} (h : BRows w base v T) : ORows w base v T := by
  obtain ⟨vals, hl, ho, hv⟩ := h
  rw [hl] at ho
  refine ⟨vals, hl, ho, fun j hj => ?_⟩
  have hw := hv j hj
  obtain ⟨A, c, e, hI, hc⟩ := hw.ints
  refine ⟨A, _, c, e, hI, hc, fun e0 => ?_⟩
  rcases hw.2 with ⟨e1, _⟩ | ⟨g, cap, cur, e1, _⟩
  · rw [e1] at e
    injection e with _ _ e3
    exact e3.symm
  · rw [e1, e0] at e
    injection e with e2
    cases e2
theorem BRows.rrows {w : World} {base : Nat} {v : Value} {T : List (List Int)} (h : BRows w base v T) : ∃ A c, v = .slice A T.length c ∧ RRows w A T.length T ∧ Cap T.length c ∧ (A = none → c = 0) := h.orows.rrows
theorem BRows.lt {w : World} {base : Nat} {v : Value} {T : List (List Int)} (h : BRows w base v T) : ∀ k, v.ownBlock = some k → base ≤ k ∧ k < w.heap.size := h.rows2.lt

theorem own_other {w w' : World} {base base2 n m e e2 s1 s2 : Nat} {v u : Value} {xs ys : List Value} (h : w.ownsRow base e s1 v n xs) (ho : w.ownsRow base2 e2 s2 u m ys) (hne : e ≠ e2) (hg : w.grownBy w' u.ownBlock) : w'.ownsRow base e s1 v n xs := by
  refine World.ownsRow.kept h hg ?_
  rcases h.2 with ⟨rfl, _⟩ | ⟨g, cap, cur, rfl, _, hh, _⟩
  · exact .inl rfl
  · right
    rcases ho.2 with ⟨rfl, _⟩ | ⟨g2, cap2, cur2, rfl, _, hh2, _⟩
    · simp [Value.ownBlock]
    · simp only [Value.ownBlock, ne_eq, Option.some.injEq]
      intro e9
      rw [e9, hh2] at hh
      injection hh with hh
      injection hh with _ hh
      exact absurd hh.symm hne

/-- A block of numbers, not of rows, has turned. -/
theorem BRows.inner {w w' : World} {base base2 m : Nat} {v u : Value} {T : List (List Int)} {ys : List Value} (h : BRows w base v T) (ho : w.ownsRow base2 23 1 u m ys) (ha : ApartV u v) (hg : w.grownBy w' u.ownBlock) : BRows w' base v T := by
  obtain ⟨vals, hl, hv, he⟩ := h
  refine ⟨vals, hl, World.ownsRow.kept hv hg ?_, fun j hj => (he j hj).other ho hg⟩
  rcases e : v.ownBlock with _ | k
  · exact .inl rfl
  · right
    intro e2
    exact ha k e2.symm e

/-- 'out = append(out, y)', all of it the call's own; what else was there is as it was. -/
theorem wpList_appBR {ops : Array Oper} {rest : List Oper} {o : Oper} {a : Act} {Q : Exit → Act → World → Prop} (W : World) (hgd : o.guard = none) (s x : Operand)
    (ho : o.op = .call { callee := .builtin .append, args := #[s, x], argTypes := #[22, 22] })
    (base : Nat) (v : Value) (T : List (List Int)) (y : Value) (ys : List Int) (hs : a.eval s = v) (hx : a.eval x = .slice (some ⟨W.heap.size, 0, none⟩) 1 1) (hown : BRows W base v T) (hy : OwnInts W base y ys)
    (hlen : T.length ≤ 1000000000000) (hbase : base ≤ W.heap.size)
    (h : ∀ v' w', BRows w' base v' (T ++ [ys]) → W.grownBy w' v.ownBlock → Below base W w' → wpList Try.prog ops Q rest (a.put o.dst v') w') :
    wpList Try.prog ops Q (o :: rest) a (W.alloc (.cells #[y] 23)) := by
  obtain ⟨i0, hi, hz0, hz1, hz2⟩ := info_parts infoRow
  obtain ⟨vals, hl, hv, he⟩ := hown
  refine wpList_append_own _ hgd s x 22 ho base 23 i0 (.slice none 0 0) 1 24 Try.underlying22 hi hz0 hz1 hz2 rfl (by decide) v vals.length vals hs (World.ownsRow.alloc hv _)
    ⟨W.heap.size, 0, none⟩ 1 1 [y] hx rfl (cell_oneV W y) (by intro u hu; simp at hu; subst hu; exact own_oneCell hy) (by unfold maxLen; omega) (by omega) (by simp; omega) ?_
  intro v' w' h1 h2 _
  have hg : W.grownBy w' v.ownBlock := ⟨h2.os, h2.tape, h2.output, Nat.le_trans (by simp) h2.size, fun k hk hne => (h2.block k (by simp; omega) hne).trans (Below.heap_alloc W _ k hk)⟩
  refine h v' w' ⟨vals ++ [y], by simp [hl], by simpa using h1, fun j hj => ?_⟩ hg ?_
  · rw [List.length_append] at hj
    simp only [List.length_cons, List.length_nil] at hj
    by_cases e : j < T.length
    · have := (he j e).other hv hg
      simpa [List.getD_eq_getElem?_getD, List.getElem?_append_left (hl ▸ e), List.getElem?_append_left e] using this
    · have ej : j = T.length := by omega
      subst ej
      have := hy.other hv hg
      rw [List.getD_eq_getElem?_getD, List.getD_eq_getElem?_getD, List.getElem?_append_right (by omega), List.getElem?_append_right (Nat.le_refl _), hl]
      simpa using this
  · refine ⟨hg.os, hg.tape, hg.output, hg.size, fun k hk => hg.block k (by omega) (fun e => ?_)⟩
    have := World.ownsRow.lt hv k e.symm
    omega

/-- '[][]int{y}'. -/
theorem BRows.one {w : World} {base : Nat} {y : Value} {ys : List Int} (hy : OwnInts w base y ys) (hb : base ≤ w.heap.size) : BRows (w.alloc (.cells #[y] 23)) base (.slice (some ⟨w.heap.size, 0, none⟩) 1 1) [ys] := by
  refine ⟨[y], rfl, own_mono (World.ownsRow_lit w #[y] 1 (Nat.le_refl _) (by unfold maxLen; omega) rfl) hb, fun j hj => ?_⟩
  have : j = 0 := by simp at hj; omega
  subst this
  exact hy.keep (below_alloc w _)

end Go.Proofs.Ytbcjfiobggggjaa
