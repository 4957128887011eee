/-
  Rows of rows whose outer block the call made, the rows only read; appends.
-/
import Derived.Test.YtbcjfiobggggjaaGrid
namespace Go.Proofs.Ytbcjfiobggggjaa
open Go.RowKit

/-! ### Rows whose outer block the call made, the rows only read -/
def ORows (w : World) (base : Nat) (v : Value) (T : List (List Int)) : Prop :=
  ∃ vals : List Value, vals.length = T.length ∧ w.ownsRow base 23 1 v T.length vals ∧ ∀ j, j < T.length → ∃ Aj nj cj, vals.getD j (.slice none 0 0) = .slice Aj nj cj ∧ Ints w Aj nj (T.getD j []) ∧ Cap nj cj ∧ (Aj = none → cj = 0)
theorem ORows.keep {w w' : World} {base : Nat} {v : Value} {T : List (List Int)} (h : ORows w base v T) (hb : Below w.heap.size w w') : ORows w' base v T := by
  obtain ⟨vals, hl, ho, hr⟩ := h
  refine ⟨vals, hl, own_keep ho hb, fun j hj => ?_⟩
  obtain ⟨Aj, nj, cj, h1, h2, h3⟩ := hr j hj
  exact ⟨Aj, nj, cj, h1, h2.keep hb, h3⟩
theorem ORows.mono {w : World} {base base' : Nat} {v : Value} {T : List (List Int)} (h : ORows w base v T) (hb : base' ≤ base) : ORows w base' v T := by
  obtain ⟨vals, hl, ho, hr⟩ := h
  exact ⟨vals, hl, own_mono ho hb, hr⟩
theorem ORows.rrows {w : World} {base : Nat} {v : Value} {T : List (List Int)} (h : ORows w base v T) : ∃ A c, v = .slice A T.length c ∧ RRows w A T.length T ∧ Cap T.length c ∧ (A = none → c = 0) := by
  obtain ⟨vals, hl, ho, hr⟩ := h
  rcases ho.2 with ⟨rfl, h0⟩ | ⟨g, cap, cur, rfl, hb, hh, hn, hm, _⟩
  · have : T = [] := List.eq_nil_of_length_eq_zero h0
    subst this
    exact ⟨none, 0, rfl, RRows.nil _ _, ⟨Nat.le_refl _, by omega⟩, fun _ => rfl⟩
  · refine ⟨some ⟨g, 0, none⟩, cap, rfl, ⟨rfl, fun _ => ⟨g, 0, rfl, (Array.getElem?_eq_some_iff.1 hh).1, fun j hj => ?_⟩⟩, ⟨hn, by unfold maxLen at hm; exact hm⟩, fun e => by cases e⟩
    obtain ⟨Aj, nj, cj, h1, h2, h3, h4⟩ := hr j hj
    refine ⟨Aj, nj, cj, ?_, h2, h3, h4⟩
    rw [Nat.zero_add, World.ownsRow.cellAt ho j (by omega), getD_vals (by rw [hl]; exact hj), h1]

/-- 'append(out, rows...)', out the call's own, rows only read. -/
theorem wpList_appRows {ops : Array Oper} {rest : List Oper} {o : Oper} {a : Act} {Q : Exit → Act → World → Prop} (W : World) (hgd : o.guard = none) (s x : Operand)
    (ho : o.op = .call { callee := .builtin .append, args := #[s, x], argTypes := #[22, 22] })
    (base : Nat) (v : Value) (T : List (List Int)) (hs : a.eval s = v) (A : Option Addr) (n c : Nat) (U : List (List Int)) (hx : a.eval x = .slice A n c) (hown : ORows W base v T) (hI : RRows W A n U) (hcap : A = none → c = 0)
    (hfull : ∀ g n' cap, v = .slice (some ⟨g, 0, none⟩) n' cap → cap = n') (hlen : T.length + n ≤ 1000000000) (hbase : base ≤ W.heap.size)
    (h : ∀ v' w', ORows w' base v' (T ++ U) → Below base W w' → wpList Try.prog ops Q rest (a.put o.dst v') w') :
    wpList Try.prog ops Q (o :: rest) a W := by
  obtain ⟨i0, hi, hz0, hz1, hz2⟩ := info_parts infoRow
  obtain ⟨vals, hl, hv, hr⟩ := hown
  rcases A with _ | ad
  · have hn0 : n = 0 := by
      rcases Nat.eq_zero_or_pos n with h0 | h0
      · exact h0
      · obtain ⟨b, o', e, _⟩ := hI.row h0
        cases e
    subst hn0
    have hc0 := hcap rfl
    subst hc0
    have hy0 : U = [] := List.eq_nil_of_length_eq_zero hI.len
    subst hy0
    refine wpList_append_own_none hgd s x 22 ho base 23 i0 1 Try.underlying22 hi _ T.length _ hs hv hx ?_
    refine h _ _ ?_ (Below.refl _ _)
    rw [List.append_nil]
    exact ⟨vals, hl, hv, hr⟩
  · obtain ⟨news, hnews⟩ : ∃ news : List Value, news = (List.range n).map (fun j => (W.cell? (ad.add j)).getD (.slice none 0 0)) := ⟨_, rfl⟩
    have hnl : news.length = n := by rw [hnews]; simp
    have hrow : ∀ j, j < n → ∃ Aj nj cj, W.cell? (ad.add j) = some (.slice Aj nj cj) ∧ Ints W Aj nj (U.getD j []) ∧ Cap nj cj ∧ (Aj = none → cj = 0) := by
      intro j hj
      obtain ⟨b, off, e, _, hc⟩ := hI.row (by omega)
      injection e with e
      subst e
      have ha : (⟨b, off, none⟩ : Addr).add j = ⟨b, off + j, none⟩ := by unfold Addr.add; split <;> simp_all
      rw [ha]
      exact hc j hj
    have hat : ∀ j, j < n → news[j]? = some ((W.cell? (ad.add j)).getD (.slice none 0 0)) := by
      intro j hj
      rw [hnews, List.getElem?_map, List.getElem?_range hj]
      rfl
    refine wpList_append_own _ hgd s x 22 ho base 23 i0 (.slice none 0 0) 1 24 Try.underlying22 hi hz0 hz1 hz2 rfl (by decide) v T.length vals hs hv
      ad n c news hx (by rw [hnl, Nat.mul_one]) (fun j u hj => ?_) (fun u hu => ?_) (by unfold maxLen; omega) (by omega) hbase ?_
    · have hjn : j < n := by
        rcases Nat.lt_or_ge j n with h1 | h1
        · exact h1
        · rw [List.getElem?_eq_none (by omega)] at hj
          cases hj
      obtain ⟨Aj, nj, cj, h1, _⟩ := hrow j hjn
      rw [hat j hjn, h1] at hj
      rw [h1]
      exact hj
    · obtain ⟨j, hj, rfl⟩ := List.getElem_of_mem hu
      rw [hnl] at hj
      obtain ⟨Aj, nj, cj, h1, _⟩ := hrow j hj
      have h2 := hat j hj
      rw [List.getElem?_eq_getElem (by omega), h1] at h2
      replace h2 := Option.some.inj h2
      rw [h2]
      rfl
    · intro v' w' h1 h2 _
      have hB : Below base W w' := ⟨h2.os, h2.tape, h2.output, h2.size, fun k hk => h2.block k (by omega) (fun e => by have := World.ownsRow.lt hv k e.symm; omega)⟩
      have hkeep : ∀ {Aj nj} {r : List Int}, Ints W Aj nj r → Ints w' Aj nj r := by
        intro Aj nj r hr'
        refine ⟨hr'.len, fun hp => ?_⟩
        obtain ⟨b, off, e, hlt, hc⟩ := hr'.row hp
        refine ⟨b, off, e, Nat.lt_of_lt_of_le hlt h2.size, fun j hj => ?_⟩
        have hcj := hc j hj
        rw [World.cell?_of_block (a := ⟨b, off + j, none⟩) (h2.block b hlt (fun e2 => ?_))]
        · exact hcj
        · rcases hv.2 with ⟨rfl, _⟩ | ⟨g, cap, cur, rfl, _, hh, _, _, hsz, htk⟩
          · cases e2
          · simp only [Value.ownBlock, Option.some.injEq] at e2
            subst e2
            have hcp := hfull b T.length cap rfl
            subst hcp
            rw [Nat.mul_one] at hsz htk
            rw [List.take_of_length_le (by simp [hsz])] at htk
            have hcv : (W.cell? ⟨b, off + j, none⟩) = cur[off + j]? := by simp [World.cell?, hh]
            rw [hcv] at hcj
            have hlt2 : off + j < T.length := by
              have := (Array.getElem?_eq_some_iff.1 hcj).1
              omega
            obtain ⟨Aj, nj, cj, k1, _⟩ := hr (off + j) hlt2
            have hv2 : vals[off + j]? = some (.int .i64 (r.getD j 0)) := by rw [← htk, Array.getElem?_toList]; exact hcj
            rw [List.getD_eq_getElem?_getD, hv2] at k1
            cases k1
      refine h v' w' ⟨vals ++ news, by rw [List.length_append, List.length_append, hl, hnl, hI.len], by rw [List.length_append, hI.len]; exact h1, fun j hj => ?_⟩ hB
      rw [List.length_append, hI.len] at hj
      by_cases e : j < T.length
      · obtain ⟨Aj, nj, cj, k1, k2, k3⟩ := hr j e
        refine ⟨Aj, nj, cj, ?_, ?_, k3⟩
        · rw [List.getD_eq_getElem?_getD, List.getElem?_append_left (by omega), ← List.getD_eq_getElem?_getD]
          exact k1
        · rw [List.getD_eq_getElem?_getD, List.getElem?_append_left e, ← List.getD_eq_getElem?_getD]
          exact hkeep k2
      · obtain ⟨Aj, nj, cj, k1, k2, k3⟩ := hrow (j - T.length) (by omega)
        refine ⟨Aj, nj, cj, ?_, ?_, k3⟩
        · rw [List.getD_eq_getElem?_getD, List.getElem?_append_right (by omega), hl, hat _ (by omega), k1]
          rfl
        · rw [List.getD_eq_getElem?_getD, List.getElem?_append_right (by omega), ← List.getD_eq_getElem?_getD]
          exact hkeep k2

/-- The same in a region that draws. -/
theorem step_appRows {ops : Array Oper} {o : Oper} {a : Act} {K : Act → World → Prop} {Q : Exit → Act → World → Prop} {E : Prop} (W : World) (hgd : o.guard = none) (s x : Operand)
    (ho : o.op = .call { callee := .builtin .append, args := #[s, x], argTypes := #[22, 22] })
    (base : Nat) (v : Value) (T : List (List Int)) (hs : a.eval s = v) (ad : Addr) (n c : Nat) (U : List (List Int)) (hx : a.eval x = .slice (some ad) n c) (hown : ORows W base v T) (hI : RRows W (some ad) n U)
    (hfull : ∀ g n' cap, v = .slice (some ⟨g, 0, none⟩) n' cap → cap = n') (hlen : T.length + n ≤ 1000000000) (hbase : base ≤ W.heap.size)
    (h : ∀ v' w', ORows w' base v' (T ++ U) → Below base W w' → K (a.put o.dst v') w') :
    if Region.wanted o (yielded ops a.tmps) = true then Oper.wp Try.prog o a W K Q else E := by
  have hwn : Region.wanted o (yielded ops a.tmps) = true := by simp [Region.wanted, hgd]
  rw [if_pos hwn]
  obtain ⟨i0, hi, hz0, hz1, hz2⟩ := info_parts infoRow
  obtain ⟨vals, hl, hv, hr⟩ := hown
  obtain ⟨news, hnews⟩ : ∃ news : List Value, news = (List.range n).map (fun j => (W.cell? (ad.add j)).getD (.slice none 0 0)) := ⟨_, rfl⟩
  have hnl : news.length = n := by rw [hnews]; simp
  have hrow : ∀ j, j < n → ∃ Aj nj cj, W.cell? (ad.add j) = some (.slice Aj nj cj) ∧ Ints W Aj nj (U.getD j []) ∧ Cap nj cj ∧ (Aj = none → cj = 0) := by
    intro j hj
    obtain ⟨b, off, e, _, hc⟩ := hI.row (by omega)
    injection e with e
    subst e
    have ha : (⟨b, off, none⟩ : Addr).add j = ⟨b, off + j, none⟩ := by unfold Addr.add; split <;> simp_all
    rw [ha]
    exact hc j hj
  have hat : ∀ j, j < n → news[j]? = some ((W.cell? (ad.add j)).getD (.slice none 0 0)) := by
    intro j hj
    rw [hnews, List.getElem?_map, List.getElem?_range hj]
    rfl
  refine wp_append_own _ s x 22 ho base 23 i0 (.slice none 0 0) 1 24 Try.underlying22 hi hz0 hz1 hz2 rfl (by decide) v T.length vals hs hv
    ad n c news hx (by rw [hnl, Nat.mul_one]) (fun j u hj => ?_) (fun u hu => ?_) (by unfold maxLen; omega) (by omega) hbase ?_
  · have hjn : j < n := by
      rcases Nat.lt_or_ge j n with h1 | h1
      · exact h1
      · rw [List.getElem?_eq_none (by omega)] at hj
        cases hj
    obtain ⟨Aj, nj, cj, h1, _⟩ := hrow j hjn
    rw [hat j hjn, h1] at hj
    rw [h1]
    exact hj
  · obtain ⟨j, hj, rfl⟩ := List.getElem_of_mem hu
    rw [hnl] at hj
    obtain ⟨Aj, nj, cj, h1, _⟩ := hrow j hj
    have h2 := hat j hj
    rw [List.getElem?_eq_getElem (by omega), h1] at h2
    replace h2 := Option.some.inj h2
    rw [h2]
    rfl
  · intro v' w' h1 h2 _
    have hB : Below base W w' := ⟨h2.os, h2.tape, h2.output, h2.size, fun k hk => h2.block k (by omega) (fun e => by have := World.ownsRow.lt hv k e.symm; omega)⟩
    have hkeep : ∀ {Aj nj} {r : List Int}, Ints W Aj nj r → Ints w' Aj nj r := by
      intro Aj nj r hr'
      refine ⟨hr'.len, fun hp => ?_⟩
      obtain ⟨b, off, e, hlt, hc⟩ := hr'.row hp
      refine ⟨b, off, e, Nat.lt_of_lt_of_le hlt h2.size, fun j hj => ?_⟩
      have hcj := hc j hj
      rw [World.cell?_of_block (a := ⟨b, off + j, none⟩) (h2.block b hlt (fun e2 => ?_))]
      · exact hcj
      · rcases hv.2 with ⟨rfl, _⟩ | ⟨g, cap, cur, rfl, _, hh, _, _, hsz, htk⟩
        · cases e2
        · simp only [Value.ownBlock, Option.some.injEq] at e2
          subst e2
          have hcp := hfull b T.length cap rfl
          subst hcp
          rw [Nat.mul_one] at hsz htk
          rw [List.take_of_length_le (by simp [hsz])] at htk
          have hcv : (W.cell? ⟨b, off + j, none⟩) = cur[off + j]? := by simp [World.cell?, hh]
          rw [hcv] at hcj
          have hlt2 : off + j < T.length := by
            have := (Array.getElem?_eq_some_iff.1 hcj).1
            omega
          obtain ⟨Aj, nj, cj, k1, _⟩ := hr (off + j) hlt2
          have hv2 : vals[off + j]? = some (.int .i64 (r.getD j 0)) := by rw [← htk, Array.getElem?_toList]; exact hcj
          rw [List.getD_eq_getElem?_getD, hv2] at k1
          cases k1
    refine h v' w' ⟨vals ++ news, by rw [List.length_append, List.length_append, hl, hnl, hI.len], by rw [List.length_append, hI.len]; exact h1, fun j hj => ?_⟩ hB
    rw [List.length_append, hI.len] at hj
    by_cases e : j < T.length
    · obtain ⟨Aj, nj, cj, k1, k2, k3⟩ := hr j e
      refine ⟨Aj, nj, cj, ?_, ?_, k3⟩
      · rw [List.getD_eq_getElem?_getD, List.getElem?_append_left (by omega), ← List.getD_eq_getElem?_getD]
        exact k1
      · rw [List.getD_eq_getElem?_getD, List.getElem?_append_left e, ← List.getD_eq_getElem?_getD]
        exact hkeep k2
    · obtain ⟨Aj, nj, cj, k1, k2, k3⟩ := hrow (j - T.length) (by omega)
      refine ⟨Aj, nj, cj, ?_, ?_, k3⟩
      · rw [List.getD_eq_getElem?_getD, List.getElem?_append_right (by omega), hl, hat _ (by omega), k1]
        rfl
      · rw [List.getD_eq_getElem?_getD, List.getElem?_append_right (by omega), ← List.getD_eq_getElem?_getD]
        exact hkeep k2

end Go.Proofs.Ytbcjfiobggggjaa
